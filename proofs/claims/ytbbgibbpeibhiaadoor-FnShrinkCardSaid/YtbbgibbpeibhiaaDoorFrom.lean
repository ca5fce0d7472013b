/-
  The contract of impl.matrixFrom, whatever function tells its entries.
-/
import Derived.Test.YtbbgibbpeibhiaaDoorBase
import Derived.Lib.Strings
namespace Go.Proofs.YtbbgibbpeibhiaaDoor.From
open Go.RowKit Go.Proofs.YtbbgibbpeibhiaaDoor.Plain Go.Proofs.YtbbgibbpeibhiaaDoor.Base

/-- what is asked of the function value: in every later world it tells the entry -/
def Tells (g : Nat) (lb : Array Value) (r c : Nat) (E : Nat → Nat → Bool) (w : World) : Prop :=
  ∀ (W : World) (x y : Nat), x < r → y < c → Below w.heap.size w W →
    Calls Tryd.prog g (#[.int .i64 (x : Int), .int .i64 (y : Int)] ++ lb) W fun e W' => e = .returned (.int .i64 (bitI (E x y))) ∧ Below W.heap.size W W'

theorem info5 : (Tryd.prog.info? 5).map (fun i => (i.zero, i.size, i.bytes)) = some (some (.int .u8 0), 1, 1) := by kernel_rfl

/-- the bytes as values -/
def vals (l : List UInt8) : List Value := l.map fun u => .int .u8 (u.toNat : Int)

/-- what a call left alone keeps what the call owns -/
theorem own_below {w w' : World} {base e size n : Nat} {v : Value} {xs : List Value} (h : w.ownsRow base e size v n xs) (hb : Below w.heap.size w w') : w'.ownsRow base e size v n xs := by
  have hg : w.grownBy w' none := ⟨hb.os, hb.tape, hb.output, hb.size, fun i hi _ => hb.block i hi⟩
  refine h.kept hg ?_
  cases v.ownBlock <;> simp

theorem Below.of_only {B : Nat} {w w' : World} (h : w.grownBy w' none) (hB : B ≤ w.heap.size) : Below B w w' :=
  ⟨h.os, h.tape, h.output, h.size, fun i hi => h.block i (by omega) (by simp)⟩
/-- the world with the result's block -/
abbrev w0 (w : World) : World := w.alloc (.cells #[.int .i64 0, .int .i64 0, .string ⟨#[]⟩] 24)
theorem below_w0 (w : World) : Below w.heap.size w (w0 w) := (Below.refl _ _).alloc (Nat.le_refl _) _
theorem w0_size (w : World) : (w0 w).heap.size = w.heap.size + 1 := by simp

/-- what the loops keep -/
def Keeps (w wr : World) (v : Value) (l : List UInt8) : Prop := wr.ownsRow (w.heap.size + 1) 5 1 v l.length (vals l) ∧ Below (w.heap.size + 1) (w0 w) wr

theorem conv_own {w : World} {base : Nat} {v : Value} {l : List UInt8} (h : w.ownsRow base 5 1 v l.length (vals l)) (hl : 1 ≤ l.length) :
    (convert 22 9 v).run Tryd.prog w = .ok (.string (str l)) w := by
  rcases h.2 with ⟨_, h0⟩ | ⟨g, cap, cur, rfl, _⟩
  · omega
  · refine run_convert_bytes_back w 22 9 5 ⟨g, 0, none⟩ cap l Tryd.underlying22 Tryd.underlying5 Tryd.underlying9 fun j hj => ?_
    exact h.cells rfl j _ (by simp [vals, List.getElem?_map, List.getElem?_eq_getElem hj])

theorem keeps_next {w w2 w3 : World} {v v3 : Value} {l : List UInt8} {b : Bool} (h : w2.ownsRow (w.heap.size + 1) 5 1 v l.length (vals l)) (hb : Below (w.heap.size + 1) (w0 w) w2) (o : Obj)
    (h3 : w3.ownsRow (w.heap.size + 1) 5 1 v3 (l.length + 1) (vals l ++ [.int .u8 ((dig b).toNat : Int)])) (hg : (w2.alloc o).grownBy w3 v.ownBlock) : Keeps w w3 v3 (l ++ [dig b]) := by
  refine ⟨by simpa [vals] using h3, (hb.alloc (by have := hb.size; simp at this; omega) o).grown hg (by have := hb.size; simp at this ⊢; omega) fun k hk => (h.lt k hk).1⟩

set_option maxHeartbeats 1000000 in
theorem from_any (g : Nat) (lb : Array Value) (r c : Nat) (hr : 1 ≤ r) (hr8 : r ≤ 8) (hc : 1 ≤ c) (hc8 : c ≤ 8) (E : Nat → Nat → Bool) (w : World)
    (eg : ∀ args W, (callFunc g args).run Tryd.prog W = .ok (.enter g args) W) (hT : Hid (Tells g lb r c E w)) :
    Calls Tryd.prog 35 #[.int .i64 (r : Int), .int .i64 (c : Int), .func (.func g) #[] lb] w fun e w' => e = .returned (.tuple #[mat r c (str (rowsB E r c)), .bool true]) ∧ Below w.heap.size w w' := by
  obtain ⟨i0, hi, hz0, hz1, hz2⟩ := info_parts info5
  have hmul := wrap_prod r c hr8 hc8
  obtain ⟨n, hn⟩ : ∃ n, r * c = n := ⟨_, rfl⟩
  have hn64 : n ≤ 64 := by rw [← hn]; exact prod_le hr8 hc8
  rw [hn] at hmul
  have HM := Lib.hid hmul
  clear hmul
  have HN := Lib.hid hn
  clear hn
  go_enter Tryd.func35, Tryd.ntmps35
  go_wp2_with (first | (go_at_call 60; refine (side_true _ ?_ ?_ _).mono ?_; omega; omega; rintro e w' ⟨rfl, rfl⟩) | (at_make; have X := HM.out; refine wpList_make_own _ rfl (.const (.int .i64 0)) (.tmp 22) 22 rfl (w.heap.size + 1) 5 i0 (.int .u8 0) 1 Tryd.underlying22 hi hz0 hz1 .i64 .i64 (wrap64 ((r : Int) * (c : Int))) n rfl rfl X ?b2 ?b3 ?b4 ?b5; go_must (case b2 => (rw [hz2]; omega)); go_must (case b3 => (unfold maxLen; omega)); go_must (case b4 => (simp; done)); go_must (clear X; intro w1 hown hgrow)))
  go_loopw [8, 25] (fun v x wr => ∃ (k : Nat), k ≤ r ∧ x = .int .i64 (k : Int) ∧ Keeps w wr v (rowsB E k c)) (fun _ x _ => r - (intOf x).toNat)
  case atStart => exact ⟨0, Nat.zero_le _, rfl, by simpa [rowsB_zero, vals] using hown, Below.of_only hgrow (by simp)⟩
  case round =>
    obtain ⟨k, hk, rfl, hkeep⟩ := hrel
    by_cases hlt : k < r
    · go_wp2_with fail
      go_loopw [8, 29] (fun v y wr => ∃ (j : Nat), j ≤ c ∧ y = .int .i64 (j : Int) ∧ Keeps w wr v (rowsB E k c ++ rowB E k j)) (fun _ y _ => c - (intOf y).toNat)
      case atStart => exact ⟨0, Nat.zero_le _, rfl, by rw [rowB_zero, List.append_nil]; exact hkeep⟩
      case round =>
        obtain ⟨j, hj, rfl, hkeep'⟩ := hrel
        by_cases hlt' : j < c
        · obtain ⟨hown1, hbel1⟩ := hkeep'
          have HO := Lib.hid hown1
          clear hown1 hkeep hown hgrow
          go_wp2_with fail
          refine (hT.out _ k j hlt hlt' ?_).mono ?_
          · exact (below_w0 w).trans (hbel1.mono (by omega))
          rintro e w2 ⟨rfl, hb2⟩
          have HO2 := Lib.hid (own_below HO.out hb2)
          have hbel2 : Below (w.heap.size + 1) (w0 w) w2 := hbel1.trans (hb2.mono (by have := hbel1.size; simp at this; omega))
          clear HO hb2
          have hlen : (rowsB E k c ++ rowB E k j).length ≤ 64 := by have := part_size E hr8 hc8 hlt hlt'; rwa [str_size] at this
          obtain ⟨b, hE⟩ : ∃ b, E k j = b := ⟨_, rfl⟩
          rw [hE]
          have HE := Lib.hid hE
          clear hE
          cases b
          · rw [bitI_false]
            go_wp2_with (at_builtin; have HH := HO2.out; refine wpList_append_own _ rfl (.tmp 32) (.tmp 39) 22 rfl (w.heap.size + 1) 5 i0 (.int .u8 0) 1 1 Tryd.underlying22 hi hz0 hz1 hz2 rfl (by decide) _ _ _ rfl (HH.alloc _) ⟨w2.heap.size, 0, none⟩ 1 1 [.int .u8 48] rfl rfl ?c1 ?c2 ?c3 ?c4 ?c5 ?c6; go_must (case c1 => exact (cell_one_new _ _ _)); go_must (case c2 => simp [Value.oneCell']); go_must (case c3 => (unfold maxLen; omega)); go_must (case c4 => omega); go_must (case c5 => (have := hbel2.size; simp at this ⊢; omega)); go_must (clear HH; intro v3 w3 hown3 hgrow3 _; have H3 := Lib.hid (keeps_next (b := false) HO2.out hbel2 _ hown3 hgrow3); clear HO2 hbel2 hown3 hgrow3))
            go_roundw
            case rel => exact ⟨j + 1, by omega, by go_num, by have h := H3.out; rw [← HE.out, List.append_assoc, ← rowB_succ] at h; exact h⟩
            case measure => simp [intOf]; omega
          · rw [bitI_true]
            go_wp2_with (at_builtin; have HH := HO2.out; refine wpList_append_own _ rfl (.tmp 32) (.tmp 39) 22 rfl (w.heap.size + 1) 5 i0 (.int .u8 0) 1 1 Tryd.underlying22 hi hz0 hz1 hz2 rfl (by decide) _ _ _ rfl (HH.alloc _) ⟨w2.heap.size, 0, none⟩ 1 1 [.int .u8 49] rfl rfl ?d1 ?d2 ?d3 ?d4 ?d5 ?d6; go_must (case d1 => exact (cell_one_new _ _ _)); go_must (case d2 => simp [Value.oneCell']); go_must (case d3 => (unfold maxLen; omega)); go_must (case d4 => omega); go_must (case d5 => (have := hbel2.size; simp at this ⊢; omega)); go_must (clear HH; intro v3 w3 hown3 hgrow3 _; have H3 := Lib.hid (keeps_next (b := true) HO2.out hbel2 _ hown3 hgrow3); clear HO2 hbel2 hown3 hgrow3))
            go_roundw
            case rel => exact ⟨j + 1, by omega, by go_num, by have h := H3.out; rw [← HE.out, List.append_assoc, ← rowB_succ] at h; exact h⟩
            case measure => simp [intOf]; omega
        · go_wp2_with fail
          obtain rfl : j = c := by omega
          go_roundw
          case rel => exact ⟨k + 1, by omega, by go_num, by rw [rowsB_succ]; exact hkeep'⟩
          case measure => simp [intOf]; omega
    · obtain rfl : k = r := by omega
      obtain ⟨hown1, hbel1⟩ := hkeep
      have hpos : 1 ≤ (rowsB E k c).length := by rw [rowsB_length]; exact Nat.mul_le_mul hr hc
      have hconv := conv_own hown1 hpos
      have hlt0 := w0_size w
      have c0 : wr.cell? ⟨w.heap.size, 0, none⟩ = some (.int .i64 0) := (hbel1.cell (p := ⟨w.heap.size, 0, none⟩) (by show w.heap.size < _; omega)).trans (by simp)
      have c1 : wr.cell? ⟨w.heap.size, 1, none⟩ = some (.int .i64 0) := (hbel1.cell (p := ⟨w.heap.size, 1, none⟩) (by show w.heap.size < _; omega)).trans (by simp)
      have c2 : wr.cell? ⟨w.heap.size, 2, none⟩ = some (.string ⟨#[]⟩) := (hbel1.cell (p := ⟨w.heap.size, 2, none⟩) (by show w.heap.size < _; omega)).trans (by simp)
      have f0 : ∀ i, wr.frozen? ⟨w.heap.size, i, none⟩ = false := fun i => (hbel1.frozen (p := ⟨w.heap.size, i, none⟩) (by show w.heap.size < _; omega)).trans (by simp)
      have f1 := f0 0
      have f2 := f0 1
      have f3 := f0 2
      clear f0 hlt0 hown1 hown hgrow hpos
      go_wp2_with fail
      refine bodyPost_ret (v := .tuple #[mat k c (str (rowsB E k c)), .bool true]) (by simp [results, Tryd.results35, go_sem, c0, c1, c2]) rfl ⟨rfl, ?_⟩
      exact ((((below_w0 w).trans (hbel1.mono (by omega))).setCell (Nat.le_refl _) _).setCell (Nat.le_refl _) _).setCell (Nat.le_refl _) _

set_option maxHeartbeats 400000 in
/-- too many rows or columns, or none -/
theorem from_no (fv : Value) (r c : Int) (h : (r < 1 ∨ 8 < r) ∨ (c < 1 ∨ 8 < c)) (w : World) :
    Calls Tryd.prog 35 #[.int .i64 r, .int .i64 c, fv] w fun e w' => e = .returned (.tuple #[mat 0 0 (str []), .bool false]) ∧ Below w.heap.size w w' := by
  by_cases h1 : r < 1 ∨ 8 < r
  · have H1 := Lib.hid h1
    clear h h1
    go_enter Tryd.func35, Tryd.ntmps35
    go_wp2_with (go_at_call 60; refine (side_false _ H1.out _).mono ?_; rintro e w' ⟨rfl, rfl⟩)
    refine bodyPost_ret (v := .tuple #[mat 0 0 (str []), .bool false]) (by simp [results, Tryd.results35, go_sem, str]) rfl ⟨rfl, ?_⟩
    go_grown
  · have h2 : c < 1 ∨ 8 < c := by omega
    have h3 : 1 ≤ r := by omega
    have h4 : r ≤ 8 := by omega
    have H1 := Lib.hid h2
    clear h h1 h2
    go_enter Tryd.func35, Tryd.ntmps35
    go_wp2_with fail
    refine (side_true _ h3 h4 _).mono ?_
    rintro e w' ⟨rfl, rfl⟩
    go_wp2_with fail
    refine (side_false _ H1.out _).mono ?_
    rintro e w' ⟨rfl, rfl⟩
    go_wp2_with fail
    refine bodyPost_ret (v := .tuple #[mat 0 0 (str []), .bool false]) (by simp [results, Tryd.results35, go_sem, str]) rfl ⟨rfl, ?_⟩
    go_grown
end Go.Proofs.YtbbgibbpeibhiaaDoor.From
