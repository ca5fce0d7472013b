/-
  Texts of one seat, joined: From, Clos, SpecTO.
-/
import Derived.Test.YtemmagkkigdhjaaGreatDoorJn3
import Derived.Lib.Strings
import Derived.Test.YtemmagkkigdhjaaGreatDoorJn10
import Derived.Deep.WholeRow
import Derived.Deep.RegionWith
/-
  The contract of impl.matrixFrom, whatever function tells its entries.
-/
namespace Go.Proofs.YtemmagkkigdhjaaGreatDoor.From
open Go.RowKit Go.Proofs.YtemmagkkigdhjaaGreatDoor.Plain Go.Proofs.YtemmagkkigdhjaaGreatDoor.Base

/-- what is asked of the function value: in every later world it tells the entry -/
def Tells (g : Nat) (lb : Array Value) (r c : Nat) (E : Nat → Nat → Bool) (w : World) : Prop :=
  ∀ (W : World) (x y : Nat), x < r → y < c → Below w.heap.size w W →
    Calls Tryz.prog g (#[.int .i64 (x : Int), .int .i64 (y : Int)] ++ lb) W fun e W' => e = .returned (.int .i64 (bitI (E x y))) ∧ Below W.heap.size W W'

theorem info5 : (Tryz.prog.info? 5).map (fun i => (i.zero, i.size, i.bytes)) = some (some (.int .u8 0), 1, 1) := by kernel_rfl

/-- the bytes as values -/
def vals (l : List UInt8) : List Value := l.map fun u => .int .u8 (u.toNat : Int)

/-- what a call left alone keeps what the call owns -/
theorem own_below {w w' : World} {base e size n : Nat} {v : Value} {xs : List Value} (h : w.ownsRow base e size v n xs) (hb : Below w.heap.size w w') : w'.ownsRow base e size v n xs := by
  have hg : w.grownBy w' none := ⟨hb.os, hb.tape, hb.output, hb.size, fun i hi _ => hb.block i hi⟩
  refine h.kept hg ?_
  cases v.ownBlock <;> simp

theorem Below.of_only {B : Nat} {w w' : World} (h : w.grownBy w' none) (hB : B ≤ w.heap.size) : Below B w w' :=
  ⟨h.os, h.tape, h.output, h.size, fun i hi => h.block i (by omega) (by simp)⟩
/-- the world with the result's block -/
abbrev w0 (w : World) : World := w.alloc (.cells #[.int .i64 0, .int .i64 0, .string ⟨#[]⟩] 24)
theorem below_w0 (w : World) : Below w.heap.size w (w0 w) := (Below.refl _ _).alloc (Nat.le_refl _) _
theorem w0_size (w : World) : (w0 w).heap.size = w.heap.size + 1 := by simp

/-- what the loops keep -/
def Keeps (w wr : World) (v : Value) (l : List UInt8) : Prop := wr.ownsRow (w.heap.size + 1) 5 1 v l.length (vals l) ∧ Below (w.heap.size + 1) (w0 w) wr

theorem conv_own {w : World} {base : Nat} {v : Value} {l : List UInt8} (h : w.ownsRow base 5 1 v l.length (vals l)) (hl : 1 ≤ l.length) :
    (convert 22 9 v).run Tryz.prog w = .ok (.string (str l)) w := by
  rcases h.2 with ⟨_, h0⟩ | ⟨g, cap, cur, rfl, _⟩
  · omega
  · refine run_convert_bytes_back w 22 9 5 ⟨g, 0, none⟩ cap l Tryz.underlying22 Tryz.underlying5 Tryz.underlying9 fun j hj => ?_
    exact h.cells rfl j _ (by simp [vals, List.getElem?_map, List.getElem?_eq_getElem hj])

theorem keeps_next {w w2 w3 : World} {v v3 : Value} {l : List UInt8} {b : Bool} (h : w2.ownsRow (w.heap.size + 1) 5 1 v l.length (vals l)) (hb : Below (w.heap.size + 1) (w0 w) w2) (o : Obj)
    (h3 : w3.ownsRow (w.heap.size + 1) 5 1 v3 (l.length + 1) (vals l ++ [.int .u8 ((dig b).toNat : Int)])) (hg : (w2.alloc o).grownBy w3 v.ownBlock) : Keeps w w3 v3 (l ++ [dig b]) := by
  refine ⟨by simpa [vals] using h3, (hb.alloc (by have := hb.size; simp at this; omega) o).grown hg (by have := hb.size; simp at this ⊢; omega) fun k hk => (h.lt k hk).1⟩

set_option maxHeartbeats 1000000 in
theorem from_any (g : Nat) (lb : Array Value) (r c : Nat) (hr : 1 ≤ r) (hr8 : r ≤ 8) (hc : 1 ≤ c) (hc8 : c ≤ 8) (E : Nat → Nat → Bool) (w : World)
    (eg : ∀ args W, (callFunc g args).run Tryz.prog W = .ok (.enter g args) W) (hT : Hid (Tells g lb r c E w)) :
    Calls Tryz.prog 39 #[.int .i64 (r : Int), .int .i64 (c : Int), .func (.func g) #[] lb] w fun e w' => e = .returned (.tuple #[mat r c (str (rowsB E r c)), .bool true]) ∧ Below w.heap.size w w' := by
  obtain ⟨i0, hi, hz0, hz1, hz2⟩ := info_parts info5
  have hmul := wrap_prod r c hr8 hc8
  obtain ⟨n, hn⟩ : ∃ n, r * c = n := ⟨_, rfl⟩
  have hn64 : n ≤ 64 := by rw [← hn]; exact prod_le hr8 hc8
  rw [hn] at hmul
  have HM := Lib.hid hmul
  clear hmul
  have HN := Lib.hid hn
  clear hn
  go_enter Tryz.func39, Tryz.ntmps39
  go_wp2_with (first | (go_at_call 30; refine (side_true _ ?_ ?_ _).mono ?_; omega; omega; rintro e w' ⟨rfl, rfl⟩) | (at_make; have X := HM.out; refine wpList_make_own _ rfl (.const (.int .i64 0)) (.tmp 22) 22 rfl (w.heap.size + 1) 5 i0 (.int .u8 0) 1 Tryz.underlying22 hi hz0 hz1 .i64 .i64 (wrap64 ((r : Int) * (c : Int))) n rfl rfl X ?b2 ?b3 ?b4 ?b5; go_must (case b2 => (rw [hz2]; omega)); go_must (case b3 => (unfold maxLen; omega)); go_must (case b4 => (simp; done)); go_must (clear X; intro w1 hown hgrow)))
  go_loopw [8, 25] (fun v x wr => ∃ (k : Nat), k ≤ r ∧ x = .int .i64 (k : Int) ∧ Keeps w wr v (rowsB E k c)) (fun _ x _ => r - (intOf x).toNat)
  case atStart => exact ⟨0, Nat.zero_le _, rfl, by simpa [rowsB_zero, vals] using hown, Below.of_only hgrow (by simp)⟩
  case round =>
    obtain ⟨k, hk, rfl, hkeep⟩ := hrel
    by_cases hlt : k < r
    · go_wp2_with fail
      go_loopw [8, 29] (fun v y wr => ∃ (j : Nat), j ≤ c ∧ y = .int .i64 (j : Int) ∧ Keeps w wr v (rowsB E k c ++ rowB E k j)) (fun _ y _ => c - (intOf y).toNat)
      case atStart => exact ⟨0, Nat.zero_le _, rfl, by rw [rowB_zero, List.append_nil]; exact hkeep⟩
      case round =>
        obtain ⟨j, hj, rfl, hkeep'⟩ := hrel
        by_cases hlt' : j < c
        · obtain ⟨hown1, hbel1⟩ := hkeep'
          have HO := Lib.hid hown1
          clear hown1 hkeep hown hgrow
          go_wp2_with fail
          refine (hT.out _ k j hlt hlt' ?_).mono ?_
          · exact (below_w0 w).trans (hbel1.mono (by omega))
          rintro e w2 ⟨rfl, hb2⟩
          have HO2 := Lib.hid (own_below HO.out hb2)
          have hbel2 : Below (w.heap.size + 1) (w0 w) w2 := hbel1.trans (hb2.mono (by have := hbel1.size; simp at this; omega))
          clear HO hb2
          have hlen : (rowsB E k c ++ rowB E k j).length ≤ 64 := by have := part_size E hr8 hc8 hlt hlt'; rwa [str_size] at this
          obtain ⟨b, hE⟩ : ∃ b, E k j = b := ⟨_, rfl⟩
          rw [hE]
          have HE := Lib.hid hE
          clear hE
          cases b
          · rw [bitI_false]
            go_wp2_with (at_builtin; have HH := HO2.out; refine wpList_append_own _ rfl (.tmp 32) (.tmp 39) 22 rfl (w.heap.size + 1) 5 i0 (.int .u8 0) 1 1 Tryz.underlying22 hi hz0 hz1 hz2 rfl (by decide) _ _ _ rfl (HH.alloc _) ⟨w2.heap.size, 0, none⟩ 1 1 [.int .u8 48] rfl rfl ?c1 ?c2 ?c3 ?c4 ?c5 ?c6; go_must (case c1 => exact (cell_one_new _ _ _)); go_must (case c2 => simp [Value.oneCell']); go_must (case c3 => (unfold maxLen; omega)); go_must (case c4 => omega); go_must (case c5 => (have := hbel2.size; simp at this ⊢; omega)); go_must (clear HH; intro v3 w3 hown3 hgrow3 _; have H3 := Lib.hid (keeps_next (b := false) HO2.out hbel2 _ hown3 hgrow3); clear HO2 hbel2 hown3 hgrow3))
            go_roundw
            case rel => exact ⟨j + 1, by omega, by go_num, by have h := H3.out; rw [← HE.out, List.append_assoc, ← rowB_succ] at h; exact h⟩
            case measure => simp [intOf]; omega
          · rw [bitI_true]
            go_wp2_with (at_builtin; have HH := HO2.out; refine wpList_append_own _ rfl (.tmp 32) (.tmp 39) 22 rfl (w.heap.size + 1) 5 i0 (.int .u8 0) 1 1 Tryz.underlying22 hi hz0 hz1 hz2 rfl (by decide) _ _ _ rfl (HH.alloc _) ⟨w2.heap.size, 0, none⟩ 1 1 [.int .u8 49] rfl rfl ?d1 ?d2 ?d3 ?d4 ?d5 ?d6; go_must (case d1 => exact (cell_one_new _ _ _)); go_must (case d2 => simp [Value.oneCell']); go_must (case d3 => (unfold maxLen; omega)); go_must (case d4 => omega); go_must (case d5 => (have := hbel2.size; simp at this ⊢; omega)); go_must (clear HH; intro v3 w3 hown3 hgrow3 _; have H3 := Lib.hid (keeps_next (b := true) HO2.out hbel2 _ hown3 hgrow3); clear HO2 hbel2 hown3 hgrow3))
            go_roundw
            case rel => exact ⟨j + 1, by omega, by go_num, by have h := H3.out; rw [← HE.out, List.append_assoc, ← rowB_succ] at h; exact h⟩
            case measure => simp [intOf]; omega
        · go_wp2_with fail
          obtain rfl : j = c := by omega
          go_roundw
          case rel => exact ⟨k + 1, by omega, by go_num, by rw [rowsB_succ]; exact hkeep'⟩
          case measure => simp [intOf]; omega
    · obtain rfl : k = r := by omega
      obtain ⟨hown1, hbel1⟩ := hkeep
      have hpos : 1 ≤ (rowsB E k c).length := by rw [rowsB_length]; exact Nat.mul_le_mul hr hc
      have hconv := conv_own hown1 hpos
      have hlt0 := w0_size w
      have c0 : wr.cell? ⟨w.heap.size, 0, none⟩ = some (.int .i64 0) := (hbel1.cell (p := ⟨w.heap.size, 0, none⟩) (by show w.heap.size < _; omega)).trans (by simp)
      have c1 : wr.cell? ⟨w.heap.size, 1, none⟩ = some (.int .i64 0) := (hbel1.cell (p := ⟨w.heap.size, 1, none⟩) (by show w.heap.size < _; omega)).trans (by simp)
      have c2 : wr.cell? ⟨w.heap.size, 2, none⟩ = some (.string ⟨#[]⟩) := (hbel1.cell (p := ⟨w.heap.size, 2, none⟩) (by show w.heap.size < _; omega)).trans (by simp)
      have f0 : ∀ i, wr.frozen? ⟨w.heap.size, i, none⟩ = false := fun i => (hbel1.frozen (p := ⟨w.heap.size, i, none⟩) (by show w.heap.size < _; omega)).trans (by simp)
      have f1 := f0 0
      have f2 := f0 1
      have f3 := f0 2
      clear f0 hlt0 hown1 hown hgrow hpos
      go_wp2_with fail
      refine bodyPost_ret (v := .tuple #[mat k c (str (rowsB E k c)), .bool true]) (by simp [results, Tryz.results39, go_sem, c0, c1, c2]) rfl ⟨rfl, ?_⟩
      exact ((((below_w0 w).trans (hbel1.mono (by omega))).setCell (Nat.le_refl _) _).setCell (Nat.le_refl _) _).setCell (Nat.le_refl _) _

set_option maxHeartbeats 400000 in
/-- too many rows or columns, or none -/
theorem from_no (fv : Value) (r c : Int) (h : (r < 1 ∨ 8 < r) ∨ (c < 1 ∨ 8 < c)) (w : World) :
    Calls Tryz.prog 39 #[.int .i64 r, .int .i64 c, fv] w fun e w' => e = .returned (.tuple #[mat 0 0 (str []), .bool false]) ∧ Below w.heap.size w w' := by
  by_cases h1 : r < 1 ∨ 8 < r
  · have H1 := Lib.hid h1
    clear h h1
    go_enter Tryz.func39, Tryz.ntmps39
    go_wp2_with (go_at_call 30; refine (side_false _ H1.out _).mono ?_; rintro e w' ⟨rfl, rfl⟩)
    refine bodyPost_ret (v := .tuple #[mat 0 0 (str []), .bool false]) (by simp [results, Tryz.results39, go_sem, str]) rfl ⟨rfl, ?_⟩
    go_grown
  · have h2 : c < 1 ∨ 8 < c := by omega
    have h3 : 1 ≤ r := by omega
    have h4 : r ≤ 8 := by omega
    have H1 := Lib.hid h2
    clear h h1 h2
    go_enter Tryz.func39, Tryz.ntmps39
    go_wp2_with fail
    refine (side_true _ h3 h4 _).mono ?_
    rintro e w' ⟨rfl, rfl⟩
    go_wp2_with fail
    refine (side_false _ H1.out _).mono ?_
    rintro e w' ⟨rfl, rfl⟩
    go_wp2_with fail
    refine bodyPost_ret (v := .tuple #[mat 0 0 (str []), .bool false]) (by simp [results, Tryz.results39, go_sem, str]) rfl ⟨rfl, ?_⟩
    go_grown
end Go.Proofs.YtemmagkkigdhjaaGreatDoor.From

/-
  A matrix that is made of one grid's entries: TurnMatrix and OtherMatrix of the program.
-/
namespace Go.Proofs.YtemmagkkigdhjaaGreatDoor.Clos
open Go.RowKit Go.Proofs.YtemmagkkigdhjaaGreatDoor.Plain Go.Proofs.YtemmagkkigdhjaaGreatDoor.Base Go.Proofs.YtemmagkkigdhjaaGreatDoor.Valid Go.Proofs.YtemmagkkigdhjaaGreatDoor.Law Go.Proofs.YtemmagkkigdhjaaGreatDoor.GridPlain Go.Proofs.YtemmagkkigdhjaaGreatDoor.Grid Go.Proofs.YtemmagkkigdhjaaGreatDoor.Entry Go.Proofs.YtemmagkkigdhjaaGreatDoor.From
set_option linter.unusedVariables false

/-- block b holds the grid of so many entries -/
def Holds (w : World) (b : Nat) (r c : Nat) (E : Nat → Nat → Bool) : Prop := w.heap[b]? = some (.cells (gcells r c (gpart E c (r * c))) 71 (0, 0))
theorem Holds.lt {w : World} {b r c : Nat} {E : Nat → Nat → Bool} (h : Holds w b r c E) : b < w.heap.size := (Array.getElem?_eq_some_iff.1 h).1
theorem Holds.below {w w1 : World} {b r c : Nat} {E : Nat → Nat → Bool} (h : Holds w b r c E) (hb : Below w.heap.size w w1) : Holds w1 b r c E := (hb.block b h.lt).trans h

set_option maxHeartbeats 1000000 in
theorem other_clos (r c : Nat) (E : Nat → Nat → Bool) (hr8 : r ≤ 8) (hc8 : c ≤ 8) (b : Nat) (x y : Nat) (hx : x < r) (hy : y < c) (W : World) (hh : Holds W b r c E) :
    Calls Tryz.prog 42 #[.int .i64 (x : Int), .int .i64 (y : Int), .pointer (some ⟨b, 0, none⟩)] W fun e W' => e = .returned (.int .i64 (bitI (!(E x y)))) ∧ Below W.heap.size W W' := by
  have HH := Lib.hid (show W.heap[b]? = some (.cells (gcells r c (gpart E c (r * c))) 71 (0, 0)) from hh)
  have HF := Lib.hid (gpart_all E r c x y hx hy hc8)
  obtain ⟨v, hv⟩ : ∃ v, E x y = v := ⟨_, rfl⟩
  rw [hv] at HF ⊢
  clear hv
  have hx8 : x < 8 := by omega
  have hy8 : y < 8 := by omega
  clear hh
  go_enter Tryz.func42, Tryz.ntmps42
  go_wp2_with (have X := HH.out; refine wpList_load_row rfl 71 (.tmp 2) rfl b rfl 71 (gcells r c (gpart E c (r * c))) (0, 0) _ X Tryz.underlying71 rfl (ginfo' _ _ _) ?_; clear X)
  refine (entry_any r c _ x y hx8 hy8 _).mono ?_
  rintro e w1 ⟨rfl, hb1⟩
  have HB := Lib.hid hb1
  clear hb1
  rw [HF.out]
  cases v
  · rw [bitI_false]
    go_wp2_with fail
    go_ret
    exact ⟨rfl, HB.out⟩
  · rw [bitI_true]
    go_wp2_with fail
    go_ret
    exact ⟨rfl, HB.out⟩

set_option maxHeartbeats 1000000 in
theorem turn_clos (r c : Nat) (E : Nat → Nat → Bool) (hr8 : r ≤ 8) (hc8 : c ≤ 8) (b : Nat) (x y : Nat) (hx : x < c) (hy : y < r) (W : World) (hh : Holds W b r c E) :
    Calls Tryz.prog 40 #[.int .i64 (x : Int), .int .i64 (y : Int), .pointer (some ⟨b, 0, none⟩)] W fun e W' => e = .returned (.int .i64 (bitI (E y x))) ∧ Below W.heap.size W W' := by
  have HH := Lib.hid (show W.heap[b]? = some (.cells (gcells r c (gpart E c (r * c))) 71 (0, 0)) from hh)
  have HF := Lib.hid (gpart_all E r c y x hy hx hc8)
  have hx8 : x < 8 := by omega
  have hy8 : y < 8 := by omega
  clear hh
  go_enter Tryz.func40, Tryz.ntmps40
  go_wp2_with (have X := HH.out; refine wpList_load_row rfl 71 (.tmp 2) rfl b rfl 71 (gcells r c (gpart E c (r * c))) (0, 0) _ X Tryz.underlying71 rfl (ginfo' _ _ _) ?_; clear X)
  refine (entry_any r c _ y x hy8 hx8 _).mono ?_
  rintro e w1 ⟨rfl, hb1⟩
  have HB := Lib.hid hb1
  clear hb1
  rw [HF.out]
  go_wp2_with fail
  go_ret
  exact ⟨rfl, HB.out⟩
theorem other_enters (args : Array Value) (W : World) : (callFunc 42 args).run Tryz.prog W = .ok (.enter 42 args) W := by kernel_rfl
theorem turn_enters (args : Array Value) (W : World) : (callFunc 40 args).run Tryz.prog W = .ok (.enter 40 args) W := by kernel_rfl

theorem two_blocks {w w1 : World} {o1 o2 : Obj} (hb : Below ((w.alloc o1).alloc o2).heap.size ((w.alloc o1).alloc o2) w1) :
    w1.heap[w.heap.size + 1]? = some o2 ∧ Below w.heap.size w w1 ∧ w.heap.size + 2 ≤ w1.heap.size := by
  have hs : ((w.alloc o1).alloc o2).heap.size = w.heap.size + 2 := by simp
  have h2 : ((w.alloc o1).alloc o2).heap[w.heap.size + 1]? = some o2 := by
    have := heap_alloc_new (w.alloc o1) o2
    rwa [World.size_alloc] at this
  exact ⟨(hb.block _ (by omega)).trans h2, (((Below.refl w.heap.size w).alloc (Nat.le_refl _) _).alloc (by simp) _).trans (hb.mono (by omega)), by have := hb.size; omega⟩

set_option maxHeartbeats 1000000 in
set_option maxRecDepth 100000 in
theorem other_impl (E : Nat → Nat → Bool) (r c : Nat) (hr : 1 ≤ r) (hr8 : r ≤ 8) (hc : 1 ≤ c) (hc8 : c ≤ 8) (s : ByteArray) (w : World)
    (hg : ∀ W : World, Calls Tryz.prog 38 #[mat r c s] W fun e w' => e = .returned (gval r c (gpart E c (r * c))) ∧ Below W.heap.size W w') :
    Calls Tryz.prog 14 #[mat r c s] w fun e w' => e = .returned (.tuple #[mat r c (str (rowsB (fun x y => !(E x y)) r c)), .bool true]) ∧ Below w.heap.size w w' := by
  have HG := Lib.hid hg
  clear hg
  go_enter Tryz.func14, Tryz.ntmps14
  go_wp2_with fail
  refine (HG.out _).mono ?_
  rintro e w1 ⟨rfl, hb1⟩
  obtain ⟨b1, hbel, hz⟩ := two_blocks hb1
  have H1 := Lib.hid b1
  have HB := Lib.hid hbel
  have c0 : (w1.alloc (.cells (gcells r c (gpart E c (r * c))) 71)).cell? ⟨w1.heap.size, 0, none⟩ = some (.int .i64 (r : Int)) := cell_of_row _ _ 0 _ _ _ (heap_alloc_new w1 _)
  have c1 : (w1.alloc (.cells (gcells r c (gpart E c (r * c))) 71)).cell? ⟨w1.heap.size, 1, none⟩ = some (.int .i64 (c : Int)) := cell_of_row _ _ 1 _ _ _ (heap_alloc_new w1 _)
  clear hb1 b1 hbel
  have hh : Holds (w1.alloc (.cells (gcells r c (gpart E c (r * c))) 71)) w1.heap.size r c E := heap_alloc_new w1 _
  have HT : Hid (Tells 42 #[.pointer (some ⟨w1.heap.size, 0, none⟩)] r c (fun x y => !(E x y)) (w1.alloc (.cells (gcells r c (gpart E c (r * c))) 71))) :=
    fun W x y hx hy hb => other_clos r c E hr8 hc8 w1.heap.size x y hx hy W (hh.below hb)
  clear hh
  go_wp2_with (refine wpList_store_row rfl 71 (.tmp 4) (.tmp 6) rfl w1.heap.size (gcells r c (gpart E c (r * c))) rfl rfl 71 _ (heap_alloc_new w1 _) (ginfo' _ _ _) (by rw [gzero, gsize, gsize]) (gone _ _ _) ?_; rw [World.setRow_alloc_new])
  refine (from_any 42 #[.pointer (some ⟨w1.heap.size, 0, none⟩)] r c (by omega) (by omega) (by omega) (by omega) _ _ other_enters HT).mono ?_
  rintro e w2 ⟨rfl, hb2⟩
  have hz2 := hb2.size
  simp only [World.size_alloc] at hz2
  have hres : w2.heap[w.heap.size + 1]? = some (.cells #[.int .i64 0, .int .i64 0, .string ⟨#[]⟩] 24 (0, 0)) := (hb2.block _ (by simp; omega)).trans ((Below.heap_alloc _ _ _ (by omega)).trans H1.out)
  have HB2 := Lib.hid (bstep (bstepA HB.out _) hb2)
  have d0 : w2.cell? ⟨w.heap.size + 1, 0, none⟩ = some (.int .i64 0) := cell_of_row _ _ 0 _ _ _ hres
  have d1 : w2.cell? ⟨w.heap.size + 1, 1, none⟩ = some (.int .i64 0) := cell_of_row _ _ 1 _ _ _ hres
  have d2 : w2.cell? ⟨w.heap.size + 1, 2, none⟩ = some (.string ⟨#[]⟩) := cell_of_row _ _ 2 _ _ _ hres
  have f0 : w2.frozen? ⟨w.heap.size + 1, 0, none⟩ = false := frozen_of_row _ _ 0 _ _ hres
  have f1 : w2.frozen? ⟨w.heap.size + 1, 1, none⟩ = false := frozen_of_row _ _ 1 _ _ hres
  have f2 : w2.frozen? ⟨w.heap.size + 1, 2, none⟩ = false := frozen_of_row _ _ 2 _ _ hres
  clear hb2 hres HT c0 c1
  go_wp2_with fail
  refine bodyPost_ret (v := .tuple #[mat r c (str (rowsB (fun x y => !(E x y)) r c)), .bool true]) (by simp [results, Tryz.results14, go_sem, d0, d1, d2]) rfl ⟨rfl, ?_⟩
  exact ((HB2.out.setCell (by simp) _).setCell (by simp) _).setCell (by simp) _

set_option maxHeartbeats 1000000 in
set_option maxRecDepth 100000 in
theorem other_impl_no (r c : Int) (s : ByteArray) (w : World)
    (hg : ∀ W : World, Calls Tryz.prog 38 #[mat r c s] W fun e w' => e = .returned (gval 0 0 (fun _ => 0)) ∧ Below W.heap.size W w') :
    Calls Tryz.prog 14 #[mat r c s] w fun e w' => e = .returned (.tuple #[mat 0 0 (str []), .bool false]) ∧ Below w.heap.size w w' := by
  have HG := Lib.hid hg
  clear hg
  go_enter Tryz.func14, Tryz.ntmps14
  go_wp2_with fail
  refine (HG.out _).mono ?_
  rintro e w1 ⟨rfl, hb1⟩
  obtain ⟨b1, hbel, hz⟩ := two_blocks hb1
  have H1 := Lib.hid b1
  have HB := Lib.hid hbel
  have c0 : (w1.alloc (.cells (gcells 0 0 (fun _ => 0)) 71)).cell? ⟨w1.heap.size, 0, none⟩ = some (.int .i64 0) := cell_of_row _ _ 0 _ _ _ (heap_alloc_new w1 _)
  have c1 : (w1.alloc (.cells (gcells 0 0 (fun _ => 0)) 71)).cell? ⟨w1.heap.size, 1, none⟩ = some (.int .i64 0) := cell_of_row _ _ 1 _ _ _ (heap_alloc_new w1 _)
  clear hb1 b1 hbel
  go_wp2_with (refine wpList_store_row rfl 71 (.tmp 4) (.tmp 6) rfl w1.heap.size (gcells 0 0 (fun _ => 0)) rfl rfl 71 _ (heap_alloc_new w1 _) (ginfo' _ _ _) (by rw [gzero]) (gone _ _ _) ?_; rw [World.setRow_alloc_new])
  refine (from_no _ _ _ (.inl (.inl (by omega))) _).mono ?_
  rintro e w2 ⟨rfl, hb2⟩
  have hz2 := hb2.size
  simp only [World.size_alloc] at hz2
  have hres : w2.heap[w.heap.size + 1]? = some (.cells #[.int .i64 0, .int .i64 0, .string ⟨#[]⟩] 24 (0, 0)) := (hb2.block _ (by simp; omega)).trans ((Below.heap_alloc _ _ _ (by omega)).trans H1.out)
  have HB2 := Lib.hid (bstep (bstepA HB.out _) hb2)
  have d0 : w2.cell? ⟨w.heap.size + 1, 0, none⟩ = some (.int .i64 0) := cell_of_row _ _ 0 _ _ _ hres
  have d1 : w2.cell? ⟨w.heap.size + 1, 1, none⟩ = some (.int .i64 0) := cell_of_row _ _ 1 _ _ _ hres
  have d2 : w2.cell? ⟨w.heap.size + 1, 2, none⟩ = some (.string ⟨#[]⟩) := cell_of_row _ _ 2 _ _ _ hres
  have f0 : w2.frozen? ⟨w.heap.size + 1, 0, none⟩ = false := frozen_of_row _ _ 0 _ _ hres
  have f1 : w2.frozen? ⟨w.heap.size + 1, 1, none⟩ = false := frozen_of_row _ _ 1 _ _ hres
  have f2 : w2.frozen? ⟨w.heap.size + 1, 2, none⟩ = false := frozen_of_row _ _ 2 _ _ hres
  clear hb2 hres c0 c1
  go_wp2_with fail
  refine bodyPost_ret (v := .tuple #[mat 0 0 (str []), .bool false]) (by simp [results, Tryz.results14, go_sem, d0, d1, d2]) rfl ⟨rfl, ?_⟩
  exact ((HB2.out.setCell (by simp) _).setCell (by simp) _).setCell (by simp) _

set_option maxHeartbeats 1000000 in
set_option maxRecDepth 100000 in
theorem turn_impl (E : Nat → Nat → Bool) (r c : Nat) (hr : 1 ≤ r) (hr8 : r ≤ 8) (hc : 1 ≤ c) (hc8 : c ≤ 8) (s : ByteArray) (w : World)
    (hg : ∀ W : World, Calls Tryz.prog 38 #[mat r c s] W fun e w' => e = .returned (gval r c (gpart E c (r * c))) ∧ Below W.heap.size W w') :
    Calls Tryz.prog 13 #[mat r c s] w fun e w' => e = .returned (.tuple #[mat c r (str (rowsB (fun x y => E y x) c r)), .bool true]) ∧ Below w.heap.size w w' := by
  have HG := Lib.hid hg
  clear hg
  go_enter Tryz.func13, Tryz.ntmps13
  go_wp2_with fail
  refine (HG.out _).mono ?_
  rintro e w1 ⟨rfl, hb1⟩
  obtain ⟨b1, hbel, hz⟩ := two_blocks hb1
  have H1 := Lib.hid b1
  have HB := Lib.hid hbel
  have c0 : (w1.alloc (.cells (gcells r c (gpart E c (r * c))) 71)).cell? ⟨w1.heap.size, 0, none⟩ = some (.int .i64 (r : Int)) := cell_of_row _ _ 0 _ _ _ (heap_alloc_new w1 _)
  have c1 : (w1.alloc (.cells (gcells r c (gpart E c (r * c))) 71)).cell? ⟨w1.heap.size, 1, none⟩ = some (.int .i64 (c : Int)) := cell_of_row _ _ 1 _ _ _ (heap_alloc_new w1 _)
  clear hb1 b1 hbel
  have hh : Holds (w1.alloc (.cells (gcells r c (gpart E c (r * c))) 71)) w1.heap.size r c E := heap_alloc_new w1 _
  have HT : Hid (Tells 40 #[.pointer (some ⟨w1.heap.size, 0, none⟩)] c r (fun x y => E y x) (w1.alloc (.cells (gcells r c (gpart E c (r * c))) 71))) :=
    fun W x y hx hy hb => turn_clos r c E hr8 hc8 w1.heap.size x y hx hy W (hh.below hb)
  clear hh
  go_wp2_with (refine wpList_store_row rfl 71 (.tmp 4) (.tmp 6) rfl w1.heap.size (gcells r c (gpart E c (r * c))) rfl rfl 71 _ (heap_alloc_new w1 _) (ginfo' _ _ _) (by rw [gzero, gsize, gsize]) (gone _ _ _) ?_; rw [World.setRow_alloc_new])
  refine (from_any 40 #[.pointer (some ⟨w1.heap.size, 0, none⟩)] c r (by omega) (by omega) (by omega) (by omega) _ _ turn_enters HT).mono ?_
  rintro e w2 ⟨rfl, hb2⟩
  have hz2 := hb2.size
  simp only [World.size_alloc] at hz2
  have hres : w2.heap[w.heap.size + 1]? = some (.cells #[.int .i64 0, .int .i64 0, .string ⟨#[]⟩] 24 (0, 0)) := (hb2.block _ (by simp; omega)).trans ((Below.heap_alloc _ _ _ (by omega)).trans H1.out)
  have HB2 := Lib.hid (bstep (bstepA HB.out _) hb2)
  have d0 : w2.cell? ⟨w.heap.size + 1, 0, none⟩ = some (.int .i64 0) := cell_of_row _ _ 0 _ _ _ hres
  have d1 : w2.cell? ⟨w.heap.size + 1, 1, none⟩ = some (.int .i64 0) := cell_of_row _ _ 1 _ _ _ hres
  have d2 : w2.cell? ⟨w.heap.size + 1, 2, none⟩ = some (.string ⟨#[]⟩) := cell_of_row _ _ 2 _ _ _ hres
  have f0 : w2.frozen? ⟨w.heap.size + 1, 0, none⟩ = false := frozen_of_row _ _ 0 _ _ hres
  have f1 : w2.frozen? ⟨w.heap.size + 1, 1, none⟩ = false := frozen_of_row _ _ 1 _ _ hres
  have f2 : w2.frozen? ⟨w.heap.size + 1, 2, none⟩ = false := frozen_of_row _ _ 2 _ _ hres
  clear hb2 hres HT c0 c1
  go_wp2_with fail
  refine bodyPost_ret (v := .tuple #[mat c r (str (rowsB (fun x y => E y x) c r)), .bool true]) (by simp [results, Tryz.results13, go_sem, d0, d1, d2]) rfl ⟨rfl, ?_⟩
  exact ((HB2.out.setCell (by simp) _).setCell (by simp) _).setCell (by simp) _

set_option maxHeartbeats 1000000 in
set_option maxRecDepth 100000 in
theorem turn_impl_no (r c : Int) (s : ByteArray) (w : World)
    (hg : ∀ W : World, Calls Tryz.prog 38 #[mat r c s] W fun e w' => e = .returned (gval 0 0 (fun _ => 0)) ∧ Below W.heap.size W w') :
    Calls Tryz.prog 13 #[mat r c s] w fun e w' => e = .returned (.tuple #[mat 0 0 (str []), .bool false]) ∧ Below w.heap.size w w' := by
  have HG := Lib.hid hg
  clear hg
  go_enter Tryz.func13, Tryz.ntmps13
  go_wp2_with fail
  refine (HG.out _).mono ?_
  rintro e w1 ⟨rfl, hb1⟩
  obtain ⟨b1, hbel, hz⟩ := two_blocks hb1
  have H1 := Lib.hid b1
  have HB := Lib.hid hbel
  have c0 : (w1.alloc (.cells (gcells 0 0 (fun _ => 0)) 71)).cell? ⟨w1.heap.size, 0, none⟩ = some (.int .i64 0) := cell_of_row _ _ 0 _ _ _ (heap_alloc_new w1 _)
  have c1 : (w1.alloc (.cells (gcells 0 0 (fun _ => 0)) 71)).cell? ⟨w1.heap.size, 1, none⟩ = some (.int .i64 0) := cell_of_row _ _ 1 _ _ _ (heap_alloc_new w1 _)
  clear hb1 b1 hbel
  go_wp2_with (refine wpList_store_row rfl 71 (.tmp 4) (.tmp 6) rfl w1.heap.size (gcells 0 0 (fun _ => 0)) rfl rfl 71 _ (heap_alloc_new w1 _) (ginfo' _ _ _) (by rw [gzero]) (gone _ _ _) ?_; rw [World.setRow_alloc_new])
  refine (from_no _ _ _ (.inl (.inl (by omega))) _).mono ?_
  rintro e w2 ⟨rfl, hb2⟩
  have hz2 := hb2.size
  simp only [World.size_alloc] at hz2
  have hres : w2.heap[w.heap.size + 1]? = some (.cells #[.int .i64 0, .int .i64 0, .string ⟨#[]⟩] 24 (0, 0)) := (hb2.block _ (by simp; omega)).trans ((Below.heap_alloc _ _ _ (by omega)).trans H1.out)
  have HB2 := Lib.hid (bstep (bstepA HB.out _) hb2)
  have d0 : w2.cell? ⟨w.heap.size + 1, 0, none⟩ = some (.int .i64 0) := cell_of_row _ _ 0 _ _ _ hres
  have d1 : w2.cell? ⟨w.heap.size + 1, 1, none⟩ = some (.int .i64 0) := cell_of_row _ _ 1 _ _ _ hres
  have d2 : w2.cell? ⟨w.heap.size + 1, 2, none⟩ = some (.string ⟨#[]⟩) := cell_of_row _ _ 2 _ _ _ hres
  have f0 : w2.frozen? ⟨w.heap.size + 1, 0, none⟩ = false := frozen_of_row _ _ 0 _ _ hres
  have f1 : w2.frozen? ⟨w.heap.size + 1, 1, none⟩ = false := frozen_of_row _ _ 1 _ _ hres
  have f2 : w2.frozen? ⟨w.heap.size + 1, 2, none⟩ = false := frozen_of_row _ _ 2 _ _ hres
  clear hb2 hres c0 c1
  go_wp2_with fail
  refine bodyPost_ret (v := .tuple #[mat 0 0 (str []), .bool false]) (by simp [results, Tryz.results13, go_sem, d0, d1, d2]) rfl ⟨rfl, ?_⟩
  exact ((HB2.out.setCell (by simp) _).setCell (by simp) _).setCell (by simp) _
end Go.Proofs.YtemmagkkigdhjaaGreatDoor.Clos

/-
  The reference's l1Other, l1Turn, OtherMatrix, TurnMatrix.
-/
namespace Go.Proofs.YtemmagkkigdhjaaGreatDoor.SpecTO
open Go.RowKit Go.Proofs.YtemmagkkigdhjaaGreatDoor.Plain Go.Proofs.YtemmagkkigdhjaaGreatDoor.Base Go.Proofs.YtemmagkkigdhjaaGreatDoor.Valid Go.Proofs.YtemmagkkigdhjaaGreatDoor.Law Go.Proofs.YtemmagkkigdhjaaGreatDoor.GridPlain Go.Proofs.YtemmagkkigdhjaaGreatDoor.Grid Go.Proofs.YtemmagkkigdhjaaGreatDoor.Entry Go.Proofs.YtemmagkkigdhjaaGreatDoor.From Go.Proofs.YtemmagkkigdhjaaGreatDoor.Clos
set_option linter.unusedVariables false

/-- the world in l1Other: m's box, the result's block, out's block -/
abbrev ow (w : World) (r c : Nat) (s t : ByteArray) : World :=
  ((w.alloc (.cells #[.int .i64 (r : Int), .int .i64 (c : Int), .string s] 24)).alloc (.cells #[.int .i64 0, .int .i64 0, .string ⟨#[]⟩] 24)).alloc (.cells #[.int .i64 (r : Int), .int .i64 (c : Int), .string t] 24)
theorem ow_set (w : World) (r c q : Nat) (s t u : ByteArray) : ((ow w r c s t).drewN q).setCell ⟨w.heap.size + 1 + 1, 2, none⟩ (.string u) = (ow w r c s u).drewN q := by
  have h : ((w.alloc (.cells #[.int .i64 (r : Int), .int .i64 (c : Int), .string s] 24)).alloc (.cells #[.int .i64 0, .int .i64 0, .string ⟨#[]⟩] 24)).heap.size = w.heap.size + 1 + 1 := by simp
  show ((ow w r c s t).setCell ⟨w.heap.size + 1 + 1, 2, none⟩ (.string u)).drewN q = _
  unfold ow
  rw [World.setCell_alloc_at _ _ _ _ _ h.symm]
  rfl
theorem ow_below (w : World) (r c q : Nat) (s t : ByteArray) (a b d : Value) : Below w.heap.size w (((((ow w r c s t).drewN q).setCell ⟨w.heap.size + 1, 0, none⟩ a).setCell ⟨w.heap.size + 1, 1, none⟩ b).setCell ⟨w.heap.size + 1, 2, none⟩ d) := by
  have h : Below w.heap.size w (ow w r c s t) := (((Below.refl _ _).alloc (Nat.le_refl _) _).alloc (by simp) _).alloc (by simp; omega) _
  have h2 : Below w.heap.size w ((ow w r c s t).drewN q) := ⟨h.os, h.tape, h.output, h.size, h.block⟩
  exact ((h2.setCell (by simp) _).setCell (by simp) _).setCell (by simp) _
theorem take_next (l : List UInt8) (k : Nat) (u : UInt8) (h : l[k]? = some u) : str (l.take k) ++ ⟨#[u]⟩ = str (l.take (k + 1)) := by
  obtain ⟨h1, h2⟩ := List.getElem?_eq_some_iff.1 h
  rw [str_one, str_append, List.take_succ_eq_append_getElem h1, h2]

theorem two_blocks' {w w1 : World} {o1 o2 : Obj} (hb : Below ((w.alloc o1).alloc o2).heap.size ((w.alloc o1).alloc o2) w1) :
    w1.heap[w.heap.size]? = some o1 ∧ w1.heap[w.heap.size + 1]? = some o2 ∧ Below w.heap.size w w1 ∧ w.heap.size + 2 ≤ w1.heap.size := by
  obtain ⟨h1, h2, h3⟩ := two_blocks hb
  refine ⟨(hb.block _ (by simp; omega)).trans ?_, h1, h2, h3⟩
  rw [Below.heap_alloc _ _ _ (by simp)]
  exact heap_alloc_new w o1
theorem cells3 {w : World} {g : Nat} {T : TypeId} {a b c : Value} (h : w.heap[g]? = some (.cells #[a, b, c] T (0, 0))) :
    w.cell? ⟨g, 0, none⟩ = some a ∧ w.cell? ⟨g, 1, none⟩ = some b ∧ w.cell? ⟨g, 2, none⟩ = some c :=
  ⟨cell_of_row _ _ 0 _ _ _ h, cell_of_row _ _ 1 _ _ _ h, cell_of_row _ _ 2 _ _ _ h⟩
theorem free3 {w : World} {g : Nat} {T : TypeId} {a b c : Value} (h : w.heap[g]? = some (.cells #[a, b, c] T (0, 0))) :
    w.frozen? ⟨g, 0, none⟩ = false ∧ w.frozen? ⟨g, 1, none⟩ = false ∧ w.frozen? ⟨g, 2, none⟩ = false :=
  ⟨frozen_of_row _ _ 0 _ _ h, frozen_of_row _ _ 1 _ _ h, frozen_of_row _ _ 2 _ _ h⟩
/-- what holds while l1Turn runs: out has these bytes -/
def TInv (w wr : World) (r c : Nat) (s t : ByteArray) : Prop :=
  wr.heap[w.heap.size]? = some (.cells #[.int .i64 (r : Int), .int .i64 (c : Int), .string s] 24 (0, 0)) ∧ wr.heap[w.heap.size + 1]? = some (.cells #[.int .i64 0, .int .i64 0, .string ⟨#[]⟩] 24 (0, 0)) ∧
    wr.heap[w.heap.size + 2]? = some (.cells #[.int .i64 (c : Int), .int .i64 (r : Int), .string t] 24 (0, 0)) ∧ Below w.heap.size w wr ∧ w.heap.size + 3 ≤ wr.heap.size
theorem TInv.cells {w wr : World} {r c : Nat} {s t : ByteArray} (h : TInv w wr r c s t) :
    wr.cell? ⟨w.heap.size, 0, none⟩ = some (.int .i64 (r : Int)) ∧ wr.cell? ⟨w.heap.size, 1, none⟩ = some (.int .i64 (c : Int)) ∧ wr.cell? ⟨w.heap.size, 2, none⟩ = some (.string s) ∧
    wr.cell? ⟨w.heap.size + 1 + 1, 0, none⟩ = some (.int .i64 (c : Int)) ∧ wr.cell? ⟨w.heap.size + 1 + 1, 1, none⟩ = some (.int .i64 (r : Int)) ∧ wr.cell? ⟨w.heap.size + 1 + 1, 2, none⟩ = some (.string t) ∧
    wr.frozen? ⟨w.heap.size + 1 + 1, 2, none⟩ = false :=
  ⟨cell_of_row _ _ 0 _ _ _ h.1, cell_of_row _ _ 1 _ _ _ h.1, cell_of_row _ _ 2 _ _ _ h.1, cell_of_row _ _ 0 _ _ _ h.2.2.1, cell_of_row _ _ 1 _ _ _ h.2.2.1, cell_of_row _ _ 2 _ _ _ h.2.2.1, frozen_of_row _ _ 2 _ _ h.2.2.1⟩
theorem TInv.res {w wr : World} {r c : Nat} {s t : ByteArray} (h : TInv w wr r c s t) :
    wr.cell? ⟨w.heap.size + 1, 0, none⟩ = some (.int .i64 0) ∧ wr.cell? ⟨w.heap.size + 1, 1, none⟩ = some (.int .i64 0) ∧ wr.cell? ⟨w.heap.size + 1, 2, none⟩ = some (.string ⟨#[]⟩) ∧
    wr.frozen? ⟨w.heap.size + 1, 0, none⟩ = false ∧ wr.frozen? ⟨w.heap.size + 1, 1, none⟩ = false ∧ wr.frozen? ⟨w.heap.size + 1, 2, none⟩ = false :=
  ⟨cell_of_row _ _ 0 _ _ _ h.2.1, cell_of_row _ _ 1 _ _ _ h.2.1, cell_of_row _ _ 2 _ _ _ h.2.1, frozen_of_row _ _ 0 _ _ h.2.1, frozen_of_row _ _ 1 _ _ h.2.1, frozen_of_row _ _ 2 _ _ h.2.1⟩
theorem TInv.later {w wr w2 : World} {r c : Nat} {s t : ByteArray} (h : TInv w wr r c s t) (hb : Below wr.heap.size wr w2) : TInv w w2 r c s t := by
  obtain ⟨h0, h1, h2, h3, h4⟩ := h
  exact ⟨(hb.block _ (by omega)).trans h0, (hb.block _ (by omega)).trans h1, (hb.block _ (by omega)).trans h2, bstep h3 hb, Nat.le_trans h4 hb.size⟩
theorem TInv.drew {w wr : World} {r c : Nat} {s t : ByteArray} (h : TInv w wr r c s t) (n : Nat) : TInv w (wr.drewN n) r c s t :=
  ⟨h.1, h.2.1, h.2.2.1, ⟨h.2.2.2.1.os, h.2.2.2.1.tape, h.2.2.2.1.output, h.2.2.2.1.size, h.2.2.2.1.block⟩, h.2.2.2.2⟩
theorem TInv.set_ {w wr : World} {r c : Nat} {s t : ByteArray} (h : TInv w wr r c s t) (u : ByteArray) : TInv w (wr.setCell ⟨w.heap.size + 1 + 1, 2, none⟩ (.string u)) r c s u := by
  obtain ⟨h0, h1, h2, h3, h4⟩ := h
  exact ⟨(heap_setCell_other _ _ _ _ (by simp; omega)).trans h0, (heap_setCell_other _ _ _ _ (by simp)).trans h1, (heap_setCell_same _ _ _ _ _ _ h2).trans rfl, h3.setCell (by simp; omega) _, by simpa using h4⟩

set_option maxHeartbeats 4000000 in
theorem turn_spec1 (E : Nat → Nat → Bool) (r c : Nat) (hr : 1 ≤ r) (hr8 : r ≤ 8) (hc : 1 ≤ c) (hc8 : c ≤ 8) (w : World) :
    Calls Tryz.prog 84 #[mat r c (str (rowsB E r c))] w fun e w' => e = .returned (mat c r (str (rowsB (fun x y => E y x) c r))) ∧ Below w.heap.size w w' := by
  have HAT : Hid (∀ x y : Nat, x < r → y < c → ∀ W : World, Calls Tryz.prog 83 #[mat r c (str (rowsB E r c)), .int .i64 (x : Int), .int .i64 (y : Int)] W fun e w' => e = .returned (.bool (E x y)) ∧ Below W.heap.size W w') :=
    fun x y hx hy W => at_any E r c hr8 hc8 x y hx hy W
  generalize str (rowsB E r c) = s at *
  go_enter Tryz.func84, Tryz.ntmps84
  go_wp2_with fail
  have HI : Hid (TInv w (((w.alloc (.cells #[.int .i64 (r : Int), .int .i64 (c : Int), .string s] 24)).alloc (.cells #[.int .i64 0, .int .i64 0, .string ⟨#[]⟩] 24)).alloc (.cells #[.int .i64 (c : Int), .int .i64 (r : Int), .string ⟨#[]⟩] 24)) r c s ⟨#[]⟩) :=
    blocks3 (Below.refl _ _)
  go_loopw [4] (fun y wr => ∃ (k : Nat) (t : ByteArray), k ≤ c ∧ y = .int .i64 (k : Int) ∧ Hid (t = str (rowsB (fun x y => E y x) k r)) ∧ TInv w wr r c s t) (fun y _ => c - (intOf y).toNat)
  case atStart => exact ⟨0, _, Nat.zero_le _, rfl, rfl, HI.out⟩
  case round =>
    obtain ⟨k, t, hk, rfl, ht, hinv⟩ := hrel
    clear HI
    have HI := Lib.hid hinv
    obtain ⟨m0, m1, m2, o0, o1, o2, fo⟩ := hinv.cells
    obtain ⟨e0, e1, e2, g0, g1, g2⟩ := hinv.res
    clear hinv
    by_cases hlt : k < c
    · clear e0 e1 e2 g0 g1 g2
      go_wp2_with fail
      go_loopw [5] (fun x wr => ∃ (j : Nat) (t : ByteArray), j ≤ r ∧ x = .int .i64 (j : Int) ∧ Hid (t = str (rowsB (fun x y => E y x) k r ++ rowB (fun x y => E y x) k j)) ∧ TInv w wr r c s t) (fun x _ => r - (intOf x).toNat)
      case atStart => exact ⟨0, _, Nat.zero_le _, rfl, by rw [ht.out]; exact part_start _ _ _, HI.out⟩
      case round =>
        clear HI m0 m1 m2 o0 o1 o2 fo
        obtain ⟨j, t', hj, rfl, ht', hinv⟩ := hrel
        have HI := Lib.hid hinv
        obtain ⟨m0, m1, m2, o0, o1, o2, fo⟩ := hinv.cells
        clear hinv
        by_cases hlt' : j < r
        · go_wp2_with fail
          have htz : t'.size + 1 ≤ 9223372036854775807 := by
            have := part_size (fun x y => E y x) hc8 hr8 hlt hlt'
            rw [ht'.out]
            omega
          obtain ⟨b, hb⟩ : ∃ b : Bool, E j k = b := ⟨_, rfl⟩
          have hcat := fun W => run_string_add_sum (P := Tryz.prog) (w := W) t' ⟨#[dig b]⟩ htz
          have HC := Lib.hid (HAT.out j k hlt' hlt)
          rw [hb] at HC
          have HB := Lib.hid hb
          clear htz hb
          go_region_with (first | (go_at_call 83; refine (HC.out _).mono ?_; rintro e w2 ⟨rfl, hb2⟩; have HI2 := Lib.hid ((HI.out.drew 1).later hb2); obtain ⟨n0, n1, n2, p0, p1, p2, fp⟩ := HI2.out.cells; clear hb2) | (go_at_call 73; refine (l1Bit_any b _).mono ?_; rintro e w' ⟨rfl, rfl⟩))
          all_goals go_wp2_with fail
          all_goals
            go_roundw
            case rel => exact ⟨j + 1, _, by omega, by go_num, by rw [ht'.out, ← HB.out]; exact part_next (fun x y => E y x) k j r, HI2.out.set_ _⟩
            case measure => simp [intOf]; omega
        · obtain rfl : j = r := by omega
          go_wp2_with fail
          go_roundw
          case rel => exact ⟨k + 1, t', by omega, by go_num, by rw [ht'.out]; exact part_done _ _ _, HI.out⟩
          case measure => simp [intOf]; omega
    · obtain rfl : k = c := by omega
      go_wp2_with fail
      refine bodyPost_ret (v := mat k r t) (by simp [results, Tryz.results84, go_sem, e0, e1, e2]) rfl ⟨by rw [ht.out], ?_⟩
      exact ((HI.out.2.2.2.1.setCell (by simp) _).setCell (by simp) _).setCell (by simp) _


end Go.Proofs.YtemmagkkigdhjaaGreatDoor.SpecTO

