/-
  Texts of one seat, joined: Base, From, MatP.
-/
import Derived.Test.YtgfhahlkffagaaaDoorRows
import Derived.Test.YtgfhahlkffagaaaDoorJ1
import Derived.WalkKit
import Derived.WalkSpells
import Derived.Lib.Hide
import Derived.Handy
import Derived.Outline
import Derived.Deep.QuietTactic
import Derived.BigQuiet
import Derived.Lib.Strings
import Derived.Test.YtgfhahlkffagaaaDoorJ6
import Derived.Test.YtgfhahlkffagaaaDoorJ10
/-
  Contracts of the small functions: l1In, l1Bit, bitOf, sideValid, eqMatrix.
-/
namespace Go.Proofs.YtgfhahlkffagaaaDoor.Base
open Go.RowKit Go.Proofs.YtgfhahlkffagaaaDoor.Plain

set_option maxHeartbeats 400000 in
theorem l1In_true (n a b : Int) (h1 : a ≤ n) (h2 : n ≤ b) (w : World) :
    Calls Tryd.prog 51 #[.int .i64 n, .int .i64 a, .int .i64 b] w fun e w' => e = .returned (.bool true) ∧ w = w' := by
  go_enter Tryd.func51, Tryd.ntmps51
  go_wp2
  go_ret
  exact ⟨rfl, rfl⟩

set_option maxHeartbeats 400000 in
theorem l1In_false (n a b : Int) (h1 : n < a ∨ b < n) (w : World) :
    Calls Tryd.prog 51 #[.int .i64 n, .int .i64 a, .int .i64 b] w fun e w' => e = .returned (.bool false) ∧ w = w' := by
  by_cases h : a ≤ n
  · have h2 : b < n := by omega
    clear h1
    go_enter Tryd.func51, Tryd.ntmps51
    go_wp2
    go_ret
    exact ⟨by simp; omega, rfl⟩
  · have h2 : n < a := by omega
    clear h1 h
    go_enter Tryd.func51, Tryd.ntmps51
    go_wp2
    go_ret
    exact ⟨rfl, rfl⟩

set_option maxHeartbeats 400000 in
theorem side_true (n : Int) (h1 : 1 ≤ n) (h2 : n ≤ 8) (w : World) :
    Calls Tryd.prog 85 #[.int .i64 n] w fun e w' => e = .returned (.bool true) ∧ w = w' := by
  go_enter Tryd.func85, Tryd.ntmps85
  go_wp2
  go_ret
  exact ⟨rfl, rfl⟩

set_option maxHeartbeats 400000 in
theorem side_false (n : Int) (h1 : n < 1 ∨ 8 < n) (w : World) :
    Calls Tryd.prog 85 #[.int .i64 n] w fun e w' => e = .returned (.bool false) ∧ w = w' := by
  by_cases h : 1 ≤ n
  · have h2 : 8 < n := by omega
    clear h1
    go_enter Tryd.func85, Tryd.ntmps85
    go_wp2
    go_ret
    exact ⟨by simp; omega, rfl⟩
  · have h2 : n < 1 := by omega
    clear h1 h
    go_enter Tryd.func85, Tryd.ntmps85
    go_wp2
    go_ret
    exact ⟨rfl, rfl⟩

set_option maxHeartbeats 400000 in
theorem bitOf_any (b : Bool) (w : World) :
    Calls Tryd.prog 72 #[.bool b] w fun e w' => e = .returned (.int .i64 (bitI b)) ∧ w = w' := by
  cases b
  all_goals
    go_enter Tryd.func72, Tryd.ntmps72
    go_wp2
    go_ret
    exact ⟨rfl, rfl⟩

theorem and_one : ∀ m : Nat, m < 8 → Go.bits .and .i64 (m : Int) 1 = ((m % 2 : Nat) : Int) := by
  have h : ∀ k : Fin 8, Go.bits .and .i64 ((k.val : Nat) : Int) 1 = ((k.val % 2 : Nat) : Int) := by decide +kernel
  intro k hk
  exact h ⟨k, hk⟩
set_option maxHeartbeats 400000 in
theorem ones_any (n : Nat) (hn : n < 8) (w : World) :
    Calls Tryd.prog 127 #[.int .i64 (n : Int)] w fun e w' => e = .returned (.int .i64 (ones n : Int)) ∧ w = w' := by
  go_enter Tryd.func127, Tryd.ntmps127
  go_wp2_with fail
  go_loop [0, 3] (fun m k => ∃ (a t : Nat), a < 8 ∧ t ≤ 8 ∧ m = .int .i64 (a : Int) ∧ k = .int .i64 (t : Int) ∧ Hid (ones a + t = ones n)) (fun m _ => (intOf m).toNat)
  case atStart => exact ⟨n, 0, hn, by omega, rfl, rfl, rfl⟩
  case round =>
    obtain ⟨a, t, ha, ht, rfl, rfl, hs⟩ := hrel
    by_cases h0 : 0 < a
    · have hbit := and_one a ha
      go_wp2_with fail
      have ho := hs.out
      unfold ones at ho
      go_round
      case rel => exact ⟨a / 2, t + a % 2, by omega, by omega, by go_num, by go_num, by unfold Hid ones; omega⟩
      case measure => simp [intOf]; omega
    · obtain rfl : a = 0 := by omega
      have ho := hs.out
      have HO := Lib.hid (show t = ones n by unfold ones at ho ⊢; omega)
      clear hs ho
      go_wp2_with fail
      go_ret
      exact ⟨by rw [← HO.out]; rfl, rfl⟩

/-- a matrix as a value -/
abbrev mat (r c : Int) (s : ByteArray) : Value := .agg #[.int .i64 r, .int .i64 c, .string s]

end Go.Proofs.YtgfhahlkffagaaaDoor.Base

/-
  The contract of impl.matrixFrom, whatever function tells its entries.
-/
namespace Go.Proofs.YtgfhahlkffagaaaDoor.From
open Go.RowKit Go.Proofs.YtgfhahlkffagaaaDoor.Plain Go.Proofs.YtgfhahlkffagaaaDoor.Base

/-- what is asked of the function value: in every later world it tells the entry -/
def Tells (g : Nat) (lb : Array Value) (r c : Nat) (E : Nat → Nat → Bool) (w : World) : Prop :=
  ∀ (W : World) (x y : Nat), x < r → y < c → Below w.heap.size w W →
    Calls Tryd.prog g (#[.int .i64 (x : Int), .int .i64 (y : Int)] ++ lb) W fun e W' => e = .returned (.int .i64 (bitI (E x y))) ∧ Below W.heap.size W W'

theorem info5 : (Tryd.prog.info? 5).map (fun i => (i.zero, i.size, i.bytes)) = some (some (.int .u8 0), 1, 1) := by kernel_rfl

/-- the bytes as values -/
def vals (l : List UInt8) : List Value := l.map fun u => .int .u8 (u.toNat : Int)

/-- what a call left alone keeps what the call owns -/
theorem own_below {w w' : World} {base e size n : Nat} {v : Value} {xs : List Value} (h : w.ownsRow base e size v n xs) (hb : Below w.heap.size w w') : w'.ownsRow base e size v n xs := by
  have hg : w.grownBy w' none := ⟨hb.os, hb.tape, hb.output, hb.size, fun i hi _ => hb.block i hi⟩
  refine h.kept hg ?_
  cases v.ownBlock <;> simp

theorem Below.of_only {B : Nat} {w w' : World} (h : w.grownBy w' none) (hB : B ≤ w.heap.size) : Below B w w' :=
  ⟨h.os, h.tape, h.output, h.size, fun i hi => h.block i (by omega) (by simp)⟩
/-- the world with the result's block -/
abbrev w0 (w : World) : World := w.alloc (.cells #[.int .i64 0, .int .i64 0, .string ⟨#[]⟩] 27)
theorem below_w0 (w : World) : Below w.heap.size w (w0 w) := (Below.refl _ _).alloc (Nat.le_refl _) _
theorem w0_size (w : World) : (w0 w).heap.size = w.heap.size + 1 := by simp

/-- what the loops keep -/
def Keeps (w wr : World) (v : Value) (l : List UInt8) : Prop := wr.ownsRow (w.heap.size + 1) 5 1 v l.length (vals l) ∧ Below (w.heap.size + 1) (w0 w) wr

theorem conv_own {w : World} {base : Nat} {v : Value} {l : List UInt8} (h : w.ownsRow base 5 1 v l.length (vals l)) (hl : 1 ≤ l.length) :
    (convert 76 9 v).run Tryd.prog w = .ok (.string (str l)) w := by
  rcases h.2 with ⟨_, h0⟩ | ⟨g, cap, cur, rfl, _⟩
  · omega
  · refine run_convert_bytes_back w 76 9 5 ⟨g, 0, none⟩ cap l Tryd.underlying76 Tryd.underlying5 Tryd.underlying9 fun j hj => ?_
    exact h.cells rfl j _ (by simp [vals, List.getElem?_map, List.getElem?_eq_getElem hj])

theorem keeps_next {w w2 w3 : World} {v v3 : Value} {l : List UInt8} {b : Bool} (h : w2.ownsRow (w.heap.size + 1) 5 1 v l.length (vals l)) (hb : Below (w.heap.size + 1) (w0 w) w2) (o : Obj)
    (h3 : w3.ownsRow (w.heap.size + 1) 5 1 v3 (l.length + 1) (vals l ++ [.int .u8 ((dig b).toNat : Int)])) (hg : (w2.alloc o).grownBy w3 v.ownBlock) : Keeps w w3 v3 (l ++ [dig b]) := by
  refine ⟨by simpa [vals] using h3, (hb.alloc (by have := hb.size; simp at this; omega) o).grown hg (by have := hb.size; simp at this ⊢; omega) fun k hk => (h.lt k hk).1⟩

set_option maxHeartbeats 1000000 in
theorem from_any (g : Nat) (lb : Array Value) (r c : Nat) (hr : 1 ≤ r) (hr8 : r ≤ 8) (hc : 1 ≤ c) (hc8 : c ≤ 8) (E : Nat → Nat → Bool) (w : World)
    (eg : ∀ args W, (callFunc g args).run Tryd.prog W = .ok (.enter g args) W) (hT : Hid (Tells g lb r c E w)) :
    Calls Tryd.prog 70 #[.int .i64 (r : Int), .int .i64 (c : Int), .func (.func g) #[] lb] w fun e w' => e = .returned (.tuple #[mat r c (str (rowsB E r c)), .bool true]) ∧ Below w.heap.size w w' := by
  obtain ⟨i0, hi, hz0, hz1, hz2⟩ := info_parts info5
  have hmul := wrap_prod r c hr8 hc8
  obtain ⟨n, hn⟩ : ∃ n, r * c = n := ⟨_, rfl⟩
  have hn64 : n ≤ 64 := by rw [← hn]; exact prod_le hr8 hc8
  rw [hn] at hmul
  have HM := Lib.hid hmul
  clear hmul
  have HN := Lib.hid hn
  clear hn
  go_enter Tryd.func70, Tryd.ntmps70
  go_wp2_with (first | (go_at_call 85; refine (side_true _ ?_ ?_ _).mono ?_; omega; omega; rintro e w' ⟨rfl, rfl⟩) | (at_make; have X := HM.out; refine wpList_make_own _ rfl (.const (.int .i64 0)) (.tmp 22) 76 rfl (w.heap.size + 1) 5 i0 (.int .u8 0) 1 Tryd.underlying76 hi hz0 hz1 .i64 .i64 (wrap64 ((r : Int) * (c : Int))) n rfl rfl X ?b2 ?b3 ?b4 ?b5; go_must (case b2 => (rw [hz2]; omega)); go_must (case b3 => (unfold maxLen; omega)); go_must (case b4 => (simp; done)); go_must (clear X; intro w1 hown hgrow)))
  go_loopw [8, 25] (fun v x wr => ∃ (k : Nat), k ≤ r ∧ x = .int .i64 (k : Int) ∧ Keeps w wr v (rowsB E k c)) (fun _ x _ => r - (intOf x).toNat)
  case atStart => exact ⟨0, Nat.zero_le _, rfl, by simpa [rowsB_zero, vals] using hown, Below.of_only hgrow (by simp)⟩
  case round =>
    obtain ⟨k, hk, rfl, hkeep⟩ := hrel
    by_cases hlt : k < r
    · go_wp2_with fail
      go_loopw [8, 29] (fun v y wr => ∃ (j : Nat), j ≤ c ∧ y = .int .i64 (j : Int) ∧ Keeps w wr v (rowsB E k c ++ rowB E k j)) (fun _ y _ => c - (intOf y).toNat)
      case atStart => exact ⟨0, Nat.zero_le _, rfl, by rw [rowB_zero, List.append_nil]; exact hkeep⟩
      case round =>
        obtain ⟨j, hj, rfl, hkeep'⟩ := hrel
        by_cases hlt' : j < c
        · obtain ⟨hown1, hbel1⟩ := hkeep'
          have HO := Lib.hid hown1
          clear hown1 hkeep hown hgrow
          go_wp2_with fail
          refine (hT.out _ k j hlt hlt' ?_).mono ?_
          · exact (below_w0 w).trans (hbel1.mono (by omega))
          rintro e w2 ⟨rfl, hb2⟩
          have HO2 := Lib.hid (own_below HO.out hb2)
          have hbel2 : Below (w.heap.size + 1) (w0 w) w2 := hbel1.trans (hb2.mono (by have := hbel1.size; simp at this; omega))
          clear HO hb2
          have hlen : (rowsB E k c ++ rowB E k j).length ≤ 64 := by have := part_size E hr8 hc8 hlt hlt'; rwa [str_size] at this
          obtain ⟨b, hE⟩ : ∃ b, E k j = b := ⟨_, rfl⟩
          rw [hE]
          have HE := Lib.hid hE
          clear hE
          cases b
          · rw [bitI_false]
            go_wp2_with (at_builtin; have HH := HO2.out; refine wpList_append_own _ rfl (.tmp 32) (.tmp 39) 76 rfl (w.heap.size + 1) 5 i0 (.int .u8 0) 1 1 Tryd.underlying76 hi hz0 hz1 hz2 rfl (by decide) _ _ _ rfl (HH.alloc _) ⟨w2.heap.size, 0, none⟩ 1 1 [.int .u8 48] rfl rfl ?c1 ?c2 ?c3 ?c4 ?c5 ?c6; go_must (case c1 => exact (cell_one_new _ _ _)); go_must (case c2 => simp [Value.oneCell']); go_must (case c3 => (unfold maxLen; omega)); go_must (case c4 => omega); go_must (case c5 => (have := hbel2.size; simp at this ⊢; omega)); go_must (clear HH; intro v3 w3 hown3 hgrow3 _; have H3 := Lib.hid (keeps_next (b := false) HO2.out hbel2 _ hown3 hgrow3); clear HO2 hbel2 hown3 hgrow3))
            go_roundw
            case rel => exact ⟨j + 1, by omega, by go_num, by have h := H3.out; rw [← HE.out, List.append_assoc, ← rowB_succ] at h; exact h⟩
            case measure => simp [intOf]; omega
          · rw [bitI_true]
            go_wp2_with (at_builtin; have HH := HO2.out; refine wpList_append_own _ rfl (.tmp 32) (.tmp 39) 76 rfl (w.heap.size + 1) 5 i0 (.int .u8 0) 1 1 Tryd.underlying76 hi hz0 hz1 hz2 rfl (by decide) _ _ _ rfl (HH.alloc _) ⟨w2.heap.size, 0, none⟩ 1 1 [.int .u8 49] rfl rfl ?d1 ?d2 ?d3 ?d4 ?d5 ?d6; go_must (case d1 => exact (cell_one_new _ _ _)); go_must (case d2 => simp [Value.oneCell']); go_must (case d3 => (unfold maxLen; omega)); go_must (case d4 => omega); go_must (case d5 => (have := hbel2.size; simp at this ⊢; omega)); go_must (clear HH; intro v3 w3 hown3 hgrow3 _; have H3 := Lib.hid (keeps_next (b := true) HO2.out hbel2 _ hown3 hgrow3); clear HO2 hbel2 hown3 hgrow3))
            go_roundw
            case rel => exact ⟨j + 1, by omega, by go_num, by have h := H3.out; rw [← HE.out, List.append_assoc, ← rowB_succ] at h; exact h⟩
            case measure => simp [intOf]; omega
        · go_wp2_with fail
          obtain rfl : j = c := by omega
          go_roundw
          case rel => exact ⟨k + 1, by omega, by go_num, by rw [rowsB_succ]; exact hkeep'⟩
          case measure => simp [intOf]; omega
    · obtain rfl : k = r := by omega
      obtain ⟨hown1, hbel1⟩ := hkeep
      have hpos : 1 ≤ (rowsB E k c).length := by rw [rowsB_length]; exact Nat.mul_le_mul hr hc
      have hconv := conv_own hown1 hpos
      have hlt0 := w0_size w
      have c0 : wr.cell? ⟨w.heap.size, 0, none⟩ = some (.int .i64 0) := (hbel1.cell (p := ⟨w.heap.size, 0, none⟩) (by show w.heap.size < _; omega)).trans (by simp)
      have c1 : wr.cell? ⟨w.heap.size, 1, none⟩ = some (.int .i64 0) := (hbel1.cell (p := ⟨w.heap.size, 1, none⟩) (by show w.heap.size < _; omega)).trans (by simp)
      have c2 : wr.cell? ⟨w.heap.size, 2, none⟩ = some (.string ⟨#[]⟩) := (hbel1.cell (p := ⟨w.heap.size, 2, none⟩) (by show w.heap.size < _; omega)).trans (by simp)
      have f0 : ∀ i, wr.frozen? ⟨w.heap.size, i, none⟩ = false := fun i => (hbel1.frozen (p := ⟨w.heap.size, i, none⟩) (by show w.heap.size < _; omega)).trans (by simp)
      have f1 := f0 0
      have f2 := f0 1
      have f3 := f0 2
      clear f0 hlt0 hown1 hown hgrow hpos
      go_wp2_with fail
      refine bodyPost_ret (v := .tuple #[mat k c (str (rowsB E k c)), .bool true]) (by simp [results, Tryd.results70, go_sem, c0, c1, c2]) rfl ⟨rfl, ?_⟩
      exact ((((below_w0 w).trans (hbel1.mono (by omega))).setCell (Nat.le_refl _) _).setCell (Nat.le_refl _) _).setCell (Nat.le_refl _) _

set_option maxHeartbeats 400000 in
/-- too many rows or columns, or none -/
theorem from_no (fv : Value) (r c : Int) (h : (r < 1 ∨ 8 < r) ∨ (c < 1 ∨ 8 < c)) (w : World) :
    Calls Tryd.prog 70 #[.int .i64 r, .int .i64 c, fv] w fun e w' => e = .returned (.tuple #[mat 0 0 (str []), .bool false]) ∧ Below w.heap.size w w' := by
  by_cases h1 : r < 1 ∨ 8 < r
  · have H1 := Lib.hid h1
    clear h h1
    go_enter Tryd.func70, Tryd.ntmps70
    go_wp2_with (go_at_call 85; refine (side_false _ H1.out _).mono ?_; rintro e w' ⟨rfl, rfl⟩)
    refine bodyPost_ret (v := .tuple #[mat 0 0 (str []), .bool false]) (by simp [results, Tryd.results70, go_sem, str]) rfl ⟨rfl, ?_⟩
    go_grown
  · have h2 : c < 1 ∨ 8 < c := by omega
    have h3 : 1 ≤ r := by omega
    have h4 : r ≤ 8 := by omega
    have H1 := Lib.hid h2
    clear h h1 h2
    go_enter Tryd.func70, Tryd.ntmps70
    go_wp2_with fail
    refine (side_true _ h3 h4 _).mono ?_
    rintro e w' ⟨rfl, rfl⟩
    go_wp2_with fail
    refine (side_false _ H1.out _).mono ?_
    rintro e w' ⟨rfl, rfl⟩
    go_wp2_with fail
    refine bodyPost_ret (v := .tuple #[mat 0 0 (str []), .bool false]) (by simp [results, Tryd.results70, go_sem, str]) rfl ⟨rfl, ?_⟩
    go_grown
end Go.Proofs.YtgfhahlkffagaaaDoor.From

/-
  Sets of entries as numbers, and what the ends of a value cover.
-/
namespace Go.Proofs.YtgfhahlkffagaaaDoor.MatP
open Go.RowKit Go.Proofs.YtgfhahlkffagaaaDoor.Plain Go.Proofs.YtgfhahlkffagaaaDoor.Pat Go.Proofs.YtgfhahlkffagaaaDoor.Patch Go.Proofs.YtgfhahlkffagaaaDoor.Rect Go.Proofs.YtgfhahlkffagaaaDoor.Tree Go.Proofs.YtgfhahlkffagaaaDoor.TrimT Go.Proofs.YtgfhahlkffagaaaDoor.Leaf Go.Proofs.YtgfhahlkffagaaaDoor.Talk Go.Proofs.YtgfhahlkffagaaaDoor.MatT
set_option linter.unusedVariables false

set_option maxHeartbeats 1000000 in
theorem part_any (p q : Nat) (hp : p < 18446744073709551616) (hq : q < 18446744073709551616) (w : World) :
    Calls Tryd.prog 73 #[.int .u64 (p : Int), .int .u64 (q : Int)] w fun e w' => e = .returned (.bool (decide (p &&& (18446744073709551615 - q) = 0))) ∧ w = w' := by
  have HO := u64_andNot_nat p q hp hq
  generalize p &&& (18446744073709551615 - q) = n at *
  obtain ⟨b, hb⟩ : ∃ b, ((n : Int) == 0) = b := ⟨_, rfl⟩
  have HB : Hid (b = decide (n = 0)) := by
    unfold Hid
    rw [← hb, Bool.eq_iff_iff, beq_iff_eq, decide_eq_true_iff]
    omega
  go_enter Tryd.func73, Tryd.ntmps73
  go_wp2_with fail
  go_ret
  exact ⟨by rw [← HB.out]; rfl, rfl⟩

theorem sub_byte (a b : Nat) (ha : a < 256) (hb : b < 256) : a &&& (255 - b) = 0 ↔ ∀ y, a.testBit y = true → b.testBit y = true := by
  have h255 : ∀ y, (255 - b).testBit y = (decide (y < 8) && !b.testBit y) := fun y => by
    have := Nat.testBit_two_pow_sub_succ (x := b) (n := 8) hb y
    rwa [show 2 ^ 8 - (b + 1) = 255 - b by omega] at this
  constructor
  · intro h y hy
    have h2 : (a &&& (255 - b)).testBit y = false := by rw [h]; simp
    rw [Nat.testBit_and, hy, Bool.true_and, h255] at h2
    have h8 : y < 8 := by
      rcases Nat.lt_or_ge y 8 with h8 | h8
      · exact h8
      · rw [bit_high a y ha h8] at hy; cases hy
    simpa [h8] using h2
  · intro h
    apply Nat.eq_of_testBit_eq
    intro y
    rw [Nat.testBit_and, h255, Nat.zero_testBit]
    cases hy : a.testBit y with
    | false => rfl
    | true => simp [h y hy]
theorem part_pat (f g : Nat → Nat) (hf : ∀ x, f x < 256) (hg : ∀ x, g x < 256) : pat f 8 &&& (18446744073709551615 - pat g 8) = 0 ↔ ∀ x, x < 8 → ∀ y, (f x).testBit y = true → (g x).testBit y = true := by
  have hn := pat_not 8 g hg
  rw [show 18446744073709551615 - pat g 8 = 256 ^ 8 - 1 - pat g 8 from rfl, hn, pat_and 8 f _ hf (fun x => by have := hg x; omega), pat_zero]
  constructor
  · intro h x hx
    exact (sub_byte _ _ (hf x) (hg x)).1 (h x hx)
  · intro h x hx
    exact (sub_byte _ _ (hf x) (hg x)).2 (h x hx)
theorem below_same {P : Program} {f : FuncId} {args : Array Value} {v : Value} (h : ∀ w, Calls P f args w fun e w' => e = .returned v ∧ w = w') (w : World) : Calls P f args w fun e w' => e = .returned v ∧ Below w.heap.size w w' :=
  (h w).mono fun e w' ⟨he, hw⟩ => ⟨he, by subst hw; exact Below.refl _ _⟩

/-- the entries that the ends of a value cover, a byte a row -/
def fB (v : Bool) (l : List (Nat × Nat × Bool)) : Nat → Nat := fun j => l.foldr (fun p n => (if p.2.2 == v then rectB p.1 p.2.1 j else 0) ||| n) 0
theorem fB_nil (v : Bool) : fB v [] = fun _ => 0 := rfl
theorem fB_next (v : Bool) (l : List (Nat × Nat × Bool)) (p : Nat × Nat × Bool) (j : Nat) : fB v (l ++ [p]) j = fB v l j ||| (if p.2.2 == v then rectB p.1 p.2.1 j else 0) := by
  induction l with
  | nil => simp [fB]
  | cons q l ih =>
    simp only [fB] at ih ⊢
    simp only [List.cons_append, List.foldr_cons, ih, Nat.or_assoc]
theorem fB_bit (v : Bool) (x y : Nat) (l : List (Nat × Nat × Bool)) : (fB v l x).testBit y = covered v l x y := by
  induction l with
  | nil => simp [fB, covered]
  | cons p l ih =>
    simp only [fB, covered] at ih ⊢
    simp only [List.foldr_cons, List.any_cons, Nat.testBit_or, ih]
    congr 1
    cases h : p.2.2 == v
    · simp
    · simp only [if_true, Bool.true_and, rectB]
      cases hx : p.1.testBit x <;> simp
theorem fB_lt (v : Bool) (x : Nat) (l : List (Nat × Nat × Bool)) (h : ∀ p ∈ l, p.2.1 < 256) : fB v l x < 256 := by
  induction l with
  | nil => simp [fB]
  | cons p l ih =>
    have h1 := ih fun q hq => h q (List.mem_cons_of_mem _ hq)
    have h2 := h p (List.mem_cons_self ..)
    simp only [fB] at h1 ⊢
    simp only [List.foldr_cons]
    refine Nat.or_lt_two_pow (n := 8) ?_ h1
    split
    · exact rectB_lt _ _ h2 _
    · decide
theorem leaves_lt : ∀ (t : T) (R C : Nat), R < 256 → C < 256 → ∀ p ∈ leavesT t R C, p.1 < 256 ∧ p.2.1 < 256
  | .leaf b, R, C, hR, hC, p, hp => by
    simp only [leavesT] at hp
    split at hp
    · simp at hp
    · simp only [List.mem_singleton] at hp
      subst hp
      exact ⟨hR, hC⟩
  | .say a s z o, R, C, hR, hC, p, hp => by
    obtain ⟨h1, h2, h3, h4⟩ := parts_lt a s hR hC
    simp only [leavesT, List.mem_append] at hp
    rcases hp with hp | hp
    · exact leaves_lt z _ _ h1 h2 p hp
    · exact leaves_lt o _ _ h3 h4 p hp
theorem pow_lt8 {x : Nat} (hx : x < 8) : 2 ^ x < 256 := Nat.pow_lt_pow_right (by decide) hx
/-- an entry is in a set of entries -/
theorem part_bit (F : Nat → Nat) (hF : ∀ j, F j < 256) (x y : Nat) (hx : x < 8) (hy : y < 8) :
    decide (pat (rectB (2 ^ x) (2 ^ y)) 8 &&& (18446744073709551615 - pat F 8) = 0) = (F x).testBit y := by
  rw [Bool.eq_iff_iff, decide_eq_true_iff, part_pat _ F (fun j => rectB_lt _ _ (pow_lt8 hy) j) hF]
  constructor
  · intro h
    exact h x hx y (by simp [rectB, Nat.testBit_two_pow_self])
  · intro h j hj i hi
    simp only [rectB] at hi
    split at hi
    · rename_i hb
      rw [Nat.testBit_two_pow] at hb hi
      have e1 : x = j := by simpa using hb
      have e2 : y = i := by simpa using hi
      subst e1 e2
      exact h
    · simp at hi
/-- the number of the found entries grows by an end -/
theorem pat_next (v : Bool) (l : List (Nat × Nat × Bool)) (p : Nat × Nat × Bool) (h : ∀ q ∈ l, q.2.1 < 256) (hp : p.2.1 < 256) :
    pat (fB v (l ++ [p])) 8 = if p.2.2 == v then pat (fB v l) 8 ||| pat (rectB p.1 p.2.1) 8 else pat (fB v l) 8 := by
  rw [pat_congr 8 _ _ fun j _ => fB_next v l p j]
  cases hv : p.2.2 == v
  · simp
  · simp only [if_true]
    exact (pat_or 8 _ _ (fun j => fB_lt v j l h) (fun j => rectB_lt _ _ hp j)).symm
theorem shl_small {x : Nat} (hx : x < 8) : wrap64 ((2 : Int) ^ x) = ((2 ^ x : Nat) : Int) := by
  have e : x = 0 ∨ x = 1 ∨ x = 2 ∨ x = 3 ∨ x = 4 ∨ x = 5 ∨ x = 6 ∨ x = 7 := by omega
  rcases e with rfl | rfl | rfl | rfl | rfl | rfl | rfl | rfl <;> simp [wrap64]
end Go.Proofs.YtgfhahlkffagaaaDoor.MatP

