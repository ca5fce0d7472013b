/-
  The walk of the law on EntryOf.
-/
import Derived.Test.YtkkclloabbhpdaaDoorEntry
import Derived.Deep.WholeRow
namespace Go.Proofs.YtkkclloabbhpdaaDoor.fnExactEntryOf
open Go.RowKit Go.Proofs.YtkkclloabbhpdaaDoor.Plain Go.Proofs.YtkkclloabbhpdaaDoor.Base Go.Proofs.YtkkclloabbhpdaaDoor.Valid Go.Proofs.YtkkclloabbhpdaaDoor.Law Go.Proofs.YtkkclloabbhpdaaDoor.GridPlain Go.Proofs.YtkkclloabbhpdaaDoor.Grid Go.Proofs.YtkkclloabbhpdaaDoor.Entry
set_option linter.unusedVariables false

set_option maxHeartbeats 1000000 in
set_option maxRecDepth 100000 in
/-- the program's EntryOf, whatever grid gridOf tells -/
theorem impl_of (r c : Int) (s : ByteArray) (x y : Int) (R C : Int) (f : Nat → Int) (v : Int) (w : World)
    (hg : ∀ W : World, Calls Tryd.prog 58 #[mat r c s] W fun e w' => e = .returned (gval R C f) ∧ Below W.heap.size W w')
    (hv : (¬ ((0 ≤ x ∧ x < R) ∧ (0 ≤ y ∧ y < C)) ∧ v = -1) ∨ (∃ a b : Nat, x = a ∧ y = b ∧ a < 8 ∧ b < 8 ∧ ((0 ≤ x ∧ x < R) ∧ (0 ≤ y ∧ y < C)) ∧ v = f (8 * a + b))) :
    Calls Tryd.prog 47 #[mat r c s, .int .i64 x, .int .i64 y] w fun e w' => e = .returned (.int .i64 v) ∧ Below w.heap.size w w' := by
  have HG := Lib.hid hg
  clear hg
  have HV := Lib.hid hv
  clear hv
  go_enter Tryd.func47, Tryd.ntmps47
  go_wp2_with fail
  refine (HG.out _).mono ?_
  rintro e w1 ⟨rfl, hb1⟩
  have HB1 := Lib.hid (bstep ((Below.refl w.heap.size w).alloc (Nat.le_refl _) _) hb1)
  clear hb1
  go_wp2_with (first | (refine wpList_store_row rfl 68 (.tmp 7) (.tmp 9) rfl w1.heap.size (gcells R C f) rfl rfl 68 _ (heap_alloc_new w1 _) (ginfo' _ _ _) (by rw [gzero, gsize, gsize]) (gone _ _ _) ?_; rw [World.setRow_alloc_new]) | (refine wpList_load_row rfl 68 (.tmp 7) rfl w1.heap.size rfl 68 (gcells R C f) (0, 0) _ (heap_alloc_new w1 _) Tryd.underlying68 rfl (ginfo' _ _ _) ?_))
  refine (has_any R C f x y _).mono ?_
  rintro e w2 ⟨rfl, hb2⟩
  have h2 : w2.heap[w1.heap.size]? = some (.cells (gcells R C f) 68 (0, 0)) := (hb2.block _ (by simp)).trans (heap_alloc_new w1 _)
  have H2 := Lib.hid h2
  have HB2 := Lib.hid (bstep (bstepA HB1.out _) hb2)
  clear h2 hb2 HB1
  rcases HV.out with ⟨hno, rfl⟩ | ⟨a, b, rfl, rfl, ha, hb, hin, rfl⟩
  · rw [decide_eq_false hno]
    clear hno HV
    go_wp2_with fail
    go_ret
    exact ⟨rfl, HB2.out⟩
  · rw [decide_eq_true hin]
    clear hin HV
    go_wp2_with (have X := H2.out; refine wpList_load_row rfl 68 (.tmp 7) rfl w1.heap.size rfl 68 (gcells R C f) (0, 0) _ X Tryd.underlying68 rfl (ginfo' _ _ _) ?_; clear X)
    refine (entry_any R C f a b ha hb _).mono ?_
    rintro e w3 ⟨rfl, hb3⟩
    have HB3 := Lib.hid (bstep HB2.out hb3)
    clear hb3
    go_wp2_with fail
    go_ret
    exact ⟨rfl, HB3.out⟩

/-- m's box later on -/
theorem box3 {w w1 : World} {a b c : Value} {T : TypeId} (hb : Below (w.alloc (.cells #[a, b, c] T)).heap.size (w.alloc (.cells #[a, b, c] T)) w1) :
    w1.cell? ⟨w.heap.size, 0, none⟩ = some a ∧ w1.cell? ⟨w.heap.size, 1, none⟩ = some b ∧ w1.cell? ⟨w.heap.size, 2, none⟩ = some c ∧ w.heap.size < w1.heap.size ∧ Hid (Below w.heap.size w w1) := by
  obtain ⟨h0, h1, h2⟩ := three_of hb
  exact ⟨h0, h1, h2, by have := hb.size; simp at this; omega, bstep ((Below.refl w.heap.size w).alloc (Nat.le_refl _) _) hb⟩

set_option maxHeartbeats 1000000 in
theorem spec_no (r c : Int) (s : ByteArray) (hs : s.size ≤ maxLen) (x y : Int) (hv : validB r c s = false) (w : World) :
    Calls Tryd.prog 46 #[mat r c s, .int .i64 x, .int .i64 y] w fun e w' => e = .returned (.int .i64 (-1)) ∧ Below w.heap.size w w' := by
  have HV := Lib.hid hv
  clear hv
  go_enter Tryd.func46, Tryd.ntmps46
  go_wp2_with fail
  refine (spec_valid r c s hs _).mono ?_
  rintro e w1 ⟨rfl, hb1⟩
  rw [HV.out]
  obtain ⟨c0, c1, c2, hz, HB⟩ := box3 hb1
  clear hb1
  go_wp2_with fail
  go_ret
  exact ⟨rfl, HB.out⟩

set_option maxHeartbeats 400000 in
theorem int_any (b : Bool) (w : World) :
    Calls Tryd.prog 86 #[.bool b] w fun e w' => e = .returned (.int .i64 (bitI b)) ∧ w = w' := by
  cases b
  all_goals
    go_enter Tryd.func86, Tryd.ntmps86
    go_wp2
    go_ret
    exact ⟨rfl, rfl⟩

set_option maxHeartbeats 1000000 in
theorem spec_x (E : Nat → Nat → Bool) (R C : Nat) (hR : 1 ≤ R) (hR8 : R ≤ 8) (hC : 1 ≤ C) (hC8 : C ≤ 8) (x y : Int) (hx : x < 0 ∨ (R : Int) ≤ x) (hv : validB R C (str (rowsB E R C)) = true) (hs : (str (rowsB E R C)).size ≤ maxLen) (w : World) :
    Calls Tryd.prog 46 #[mat R C (str (rowsB E R C)), .int .i64 x, .int .i64 y] w fun e w' => e = .returned (.int .i64 (-1)) ∧ Below w.heap.size w w' := by
  have HV := Lib.hid hv
  generalize str (rowsB E R C) = s at *
  clear hv
  have HX : Hid (x < 0 ∨ (R : Int) - 1 < x) := by unfold Hid; omega
  clear hx
  go_enter Tryd.func46, Tryd.ntmps46
  go_wp2_with fail
  refine (spec_valid _ _ s hs _).mono ?_
  rintro e w1 ⟨rfl, hb1⟩
  rw [HV.out]
  obtain ⟨c0, c1, c2, hz, HB⟩ := box3 hb1
  clear hb1
  go_wp2_with fail
  refine (l1In_false _ _ _ HX.out _).mono ?_
  rintro e w' ⟨rfl, rfl⟩
  go_wp2_with fail
  go_ret
  exact ⟨rfl, HB.out⟩

set_option maxHeartbeats 1000000 in
theorem spec_y (E : Nat → Nat → Bool) (R C : Nat) (hR : 1 ≤ R) (hR8 : R ≤ 8) (hC : 1 ≤ C) (hC8 : C ≤ 8) (x y : Int) (hx : 0 ≤ x ∧ x < (R : Int)) (hy : y < 0 ∨ (C : Int) ≤ y) (hv : validB R C (str (rowsB E R C)) = true) (hs : (str (rowsB E R C)).size ≤ maxLen) (w : World) :
    Calls Tryd.prog 46 #[mat R C (str (rowsB E R C)), .int .i64 x, .int .i64 y] w fun e w' => e = .returned (.int .i64 (-1)) ∧ Below w.heap.size w w' := by
  have HV := Lib.hid hv
  generalize str (rowsB E R C) = s at *
  clear hv
  have HY : Hid (y < 0 ∨ (C : Int) - 1 < y) := by unfold Hid; omega
  obtain ⟨x0, x1⟩ := hx
  have x2 : x ≤ (R : Int) - 1 := by omega
  clear hy
  go_enter Tryd.func46, Tryd.ntmps46
  go_wp2_with fail
  refine (spec_valid _ _ s hs _).mono ?_
  rintro e w1 ⟨rfl, hb1⟩
  rw [HV.out]
  obtain ⟨c0, c1, c2, hz, HB⟩ := box3 hb1
  clear hb1
  go_wp2_with fail
  refine (l1In_true _ _ _ x0 x2 _).mono ?_
  rintro e w' ⟨rfl, rfl⟩
  go_wp2_with fail
  refine (l1In_false _ _ _ HY.out _).mono ?_
  rintro e w' ⟨rfl, rfl⟩
  go_wp2_with fail
  go_ret
  exact ⟨rfl, HB.out⟩

set_option maxHeartbeats 1000000 in
theorem spec_in (E : Nat → Nat → Bool) (R C : Nat) (hR : 1 ≤ R) (hR8 : R ≤ 8) (hC : 1 ≤ C) (hC8 : C ≤ 8) (a b : Nat) (ha : a < R) (hb : b < C) (hv : validB R C (str (rowsB E R C)) = true) (hs : (str (rowsB E R C)).size ≤ maxLen) (w : World) :
    Calls Tryd.prog 46 #[mat R C (str (rowsB E R C)), .int .i64 (a : Int), .int .i64 (b : Int)] w fun e w' => e = .returned (.int .i64 (bitI (E a b))) ∧ Below w.heap.size w w' := by
  have HV := Lib.hid hv
  have HAT := Lib.hid (at_any (E := E) (r := R) (c := C) hR8 hC8 a b ha hb)
  generalize str (rowsB E R C) = s at *
  clear hv
  go_enter Tryd.func46, Tryd.ntmps46
  go_wp2_with fail
  refine (spec_valid _ _ s hs _).mono ?_
  rintro e w1 ⟨rfl, hb1⟩
  rw [HV.out]
  obtain ⟨c0, c1, c2, hz, HB⟩ := box3 hb1
  clear hb1
  go_wp2_with fail
  refine (l1In_true _ _ _ (by omega) (by omega) _).mono ?_
  rintro e w' ⟨rfl, rfl⟩
  go_wp2_with fail
  refine (l1In_true _ _ _ (by omega) (by omega) _).mono ?_
  rintro e w' ⟨rfl, rfl⟩
  go_wp2_with fail
  refine (HAT.out _).mono ?_
  rintro e w2 ⟨rfl, hb2⟩
  have HB2 := Lib.hid (bstep HB.out hb2)
  clear hb2
  go_wp2_with fail
  refine (int_any _ _).mono ?_
  rintro e w' ⟨rfl, rfl⟩
  go_wp2_with fail
  go_ret
  exact ⟨rfl, HB2.out⟩

/-- both find one number -/
theorem both (r c : Int) (s : ByteArray) (hs : s.size ≤ maxLen) (x y : Int) : ∃ v : Int,
    (∀ w, Calls Tryd.prog 46 #[mat r c s, .int .i64 x, .int .i64 y] w fun e w' => e = .returned (.int .i64 v) ∧ Below w.heap.size w w') ∧
    (∀ w, Calls Tryd.prog 47 #[mat r c s, .int .i64 x, .int .i64 y] w fun e w' => e = .returned (.int .i64 v) ∧ Below w.heap.size w w') := by
  by_cases hv : validB r c s = true
  · obtain ⟨R, C, E, rfl, rfl, h1, h2, h3, h4, rfl⟩ := valid_form hv
    have hsz : (str (rowsB E R C)).size ≤ 64 := by rw [str_size, rowsB_length]; exact prod_le h2 h4
    have hg : ∀ W : World, Calls Tryd.prog 58 #[mat R C (str (rowsB E R C))] W fun e w' => e = .returned (gval R C (gpart E C (R * C))) ∧ Below W.heap.size W w' :=
      fun W => grid_yes E R C h1 h2 h3 h4 _ rfl hs hsz hv W
    by_cases hx : 0 ≤ x ∧ x < (R : Int)
    · by_cases hy : 0 ≤ y ∧ y < (C : Int)
      · obtain ⟨a, rfl⟩ := Int.eq_ofNat_of_zero_le hx.1
        obtain ⟨b, rfl⟩ := Int.eq_ofNat_of_zero_le hy.1
        refine ⟨bitI (E a b), fun w => spec_in E R C h1 h2 h3 h4 a b (by omega) (by omega) hv hs w, fun w => impl_of _ _ _ _ _ _ _ _ _ w hg (.inr ⟨a, b, rfl, rfl, by omega, by omega, ⟨hx, hy⟩, ?_⟩)⟩
        exact (gpart_all E R C a b (by omega) (by omega) h4).symm
      · exact ⟨-1, fun w => spec_y E R C h1 h2 h3 h4 x y hx (by omega) hv hs w, fun w => impl_of _ _ _ _ _ _ _ _ _ w hg (.inl ⟨fun h => hy h.2, rfl⟩)⟩
    · exact ⟨-1, fun w => spec_x E R C h1 h2 h3 h4 x y (by omega) hv hs w, fun w => impl_of _ _ _ _ _ _ _ _ _ w hg (.inl ⟨fun h => hx h.1, rfl⟩)⟩
  · have hv' : validB r c s = false := by simpa using hv
    refine ⟨-1, fun w => spec_no r c s hs x y hv' w, fun w => impl_of _ _ _ _ _ _ _ _ _ w (fun W => grid_no r c s hs hv' W) (.inl ⟨?_, rfl⟩)⟩
    omega

theorem walk (r c : Int) (s : ByteArray) (wr : (Lit.int .i64 r).wf = true) (wc : (Lit.int .i64 c).wf = true) (hs : s.size ≤ maxLen) (x : Int) (wx : (Lit.int .i64 x).wf = true) (y : Int) (wy : (Lit.int .i64 y).wf = true) (w : World) :
    Calls Tryd.prog 12 #[mat r c s, .int .i64 x, .int .i64 y] w fun e w' => e = .returned (.bool true) ∧ Below w.heap.size w w' := by
  obtain ⟨v, hspec, himpl⟩ := both r c s hs x y
  have HS := Lib.hid hspec
  have HI := Lib.hid himpl
  clear hspec himpl
  have hs2 := hs
  unfold maxLen at hs2
  by_cases hbig : 1048576 < s.size
  · go_enter Tryd.func12, Tryd.ntmps12
    go_wp2_with fail
    refine (sz_over r c s _ (by omega) (by omega) hs _).mono ?_
    rintro e w1 ⟨rfl, hb1⟩
    have HB := Lib.hid (bstep ((Below.refl w.heap.size w).alloc (Nat.le_refl _) _) hb1)
    clear hb1
    go_wp2_with fail
    go_ret
    exact ⟨rfl, HB.out⟩
  · go_enter Tryd.func12, Tryd.ntmps12
    go_wp2_with fail
    refine (sz_fits r c s _ (by omega) (by omega) _).mono ?_
    rintro e w1 ⟨rfl, hb1⟩
    obtain ⟨k0, k1, k2⟩ := three_of hb1
    have hg : w.heap.size < w1.heap.size := by have := hb1.size; simp at this; omega
    have HB := Lib.hid (bstep ((Below.refl w.heap.size w).alloc (Nat.le_refl _) _) hb1)
    clear hb1
    go_wp2_with fail
    refine (to_any r c s _).mono ?_
    rintro e w2 ⟨rfl, hb2⟩
    go_wp2_with fail
    refine (HS.out _).mono ?_
    rintro e w3 ⟨rfl, hb3⟩
    obtain ⟨j0, j1, j2⟩ := three_on (hb2.trans (hb3.mono hb2.size)) hg k0 k1 k2
    have HB3 := Lib.hid (bstep (bstep HB.out hb2) hb3)
    clear hb2 hb3 k0 k1 k2 HB
    go_wp2_with fail
    refine (to_any r c s _).mono ?_
    rintro e w4 ⟨rfl, hb4⟩
    go_wp2_with fail
    refine (HI.out _).mono ?_
    rintro e w5 ⟨rfl, hb5⟩
    have HB5 := Lib.hid (bstep (bstep HB3.out hb4) hb5)
    clear hb4 hb5 j0 j1 j2 HB3
    go_wp2_with fail
    all_goals (go_ret; exact ⟨rfl, HB5.out⟩)
end Go.Proofs.YtkkclloabbhpdaaDoor.fnExactEntryOf
