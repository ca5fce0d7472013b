/-
  The walk of the law on PairMatrices.
-/
import Derived.Test.YtalechngagkklaaDoorPairN
import Derived.Test.YtalechngagkklaaDoorPairY
import Derived.Test.YtalechngagkklaaDoorPairS
namespace Go.Proofs.YtalechngagkklaaDoor.fnExactPairMatrices
open Go.RowKit Go.Proofs.YtalechngagkklaaDoor.Plain Go.Proofs.YtalechngagkklaaDoor.Base Go.Proofs.YtalechngagkklaaDoor.Valid Go.Proofs.YtalechngagkklaaDoor.Law Go.Proofs.YtalechngagkklaaDoor.GridPlain Go.Proofs.YtalechngagkklaaDoor.Grid Go.Proofs.YtalechngagkklaaDoor.Entry Go.Proofs.YtalechngagkklaaDoor.From Go.Proofs.YtalechngagkklaaDoor.JoinB Go.Proofs.YtalechngagkklaaDoor.Ops Go.Proofs.YtalechngagkklaaDoor.Join Go.Proofs.YtalechngagkklaaDoor.JoinI Go.Proofs.YtalechngagkklaaDoor.PairS
open Go.Proofs.YtalechngagkklaaDoor
open Go.Proofs.YtalechngagkklaaDoor.Free (fill wp_value wp_enter wp_load_row freeB wp_region_one get_of)
set_option linter.unusedVariables false

/-- a grid for each matrix -/
theorem grid_any (r c : Int) (s : ByteArray) (hs : s.size ≤ maxLen) : ∃ (R1 C1 : Int) (f1 : Nat → Int), ∀ W : World, Calls Tryd.prog 68 #[mat r c s] W fun e w' => e = .returned (gval R1 C1 f1) ∧ Below W.heap.size W w' := by
  by_cases hv : validB r c s = true
  · obtain ⟨R, C, E, rfl, rfl, h1, h2, h3, h4, rfl⟩ := valid_form hv
    have hsz : (str (rowsB E R C)).size ≤ 64 := by rw [str_size, rowsB_length]; exact prod_le h2 h4
    exact ⟨_, _, _, fun W => grid_yes E R C h1 h2 h3 h4 _ rfl hs hsz hv W⟩
  · rw [Bool.not_eq_true] at hv
    exact ⟨_, _, _, fun W => grid_no r c s hs hv W⟩
/-- both find one matrix -/
theorem both (op : ByteArray) (r c : Int) (s : ByteArray) (hs : s.size ≤ maxLen) (r2 c2 : Int) (s2 : ByteArray) (hs2 : s2.size ≤ maxLen) : ∃ (A B : Int) (u : ByteArray) (t : Bool),
    (∀ w, Calls Tryd.prog 49 #[.string op, mat r c s, mat r2 c2 s2] w fun e w' => e = .returned (.tuple #[mat A B u, .bool t]) ∧ Below w.heap.size w w') ∧
    (∀ w, Calls Tryd.prog 48 #[.string op, mat r c s, mat r2 c2 s2] w fun e w' => e = .returned (.tuple #[mat A B u, .bool t]) ∧ Below w.heap.size w w') := by
  by_cases hk : opKnown op = true
  · by_cases hv : validB r c s = true
    · by_cases hv2 : validB r2 c2 s2 = true
      · obtain ⟨R, C, E, rfl, rfl, h1, h2, h3, h4, rfl⟩ := valid_form hv
        obtain ⟨R2, C2, G, rfl, rfl, i1, i2, i3, i4, rfl⟩ := valid_form hv2
        have hsz : (str (rowsB E R C)).size ≤ 64 := by rw [str_size, rowsB_length]; exact prod_le h2 h4
        have hsz2 : (str (rowsB G R2 C2)).size ≤ 64 := by rw [str_size, rowsB_length]; exact prod_le i2 i4
        have hg1 := fun W => grid_yes E R C h1 h2 h3 h4 _ rfl hs hsz hv W
        have hg2 := fun W => grid_yes G R2 C2 i1 i2 i3 i4 _ rfl hs2 hsz2 hv2 W
        have hp : wrap64 ((R : Int) * (R2 : Int)) = ((R * R2 : Nat) : Int) := wrap_prod R R2 h2 i2
        have hq : wrap64 ((C : Int) * (C2 : Int)) = ((C * C2 : Nat) : Int) := wrap_prod C C2 h4 i4
        have hP1 : 1 ≤ R * R2 := Nat.mul_le_mul h1 i1
        have hQ1 : 1 ≤ C * C2 := Nat.mul_le_mul h3 i3
        by_cases e1 : R * R2 ≤ 8
        · by_cases e2 : C * C2 ≤ 8
          · exact ⟨_, _, _, _, fun w => pair_spec op hk E G R C R2 C2 h2 h4 i1 i2 i3 i4 _ _ rfl rfl e1 hQ1 e2 hv hv2 hs hs2 w, fun w => PairY.impl_yes op hk R C R2 C2 h1 h2 h3 h4 i1 i2 i3 i4 _ _ rfl rfl hP1 e1 hQ1 e2 E G _ _ hg1 hg2 w⟩
          · exact ⟨0, 0, str [], false, fun w => PairN.spec_great2 op hk _ _ _ _ _ _ hs hs2 hv hv2 _ _ hp hq (by omega) (by omega) w, fun w => PairI.impl_great op hk _ _ _ _ _ _ _ _ _ _ _ _ _ _ hp hq (by omega) hg1 hg2 w⟩
        · exact ⟨0, 0, str [], false, fun w => PairN.spec_great1 op hk _ _ _ _ _ _ hs hs2 hv hv2 _ _ hp hq (by omega) w, fun w => PairI.impl_great op hk _ _ _ _ _ _ _ _ _ _ _ _ _ _ hp hq (by omega) hg1 hg2 w⟩
      · rw [Bool.not_eq_true] at hv2
        obtain ⟨R, C, E, rfl, rfl, h1, h2, h3, h4, rfl⟩ := valid_form hv
        have hsz : (str (rowsB E R C)).size ≤ 64 := by rw [str_size, rowsB_length]; exact prod_le h2 h4
        have hg1 := fun W => grid_yes E R C h1 h2 h3 h4 _ rfl hs hsz hv W
        have hg2 := fun W => grid_no r2 c2 s2 hs2 hv2 W
        exact ⟨0, 0, str [], false, fun w => PairN.spec_bad2 op hk _ _ _ _ _ _ hs hs2 hv hv2 w, fun w => PairI.impl_great op hk _ _ _ _ _ _ _ _ _ _ _ _ 0 0 (by rw [Int.mul_zero]; first | decide | (unfold wrap64; omega)) (by rw [Int.mul_zero]; first | decide | (unfold wrap64; omega)) (.inl (.inl (by omega))) hg1 hg2 w⟩
    · rw [Bool.not_eq_true] at hv
      have hg1 := fun W => grid_no r c s hs hv W
      obtain ⟨R2, C2, f2, hg2⟩ := grid_any r2 c2 s2 hs2
      exact ⟨0, 0, str [], false, fun w => PairN.spec_bad1 op hk _ _ _ _ _ _ hs hs2 hv w, fun w => PairI.impl_great op hk _ _ _ _ _ _ _ _ _ _ _ _ 0 0 (by rw [Int.zero_mul]; first | decide | (unfold wrap64; omega)) (by rw [Int.zero_mul]; first | decide | (unfold wrap64; omega)) (.inl (.inl (by omega))) hg1 hg2 w⟩
  · rw [Bool.not_eq_true] at hk
    obtain ⟨R1, C1, f1, hg1⟩ := grid_any r c s hs
    obtain ⟨R2, C2, f2, hg2⟩ := grid_any r2 c2 s2 hs2
    exact ⟨0, 0, str [], false, fun w => PairN.spec_unknown op hk _ _ _ _ _ _ hs hs2 w, fun w => PairI.impl_unknown op hk _ _ _ _ _ _ _ _ _ _ _ _ hg1 hg2 w⟩

theorem linfo : (Tryd.prog.info? 46).map (·.size) = some 3 := by kernel_rfl
/-- the law's own boxes -/
def MBox (w : World) (b : Nat) (t : TypeId) (r c : Int) (s : ByteArray) : Prop := w.heap[b]? = some (.cells #[.int .i64 r, .int .i64 c, .string s] t (0, 0))
theorem MBox.on {w w1 : World} {b : Nat} {t : TypeId} {r c : Int} {s : ByteArray} (h : MBox w b t r c s) (hb : Below w.heap.size w w1) : MBox w1 b t r c s := (hb.block b (Array.getElem?_eq_some_iff.1 h).1).trans h
theorem MBox.c {w : World} {b : Nat} {t : TypeId} {r c : Int} {s : ByteArray} (h : MBox w b t r c s) : w.cell? ⟨b, 0, none⟩ = some (.int .i64 r) ∧ w.cell? ⟨b, 1, none⟩ = some (.int .i64 c) ∧ w.cell? ⟨b, 2, none⟩ = some (.string s) := cells3 h
theorem boxesM {w w1 : World} {r c x y : Int} {s t : ByteArray} {T U : TypeId} (hb : Below ((w.alloc (.cells #[.int .i64 r, .int .i64 c, .string s] T)).alloc (.cells #[.int .i64 x, .int .i64 y, .string t] U)).heap.size ((w.alloc (.cells #[.int .i64 r, .int .i64 c, .string s] T)).alloc (.cells #[.int .i64 x, .int .i64 y, .string t] U)) w1) :
    MBox w1 w.heap.size T r c s ∧ MBox w1 (w.heap.size + 1) U x y t ∧ Below w.heap.size w w1 := by
  have h1 : MBox ((w.alloc (.cells #[.int .i64 r, .int .i64 c, .string s] T)).alloc (.cells #[.int .i64 x, .int .i64 y, .string t] U)) w.heap.size T r c s := (Below.heap_alloc _ _ _ (by simp)).trans (heap_alloc_new w _)
  have h2 : MBox ((w.alloc (.cells #[.int .i64 r, .int .i64 c, .string s] T)).alloc (.cells #[.int .i64 x, .int .i64 y, .string t] U)) (w.heap.size + 1) U x y t := by
    have := heap_alloc_new (w.alloc (.cells #[.int .i64 r, .int .i64 c, .string s] T)) (.cells #[.int .i64 x, .int .i64 y, .string t] U)
    rwa [World.size_alloc] at this
  have h0 : Below w.heap.size w ((w.alloc (.cells #[.int .i64 r, .int .i64 c, .string s] T)).alloc (.cells #[.int .i64 x, .int .i64 y, .string t] U)) := ((Below.refl w.heap.size w).alloc (Nat.le_refl _) _).alloc (by simp) _
  exact ⟨h1.on hb, h2.on hb, bstep h0 hb⟩

end Go.Proofs.YtalechngagkklaaDoor.fnExactPairMatrices
