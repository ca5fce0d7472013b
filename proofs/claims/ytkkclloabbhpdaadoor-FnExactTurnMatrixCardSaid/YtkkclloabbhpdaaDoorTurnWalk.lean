/-
  The walk of the law on TurnMatrix.
-/
import Derived.Test.YtkkclloabbhpdaaDoorSpecTO
namespace Go.Proofs.YtkkclloabbhpdaaDoor.fnExactTurnMatrix
open Go.RowKit Go.Proofs.YtkkclloabbhpdaaDoor.Plain Go.Proofs.YtkkclloabbhpdaaDoor.Base Go.Proofs.YtkkclloabbhpdaaDoor.Valid Go.Proofs.YtkkclloabbhpdaaDoor.Law Go.Proofs.YtkkclloabbhpdaaDoor.GridPlain Go.Proofs.YtkkclloabbhpdaaDoor.Grid Go.Proofs.YtkkclloabbhpdaaDoor.Entry Go.Proofs.YtkkclloabbhpdaaDoor.Clos Go.Proofs.YtkkclloabbhpdaaDoor.SpecTO
set_option linter.unusedVariables false

/-- both find one matrix, or none -/
theorem both (r c : Int) (s : ByteArray) (hs : s.size ≤ maxLen) : ∃ (A B : Int) (u : ByteArray) (b : Bool),
    (∀ w, Calls Tryd.prog 24 #[mat r c s] w fun e w' => e = .returned (.tuple #[mat A B u, .bool b]) ∧ Below w.heap.size w w') ∧
    (∀ w, Calls Tryd.prog 23 #[mat r c s] w fun e w' => e = .returned (.tuple #[mat A B u, .bool b]) ∧ Below w.heap.size w w') := by
  by_cases hv : validB r c s = true
  · obtain ⟨R, C, E, rfl, rfl, h1, h2, h3, h4, rfl⟩ := valid_form hv
    have hsz : (str (rowsB E R C)).size ≤ 64 := by rw [str_size, rowsB_length]; exact prod_le h2 h4
    exact ⟨C, R, str (rowsB (fun x y => E y x) C R), true, fun w => turn_spec E R C h1 h2 h3 h4 hs hv w, fun w => turn_impl E R C h1 h2 h3 h4 _ w fun W => grid_yes E R C h1 h2 h3 h4 _ rfl hs hsz hv W⟩
  · have hv' : validB r c s = false := by simpa using hv
    exact ⟨0, 0, str [], false, fun w => turn_spec_no r c s hs hv' w, fun w => turn_impl_no r c s w fun W => grid_no r c s hs hv' W⟩

theorem three_at {w1 w2 : World} {a b c : Value} {T : TypeId} (hb : Below (w1.alloc (.cells #[a, b, c] T)).heap.size (w1.alloc (.cells #[a, b, c] T)) w2) :
    w1.heap.size < w2.heap.size ∧ w2.cell? ⟨w1.heap.size, 0, none⟩ = some a ∧ w2.cell? ⟨w1.heap.size, 1, none⟩ = some b ∧ w2.cell? ⟨w1.heap.size, 2, none⟩ = some c := by
  obtain ⟨h0, h1, h2⟩ := three_of hb
  exact ⟨by have := hb.size; simp at this; omega, h0, h1, h2⟩

set_option maxHeartbeats 1000000 in
theorem walk (r c : Int) (s : ByteArray) (wr : (Lit.int .i64 r).wf = true) (wc : (Lit.int .i64 c).wf = true) (hs : s.size ≤ maxLen) (w : World) :
    Calls Tryd.prog 13 #[mat r c s] w fun e w' => e = .returned (.bool true) ∧ Below w.heap.size w w' := by
  obtain ⟨A, B, u, b, hspec, himpl⟩ := both r c s hs
  have HS := Lib.hid hspec
  have HI := Lib.hid himpl
  clear hspec himpl
  have hs2 := hs
  unfold maxLen at hs2
  by_cases hbig : 1048576 < s.size
  · go_enter Tryd.func13, Tryd.ntmps13
    go_wp2_with fail
    refine (sz_over r c s _ (by omega) (by omega) hs _).mono ?_
    rintro e w1 ⟨rfl, hb1⟩
    have HB := Lib.hid (bstep ((Below.refl w.heap.size w).alloc (Nat.le_refl _) _) hb1)
    clear hb1
    go_wp2_with fail
    go_ret
    exact ⟨rfl, HB.out⟩
  · go_enter Tryd.func13, Tryd.ntmps13
    go_wp2_with fail
    refine (sz_fits r c s _ (by omega) (by omega) _).mono ?_
    rintro e w1 ⟨rfl, hb1⟩
    obtain ⟨k0, k1, k2⟩ := three_of hb1
    have hg : w.heap.size < w1.heap.size := by have := hb1.size; simp at this; omega
    have HB := Lib.hid (bstep ((Below.refl w.heap.size w).alloc (Nat.le_refl _) _) hb1)
    clear hb1
    go_wp2_with fail
    refine (to_any r c s _).mono ?_
    rintro e w2 ⟨rfl, hb2⟩
    go_wp2_with fail
    refine (HS.out _).mono ?_
    rintro e w3 ⟨rfl, hb3⟩
    have hg3 : w.heap.size < w3.heap.size := by have := hb2.size; have := hb3.size; omega
    obtain ⟨j0, j1, j2⟩ := three_on (hb2.trans (hb3.mono hb2.size)) hg k0 k1 k2
    have HB3 := Lib.hid (bstep (bstep HB.out hb2) hb3)
    clear hb2 hb3 k0 k1 k2 HB hg
    go_wp2_with fail
    refine (to_any r c s _).mono ?_
    rintro e w4 ⟨rfl, hb4⟩
    go_wp2_with fail
    refine (HI.out _).mono ?_
    rintro e w5 ⟨rfl, hb5⟩
    obtain ⟨hz, q0, q1, q2⟩ := three_at (hb4.trans (hb5.mono hb4.size))
    have HB5 := Lib.hid (bstep (bstep (bstepA HB3.out _) hb4) hb5)
    clear hb4 hb5 j0 j1 j2 HB3 hg3
    go_wp2_with fail
    refine (eq_same _ _ _ _).mono ?_
    rintro e w6 ⟨rfl, hb6⟩
    have HB6 := Lib.hid (bstep (bstepA HB5.out _) hb6)
    clear hb6 HB5
    cases b
    all_goals
      go_wp2_with fail
      go_ret
      exact ⟨rfl, HB6.out⟩
end Go.Proofs.YtkkclloabbhpdaaDoor.fnExactTurnMatrix
