/-
  The walk of the law on FormatMatrix.
-/
import Derived.Test.YtkkclloabbhpdaaDoorFmt
namespace Go.Proofs.YtkkclloabbhpdaaDoor.fnExactFormatMatrix
open Go.RowKit Go.Proofs.YtkkclloabbhpdaaDoor.Plain Go.Proofs.YtkkclloabbhpdaaDoor.Base Go.Proofs.YtkkclloabbhpdaaDoor.Valid Go.Proofs.YtkkclloabbhpdaaDoor.Law Go.Proofs.YtkkclloabbhpdaaDoor.Entry Go.Proofs.YtkkclloabbhpdaaDoor.Fmt
set_option linter.unusedVariables false

/-- both find one text -/
theorem both (r c : Int) (s : ByteArray) (hs : s.size ≤ maxLen) : ∃ u : ByteArray,
    (∀ w, Calls Tryd.prog 17 #[mat r c s] w fun e w' => e = .returned (.string u) ∧ Below w.heap.size w w') ∧
    (∀ w, Calls Tryd.prog 16 #[mat r c s] w fun e w' => e = .returned (.string u) ∧ Below w.heap.size w w') := by
  by_cases hv : validB r c s = true
  · obtain ⟨R, C, E, rfl, rfl, h1, h2, h3, h4, rfl⟩ := valid_form hv
    exact ⟨_, fun w => fmt_spec E R C h1 h2 h3 h4 hs hv w, fun w => fmt_impl E R C h1 h2 h3 h4 hs hv w⟩
  · have hv' : validB r c s = false := by simpa using hv
    exact ⟨_, fun w => fmt_spec_no r c s hs hv' w, fun w => fmt_impl_no r c s hs hv' w⟩

theorem walk (r c : Int) (s : ByteArray) (wr : (Lit.int .i64 r).wf = true) (wc : (Lit.int .i64 c).wf = true) (hs : s.size ≤ maxLen) (w : World) :
    Calls Tryd.prog 10 #[mat r c s] w fun e w' => e = .returned (.bool true) ∧ Below w.heap.size w w' := by
  obtain ⟨u, hspec, himpl⟩ := both r c s hs
  have HS := Lib.hid hspec
  have HI := Lib.hid himpl
  clear hspec himpl
  have hs2 := hs
  unfold maxLen at hs2
  by_cases hbig : 1048576 < s.size
  · go_enter Tryd.func10, Tryd.ntmps10
    go_wp2_with fail
    refine (sz_over r c s _ (by omega) (by omega) hs _).mono ?_
    rintro e w1 ⟨rfl, hb1⟩
    have HB := Lib.hid (bstep ((Below.refl w.heap.size w).alloc (Nat.le_refl _) _) hb1)
    clear hb1
    go_wp2_with fail
    go_ret
    exact ⟨rfl, HB.out⟩
  · go_enter Tryd.func10, Tryd.ntmps10
    go_wp2_with fail
    refine (sz_fits r c s _ (by omega) (by omega) _).mono ?_
    rintro e w1 ⟨rfl, hb1⟩
    obtain ⟨k0, k1, k2⟩ := three_of hb1
    have hg : w.heap.size < w1.heap.size := by have := hb1.size; simp at this; omega
    have HB := Lib.hid (bstep ((Below.refl w.heap.size w).alloc (Nat.le_refl _) _) hb1)
    clear hb1
    go_wp2_with fail
    refine (to_any r c s _).mono ?_
    rintro e w2 ⟨rfl, hb2⟩
    go_wp2_with fail
    refine (HS.out _).mono ?_
    rintro e w3 ⟨rfl, hb3⟩
    obtain ⟨j0, j1, j2⟩ := three_on (hb2.trans (hb3.mono hb2.size)) hg k0 k1 k2
    have HB3 := Lib.hid (bstep (bstep HB.out hb2) hb3)
    clear hb2 hb3 k0 k1 k2 HB
    go_wp2_with fail
    refine (to_any r c s _).mono ?_
    rintro e w4 ⟨rfl, hb4⟩
    go_wp2_with fail
    refine (HI.out _).mono ?_
    rintro e w5 ⟨rfl, hb5⟩
    have HB5 := Lib.hid (bstep (bstep HB3.out hb4) hb5)
    clear hb4 hb5 j0 j1 j2 HB3
    go_wp2_with fail
    all_goals (go_ret; exact ⟨rfl, HB5.out⟩)
end Go.Proofs.YtkkclloabbhpdaaDoor.fnExactFormatMatrix
