/-
  The walk of the law on NameProtocol.
-/
import Derived.Test.YtgfhahlkffagaaaDoorN2
namespace Go.Proofs.YtgfhahlkffagaaaDoor.fnExactNameProtocol
open Go.RowKit Go.Proofs.YtgfhahlkffagaaaDoor.Plain Go.Proofs.YtgfhahlkffagaaaDoor.Base Go.Proofs.YtgfhahlkffagaaaDoor.Valid Go.Proofs.YtgfhahlkffagaaaDoor.Law Go.Proofs.YtgfhahlkffagaaaDoor.Entry Go.Proofs.YtgfhahlkffagaaaDoor.NameN
set_option linter.unusedVariables false
set_option maxRecDepth 100000

/-- both answer the same -/
theorem both (r c : Int) (s : ByteArray) (hs : s.size ≤ maxLen) : ∃ (q : ByteArray) (b : Bool),
    (∀ w, Calls Tryd.prog 11 #[mat r c s] w fun e w' => e = .returned (.tuple #[.string q, .bool b]) ∧ Below w.heap.size w w') ∧
    (∀ w, Calls Tryd.prog 13 #[mat r c s] w fun e w' => e = .returned (.tuple #[.string q, .bool b]) ∧ Below w.heap.size w w') := by
  by_cases hv : validB r c s = true
  · obtain ⟨R, C, E, rfl, rfl, h1, h2, h3, h4, rfl⟩ := valid_form hv
    exact ⟨_, true, fun w => name_spec E R C h1 h2 h3 h4 hs hv w, fun w => name_impl E R C h1 h2 h3 h4 hs hv w⟩
  · have hv' : validB r c s = false := by simpa using hv
    exact ⟨_, false, fun w => name_spec_no r c s hs hv' w, fun w => name_impl_no r c s hs hv' w⟩

set_option maxHeartbeats 2000000 in
theorem walk (r c : Int) (s : ByteArray) (wr : (Lit.int .i64 r).wf = true) (wc : (Lit.int .i64 c).wf = true) (hs : s.size ≤ maxLen) (w : World) :
    Calls Tryd.prog 3 #[mat r c s] w fun e w' => e = .returned (.bool true) ∧ Below w.heap.size w w' := by
  obtain ⟨q, b, hS, hI⟩ := both r c s hs
  have HS := Lib.hid hS
  have HI := Lib.hid hI
  clear hS hI
  have hs2 := hs
  unfold maxLen at hs2
  by_cases hbig : 1048576 < s.size
  · go_enter Tryd.func3, Tryd.ntmps3
    go_wp2_with fail
    refine (sz_over r c s _ (by omega) (by omega) hs _).mono ?_
    rintro e w1 ⟨rfl, hb1⟩
    have HB := Lib.hid (bstep ((Below.refl w.heap.size w).alloc (Nat.le_refl _) _) hb1)
    clear hb1
    go_wp2_with fail
    go_ret
    exact ⟨rfl, HB.out⟩
  cases b
  all_goals
    go_enter Tryd.func3, Tryd.ntmps3
    go_wp2_with fail
    refine (sz_fits r c s _ (by omega) (by omega) _).mono ?_
    rintro e w1 ⟨rfl, hb1⟩
    obtain ⟨k0, k1, k2⟩ := three_of hb1
    have hg : w.heap.size < w1.heap.size := by have := hb1.size; simp at this; omega
    have HB := Lib.hid (bstep ((Below.refl w.heap.size w).alloc (Nat.le_refl _) _) hb1)
    clear hb1
    go_wp2_with fail
    refine (to_any r c s _).mono ?_
    rintro e w2 ⟨rfl, hb2⟩
    go_wp2_with fail
    refine (HS.out _).mono ?_
    rintro e w3 ⟨rfl, hb3⟩
    obtain ⟨j0, j1, j2⟩ := three_on (hb2.trans (hb3.mono hb2.size)) hg k0 k1 k2
    have HB3 := Lib.hid (bstep (bstep HB.out hb2) hb3)
    clear hb2 hb3 k0 k1 k2 HB HS
    go_wp2_with fail
    refine (to_any r c s _).mono ?_
    rintro e w4 ⟨rfl, hb4⟩
    go_wp2_with fail
    refine (HI.out _).mono ?_
    rintro e w5 ⟨rfl, hb5⟩
    have HB5 := Lib.hid (bstep (bstep HB3.out hb4) hb5)
    clear hb4 hb5 j0 j1 j2 HB3 HI
    go_wp2_with fail
    all_goals (go_ret; exact ⟨rfl, HB5.out⟩)
end Go.Proofs.YtgfhahlkffagaaaDoor.fnExactNameProtocol
