/-
  The walk of the law on Computes.
-/
import Derived.Test.YtgfhahlkffagaaaDoorErrB
namespace Go.Proofs.YtgfhahlkffagaaaDoor.fnExactComputes
open Go.RowKit Go.Proofs.YtgfhahlkffagaaaDoor.Plain Go.Proofs.YtgfhahlkffagaaaDoor.Base Go.Proofs.YtgfhahlkffagaaaDoor.Valid Go.Proofs.YtgfhahlkffagaaaDoor.Law Go.Proofs.YtgfhahlkffagaaaDoor.ErrB
set_option linter.unusedVariables false
set_option maxRecDepth 100000

set_option maxHeartbeats 2000000 in
theorem walk (p : ByteArray) (hp : p.size ≤ maxLen) (r c : Int) (s : ByteArray) (wr : (Lit.int .i64 r).wf = true) (wc : (Lit.int .i64 c).wf = true) (hs : s.size ≤ maxLen) (w : World) :
    Calls Tryd.prog 5 #[.string p, mat r c s] w fun e w' => e = .returned (.bool true) ∧ Below w.heap.size w w' := by
  have hs2 := hs
  have hp2 := hp
  unfold maxLen at hs2 hp2
  by_cases hlong : 1048576 < p.size
  · go_enter Tryd.func5, Tryd.ntmps5
    go_wp2_with fail
    go_ret
    exact ⟨rfl, (Below.refl w.heap.size w).alloc (Nat.le_refl _) _⟩
  by_cases hbig : 1048576 < s.size
  · go_enter Tryd.func5, Tryd.ntmps5
    go_wp2_with fail
    refine (sz_over r c s _ (by omega) (by omega) hs _).mono ?_
    rintro e w1 ⟨rfl, hb1⟩
    have HB := Lib.hid (bstep ((Below.refl w.heap.size w).alloc (Nat.le_refl _) _) hb1)
    clear hb1
    go_wp2_with fail
    go_ret
    exact ⟨rfl, HB.out⟩
  · obtain ⟨n, hS, hI⟩ := comp_both p (by omega) r c s hs
    have HS := Lib.hid hS
    have HI := Lib.hid hI
    clear hS hI
    replace hlong : p.size ≤ 1048576 := by omega
    cases n
    all_goals
      go_enter Tryd.func5, Tryd.ntmps5
      go_wp2_with fail
      refine (sz_fits r c s _ (by omega) (by omega) _).mono ?_
      rintro e w1 ⟨rfl, hb1⟩
      obtain ⟨k0, k1, k2⟩ := three_of hb1
      have hg : w.heap.size < w1.heap.size := by have := hb1.size; simp at this; omega
      have HB := Lib.hid (bstep ((Below.refl w.heap.size w).alloc (Nat.le_refl _) _) hb1)
      clear hb1
      go_wp2_with fail
      refine (to_any r c s _).mono ?_
      rintro e w2 ⟨rfl, hb2⟩
      go_wp2_with fail
      refine (HS.out _).mono ?_
      rintro e w3 ⟨rfl, hb3⟩
      obtain ⟨j0, j1, j2⟩ := three_on (hb2.trans (hb3.mono hb2.size)) hg k0 k1 k2
      have HB3 := Lib.hid (bstep (bstep HB.out hb2) hb3)
      clear hb2 hb3 k0 k1 k2 HB HS
      go_wp2_with fail
      refine (to_any r c s _).mono ?_
      rintro e w4 ⟨rfl, hb4⟩
      go_wp2_with fail
      refine (HI.out _).mono ?_
      rintro e w5 ⟨rfl, hb5⟩
      have HB5 := Lib.hid (bstep (bstep HB3.out hb4) hb5)
      clear hb4 hb5 j0 j1 j2 HB3 HI
      go_wp2_with fail
      all_goals (go_ret; exact ⟨rfl, HB5.out⟩)
end Go.Proofs.YtgfhahlkffagaaaDoor.fnExactComputes
