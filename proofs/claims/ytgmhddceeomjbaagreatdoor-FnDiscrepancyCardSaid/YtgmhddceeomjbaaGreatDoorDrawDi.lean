/-
  The drawing function DrawDiscrepancyOf.
-/
import Derived.Test.YtgmhddceeomjbaaGreatDoorJ7
namespace Go.Proofs.YtgmhddceeomjbaaGreatDoor.DrawDi
open Go.RowKit Go.Proofs.YtgmhddceeomjbaaGreatDoor.Plain Go.Proofs.YtgmhddceeomjbaaGreatDoor.Rd Go.Proofs.YtgmhddceeomjbaaGreatDoor.Rd2 Go.Proofs.YtgmhddceeomjbaaGreatDoor.Rd3 Go.Proofs.YtgmhddceeomjbaaGreatDoor.Rd4 Go.Proofs.YtgmhddceeomjbaaGreatDoor.Rd5 Go.Proofs.YtgmhddceeomjbaaGreatDoor.Rd6 Go.Proofs.YtgmhddceeomjbaaGreatDoor.Rd7
set_option linter.unusedVariables false

set_option maxHeartbeats 2000000 in
theorem draw_any (v : Value) (n : Nat) (w : World) (h : ByteArg w v n) :
    Calls Tryz.prog 20 #[v] w fun e w' => ∃ (a b : Int) (t : ByteArray), e = .returned (mtx a b t) ∧ W64 a ∧ W64 b ∧ t.size ≤ 100 ∧ Below w.heap.size w w' := by
  have h1 := h.later ((Below.refl w.heap.size w).alloc (Nat.le_refl _) (.cells #[.int .i64 0, .int .i64 0, .string ⟨#[]⟩] 27))
  have HO := Lib.hid (open_any v n _ h1)
  clear h h1
  go_enter Tryz.func20, Tryz.ntmps20
  go_wp2_with fail
  refine HO.out.mono ?_
  rintro e w1 ⟨g, rfl, hr, hb, hg⟩
  have hres : w1.heap[w.heap.size]? = some (.cells #[.int .i64 0, .int .i64 0, .string ⟨#[]⟩] 27 (0, 0)) := (hb.block _ (by simp)).trans (heap_alloc_new w _)
  have HB : Hid (Below w.heap.size w w1) := ((Below.refl w.heap.size w).alloc (Nat.le_refl _) _).trans (hb.mono (by simp))
  have hgl : w.heap.size < g := by simp at hg; omega
  have hgr := hr.lt
  have HT := Lib.hid (open_mat g 0 (by omega) w1 hr)
  have HR := Lib.hid hres
  clear hr hb hg hres HO
  go_wp2_with fail
  refine HT.out.mono ?_
  rintro e w2 ⟨a, b, t, p, rfl, wa, wb, ht, -, -, hr, ha⟩
  obtain ⟨o0, o1, o2, f0, f1, f2⟩ := cells3 ((ha.block _ (Array.getElem?_eq_some_iff.1 HR.out).1 (by omega)).trans HR.out)
  have HB2 : Hid (Below w.heap.size w w2) := ha.below HB.out (by omega)
  have HW : Hid (W64 a ∧ W64 b ∧ t.size ≤ 100) := ⟨wa, wb, ht⟩
  clear hr ha wa wb ht HB HT HR
  go_wp2_with fail
  refine bodyPost_ret (v := mtx a b t) (by simp [results, Tryz.results20, go_sem, o0, o1, o2]) rfl ⟨a, b, t, rfl, HW.out.1, HW.out.2.1, HW.out.2.2, ?_⟩
  exact ((HB2.out.setCell (by simp) _).setCell (by simp) _).setCell (by simp) _
end Go.Proofs.YtgmhddceeomjbaaGreatDoor.DrawDi
