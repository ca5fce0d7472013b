/-
  The drawing functions DrawColourOf and DrawTurnMatrix.
-/
import Derived.Test.YtalechngagkklaaDoorRd10
namespace Go.Proofs.YtalechngagkklaaDoor.DrawCo
open Go.RowKit Go.Proofs.YtalechngagkklaaDoor.Plain Go.Proofs.YtalechngagkklaaDoor.Base Go.Proofs.YtalechngagkklaaDoor.Valid Go.Proofs.YtalechngagkklaaDoor.Pat Go.Proofs.YtalechngagkklaaDoor.Rect Go.Proofs.YtalechngagkklaaDoor.Rd Go.Proofs.YtalechngagkklaaDoor.Rd2 Go.Proofs.YtalechngagkklaaDoor.Rd3 Go.Proofs.YtalechngagkklaaDoor.Rd4 Go.Proofs.YtalechngagkklaaDoor.Rd5 Go.Proofs.YtalechngagkklaaDoor.Rd6 Go.Proofs.YtalechngagkklaaDoor.Rd7 Go.Proofs.YtalechngagkklaaDoor.Rd8 Go.Proofs.YtalechngagkklaaDoor.Rd9 Go.Proofs.YtalechngagkklaaDoor.Rd10
set_option linter.unusedVariables false

set_option maxHeartbeats 4000000 in
theorem draw_any (v : Value) (n : Nat) (w : World) (h : ByteArg w v n) :
    Calls Tryd.prog 12 #[v] w fun e w' => ∃ (a b : Int) (t : ByteArray) (x y : Int), e = .returned (.tuple #[mtx a b t, .agg #[.int .i64 x, .int .i64 y]]) ∧ W64 a ∧ W64 b ∧ t.size ≤ 100 ∧ W64 x ∧ W64 y ∧ Below w.heap.size w w' := by
  have hst := two_start_below w (.cells #[.int .i64 0, .int .i64 0, .string ⟨#[]⟩] 24) (.cells #[.int .i64 0, .int .i64 0] 26)
  have h1 := h.later hst
  have HO := Lib.hid (open_any v n _ h1)
  have HST := Lib.hid hst
  clear h h1 hst
  go_enter Tryd.func12, Tryd.ntmps12
  go_wp2_with fail
  refine HO.out.mono ?_
  rintro e w1 ⟨g, rfl, hr, hb, hg⟩
  have hs2 : w.heap.size + 2 ≤ g := by simp at hg; omega
  have r1 : w1.heap[w.heap.size]? = some (.cells #[.int .i64 0, .int .i64 0, .string ⟨#[]⟩] 24 (0, 0)) := (hb.block _ (by simp; omega)).trans ((Below.heap_alloc _ _ _ (by simp)).trans (heap_alloc_new w _))
  have r2 : w1.heap[w.heap.size + 1]? = some (.cells #[.int .i64 0, .int .i64 0] 26 (0, 0)) := (hb.block _ (by simp)).trans (by have := heap_alloc_new (w.alloc (.cells #[.int .i64 0, .int .i64 0, .string ⟨#[]⟩] 24)) (.cells #[.int .i64 0, .int .i64 0] 26); rwa [World.size_alloc] at this)
  have HB : Hid (Below w.heap.size w w1) := HST.out.trans (hb.mono (by simp; omega))
  have hgr := hr.lt
  have HT := Lib.hid (open_two g 0 (by omega) w1 hr)
  have HR := Lib.hid (And.intro r1 r2)
  clear hr hb hg r1 r2 HO HST
  go_wp2_with fail
  refine HT.out.mono ?_
  rintro e w2 ⟨a, b, t, x, y, p, rfl, wa, wb, ht, wx, wy, -, -, hr, ha⟩
  have hsz := ha.size
  obtain ⟨o0, o1, o2, f0, f1, f2⟩ := cells3 ((ha.block _ (Array.getElem?_eq_some_iff.1 HR.out.1).1 (by omega)).trans HR.out.1)
  obtain ⟨q0, q1, g0, g1⟩ := cells2 ((ha.block _ (Array.getElem?_eq_some_iff.1 HR.out.2).1 (by omega)).trans HR.out.2)
  have HB2 : Hid (Below w.heap.size w w2) := ha.below HB.out (by omega)
  have HW : Hid (W64 a ∧ W64 b ∧ t.size ≤ 100 ∧ W64 x ∧ W64 y) := ⟨wa, wb, ht, wx, wy⟩
  clear hr ha wa wb ht wx wy HB HT HR hsz
  go_wp2_with fail
  refine bodyPost_ret (v := .tuple #[mtx a b t, .agg #[.int .i64 x, .int .i64 y]]) (by simp [results, Tryd.results12, go_sem, o0, o1, o2, q0, q1]) rfl ⟨a, b, t, x, y, rfl, HW.out.1, HW.out.2.1, HW.out.2.2.1, HW.out.2.2.2.1, HW.out.2.2.2.2, ?_⟩
  exact ((((HB2.out.setCell (by simp) _).setCell (by simp) _).setCell (by simp) _).setCell (by simp) _).setCell (by simp) _
end Go.Proofs.YtalechngagkklaaDoor.DrawCo
