/-
  The drawing function DrawFormatRect.
-/
import Derived.Test.YtalechngagkklaaRd10
namespace Go.Proofs.Ytalechngagkklaa.DrawFR
open Go.RowKit Go.Proofs.Ytalechngagkklaa.Plain Go.Proofs.Ytalechngagkklaa.Rd Go.Proofs.Ytalechngagkklaa.Rd2 Go.Proofs.Ytalechngagkklaa.Rd3 Go.Proofs.Ytalechngagkklaa.Rd4 Go.Proofs.Ytalechngagkklaa.Rd5 Go.Proofs.Ytalechngagkklaa.Rd6 Go.Proofs.Ytalechngagkklaa.Rd7 Go.Proofs.Ytalechngagkklaa.Rd8 Go.Proofs.Ytalechngagkklaa.Rd9 Go.Proofs.Ytalechngagkklaa.Rd10
set_option linter.unusedVariables false

/-- the world in which a matrix and a rectangle have been laid -/
abbrev laid2 (w2 : World) (a b : Int) (t : ByteArray) (x y : Int) : World :=
  (w2.alloc (.cells #[.int .i64 a, .int .i64 b, .string t] 33)).alloc (.cells #[.int .i64 x, .int .i64 y] 24)
theorem laid2_rect (w2 : World) (B : Nat) (hB : w2.heap.size = B) (a b : Int) (t : ByteArray) (x y : Int) : (laid2 w2 a b t x y).heap[B + 1]? = some (.cells #[.int .i64 x, .int .i64 y] 24 (0, 0)) := by
  have := heap_alloc_new (w2.alloc (.cells #[.int .i64 a, .int .i64 b, .string t] 33)) (.cells #[.int .i64 x, .int .i64 y] 24)
  rwa [World.size_alloc, hB] at this

set_option maxHeartbeats 1000000 in
theorem draw_any (v : Value) (n : Nat) (w : World) (h : ByteArg w v n) :
    Calls Try.prog 4 #[v] w fun e w' => ∃ x y : Int, e = .returned (.agg #[.int .i64 x, .int .i64 y]) ∧ W64 x ∧ W64 y ∧ Below w.heap.size w w' := by
  have hst := (Below.refl w.heap.size w).alloc (Nat.le_refl _) (.cells #[.int .i64 0, .int .i64 0] 24)
  have h1 := h.later hst
  have HO := Lib.hid (open_any v n _ h1)
  have HST := Lib.hid hst
  clear h h1 hst
  go_enter Try.func4, Try.ntmps4
  go_wp2_with fail
  refine HO.out.mono ?_
  rintro e w1 ⟨g, rfl, hr, hb, hg⟩
  have hs1 : w.heap.size + 1 ≤ g := by simp at hg; omega
  have r1 : w1.heap[w.heap.size]? = some (.cells #[.int .i64 0, .int .i64 0] 24 (0, 0)) := (hb.block _ (by simp)).trans (heap_alloc_new w _)
  have HB : Hid (Below w.heap.size w w1) := HST.out.trans (hb.mono (by simp))
  have hgr := hr.lt
  have HT := Lib.hid (open_two g 0 (by omega) w1 hr)
  have HR := Lib.hid r1
  clear hr hb hg r1 HO HST
  go_wp2_with fail
  refine HT.out.mono ?_
  rintro e w2 ⟨a, b, t, x, y, p, rfl, wa, wb, ht, wx, wy, -, -, hr, ha⟩
  obtain ⟨B, hB⟩ : ∃ B, w2.heap.size = B := ⟨_, rfl⟩
  have hle : w.heap.size < w2.heap.size := by
    have := ha.size
    omega
  have hrow := (ha.block _ (Array.getElem?_eq_some_iff.1 HR.out).1 (by omega)).trans HR.out
  obtain ⟨m0, m1, -, -⟩ := cells2 (laid2_rect w2 B hB a b t x y)
  obtain ⟨o0, o1, f0, f1⟩ := cells2 hrow
  have HB2 : Hid (Below w.heap.size w w2) := ha.below HB.out (by omega)
  have HW : Hid (W64 x ∧ W64 y) := ⟨wx, wy⟩
  have hlt : w.heap.size < B := by omega
  have HROW := Lib.hid hrow
  clear hr ha wa wb ht wx wy HB HT HR hle hs1 hgr hrow
  go_wp2_with fail
  clear m0 m1 o0 o1 f0 f1
  have l1 : (w2.setCell ⟨w.heap.size, 0, none⟩ (.int .i64 x)).heap[w.heap.size]? = some (.cells #[.int .i64 x, .int .i64 0] 24 (0, 0)) := (heap_setCell_same _ _ _ _ _ _ HROW.out).trans (by simp)
  have hb3 : Below w.heap.size w ((w2.setCell ⟨w.heap.size, 0, none⟩ (.int .i64 x)).setCell ⟨w.heap.size, 1, none⟩ (.int .i64 y)) := (HB2.out.setCell (by simp) _).setCell (by simp) _
  have l2 : ((w2.setCell ⟨w.heap.size, 0, none⟩ (.int .i64 x)).setCell ⟨w.heap.size, 1, none⟩ (.int .i64 y)).heap[w.heap.size]? = some (.cells #[.int .i64 x, .int .i64 y] 24 (0, 0)) := (heap_setCell_same _ _ _ _ _ _ l1).trans (by simp)
  have hsz : ((w2.setCell ⟨w.heap.size, 0, none⟩ (.int .i64 x)).setCell ⟨w.heap.size, 1, none⟩ (.int .i64 y)).heap.size = B := by simpa using hB
  generalize (w2.setCell ⟨w.heap.size, 0, none⟩ (.int .i64 x)).setCell ⟨w.heap.size, 1, none⟩ (.int .i64 y) = wy at *
  have hb4 := two_start_below wy (.cells #[.int .i64 a, .int .i64 b, .string t] 33) (.cells #[.int .i64 x, .int .i64 y] 24)
  obtain ⟨o0, o1, -, -⟩ := cells2 ((hb4.block _ (by omega)).trans l2)
  have hb5 := hb3.trans (hb4.mono hb3.size)
  generalize (wy.alloc (.cells #[.int .i64 a, .int .i64 b, .string t] 33)).alloc (.cells #[.int .i64 x, .int .i64 y] 24) = wz at *
  exact bodyPost_ret (v := .agg #[.int .i64 x, .int .i64 y]) (by simp [results, Try.results4, go_sem, o0, o1]) rfl ⟨x, y, rfl, HW.out.1, HW.out.2, hb5⟩
end Go.Proofs.Ytalechngagkklaa.DrawFR
