/-
  The drawing function DrawInRect.
-/
import Derived.Test.YtmkghdhkgajieaaRd10
namespace Go.Proofs.Ytmkghdhkgajieaa.DrawIR
open Go.RowKit Go.Proofs.Ytmkghdhkgajieaa.Plain Go.Proofs.Ytmkghdhkgajieaa.Base Go.Proofs.Ytmkghdhkgajieaa.Rect Go.Proofs.Ytmkghdhkgajieaa.Rd Go.Proofs.Ytmkghdhkgajieaa.Rd2 Go.Proofs.Ytmkghdhkgajieaa.Rd3 Go.Proofs.Ytmkghdhkgajieaa.Rd4 Go.Proofs.Ytmkghdhkgajieaa.Rd5 Go.Proofs.Ytmkghdhkgajieaa.Rd6 Go.Proofs.Ytmkghdhkgajieaa.Rd7 Go.Proofs.Ytmkghdhkgajieaa.Rd8 Go.Proofs.Ytmkghdhkgajieaa.Rd9 Go.Proofs.Ytmkghdhkgajieaa.Rd10
set_option linter.unusedVariables false

/-- what is known in the midst: the result's block, the drawn rectangle's block, the reader -/
structure II (g : Nat) (w wr : World) (b : Nat) (x y : Int) (p : Nat) : Prop where
  res : wr.heap[w.heap.size]? = some (.cells #[.int .i64 0, .int .i64 0] 29 (0, 0))
  loc : wr.heap[b]? = some (.cells #[.int .i64 x, .int .i64 y] 29 (0, 0))
  lo : w.heap.size < b
  hg : w.heap.size < g
  hb : g < b
  below : Below w.heap.size w wr
  rd : Rdr wr g p
theorem II.lt {g : Nat} {w wr : World} {b : Nat} {x y : Int} {p : Nat} (h : II g w wr b x y p) : b < wr.heap.size := (Array.getElem?_eq_some_iff.1 h.loc).1
theorem II.later {g : Nat} {w wr w2 : World} {b : Nat} {x y : Int} {p q : Nat} (h : II g w wr b x y p) (ha : Apt g wr w2) (hr : Rdr w2 g q) : II g w w2 b x y q :=
  ⟨(ha.block _ (Array.getElem?_eq_some_iff.1 h.res).1 (by have := h.hg; omega)).trans h.res, (ha.block _ h.lt (by have := h.hb; omega)).trans h.loc, h.lo, h.hg, h.hb, ha.below h.below (by have := h.hg; omega), hr⟩
theorem II.drew {g : Nat} {w wr : World} {b : Nat} {x y : Int} {p : Nat} (h : II g w wr b x y p) : II g w wr.drew b x y p := h.later (Apt.of_below (drawn_at wr 1)) (h.rd.later (drawn_at wr 1))

set_option maxHeartbeats 4000000 in
theorem draw_any (v : Value) (n : Nat) (w : World) (h : ByteArg w v n) :
    Calls Try.prog 9 #[v] w fun e w' => ∃ x y i k : Int, e = .returned (.tuple #[.agg #[.int .i64 x, .int .i64 y], .int .i64 i, .int .i64 k]) ∧ W64 x ∧ W64 y ∧ W64 i ∧ W64 k ∧ Below w.heap.size w w' := by
  have h1 := h.later ((Below.refl w.heap.size w).alloc (Nat.le_refl _) (.cells #[.int .i64 0, .int .i64 0] 29))
  have HO := Lib.hid (open_any v n _ h1)
  clear h h1
  go_enter Try.func9, Try.ntmps9
  go_wp2_with fail
  refine HO.out.mono ?_
  rintro e w1 ⟨g, rfl, hr, hb, hg⟩
  have hres : w1.heap[w.heap.size]? = some (.cells #[.int .i64 0, .int .i64 0] 29 (0, 0)) := (hb.block _ (by simp)).trans (heap_alloc_new w _)
  have HB : Hid (Below w.heap.size w w1) := ((Below.refl w.heap.size w).alloc (Nat.le_refl _) _).trans (hb.mono (by simp))
  have hgl : w.heap.size < g := by simp at hg; omega
  have hgr := hr.lt
  have HT := Lib.hid (open_two g 0 (by omega) w1 hr)
  have HR := Lib.hid hres
  clear hr hb hg hres HO
  go_wp2_with fail
  refine HT.out.mono ?_
  rintro e w2 ⟨a, b, t, x, y, p, rfl, wa, wb, ht, wx, wy, hp0, hp, hr, ha⟩
  have hsz := ha.size
  have hres2 : w2.heap[w.heap.size]? = some (.cells #[.int .i64 0, .int .i64 0] 29 (0, 0)) := (ha.block _ (Array.getElem?_eq_some_iff.1 HR.out).1 (by omega)).trans HR.out
  have hlo : w.heap.size < w2.heap.size := (Array.getElem?_eq_some_iff.1 hres2).1
  obtain ⟨B, hB⟩ : ∃ B, w2.heap.size + 1 = B := ⟨_, rfl⟩
  have HI : Hid (II g w (((((((w2.alloc (.cells #[.int .i64 0, .int .i64 0, .string ⟨#[]⟩] 40)).alloc (.cells #[.int .i64 0, .int .i64 0] 29)).setCell ⟨w2.heap.size, 0, none⟩ (.int .i64 a)).setCell ⟨w2.heap.size, 1, none⟩ (.int .i64 b)).setCell ⟨w2.heap.size, 2, none⟩ (.string t)).setCell ⟨B, 0, none⟩ (.int .i64 x)).setCell ⟨B, 1, none⟩ (.int .i64 y)) B x y p) := by
    have hbb : Below w2.heap.size w2 ((w2.alloc (.cells #[.int .i64 0, .int .i64 0, .string ⟨#[]⟩] 40)).alloc (.cells #[.int .i64 0, .int .i64 0] 29)) := two_start_below w2 _ _
    have hnew : ((w2.alloc (.cells #[.int .i64 0, .int .i64 0, .string ⟨#[]⟩] 40)).alloc (.cells #[.int .i64 0, .int .i64 0] 29)).heap[B]? = some (.cells #[.int .i64 0, .int .i64 0] 29 (0, 0)) := by
      have := heap_alloc_new (w2.alloc (.cells #[.int .i64 0, .int .i64 0, .string ⟨#[]⟩] 40)) (.cells #[.int .i64 0, .int .i64 0] 29)
      rwa [World.size_alloc, hB] at this
    have hbel : Below w.heap.size w ((w2.alloc (.cells #[.int .i64 0, .int .i64 0, .string ⟨#[]⟩] 40)).alloc (.cells #[.int .i64 0, .int .i64 0] 29)) := (ha.below HB.out (by omega)).trans (hbb.mono (by omega))
    have hres3 := (hbb.block _ hlo).trans hres2
    have hrd := hr.later hbb
    generalize (w2.alloc (.cells #[.int .i64 0, .int .i64 0, .string ⟨#[]⟩] 40)).alloc (.cells #[.int .i64 0, .int .i64 0] 29) = wx at *
    refine ⟨?_, ?_, by omega, hgl, by omega, ?_, ?_⟩
    · rw [heap_setCell_other _ _ _ _ (by simp; omega), heap_setCell_other _ _ _ _ (by simp; omega), heap_setCell_other _ _ _ _ (by simp; omega), heap_setCell_other _ _ _ _ (by simp; omega), heap_setCell_other _ _ _ _ (by simp; omega)]
      exact hres3
    · have l1 : (((wx.setCell ⟨w2.heap.size, 0, none⟩ (.int .i64 a)).setCell ⟨w2.heap.size, 1, none⟩ (.int .i64 b)).setCell ⟨w2.heap.size, 2, none⟩ (.string t)).heap[B]? = some (.cells #[.int .i64 0, .int .i64 0] 29 (0, 0)) := by
        rw [heap_setCell_other _ _ _ _ (by simp; omega), heap_setCell_other _ _ _ _ (by simp; omega), heap_setCell_other _ _ _ _ (by simp; omega)]
        exact hnew
      generalize ((wx.setCell ⟨w2.heap.size, 0, none⟩ (.int .i64 a)).setCell ⟨w2.heap.size, 1, none⟩ (.int .i64 b)).setCell ⟨w2.heap.size, 2, none⟩ (.string t) = wy at *
      have l2 : (wy.setCell ⟨B, 0, none⟩ (.int .i64 x)).heap[B]? = some (.cells #[.int .i64 x, .int .i64 0] 29 (0, 0)) := (heap_setCell_same _ _ _ _ _ _ l1).trans (by simp)
      exact (heap_setCell_same _ _ _ _ _ _ l2).trans (by simp)
    · exact ((((hbel.setCell (by simp; omega) _).setCell (by simp; omega) _).setCell (by simp; omega) _).setCell (by simp; omega) _).setCell (by simp; omega) _
    · exact rdr_set (rdr_set (rdr_set (rdr_set (rdr_set hrd _ _ _ (by omega)) _ _ _ (by omega)) _ _ _ (by omega)) _ _ _ (by omega)) _ _ _ (by omega)
  have HW : Hid (W64 x ∧ W64 y ∧ p ≤ 300) := ⟨wx, wy, by omega⟩
  have hp3 : p ≤ 300 := by omega
  have HS := Lib.hid (side_any g p (by omega) _ HI.out.rd)
  clear wa wb ht wx wy hp0 hp hr ha hsz hres2 hlo HT HR HB hgl hgr
  go_wp2_with fail
  refine HS.out.mono ?_
  rintro e w3 ⟨i, rfl, hi0, hi1, hr, ha⟩
  have HI3 := Lib.hid (HI.out.later ha hr)
  have HS2 := Lib.hid (side_any g (p + 2) (by omega) _ HI3.out.drew.rd)
  have HWI : Hid (W64 i) := ⟨by omega, by omega⟩
  clear hr ha HS HI hi0 hi1
  obtain ⟨m0, m1, _, _⟩ := cells2 HI3.out.loc
  obtain ⟨o0, o1, f0, f1⟩ := cells2 HI3.out.res
  have hlo := HI3.out.lo
  go_wp2_with fail
  go_region_with (go_at_call 19; refine HS2.out.mono ?_; rintro e w4 ⟨k, rfl, hk0, hk1, hr, ha⟩; have HI4 := Lib.hid (HI3.out.drew.later ha hr); have HWK : Hid (W64 k) := ⟨by omega, by omega⟩; obtain ⟨m0, m1, _, _⟩ := cells2 HI4.out.loc; obtain ⟨o0, o1, f0, f1⟩ := cells2 HI4.out.res; clear hr ha hk0 hk1)
  all_goals
    go_wp2_with fail
    refine bodyPost_ret (v := .tuple #[.agg #[.int .i64 x, .int .i64 y], .int .i64 i, .int .i64 k]) (by simp [results, Try.results9, go_sem, o0, o1]) rfl ⟨x, y, i, k, rfl, HW.out.1, HW.out.2.1, HWI.out, HWK.out, ?_⟩
    exact (HI4.out.below.setCell (by simp) _).setCell (by simp) _
end Go.Proofs.Ytmkghdhkgajieaa.DrawIR
