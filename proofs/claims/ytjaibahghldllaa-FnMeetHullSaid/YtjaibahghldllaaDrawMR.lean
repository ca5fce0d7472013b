/-
  The drawing functions l2Two and DrawMeetRects.
-/
import Derived.Test.YtjaibahghldllaaRd10
import Derived.Deep.RegionWith
namespace Go.Proofs.Ytjaibahghldllaa.DrawMR
open Go.RowKit Go.Proofs.Ytjaibahghldllaa.Plain Go.Proofs.Ytjaibahghldllaa.Base Go.Proofs.Ytjaibahghldllaa.Valid Go.Proofs.Ytjaibahghldllaa.Pat Go.Proofs.Ytjaibahghldllaa.Rect Go.Proofs.Ytjaibahghldllaa.Rd Go.Proofs.Ytjaibahghldllaa.Rd2 Go.Proofs.Ytjaibahghldllaa.Rd3 Go.Proofs.Ytjaibahghldllaa.Rd4 Go.Proofs.Ytjaibahghldllaa.Rd5 Go.Proofs.Ytjaibahghldllaa.Rd6 Go.Proofs.Ytjaibahghldllaa.Rd7 Go.Proofs.Ytjaibahghldllaa.Rd8 Go.Proofs.Ytjaibahghldllaa.Rd9 Go.Proofs.Ytjaibahghldllaa.Rd10
set_option linter.unusedVariables false

/-- what is known in the midst of l2Two: the two results' blocks, the matrix' block, the rectangle's block, the reader -/
structure TI (g : Nat) (w wr : World) (m b : Nat) (r c : Int) (s : ByteArray) (x y : Int) (p : Nat) : Prop where
  two : Two g w wr 24 24 #[.int .i64 0, .int .i64 0] #[.int .i64 0, .int .i64 0]
  locm : wr.heap[m]? = some (.cells #[.int .i64 r, .int .i64 c, .string s] 44 (0, 0))
  loc : wr.heap[b]? = some (.cells #[.int .i64 x, .int .i64 y] 24 (0, 0))
  lo : w.heap.size + 2 ≤ m
  lob : w.heap.size + 2 ≤ b
  hg : g < w.heap.size
  rd : Rdr wr g p
theorem TI.ltm {g : Nat} {w wr : World} {m b : Nat} {r c : Int} {s : ByteArray} {x y : Int} {p : Nat} (h : TI g w wr m b r c s x y p) : m < wr.heap.size := (Array.getElem?_eq_some_iff.1 h.locm).1
theorem TI.lt {g : Nat} {w wr : World} {m b : Nat} {r c : Int} {s : ByteArray} {x y : Int} {p : Nat} (h : TI g w wr m b r c s x y p) : b < wr.heap.size := (Array.getElem?_eq_some_iff.1 h.loc).1
theorem TI.later {g : Nat} {w wr w2 : World} {m b : Nat} {r c : Int} {s : ByteArray} {x y : Int} {p q : Nat} (h : TI g w wr m b r c s x y p) (ha : Apt g wr w2) (hr : Rdr w2 g q) : TI g w w2 m b r c s x y q :=
  ⟨h.two.later h.hg ha, (ha.block _ h.ltm (by have := h.hg; have := h.lo; omega)).trans h.locm, (ha.block _ h.lt (by have := h.hg; have := h.lob; omega)).trans h.loc, h.lo, h.lob, h.hg, hr⟩
theorem TI.drew {g : Nat} {w wr : World} {m b : Nat} {r c : Int} {s : ByteArray} {x y : Int} {p : Nat} (h : TI g w wr m b r c s x y p) : TI g w wr.drew m b r c s x y p := h.later (Apt.of_below (drawn_at wr 1)) (h.rd.later (drawn_at wr 1))
theorem TI.cells {g : Nat} {w wr : World} {m b : Nat} {r c : Int} {s : ByteArray} {x y : Int} {p : Nat} (h : TI g w wr m b r c s x y p) :
    (wr.cell? ⟨m, 0, none⟩ = some (.int .i64 r) ∧ wr.cell? ⟨m, 1, none⟩ = some (.int .i64 c) ∧ wr.cell? ⟨m, 2, none⟩ = some (.string s)) ∧
    (wr.cell? ⟨b, 0, none⟩ = some (.int .i64 x) ∧ wr.cell? ⟨b, 1, none⟩ = some (.int .i64 y)) ∧
    (wr.cell? ⟨w.heap.size, 0, none⟩ = some (.int .i64 0) ∧ wr.cell? ⟨w.heap.size, 1, none⟩ = some (.int .i64 0) ∧ wr.frozen? ⟨w.heap.size, 0, none⟩ = false ∧ wr.frozen? ⟨w.heap.size, 1, none⟩ = false) ∧
    (wr.cell? ⟨w.heap.size + 1, 0, none⟩ = some (.int .i64 0) ∧ wr.cell? ⟨w.heap.size + 1, 1, none⟩ = some (.int .i64 0) ∧ wr.frozen? ⟨w.heap.size + 1, 0, none⟩ = false ∧ wr.frozen? ⟨w.heap.size + 1, 1, none⟩ = false) := by
  obtain ⟨a, b', c', _, _, _⟩ := cells3 h.locm
  obtain ⟨d, e, _, _⟩ := cells2 h.loc
  exact ⟨⟨a, b', c'⟩, ⟨d, e⟩, cells2 h.two.one, cells2 h.two.two⟩
theorem ord4 {p p1 p3 : Nat} (h1 : p ≤ p1 ∧ p1 ≤ p + 300) (h3 : p1 + 2 ≤ p3 ∧ p3 ≤ p1 + 2 + 2) : p ≤ p3 ∧ p3 ≤ p + 310 := by omega

set_option maxHeartbeats 4000000 in
theorem two_rects (g p : Nat) (hp : p < 800000) (w : World) (h : Rdr w g p) :
    Calls Try.prog 18 #[.pointer (some ⟨g, 0, none⟩)] w fun e w' => ∃ (x y x2 y2 : Int) (p' : Nat), e = .returned (.tuple #[.agg #[.int .i64 x, .int .i64 y], .agg #[.int .i64 x2, .int .i64 y2]]) ∧ W64 x ∧ W64 y ∧ W64 x2 ∧ W64 y2 ∧ p ≤ p' ∧ p' ≤ p + 310 ∧ Rdr w' g p' ∧ Apt g w w' := by
  have hg := h.lt
  have h0 := h.later (two_start_below w (.cells #[.int .i64 0, .int .i64 0] 24) (.cells #[.int .i64 0, .int .i64 0] 24))
  have HT := Lib.hid (Two.start g w 24 24 #[.int .i64 0, .int .i64 0] #[.int .i64 0, .int .i64 0])
  have HO := Lib.hid (open_two g p (by omega) _ h0)
  clear h h0
  go_enter Try.func18, Try.ntmps18
  go_wp2_with fail
  refine HO.out.mono ?_
  rintro e w2 ⟨a, b, t, x, y, p1, rfl, wa, wb, ht, wx, wy, hp1, hp2, hr, ha⟩
  have hT1 := HT.out.later hg ha
  have hlo : w.heap.size + 2 ≤ w2.heap.size := hT1.size
  obtain ⟨B, hB⟩ : ∃ B, w2.heap.size + 1 = B := ⟨_, rfl⟩
  have HI : Hid (TI g w (((((((w2.alloc (.cells #[.int .i64 0, .int .i64 0, .string ⟨#[]⟩] 44)).alloc (.cells #[.int .i64 0, .int .i64 0] 24)).setCell ⟨w2.heap.size, 0, none⟩ (.int .i64 a)).setCell ⟨w2.heap.size, 1, none⟩ (.int .i64 b)).setCell ⟨w2.heap.size, 2, none⟩ (.string t)).setCell ⟨B, 0, none⟩ (.int .i64 x)).setCell ⟨B, 1, none⟩ (.int .i64 y)) w2.heap.size B a b t x y p1) := by
    have hbb : Below w2.heap.size w2 ((w2.alloc (.cells #[.int .i64 0, .int .i64 0, .string ⟨#[]⟩] 44)).alloc (.cells #[.int .i64 0, .int .i64 0] 24)) := two_start_below w2 _ _
    have hnew : ((w2.alloc (.cells #[.int .i64 0, .int .i64 0, .string ⟨#[]⟩] 44)).alloc (.cells #[.int .i64 0, .int .i64 0] 24)).heap[B]? = some (.cells #[.int .i64 0, .int .i64 0] 24 (0, 0)) := by
      have := heap_alloc_new (w2.alloc (.cells #[.int .i64 0, .int .i64 0, .string ⟨#[]⟩] 44)) (.cells #[.int .i64 0, .int .i64 0] 24)
      rwa [World.size_alloc, hB] at this
    have hmat : ((w2.alloc (.cells #[.int .i64 0, .int .i64 0, .string ⟨#[]⟩] 44)).alloc (.cells #[.int .i64 0, .int .i64 0] 24)).heap[w2.heap.size]? = some (.cells #[.int .i64 0, .int .i64 0, .string ⟨#[]⟩] 44 (0, 0)) :=
      (Below.heap_alloc _ _ _ (by simp)).trans (heap_alloc_new w2 _)
    have htw := hT1.later hg (Apt.of_below hbb)
    have hrd := hr.later hbb
    generalize (w2.alloc (.cells #[.int .i64 0, .int .i64 0, .string ⟨#[]⟩] 44)).alloc (.cells #[.int .i64 0, .int .i64 0] 24) = wx at *
    have hM : (((wx.setCell ⟨w2.heap.size, 0, none⟩ (.int .i64 a)).setCell ⟨w2.heap.size, 1, none⟩ (.int .i64 b)).setCell ⟨w2.heap.size, 2, none⟩ (.string t)).heap[w2.heap.size]? = some (.cells #[.int .i64 a, .int .i64 b, .string t] 44 (0, 0)) := by
      have l1 : (wx.setCell ⟨w2.heap.size, 0, none⟩ (.int .i64 a)).heap[w2.heap.size]? = some (.cells #[.int .i64 a, .int .i64 0, .string ⟨#[]⟩] 44 (0, 0)) := (heap_setCell_same _ _ _ _ _ _ hmat).trans (by simp)
      generalize wx.setCell ⟨w2.heap.size, 0, none⟩ (.int .i64 a) = wy at *
      have l2 : (wy.setCell ⟨w2.heap.size, 1, none⟩ (.int .i64 b)).heap[w2.heap.size]? = some (.cells #[.int .i64 a, .int .i64 b, .string ⟨#[]⟩] 44 (0, 0)) := (heap_setCell_same _ _ _ _ _ _ l1).trans (by simp)
      exact (heap_setCell_same _ _ _ _ _ _ l2).trans (by simp)
    refine ⟨?_, ?_, ?_, hlo, by omega, hg, ?_⟩
    · refine ⟨?_, ?_, apt_set (apt_set (apt_set (apt_set (apt_set htw.apt _ _ (by omega) _) _ _ (by omega) _) _ _ (by omega) _) _ _ (by omega) _) _ _ (by omega) _, by simpa using htw.size⟩
      · rw [heap_setCell_other _ _ _ _ (by simp; omega), heap_setCell_other _ _ _ _ (by simp; omega), heap_setCell_other _ _ _ _ (by simp; omega), heap_setCell_other _ _ _ _ (by simp; omega), heap_setCell_other _ _ _ _ (by simp; omega)]
        exact htw.one
      · rw [heap_setCell_other _ _ _ _ (by simp; omega), heap_setCell_other _ _ _ _ (by simp; omega), heap_setCell_other _ _ _ _ (by simp; omega), heap_setCell_other _ _ _ _ (by simp; omega), heap_setCell_other _ _ _ _ (by simp; omega)]
        exact htw.two
    · rw [heap_setCell_other _ _ _ _ (by simp; omega), heap_setCell_other _ _ _ _ (by simp; omega)]
      exact hM
    · have l1 : (((wx.setCell ⟨w2.heap.size, 0, none⟩ (.int .i64 a)).setCell ⟨w2.heap.size, 1, none⟩ (.int .i64 b)).setCell ⟨w2.heap.size, 2, none⟩ (.string t)).heap[B]? = some (.cells #[.int .i64 0, .int .i64 0] 24 (0, 0)) := by
        rw [heap_setCell_other _ _ _ _ (by simp; omega), heap_setCell_other _ _ _ _ (by simp; omega), heap_setCell_other _ _ _ _ (by simp; omega)]
        exact hnew
      generalize ((wx.setCell ⟨w2.heap.size, 0, none⟩ (.int .i64 a)).setCell ⟨w2.heap.size, 1, none⟩ (.int .i64 b)).setCell ⟨w2.heap.size, 2, none⟩ (.string t) = wy at *
      have l2 : (wy.setCell ⟨B, 0, none⟩ (.int .i64 x)).heap[B]? = some (.cells #[.int .i64 x, .int .i64 0] 24 (0, 0)) := (heap_setCell_same _ _ _ _ _ _ l1).trans (by simp)
      exact (heap_setCell_same _ _ _ _ _ _ l2).trans (by simp)
    · exact rdr_set (rdr_set (rdr_set (rdr_set (rdr_set hrd _ _ _ (by omega)) _ _ _ (by omega)) _ _ _ (by omega)) _ _ _ (by omega)) _ _ _ (by omega)
  have HW : Hid (W64 x ∧ W64 y) := ⟨wx, wy⟩
  have HP : Hid (p ≤ p1 ∧ p1 ≤ p + 300) := ⟨hp1, hp2⟩
  have hpl : p1 < 900000 := by omega
  have HM := Lib.hid (draw_rect g p1 (by omega) a b t _ HI.out.drew.rd)
  obtain ⟨⟨m0, m1, m2⟩, ⟨l0, l1⟩, ⟨o0, o1, f0, f1⟩, q0, q1, g0, g1⟩ := HI.out.cells
  clear HT HO hT1 hr ha wa wb ht wx wy hp1 hp2
  go_wp2_with fail
  go_region_with (first
    | (go_at_call 31; refine HM.out.mono ?_; rintro e w4 ⟨x1, y1, rfl, hx, hy, hr4, ha4⟩; have HI4 := Lib.hid (HI.out.drew.later ha4 hr4); have HB := Lib.hid (bad_rect g (p1 + 2) (by omega) x1 y1 ⟨by omega, by omega⟩ ⟨by omega, by omega⟩ w4 hr4); obtain ⟨⟨m0, m1, m2⟩, ⟨l0, l1⟩, ⟨o0, o1, f0, f1⟩, q0, q1, g0, g1⟩ := HI4.out.cells; clear hx hy hr4 ha4)
    | (go_at_call 37; refine HB.out.mono ?_; rintro e w5 ⟨x2, y2, p3, rfl, hx, hy, hp3, hp4, hr5, ha5⟩; have HI5 := Lib.hid (HI4.out.later ha5 hr5); have HP5 := Lib.hid (And.intro hp3 hp4); have HX := Lib.hid (And.intro hx hy); obtain ⟨⟨m0, m1, m2⟩, ⟨l0, l1⟩, ⟨o0, o1, f0, f1⟩, q0, q1, g0, g1⟩ := HI5.out.cells; clear hx hy hp3 hp4 hr5 ha5))
  all_goals
    go_wp2_with fail
    refine bodyPost_ret (v := .tuple #[.agg #[.int .i64 x, .int .i64 y], .agg #[.int .i64 x2, .int .i64 y2]]) (by simp [results, Try.results18, go_sem, o0, o1, q0, q1]) rfl ⟨x, y, x2, y2, p3, rfl, HW.out.1, HW.out.2, HX.out.1, HX.out.2, ?_, ?_, ?_, ?_⟩
    · exact (ord4 HP.out HP5.out).1
    · exact (ord4 HP.out HP5.out).2
    · exact rdr_set (rdr_set (rdr_set (rdr_set HI5.out.rd _ _ _ (by omega)) _ _ _ (by omega)) _ _ _ (by omega)) _ _ _ (by omega)
    · exact apt_set (apt_set (apt_set (apt_set HI5.out.two.apt _ _ (by omega) _) _ _ (by omega) _) _ _ (by omega) _) _ _ (by omega) _

set_option maxHeartbeats 4000000 in
theorem draw_any (v : Value) (n : Nat) (w : World) (h : ByteArg w v n) :
    Calls Try.prog 5 #[v] w fun e w' => ∃ x y x2 y2 : Int, e = .returned (.tuple #[.agg #[.int .i64 x, .int .i64 y], .agg #[.int .i64 x2, .int .i64 y2]]) ∧ W64 x ∧ W64 y ∧ W64 x2 ∧ W64 y2 ∧ Below w.heap.size w w' := by
  have hst := two_start_below w (.cells #[.int .i64 0, .int .i64 0] 24) (.cells #[.int .i64 0, .int .i64 0] 24)
  have h1 := h.later hst
  have HO := Lib.hid (open_any v n _ h1)
  have HST := Lib.hid hst
  clear h h1 hst
  go_enter Try.func5, Try.ntmps5
  go_wp2_with fail
  refine HO.out.mono ?_
  rintro e w1 ⟨g, rfl, hr, hb, hg⟩
  have hs2 : w.heap.size + 2 ≤ g := by simp at hg; omega
  have r1 : w1.heap[w.heap.size]? = some (.cells #[.int .i64 0, .int .i64 0] 24 (0, 0)) := (hb.block _ (by simp; omega)).trans ((Below.heap_alloc _ _ _ (by simp)).trans (heap_alloc_new w _))
  have r2 : w1.heap[w.heap.size + 1]? = some (.cells #[.int .i64 0, .int .i64 0] 24 (0, 0)) := (hb.block _ (by simp)).trans (by have := heap_alloc_new (w.alloc (.cells #[.int .i64 0, .int .i64 0] 24)) (.cells #[.int .i64 0, .int .i64 0] 24); rwa [World.size_alloc] at this)
  have HB : Hid (Below w.heap.size w w1) := HST.out.trans (hb.mono (by simp; omega))
  have hgr := hr.lt
  have HT := Lib.hid (two_rects g 0 (by omega) w1 hr)
  have HR := Lib.hid (And.intro r1 r2)
  clear hr hb hg r1 r2 HO HST
  go_wp2_with fail
  refine HT.out.mono ?_
  rintro e w2 ⟨x, y, x2, y2, p, rfl, wx, wy, wx2, wy2, -, -, hr, ha⟩
  have hsz := ha.size
  obtain ⟨o0, o1, f0, f1⟩ := cells2 ((ha.block _ (Array.getElem?_eq_some_iff.1 HR.out.1).1 (by omega)).trans HR.out.1)
  obtain ⟨q0, q1, g0, g1⟩ := cells2 ((ha.block _ (Array.getElem?_eq_some_iff.1 HR.out.2).1 (by omega)).trans HR.out.2)
  have HB2 : Hid (Below w.heap.size w w2) := ha.below HB.out (by omega)
  have HW : Hid (W64 x ∧ W64 y ∧ W64 x2 ∧ W64 y2) := ⟨wx, wy, wx2, wy2⟩
  clear hr ha wx wy wx2 wy2 HB HT HR hsz
  go_wp2_with fail
  refine bodyPost_ret (v := .tuple #[.agg #[.int .i64 x, .int .i64 y], .agg #[.int .i64 x2, .int .i64 y2]]) (by simp [results, Try.results5, go_sem, o0, o1, q0, q1]) rfl ⟨x, y, x2, y2, rfl, HW.out.1, HW.out.2.1, HW.out.2.2.1, HW.out.2.2.2, ?_⟩
  exact (((HB2.out.setCell (by simp) _).setCell (by simp) _).setCell (by simp) _).setCell (by simp) _
end Go.Proofs.Ytjaibahghldllaa.DrawMR
