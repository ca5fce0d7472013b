/-
  Contracts of MeetRects and HullRects, of the reference and of the program.
-/
import Derived.Test.YtcafingoghoijaaJo3
import Derived.Laws.Rows
import Derived.Laws.Tables
namespace Go.Proofs.Ytcafingoghoijaa.Meet
open Go.RowKit Go.Proofs.Ytcafingoghoijaa.Plain Go.Proofs.Ytcafingoghoijaa.Pat Go.Proofs.Ytcafingoghoijaa.Rect
set_option linter.unusedVariables false

theorem three2 {w w1 : World} {a0 a1 b0 b1 c0 c1 : Value} {T0 T1 T2 : TypeId}
    (hb : Below (((w.alloc (.cells #[a0, a1] T0)).alloc (.cells #[b0, b1] T1)).alloc (.cells #[c0, c1] T2)).heap.size (((w.alloc (.cells #[a0, a1] T0)).alloc (.cells #[b0, b1] T1)).alloc (.cells #[c0, c1] T2)) w1) :
    (w1.cell? ⟨w.heap.size, 0, none⟩ = some a0 ∧ w1.cell? ⟨w.heap.size, 1, none⟩ = some a1) ∧ (w1.cell? ⟨w.heap.size + 1, 0, none⟩ = some b0 ∧ w1.cell? ⟨w.heap.size + 1, 1, none⟩ = some b1) ∧
      (w1.cell? ⟨w.heap.size + 1 + 1, 0, none⟩ = some c0 ∧ w1.cell? ⟨w.heap.size + 1 + 1, 1, none⟩ = some c1) ∧
      (w1.frozen? ⟨w.heap.size + 1 + 1, 0, none⟩ = false ∧ w1.frozen? ⟨w.heap.size + 1 + 1, 1, none⟩ = false) ∧ w.heap.size + 3 ≤ w1.heap.size ∧ Hid (Below w.heap.size w w1) := by
  have hs : (((w.alloc (.cells #[a0, a1] T0)).alloc (.cells #[b0, b1] T1)).alloc (.cells #[c0, c1] T2)).heap.size = w.heap.size + 3 := by simp
  have e0 : w1.heap[w.heap.size]? = some (.cells #[a0, a1] T0 (0, 0)) := (hb.block _ (by omega)).trans ((Below.heap_alloc _ _ _ (by simp; omega)).trans ((Below.heap_alloc _ _ _ (by simp)).trans (heap_alloc_new w _)))
  have e1 : w1.heap[w.heap.size + 1]? = some (.cells #[b0, b1] T1 (0, 0)) := (hb.block _ (by omega)).trans ((Below.heap_alloc _ _ _ (by simp)).trans (by have := heap_alloc_new (w.alloc (.cells #[a0, a1] T0)) (.cells #[b0, b1] T1); rwa [World.size_alloc] at this))
  have e2 : w1.heap[w.heap.size + 1 + 1]? = some (.cells #[c0, c1] T2 (0, 0)) := (hb.block _ (by omega)).trans (by have := heap_alloc_new ((w.alloc (.cells #[a0, a1] T0)).alloc (.cells #[b0, b1] T1)) (.cells #[c0, c1] T2); rwa [World.size_alloc, World.size_alloc] at this)
  exact ⟨⟨cell_of_row _ _ 0 _ _ _ e0, cell_of_row _ _ 1 _ _ _ e0⟩, ⟨cell_of_row _ _ 0 _ _ _ e1, cell_of_row _ _ 1 _ _ _ e1⟩, ⟨cell_of_row _ _ 0 _ _ _ e2, cell_of_row _ _ 1 _ _ _ e2⟩, ⟨frozen_of_row _ _ 0 _ _ e2, frozen_of_row _ _ 1 _ _ e2⟩,
    by have := hb.size; omega, ((((Below.refl w.heap.size w).alloc (Nat.le_refl _) _).alloc (by simp) _).alloc (by simp; omega) _).trans (hb.mono (by omega))⟩
theorem four2 {w w1 : World} {a0 a1 b0 b1 c0 c1 d0 d1 : Value} {T0 T1 T2 T3 : TypeId}
    (hb : Below ((((w.alloc (.cells #[a0, a1] T0)).alloc (.cells #[b0, b1] T1)).alloc (.cells #[c0, c1] T2)).alloc (.cells #[d0, d1] T3)).heap.size ((((w.alloc (.cells #[a0, a1] T0)).alloc (.cells #[b0, b1] T1)).alloc (.cells #[c0, c1] T2)).alloc (.cells #[d0, d1] T3)) w1) :
    ((w1.cell? ⟨w.heap.size, 0, none⟩ = some a0 ∧ w1.cell? ⟨w.heap.size, 1, none⟩ = some a1) ∧ (w1.cell? ⟨w.heap.size + 1, 0, none⟩ = some b0 ∧ w1.cell? ⟨w.heap.size + 1, 1, none⟩ = some b1) ∧
      (w1.cell? ⟨w.heap.size + 1 + 1, 0, none⟩ = some c0 ∧ w1.cell? ⟨w.heap.size + 1 + 1, 1, none⟩ = some c1) ∧
      (w1.frozen? ⟨w.heap.size + 1 + 1, 0, none⟩ = false ∧ w1.frozen? ⟨w.heap.size + 1 + 1, 1, none⟩ = false)) ∧ (w1.cell? ⟨w.heap.size + 1 + 1 + 1, 0, none⟩ = some d0 ∧ w1.cell? ⟨w.heap.size + 1 + 1 + 1, 1, none⟩ = some d1) ∧
      w.heap.size + 4 ≤ w1.heap.size ∧ Hid (Below w.heap.size w w1) := by
  have hs : (((w.alloc (.cells #[a0, a1] T0)).alloc (.cells #[b0, b1] T1)).alloc (.cells #[c0, c1] T2)).heap.size = w.heap.size + 3 := by simp
  have hs4 : ((((w.alloc (.cells #[a0, a1] T0)).alloc (.cells #[b0, b1] T1)).alloc (.cells #[c0, c1] T2)).alloc (.cells #[d0, d1] T3)).heap.size = w.heap.size + 4 := by simp
  obtain ⟨k1, k2, k3, k4, _, HB⟩ := three2 (w := w) (a0 := a0) (a1 := a1) (b0 := b0) (b1 := b1) (c0 := c0) (c1 := c1) (T0 := T0) (T1 := T1) (T2 := T2) (w1 := w1) (((Below.refl _ _).alloc (Nat.le_refl _) _).trans (hb.mono (by simp)))
  have e3 : w1.heap[w.heap.size + 1 + 1 + 1]? = some (.cells #[d0, d1] T3 (0, 0)) := (hb.block _ (by omega)).trans (by have := heap_alloc_new (((w.alloc (.cells #[a0, a1] T0)).alloc (.cells #[b0, b1] T1)).alloc (.cells #[c0, c1] T2)) (.cells #[d0, d1] T3); rwa [World.size_alloc, World.size_alloc, World.size_alloc] at this)
  exact ⟨⟨k1, k2, k3, k4⟩, ⟨cell_of_row _ _ 0 _ _ _ e3, cell_of_row _ _ 1 _ _ _ e3⟩, by have := hb.size; omega, HB⟩
/-- later on -/
theorem cells_on {w1 w2 : World} (hb : Below w1.heap.size w1 w2) {g : Nat} {a b : Value} (hg : g < w1.heap.size) (h : w1.cell? ⟨g, 0, none⟩ = some a ∧ w1.cell? ⟨g, 1, none⟩ = some b) : w2.cell? ⟨g, 0, none⟩ = some a ∧ w2.cell? ⟨g, 1, none⟩ = some b :=
  two_on hb hg h.1 h.2
theorem frozen_on {w1 w2 : World} (hb : Below w1.heap.size w1 w2) {g : Nat} (hg : g < w1.heap.size) (h : w1.frozen? ⟨g, 0, none⟩ = false ∧ w1.frozen? ⟨g, 1, none⟩ = false) : w2.frozen? ⟨g, 0, none⟩ = false ∧ w2.frozen? ⟨g, 1, none⟩ = false :=
  ⟨(hb.frozen (p := ⟨g, 0, none⟩) hg).trans h.1, (hb.frozen (p := ⟨g, 1, none⟩) hg).trans h.2⟩

/-- the rectangle if both numbers make one -/
def orZero (b : Bool) (r c : Int) : Value := if b then rect r c else rect 0 0

set_option maxHeartbeats 1000000 in
theorem impl_meetA (r c r2 c2 : Int) (h1 : someB r c = false) (w : World) :
    Calls Try.prog 36 #[rect r c, rect r2 c2] w fun e w' => e = .returned (.tuple #[rect 0 0, .bool false]) ∧ Below w.heap.size w w' := by
  have H1 := Lib.hid h1
  clear h1
  go_enter Try.func36, Try.ntmps36
  go_wp2_with fail
  refine (rect_any _ _ _).mono ?_
  rintro e w1 ⟨rfl, hb1⟩
  rw [H1.out]
  obtain ⟨⟨k00, k01⟩, ⟨k10, k11⟩, ⟨k20, k21⟩, ⟨f0, f1⟩, hz, HB⟩ := three2 hb1
  clear hb1
  go_wp2_with fail
  refine bodyPost_ret (v := .tuple #[rect 0 0, .bool false]) (by simp [results, Try.results36, go_sem, k20, k21]) rfl ⟨rfl, ?_⟩
  exact (HB.out.setCell (by simp; omega) _).setCell (by simp; omega) _

set_option maxHeartbeats 1000000 in
theorem impl_meetB (r c r2 c2 : Int) (h1 : someB r c = true) (h2 : someB r2 c2 = false) (w : World) :
    Calls Try.prog 36 #[rect r c, rect r2 c2] w fun e w' => e = .returned (.tuple #[rect 0 0, .bool false]) ∧ Below w.heap.size w w' := by
  have H1 := Lib.hid h1
  clear h1
  have H2 := Lib.hid h2
  clear h2
  go_enter Try.func36, Try.ntmps36
  go_wp2_with fail
  refine (rect_any _ _ _).mono ?_
  rintro e w1 ⟨rfl, hb1⟩
  rw [H1.out]
  obtain ⟨⟨k00, k01⟩, ⟨k10, k11⟩, ⟨k20, k21⟩, ⟨f0, f1⟩, hz, HB⟩ := three2 hb1
  clear hb1
  go_wp2_with fail
  refine (rect_any _ _ _).mono ?_
  rintro e w2 ⟨rfl, hb2⟩
  rw [H2.out]
  obtain ⟨k00, k01⟩ := cells_on hb2 (by omega) ⟨k00, k01⟩
  obtain ⟨k10, k11⟩ := cells_on hb2 (by omega) ⟨k10, k11⟩
  obtain ⟨k20, k21⟩ := cells_on hb2 (by omega) ⟨k20, k21⟩
  obtain ⟨f0, f1⟩ := frozen_on hb2 (by omega) ⟨f0, f1⟩
  have hz2 : w.heap.size + 3 ≤ w2.heap.size := Nat.le_trans hz hb2.size
  have HB2 := Lib.hid (rstep HB.out hb2)
  clear hb2 HB hz
  go_wp2_with fail
  refine bodyPost_ret (v := .tuple #[rect 0 0, .bool false]) (by simp [results, Try.results36, go_sem, k20, k21]) rfl ⟨rfl, ?_⟩
  exact (HB2.out.setCell (by simp; omega) _).setCell (by simp; omega) _

set_option maxHeartbeats 1000000 in
theorem impl_meetC (r c r2 c2 : Int) (h1 : someB r c = true) (h2 : someB r2 c2 = true) (w : World) :
    Calls Try.prog 36 #[rect r c, rect r2 c2] w fun e w' => e = .returned (.tuple #[orZero (someB (Go.bits .and .i64 r r2) (Go.bits .and .i64 c c2)) (Go.bits .and .i64 r r2) (Go.bits .and .i64 c c2), .bool (someB (Go.bits .and .i64 r r2) (Go.bits .and .i64 c c2))]) ∧ Below w.heap.size w w' := by
  have H1 := Lib.hid h1
  clear h1
  have H2 := Lib.hid h2
  clear h2
  obtain ⟨b, hb⟩ : ∃ b, someB (Go.bits .and .i64 r r2) (Go.bits .and .i64 c c2) = b := ⟨_, rfl⟩
  rw [hb]
  have H3 := Lib.hid hb
  clear hb
  go_enter Try.func36, Try.ntmps36
  go_wp2_with fail
  refine (rect_any _ _ _).mono ?_
  rintro e w1 ⟨rfl, hb1⟩
  rw [H1.out]
  obtain ⟨⟨k00, k01⟩, ⟨k10, k11⟩, ⟨k20, k21⟩, ⟨f0, f1⟩, hz, HB⟩ := three2 hb1
  clear hb1
  go_wp2_with fail
  refine (rect_any _ _ _).mono ?_
  rintro e w2 ⟨rfl, hb2⟩
  rw [H2.out]
  obtain ⟨k00, k01⟩ := cells_on hb2 (by omega) ⟨k00, k01⟩
  obtain ⟨k10, k11⟩ := cells_on hb2 (by omega) ⟨k10, k11⟩
  obtain ⟨k20, k21⟩ := cells_on hb2 (by omega) ⟨k20, k21⟩
  obtain ⟨f0, f1⟩ := frozen_on hb2 (by omega) ⟨f0, f1⟩
  have hz2 : w.heap.size + 3 ≤ w2.heap.size := Nat.le_trans hz hb2.size
  have HB2 := Lib.hid (rstep HB.out hb2)
  clear hb2 HB hz
  go_wp2_with fail
  refine (from_rect _ _ _).mono ?_
  rintro e w3 ⟨rfl, hb3⟩
  rw [H3.out]
  obtain ⟨k20, k21⟩ := cells_on hb3 (by omega) ⟨k20, k21⟩
  obtain ⟨f0, f1⟩ := frozen_on hb3 (by omega) ⟨f0, f1⟩
  have HB3 := Lib.hid (rstep HB2.out hb3)
  clear hb3 HB2 hz2
  cases b
  · rw [if_neg (by decide)]
    go_wp2_with fail
    refine bodyPost_ret (v := .tuple #[rect 0 0, .bool false]) (by simp [results, Try.results36, go_sem, k20, k21]) rfl ⟨rfl, ?_⟩
    exact (HB3.out.setCell (by simp; omega) _).setCell (by simp; omega) _
  · rw [if_pos rfl]
    go_wp2_with fail
    refine bodyPost_ret (v := .tuple #[rect _ _, .bool true]) (by simp [results, Try.results36, go_sem, k20, k21]) rfl ⟨rfl, ?_⟩
    exact (HB3.out.setCell (by simp; omega) _).setCell (by simp; omega) _

end Go.Proofs.Ytcafingoghoijaa.Meet
