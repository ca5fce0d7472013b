/-
  The drawing functions of rectangles: l2Draw, l2Bad.
-/
import Derived.Test.YtbccachkkflceaaRd2
namespace Go.Proofs.Ytbccachkkflceaa.Rd3
open Go.RowKit Go.Proofs.Ytbccachkkflceaa.Plain Go.Proofs.Ytbccachkkflceaa.Rd Go.Proofs.Ytbccachkkflceaa.Rd2
set_option linter.unusedVariables false

/-- what is known of two new blocks while a reader in an older one is read -/
structure Two (g : Nat) (w wr : World) (T1 T2 : TypeId) (c1 c2 : Array Value) : Prop where
  one : wr.heap[w.heap.size]? = some (.cells c1 T1 (0, 0))
  two : wr.heap[w.heap.size + 1]? = some (.cells c2 T2 (0, 0))
  apt : Apt g w wr
  size : w.heap.size + 2 ≤ wr.heap.size
theorem Two.start (g : Nat) (w : World) (T1 T2 : TypeId) (c1 c2 : Array Value) : Two g w ((w.alloc (.cells c1 T1)).alloc (.cells c2 T2)) T1 T2 c1 c2 := by
  have h2 : ((w.alloc (.cells c1 T1)).alloc (.cells c2 T2)).heap[w.heap.size + 1]? = some (.cells c2 T2 (0, 0)) := by
    have := heap_alloc_new (w.alloc (.cells c1 T1)) (.cells c2 T2)
    rwa [World.size_alloc] at this
  exact ⟨(Below.heap_alloc _ _ _ (by simp)).trans (heap_alloc_new w _), h2, Apt.of_below (((Below.refl w.heap.size w).alloc (Nat.le_refl _) _).alloc (by simp) _), by simp⟩
theorem Two.later {g : Nat} {w wr w2 : World} {T1 T2 : TypeId} {c1 c2 : Array Value} (h : Two g w wr T1 T2 c1 c2) (hg : g < w.heap.size) (ha : Apt g wr w2) : Two g w w2 T1 T2 c1 c2 :=
  ⟨(ha.block _ (by have := h.size; omega) (by omega)).trans h.one, (ha.block _ (by have := h.size; omega) (by omega)).trans h.two, h.apt.trans ha, Nat.le_trans h.size ha.size⟩
theorem two_start_below (w : World) (o1 o2 : Obj) : Below w.heap.size w ((w.alloc o1).alloc o2) := ((Below.refl w.heap.size w).alloc (Nat.le_refl _) _).alloc (by simp) _
theorem apt_set {g : Nat} {w wr : World} (h : Apt g w wr) (b i : Nat) (hb : w.heap.size ≤ b) (x : Value) : Apt g w (wr.setCell ⟨b, i, none⟩ x) :=
  ⟨h.os, h.tape, h.output, by simpa using h.size, fun k hk hg => (heap_setCell_other _ _ _ _ (by simp; omega)).trans (h.block k hk hg)⟩
/-- a store into a block that is neither the reader nor its bytes' -/
theorem rdr_put {lo : Nat} {g p : Nat} {w : World} (h : Rdr lo w g p) (b i : Nat) (x : Value) (hbg : b ≠ g) (hlo : g < b ∨ lo ≤ b) : Rdr lo (w.setCell ⟨b, i, none⟩ x) g p := by
  obtain ⟨v, n, h, hl⟩ := h
  obtain ⟨h0, a, c, hv, h1⟩ := h.bytes
  refine ⟨v, n, ⟨(heap_setCell_other _ _ _ _ (by simp; omega)).trans h.cells, h0, a, c, hv, ?_⟩, hl⟩
  rcases h1 with h1 | ⟨b', off, h1, h2, h3, h4⟩
  · exact .inl h1
  · by_cases hn : n = 0
    · exact .inl hn
    have hbb : b' ≠ b := by
      rcases hlo with h5 | h5
      · omega
      · rcases hl with h6 | h6
        · exact absurd h6 hn
        · have := h6 b' off n c (by rw [hv, h1])
          omega
    refine .inr ⟨b', off, h1, h2, by simpa using h3, fun j hj => ?_⟩
    obtain ⟨y, hy0, hy1, hy⟩ := h4 j hj
    have e := heap_setCell_other w ⟨b, i, none⟩ b' x (by simpa using hbb)
    refine ⟨y, hy0, hy1, ?_⟩
    simp only [World.cell?, e] at hy ⊢
    exact hy
theorem rdr_set {lo : Nat} {g p : Nat} {w : World} (h : Rdr lo w g p) (b i : Nat) (x : Value) (hb : g < b) : Rdr lo (w.setCell ⟨b, i, none⟩ x) g p := rdr_put h b i x (by omega) (.inl hb)

end Go.Proofs.Ytbccachkkflceaa.Rd3
