/-
  The drawing functions of rectangles: l2Draw, l2Bad.
-/
import Derived.Test.YtffilggpimdikaaDoorRd2
namespace Go.Proofs.YtffilggpimdikaaDoor.Rd3
open Go.RowKit Go.Proofs.YtffilggpimdikaaDoor.Plain Go.Proofs.YtffilggpimdikaaDoor.Rd Go.Proofs.YtffilggpimdikaaDoor.Rd2
set_option linter.unusedVariables false

/-- what is known of two new blocks while a reader in an older one is read -/
structure Two (g : Nat) (w wr : World) (T1 T2 : TypeId) (c1 c2 : Array Value) : Prop where
  one : wr.heap[w.heap.size]? = some (.cells c1 T1 (0, 0))
  two : wr.heap[w.heap.size + 1]? = some (.cells c2 T2 (0, 0))
  apt : Apt g w wr
  size : w.heap.size + 2 ≤ wr.heap.size
theorem Two.start (g : Nat) (w : World) (T1 T2 : TypeId) (c1 c2 : Array Value) : Two g w ((w.alloc (.cells c1 T1)).alloc (.cells c2 T2)) T1 T2 c1 c2 := by
  have h2 : ((w.alloc (.cells c1 T1)).alloc (.cells c2 T2)).heap[w.heap.size + 1]? = some (.cells c2 T2 (0, 0)) := by
    have := heap_alloc_new (w.alloc (.cells c1 T1)) (.cells c2 T2)
    rwa [World.size_alloc] at this
  exact ⟨(Below.heap_alloc _ _ _ (by simp)).trans (heap_alloc_new w _), h2, Apt.of_below (((Below.refl w.heap.size w).alloc (Nat.le_refl _) _).alloc (by simp) _), by simp⟩
theorem Two.later {g : Nat} {w wr w2 : World} {T1 T2 : TypeId} {c1 c2 : Array Value} (h : Two g w wr T1 T2 c1 c2) (hg : g < w.heap.size) (ha : Apt g wr w2) : Two g w w2 T1 T2 c1 c2 :=
  ⟨(ha.block _ (by have := h.size; omega) (by omega)).trans h.one, (ha.block _ (by have := h.size; omega) (by omega)).trans h.two, h.apt.trans ha, Nat.le_trans h.size ha.size⟩
theorem two_start_below (w : World) (o1 o2 : Obj) : Below w.heap.size w ((w.alloc o1).alloc o2) := ((Below.refl w.heap.size w).alloc (Nat.le_refl _) _).alloc (by simp) _
theorem apt_set {g : Nat} {w wr : World} (h : Apt g w wr) (b i : Nat) (hb : w.heap.size ≤ b) (x : Value) : Apt g w (wr.setCell ⟨b, i, none⟩ x) :=
  ⟨h.os, h.tape, h.output, by simpa using h.size, fun k hk hg => (heap_setCell_other _ _ _ _ (by simp; omega)).trans (h.block k hk hg)⟩
/-- a store into a block that is neither the reader nor its bytes' -/
theorem rdr_put {lo : Nat} {g p : Nat} {w : World} (h : Rdr lo w g p) (b i : Nat) (x : Value) (hbg : b ≠ g) (hlo : g < b ∨ lo ≤ b) : Rdr lo (w.setCell ⟨b, i, none⟩ x) g p := by
  obtain ⟨v, n, h, hl⟩ := h
  obtain ⟨h0, a, c, hv, h1⟩ := h.bytes
  refine ⟨v, n, ⟨(heap_setCell_other _ _ _ _ (by simp; omega)).trans h.cells, h0, a, c, hv, ?_⟩, hl⟩
  rcases h1 with h1 | ⟨b', off, h1, h2, h3, h4⟩
  · exact .inl h1
  · by_cases hn : n = 0
    · exact .inl hn
    have hbb : b' ≠ b := by
      rcases hlo with h5 | h5
      · omega
      · rcases hl with h6 | h6
        · exact absurd h6 hn
        · have := h6 b' off n c (by rw [hv, h1])
          omega
    refine .inr ⟨b', off, h1, h2, by simpa using h3, fun j hj => ?_⟩
    obtain ⟨y, hy0, hy1, hy⟩ := h4 j hj
    have e := heap_setCell_other w ⟨b, i, none⟩ b' x (by simpa using hbb)
    refine ⟨y, hy0, hy1, ?_⟩
    simp only [World.cell?, e] at hy ⊢
    exact hy
theorem rdr_set {lo : Nat} {g p : Nat} {w : World} (h : Rdr lo w g p) (b i : Nat) (x : Value) (hb : g < b) : Rdr lo (w.setCell ⟨b, i, none⟩ x) g p := rdr_put h b i x (by omega) (.inl hb)

set_option maxHeartbeats 1000000 in
theorem draw_rect {lo : Nat} (g p : Nat) (hp : p < 1048000) (r c : Int) (s : ByteArray) (w : World) (h : Rdr lo w g p) :
    Calls Tryd.prog 109 #[.pointer (some ⟨g, 0, none⟩), .agg #[.int .i64 r, .int .i64 c, .string s]] w fun e w' => ∃ x y : Int, e = .returned (.agg #[.int .i64 x, .int .i64 y]) ∧ (1 ≤ x ∧ x ≤ 4611686018427387904) ∧ (1 ≤ y ∧ y ≤ 4611686018427387904) ∧ Rdr lo w' g (p + 2) ∧ Apt g w w' := by
  have hg := h.lt
  have h0 := h.later (two_start_below w (.cells #[.int .i64 r, .int .i64 c, .string s] 26) (.cells #[.int .i64 0, .int .i64 0] 42))
  have hT := Two.start g w 26 42 #[.int .i64 r, .int .i64 c, .string s] #[.int .i64 0, .int .i64 0]
  go_enter Tryd.func109, Tryd.ntmps109
  have HP := Lib.hid (fun m => pick_r g p (by omega) m _ h0)
  clear h0
  go_wp2_with fail
  all_goals
    refine (HP.out _).mono ?_
    rintro e w1 ⟨x, rfl, ⟨hx0, hxm⟩, -, hr, ha⟩
    have hT1 := Lib.hid (hT.later hg ha)
    have HQ := Lib.hid (fun m => pick_r g (p + 1) (by omega) m _ hr)
    clear hT hr ha HP
    go_wp2_with fail
    refine (HQ.out _).mono ?_
    rintro e w2 ⟨y, rfl, ⟨hy0, hym⟩, -, hr, ha⟩
    have hT2 := hT1.out.later hg ha
    have o0 : w2.cell? ⟨w.heap.size + 1, 0, none⟩ = some (.int .i64 0) := cell_of_row _ _ 0 _ _ _ hT2.two
    have o1 : w2.cell? ⟨w.heap.size + 1, 1, none⟩ = some (.int .i64 0) := cell_of_row _ _ 1 _ _ _ hT2.two
    have f0 : w2.frozen? ⟨w.heap.size + 1, 0, none⟩ = false := frozen_of_row _ _ 0 _ _ hT2.two
    have f1 : w2.frozen? ⟨w.heap.size + 1, 1, none⟩ = false := frozen_of_row _ _ 1 _ _ hT2.two
    have HR := Lib.hid hr
    have HA := Lib.hid hT2.apt
    clear hT1 hT2 hr ha HQ
    go_wp2_with fail
    refine bodyPost_ret (v := .agg #[.int .i64 (1 + x), .int .i64 (1 + y)]) (by simp [results, Tryd.results109, go_sem, o0, o1]) rfl ⟨_, _, rfl, ⟨by omega, by omega⟩, ⟨by omega, by omega⟩, ?_, ?_⟩
    · exact rdr_set (rdr_set HR.out _ _ _ (by omega)) _ _ _ (by omega)
    · exact apt_set (apt_set HA.out _ _ (by omega) _) _ _ (by omega) _
end Go.Proofs.YtffilggpimdikaaDoor.Rd3
