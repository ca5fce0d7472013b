/-
  Texts of one seat, joined: Rd3, Rd4, Rd5.
-/
import Derived.Test.YtemmagkkigdhjaaGreatDoorJn1
/-
  The drawing functions of rectangles: l2Draw, l2Bad.
-/
namespace Go.Proofs.YtemmagkkigdhjaaGreatDoor.Rd3
open Go.RowKit Go.Proofs.YtemmagkkigdhjaaGreatDoor.Plain Go.Proofs.YtemmagkkigdhjaaGreatDoor.Rd Go.Proofs.YtemmagkkigdhjaaGreatDoor.Rd2
set_option linter.unusedVariables false

/-- what is known of two new blocks while a reader in an older one is read -/
structure Two (g : Nat) (w wr : World) (T1 T2 : TypeId) (c1 c2 : Array Value) : Prop where
  one : wr.heap[w.heap.size]? = some (.cells c1 T1 (0, 0))
  two : wr.heap[w.heap.size + 1]? = some (.cells c2 T2 (0, 0))
  apt : Apt g w wr
  size : w.heap.size + 2 ≤ wr.heap.size
theorem Two.start (g : Nat) (w : World) (T1 T2 : TypeId) (c1 c2 : Array Value) : Two g w ((w.alloc (.cells c1 T1)).alloc (.cells c2 T2)) T1 T2 c1 c2 := by
  have h2 : ((w.alloc (.cells c1 T1)).alloc (.cells c2 T2)).heap[w.heap.size + 1]? = some (.cells c2 T2 (0, 0)) := by
    have := heap_alloc_new (w.alloc (.cells c1 T1)) (.cells c2 T2)
    rwa [World.size_alloc] at this
  exact ⟨(Below.heap_alloc _ _ _ (by simp)).trans (heap_alloc_new w _), h2, Apt.of_below (((Below.refl w.heap.size w).alloc (Nat.le_refl _) _).alloc (by simp) _), by simp⟩
theorem Two.later {g : Nat} {w wr w2 : World} {T1 T2 : TypeId} {c1 c2 : Array Value} (h : Two g w wr T1 T2 c1 c2) (hg : g < w.heap.size) (ha : Apt g wr w2) : Two g w w2 T1 T2 c1 c2 :=
  ⟨(ha.block _ (by have := h.size; omega) (by omega)).trans h.one, (ha.block _ (by have := h.size; omega) (by omega)).trans h.two, h.apt.trans ha, Nat.le_trans h.size ha.size⟩
theorem two_start_below (w : World) (o1 o2 : Obj) : Below w.heap.size w ((w.alloc o1).alloc o2) := ((Below.refl w.heap.size w).alloc (Nat.le_refl _) _).alloc (by simp) _
theorem apt_set {g : Nat} {w wr : World} (h : Apt g w wr) (b i : Nat) (hb : w.heap.size ≤ b) (x : Value) : Apt g w (wr.setCell ⟨b, i, none⟩ x) :=
  ⟨h.os, h.tape, h.output, by simpa using h.size, fun k hk hg => (heap_setCell_other _ _ _ _ (by simp; omega)).trans (h.block k hk hg)⟩
/-- a store into a block that is neither the reader nor its bytes' -/
theorem rdr_put {lo : Nat} {g p : Nat} {w : World} (h : Rdr lo w g p) (b i : Nat) (x : Value) (hbg : b ≠ g) (hlo : g < b ∨ lo ≤ b) : Rdr lo (w.setCell ⟨b, i, none⟩ x) g p := by
  obtain ⟨v, n, h, hl⟩ := h
  obtain ⟨h0, a, c, hv, h1⟩ := h.bytes
  refine ⟨v, n, ⟨(heap_setCell_other _ _ _ _ (by simp; omega)).trans h.cells, h0, a, c, hv, ?_⟩, hl⟩
  rcases h1 with h1 | ⟨b', off, h1, h2, h3, h4⟩
  · exact .inl h1
  · by_cases hn : n = 0
    · exact .inl hn
    have hbb : b' ≠ b := by
      rcases hlo with h5 | h5
      · omega
      · rcases hl with h6 | h6
        · exact absurd h6 hn
        · have := h6 b' off n c (by rw [hv, h1])
          omega
    refine .inr ⟨b', off, h1, h2, by simpa using h3, fun j hj => ?_⟩
    obtain ⟨y, hy0, hy1, hy⟩ := h4 j hj
    have e := heap_setCell_other w ⟨b, i, none⟩ b' x (by simpa using hbb)
    refine ⟨y, hy0, hy1, ?_⟩
    simp only [World.cell?, e] at hy ⊢
    exact hy
theorem rdr_set {lo : Nat} {g p : Nat} {w : World} (h : Rdr lo w g p) (b i : Nat) (x : Value) (hb : g < b) : Rdr lo (w.setCell ⟨b, i, none⟩ x) g p := rdr_put h b i x (by omega) (.inl hb)

end Go.Proofs.YtemmagkkigdhjaaGreatDoor.Rd3

/-
  The drawing function l2Bad.
-/
namespace Go.Proofs.YtemmagkkigdhjaaGreatDoor.Rd4
open Go.RowKit Go.Proofs.YtemmagkkigdhjaaGreatDoor.Plain Go.Proofs.YtemmagkkigdhjaaGreatDoor.Rd Go.Proofs.YtemmagkkigdhjaaGreatDoor.Rd2 Go.Proofs.YtemmagkkigdhjaaGreatDoor.Rd3
set_option linter.unusedVariables false

/-- a number of 64 bits -/
def W64 (x : Int) : Prop := -9223372036854775808 ≤ x ∧ x ≤ 9223372036854775807
theorem cells2 {w : World} {g : Nat} {T : TypeId} {a b : Value} (h : w.heap[g]? = some (.cells #[a, b] T (0, 0))) : w.cell? ⟨g, 0, none⟩ = some a ∧ w.cell? ⟨g, 1, none⟩ = some b ∧ w.frozen? ⟨g, 0, none⟩ = false ∧ w.frozen? ⟨g, 1, none⟩ = false :=
  ⟨cell_of_row _ _ 0 _ _ _ h, cell_of_row _ _ 1 _ _ _ h, frozen_of_row _ _ 0 _ _ h, frozen_of_row _ _ 1 _ _ h⟩

end Go.Proofs.YtemmagkkigdhjaaGreatDoor.Rd4

/-
  The drawing function l1Bad.
-/
namespace Go.Proofs.YtemmagkkigdhjaaGreatDoor.Rd5
open Go.RowKit Go.Proofs.YtemmagkkigdhjaaGreatDoor.Plain Go.Proofs.YtemmagkkigdhjaaGreatDoor.Rd Go.Proofs.YtemmagkkigdhjaaGreatDoor.Rd2 Go.Proofs.YtemmagkkigdhjaaGreatDoor.Rd3 Go.Proofs.YtemmagkkigdhjaaGreatDoor.Rd4
set_option linter.unusedVariables false

theorem cells3 {w : World} {g : Nat} {T : TypeId} {a b c : Value} (h : w.heap[g]? = some (.cells #[a, b, c] T (0, 0))) : w.cell? ⟨g, 0, none⟩ = some a ∧ w.cell? ⟨g, 1, none⟩ = some b ∧ w.cell? ⟨g, 2, none⟩ = some c ∧ w.frozen? ⟨g, 0, none⟩ = false ∧ w.frozen? ⟨g, 1, none⟩ = false ∧ w.frozen? ⟨g, 2, none⟩ = false :=
  ⟨cell_of_row _ _ 0 _ _ _ h, cell_of_row _ _ 1 _ _ _ h, cell_of_row _ _ 2 _ _ _ h, frozen_of_row _ _ 0 _ _ h, frozen_of_row _ _ 1 _ _ h, frozen_of_row _ _ 2 _ _ h⟩
/-- a drawn matrix -/
abbrev mtx (r c : Int) (s : ByteArray) : Value := .agg #[.int .i64 r, .int .i64 c, .string s]

set_option maxHeartbeats 2000000 in
theorem bad_mat {lo : Nat} (g p : Nat) (hp : p < 1048000) (r c : Int) (s : ByteArray) (hr1 : 1 ≤ r) (hr8 : r ≤ 8) (hc : W64 c) (hs1 : 1 ≤ s.size) (hs : s.size ≤ 64) (w : World) (h : Rdr lo w g p) :
    Calls Tryz.prog 44 #[.pointer (some ⟨g, 0, none⟩), mtx r c s] w fun e w' => ∃ (a b : Int) (t : ByteArray) (p' : Nat), e = .returned (mtx a b t) ∧ W64 a ∧ W64 b ∧ t.size ≤ 100 ∧ p ≤ p' ∧ p' ≤ p + 2 ∧ Rdr lo w' g p' ∧ Apt g w w' := by
  have hg := h.lt
  have h0 := h.later (two_start_below w (.cells #[.int .i64 r, .int .i64 c, .string s] 24) (.cells #[.int .i64 0, .int .i64 0, .string ⟨#[]⟩] 24))
  have hT := Two.start g w 24 24 #[.int .i64 r, .int .i64 c, .string s] #[.int .i64 0, .int .i64 0, .string ⟨#[]⟩]
  have HP := Lib.hid (pick_r g p (by omega) 40 _ h0)
  have hr : W64 r := ⟨by omega, by omega⟩
  clear h0
  go_enter Tryz.func44, Tryz.ntmps44
  go_wp2_with fail
  refine HP.out.mono ?_
  rintro e w1 ⟨k, rfl, ⟨hk0, -⟩, -, hrd, ha⟩
  have hT1 := hT.later hg ha
  clear hT HP
  by_cases hk : k = 0
  · subst hk
    obtain ⟨q0, q1, q2, r0, r1, r2⟩ := cells3 hT1.one
    have hr2 := hrd.later ((Below.refl w1.heap.size w1).alloc (Nat.le_refl _) (.cells ([0, -1, 9, r + 1, 9223372036854775807].map fun x : Int => Value.int .i64 x).toArray 3))
    have HN := Lib.hid (num_any g (p + 1) (by omega) [0, -1, 9, r + 1, 9223372036854775807] (by simp) (by simp) w1.heap.size 5 (by have := hrd.lt; omega) _ hr2 (by simp) (fun j hj => cells_lit w1 3 [0, -1, 9, r + 1, 9223372036854775807] j hj))
    have HT1 := Lib.hid hT1
    clear hrd hr2 ha hk0 hT1
    go_wp2_with fail
    refine HN.out.mono ?_
    rintro e w2 ⟨y2, rfl, hm, hr3, ha3⟩
    have hT2 := HT1.out.later hg ((Apt.of_below ((Below.refl w1.heap.size w1).alloc (Nat.le_refl _) _)).trans ha3)
    clear q0 q1 q2 r0 r1 r2
    obtain ⟨q0, q1, q2, r0, r1, r2⟩ := cells3 hT2.one
    obtain ⟨o0, o1, o2, f0, f1, f2⟩ := cells3 hT2.two
    have HR := Lib.hid hr3
    have HA := Lib.hid hT2.apt
    have hb : W64 y2 := by
      unfold W64
      simp at hm
      omega
    clear hr3 ha3 HN hT2 HT1 hm
    go_wp2_with fail
    refine bodyPost_ret (v := mtx (y2) (c) (s)) (by simp [results, Tryz.results44, go_sem, o0, o1, o2]) rfl ⟨y2, c, s, p + 2, rfl, hb, hc, by omega, by omega, by omega, ?_, ?_⟩
    · exact rdr_set (rdr_set (rdr_set (rdr_set (HR.out) _ _ _ (by omega)) _ _ _ (by omega)) _ _ _ (by omega)) _ _ _ (by omega)
    · exact apt_set (apt_set (apt_set (apt_set (HA.out) _ _ (by omega) _) _ _ (by omega) _) _ _ (by omega) _) _ _ (by omega) _
  obtain ⟨q0, q1, q2, r0, r1, r2⟩ := cells3 hT1.one
  obtain ⟨o0, o1, o2, f0, f1, f2⟩ := cells3 hT1.two
  have HR := Lib.hid hrd
  have HA := Lib.hid hT1.apt
  clear hrd ha hT1
  by_cases hk1 : k = 1
  · subst hk1
    have hcat := fun W => run_string_add_sum (P := Tryz.prog) (w := W) s ⟨#[48]⟩ (by show s.size + 1 ≤ 9223372036854775807; omega)
    go_wp2_with fail
    refine bodyPost_ret (v := mtx (r) (c) (s ++ ⟨#[48]⟩)) (by simp [results, Tryz.results44, go_sem, o0, o1, o2]) rfl ⟨r, c, s ++ ⟨#[48]⟩, p + 1, rfl, hr, hc, by rw [ByteArray.size_append]; show s.size + 1 ≤ 100; omega, by omega, by omega, ?_, ?_⟩
    · exact rdr_set (rdr_set (rdr_set (rdr_set (HR.out) _ _ _ (by omega)) _ _ _ (by omega)) _ _ _ (by omega)) _ _ _ (by omega)
    · exact apt_set (apt_set (apt_set (apt_set (HA.out) _ _ (by omega) _) _ _ (by omega) _) _ _ (by omega) _) _ _ (by omega) _
  by_cases hk2 : k = 2
  · subst hk2
    have hcat := fun W => run_string_add_sum (P := Tryz.prog) (w := W) ⟨#[50]⟩ (s.extract 1 s.size) (by show 1 + (s.extract 1 s.size).size ≤ 9223372036854775807; rw [ByteArray.size_extract]; omega)
    have hsl : (1 : Int) ≤ (s.size : Int) := by omega
    go_wp2_with fail
    refine bodyPost_ret (v := mtx (r) (c) (⟨#[50]⟩ ++ s.extract 1 s.size)) (by simp [results, Tryz.results44, go_sem, o0, o1, o2]) rfl ⟨r, c, ⟨#[50]⟩ ++ s.extract 1 s.size, p + 1, rfl, hr, hc, by rw [ByteArray.size_append, ByteArray.size_extract]; show 1 + _ ≤ 100; omega, by omega, by omega, ?_, ?_⟩
    · exact rdr_set (rdr_set (rdr_set (rdr_set (HR.out) _ _ _ (by omega)) _ _ _ (by omega)) _ _ _ (by omega)) _ _ _ (by omega)
    · exact apt_set (apt_set (apt_set (apt_set (HA.out) _ _ (by omega) _) _ _ (by omega) _) _ _ (by omega) _) _ _ (by omega) _
  by_cases hk3 : k = 3
  · subst hk3
    go_wp2_with fail
    refine bodyPost_ret (v := mtx (1) (9) (⟨#[48, 48, 48, 48, 48, 48, 48, 48, 48]⟩)) (by simp [results, Tryz.results44, go_sem, o0, o1, o2]) rfl ⟨1, 9, ⟨#[48, 48, 48, 48, 48, 48, 48, 48, 48]⟩, p + 1, rfl, ⟨by omega, by omega⟩, ⟨by omega, by omega⟩, by show 9 ≤ 100; omega, by omega, by omega, ?_, ?_⟩
    · exact rdr_set (rdr_set (rdr_set (HR.out) _ _ _ (by omega)) _ _ _ (by omega)) _ _ _ (by omega)
    · exact apt_set (apt_set (apt_set (HA.out) _ _ (by omega) _) _ _ (by omega) _) _ _ (by omega) _
  go_wp2_with fail
  refine bodyPost_ret (v := mtx (r) (c) (s)) (by simp [results, Tryz.results44, go_sem, o0, o1, o2]) rfl ⟨r, c, s, p + 1, rfl, hr, hc, by omega, by omega, by omega, ?_, ?_⟩
  · exact rdr_set (rdr_set (rdr_set (HR.out) _ _ _ (by omega)) _ _ _ (by omega)) _ _ _ (by omega)
  · exact apt_set (apt_set (apt_set (HA.out) _ _ (by omega) _) _ _ (by omega) _) _ _ (by omega) _
end Go.Proofs.YtemmagkkigdhjaaGreatDoor.Rd5

