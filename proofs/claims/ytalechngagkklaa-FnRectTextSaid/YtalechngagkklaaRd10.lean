/-
  The drawing function l2Open.
-/
import Derived.Test.YtalechngagkklaaRd9
import Derived.Deep.RegionWith
namespace Go.Proofs.Ytalechngagkklaa.Rd10
open Go.RowKit Go.Proofs.Ytalechngagkklaa.Plain Go.Proofs.Ytalechngagkklaa.Base Go.Proofs.Ytalechngagkklaa.Valid Go.Proofs.Ytalechngagkklaa.Pat Go.Proofs.Ytalechngagkklaa.Rect Go.Proofs.Ytalechngagkklaa.Rd Go.Proofs.Ytalechngagkklaa.Rd2 Go.Proofs.Ytalechngagkklaa.Rd3 Go.Proofs.Ytalechngagkklaa.Rd4 Go.Proofs.Ytalechngagkklaa.Rd5 Go.Proofs.Ytalechngagkklaa.Rd6 Go.Proofs.Ytalechngagkklaa.Rd7 Go.Proofs.Ytalechngagkklaa.Rd8 Go.Proofs.Ytalechngagkklaa.Rd9
set_option linter.unusedVariables false

/-- what is known in the midst of l2Open: the two results' blocks, the local matrix' block, the reader -/
structure OI (g : Nat) (w wr : World) (b : Nat) (r c : Int) (s : ByteArray) (p : Nat) : Prop where
  two : Two g w wr 33 24 #[.int .i64 0, .int .i64 0, .string ⟨#[]⟩] #[.int .i64 0, .int .i64 0]
  loc : wr.heap[b]? = some (.cells #[.int .i64 r, .int .i64 c, .string s] 33 (0, 0))
  lo : w.heap.size + 2 ≤ b
  hg : g < w.heap.size
  rd : Rdr wr g p
theorem OI.lt {g : Nat} {w wr : World} {b : Nat} {r c : Int} {s : ByteArray} {p : Nat} (h : OI g w wr b r c s p) : b < wr.heap.size := (Array.getElem?_eq_some_iff.1 h.loc).1
theorem OI.later {g : Nat} {w wr w2 : World} {b : Nat} {r c : Int} {s : ByteArray} {p q : Nat} (h : OI g w wr b r c s p) (ha : Apt g wr w2) (hr : Rdr w2 g q) : OI g w w2 b r c s q :=
  ⟨h.two.later h.hg ha, (ha.block _ h.lt (by have := h.hg; have := h.lo; omega)).trans h.loc, h.lo, h.hg, hr⟩
theorem OI.drew {g : Nat} {w wr : World} {b : Nat} {r c : Int} {s : ByteArray} {p : Nat} (h : OI g w wr b r c s p) : OI g w wr.drew b r c s p := h.later (Apt.of_below (drawn_at wr 1)) (h.rd.later (drawn_at wr 1))
theorem OI.cells {g : Nat} {w wr : World} {b : Nat} {r c : Int} {s : ByteArray} {p : Nat} (h : OI g w wr b r c s p) :
    (wr.cell? ⟨b, 0, none⟩ = some (.int .i64 r) ∧ wr.cell? ⟨b, 1, none⟩ = some (.int .i64 c) ∧ wr.cell? ⟨b, 2, none⟩ = some (.string s)) ∧
    (wr.cell? ⟨w.heap.size, 0, none⟩ = some (.int .i64 0) ∧ wr.cell? ⟨w.heap.size, 1, none⟩ = some (.int .i64 0) ∧ wr.cell? ⟨w.heap.size, 2, none⟩ = some (.string ⟨#[]⟩) ∧ wr.frozen? ⟨w.heap.size, 0, none⟩ = false ∧ wr.frozen? ⟨w.heap.size, 1, none⟩ = false ∧ wr.frozen? ⟨w.heap.size, 2, none⟩ = false) ∧
    (wr.cell? ⟨w.heap.size + 1, 0, none⟩ = some (.int .i64 0) ∧ wr.cell? ⟨w.heap.size + 1, 1, none⟩ = some (.int .i64 0) ∧ wr.frozen? ⟨w.heap.size + 1, 0, none⟩ = false ∧ wr.frozen? ⟨w.heap.size + 1, 1, none⟩ = false) := by
  obtain ⟨a, b', c', _, _, _⟩ := cells3 h.loc
  exact ⟨⟨a, b', c'⟩, cells3 h.two.one, cells2 h.two.two⟩

theorem ord3 {p p1 p2 p3 : Nat} (h1 : p ≤ p1 ∧ p1 ≤ p + 200) (h2 : p1 + 1 ≤ p2 ∧ p2 ≤ p1 + 1 + 10) (h3 : p2 ≤ p3 ∧ p3 ≤ p2 + 2) : p ≤ p3 ∧ p3 ≤ p + 300 := by omega
theorem ord2 {p p1 p3 : Nat} (h1 : p ≤ p1 ∧ p1 ≤ p + 200) (h3 : p1 + 1 + 2 ≤ p3 ∧ p3 ≤ p1 + 1 + 2 + 2) : p ≤ p3 ∧ p3 ≤ p + 300 := by omega

set_option maxHeartbeats 4000000 in
theorem open_two (g p : Nat) (hp : p < 900000) (w : World) (h : Rdr w g p) :
    Calls Try.prog 11 #[.pointer (some ⟨g, 0, none⟩)] w fun e w' => ∃ (a b : Int) (t : ByteArray) (x y : Int) (p' : Nat), e = .returned (.tuple #[mtx a b t, .agg #[.int .i64 x, .int .i64 y]]) ∧ W64 a ∧ W64 b ∧ t.size ≤ 100 ∧ W64 x ∧ W64 y ∧ p ≤ p' ∧ p' ≤ p + 300 ∧ Rdr w' g p' ∧ Apt g w w' := by
  have hg := h.lt
  have h0 := h.later (two_start_below w (.cells #[.int .i64 0, .int .i64 0, .string ⟨#[]⟩] 33) (.cells #[.int .i64 0, .int .i64 0] 24))
  have HT := Lib.hid (Two.start g w 33 24 #[.int .i64 0, .int .i64 0, .string ⟨#[]⟩] #[.int .i64 0, .int .i64 0])
  have HO := Lib.hid (open_mat g p (by omega) _ h0)
  clear h h0
  go_enter Try.func11, Try.ntmps11
  go_wp2_with fail
  refine HO.out.mono ?_
  rintro e w1 ⟨a, b, t, p1, rfl, wa, wb, ht, hp1, hp2, hr, ha⟩
  have hT1 := HT.out.later hg ha
  have HI : Hid (OI g w (w1.alloc (.cells #[.int .i64 a, .int .i64 b, .string t] 33)) w1.heap.size a b t p1) :=
    ⟨hT1.later hg (Apt.of_below ((Below.refl w1.heap.size w1).alloc (Nat.le_refl _) _)), heap_alloc_new w1 _, hT1.size, hg, hr.later ((Below.refl w1.heap.size w1).alloc (Nat.le_refl _) _)⟩
  have HP : Hid (W64 a ∧ W64 b ∧ t.size ≤ 100 ∧ p ≤ p1 ∧ p1 ≤ p + 200) := ⟨wa, wb, ht, hp1, hp2⟩
  have hpl : p1 < 950000 := by omega
  have ht100 : t.size ≤ 100 := ht
  clear HT HO hT1 hr ha wa wb ht hp1 hp2
  have HQ := Lib.hid (pick_r g p1 (by omega) 2 _ HI.out.rd)
  have hlo := HI.out.lo
  obtain ⟨B, hB⟩ : ∃ B, w1.heap.size = B := ⟨_, rfl⟩
  go_wp2_with fail
  rw [hB] at HI hlo
  refine HQ.out.mono ?_
  rintro e w3 ⟨k, rfl, -, -, hr, ha⟩
  have HI3 := Lib.hid (HI.out.later ha hr)
  clear HQ HI hr ha hB
  by_cases hk : k = 0
  · subst hk
    obtain ⟨⟨m0, m1, m2⟩, ⟨o0, o1, o2, f0, f1, f2⟩, q0, q1, g0, g1⟩ := HI3.out.cells
    have HM := Lib.hid (mono_rect g (p1 + 1) (by omega) a b t ht100 _ (HI3.out.drew).rd)
    go_wp2_with fail
    go_region_with (first
      | (go_at_call 30; refine HM.out.mono ?_; rintro e w4 ⟨x, y, p2, rfl, hx, hy, hp3, hp4, hr4, ha4⟩; have HI4 := Lib.hid (HI3.out.drew.later ha4 hr4); have HB := Lib.hid (bad_rect g p2 (by omega) x y hx hy w4 hr4); have HP4 := Lib.hid (And.intro hp3 hp4); obtain ⟨⟨m0, m1, m2⟩, ⟨o0, o1, o2, f0, f1, f2⟩, q0, q1, g0, g1⟩ := HI4.out.cells; clear hx hy hp3 hp4 hr4 ha4)
      | (go_at_call 29; refine HB.out.mono ?_; rintro e w5 ⟨x2, y2, p3, rfl, hx, hy, hp3, hp4, hr5, ha5⟩; have HI5 := Lib.hid (HI4.out.later ha5 hr5); have HP5 := Lib.hid (And.intro hp3 hp4); have HX := Lib.hid (And.intro hx hy); obtain ⟨⟨m0, m1, m2⟩, ⟨o0, o1, o2, f0, f1, f2⟩, q0, q1, g0, g1⟩ := HI5.out.cells; clear hx hy hp3 hp4 hr5 ha5))
    all_goals
      go_wp2_with fail
      refine bodyPost_ret (v := .tuple #[mtx a b t, .agg #[.int .i64 x2, .int .i64 y2]]) (by simp [results, Try.results11, go_sem, o0, o1, o2, q0, q1]) rfl ⟨a, b, t, x2, y2, p3, rfl, HP.out.1, HP.out.2.1, HP.out.2.2.1, HX.out.1, HX.out.2, ?_, ?_, ?_, ?_⟩
      · exact (ord3 HP.out.2.2.2 HP4.out HP5.out).1
      · exact (ord3 HP.out.2.2.2 HP4.out HP5.out).2
      · exact rdr_set (rdr_set (rdr_set (rdr_set (rdr_set HI5.out.rd _ _ _ (by omega)) _ _ _ (by omega)) _ _ _ (by omega)) _ _ _ (by omega)) _ _ _ (by omega)
      · exact apt_set (apt_set (apt_set (apt_set (apt_set HI5.out.two.apt _ _ (by omega) _) _ _ (by omega) _) _ _ (by omega) _) _ _ (by omega) _) _ _ (by omega) _
  · obtain ⟨⟨m0, m1, m2⟩, ⟨o0, o1, o2, f0, f1, f2⟩, q0, q1, g0, g1⟩ := HI3.out.cells
    have HM := Lib.hid (draw_rect g (p1 + 1) (by omega) a b t _ (HI3.out.drew).rd)
    go_wp2_with fail
    go_region_with (first
      | (go_at_call 22; refine HM.out.mono ?_; rintro e w4 ⟨x, y, rfl, hx, hy, hr4, ha4⟩; have HI4 := Lib.hid (HI3.out.drew.later ha4 hr4); have HB := Lib.hid (bad_rect g (p1 + 1 + 2) (by omega) x y ⟨by omega, by omega⟩ ⟨by omega, by omega⟩ w4 hr4); obtain ⟨⟨m0, m1, m2⟩, ⟨o0, o1, o2, f0, f1, f2⟩, q0, q1, g0, g1⟩ := HI4.out.cells; clear hx hy hr4 ha4)
      | (go_at_call 29; refine HB.out.mono ?_; rintro e w5 ⟨x2, y2, p3, rfl, hx, hy, hp3, hp4, hr5, ha5⟩; have HI5 := Lib.hid (HI4.out.later ha5 hr5); have HP5 := Lib.hid (And.intro hp3 hp4); have HX := Lib.hid (And.intro hx hy); obtain ⟨⟨m0, m1, m2⟩, ⟨o0, o1, o2, f0, f1, f2⟩, q0, q1, g0, g1⟩ := HI5.out.cells; clear hx hy hp3 hp4 hr5 ha5))
    all_goals
      go_wp2_with fail
      refine bodyPost_ret (v := .tuple #[mtx a b t, .agg #[.int .i64 x2, .int .i64 y2]]) (by simp [results, Try.results11, go_sem, o0, o1, o2, q0, q1]) rfl ⟨a, b, t, x2, y2, p3, rfl, HP.out.1, HP.out.2.1, HP.out.2.2.1, HX.out.1, HX.out.2, ?_, ?_, ?_, ?_⟩
      · exact (ord2 HP.out.2.2.2 HP5.out).1
      · exact (ord2 HP.out.2.2.2 HP5.out).2
      · exact rdr_set (rdr_set (rdr_set (rdr_set (rdr_set HI5.out.rd _ _ _ (by omega)) _ _ _ (by omega)) _ _ _ (by omega)) _ _ _ (by omega)) _ _ _ (by omega)
      · exact apt_set (apt_set (apt_set (apt_set (apt_set HI5.out.two.apt _ _ (by omega) _) _ _ (by omega) _) _ _ (by omega) _) _ _ (by omega) _) _ _ (by omega) _
end Go.Proofs.Ytalechngagkklaa.Rd10
