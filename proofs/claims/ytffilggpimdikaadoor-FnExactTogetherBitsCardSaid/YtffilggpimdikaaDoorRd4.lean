/-
  The drawing function l2Bad.
-/
import Derived.Test.YtffilggpimdikaaDoorRd3
namespace Go.Proofs.YtffilggpimdikaaDoor.Rd4
open Go.RowKit Go.Proofs.YtffilggpimdikaaDoor.Plain Go.Proofs.YtffilggpimdikaaDoor.Rd Go.Proofs.YtffilggpimdikaaDoor.Rd2 Go.Proofs.YtffilggpimdikaaDoor.Rd3
set_option linter.unusedVariables false

/-- a number of 64 bits -/
def W64 (x : Int) : Prop := -9223372036854775808 ≤ x ∧ x ≤ 9223372036854775807
theorem cells2 {w : World} {g : Nat} {T : TypeId} {a b : Value} (h : w.heap[g]? = some (.cells #[a, b] T (0, 0))) : w.cell? ⟨g, 0, none⟩ = some a ∧ w.cell? ⟨g, 1, none⟩ = some b ∧ w.frozen? ⟨g, 0, none⟩ = false ∧ w.frozen? ⟨g, 1, none⟩ = false :=
  ⟨cell_of_row _ _ 0 _ _ _ h, cell_of_row _ _ 1 _ _ _ h, frozen_of_row _ _ 0 _ _ h, frozen_of_row _ _ 1 _ _ h⟩

set_option maxHeartbeats 2000000 in
theorem bad_rect {lo : Nat} (g p : Nat) (hp : p < 1048000) (x y : Int) (hx : W64 x) (hy : W64 y) (w : World) (h : Rdr lo w g p) :
    Calls Tryd.prog 66 #[.pointer (some ⟨g, 0, none⟩), .agg #[.int .i64 x, .int .i64 y]] w fun e w' => ∃ (a b : Int) (p' : Nat), e = .returned (.agg #[.int .i64 a, .int .i64 b]) ∧ W64 a ∧ W64 b ∧ p ≤ p' ∧ p' ≤ p + 2 ∧ Rdr lo w' g p' ∧ Apt g w w' := by
  have hg := h.lt
  have h0 := h.later (two_start_below w (.cells #[.int .i64 x, .int .i64 y] 42) (.cells #[.int .i64 0, .int .i64 0] 42))
  have hT := Two.start g w 42 42 #[.int .i64 x, .int .i64 y] #[.int .i64 0, .int .i64 0]
  have HP := Lib.hid (pick_r g p (by omega) 30 _ h0)
  clear h0
  go_enter Tryd.func66, Tryd.ntmps66
  go_wp2_with fail
  refine HP.out.mono ?_
  rintro e w1 ⟨k, rfl, ⟨hk0, -⟩, -, hr, ha⟩
  have hT1 := hT.later hg ha
  clear hT HP
  by_cases hk : k = 0
  · subst hk
    have hr2 := hr.later ((Below.refl w1.heap.size w1).alloc (Nat.le_refl _) (.cells ([0, -1, 256, 255, 9223372036854775807].map fun x : Int => Value.int .i64 x).toArray 3))
    have HN := Lib.hid (num_any g (p + 1) (by omega) [0, -1, 256, 255, 9223372036854775807] (by decide) (by decide) w1.heap.size 5 (by have := hr.lt; omega) _ hr2 (by simp) (fun j hj => cells_lit w1 3 [0, -1, 256, 255, 9223372036854775807] j hj))
    have HT1 := Lib.hid hT1
    clear hr hr2 ha hk0 hT1
    go_wp2_with fail
    refine HN.out.mono ?_
    rintro e w2 ⟨y2, rfl, hm, hr3, ha3⟩
    have hT2 := HT1.out.later hg ((Apt.of_below ((Below.refl w1.heap.size w1).alloc (Nat.le_refl _) _)).trans ha3)
    obtain ⟨q0, q1, r0, r1⟩ := cells2 hT2.one
    obtain ⟨o0, o1, f0, f1⟩ := cells2 hT2.two
    have HR := Lib.hid hr3
    have HA := Lib.hid hT2.apt
    have hb : W64 y2 := by
      unfold W64
      simp at hm
      omega
    clear hr3 ha3 HN hT2 HT1 hm
    go_wp2_with fail
    refine bodyPost_ret (v := .agg #[.int .i64 y2, .int .i64 y]) (by simp [results, Tryd.results66, go_sem, o0, o1]) rfl ⟨y2, y, p + 2, rfl, hb, hy, by omega, by omega, ?_, ?_⟩
    · exact rdr_set (rdr_set (rdr_set HR.out _ _ _ (by omega)) _ _ _ (by omega)) _ _ _ (by omega)
    · exact apt_set (apt_set (apt_set HA.out _ _ (by omega) _) _ _ (by omega) _) _ _ (by omega) _
  by_cases hk1 : k = 1
  · subst hk1
    have hr2 := hr.later ((Below.refl w1.heap.size w1).alloc (Nat.le_refl _) (.cells ([0, -1, 256, 255].map fun x : Int => Value.int .i64 x).toArray 3))
    have HN := Lib.hid (num_any g (p + 1) (by omega) [0, -1, 256, 255] (by decide) (by decide) w1.heap.size 4 (by have := hr.lt; omega) _ hr2 (by simp) (fun j hj => cells_lit w1 3 [0, -1, 256, 255] j hj))
    have HT1 := Lib.hid hT1
    clear hr hr2 ha hk0 hT1
    go_wp2_with fail
    refine HN.out.mono ?_
    rintro e w2 ⟨y2, rfl, hm, hr3, ha3⟩
    have hT2 := HT1.out.later hg ((Apt.of_below ((Below.refl w1.heap.size w1).alloc (Nat.le_refl _) _)).trans ha3)
    obtain ⟨q0, q1, r0, r1⟩ := cells2 hT2.one
    obtain ⟨o0, o1, f0, f1⟩ := cells2 hT2.two
    have HR := Lib.hid hr3
    have HA := Lib.hid hT2.apt
    have hb : W64 y2 := by
      unfold W64
      simp at hm
      omega
    clear hr3 ha3 HN hT2 HT1 hm
    go_wp2_with fail
    refine bodyPost_ret (v := .agg #[.int .i64 x, .int .i64 y2]) (by simp [results, Tryd.results66, go_sem, o0, o1]) rfl ⟨x, y2, p + 2, rfl, hx, hb, by omega, by omega, ?_, ?_⟩
    · exact rdr_set (rdr_set (rdr_set HR.out _ _ _ (by omega)) _ _ _ (by omega)) _ _ _ (by omega)
    · exact apt_set (apt_set (apt_set HA.out _ _ (by omega) _) _ _ (by omega) _) _ _ (by omega) _
  obtain ⟨q0, q1, r0, r1⟩ := cells2 hT1.one
  obtain ⟨o0, o1, f0, f1⟩ := cells2 hT1.two
  have HR := Lib.hid hr
  have HA := Lib.hid hT1.apt
  clear hr ha hT1 hk0
  go_wp2_with fail
  refine bodyPost_ret (v := .agg #[.int .i64 x, .int .i64 y]) (by simp [results, Tryd.results66, go_sem, o0, o1]) rfl ⟨x, y, p + 1, rfl, hx, hy, by omega, by omega, ?_, ?_⟩
  · exact rdr_set (rdr_set HR.out _ _ _ (by omega)) _ _ _ (by omega)
  · exact apt_set (apt_set HA.out _ _ (by omega) _) _ _ (by omega) _
end Go.Proofs.YtffilggpimdikaaDoor.Rd4
