/-
  The drawing function l1Bad.
-/
import Derived.Test.YtbbgibbpeibhiaaDoorRd4
namespace Go.Proofs.YtbbgibbpeibhiaaDoor.Rd5
open Go.RowKit Go.Proofs.YtbbgibbpeibhiaaDoor.Plain Go.Proofs.YtbbgibbpeibhiaaDoor.Rd Go.Proofs.YtbbgibbpeibhiaaDoor.Rd2 Go.Proofs.YtbbgibbpeibhiaaDoor.Rd3 Go.Proofs.YtbbgibbpeibhiaaDoor.Rd4
set_option linter.unusedVariables false

theorem cells3 {w : World} {g : Nat} {T : TypeId} {a b c : Value} (h : w.heap[g]? = some (.cells #[a, b, c] T (0, 0))) : w.cell? ⟨g, 0, none⟩ = some a ∧ w.cell? ⟨g, 1, none⟩ = some b ∧ w.cell? ⟨g, 2, none⟩ = some c ∧ w.frozen? ⟨g, 0, none⟩ = false ∧ w.frozen? ⟨g, 1, none⟩ = false ∧ w.frozen? ⟨g, 2, none⟩ = false :=
  ⟨cell_of_row _ _ 0 _ _ _ h, cell_of_row _ _ 1 _ _ _ h, cell_of_row _ _ 2 _ _ _ h, frozen_of_row _ _ 0 _ _ h, frozen_of_row _ _ 1 _ _ h, frozen_of_row _ _ 2 _ _ h⟩
/-- a drawn matrix -/
abbrev mtx (r c : Int) (s : ByteArray) : Value := .agg #[.int .i64 r, .int .i64 c, .string s]

set_option maxHeartbeats 2000000 in
theorem bad_mat {lo : Nat} (g p : Nat) (hp : p < 1048000) (r c : Int) (s : ByteArray) (hr1 : 1 ≤ r) (hr8 : r ≤ 8) (hc : W64 c) (hs1 : 1 ≤ s.size) (hs : s.size ≤ 64) (w : World) (h : Rdr lo w g p) :
    Calls Tryd.prog 70 #[.pointer (some ⟨g, 0, none⟩), mtx r c s] w fun e w' => ∃ (a b : Int) (t : ByteArray) (p' : Nat), e = .returned (mtx a b t) ∧ W64 a ∧ W64 b ∧ t.size ≤ 100 ∧ p ≤ p' ∧ p' ≤ p + 2 ∧ Rdr lo w' g p' ∧ Apt g w w' := by
  have hg := h.lt
  have h0 := h.later (two_start_below w (.cells #[.int .i64 r, .int .i64 c, .string s] 24) (.cells #[.int .i64 0, .int .i64 0, .string ⟨#[]⟩] 24))
  have hT := Two.start g w 24 24 #[.int .i64 r, .int .i64 c, .string s] #[.int .i64 0, .int .i64 0, .string ⟨#[]⟩]
  have HP := Lib.hid (pick_r g p (by omega) 40 _ h0)
  have hr : W64 r := ⟨by omega, by omega⟩
  clear h0
  go_enter Tryd.func70, Tryd.ntmps70
  go_wp2_with fail
  refine HP.out.mono ?_
  rintro e w1 ⟨k, rfl, ⟨hk0, -⟩, -, hrd, ha⟩
  have hT1 := hT.later hg ha
  clear hT HP
  by_cases hk : k = 0
  · subst hk
    obtain ⟨q0, q1, q2, r0, r1, r2⟩ := cells3 hT1.one
    have hr2 := hrd.later ((Below.refl w1.heap.size w1).alloc (Nat.le_refl _) (.cells ([0, -1, 9, r + 1, 9223372036854775807].map fun x : Int => Value.int .i64 x).toArray 3))
    have HN := Lib.hid (num_any g (p + 1) (by omega) [0, -1, 9, r + 1, 9223372036854775807] (by simp) (by simp) w1.heap.size 5 (by have := hrd.lt; omega) _ hr2 (by simp) (fun j hj => cells_lit w1 3 [0, -1, 9, r + 1, 9223372036854775807] j hj))
    have HT1 := Lib.hid hT1
    clear hrd hr2 ha hk0 hT1
    go_wp2_with fail
    refine HN.out.mono ?_
    rintro e w2 ⟨y2, rfl, hm, hr3, ha3⟩
    have hT2 := HT1.out.later hg ((Apt.of_below ((Below.refl w1.heap.size w1).alloc (Nat.le_refl _) _)).trans ha3)
    clear q0 q1 q2 r0 r1 r2
    obtain ⟨q0, q1, q2, r0, r1, r2⟩ := cells3 hT2.one
    obtain ⟨o0, o1, o2, f0, f1, f2⟩ := cells3 hT2.two
    have HR := Lib.hid hr3
    have HA := Lib.hid hT2.apt
    have hb : W64 y2 := by
      unfold W64
      simp at hm
      omega
    clear hr3 ha3 HN hT2 HT1 hm
    go_wp2_with fail
    refine bodyPost_ret (v := mtx (y2) (c) (s)) (by simp [results, Tryd.results70, go_sem, o0, o1, o2]) rfl ⟨y2, c, s, p + 2, rfl, hb, hc, by omega, by omega, by omega, ?_, ?_⟩
    · exact rdr_set (rdr_set (rdr_set (rdr_set (HR.out) _ _ _ (by omega)) _ _ _ (by omega)) _ _ _ (by omega)) _ _ _ (by omega)
    · exact apt_set (apt_set (apt_set (apt_set (HA.out) _ _ (by omega) _) _ _ (by omega) _) _ _ (by omega) _) _ _ (by omega) _
  obtain ⟨q0, q1, q2, r0, r1, r2⟩ := cells3 hT1.one
  obtain ⟨o0, o1, o2, f0, f1, f2⟩ := cells3 hT1.two
  have HR := Lib.hid hrd
  have HA := Lib.hid hT1.apt
  clear hrd ha hT1
  by_cases hk1 : k = 1
  · subst hk1
    have hcat := fun W => run_string_add_sum (P := Tryd.prog) (w := W) s ⟨#[48]⟩ (by show s.size + 1 ≤ 9223372036854775807; omega)
    go_wp2_with fail
    refine bodyPost_ret (v := mtx (r) (c) (s ++ ⟨#[48]⟩)) (by simp [results, Tryd.results70, go_sem, o0, o1, o2]) rfl ⟨r, c, s ++ ⟨#[48]⟩, p + 1, rfl, hr, hc, by rw [ByteArray.size_append]; show s.size + 1 ≤ 100; omega, by omega, by omega, ?_, ?_⟩
    · exact rdr_set (rdr_set (rdr_set (rdr_set (HR.out) _ _ _ (by omega)) _ _ _ (by omega)) _ _ _ (by omega)) _ _ _ (by omega)
    · exact apt_set (apt_set (apt_set (apt_set (HA.out) _ _ (by omega) _) _ _ (by omega) _) _ _ (by omega) _) _ _ (by omega) _
  by_cases hk2 : k = 2
  · subst hk2
    have hcat := fun W => run_string_add_sum (P := Tryd.prog) (w := W) ⟨#[50]⟩ (s.extract 1 s.size) (by show 1 + (s.extract 1 s.size).size ≤ 9223372036854775807; rw [ByteArray.size_extract]; omega)
    have hsl : (1 : Int) ≤ (s.size : Int) := by omega
    go_wp2_with fail
    refine bodyPost_ret (v := mtx (r) (c) (⟨#[50]⟩ ++ s.extract 1 s.size)) (by simp [results, Tryd.results70, go_sem, o0, o1, o2]) rfl ⟨r, c, ⟨#[50]⟩ ++ s.extract 1 s.size, p + 1, rfl, hr, hc, by rw [ByteArray.size_append, ByteArray.size_extract]; show 1 + _ ≤ 100; omega, by omega, by omega, ?_, ?_⟩
    · exact rdr_set (rdr_set (rdr_set (rdr_set (HR.out) _ _ _ (by omega)) _ _ _ (by omega)) _ _ _ (by omega)) _ _ _ (by omega)
    · exact apt_set (apt_set (apt_set (apt_set (HA.out) _ _ (by omega) _) _ _ (by omega) _) _ _ (by omega) _) _ _ (by omega) _
  by_cases hk3 : k = 3
  · subst hk3
    go_wp2_with fail
    refine bodyPost_ret (v := mtx (1) (9) (⟨#[48, 48, 48, 48, 48, 48, 48, 48, 48]⟩)) (by simp [results, Tryd.results70, go_sem, o0, o1, o2]) rfl ⟨1, 9, ⟨#[48, 48, 48, 48, 48, 48, 48, 48, 48]⟩, p + 1, rfl, ⟨by omega, by omega⟩, ⟨by omega, by omega⟩, by show 9 ≤ 100; omega, by omega, by omega, ?_, ?_⟩
    · exact rdr_set (rdr_set (rdr_set (HR.out) _ _ _ (by omega)) _ _ _ (by omega)) _ _ _ (by omega)
    · exact apt_set (apt_set (apt_set (HA.out) _ _ (by omega) _) _ _ (by omega) _) _ _ (by omega) _
  go_wp2_with fail
  refine bodyPost_ret (v := mtx (r) (c) (s)) (by simp [results, Tryd.results70, go_sem, o0, o1, o2]) rfl ⟨r, c, s, p + 1, rfl, hr, hc, by omega, by omega, by omega, ?_, ?_⟩
  · exact rdr_set (rdr_set (rdr_set (HR.out) _ _ _ (by omega)) _ _ _ (by omega)) _ _ _ (by omega)
  · exact apt_set (apt_set (apt_set (HA.out) _ _ (by omega) _) _ _ (by omega) _) _ _ (by omega) _
end Go.Proofs.YtbbgibbpeibhiaaDoor.Rd5
