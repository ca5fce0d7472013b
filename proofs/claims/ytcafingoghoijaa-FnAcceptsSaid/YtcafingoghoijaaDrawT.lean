/-
  The drawing functions: an element of a list of strings; a rectangle of a valid matrix.
-/
import Derived.Test.YtcafingoghoijaaJo6
namespace Go.Proofs.Ytcafingoghoijaa.DrawT
open Go.RowKit Go.Proofs.Ytcafingoghoijaa.Plain Go.Proofs.Ytcafingoghoijaa.Rd Go.Proofs.Ytcafingoghoijaa.Rd2 Go.Proofs.Ytcafingoghoijaa.Rd3
set_option linter.unusedVariables false

theorem shift_le (n : Nat) (h : n ≤ 8) : wrap64 (wrap64 (2 ^ n) - 1) ≤ 255 := by
  have h2 : ∀ k : Fin 9, wrap64 (wrap64 (2 ^ k.val) - 1) ≤ 255 := by decide +kernel
  exact h2 ⟨n, by omega⟩
set_option maxHeartbeats 1000000 in
theorem draw_rect8 {lo : Nat} (g p : Nat) (hp : p < 1048000) (r c : Int) (hr1 : 1 ≤ r) (hr8 : r ≤ 8) (hc1 : 1 ≤ c) (hc8 : c ≤ 8) (s : ByteArray) (w : World) (h : Rdr lo w g p) :
    Calls Try.prog 69 #[.pointer (some ⟨g, 0, none⟩), .agg #[.int .i64 r, .int .i64 c, .string s]] w fun e w' => ∃ x y : Int, e = .returned (.agg #[.int .i64 x, .int .i64 y]) ∧ (1 ≤ x ∧ x ≤ 255) ∧ (1 ≤ y ∧ y ≤ 255) ∧ Rdr lo w' g (p + 2) ∧ Apt g w w' := by
  have hg := h.lt
  have h0 := h.later (two_start_below w (.cells #[.int .i64 r, .int .i64 c, .string s] 78) (.cells #[.int .i64 0, .int .i64 0] 33))
  have hT := Two.start g w 78 33 #[.int .i64 r, .int .i64 c, .string s] #[.int .i64 0, .int .i64 0]
  go_enter Try.func69, Try.ntmps69
  have HP := Lib.hid (fun m => pick_r g p (by omega) m _ h0)
  clear h0
  go_wp2_with fail
  all_goals
    refine (HP.out _).mono ?_
    rintro e w1 ⟨x, rfl, ⟨hx0, hxm⟩, hx2, hr, ha⟩
    have hx3 : x ≤ 254 := by have := shift_le r.toNat (by omega); omega
    have hT1 := Lib.hid (hT.later hg ha)
    have HQ := Lib.hid (fun m => pick_r g (p + 1) (by omega) m _ hr)
    clear hT hr ha HP hx2 hxm
    go_wp2_with fail
    refine (HQ.out _).mono ?_
    rintro e w2 ⟨y, rfl, ⟨hy0, hym⟩, hy2, hr, ha⟩
    have hy3 : y ≤ 254 := by have := shift_le c.toNat (by omega); omega
    have hT2 := hT1.out.later hg ha
    have o0 : w2.cell? ⟨w.heap.size + 1, 0, none⟩ = some (.int .i64 0) := cell_of_row _ _ 0 _ _ _ hT2.two
    have o1 : w2.cell? ⟨w.heap.size + 1, 1, none⟩ = some (.int .i64 0) := cell_of_row _ _ 1 _ _ _ hT2.two
    have f0 : w2.frozen? ⟨w.heap.size + 1, 0, none⟩ = false := frozen_of_row _ _ 0 _ _ hT2.two
    have f1 : w2.frozen? ⟨w.heap.size + 1, 1, none⟩ = false := frozen_of_row _ _ 1 _ _ hT2.two
    have HR := Lib.hid hr
    have HA := Lib.hid hT2.apt
    clear hT1 hT2 hr ha HQ hy2 hym
    go_wp2_with fail
    refine bodyPost_ret (v := .agg #[.int .i64 (1 + x), .int .i64 (1 + y)]) (by simp [results, Try.results69, go_sem, o0, o1]) rfl ⟨_, _, rfl, ⟨by omega, by omega⟩, ⟨by omega, by omega⟩, ?_, ?_⟩
    · exact rdr_set (rdr_set HR.out _ _ _ (by omega)) _ _ _ (by omega)
    · exact apt_set (apt_set HA.out _ _ (by omega) _) _ _ (by omega) _
end Go.Proofs.Ytcafingoghoijaa.DrawT
