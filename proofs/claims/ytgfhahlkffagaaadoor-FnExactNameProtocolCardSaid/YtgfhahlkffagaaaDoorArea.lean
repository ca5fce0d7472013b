/-
  The reference's AreaOf and l1Ones.
-/
import Derived.Test.YtgfhahlkffagaaaDoorPatch
import Derived.WalkSmall
namespace Go.Proofs.YtgfhahlkffagaaaDoor.Area
open Go.RowKit Go.Proofs.YtgfhahlkffagaaaDoor.Plain Go.Proofs.YtgfhahlkffagaaaDoor.Pat Go.Proofs.YtgfhahlkffagaaaDoor.Rect Go.Proofs.YtgfhahlkffagaaaDoor.Patch
set_option linter.unusedVariables false

theorem and_one8 : ∀ m : Nat, m < 256 → Go.bits .and .i64 (m : Int) 1 = ((m % 2 : Nat) : Int) := by
  have h : ∀ k : Fin 256, Go.bits .and .i64 ((k.val : Nat) : Int) 1 = ((k.val % 2 : Nat) : Int) := by decide +kernel
  intro k hk
  exact h ⟨k, hk⟩
theorem pop8_half (a : Nat) (h : a < 256) : pop8 a = a % 2 + pop8 (a / 2) := by
  unfold pop8
  omega

set_option maxHeartbeats 400000 in
theorem ones8 (n : Nat) (hn : n < 256) (w : World) :
    Calls Tryd.prog 127 #[.int .i64 (n : Int)] w fun e w' => e = .returned (.int .i64 (pop8 n : Int)) ∧ w' = w := by
  go_enter Tryd.func127, Tryd.ntmps127
  go_wp2_with fail
  go_loop [0, 3] (fun m k => ∃ (a t : Nat), a < 256 ∧ t ≤ 8 ∧ m = .int .i64 (a : Int) ∧ k = .int .i64 (t : Int) ∧ Hid (pop8 a + t = pop8 n)) (fun m _ => (intOf m).toNat)
  case atStart => exact ⟨n, 0, hn, by omega, rfl, rfl, rfl⟩
  case round =>
    obtain ⟨a, t, ha, ht, rfl, rfl, hs⟩ := hrel
    by_cases h0 : 0 < a
    · have hbit := and_one8 a ha
      have HN : Hid (t + a % 2 ≤ 8 ∧ pop8 (a / 2) + (t + a % 2) = pop8 n) := by
        have ho := hs.out
        have hp := pop8_half a ha
        have hq := pop8_le n
        unfold Hid
        omega
      clear hs
      go_wp2_with fail
      go_round
      case rel => exact ⟨a / 2, t + a % 2, by omega, HN.out.1, by go_num, by go_num, HN.out.2⟩
      case measure => simp [intOf]; omega
    · obtain rfl : a = 0 := by omega
      have HO := Lib.hid (show t = pop8 n by have ho := hs.out; rw [show pop8 0 = 0 from rfl, Nat.zero_add] at ho; exact ho)
      clear hs
      go_wp2_with fail
      go_ret
      exact ⟨by rw [← HO.out]; rfl, rfl⟩

set_option maxHeartbeats 1000000 in
theorem spec_area (R C : Nat) (hR1 : 1 ≤ R) (hR : R < 256) (hC1 : 1 ≤ C) (hC : C < 256) (w : World) :
    Calls Tryd.prog 104 #[rect R C] w fun e w' => e = .returned (.int .i64 ((pop8 R * pop8 C : Nat) : Int)) ∧ Below w.heap.size w w' := by
  have HS := Lib.hid (show someB R C = true by rw [someB_iff]; omega)
  have HM : Hid (wrap64 ((pop8 R : Int) * (pop8 C : Int)) = ((pop8 R * pop8 C : Nat) : Int)) := by
    have h1 := pop8_le R
    have h2 := pop8_le C
    have h3 : pop8 R * pop8 C ≤ 8 * 8 := Nat.mul_le_mul h1 h2
    unfold Hid
    rw [← Int.natCast_mul]
    unfold wrap64
    omega
  go_enter Tryd.func104, Tryd.ntmps104
  go_wp2_with fail
  refine (some_any _ _ _).mono ?_
  rintro e w1 ⟨rfl, hb1⟩
  rw [HS.out]
  obtain ⟨c0, c1, hz, HB⟩ := box2 hb1
  clear hb1
  go_wp2_with fail
  go_quiet ((go_at_call 127; exact Calls.quiet_of_same (ones8 _ (by assumption) _)))
  go_wp2_with fail
  go_ret
  exact ⟨congrArg (fun v => Ending.returned (Value.int .i64 v)) HM.out, below_drewN HB.out _⟩
set_option maxHeartbeats 1000000 in
theorem spec_area_no (r c : Int) (h : someB r c = false) (w : World) :
    Calls Tryd.prog 104 #[rect r c] w fun e w' => e = .returned (.int .i64 (-1)) ∧ Below w.heap.size w w' := by
  have HS := Lib.hid h
  clear h
  go_enter Tryd.func104, Tryd.ntmps104
  go_wp2_with fail
  refine (some_any _ _ _).mono ?_
  rintro e w1 ⟨rfl, hb1⟩
  rw [HS.out]
  obtain ⟨c0, c1, hz, HB⟩ := box2 hb1
  clear hb1
  go_wp2_with fail
  go_ret
  exact ⟨rfl, HB.out⟩
end Go.Proofs.YtgfhahlkffagaaaDoor.Area
