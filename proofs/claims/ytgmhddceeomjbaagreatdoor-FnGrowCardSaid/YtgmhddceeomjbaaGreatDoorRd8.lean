/-
  The drawing function l2Mono: what it needs of l1At and l2Cols is little.
-/
import Derived.Test.YtgmhddceeomjbaaGreatDoorJ7
import Derived.Test.YtgmhddceeomjbaaGreatDoorJ6
import Derived.Test.YtgmhddceeomjbaaGreatDoorJ11
import Derived.Test.YtgmhddceeomjbaaGreatDoorJ5
import Derived.IntWalk
namespace Go.Proofs.YtgmhddceeomjbaaGreatDoor.Rd8
open Go.RowKit Go.Proofs.YtgmhddceeomjbaaGreatDoor.Plain Go.Proofs.YtgmhddceeomjbaaGreatDoor.Base Go.Proofs.YtgmhddceeomjbaaGreatDoor.Valid Go.Proofs.YtgmhddceeomjbaaGreatDoor.Pat Go.Proofs.YtgmhddceeomjbaaGreatDoor.Rect Go.Proofs.YtgmhddceeomjbaaGreatDoor.Rd Go.Proofs.YtgmhddceeomjbaaGreatDoor.Rd2 Go.Proofs.YtgmhddceeomjbaaGreatDoor.Rd3 Go.Proofs.YtgmhddceeomjbaaGreatDoor.Rd4 Go.Proofs.YtgmhddceeomjbaaGreatDoor.Rd5 Go.Proofs.YtgmhddceeomjbaaGreatDoor.Rd6 Go.Proofs.YtgmhddceeomjbaaGreatDoor.Rd7 Go.Proofs.YtgmhddceeomjbaaGreatDoor.FreeL
open Go.Proofs.YtgmhddceeomjbaaGreatDoor.Free (fill wp_value wp_enter wp_load_row freeB setRow_kept)
set_option linter.unusedVariables false

set_option maxHeartbeats 1000000 in
theorem at_w (R C : Nat) (hR : R ≤ 8) (hC : C ≤ 8) (s : ByteArray) (hs : s.size = R * C) (x y : Nat) (hx : x < R) (hy : y < C) (w : World) :
    Calls Tryz.prog 78 #[mat R C s, .int .i64 (x : Int), .int .i64 (y : Int)] w fun e w' => ∃ b, e = .returned (.bool b) ∧ Below w.heap.size w w' := by
  have hlt : x * C + y < s.size := by
    have : (x + 1) * C ≤ R * C := Nat.mul_le_mul_right C hx
    rw [Nat.succ_mul] at this
    omega
  have h64 : s.size ≤ 64 := by rw [hs]; exact prod_le hR hC
  have hmul := wrap_prod x C (by omega) hC
  have HM := Lib.hid hmul
  have hxc : x * C ≤ 64 := by omega
  clear hs hmul
  go_enter Tryz.func78, Tryz.ntmps78
  go_wp2_with fail
  go_ret
  exact ⟨_, rfl, by go_grown⟩

set_option maxHeartbeats 400000 in
theorem int_w (b : Bool) (w : World) :
    Calls Tryz.prog 77 #[.bool b] w fun e w' => e = .returned (.int .i64 (bitI b)) ∧ w = w' := by
  cases b
  all_goals
    go_enter Tryz.func77, Tryz.ntmps77
    go_wp2
    go_ret
    exact ⟨rfl, rfl⟩

/-- m's box is kept -/
structure DInv (w wr : World) (R C : Nat) (s : ByteArray) : Prop where
  m : wr.heap[w.heap.size]? = some (.cells #[.int .i64 (R : Int), .int .i64 (C : Int), .string s] 27 (0, 0))
  below : Below w.heap.size w wr
theorem DInv.later {w wr w2 : World} {R C : Nat} {s : ByteArray} (h : DInv w wr R C s) (hb : Below wr.heap.size wr w2) : DInv w w2 R C s := ⟨(hb.block _ (Array.getElem?_eq_some_iff.1 h.m).1).trans h.m, rstep h.below hb⟩
theorem wrapS (n : Nat) (h : n ≤ 256) : IntKind.i64.wrap (n : Int) = (n : Int) := by
  rw [IntKind.wrap_i64]
  omega
theorem orS (a b : Nat) (ha : a < 256) (hb : b < 256) : Go.bits .or .i64 (a : Int) (b : Int) = ((a ||| b : Nat) : Int) :=
  (bits_nat .i64 8 (by decide) (fun n h0 h1 => by rw [IntKind.wrap_i64]; omega) a b (by omega) (by omega)).2

set_option maxHeartbeats 4000000 in
theorem cols_w (R C : Nat) (hR1 : 1 ≤ R) (hR : R ≤ 8) (hC1 : 1 ≤ C) (hC : C ≤ 8) (s : ByteArray) (hs : s.size = R * C) (S : Nat) (hS : S < 256) (bi : Int) (w : World) :
    Calls Tryz.prog 86 #[mat R C s, .int .i64 (S : Int), .int .i64 bi] w fun e w' => ∃ u : Nat, u < 256 ∧ e = .returned (.int .i64 (u : Int)) ∧ Below w.heap.size w w' := by
  have HAT := Lib.hid (fun x y hx hy W => at_w R C hR hC s hs x y hx hy W)
  clear hs
  go_enter Tryz.func86, Tryz.ntmps86
  go_wp2_with fail
  have HI0 : Hid (DInv w (w.alloc (.cells #[.int .i64 (R : Int), .int .i64 (C : Int), .string s] 27)) R C s) := ⟨heap_alloc_new w _, (Below.refl w.heap.size w).alloc (Nat.le_refl _) _⟩
  generalize w.alloc (.cells #[.int .i64 (R : Int), .int .i64 (C : Int), .string s] 27) = W0 at *
  go_loopw [7, 8] (fun t i wr => ∃ (j u : Nat), j ≤ C ∧ t = .int .i64 (u : Int) ∧ u < 256 ∧ i = .int .i64 (j : Int) ∧ Hid (DInv w wr R C s)) (fun _ i _ => C - (intOf i).toNat)
  case atStart => exact ⟨0, 0, Nat.zero_le _, rfl, by omega, rfl, HI0⟩
  case round =>
    obtain ⟨j, u, hj, rfl, hu, rfl, HI⟩ := hrel
    clear HI0
    obtain ⟨q0, q1, q2, -, -, -⟩ := cells3 HI.out.m
    by_cases hlt : j < C
    · go_wp2_with fail
      go_loopw [9, 10] (fun a x wr => ∃ (k : Nat) (v : Bool), k ≤ R ∧ a = .bool v ∧ x = .int .i64 (k : Int) ∧ Hid (DInv w wr R C s)) (fun _ x _ => R - (intOf x).toNat)
      case atStart => exact ⟨0, true, Nat.zero_le _, rfl, rfl, HI⟩
      case round =>
        obtain ⟨k, v, hk, rfl, rfl, HI⟩ := hrel
        clear q0 q1 q2
        obtain ⟨q0, q1, q2, -, -, -⟩ := cells3 HI.out.m
        by_cases hlt' : k < R
        · have k8 : k < 8 := by omega
          have HK := Lib.hid (fun W => l2In_any S k hS k8 W)
          have HA := Lib.hid (fun W => HAT.out k j hlt' hlt W)
          obtain ⟨b1, h1⟩ : ∃ b, S.testBit k = b := ⟨_, rfl⟩
          rw [h1] at HK
          clear h1
          cases v
          · clear HK HA
            go_wp2_with fail
            go_roundw
            case rel => exact ⟨k + 1, false, by omega, rfl, by go_num, HI⟩
            case measure => simp [intOf]; omega
          · cases b1
            · go_wp2_with fail
              refine (HK.out _).mono ?_
              rintro e w' ⟨rfl, rfl⟩
              go_wp2_with fail
              go_roundw
              case rel => exact ⟨k + 1, true, by omega, rfl, by go_num, HI⟩
              case measure => simp [intOf]; omega
            · go_wp2_with fail
              refine (HK.out _).mono ?_
              rintro e w' ⟨rfl, rfl⟩
              go_wp2_with fail
              refine (HA.out _).mono ?_
              rintro e w2 ⟨b3, rfl, hb2⟩
              have HI2 := Lib.hid (HI.out.later hb2)
              clear hb2 q0 q1 q2
              go_wp2_with fail
              refine (int_w _ _).mono ?_
              rintro e w' ⟨rfl, rfl⟩
              obtain ⟨x, hx⟩ : ∃ x, bitI b3 = x := ⟨_, rfl⟩
              rw [hx]
              clear hx
              go_wp2_with fail
              go_roundw
              case rel => exact ⟨k + 1, _, by omega, rfl, by go_num, HI2⟩
              case measure => simp [intOf]; omega
        · obtain rfl : k = R := by omega
          have hX : 2 ^ j < 256 := Nat.lt_of_lt_of_le (Nat.pow_lt_pow_right (by decide) (show j < 8 by omega)) (by decide)
          have hw : IntKind.i64.wrap (2 ^ j) = ((2 ^ j : Nat) : Int) := by rw [show ((2 : Int) ^ j) = ((2 ^ j : Nat) : Int) by simp]; exact wrapS _ (by omega)
          have ho := orS u (2 ^ j) hu hX
          have HN := Lib.hid (show u ||| 2 ^ j < 256 from Nat.or_lt_two_pow (n := 8) hu hX)
          generalize 2 ^ j = X at *
          generalize u ||| X = y at *
          cases v
          · go_wp2_with fail
            go_roundw
            case rel => exact ⟨j + 1, u, by omega, rfl, hu, by go_num, HI⟩
            case measure => simp [intOf]; omega
          · go_wp2_with fail
            go_roundw
            case rel => exact ⟨j + 1, y, by omega, rfl, HN.out, by go_num, HI⟩
            case measure => simp [intOf]; omega
    · obtain rfl : j = C := by omega
      go_wp2_with fail
      go_ret
      exact ⟨u, hu, rfl, HI.out.below⟩
end Go.Proofs.YtgmhddceeomjbaaGreatDoor.Rd8
