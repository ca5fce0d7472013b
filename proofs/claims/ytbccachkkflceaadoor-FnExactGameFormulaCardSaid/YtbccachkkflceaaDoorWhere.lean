/-
  The program's setWhere, whatever function tells which numbers are in the set.
-/
import Derived.Test.YtbccachkkflceaaDoorBase
import Derived.Test.YtbccachkkflceaaDoorPat
namespace Go.Proofs.YtbccachkkflceaaDoor.Where
open Go.RowKit Go.Proofs.YtbccachkkflceaaDoor.Plain Go.Proofs.YtbccachkkflceaaDoor.Base Go.Proofs.YtbccachkkflceaaDoor.Pat
set_option linter.unusedVariables false

/-- what is asked of the function value -/
def Says (g : Nat) (lb : Array Value) (n : Nat) (P : Nat → Bool) (w : World) : Prop :=
  ∀ (W : World) (i : Nat), i < n → Below w.heap.size w W → Calls Tryd.prog g (#[.int .i64 (i : Int)] ++ lb) W fun e W' => e = .returned (.bool (P i)) ∧ Below W.heap.size W W'
theorem wrap8 (n : Nat) (h : n ≤ 256) : IntKind.i64.wrap (n : Int) = (n : Int) := by
  rw [IntKind.wrap_i64]
  omega
theorem or8 (a b : Nat) (ha : a < 256) (hb : b < 256) : Go.bits .or .i64 (a : Int) (b : Int) = ((a ||| b : Nat) : Int) :=
  (bits_nat .i64 8 (by decide) (fun n h0 h1 => by rw [IntKind.wrap_i64]; omega) a b (by omega) (by omega)).2

set_option maxHeartbeats 1000000 in
theorem where_any (g : Nat) (lb : Array Value) (n : Nat) (hn : n ≤ 8) (P : Nat → Bool) (w : World) (eg : ∀ args W, (callFunc g args).run Tryd.prog W = .ok (.enter g args) W) (hT : Hid (Says g lb n P w)) :
    Calls Tryd.prog 66 #[.int .i64 (n : Int), .func (.func g) #[] lb] w fun e w' => e = .returned (.int .i64 ((setB P n : Nat) : Int)) ∧ Below w.heap.size w w' := by
  go_enter Tryd.func66, Tryd.ntmps66
  go_wp2_with fail
  go_loopw [5, 8] (fun t i wr => ∃ (k s : Nat), k ≤ n ∧ t = .int .i64 (s : Int) ∧ Hid (s = setB P k) ∧ i = .int .i64 (k : Int) ∧ Below w.heap.size w wr) (fun _ i _ => n - (intOf i).toNat)
  case atStart => exact ⟨0, 0, Nat.zero_le _, rfl, rfl, rfl, Below.refl _ _⟩
  case round =>
    obtain ⟨k, s, hk, rfl, hs, rfl, hb⟩ := hrel
    have HB := Lib.hid hb
    clear hb
    by_cases hlt : k < n
    · have hk8 : k < 8 := by omega
      have hs8 : s < 256 := by rw [hs.out]; exact setB_lt8 P k (by omega)
      have hX : 2 ^ k < 256 := Nat.lt_of_lt_of_le (Nat.pow_lt_pow_right (by decide) hk8) (by decide)
      have HC := Lib.hid (hT.out wr k hlt HB.out)
      have hw : IntKind.i64.wrap (2 ^ k) = ((2 ^ k : Nat) : Int) := by rw [show ((2 : Int) ^ k) = ((2 ^ k : Nat) : Int) by simp]; exact wrap8 _ (by omega)
      have ho := or8 s (2 ^ k) hs8 hX
      have hz := or8 s 0 hs8 (by decide)
      rw [Nat.or_zero] at hz
      replace hz : Go.bits .or .i64 (s : Int) 0 = (s : Int) := hz
      obtain ⟨b, hbit⟩ : ∃ b, P k = b := ⟨_, rfl⟩
      have HN : Hid ((if b = true then s ||| 2 ^ k else s) = setB P (k + 1)) := by
        unfold Hid
        rw [← setB_or, ← hs.out, hbit]
        cases b
        · simp
        · simp
      rw [hbit] at HC
      clear hs hbit
      generalize 2 ^ k = X at *
      generalize s ||| X = y at *
      cases b
      · go_wp2_with fail
        refine HC.out.mono ?_
        rintro e w2 ⟨rfl, hb2⟩
        have HB2 : Hid (Below w.heap.size w w2) := HB.out.trans (hb2.mono HB.out.size)
        clear hb2
        go_wp2_with fail
        refine (bitOf_any false _).mono ?_
        rintro e w' ⟨rfl, rfl⟩
        rw [bitI_false]
        go_wp2_with fail
        go_roundw
        case rel => exact ⟨k + 1, s, by omega, rfl, by have h := HN.out; unfold Hid; simpa using h, by go_num, HB2.out⟩
        case measure => simp [intOf]; omega
      · go_wp2_with fail
        refine HC.out.mono ?_
        rintro e w2 ⟨rfl, hb2⟩
        have HB2 : Hid (Below w.heap.size w w2) := HB.out.trans (hb2.mono HB.out.size)
        clear hb2
        go_wp2_with fail
        refine (bitOf_any true _).mono ?_
        rintro e w' ⟨rfl, rfl⟩
        rw [bitI_true]
        go_wp2_with fail
        go_roundw
        case rel => exact ⟨k + 1, y, by omega, rfl, by have h := HN.out; unfold Hid; simpa using h, by go_num, HB2.out⟩
        case measure => simp [intOf]; omega
    · obtain rfl : k = n := by omega
      go_wp2_with fail
      go_ret
      exact ⟨by rw [← hs.out]; rfl, HB.out⟩
end Go.Proofs.YtbccachkkflceaaDoor.Where
