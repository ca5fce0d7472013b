/-
  Operations by their names: l1Known, l1Op, operationOf.
-/
import Derived.Test.YtgmhddceeomjbaaDoorEntry
namespace Go.Proofs.YtgmhddceeomjbaaDoor.Ops
open Go.RowKit Go.Proofs.YtgmhddceeomjbaaDoor.Plain Go.Proofs.YtgmhddceeomjbaaDoor.Base Go.Proofs.YtgmhddceeomjbaaDoor.Valid Go.Proofs.YtgmhddceeomjbaaDoor.Law Go.Proofs.YtgmhddceeomjbaaDoor.Entry
set_option linter.unusedVariables false

/-- the value of an operation, by its name -/
def opB (op : ByteArray) (a b : Bool) : Bool := if (op.toList == [97, 110, 100]) = true then a && b else if (op.toList == [111, 114]) = true then a || b else !(a == b)
/-- one of the three names -/
def opKnown (op : ByteArray) : Bool := op.toList == [97, 110, 100] || op.toList == [111, 114] || op.toList == [120, 111, 114]

set_option maxHeartbeats 400000 in
theorem and_any (a b : Bool) (w : World) :
    Calls Tryd.prog 148 #[.int .i64 (bitI a), .int .i64 (bitI b)] w fun e w' => e = .returned (.int .i64 (bitI (a && b))) ∧ w = w' := by
  cases a <;> cases b
  all_goals
    simp only [bitI_true, bitI_false]
    go_enter Tryd.func148, Tryd.ntmps148
    go_wp2_with fail
    go_ret
    exact ⟨rfl, rfl⟩
set_option maxHeartbeats 400000 in
theorem or_any (a b : Bool) (w : World) :
    Calls Tryd.prog 149 #[.int .i64 (bitI a), .int .i64 (bitI b)] w fun e w' => e = .returned (.int .i64 (bitI (a || b))) ∧ w = w' := by
  cases a <;> cases b
  all_goals
    simp only [bitI_true, bitI_false]
    go_enter Tryd.func149, Tryd.ntmps149
    go_wp2_with fail
    go_ret
    exact ⟨rfl, rfl⟩
set_option maxHeartbeats 400000 in
theorem xor_any (a b : Bool) (w : World) :
    Calls Tryd.prog 150 #[.int .i64 (bitI a), .int .i64 (bitI b)] w fun e w' => e = .returned (.int .i64 (bitI (!(a == b)))) ∧ w = w' := by
  cases a <;> cases b
  all_goals
    simp only [bitI_true, bitI_false]
    go_enter Tryd.func150, Tryd.ntmps150
    go_wp2_with fail
    go_ret
    exact ⟨rfl, rfl⟩

set_option maxHeartbeats 400000 in
theorem oper_yes (op : ByteArray) (hk : opKnown op = true) : ∃ g : Nat,
    (∀ w, Calls Tryd.prog 109 #[.string op] w fun e w' => e = .returned (.tuple #[.func (.func g) #[] #[], .bool true]) ∧ w = w') ∧
    (∀ args W, (callFunc g args).run Tryd.prog W = .ok (.enter g args) W) ∧
    (∀ (a b : Bool) (W : World), Calls Tryd.prog g #[.int .i64 (bitI a), .int .i64 (bitI b)] W fun e W' => e = .returned (.int .i64 (bitI (opB op a b))) ∧ W = W') := by
  obtain ⟨k1, h1⟩ : ∃ k, (op.toList == [97, 110, 100]) = k := ⟨_, rfl⟩
  obtain ⟨k2, h2⟩ : ∃ k, (op.toList == [111, 114]) = k := ⟨_, rfl⟩
  obtain ⟨k3, h3⟩ : ∃ k, (op.toList == [120, 111, 114]) = k := ⟨_, rfl⟩
  cases k1
  · cases k2
    · cases k3
      · unfold opKnown at hk; rw [h1, h2, h3] at hk; simp at hk
      · refine ⟨150, fun w => ?_, fun args W => by kernel_rfl, fun a b W => ?_⟩
        · go_enter Tryd.func109, Tryd.ntmps109
          go_wp2_with fail
          refine bodyPost_ret (v := .tuple #[.func (.func 150) #[] #[], .bool true]) (by simp [results, Tryd.results109, go_sem]) rfl ⟨rfl, rfl⟩
        · have : opB op a b = !(a == b) := by unfold opB; rw [h1, h2]; simp
          rw [this]
          exact xor_any a b W
    · refine ⟨149, fun w => ?_, fun args W => by kernel_rfl, fun a b W => ?_⟩
      · go_enter Tryd.func109, Tryd.ntmps109
        go_wp2_with fail
        refine bodyPost_ret (v := .tuple #[.func (.func 149) #[] #[], .bool true]) (by simp [results, Tryd.results109, go_sem]) rfl ⟨rfl, rfl⟩
      · have : opB op a b = (a || b) := by unfold opB; rw [h1, h2]; simp
        rw [this]
        exact or_any a b W
  · refine ⟨148, fun w => ?_, fun args W => by kernel_rfl, fun a b W => ?_⟩
    · go_enter Tryd.func109, Tryd.ntmps109
      go_wp2_with fail
      refine bodyPost_ret (v := .tuple #[.func (.func 148) #[] #[], .bool true]) (by simp [results, Tryd.results109, go_sem]) rfl ⟨rfl, rfl⟩
    · have : opB op a b = (a && b) := by unfold opB; rw [h1]; simp
      rw [this]
      exact and_any a b W

set_option maxHeartbeats 400000 in
theorem oper_no (op : ByteArray) (hk : opKnown op = false) (w : World) :
    Calls Tryd.prog 109 #[.string op] w fun e w' => e = .returned (.tuple #[.nilFunc, .bool false]) ∧ w = w' := by
  unfold opKnown at hk
  simp only [Bool.or_eq_false_iff] at hk
  obtain ⟨⟨h1, h2⟩, h3⟩ := hk
  go_enter Tryd.func109, Tryd.ntmps109
  go_wp2_with fail
  refine bodyPost_ret (v := .tuple #[.nilFunc, .bool false]) (by simp [results, Tryd.results109, go_sem]) rfl ⟨rfl, rfl⟩
end Go.Proofs.YtgmhddceeomjbaaDoor.Ops
