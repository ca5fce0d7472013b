/-
  Operations by their names: l1Known, l1Op, operationOf.
-/
import Derived.Test.YtalechngagkklaaDoorEntry
namespace Go.Proofs.YtalechngagkklaaDoor.Ops
open Go.RowKit Go.Proofs.YtalechngagkklaaDoor.Plain Go.Proofs.YtalechngagkklaaDoor.Base Go.Proofs.YtalechngagkklaaDoor.Valid Go.Proofs.YtalechngagkklaaDoor.Law Go.Proofs.YtalechngagkklaaDoor.Entry
set_option linter.unusedVariables false

/-- the value of an operation, by its name -/
def opB (op : ByteArray) (a b : Bool) : Bool := if (op.toList == [97, 110, 100]) = true then a && b else if (op.toList == [111, 114]) = true then a || b else !(a == b)
/-- one of the three names -/
def opKnown (op : ByteArray) : Bool := op.toList == [97, 110, 100] || op.toList == [111, 114] || op.toList == [120, 111, 114]

set_option maxHeartbeats 400000 in
theorem op_any (op : ByteArray) (a b : Bool) (w : World) :
    Calls Tryd.prog 102 #[.string op, .bool a, .bool b] w fun e w' => e = .returned (.bool (opB op a b)) ∧ w = w' := by
  obtain ⟨k1, h1⟩ : ∃ k, (op.toList == [97, 110, 100]) = k := ⟨_, rfl⟩
  obtain ⟨k2, h2⟩ : ∃ k, (op.toList == [111, 114]) = k := ⟨_, rfl⟩
  have HR : Hid (opB op a b = if k1 = true then a && b else if k2 = true then a || b else !(a == b)) := by unfold Hid opB; rw [h1, h2]
  cases k1
  · cases k2
    all_goals
      cases a
      all_goals
        go_enter Tryd.func102, Tryd.ntmps102
        go_wp2_with fail
        go_ret
        exact ⟨by rw [HR.out]; simp, rfl⟩
  · cases a
    all_goals
      go_enter Tryd.func102, Tryd.ntmps102
      go_wp2_with fail
      go_ret
      exact ⟨by rw [HR.out]; simp, rfl⟩

set_option maxHeartbeats 400000 in
theorem known_any (op : ByteArray) (w : World) :
    Calls Tryd.prog 101 #[.string op] w fun e w' => e = .returned (.bool (opKnown op)) ∧ w = w' := by
  obtain ⟨k1, h1⟩ : ∃ k, (op.toList == [97, 110, 100]) = k := ⟨_, rfl⟩
  obtain ⟨k2, h2⟩ : ∃ k, (op.toList == [111, 114]) = k := ⟨_, rfl⟩
  obtain ⟨k3, h3⟩ : ∃ k, (op.toList == [120, 111, 114]) = k := ⟨_, rfl⟩
  have HR : Hid (opKnown op = (k1 || k2 || k3)) := by unfold Hid opKnown; rw [h1, h2, h3]
  cases k1 <;> cases k2 <;> cases k3
  all_goals
    go_enter Tryd.func101, Tryd.ntmps101
    go_wp2_with fail
    go_ret
    exact ⟨by rw [HR.out]; simp, rfl⟩

set_option maxHeartbeats 400000 in
theorem and_any (a b : Bool) (w : World) :
    Calls Tryd.prog 153 #[.int .i64 (bitI a), .int .i64 (bitI b)] w fun e w' => e = .returned (.int .i64 (bitI (a && b))) ∧ w = w' := by
  cases a <;> cases b
  all_goals
    simp only [bitI_true, bitI_false]
    go_enter Tryd.func153, Tryd.ntmps153
    go_wp2_with fail
    go_ret
    exact ⟨rfl, rfl⟩
set_option maxHeartbeats 400000 in
theorem or_any (a b : Bool) (w : World) :
    Calls Tryd.prog 154 #[.int .i64 (bitI a), .int .i64 (bitI b)] w fun e w' => e = .returned (.int .i64 (bitI (a || b))) ∧ w = w' := by
  cases a <;> cases b
  all_goals
    simp only [bitI_true, bitI_false]
    go_enter Tryd.func154, Tryd.ntmps154
    go_wp2_with fail
    go_ret
    exact ⟨rfl, rfl⟩
set_option maxHeartbeats 400000 in
theorem xor_any (a b : Bool) (w : World) :
    Calls Tryd.prog 155 #[.int .i64 (bitI a), .int .i64 (bitI b)] w fun e w' => e = .returned (.int .i64 (bitI (!(a == b)))) ∧ w = w' := by
  cases a <;> cases b
  all_goals
    simp only [bitI_true, bitI_false]
    go_enter Tryd.func155, Tryd.ntmps155
    go_wp2_with fail
    go_ret
    exact ⟨rfl, rfl⟩

set_option maxHeartbeats 400000 in
theorem oper_yes (op : ByteArray) (hk : opKnown op = true) : ∃ g : Nat,
    (∀ w, Calls Tryd.prog 99 #[.string op] w fun e w' => e = .returned (.tuple #[.func (.func g) #[] #[], .bool true]) ∧ w = w') ∧
    (∀ args W, (callFunc g args).run Tryd.prog W = .ok (.enter g args) W) ∧
    (∀ (a b : Bool) (W : World), Calls Tryd.prog g #[.int .i64 (bitI a), .int .i64 (bitI b)] W fun e W' => e = .returned (.int .i64 (bitI (opB op a b))) ∧ W = W') := by
  obtain ⟨k1, h1⟩ : ∃ k, (op.toList == [97, 110, 100]) = k := ⟨_, rfl⟩
  obtain ⟨k2, h2⟩ : ∃ k, (op.toList == [111, 114]) = k := ⟨_, rfl⟩
  obtain ⟨k3, h3⟩ : ∃ k, (op.toList == [120, 111, 114]) = k := ⟨_, rfl⟩
  cases k1
  · cases k2
    · cases k3
      · unfold opKnown at hk; rw [h1, h2, h3] at hk; simp at hk
      · refine ⟨155, fun w => ?_, fun args W => by kernel_rfl, fun a b W => ?_⟩
        · go_enter Tryd.func99, Tryd.ntmps99
          go_wp2_with fail
          refine bodyPost_ret (v := .tuple #[.func (.func 155) #[] #[], .bool true]) (by simp [results, Tryd.results99, go_sem]) rfl ⟨rfl, rfl⟩
        · have : opB op a b = !(a == b) := by unfold opB; rw [h1, h2]; simp
          rw [this]
          exact xor_any a b W
    · refine ⟨154, fun w => ?_, fun args W => by kernel_rfl, fun a b W => ?_⟩
      · go_enter Tryd.func99, Tryd.ntmps99
        go_wp2_with fail
        refine bodyPost_ret (v := .tuple #[.func (.func 154) #[] #[], .bool true]) (by simp [results, Tryd.results99, go_sem]) rfl ⟨rfl, rfl⟩
      · have : opB op a b = (a || b) := by unfold opB; rw [h1, h2]; simp
        rw [this]
        exact or_any a b W
  · refine ⟨153, fun w => ?_, fun args W => by kernel_rfl, fun a b W => ?_⟩
    · go_enter Tryd.func99, Tryd.ntmps99
      go_wp2_with fail
      refine bodyPost_ret (v := .tuple #[.func (.func 153) #[] #[], .bool true]) (by simp [results, Tryd.results99, go_sem]) rfl ⟨rfl, rfl⟩
    · have : opB op a b = (a && b) := by unfold opB; rw [h1]; simp
      rw [this]
      exact and_any a b W

set_option maxHeartbeats 400000 in
theorem oper_no (op : ByteArray) (hk : opKnown op = false) (w : World) :
    Calls Tryd.prog 99 #[.string op] w fun e w' => e = .returned (.tuple #[.nilFunc, .bool false]) ∧ w = w' := by
  unfold opKnown at hk
  simp only [Bool.or_eq_false_iff] at hk
  obtain ⟨⟨h1, h2⟩, h3⟩ := hk
  go_enter Tryd.func99, Tryd.ntmps99
  go_wp2_with fail
  refine bodyPost_ret (v := .tuple #[.nilFunc, .bool false]) (by simp [results, Tryd.results99, go_sem]) rfl ⟨rfl, rfl⟩
end Go.Proofs.YtalechngagkklaaDoor.Ops
