/-
  The program's iterator over the sets of numbers less than a count: eachSet. Its contract: whatever loop's body.
-/
import Derived.RangeFuncNested
import Derived.RangeFuncBound
import Derived.RangeFuncCalls
import Derived.RangeFuncLeaves
import Derived.Shelf.Abstract
import Derived.Shelf.RegionOpen
import Derived.WalkKit
import Derived.OwnWalkIn
import Derived.TacticsInMore
import Derived.LoopNIn
import Derived.LoopIn
import Derived.Test.YtalechngagkklaaDoorEach
import Derived.Deep.RegionHeld
namespace Go.Proofs.YtalechngagkklaaDoor.EachS
open Go.RowKit Go.Shelf Go.Proofs.YtalechngagkklaaDoor.Plain Go.Proofs.YtalechngagkklaaDoor.Pat Go.Proofs.YtalechngagkklaaDoor.Rect Go.Proofs.YtalechngagkklaaDoor.Each
set_option linter.unusedVariables false
attribute [local go_sem] Oper.semAt_some


/-- the sets from 1 to k -/
def upS : Nat → List (Fin 256)
  | 0 => []
  | k + 1 => upS k ++ (if h : k + 1 < 256 then [⟨k + 1, h⟩] else [])
theorem upS_next (k : Nat) (h1 : 1 ≤ k) (h : k < 256) : upS k = upS (k - 1) ++ [⟨k, h⟩] := by
  obtain ⟨q, rfl⟩ : ∃ q, k = q + 1 := ⟨k - 1, by omega⟩
  rw [upS, dif_pos h]
  rfl
theorem upS_len : ∀ k, (upS k).length ≤ k
  | 0 => Nat.le_refl _
  | k + 1 => by
    have := upS_len k
    rw [upS, List.length_append]
    split <;> simp <;> omega
/-- a set as yield's argument -/
abbrev encS (x : Fin 256) : Array Value := #[.int .i64 (x.val : Int)]

set_option maxHeartbeats 1000000 in
theorem set_each (c : Int) (w : World) :
    Calls Tryd.prog 167 #[.int .i64 c] w fun e w' => e = .returned (.func (.func 185) #[] #[.pointer (some ⟨w.heap.size, 0, none⟩)]) ∧ w' = w.alloc (.cells #[.int .i64 c] 3) := by
  go_enter Tryd.func167, Tryd.ntmps167
  go_wp2_with fail
  go_ret
  exact ⟨rfl, rfl⟩

set_option maxRecDepth 100000 in
set_option maxHeartbeats 1000000 in
theorem set_in (n : Nat) (hn : 1 ≤ n) (l Bn c : Nat) (hc8 : c ≤ 8) (J Jx : List (Fin 256) → World → Prop)
    (hY : ∀ pre x W, J pre W → pre.length < 256 → YieldAt Fence.wide (n - 1) Tryd.prog l (encS x) W fun e W' =>
      (e = .returned (.bool true) ∧ J (pre ++ [x]) W' ∧ KeepC Bn W W') ∨ (e = .returned (.bool false) ∧ Jx (pre ++ [x]) W'))
    (W : World) (hBn : W.cell? ⟨Bn, 0, none⟩ = some (.int .i64 (c : Int))) (h0 : J [] W) :
    CallsIn Fence.wide n Tryd.prog 185 #[.func (.yield l) #[] #[], .pointer (some ⟨Bn, 0, none⟩)] W fun e W' => (∃ v, e = .returned v) ∧
      ((∃ ys, ys = upS (2 ^ c - 1) ∧ J ys W') ∨ (∃ pre, True ∧ Jx pre W')) := by
  have hp8 : 2 ^ c ≤ 256 := Nat.pow_le_pow_right (n := 2) (by decide) hc8
  have hp1 : 1 ≤ 2 ^ c := Nat.one_le_two_pow
  have HSV := Lib.hid (fun (k : Nat) W => valid_any (k : Int) c hc8 W)
  have hpi : ((2 : Int) ^ c) = ((2 ^ c : Nat) : Int) := by simp
  rw [hpi] at HSV
  clear hpi
  generalize 2 ^ c = N at *
  refine callsIn_of_wp Tryd.func185 rfl trivial ?_ rfl
  simp only [Tryd.ntmps185, List.size_toArray, List.length_cons, List.length_nil, Nat.reduceAdd, Nat.reduceSub, Array.replicate_succ, Array.replicate_zero, List.push_toArray, List.append_toArray, List.nil_append, List.cons_append]
  gi_wp2
  gi_loopw [3] (fun p wr => ∃ k : Nat, 1 ≤ k ∧ k ≤ N ∧ p = .int .i64 (k : Int) ∧ wr.cell? ⟨Bn, 0, none⟩ = some (.int .i64 (c : Int)) ∧ J (upS (k - 1)) wr) (fun p _ => N - (intOf p).toNat)
  case atStart => exact ⟨1, Nat.le_refl _, hp1, rfl, hBn, h0⟩
  case round =>
    obtain ⟨k, hk1, hkN, rfl, hc, hJs⟩ := hrel
    by_cases hlt : k < N
    · have HD : Hid (decide (1 ≤ (k : Int) ∧ (k : Int) ≤ (N : Int) - 1) = true) := decide_eq_true (by omega)
      obtain ⟨fn, tmps, assign, body, hy, hR⟩ := hY (upS (k - 1)) ⟨k, by omega⟩ wr hJs (by have := upS_len (k - 1); omega)
      have HU := Lib.hid (upS_next k hk1 (by omega))
      gi_wp2_with (refine ⟨trivial, ?_⟩; gi_at_call 116; refine (callsIn_wide.2 (HSV.out k _)).mono ?_; rintro e w' ⟨rfl, rfl⟩; rw [HD.out])
      refine hR.mono ?_
      rintro e W3 (⟨rfl, hJ3, hk3⟩ | ⟨rfl, hJx3⟩)
      · have hc3 : W3.cell? ⟨Bn, 0, none⟩ = some (.int .i64 (c : Int)) := hk3 _ hc
        gi_wp2
        go_roundw
        case rel => exact ⟨k + 1, by omega, by omega, by go_num, hc3, by show J (upS k) W3; rw [HU.out]; exact hJ3⟩
        case measure => simp [intOf]; omega
      · gi_wp2
        refine bodyPost_ret (results_none rfl _ _ _) rfl ?_
        exact ⟨⟨_, rfl⟩, .inr ⟨_, trivial, hJx3⟩⟩
    · obtain rfl : N = k := by omega
      have HD : Hid (decide (1 ≤ (N : Int) ∧ (N : Int) ≤ (N : Int) - 1) = false) := decide_eq_false (by omega)
      gi_wp2_with (refine ⟨trivial, ?_⟩; gi_at_call 116; refine (callsIn_wide.2 (HSV.out N _)).mono ?_; rintro e w' ⟨rfl, rfl⟩; rw [HD.out])
      gi_wp2
      go_end0
      exact ⟨⟨_, rfl⟩, .inl ⟨_, rfl, hJs⟩⟩

theorem set_stops (n : Nat) (hn : 1 ≤ n) (Bn c : Nat) (hc8 : c ≤ 8) (w : World) (hlt : Bn < w.heap.size) (hc : w.cell? ⟨Bn, 0, none⟩ = some (.int .i64 (c : Int))) :
    SeqStopsK Fence.wide n Tryd.prog 185 #[.pointer (some ⟨Bn, 0, none⟩)] encS (KeepC Bn) (fun ys => ys = upS (2 ^ c - 1)) (fun _ => True) 256 w := fun l J Jx W hW _ _ hY h0 =>
  set_in n hn l Bn c hc8 J Jx hY W ((hW.cell (p := ⟨Bn, 0, none⟩) hlt).trans hc) h0
end Go.Proofs.YtalechngagkklaaDoor.EachS
