/-
  The program's iterator over the members of a set: eachMember. Its contract: whatever loop's body.
-/
import Derived.RangeFuncNested
import Derived.RangeFuncBound
import Derived.RangeFuncCalls
import Derived.RangeFuncLeaves
import Derived.Shelf.Abstract
import Derived.Shelf.RegionOpen
import Derived.WalkKit
import Derived.OwnWalkIn
import Derived.TacticsInMore
import Derived.LoopNIn
import Derived.LoopIn
import Derived.Test.YtgfhahlkffagaaaDoorRect
import Derived.Deep.RegionHeld
namespace Go.Proofs.YtgfhahlkffagaaaDoor.Each
open Go.RowKit Go.Shelf Go.Proofs.YtgfhahlkffagaaaDoor.Plain Go.Proofs.YtgfhahlkffagaaaDoor.Pat Go.Proofs.YtgfhahlkffagaaaDoor.Rect
set_option linter.unusedVariables false
attribute [local go_sem] Oper.semAt_some

/-- the members below k, in ascending order -/
def upto (S : Nat) : Nat → List (Fin 8)
  | 0 => []
  | k + 1 => upto S k ++ (if h : k < 8 then (if S.testBit k = true then [⟨k, h⟩] else []) else [])
theorem upto_yes (S k : Nat) (h : k < 8) (hb : S.testBit k = true) : upto S (k + 1) = upto S k ++ [⟨k, h⟩] := by
  rw [upto, dif_pos h, if_pos hb]
theorem upto_no (S k : Nat) (hb : S.testBit k = false) : upto S (k + 1) = upto S k := by
  rw [upto]
  split
  · rw [if_neg (by rw [hb]; decide), List.append_nil]
  · rw [List.append_nil]
theorem upto_len (S : Nat) : ∀ k, (upto S k).length ≤ k
  | 0 => Nat.le_refl _
  | k + 1 => by
    have := upto_len S k
    rw [upto, List.length_append]
    split
    · split <;> simp <;> omega
    · simp; omega

/-- the box of the set lies as it lay -/
def KeepC (Bn : Nat) (A B : World) : Prop := ∀ v, A.cell? ⟨Bn, 0, none⟩ = some v → B.cell? ⟨Bn, 0, none⟩ = some v
theorem keepC_t {Bn : Nat} {A B C : World} (h : KeepC Bn A B) (k : KeepC Bn B C) : KeepC Bn A C := fun v hv => k v (h v hv)
theorem keepC_b {Bn n : Nat} (W : World) (l : Nat) (o o' : Obj) (_ : n ≤ l) (h : W.heap[l]? = some o) (hc : o.isCells = false) (_ : o.isWalk = false) : KeepC Bn W (W.putObj l o') := fun v hv =>
  cell_kept hv (grownBy_putObj' W l o') (fun r e => by cases e; exact ⟨o, h, hc⟩)
theorem KeepC.of_below {Bn n : Nat} {A B : World} (hlt : Bn < n) (h : Below n A B) : KeepC Bn A B := fun v hv => (h.cell (p := ⟨Bn, 0, none⟩) hlt).trans hv
theorem KeepC.set {Bn : Nat} {A B : World} (h : KeepC Bn A B) (p : Addr) (v : Value) (hp : p.block ≠ Bn) : KeepC Bn A (B.setCell p v) := fun u hu => (World.cell?_setCell_far B p ⟨Bn, 0, none⟩ v hp).trans (h u hu)
theorem KeepC.refl (Bn : Nat) (A : World) : KeepC Bn A A := fun _ h => h

/-- a member as yield's argument -/
abbrev encF (x : Fin 8) : Array Value := #[.int .i64 (x.val : Int)]

set_option maxHeartbeats 1000000 in
theorem each_any (S : Int) (w : World) :
    Calls Tryd.prog 96 #[.int .i64 S] w fun e w' => e = .returned (.func (.func 123) #[] #[.pointer (some ⟨w.heap.size, 0, none⟩)]) ∧ w' = w.alloc (.cells #[.int .i64 S] 3) := by
  go_enter Tryd.func96, Tryd.ntmps96
  go_wp2_with fail
  go_ret
  exact ⟨rfl, rfl⟩

set_option maxRecDepth 100000 in
set_option maxHeartbeats 1000000 in
theorem mem_in (n : Nat) (hn : 1 ≤ n) (l Bn S : Nat) (hS : S < 256) (J Jx : List (Fin 8) → World → Prop)
    (hY : ∀ pre x W, J pre W → pre.length < 8 → YieldAt Fence.wide (n - 1) Tryd.prog l (encF x) W fun e W' =>
      (e = .returned (.bool true) ∧ J (pre ++ [x]) W' ∧ KeepC Bn W W') ∨ (e = .returned (.bool false) ∧ Jx (pre ++ [x]) W'))
    (W : World) (hBn : W.cell? ⟨Bn, 0, none⟩ = some (.int .i64 (S : Int))) (h0 : J [] W) :
    CallsIn Fence.wide n Tryd.prog 123 #[.func (.yield l) #[] #[], .pointer (some ⟨Bn, 0, none⟩)] W fun e W' => (∃ v, e = .returned v) ∧
      ((∃ ys, ys = upto S 8 ∧ J ys W') ∨ (∃ pre, True ∧ Jx pre W')) := by
  refine callsIn_of_wp Tryd.func123 rfl trivial ?_ rfl
  simp only [Tryd.ntmps123, List.size_toArray, List.length_cons, List.length_nil, Nat.reduceAdd, Nat.reduceSub, Array.replicate_succ, Array.replicate_zero, List.push_toArray, List.append_toArray, List.nil_append, List.cons_append]
  gi_wp2
  gi_loopw [4] (fun p wr => ∃ k : Nat, k ≤ 8 ∧ p = .int .i64 (k : Int) ∧ wr.cell? ⟨Bn, 0, none⟩ = some (.int .i64 (S : Int)) ∧ J (upto S k) wr) (fun p _ => 8 - (intOf p).toNat)
  case atStart => exact ⟨0, Nat.zero_le _, rfl, hBn, h0⟩
  case round =>
    obtain ⟨k, hk, rfl, hc, hJs⟩ := hrel
    by_cases hk8 : k < 8
    · obtain ⟨b, hb⟩ : ∃ b, S.testBit k = b := ⟨_, rfl⟩
      have HB := Lib.hid hb
      have HI := Lib.hid (inSet_yes S k hS hk8)
      cases b
      · rw [← upto_no S k hb] at hJs
        clear hb
        gi_wp2_with (refine ⟨trivial, ?_⟩; gi_at_call 124; refine (callsIn_wide.2 (HI.out _)).mono ?_; rintro e w' ⟨rfl, rfl⟩; rw [HB.out])
        refine ⟨fun _ h => (by cases h), ?_⟩
        gi_wp2
        go_roundw
        case rel => exact ⟨k + 1, by omega, by go_num, hc, hJs⟩
        case measure => simp [intOf]; omega
      · obtain ⟨fn, tmps, assign, body, hy, hR⟩ := hY (upto S k) ⟨k, hk8⟩ wr hJs (by have := upto_len S k; omega)
        have HU := Lib.hid (upto_yes S k hk8 hb)
        clear hb
        gi_wp2_with (refine ⟨trivial, ?_⟩; gi_at_call 124; refine (callsIn_wide.2 (HI.out _)).mono ?_; rintro e w' ⟨rfl, rfl⟩; rw [HB.out])
        refine hR.mono ?_
        rintro e W3 (⟨rfl, hJ3, hk3⟩ | ⟨rfl, hJx3⟩)
        · have hc3 : W3.cell? ⟨Bn, 0, none⟩ = some (.int .i64 (S : Int)) := hk3 _ hc
          gi_wp2
          go_roundw
          case rel => exact ⟨k + 1, by omega, by go_num, hc3, by rw [HU.out]; exact hJ3⟩
          case measure => simp [intOf]; omega
        · gi_wp2
          refine bodyPost_ret (results_none rfl _ _ _) rfl ?_
          exact ⟨⟨_, rfl⟩, .inr ⟨_, trivial, hJx3⟩⟩
    · obtain rfl : k = 8 := by omega
      gi_wp2
      go_end0
      exact ⟨⟨_, rfl⟩, .inl ⟨_, rfl, hJs⟩⟩

theorem mem_stops (n : Nat) (hn : 1 ≤ n) (Bn S : Nat) (hS : S < 256) (w : World) (hlt : Bn < w.heap.size) (hc : w.cell? ⟨Bn, 0, none⟩ = some (.int .i64 (S : Int))) :
    SeqStopsK Fence.wide n Tryd.prog 123 #[.pointer (some ⟨Bn, 0, none⟩)] encF (KeepC Bn) (fun ys => ys = upto S 8) (fun _ => True) 8 w := fun l J Jx W hW _ _ hY h0 =>
  mem_in n hn l Bn S hS J Jx hY W ((hW.cell (p := ⟨Bn, 0, none⟩) hlt).trans hc) h0
end Go.Proofs.YtgfhahlkffagaaaDoor.Each
