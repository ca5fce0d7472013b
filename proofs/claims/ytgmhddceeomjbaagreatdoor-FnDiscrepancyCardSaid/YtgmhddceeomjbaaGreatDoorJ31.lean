/-
  Texts of one seat, joined: LargestWalk, CountWalk.
-/
import Derived.Test.YtgmhddceeomjbaaGreatDoorJ30
import Derived.Test.YtgmhddceeomjbaaGreatDoorJ9
import Derived.Shelf.Strings.Count
/-
  The walk of the law on LargestRect.
-/
namespace Go.Proofs.YtgmhddceeomjbaaGreatDoor.fnExactLargestRect
open Go.RowKit Go.Proofs.YtgmhddceeomjbaaGreatDoor.Plain Go.Proofs.YtgmhddceeomjbaaGreatDoor.Base Go.Proofs.YtgmhddceeomjbaaGreatDoor.Valid Go.Proofs.YtgmhddceeomjbaaGreatDoor.Law Go.Proofs.YtgmhddceeomjbaaGreatDoor.Rect Go.Proofs.YtgmhddceeomjbaaGreatDoor.Largest Go.Proofs.YtgmhddceeomjbaaGreatDoor.MaxC Go.Proofs.YtgmhddceeomjbaaGreatDoor.Kept
open Go.Proofs.YtgmhddceeomjbaaGreatDoor.Rd5 (cells3)
set_option linter.unusedVariables false

/-- both find one rectangle -/
theorem both (r c : Int) (s : ByteArray) (hs : s.size ≤ maxLen) (bit : Int) : ∃ (x y : Int) (t : Bool),
    (∀ w, Calls Tryz.prog 31 #[mat r c s, .int .i64 bit] w fun e w' => e = .returned (.tuple #[rect x y, .bool t]) ∧ Below w.heap.size w w') ∧
    (∀ w, Calls Tryz.prog 25 #[mat r c s, .int .i64 bit] w fun e w' => e = .returned (.tuple #[rect x y, .bool t]) ∧ Below w.heap.size w w') := by
  obtain ⟨ts, h1, h2, h3, h4⟩ := both2 r c s hs bit
  exact ⟨_, _, _, fun w => spec_largest r c s bit ts h1 h2 h3 w, fun w => impl_largest r c s bit ts h1 h2 h4 w⟩

end Go.Proofs.YtgmhddceeomjbaaGreatDoor.fnExactLargestRect

/-
  The walk of the law on CountOnes.
-/
namespace Go.Proofs.YtgmhddceeomjbaaGreatDoor.fnExactCountOnes
open Go.RowKit Go.Proofs.YtgmhddceeomjbaaGreatDoor.Plain Go.Proofs.YtgmhddceeomjbaaGreatDoor.Base Go.Proofs.YtgmhddceeomjbaaGreatDoor.Valid Go.Proofs.YtgmhddceeomjbaaGreatDoor.Law
set_option linter.unusedVariables false

/-- what CountOnes returns -/
def cntI (r c : Int) (s : ByteArray) : Int := if validB r c s then (Lib.countByte s.data.toList 49 : Nat) else -1

set_option maxHeartbeats 400000 in
theorem l1Int_any (b : Bool) (w : World) :
    Calls Tryz.prog 77 #[.bool b] w fun e w' => e = .returned (.int .i64 (bitI b)) ∧ w = w' := by
  cases b
  all_goals
    go_enter Tryz.func77, Tryz.ntmps77
    go_wp2
    go_ret
    exact ⟨rfl, rfl⟩

theorem count_next (s : ByteArray) (k : Nat) (hk : k < s.size) (b : Bool) (hb : ((s[k].toNat : Int) == 49) = b) :
    ((Lib.countByte (s.data.toList.take (k + 1)) 49 : Nat) : Int) = ((Lib.countByte (s.data.toList.take k) 49 : Nat) : Int) + bitI b := by
  have ht : s.data.toList.take (k + 1) = s.data.toList.take k ++ [s[k]] := by
    rw [List.take_succ_eq_append_getElem (by simpa using hk)]; rfl
  rw [ht]
  unfold Lib.countByte
  rw [List.count_append]
  subst hb
  by_cases h : s[k] = 49
  · rw [h]; rfl
  · have h2 : ((s[k].toNat : Int) == 49) = false := beq_eq_false_iff_ne.2 fun e => h (UInt8.toNat_inj.1 (by show s[k].toNat = 49; omega))
    have h3 : List.count 49 [s[k]] = 0 := by simp [h]
    rw [h2, h3]
    simp [bitI]

end Go.Proofs.YtgmhddceeomjbaaGreatDoor.fnExactCountOnes

