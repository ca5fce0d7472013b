/-
  The walk of the law on CountOnes.
-/
import Derived.Test.YtgfhahlkffagaaaDoorJ12
import Derived.Shelf.Strings.Count
namespace Go.Proofs.YtgfhahlkffagaaaDoor.fnExactCountOnes
open Go.RowKit Go.Proofs.YtgfhahlkffagaaaDoor.Plain Go.Proofs.YtgfhahlkffagaaaDoor.Base Go.Proofs.YtgfhahlkffagaaaDoor.Valid Go.Proofs.YtgfhahlkffagaaaDoor.Law
set_option linter.unusedVariables false

/-- what CountOnes returns -/
def cntI (r c : Int) (s : ByteArray) : Int := if validB r c s then (Lib.countByte s.data.toList 49 : Nat) else -1

theorem count_any (s : ByteArray) (w : World) :
    Calls Tryd.prog 76 #[.string s, .string ⟨#[49]⟩] w fun e w' => e = .returned (.int .i64 (Lib.countByte s.data.toList 49 : Nat)) ∧ w' = w :=
  Any.strings_Count_one Tryd.lays138 s 49 w

set_option maxHeartbeats 400000 in
theorem impl_count (r c : Int) (s : ByteArray) (hs : s.size ≤ maxLen) (w : World) :
    Calls Tryd.prog 41 #[mat r c s] w fun e w' => e = .returned (.int .i64 (cntI r c s)) ∧ Below w.heap.size w w' := by
  unfold cntI
  obtain ⟨b, hb⟩ : ∃ b, validB r c s = b := ⟨_, rfl⟩
  rw [hb]
  have HV := Lib.hid hb
  clear hb
  go_enter Tryd.func41, Tryd.ntmps41
  go_wp2_with fail
  refine (impl_valid r c s hs _).mono ?_
  rintro e w1 ⟨rfl, hb1⟩
  rw [HV.out]
  have HB := Lib.hid (bstep ((Below.refl w.heap.size w).alloc (Nat.le_refl _) _) hb1)
  obtain ⟨hc, hf⟩ := bcell hb1
  clear hb1
  cases b
  · go_wp2_with fail
    go_ret
    exact ⟨rfl, HB.out⟩
  · go_wp2_with fail
    refine (count_any s _).mono ?_
    rintro e w2 ⟨rfl, rfl⟩
    go_wp2_with fail
    go_ret
    exact ⟨rfl, HB.out⟩

set_option maxHeartbeats 400000 in
theorem l1Int_any (b : Bool) (w : World) :
    Calls Tryd.prog 38 #[.bool b] w fun e w' => e = .returned (.int .i64 (bitI b)) ∧ w = w' := by
  cases b
  all_goals
    go_enter Tryd.func38, Tryd.ntmps38
    go_wp2
    go_ret
    exact ⟨rfl, rfl⟩

theorem count_next (s : ByteArray) (k : Nat) (hk : k < s.size) (b : Bool) (hb : ((s[k].toNat : Int) == 49) = b) :
    ((Lib.countByte (s.data.toList.take (k + 1)) 49 : Nat) : Int) = ((Lib.countByte (s.data.toList.take k) 49 : Nat) : Int) + bitI b := by
  have ht : s.data.toList.take (k + 1) = s.data.toList.take k ++ [s[k]] := by
    rw [List.take_succ_eq_append_getElem (by simpa using hk)]; rfl
  rw [ht]
  unfold Lib.countByte
  rw [List.count_append]
  subst hb
  by_cases h : s[k] = 49
  · rw [h]; rfl
  · have h2 : ((s[k].toNat : Int) == 49) = false := beq_eq_false_iff_ne.2 fun e => h (UInt8.toNat_inj.1 (by show s[k].toNat = 49; omega))
    have h3 : List.count 49 [s[k]] = 0 := by simp [h]
    rw [h2, h3]
    simp [bitI]

end Go.Proofs.YtgfhahlkffagaaaDoor.fnExactCountOnes
