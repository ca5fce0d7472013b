/-
  The walk of the law on CountOnes.
-/
import Derived.Test.YtkkclloabbhpdabDoorLaw
import Derived.Shelf.Strings.Count
namespace Go.Proofs.YtkkclloabbhpdabDoor.fnExactCountOnes
open Go.RowKit Go.Proofs.YtkkclloabbhpdabDoor.Plain Go.Proofs.YtkkclloabbhpdabDoor.Base Go.Proofs.YtkkclloabbhpdabDoor.Valid Go.Proofs.YtkkclloabbhpdabDoor.Law
set_option linter.unusedVariables false

/-- what CountOnes returns -/
def cntI (r c : Int) (s : ByteArray) : Int := if validB r c s then (Lib.countByte s.data.toList 49 : Nat) else -1

theorem count_any (s : ByteArray) (w : World) :
    Calls Tryd.prog 45 #[.string s, .string ⟨#[49]⟩] w fun e w' => e = .returned (.int .i64 (Lib.countByte s.data.toList 49 : Nat)) ∧ w' = w :=
  Any.strings_Count_one Tryd.lays138 s 49 w

set_option maxHeartbeats 400000 in
theorem impl_count (r c : Int) (s : ByteArray) (hs : s.size ≤ maxLen) (w : World) :
    Calls Tryd.prog 22 #[mat r c s] w fun e w' => e = .returned (.int .i64 (cntI r c s)) ∧ Below w.heap.size w w' := by
  unfold cntI
  obtain ⟨b, hb⟩ : ∃ b, validB r c s = b := ⟨_, rfl⟩
  rw [hb]
  have HV := Lib.hid hb
  clear hb
  go_enter Tryd.func22, Tryd.ntmps22
  go_wp2_with fail
  refine (impl_valid r c s hs _).mono ?_
  rintro e w1 ⟨rfl, hb1⟩
  rw [HV.out]
  have HB := Lib.hid (bstep ((Below.refl w.heap.size w).alloc (Nat.le_refl _) _) hb1)
  obtain ⟨hc, hf⟩ := bcell hb1
  clear hb1
  cases b
  · go_wp2_with fail
    go_ret
    exact ⟨rfl, HB.out⟩
  · go_wp2_with fail
    refine (count_any s _).mono ?_
    rintro e w2 ⟨rfl, rfl⟩
    go_wp2_with fail
    go_ret
    exact ⟨rfl, HB.out⟩

set_option maxHeartbeats 400000 in
theorem l1Int_any (b : Bool) (w : World) :
    Calls Tryd.prog 43 #[.bool b] w fun e w' => e = .returned (.int .i64 (bitI b)) ∧ w = w' := by
  cases b
  all_goals
    go_enter Tryd.func43, Tryd.ntmps43
    go_wp2
    go_ret
    exact ⟨rfl, rfl⟩

theorem count_next (s : ByteArray) (k : Nat) (hk : k < s.size) (b : Bool) (hb : ((s[k].toNat : Int) == 49) = b) :
    ((Lib.countByte (s.data.toList.take (k + 1)) 49 : Nat) : Int) = ((Lib.countByte (s.data.toList.take k) 49 : Nat) : Int) + bitI b := by
  have ht : s.data.toList.take (k + 1) = s.data.toList.take k ++ [s[k]] := by
    rw [List.take_succ_eq_append_getElem (by simpa using hk)]; rfl
  rw [ht]
  unfold Lib.countByte
  rw [List.count_append]
  subst hb
  by_cases h : s[k] = 49
  · rw [h]; rfl
  · have h2 : ((s[k].toNat : Int) == 49) = false := beq_eq_false_iff_ne.2 fun e => h (UInt8.toNat_inj.1 (by show s[k].toNat = 49; omega))
    have h3 : List.count 49 [s[k]] = 0 := by simp [h]
    rw [h2, h3]
    simp [bitI]

set_option maxHeartbeats 1000000 in
theorem spec_count (r c : Int) (s : ByteArray) (hs : s.size ≤ maxLen) (w : World) :
    Calls Tryd.prog 21 #[mat r c s] w fun e w' => e = .returned (.int .i64 (cntI r c s)) ∧ Below w.heap.size w w' := by
  unfold cntI
  obtain ⟨b, hb⟩ : ∃ b, validB r c s = b := ⟨_, rfl⟩
  rw [hb]
  have HV := Lib.hid hb
  clear hb
  have hs2 := hs
  unfold maxLen at hs2
  go_enter Tryd.func21, Tryd.ntmps21
  go_wp2_with fail
  refine (spec_valid r c s hs _).mono ?_
  rintro e w1 ⟨rfl, hb1⟩
  rw [HV.out]
  have HB := Lib.hid (bstep ((Below.refl w.heap.size w).alloc (Nat.le_refl _) _) hb1)
  obtain ⟨hc, hf⟩ := bcell hb1
  have hz := hb1.size
  simp only [World.size_alloc] at hz
  have c2 : w1.cell? ⟨w.heap.size, 2, none⟩ = some (.string s) := (hc _ _ (by simp)).trans (by simp)
  clear hb1 hc hf hs
  cases b
  · go_wp2_with fail
    go_ret
    exact ⟨rfl, HB.out⟩
  · go_wp2_with fail
    go_loop [3, 4] (fun n i => ∃ k t : Nat, k ≤ s.size ∧ t ≤ k ∧ i = .int .i64 (k : Int) ∧ n = .int .i64 (t : Int) ∧ Hid (t = Lib.countByte (s.data.toList.take k) 49)) (fun _ i => s.size - (intOf i).toNat)
    case atStart => exact ⟨0, 0, Nat.zero_le _, Nat.le_refl _, rfl, rfl, rfl⟩
    case round =>
      obtain ⟨k, t, hk, ht, rfl, rfl, hn⟩ := hrel
      by_cases hlt : k < s.size
      · obtain ⟨b, hb⟩ : ∃ b, ((s[k].toNat : Int) == 49) = b := ⟨_, rfl⟩
        have HN := Lib.hid (count_next s k hlt b hb)
        go_wp2_with fail
        refine (l1Int_any _ _).mono ?_
        rintro e w' ⟨rfl, rfl⟩
        have hbt : 0 ≤ bitI b ∧ bitI b ≤ 1 := by cases b <;> simp [bitI]
        obtain ⟨g1, g2⟩ := hbt
        go_wp2_with fail
        go_round
        case rel => exact ⟨k + 1, t + (bitI b).toNat, by omega, by omega, by go_num, by go_num, by have := HN.out; have := hn.out; unfold Hid; omega⟩
        case measure => simp [intOf]; omega
      · obtain rfl : k = s.size := by omega
        go_wp2_with fail
        go_ret
        exact ⟨by rw [hn.out, List.take_of_length_le (by simp)]; rfl, HB.out⟩

theorem walk (r c : Int) (s : ByteArray) (wr : (Lit.int .i64 r).wf = true) (wc : (Lit.int .i64 c).wf = true) (hs : s.size ≤ maxLen) (w : World) :
    Calls Tryd.prog 7 #[mat r c s] w fun e w' => e = .returned (.bool true) ∧ Below w.heap.size w w' := by
  have hs2 := hs
  unfold maxLen at hs2
  by_cases hbig : 1048576 < s.size
  · go_enter Tryd.func7, Tryd.ntmps7
    go_wp2_with fail
    refine (sz_over r c s _ (by omega) (by omega) hs _).mono ?_
    rintro e w1 ⟨rfl, hb1⟩
    have HB := Lib.hid (bstep ((Below.refl w.heap.size w).alloc (Nat.le_refl _) _) hb1)
    clear hb1
    go_wp2_with fail
    go_ret
    exact ⟨rfl, HB.out⟩
  · go_enter Tryd.func7, Tryd.ntmps7
    go_wp2_with fail
    refine (sz_fits r c s _ (by omega) (by omega) _).mono ?_
    rintro e w1 ⟨rfl, hb1⟩
    obtain ⟨k0, k1, k2⟩ := three_of hb1
    have hg : w.heap.size < w1.heap.size := by have := hb1.size; simp at this; omega
    have HB := Lib.hid (bstep ((Below.refl w.heap.size w).alloc (Nat.le_refl _) _) hb1)
    clear hb1
    go_wp2_with fail
    refine (to_any r c s _).mono ?_
    rintro e w2 ⟨rfl, hb2⟩
    go_wp2_with fail
    refine (spec_count r c s hs _).mono ?_
    rintro e w3 ⟨rfl, hb3⟩
    obtain ⟨j0, j1, j2⟩ := three_on (hb2.trans (hb3.mono hb2.size)) hg k0 k1 k2
    have HB3 := Lib.hid (bstep (bstep HB.out hb2) hb3)
    clear hb2 hb3 k0 k1 k2 HB
    go_wp2_with fail
    refine (to_any r c s _).mono ?_
    rintro e w4 ⟨rfl, hb4⟩
    go_wp2_with fail
    refine (impl_count r c s hs _).mono ?_
    rintro e w5 ⟨rfl, hb5⟩
    have HB5 := Lib.hid (bstep (bstep HB3.out hb4) hb5)
    clear hb4 hb5 j0 j1 j2 HB3
    go_wp2_with fail
    all_goals (go_ret; exact ⟨rfl, HB5.out⟩)
end Go.Proofs.YtkkclloabbhpdabDoor.fnExactCountOnes
