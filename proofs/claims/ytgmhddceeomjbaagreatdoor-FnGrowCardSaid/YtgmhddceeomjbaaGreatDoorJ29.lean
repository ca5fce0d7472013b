/-
  Texts of one seat, joined: MaxC, AreaI.
-/
import Derived.Test.YtgmhddceeomjbaaGreatDoorJ27
import Derived.Test.YtgmhddceeomjbaaGreatDoorJ28
import Derived.Test.YtgmhddceeomjbaaGreatDoorJ15
import Derived.Test.YtgmhddceeomjbaaGreatDoorJ13
import Derived.WalkSmall
/-
  MaximalRects: both find one list of rectangles; the areas; the first with most entries.
-/
namespace Go.Proofs.YtgmhddceeomjbaaGreatDoor.MaxC
open Go.RowKit Go.Proofs.YtgmhddceeomjbaaGreatDoor.Plain Go.Proofs.YtgmhddceeomjbaaGreatDoor.Base Go.Proofs.YtgmhddceeomjbaaGreatDoor.Valid Go.Proofs.YtgmhddceeomjbaaGreatDoor.Law Go.Proofs.YtgmhddceeomjbaaGreatDoor.GridPlain Go.Proofs.YtgmhddceeomjbaaGreatDoor.Grid Go.Proofs.YtgmhddceeomjbaaGreatDoor.Entry Go.Proofs.YtgmhddceeomjbaaGreatDoor.Pat Go.Proofs.YtgmhddceeomjbaaGreatDoor.Rect Go.Proofs.YtgmhddceeomjbaaGreatDoor.Patch Go.Proofs.YtgmhddceeomjbaaGreatDoor.Board Go.Proofs.YtgmhddceeomjbaaGreatDoor.BoardM Go.Proofs.YtgmhddceeomjbaaGreatDoor.RValid Go.Proofs.YtgmhddceeomjbaaGreatDoor.MaxM Go.Proofs.YtgmhddceeomjbaaGreatDoor.Area
open Go.Proofs.YtgmhddceeomjbaaGreatDoor.KeysI (flat)
set_option linter.unusedVariables false

/-- both find one list of rectangles -/
theorem both2 (r c : Int) (s : ByteArray) (hs : s.size ≤ maxLen) (bit : Int) : ∃ ts : List (Int × Int), ts.length ≤ 1000 ∧ (∀ p ∈ ts, someB p.1 p.2 = true) ∧
    (∀ w, Calls Tryz.prog 30 #[mat r c s, .int .i64 bit] w fun e w' => ∃ v, e = .returned v ∧ w'.ownsRow w.heap.size 34 2 v ts.length (flat ts) ∧ Below w.heap.size w w') ∧
    (∀ w, Calls Tryz.prog 19 #[mat r c s, .int .i64 bit] w fun e w' => ∃ v, e = .returned v ∧ w'.ownsRow w.heap.size 34 2 v ts.length (flat ts) ∧ Below w.heap.size w w') := by
  by_cases hbit : bit = 0 ∨ bit = 1
  · obtain ⟨b, rfl⟩ : ∃ b : Bool, bit = bitI b := by
      rcases hbit with rfl | rfl
      · exact ⟨false, rfl⟩
      · exact ⟨true, rfl⟩
    by_cases hv : validB r c s = true
    · obtain ⟨R, C, E, rfl, rfl, h1, h2, h3, h4, rfl⟩ := valid_form hv
      have hbd := fun W => board_yes R C E h1 h2 h3 h4 hs hv W
      have z64 := pat64 (onB (fun x y => !E x y) R C) (onB_lt _ R C h4)
      have o64 := pat64 (onB E R C) (onB_lt _ R C h4)
      have hl := mx_len E b R C (2 ^ R - 1)
      have h5 := Nat.pow_le_pow_right (n := 2) (by decide) h2
      refine ⟨mx E b R C (2 ^ R - 1), by omega, fun p hp => (someB_iff _ _).2 ?_, fun w => MaxS.spec_yes E R C h1 h2 h3 h4 hs hv b w, fun w => ?_⟩
      · have := mx_wf E b R C _ h4 p hp
        have hp1 := Nat.one_le_two_pow (n := R)
        omega
      · cases b
        · exact MaxB.impl_one E (fun x y => !E x y) false (fun x y => by cases E x y <;> rfl) R C h2 h4 _ _ z64 o64 (.inl ⟨rfl, rfl⟩) R C _ hbd w
        · exact MaxB.impl_one E E true (fun x y => by cases E x y <;> rfl) R C h2 h4 _ _ z64 o64 (.inr ⟨rfl, rfl⟩) R C _ hbd w
    · have hv' : validB r c s = false := by simpa using hv
      have hbn := fun W => board_no r c s hs hv' W
      have z64 := pat64 (onB (fun _ _ => true) 0 0) (onB_lt _ 0 0 (by omega))
      have o64 := pat64 (onB (fun _ _ => false) 0 0) (onB_lt _ 0 0 (by omega))
      refine ⟨[], by simp, fun p hp => (by cases hp), fun w => MaxS.spec_no r c s hs _ false hv' (.inl rfl) w, fun w => ?_⟩
      cases b
      · exact MaxB.impl_one (fun _ _ => false) (fun _ _ => true) false (fun x y => rfl) 0 0 (by omega) (by omega) _ _ z64 o64 (.inl ⟨rfl, rfl⟩) r c s hbn w
      · exact MaxB.impl_one (fun _ _ => false) (fun _ _ => false) true (fun x y => rfl) 0 0 (by omega) (by omega) _ _ z64 o64 (.inr ⟨rfl, rfl⟩) r c s hbn w
  · have h0 : bit ≠ 0 := fun e => hbit (.inl e)
    have h1 : bit ≠ 1 := fun e => hbit (.inr e)
    obtain ⟨b, hb⟩ : ∃ b, validB r c s = b := ⟨_, rfl⟩
    exact ⟨[], by simp, fun p hp => (by cases hp), fun w => MaxS.spec_no r c s hs bit b hb (.inr ⟨h0, h1⟩) w, fun w => MaxB.impl_no_bit r c s bit h0 h1 w⟩

/-- the area -/
def ar (p : Int × Int) : Int := if someB p.1 p.2 then ((pop8 p.1.toNat * pop8 p.2.toNat : Nat) : Int) else -1
theorem ar_zero : ar (0, 0) = -1 := rfl
theorem ar_pos (p : Int × Int) (h : someB p.1 p.2 = true) : 0 ≤ ar p := by
  unfold ar
  rw [if_pos h]
  exact Int.natCast_nonneg _
theorem spec_ar (p : Int × Int) (w : World) : Calls Tryz.prog 74 #[rect p.1 p.2] w fun e w' => e = .returned (.int .i64 (ar p)) ∧ Below w.heap.size w w' := by
  obtain ⟨r, c⟩ := p
  unfold ar
  by_cases h : someB r c = true
  · have hh := (someB_iff r c).1 h
    rw [if_pos h]
    obtain ⟨R, rfl⟩ := Int.eq_ofNat_of_zero_le (show 0 ≤ r by omega)
    obtain ⟨C, rfl⟩ := Int.eq_ofNat_of_zero_le (show 0 ≤ c by omega)
    exact spec_area R C (by omega) (by omega) (by omega) (by omega) w
  · rw [if_neg h]
    exact spec_area_no r c (by simpa using h) w

/-- the first of the first k with most entries -/
def bestTo (ts : List (Int × Int)) : Nat → Int × Int
  | 0 => (0, 0)
  | k + 1 => if ar (bestTo ts k) < ar ts[k]! then ts[k]! else bestTo ts k
theorem best_some (ts : List (Int × Int)) (h : ∀ p ∈ ts, someB p.1 p.2 = true) : ∀ k, 1 ≤ k → k ≤ ts.length → someB (bestTo ts k).1 (bestTo ts k).2 = true
  | 0, h1, _ => absurd h1 (by omega)
  | k + 1, _, hk => by
    have hm : someB ts[k]!.1 ts[k]!.2 = true := h _ (by rw [getElem!_pos ts k (by omega)]; exact List.getElem_mem _)
    rw [bestTo]
    by_cases hc : ar (bestTo ts k) < ar ts[k]!
    · rw [if_pos hc]; exact hm
    · rw [if_neg hc]
      cases k with
      | zero =>
        exfalso
        apply hc
        have := ar_pos _ hm
        rw [show bestTo ts 0 = (0, 0) from rfl, ar_zero]
        omega
      | succ k => exact best_some ts h (k + 1) (by omega) (by omega)
end Go.Proofs.YtgmhddceeomjbaaGreatDoor.MaxC

/-
  The program's AreaOf.
-/
namespace Go.Proofs.YtgmhddceeomjbaaGreatDoor.AreaI
open Go.RowKit Go.Proofs.YtgmhddceeomjbaaGreatDoor.Plain Go.Proofs.YtgmhddceeomjbaaGreatDoor.Pat Go.Proofs.YtgmhddceeomjbaaGreatDoor.Rect Go.Proofs.YtgmhddceeomjbaaGreatDoor.Patch
set_option linter.unusedVariables false

set_option maxHeartbeats 1000000 in
theorem impl_area (R C : Nat) (hR1 : 1 ≤ R) (hR : R < 256) (hC1 : 1 ≤ C) (hC : C < 256) (w : World) :
    Calls Tryz.prog 26 #[rect R C] w fun e w' => e = .returned (.int .i64 ((pop8 R * pop8 C : Nat) : Int)) ∧ Below w.heap.size w w' := by
  have HS := Lib.hid (show someB R C = true by rw [someB_iff]; omega)
  have HP := Lib.hid (patch_any R C hR hC)
  have HZ := Lib.hid (size_any (rectB R C) (rectB_lt R C hC))
  rw [area_pop R C hR] at HZ
  generalize pat (rectB R C) 8 = p at *
  go_enter Tryz.func26, Tryz.ntmps26
  go_wp2_with fail
  refine (rect_any _ _ _).mono ?_
  rintro e w1 ⟨rfl, hb1⟩
  rw [HS.out]
  obtain ⟨c0, c1, hz, HB⟩ := box2 hb1
  clear hb1
  go_wp2_with fail
  refine (HP.out _).mono ?_
  rintro e w2 ⟨rfl, hb2⟩
  have HB2 := Lib.hid (rstep HB.out hb2)
  clear hb2 HB
  go_wp2_with fail
  refine (HZ.out _).mono ?_
  rintro e w' ⟨rfl, rfl⟩
  go_wp2_with fail
  go_ret
  exact ⟨rfl, HB2.out⟩
set_option maxHeartbeats 1000000 in
theorem impl_area_no (r c : Int) (h : someB r c = false) (w : World) :
    Calls Tryz.prog 26 #[rect r c] w fun e w' => e = .returned (.int .i64 (-1)) ∧ Below w.heap.size w w' := by
  have HS := Lib.hid h
  clear h
  go_enter Tryz.func26, Tryz.ntmps26
  go_wp2_with fail
  refine (rect_any _ _ _).mono ?_
  rintro e w1 ⟨rfl, hb1⟩
  rw [HS.out]
  obtain ⟨c0, c1, hz, HB⟩ := box2 hb1
  clear hb1
  go_wp2_with fail
  go_ret
  exact ⟨rfl, HB.out⟩
end Go.Proofs.YtgmhddceeomjbaaGreatDoor.AreaI

