/-
  The walk of the law on IsPartition.
-/
import Derived.Test.YtppmecpodleoiaaDoorPartM
namespace Go.Proofs.YtppmecpodleoiaaDoor.fnExactIsPartition
open Go.RowKit Go.Proofs.YtppmecpodleoiaaDoor.Plain Go.Proofs.YtppmecpodleoiaaDoor.Base Go.Proofs.YtppmecpodleoiaaDoor.Valid Go.Proofs.YtppmecpodleoiaaDoor.Law Go.Proofs.YtppmecpodleoiaaDoor.GridPlain Go.Proofs.YtppmecpodleoiaaDoor.Entry Go.Proofs.YtppmecpodleoiaaDoor.Pat Go.Proofs.YtppmecpodleoiaaDoor.Rect Go.Proofs.YtppmecpodleoiaaDoor.Patch Go.Proofs.YtppmecpodleoiaaDoor.FreeL Go.Proofs.YtppmecpodleoiaaDoor.Board Go.Proofs.YtppmecpodleoiaaDoor.BoardM Go.Proofs.YtppmecpodleoiaaDoor.RValid Go.Proofs.YtppmecpodleoiaaDoor.Area Go.Proofs.YtppmecpodleoiaaDoor.Bal Go.Proofs.YtppmecpodleoiaaDoor.Colour Go.Proofs.YtppmecpodleoiaaDoor.Rects Go.Proofs.YtppmecpodleoiaaDoor.Cover Go.Proofs.YtppmecpodleoiaaDoor.CoverS Go.Proofs.YtppmecpodleoiaaDoor.CovM Go.Proofs.YtppmecpodleoiaaDoor.PartS Go.Proofs.YtppmecpodleoiaaDoor.PartI Go.Proofs.YtppmecpodleoiaaDoor.PartM
set_option linter.unusedVariables false

/-- both find one truth value -/
theorem both (r c : Int) (s : ByteArray) (hs : s.size ≤ maxLen) (xs : List (Int × Int)) : ∃ t : Bool,
    (xs.length ≤ 1048576 → ∀ v w, RV w w.heap.size v xs → Calls Tryd.prog 29 #[mat r c s, v] w fun e w' => e = .returned (.bool t) ∧ Below w.heap.size w w') ∧
    (∀ v w, RV w w.heap.size v xs → Calls Tryd.prog 30 #[mat r c s, v] w fun e w' => e = .returned (.bool t) ∧ Below w.heap.size w w') := by
  by_cases hv : validB r c s = true
  · obtain ⟨R, C, E, rfl, rfl, h1, h2, h3, h4, rfl⟩ := valid_form hv
    have hbd := fun W => board_yes R C E h1 h2 h3 h4 hs hv W
    have z64 := pat64 (onB (fun x y => !E x y) R C) (onB_lt _ R C h4)
    have o64 := pat64 (onB E R C) (onB_lt _ R C h4)
    have hcv : ∀ r c, 0 ≤ colR E R C r c → ∃ RS CS : Nat, r = (RS : Int) ∧ c = (CS : Int) ∧ 1 ≤ RS ∧ RS < 256 ∧ 1 ≤ CS ∧ CS < 256 := fun r c h => by
      obtain ⟨RS, CS, e1, e2, k1, k2, k3, k4, k5, k6⟩ := hp_any (E := E) h2 h4 ((col_plain E R C h2 h4 r c).1 h)
      exact ⟨RS, CS, e1, e2, k1, k5, k3, k6⟩
    refine ⟨_, fun hn v w hiv => spec_part R C (R * C) (prod_le h2 h4) _ hs true hv (fun _ => wrap_prod R C h2 h4) _ (fun r c W => colR_any E R C h1 h2 h3 h4 hs hv r c W) hcv xs hn v w hiv, fun v w hiv => ?_⟩
    rw [Bool.true_and, part_eq E R C h1 h2 h4 xs]
    exact impl_part R C h2 h4 _ _ z64 o64 (.inl h1) _ _ _ hbd xs v w hiv
  · have hv' : validB r c s = false := by simpa using hv
    refine ⟨false, fun hn v w hiv => ?_, fun v w hiv => ?_⟩
    · have h := spec_part r c 0 (by omega) s hs false hv' (fun h => by cases h) (fun _ _ => -2) (fun x y W => ?_) (fun _ _ h => absurd h (by decide)) xs hn v w hiv
      · exact h
      · have h := spec_col r c s x y false 0 (fun W => spec_rv_no r c s hs hv' x y W) (fun h => by cases h) W
        rw [if_neg (by decide)] at h
        exact h
    · have h := impl_part 0 0 (by omega) (by omega) 0 0 (by omega) (by omega) (.inr ⟨rfl, rfl, rfl, rfl⟩) r c s (fun W => ?_) xs v w hiv
      · rw [show partI 0 0 0 0 xs = false from ?_] at h
        · exact h
        · unfold partI
          rw [decide_eq_false (show ¬ (1 ≤ 0) by omega), Bool.false_and, Bool.and_false]
      · have h := board_no r c s hs hv' W
        rw [show pat (onB (fun _ _ => true) 0 0) 8 = 0 from (pat_zero 8 _).2 fun x _ => by unfold onB; rw [if_neg (by omega)], show pat (onB (fun _ _ => false) 0 0) 8 = 0 from (pat_zero 8 _).2 fun x _ => by unfold onB; rw [if_neg (by omega)]] at h
        exact h

/-- the law's own copy of the matrix -/
def LBox (w : World) (b : Nat) (r c : Int) (s : ByteArray) : Prop := MHolds w b 28 r c s
theorem LBox.on {w w1 : World} {b : Nat} {r c : Int} {s : ByteArray} (h : LBox w b r c s) (hb : Below w.heap.size w w1) : LBox w1 b r c s := mh_on h hb

set_option maxHeartbeats 1000000 in
set_option maxRecDepth 100000 in
theorem walk (r c : Int) (s : ByteArray) (wr : (Lit.int .i64 r).wf = true) (wc : (Lit.int .i64 c).wf = true) (hs : s.size ≤ maxLen) (xs : List (Int × Int)) (v : Value) (w : World) (hiv : RV w w.heap.size v xs) :
    Calls Tryd.prog 8 #[mat r c s, v] w fun e w' => e = .returned (.bool true) ∧ Below w.heap.size w w' := by
  obtain ⟨t, hspec, himpl⟩ := both r c s hs xs
  have HS := Lib.hid hspec
  have HI := Lib.hid himpl
  clear hspec himpl
  have hs2 := hs
  unfold maxLen at hs2
  by_cases hbig : 1048576 < s.size
  · go_enter Tryd.func8, Tryd.ntmps8
    go_wp2_with fail
    refine (sz_over r c s _ (by omega) (by omega) hs _).mono ?_
    rintro e w1 ⟨rfl, hb1⟩
    have HB := Lib.hid (bstep ((Below.refl w.heap.size w).alloc (Nat.le_refl _) _) hb1)
    clear hb1
    go_wp2_with fail
    go_ret
    exact ⟨rfl, HB.out⟩
  · obtain ⟨p, kk, hvv⟩ := hiv.slice
    subst hvv
    have hl := hiv.1
    have HIV := Lib.hid hiv
    clear hiv
    have HSZ := Lib.hid (fun (left : Int) (h0 : 0 ≤ left) (h1 : left ≤ 1048576) W => sz_rects p xs.length kk left h0 h1 hl W)
    obtain ⟨left, hleft⟩ : ∃ left : Int, (1048576 : Int) - (s.size : Int) = left := ⟨_, rfl⟩
    have hl0 : 0 ≤ left := by omega
    have hl1 : left ≤ 1048576 := by omega
    have HL := Lib.hid hleft
    go_enter Tryd.func8, Tryd.ntmps8
    go_wp2_with fail
    refine (sz_fits r c s _ (by omega) (by omega) _).mono ?_
    rintro e w1 ⟨rfl, hb1⟩
    rw [HL.out]
    have M1 : Hid (LBox w1 w.heap.size r c s) := mh_on (heap_alloc_new w _) hb1
    have HB1 := Lib.hid (bstep ((Below.refl w.heap.size w).alloc (Nat.le_refl _) _) hb1)
    clear hb1 hleft hbig hs2
    go_wp2_with fail
    refine (HSZ.out left hl0 hl1 _).mono ?_
    rintro e w' ⟨rfl, rfl⟩
    by_cases hfit : (xs.length : Int) ≤ left
    · rw [if_pos hfit]
      have hlen : xs.length ≤ 1048576 := by omega
      obtain ⟨k0, k1, k2⟩ := mh_c (show MHolds w1 w.heap.size 28 r c s from M1.out)
      go_wp2_with fail
      refine (to_any r c s _).mono ?_
      rintro e w2 ⟨rfl, hb2⟩
      have M2 := Lib.hid (M1.out.on hb2)
      have HB2 := Lib.hid (bstep HB1.out hb2)
      clear hb2 k0 k1 k2 M1 HB1
      go_wp2_with fail
      refine (to_rects xs _ hlen _ ((HIV.out.later (Nat.le_refl _) HB2.out).mono HB2.out.size)).mono ?_
      rintro e w3 ⟨v3, rfl, hr3, hb3⟩
      have M3 := Lib.hid (M2.out.on hb3)
      have HB3 := Lib.hid (bstep HB2.out hb3)
      have HR3 := Lib.hid hr3
      clear hb3 hr3 M2 HB2
      go_wp2_with fail
      refine (HS.out hlen v3 _ HR3.out).mono ?_
      rintro e w4 ⟨rfl, hb4⟩
      have M4 := Lib.hid (M3.out.on hb4)
      have HB4 := Lib.hid (bstep HB3.out hb4)
      clear hb4 M3 HB3 HR3
      go_wp2_with fail
      refine (to_rects xs _ hlen _ ((HIV.out.later (Nat.le_refl _) HB4.out).mono HB4.out.size)).mono ?_
      rintro e w5 ⟨v5, rfl, hr5, hb5⟩
      have M5 := Lib.hid (M4.out.on hb5)
      have HB5 := Lib.hid (bstep HB4.out hb5)
      have HR5 := Lib.hid hr5
      clear hb5 hr5 M4 HB4
      obtain ⟨k0, k1, k2⟩ := mh_c (show MHolds w5 w.heap.size 28 r c s from M5.out)
      go_wp2_with fail
      refine (to_any r c s _).mono ?_
      rintro e w6 ⟨rfl, hb6⟩
      have HB6 := Lib.hid (bstep HB5.out hb6)
      have HR6 := Lib.hid ((HR5.out.later (Nat.le_refl _) hb6).mono hb6.size)
      clear hb6 k0 k1 k2 M5 HB5 HR5
      go_wp2_with fail
      refine (HI.out v5 _ HR6.out).mono ?_
      rintro e w7 ⟨rfl, hb7⟩
      have HB7 := Lib.hid (bstep HB6.out hb7)
      have HR7 := Lib.hid ((HR6.out.later (Nat.le_refl _) hb7).mono hb7.size)
      clear hb7 HB6 HR6
      go_wp2_with fail
      refine (to_rects xs _ hlen _ ((HIV.out.later (Nat.le_refl _) HB7.out).mono HB7.out.size)).mono ?_
      rintro e w8 ⟨v8, rfl, hr8, hb8⟩
      have HB8 := Lib.hid (bstep HB7.out hb8)
      have HR8 := Lib.hid ((HR7.out.later (Nat.le_refl _) hb8).mono hb8.size)
      have HQ8 := Lib.hid hr8
      clear hb8 hr8 HB7 HR7
      go_wp2_with fail
      refine (eq_rects xs _ _ _ HR8.out HQ8.out).mono ?_
      rintro e w9 ⟨rfl, hb9⟩
      have HB9 := Lib.hid (bstep HB8.out hb9)
      clear hb9 HB8 HR8 HQ8
      go_wp2_with fail
      go_ret
      exact ⟨rfl, HB9.out⟩
    · rw [if_neg hfit]
      clear hfit
      go_wp2_with fail
      go_ret
      exact ⟨rfl, HB1.out⟩
end Go.Proofs.YtppmecpodleoiaaDoor.fnExactIsPartition
