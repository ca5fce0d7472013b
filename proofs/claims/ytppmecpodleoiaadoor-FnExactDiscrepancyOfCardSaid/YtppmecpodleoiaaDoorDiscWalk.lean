/-
  The walk of the law on DiscrepancyOf.
-/
import Derived.Test.YtppmecpodleoiaaDoorDiscI
namespace Go.Proofs.YtppmecpodleoiaaDoor.fnExactDiscrepancyOf
open Go.RowKit Go.Proofs.YtppmecpodleoiaaDoor.Plain Go.Proofs.YtppmecpodleoiaaDoor.Base Go.Proofs.YtppmecpodleoiaaDoor.Valid Go.Proofs.YtppmecpodleoiaaDoor.Law Go.Proofs.YtppmecpodleoiaaDoor.GridPlain Go.Proofs.YtppmecpodleoiaaDoor.Entry Go.Proofs.YtppmecpodleoiaaDoor.Pat Go.Proofs.YtppmecpodleoiaaDoor.Rect Go.Proofs.YtppmecpodleoiaaDoor.Patch Go.Proofs.YtppmecpodleoiaaDoor.FreeL Go.Proofs.YtppmecpodleoiaaDoor.Board Go.Proofs.YtppmecpodleoiaaDoor.BoardM Go.Proofs.YtppmecpodleoiaaDoor.RValid Go.Proofs.YtppmecpodleoiaaDoor.Area Go.Proofs.YtppmecpodleoiaaDoor.Bal Go.Proofs.YtppmecpodleoiaaDoor.Colour Go.Proofs.YtppmecpodleoiaaDoor.EachS Go.Proofs.YtppmecpodleoiaaDoor.Disc Go.Proofs.YtppmecpodleoiaaDoor.DiscI
set_option linter.unusedVariables false

theorem fold_up (E : Nat → Nat → Bool) (R C : Nat) : ∀ k, k < 256 → foldL (fun S => sumI (fun y => max (bal E S (2 ^ y) R C) 0) C) (fun S => sumI (fun y => max (- bal E S (2 ^ y) R C) 0) C) (upS k) = foldTo E R C (-1) k
  | 0, _ => rfl
  | k + 1, h => by
    rw [upS, dif_pos h, foldL_next, fold_up E R C k (by omega), foldTo]
    rfl

theorem impl_all (E : Nat → Nat → Bool) (R C : Nat) (hR : R ≤ 8) (hC : C ≤ 8) (rr cc : Int) (s : ByteArray)
    (hbo : ∀ W : World, Calls Tryd.prog 51 #[mat rr cc s] W fun e w' => e = .returned (brd R C (pat (onB (fun x y => !E x y) R C) 8) (pat (onB E R C) 8)) ∧ Below W.heap.size W w') (w : World) :
    Calls Tryd.prog 32 #[mat rr cc s] w fun e W' => e = .returned (.int .i64 (foldTo E R C (-1) (2 ^ R - 1))) ∧ Below w.heap.size w W' := by
  have h := callsIn_wide.1 (disc_in 3 (by omega) R C hR hC _ _ rr cc s (fun S X => bal E S X R C) (fun S X => bal_bound E S X R C hR hC) hbo (fun S X hS hX W => by
    have hb := balance_any (R : Int) (C : Int) (onB (fun x y => !E x y) R C) (onB E R C) (onB_lt _ R C hC) (onB_lt _ R C hC) S X hS hX W
    rw [show (((sumN (fun x => pop8 (rectB S X x &&& onB E R C x)) 8 : Nat) : Int) - ((sumN (fun x => pop8 (rectB S X x &&& onB (fun x y => !E x y) R C x)) 8 : Nat) : Int)) = bal E S X R C from bal_count E S X R C hR hC hX] at hb
    exact hb) w)
  have hp := (pow8 R hR).2
  rw [fold_up E R C _ (by omega)] at h
  exact h

set_option maxHeartbeats 400000 in
theorem spec_dOf (r c v : Int) (s : ByteArray) (hs : s.size ≤ maxLen) (b : Bool) (hb : validB r c s = b) (hd : b = true → ∀ W : World, Calls Tryd.prog 69 #[mat r c s] W fun e w' => e = .returned (.int .i64 v) ∧ Below W.heap.size W w') (w : World) :
    Calls Tryd.prog 31 #[mat r c s] w fun e w' => e = .returned (.int .i64 (if b = true then v else -1)) ∧ Below w.heap.size w w' := by
  have HV := Lib.hid hb
  have HD := Lib.hid hd
  clear hb hd
  go_enter Tryd.func31, Tryd.ntmps31
  go_wp2_with fail
  refine (spec_valid r c s hs _).mono ?_
  rintro e w1 ⟨rfl, hb1⟩
  rw [HV.out]
  obtain ⟨k0, k1, k2⟩ := three_of hb1
  have HB := Lib.hid (bstep ((Below.refl w.heap.size w).alloc (Nat.le_refl _) _) hb1)
  clear hb1
  cases b
  · go_wp2_with fail
    go_ret
    exact ⟨rfl, HB.out⟩
  · go_wp2_with fail
    refine (HD.out (by trivial) _).mono ?_
    rintro e w2 ⟨rfl, hb2⟩
    have HB2 := Lib.hid (bstep HB.out hb2)
    clear hb2
    go_wp2_with fail
    go_ret
    exact ⟨rfl, HB2.out⟩

/-- both find one number -/
theorem both (r c : Int) (s : ByteArray) (hs : s.size ≤ maxLen) : ∃ v : Int,
    (∀ w, Calls Tryd.prog 31 #[mat r c s] w fun e w' => e = .returned (.int .i64 v) ∧ Below w.heap.size w w') ∧
    (∀ w, Calls Tryd.prog 32 #[mat r c s] w fun e w' => e = .returned (.int .i64 v) ∧ Below w.heap.size w w') := by
  by_cases hv : validB r c s = true
  · obtain ⟨R, C, E, rfl, rfl, h1, h2, h3, h4, rfl⟩ := valid_form hv
    have hp : 2 ≤ 2 ^ R := by
      have := Nat.pow_le_pow_right (n := 2) (by decide) h1
      omega
    refine ⟨foldTo E R C (-1) (2 ^ R - 1), fun w => ?_, fun w => impl_all E R C h2 h4 _ _ _ (fun W => board_yes R C E h1 h2 h3 h4 hs hv W) w⟩
    rw [← fold_eq E R C h2 h4 _ (by omega)]
    exact spec_dOf R C _ _ hs true hv (fun _ W => spec_disc E R C h1 h2 h3 h4 W) w
  · have hv' : validB r c s = false := by simpa using hv
    refine ⟨-1, fun w => spec_dOf r c 0 s hs false hv' (fun h => by cases h) w, fun w => ?_⟩
    exact impl_all (fun _ _ => false) 0 0 (by omega) (by omega) r c s (fun W => board_no r c s hs hv' W) w

theorem walk (r c : Int) (s : ByteArray) (wr : (Lit.int .i64 r).wf = true) (wc : (Lit.int .i64 c).wf = true) (hs : s.size ≤ maxLen) (w : World) :
    Calls Tryd.prog 9 #[mat r c s] w fun e w' => e = .returned (.bool true) ∧ Below w.heap.size w w' := by
  obtain ⟨v, hspec, himpl⟩ := both r c s hs
  have HS := Lib.hid hspec
  have HI := Lib.hid himpl
  clear hspec himpl
  have hs2 := hs
  unfold maxLen at hs2
  by_cases hbig : 1048576 < s.size
  · go_enter Tryd.func9, Tryd.ntmps9
    go_wp2_with fail
    refine (sz_over r c s _ (by omega) (by omega) hs _).mono ?_
    rintro e w1 ⟨rfl, hb1⟩
    have HB := Lib.hid (bstep ((Below.refl w.heap.size w).alloc (Nat.le_refl _) _) hb1)
    clear hb1
    go_wp2_with fail
    go_ret
    exact ⟨rfl, HB.out⟩
  · go_enter Tryd.func9, Tryd.ntmps9
    go_wp2_with fail
    refine (sz_fits r c s _ (by omega) (by omega) _).mono ?_
    rintro e w1 ⟨rfl, hb1⟩
    obtain ⟨k0, k1, k2⟩ := three_of hb1
    have hg : w.heap.size < w1.heap.size := by have := hb1.size; simp at this; omega
    have HB := Lib.hid (bstep ((Below.refl w.heap.size w).alloc (Nat.le_refl _) _) hb1)
    clear hb1
    go_wp2_with fail
    refine (to_any r c s _).mono ?_
    rintro e w2 ⟨rfl, hb2⟩
    go_wp2_with fail
    refine (HS.out _).mono ?_
    rintro e w3 ⟨rfl, hb3⟩
    obtain ⟨j0, j1, j2⟩ := three_on (hb2.trans (hb3.mono hb2.size)) hg k0 k1 k2
    have HB3 := Lib.hid (bstep (bstep HB.out hb2) hb3)
    clear hb2 hb3 k0 k1 k2 HB
    go_wp2_with fail
    refine (to_any r c s _).mono ?_
    rintro e w4 ⟨rfl, hb4⟩
    go_wp2_with fail
    refine (HI.out _).mono ?_
    rintro e w5 ⟨rfl, hb5⟩
    have HB5 := Lib.hid (bstep (bstep HB3.out hb4) hb5)
    clear hb4 hb5 j0 j1 j2 HB3
    go_wp2_with fail
    all_goals (go_ret; exact ⟨rfl, HB5.out⟩)
end Go.Proofs.YtppmecpodleoiaaDoor.fnExactDiscrepancyOf
