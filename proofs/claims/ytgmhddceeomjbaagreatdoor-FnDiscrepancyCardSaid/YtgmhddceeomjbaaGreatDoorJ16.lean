/-
  Texts of one seat, joined: Colour, Turn1.
-/
import Derived.Test.YtgmhddceeomjbaaGreatDoorJ14
import Derived.Test.YtgmhddceeomjbaaGreatDoorJ15
import Derived.Test.YtgmhddceeomjbaaGreatDoorJ10
import Derived.Deep.RegionWith
/-
  The reference's l2Balance and l2Colour; ColourOf and BalanceOf.
-/
namespace Go.Proofs.YtgmhddceeomjbaaGreatDoor.Colour
open Go.RowKit Go.Proofs.YtgmhddceeomjbaaGreatDoor.Plain Go.Proofs.YtgmhddceeomjbaaGreatDoor.Base Go.Proofs.YtgmhddceeomjbaaGreatDoor.Valid Go.Proofs.YtgmhddceeomjbaaGreatDoor.Law Go.Proofs.YtgmhddceeomjbaaGreatDoor.GridPlain Go.Proofs.YtgmhddceeomjbaaGreatDoor.Grid Go.Proofs.YtgmhddceeomjbaaGreatDoor.Entry Go.Proofs.YtgmhddceeomjbaaGreatDoor.Pat Go.Proofs.YtgmhddceeomjbaaGreatDoor.Rect Go.Proofs.YtgmhddceeomjbaaGreatDoor.Patch Go.Proofs.YtgmhddceeomjbaaGreatDoor.FreeL Go.Proofs.YtgmhddceeomjbaaGreatDoor.Board Go.Proofs.YtgmhddceeomjbaaGreatDoor.BoardM Go.Proofs.YtgmhddceeomjbaaGreatDoor.RValid Go.Proofs.YtgmhddceeomjbaaGreatDoor.Area Go.Proofs.YtgmhddceeomjbaaGreatDoor.Bal
open Go.Proofs.YtgmhddceeomjbaaGreatDoor.Free (fill wp_value wp_enter wp_load_row freeB)
set_option linter.unusedVariables false

set_option maxHeartbeats 400000 in
theorem int_any (b : Bool) (w : World) :
    Calls Tryz.prog 77 #[.bool b] w fun e w' => e = .returned (.int .i64 (bitI b)) ∧ w = w' := by
  cases b
  all_goals
    go_enter Tryz.func77, Tryz.ntmps77
    go_wp2
    go_ret
    exact ⟨rfl, rfl⟩

/-- what the loops keep -/
structure CInv (w wr : World) (R C : Nat) (s : ByteArray) (RS CS : Nat) : Prop where
  m : MHolds wr w.heap.size 27 R C s
  t : THolds wr (w.heap.size + 1) 34 RS CS
  below : Below w.heap.size w wr
theorem CInv.later {w wr w2 : World} {R C : Nat} {s : ByteArray} {RS CS : Nat} (h : CInv w wr R C s RS CS) (hb : Below wr.heap.size wr w2) : CInv w w2 R C s RS CS := ⟨mh_on h.m hb, th_on h.t hb, rstep h.below hb⟩

set_option maxHeartbeats 2000000 in
theorem spec_bal (E : Nat → Nat → Bool) (R C : Nat) (hR1 : 1 ≤ R) (hR : R ≤ 8) (hC1 : 1 ≤ C) (hC : C ≤ 8) (RS CS : Nat) (hRS : RS < 256) (hCS : CS < 256) (w : World) :
    Calls Tryz.prog 100 #[mat R C (str (rowsB E R C)), rect RS CS] w fun e w' => e = .returned (.int .i64 (bal E RS CS R C)) ∧ Below w.heap.size w w' := by
  have HAT := Lib.hid (fun x y hx hy W => at_any E R C hR hC x y hx hy W)
  generalize str (rowsB E R C) = s at *
  go_enter Tryz.func100, Tryz.ntmps100
  go_wp2_with fail
  obtain ⟨e0, e1, hb0⟩ := two_box (w := w) (a := .cells #[.int .i64 (R : Int), .int .i64 (C : Int), .string s] 27) (b := .cells #[.int .i64 (RS : Int), .int .i64 (CS : Int)] 34)
  generalize (w.alloc (.cells #[.int .i64 (R : Int), .int .i64 (C : Int), .string s] 27)).alloc (.cells #[.int .i64 (RS : Int), .int .i64 (CS : Int)] 34) = W0 at *
  have HI0 : Hid (CInv w W0 R C s RS CS) := ⟨e0, e1, hb0⟩
  clear e0 e1 hb0
  go_loopw [5, 6] (fun n x wr => ∃ (k : Nat) (v : Int), k ≤ R ∧ n = .int .i64 v ∧ v = balTo E RS CS C k 0 ∧ x = .int .i64 (k : Int) ∧ CInv w wr R C s RS CS) (fun _ x _ => R - (intOf x).toNat)
  case atStart => exact ⟨0, 0, Nat.zero_le _, rfl, (balTo_start E RS CS C).symm, rfl, HI0.out⟩
  case round =>
    obtain ⟨k, v, hk, rfl, hv, rfl, hinv⟩ := hrel
    clear HI0
    obtain ⟨q0, q1, q2⟩ := mh_c hinv.m
    by_cases hlt : k < R
    · have HV := Lib.hid hv
      have HI := Lib.hid hinv
      clear hv hinv
      go_wp2_with fail
      go_loopw [5, 7] (fun n y wr => ∃ (j : Nat) (v : Int), j ≤ C ∧ n = .int .i64 v ∧ v = balTo E RS CS C k j ∧ y = .int .i64 (j : Int) ∧ CInv w wr R C s RS CS) (fun _ y _ => C - (intOf y).toNat)
      case atStart => exact ⟨0, v, Nat.zero_le _, rfl, HV.out, rfl, HI.out⟩
      case round =>
        obtain ⟨j, v, hj, rfl, hv, rfl, hinv⟩ := hrel
        clear q0 q1 q2 HI HV
        obtain ⟨q0, q1, q2⟩ := mh_c hinv.m
        obtain ⟨p0, p1⟩ := th_c hinv.t
        by_cases hlt' : j < C
        · have hbd := balTo_bound E RS CS C k j hC (by omega) (by omega)
          rw [← hv] at hbd
          have k8 : k < 8 := by omega
          have j8 : j < 8 := by omega
          have HK := Lib.hid (fun W => l2In_any RS k hRS k8 W)
          have HJ := Lib.hid (fun W => l2In_any CS j hCS j8 W)
          have HA := Lib.hid (fun W => HAT.out k j hlt hlt' W)
          have HI := Lib.hid hinv
          clear hinv
          obtain ⟨b1, h1⟩ : ∃ b, RS.testBit k = b := ⟨_, rfl⟩
          obtain ⟨b2, h2⟩ : ∃ b, CS.testBit j = b := ⟨_, rfl⟩
          obtain ⟨b3, h3⟩ : ∃ b, E k j = b := ⟨_, rfl⟩
          rw [h1] at HK
          rw [h2] at HJ
          rw [h3] at HA
          cases b1
          · have HN : Hid (v = balTo E RS CS C k (j + 1)) := by
              unfold Hid
              rw [balTo_out E RS CS C k j (by rw [h1]; rfl)]
              exact hv
            clear hv h1 h2 h3
            go_wp2_with fail
            refine (HK.out _).mono ?_
            rintro e w' ⟨rfl, rfl⟩
            go_wp2_with fail
            go_roundw
            case rel => exact ⟨j + 1, v, by omega, rfl, HN.out, by go_num, HI.out⟩
            case measure => simp [intOf]; omega
          · cases b2
            · have HN : Hid (v = balTo E RS CS C k (j + 1)) := by
                unfold Hid
                rw [balTo_out E RS CS C k j (by rw [h1, h2]; rfl)]
                exact hv
              clear hv h1 h2 h3
              go_wp2_with fail
              refine (HK.out _).mono ?_
              rintro e w' ⟨rfl, rfl⟩
              go_wp2_with fail
              refine (HJ.out _).mono ?_
              rintro e w' ⟨rfl, rfl⟩
              go_wp2_with fail
              go_roundw
              case rel => exact ⟨j + 1, v, by omega, rfl, HN.out, by go_num, HI.out⟩
              case measure => simp [intOf]; omega
            · have HN : Hid (balTo E RS CS C k (j + 1) = v - 1 + 2 * bitI b3) := by
                unfold Hid
                rw [balTo_in E RS CS C k j h1 h2, h3, hv]
              clear hv h1 h2 h3
              go_wp2_with fail
              refine (HK.out _).mono ?_
              rintro e w' ⟨rfl, rfl⟩
              go_wp2_with fail
              refine (HJ.out _).mono ?_
              rintro e w' ⟨rfl, rfl⟩
              go_wp2_with fail
              refine (HA.out _).mono ?_
              rintro e w2 ⟨rfl, hb2⟩
              have HI2 := Lib.hid (HI.out.later hb2)
              clear hb2 q0 q1 q2 p0 p1
              go_wp2_with fail
              refine (int_any _ _).mono ?_
              rintro e w' ⟨rfl, rfl⟩
              cases b3
              · rw [bitI_false] at HN ⊢
                go_wp2_with fail
                go_roundw
                case rel => exact ⟨j + 1, v - 1, by omega, by go_num, by rw [HN.out]; omega, by go_num, HI2.out⟩
                case measure => simp [intOf]; omega
              · rw [bitI_true] at HN ⊢
                go_wp2_with fail
                go_roundw
                case rel => exact ⟨j + 1, v + 1, by omega, by go_num, by rw [HN.out]; omega, by go_num, HI2.out⟩
                case measure => simp [intOf]; omega
        · obtain rfl : j = C := by omega
          have HV := Lib.hid hv
          have HI := Lib.hid hinv
          clear hv hinv
          go_wp2_with fail
          go_roundw
          case rel => exact ⟨k + 1, v, by omega, rfl, by rw [← balTo_row]; exact HV.out, by go_num, HI.out⟩
          case measure => simp [intOf]; omega
    · obtain rfl : k = R := by omega
      have HV : Hid (v = bal E RS CS k C) := by rw [balTo_end] at hv; exact hv
      have HI := Lib.hid hinv
      clear hv hinv
      go_wp2_with fail
      go_ret
      exact ⟨by rw [← HV.out]; rfl, HI.out.below⟩

/-- what the reference calls the value of a rectangle -/
def colV (v a : Int) : Int := if v = a then 1 else if v = - a then 0 else -1

set_option maxHeartbeats 1000000 in
theorem spec_l2col (E : Nat → Nat → Bool) (R C : Nat) (hR1 : 1 ≤ R) (hR : R ≤ 8) (hC1 : 1 ≤ C) (hC : C ≤ 8) (RS CS : Nat) (hRS1 : 1 ≤ RS) (hRS : RS < 256) (hCS1 : 1 ≤ CS) (hCS : CS < 256) (w : World) :
    Calls Tryz.prog 90 #[mat R C (str (rowsB E R C)), rect RS CS] w fun e w' => e = .returned (.int .i64 (colV (bal E RS CS R C) ((pop8 RS * pop8 CS : Nat) : Int))) ∧ Below w.heap.size w w' := by
  have HBL := Lib.hid (fun W => spec_bal E R C hR1 hR hC1 hC RS CS hRS hCS W)
  have HAR := Lib.hid (fun W => spec_area RS CS hRS1 hRS hCS1 hCS W)
  have har : pop8 RS * pop8 CS ≤ 64 := Nat.mul_le_mul (pop8_le RS) (pop8_le CS)
  generalize str (rowsB E R C) = s at *
  generalize bal E RS CS R C = v at *
  generalize pop8 RS * pop8 CS = a at *
  unfold colV
  by_cases h1 : v = (a : Int)
  · rw [if_pos h1]
    subst h1
    go_enter Tryz.func90, Tryz.ntmps90
    go_wp2_with fail
    refine (HBL.out _).mono ?_
    rintro e w1 ⟨rfl, hb1⟩
    obtain ⟨m0, t0, hbel⟩ := boxes hb1
    obtain ⟨p0, p1⟩ := th_c t0
    have TH := Lib.hid t0
    have HB := Lib.hid hbel
    clear hb1 hbel m0 t0
    go_wp2_with fail
    refine (HAR.out _).mono ?_
    rintro e w2 ⟨rfl, hb2⟩
    have HB2 := Lib.hid (rstep HB.out hb2)
    clear hb2
    go_wp2_with fail
    go_ret
    exact ⟨rfl, HB2.out⟩
  · rw [if_neg h1]
    obtain ⟨b1, hb1⟩ : ∃ b, (v == (a : Int)) = b := ⟨_, rfl⟩
    obtain rfl : b1 = false := by rw [← hb1]; exact beq_eq_false_iff_ne.2 h1
    obtain ⟨b2, hb2⟩ : ∃ b, (v == - (a : Int)) = b := ⟨_, rfl⟩
    have HV : Hid ((if v = - (a : Int) then (0 : Int) else -1) = if b2 = true then 0 else -1) := by
      unfold Hid
      by_cases h2 : v = - (a : Int)
      · obtain rfl : b2 = true := by rw [← hb2]; exact beq_iff_eq.2 h2
        rw [if_pos h2, if_pos rfl]
      · obtain rfl : b2 = false := by rw [← hb2]; exact beq_eq_false_iff_ne.2 h2
        rw [if_neg h2, if_neg (by decide)]
    rw [HV.out]
    clear h1 HV
    cases b2
    all_goals
      go_enter Tryz.func90, Tryz.ntmps90
      go_wp2_with fail
      refine (HBL.out _).mono ?_
      rintro e w1 ⟨rfl, hw1⟩
      obtain ⟨m0, t0, hbel⟩ := boxes hw1
      obtain ⟨p0, p1⟩ := th_c t0
      have TH := Lib.hid t0
      have HB := Lib.hid hbel
      clear hw1 hbel m0 t0
      go_wp2_with fail
      refine (HAR.out _).mono ?_
      rintro e w2 ⟨rfl, hw2⟩
      obtain ⟨p0, p1⟩ := th_c (th_on TH.out hw2)
      have HB2 := Lib.hid (rstep HB.out hw2)
      clear hw2 TH HB
      go_wp2_with fail
      refine (HAR.out _).mono ?_
      rintro e w3 ⟨rfl, hw3⟩
      have HB3 := Lib.hid (rstep HB2.out hw3)
      clear hw3
      go_wp2_with fail
      go_ret
      exact ⟨rfl, HB3.out⟩

/-- a callee of the reference's that is asked behind RectValid -/
theorem rv_nat {R C : Nat} {r c : Int} (hR : R ≤ 8) (hC : C ≤ 8) (h : rvB R C r c = true) : ∃ RS CS : Nat, r = (RS : Int) ∧ c = (CS : Int) ∧ 1 ≤ RS ∧ RS < 2 ^ R ∧ 1 ≤ CS ∧ CS < 2 ^ C ∧ RS < 256 ∧ CS < 256 := by
  unfold rvB at h
  rw [Bool.and_eq_true, decide_eq_true_iff, decide_eq_true_iff] at h
  obtain ⟨⟨h1, h2⟩, h3, h4⟩ := h
  obtain ⟨RS, rfl⟩ := Int.eq_ofNat_of_zero_le (show 0 ≤ r by omega)
  obtain ⟨CS, rfl⟩ := Int.eq_ofNat_of_zero_le (show 0 ≤ c by omega)
  have e1 : ((2 : Int) ^ R) = ((2 ^ R : Nat) : Int) := by simp
  have e2 : ((2 : Int) ^ C) = ((2 ^ C : Nat) : Int) := by simp
  have h5 : 2 ^ R ≤ 2 ^ 8 := Nat.pow_le_pow_right (by decide) hR
  have h6 : 2 ^ C ≤ 2 ^ 8 := Nat.pow_le_pow_right (by decide) hC
  rw [e1] at h2
  rw [e2] at h4
  generalize 2 ^ R = X at *
  generalize 2 ^ C = Y at *
  exact ⟨RS, CS, rfl, rfl, by omega, by omega, by omega, by omega, by omega, by omega⟩

set_option maxHeartbeats 1000000 in
theorem spec_col (rr cc : Int) (s : ByteArray) (r c : Int) (t : Bool) (v : Int) (ht : ∀ W : World, Calls Tryz.prog 89 #[mat rr cc s, rect r c] W fun e w' => e = .returned (.bool t) ∧ Below W.heap.size W w')
    (hv : t = true → ∀ W : World, Calls Tryz.prog 90 #[mat rr cc s, rect r c] W fun e w' => e = .returned (.int .i64 v) ∧ Below W.heap.size W w') (w : World) :
    Calls Tryz.prog 50 #[mat rr cc s, rect r c] w fun e w' => e = .returned (.int .i64 (if t = true then v else -2)) ∧ Below w.heap.size w w' := by
  have HT := Lib.hid ht
  clear ht
  cases t
  · clear hv
    go_enter Tryz.func50, Tryz.ntmps50
    go_wp2_with fail
    refine (HT.out _).mono ?_
    rintro e w1 ⟨rfl, hb1⟩
    obtain ⟨m0, t0, hbel⟩ := boxes hb1
    have HB := Lib.hid hbel
    clear hb1 hbel m0 t0
    go_wp2_with fail
    go_ret
    exact ⟨rfl, HB.out⟩
  · have HV := Lib.hid (hv rfl)
    clear hv
    go_enter Tryz.func50, Tryz.ntmps50
    go_wp2_with fail
    refine (HT.out _).mono ?_
    rintro e w1 ⟨rfl, hb1⟩
    obtain ⟨m0, t0, hbel⟩ := boxes hb1
    obtain ⟨q0, q1, q2⟩ := mh_c m0
    obtain ⟨p0, p1⟩ := th_c t0
    have HB := Lib.hid hbel
    clear hb1 hbel m0 t0
    go_wp2_with fail
    refine (HV.out _).mono ?_
    rintro e w2 ⟨rfl, hb2⟩
    have HB2 := Lib.hid (rstep HB.out hb2)
    clear hb2
    go_wp2_with fail
    go_ret
    exact ⟨rfl, HB2.out⟩

set_option maxHeartbeats 1000000 in
set_option maxRecDepth 100000 in
theorem balance_any (R C : Int) (fz fo : Nat → Nat) (hz : ∀ x, fz x < 256) (ho : ∀ x, fo x < 256) (r c : Nat) (hr : r < 256) (hc : c < 256) (w : World) :
    Calls Tryz.prog 61 #[brd R C (pat fz 8) (pat fo 8), rect r c] w fun e w' => e = .returned (.int .i64 (((sumN (fun x => pop8 (rectB r c x &&& fo x)) 8 : Nat) : Int) - ((sumN (fun x => pop8 (rectB r c x &&& fz x)) 8 : Nat) : Int))) ∧ Below w.heap.size w w' := by
  have HP := Lib.hid (patch_any r c hr hc)
  have hrl := rectB_lt r c hc
  have hlo : ∀ x, rectB r c x &&& fo x < 256 := fun x => Nat.lt_of_le_of_lt Nat.and_le_left (hrl x)
  have hlz : ∀ x, rectB r c x &&& fz x < 256 := fun x => Nat.lt_of_le_of_lt Nat.and_le_left (hrl x)
  have HSO := Lib.hid (size_any (fun x => rectB r c x &&& fo x) hlo)
  have HSZ := Lib.hid (size_any (fun x => rectB r c x &&& fz x) hlz)
  have hso : sumN (fun x => pop8 (rectB r c x &&& fo x)) 8 ≤ 8 * 8 := sumN_le _ 8 (fun x => pop8_le _) 8
  have hsz : sumN (fun x => pop8 (rectB r c x &&& fz x)) 8 ≤ 8 * 8 := sumN_le _ 8 (fun x => pop8_le _) 8
  have HPO : Hid (Go.bits .and .u64 ((pat (rectB r c) 8 : Nat) : Int) ((pat fo 8 : Nat) : Int) = ((pat (fun x => rectB r c x &&& fo x) 8 : Nat) : Int)) := by
    unfold Hid
    rw [u64_and_nat _ _ (pat64 _ hrl) (pat64 _ ho), pat_and 8 _ _ hrl ho]
  have HPZ : Hid (Go.bits .and .u64 ((pat (rectB r c) 8 : Nat) : Int) ((pat fz 8 : Nat) : Int) = ((pat (fun x => rectB r c x &&& fz x) 8 : Nat) : Int)) := by
    unfold Hid
    rw [u64_and_nat _ _ (pat64 _ hrl) (pat64 _ hz), pat_and 8 _ _ hrl hz]
  clear hrl hlo hlz
  generalize sumN (fun x => pop8 (rectB r c x &&& fo x)) 8 = so at *
  generalize sumN (fun x => pop8 (rectB r c x &&& fz x)) 8 = sz at *
  generalize pat (fun x => rectB r c x &&& fo x) 8 = po at *
  generalize pat (fun x => rectB r c x &&& fz x) 8 = pz at *
  generalize pat (rectB r c) 8 = p at *
  generalize pat fz 8 = z at *
  generalize pat fo 8 = o at *
  go_enter Tryz.func61, Tryz.ntmps61
  go_wp2_with fail
  refine (HP.out _).mono ?_
  rintro e W0 ⟨rfl, hb0⟩
  obtain ⟨e0, e1, hbx⟩ := two_box (w := w) (a := .cells #[.int .i64 R, .int .i64 C, .int .u64 (z : Int), .int .u64 (o : Int)] 62) (b := .cells #[.int .i64 (r : Int), .int .i64 (c : Int)] 34)
  have BH : Hid (BHolds W0 w.heap.size R C z o) := bh_on e0 hb0
  have HB0 : Hid (Below w.heap.size w W0) := hbx.trans (hb0.mono hbx.size)
  clear e0 e1 hb0 hbx
  go_wp2_with fail
  refine wp_region_below (fun | 0 => .int .u64 (p : Int) | 1 => .pointer (some ⟨w.heap.size, 2, none⟩) | 2 => .pointer (some ⟨w.heap.size, 3, none⟩) | 3 => .int .u64 (o : Int) | 4 => .int .u64 (po : Int) | 5 => .int .i64 (so : Int) | 6 => .int .u64 (p : Int) | 7 => .pointer (some ⟨w.heap.size, 2, none⟩) | 8 => .pointer (some ⟨w.heap.size, 2, none⟩) | 9 => .int .u64 (z : Int) | 10 => .int .u64 (pz : Int) | 11 => .int .i64 (sz : Int) | 12 => .int .i64 ((so : Int) - (sz : Int)) | 13 => .int .i64 ((so : Int) - (sz : Int)) | _ => undef) (by kernel_rfl) (by kernel_rfl) rfl ?con ?en
  case con =>
    intro i o ho a w2 hb2 hf
    match i, ho with
    | 0, ho =>
      obtain rfl := Option.some.inj ho
      have b5 : a.tmps[5]?.getD undef = .int .u64 (p : Int) := hf.2 5 (by kernel_rfl)
      exact wp_value (.int .u64 (p : Int)) (by unfold execOp; go_simp) ⟨rfl, Below.refl _ _⟩
    | 1, ho =>
      obtain rfl := Option.some.inj ho
      have b2 : a.tmps[2]?.getD undef = .pointer (some ⟨w.heap.size, 0, none⟩) := hf.2 2 (by kernel_rfl)
      exact wp_value (.pointer (some ⟨w.heap.size, 2, none⟩)) (by unfold execOp; go_simp) ⟨rfl, Below.refl _ _⟩
    | 2, ho =>
      obtain rfl := Option.some.inj ho
      have e9 : a.tmps[9]?.getD undef = .pointer (some ⟨w.heap.size, 2, none⟩) := hf.1 ⟨1, .data⟩ (by simp) rfl _ 9 rfl rfl
      exact wp_value (.pointer (some ⟨w.heap.size, 3, none⟩)) (by unfold execOp; go_simp) ⟨rfl, Below.refl _ _⟩
    | 3, ho =>
      obtain rfl := Option.some.inj ho
      have e10 : a.tmps[10]?.getD undef = .pointer (some ⟨w.heap.size, 3, none⟩) := hf.1 ⟨2, .data⟩ (by simp) rfl _ 10 rfl rfl
      obtain ⟨q0, q1, q2, q3⟩ := bh_c (bh_on BH.out hb2)
      exact wp_value (.int .u64 (o : Int)) (by unfold execOp; go_simp) ⟨rfl, Below.refl _ _⟩
    | 4, ho =>
      obtain rfl := Option.some.inj ho
      have e8 : a.tmps[8]?.getD undef = .int .u64 (p : Int) := hf.1 ⟨0, .data⟩ (by simp) rfl _ 8 rfl rfl
      have e11 : a.tmps[11]?.getD undef = .int .u64 (o : Int) := hf.1 ⟨3, .data⟩ (by simp) rfl _ 11 rfl rfl
      exact wp_value (.int .u64 (po : Int)) (by unfold execOp; go_simp; exact HPO.out) ⟨rfl, Below.refl _ _⟩
    | 5, ho =>
      obtain rfl := Option.some.inj ho
      have e12 : a.tmps[12]?.getD undef = .int .u64 (po : Int) := hf.1 ⟨4, .data⟩ (by simp) rfl _ 12 rfl rfl
      exact wp_enter 38 #[.int .u64 (po : Int)] (.int .i64 (so : Int)) _ (by unfold execOp; go_simp) (below_same HSO.out w2) (fun w' h => ⟨rfl, h⟩)
    | 6, ho =>
      obtain rfl := Option.some.inj ho
      have b5 : a.tmps[5]?.getD undef = .int .u64 (p : Int) := hf.2 5 (by kernel_rfl)
      exact wp_value (.int .u64 (p : Int)) (by unfold execOp; go_simp) ⟨rfl, Below.refl _ _⟩
    | 7, ho =>
      obtain rfl := Option.some.inj ho
      have b2 : a.tmps[2]?.getD undef = .pointer (some ⟨w.heap.size, 0, none⟩) := hf.2 2 (by kernel_rfl)
      exact wp_value (.pointer (some ⟨w.heap.size, 2, none⟩)) (by unfold execOp; go_simp) ⟨rfl, Below.refl _ _⟩
    | 8, ho =>
      obtain rfl := Option.some.inj ho
      have e15 : a.tmps[15]?.getD undef = .pointer (some ⟨w.heap.size, 2, none⟩) := hf.1 ⟨7, .data⟩ (by simp) rfl _ 15 rfl rfl
      exact wp_value (.pointer (some ⟨w.heap.size, 2, none⟩)) (by unfold execOp; go_simp) ⟨rfl, Below.refl _ _⟩
    | 9, ho =>
      obtain rfl := Option.some.inj ho
      have e16 : a.tmps[16]?.getD undef = .pointer (some ⟨w.heap.size, 2, none⟩) := hf.1 ⟨8, .data⟩ (by simp) rfl _ 16 rfl rfl
      obtain ⟨q0, q1, q2, q3⟩ := bh_c (bh_on BH.out hb2)
      exact wp_value (.int .u64 (z : Int)) (by unfold execOp; go_simp) ⟨rfl, Below.refl _ _⟩
    | 10, ho =>
      obtain rfl := Option.some.inj ho
      have e14 : a.tmps[14]?.getD undef = .int .u64 (p : Int) := hf.1 ⟨6, .data⟩ (by simp) rfl _ 14 rfl rfl
      have e17 : a.tmps[17]?.getD undef = .int .u64 (z : Int) := hf.1 ⟨9, .data⟩ (by simp) rfl _ 17 rfl rfl
      exact wp_value (.int .u64 (pz : Int)) (by unfold execOp; go_simp; exact HPZ.out) ⟨rfl, Below.refl _ _⟩
    | 11, ho =>
      obtain rfl := Option.some.inj ho
      have e18 : a.tmps[18]?.getD undef = .int .u64 (pz : Int) := hf.1 ⟨10, .data⟩ (by simp) rfl _ 18 rfl rfl
      exact wp_enter 38 #[.int .u64 (pz : Int)] (.int .i64 (sz : Int)) _ (by unfold execOp; go_simp) (below_same HSZ.out w2) (fun w' h => ⟨rfl, h⟩)
    | 12, ho =>
      obtain rfl := Option.some.inj ho
      have e13 : a.tmps[13]?.getD undef = .int .i64 (so : Int) := hf.1 ⟨5, .data⟩ (by simp) rfl _ 13 rfl rfl
      have e19 : a.tmps[19]?.getD undef = .int .i64 (sz : Int) := hf.1 ⟨11, .data⟩ (by simp) rfl _ 19 rfl rfl
      exact wp_value (.int .i64 ((so : Int) - (sz : Int))) (by unfold execOp; go_simp; rw [IntKind.wrap_i64]; omega) ⟨rfl, Below.refl _ _⟩
    | 13, ho =>
      obtain rfl := Option.some.inj ho
      have e20 : a.tmps[20]?.getD undef = .int .i64 ((so : Int) - (sz : Int)) := hf.1 ⟨12, .data⟩ (by simp) rfl _ 20 rfl rfl
      exact wp_value (.int .i64 ((so : Int) - (sz : Int))) (by unfold execOp; go_simp) ⟨rfl, Below.refl _ _⟩
    | q + 14, ho => simp at ho
  case en =>
    intro w2 hb2
    have HB2 := Lib.hid (rstep HB0.out hb2)
    clear hb2
    simp only [fill, Act.put]
    go_simp
    go_wp2_with fail
    go_ret
    exact ⟨rfl, HB2.out⟩

set_option maxHeartbeats 2000000 in
theorem impl_col_no (R C : Nat) (hR : R ≤ 8) (hC : C ≤ 8) (z o : Nat) (rr cc : Int) (s : ByteArray) (r c : Int) (hg : ∀ W : World, Calls Tryz.prog 35 #[mat rr cc s] W fun e w' => e = .returned (brd R C z o) ∧ Below W.heap.size W w') (h : rvB R C r c = false) (w : World) :
    Calls Tryz.prog 17 #[mat rr cc s, rect r c] w fun e w' => e = .returned (.int .i64 (-2)) ∧ Below w.heap.size w w' := by
  have HG := Lib.hid hg
  have HH := Lib.hid (fun W => hasRect_any R C hR hC z o r c W)
  rw [h] at HH
  clear hg h
  go_enter Tryz.func17, Tryz.ntmps17
  go_wp2_with fail
  refine (HG.out _).mono ?_
  rintro e w1 ⟨rfl, hb1⟩
  obtain ⟨m0, t0, hbel⟩ := boxes hb1
  have e0 : BHolds (w1.alloc (.cells #[.int .i64 (R : Int), .int .i64 (C : Int), .int .u64 (z : Int), .int .u64 (o : Int)] 62)) w1.heap.size R C z o := heap_alloc_new w1 _
  have e1 : THolds (w1.alloc (.cells #[.int .i64 (R : Int), .int .i64 (C : Int), .int .u64 (z : Int), .int .u64 (o : Int)] 62)) (w.heap.size + 1) 34 r c := (Below.heap_alloc _ _ _ (Array.getElem?_eq_some_iff.1 t0).1).trans t0
  have hbA := bstepA hbel (.cells #[.int .i64 (R : Int), .int .i64 (C : Int), .int .u64 (z : Int), .int .u64 (o : Int)] 62)
  obtain ⟨q0, q1, q2, q3⟩ := bh_c e0
  obtain ⟨p0, p1⟩ := th_c e1
  have BH := Lib.hid e0
  have TH := Lib.hid e1
  have HB := Lib.hid hbA
  clear hb1 m0 t0 hbel e0 e1 hbA
  go_wp2_with fail
  refine (HH.out _).mono ?_
  rintro e w2 ⟨rfl, hb2⟩
  have HB2 := Lib.hid (rstep HB.out hb2)
  clear hb2
  go_wp2_with fail
  go_ret
  exact ⟨rfl, HB2.out⟩

set_option maxHeartbeats 2000000 in
theorem impl_col_yes (R C : Nat) (hR : R ≤ 8) (hC : C ≤ 8) (z o : Nat) (hz : z < 18446744073709551616) (ho : o < 18446744073709551616) (rr cc : Int) (s : ByteArray) (RS CS : Nat) (hRS : RS < 256) (hCS : CS < 256)
    (hg : ∀ W : World, Calls Tryz.prog 35 #[mat rr cc s] W fun e w' => e = .returned (brd R C z o) ∧ Below W.heap.size W w') (h : rvB R C RS CS = true) (b0 b1 : Bool)
    (h0 : decide (pat (rectB RS CS) 8 &&& (18446744073709551615 - z) = 0) = b0) (h1 : decide (pat (rectB RS CS) 8 &&& (18446744073709551615 - o) = 0) = b1) (w : World) :
    Calls Tryz.prog 17 #[mat rr cc s, rect RS CS] w fun e w' => e = .returned (.int .i64 (if b0 = true then 0 else if b1 = true then 1 else -1)) ∧ Below w.heap.size w w' := by
  have HG := Lib.hid hg
  have HH := Lib.hid (fun W => hasRect_any R C hR hC z o RS CS W)
  rw [h] at HH
  have HP0 := Lib.hid (fun W => plain0 R C z o hz ho RS CS hRS hCS W)
  have HP1 := Lib.hid (fun W => plain1 R C z o hz ho RS CS hRS hCS W)
  rw [h0] at HP0
  rw [h1] at HP1
  clear hg h h0 h1
  go_enter Tryz.func17, Tryz.ntmps17
  go_wp2_with fail
  refine (HG.out _).mono ?_
  rintro e w1 ⟨rfl, hb1⟩
  obtain ⟨m0, t0, hbel⟩ := boxes hb1
  have e0 : BHolds (w1.alloc (.cells #[.int .i64 (R : Int), .int .i64 (C : Int), .int .u64 (z : Int), .int .u64 (o : Int)] 62)) w1.heap.size R C z o := heap_alloc_new w1 _
  have e1 : THolds (w1.alloc (.cells #[.int .i64 (R : Int), .int .i64 (C : Int), .int .u64 (z : Int), .int .u64 (o : Int)] 62)) (w.heap.size + 1) 34 (RS : Int) (CS : Int) := (Below.heap_alloc _ _ _ (Array.getElem?_eq_some_iff.1 t0).1).trans t0
  have hbA := bstepA hbel (.cells #[.int .i64 (R : Int), .int .i64 (C : Int), .int .u64 (z : Int), .int .u64 (o : Int)] 62)
  obtain ⟨q0, q1, q2, q3⟩ := bh_c e0
  obtain ⟨p0, p1⟩ := th_c e1
  have BH := Lib.hid e0
  have TH := Lib.hid e1
  have HB := Lib.hid hbA
  clear hb1 m0 t0 hbel e0 e1 hbA
  go_wp2_with fail
  refine (HH.out _).mono ?_
  rintro e w2 ⟨rfl, hb2⟩
  have BH2 := Lib.hid (bh_on BH.out hb2)
  have TH2 := Lib.hid (th_on TH.out hb2)
  have HB2 := Lib.hid (rstep HB.out hb2)
  clear hb2 BH TH HB q0 q1 q2 q3 p0 p1
  go_wp2_with fail
  go_loopw [13] (fun i wr => ∃ k : Nat, k ≤ 2 ∧ i = .int .i64 (k : Int) ∧ (1 ≤ k → b0 = false) ∧ (2 ≤ k → b1 = false) ∧ BHolds wr w1.heap.size R C z o ∧ THolds wr (w.heap.size + 1) 34 (RS : Int) (CS : Int) ∧ Below w.heap.size w wr) (fun i _ => 2 - (intOf i).toNat)
  case atStart => exact ⟨0, Nat.zero_le _, rfl, fun h => absurd h (by omega), fun h => absurd h (by omega), BH2.out, TH2.out, HB2.out⟩
  case round =>
    obtain ⟨k, hk, rfl, hk0, hk1, hbh, hth, hbl⟩ := hrel
    obtain ⟨q0, q1, q2, q3⟩ := bh_c hbh
    obtain ⟨p0, p1⟩ := th_c hth
    have BH := Lib.hid hbh
    have TH := Lib.hid hth
    have HB := Lib.hid hbl
    clear hbh hth hbl BH2 TH2 HB2
    obtain rfl | rfl | rfl : k = 0 ∨ k = 1 ∨ k = 2 := by omega
    · clear hk0 hk1
      go_wp2_with fail
      refine (HP0.out _).mono ?_
      rintro e w3 ⟨rfl, hb3⟩
      have BH3 := Lib.hid (bh_on BH.out hb3)
      have TH3 := Lib.hid (th_on TH.out hb3)
      have HB3 := Lib.hid (rstep HB.out hb3)
      clear hb3
      cases b0
      · go_wp2_with fail
        go_roundw
        case rel => exact ⟨1, by omega, by go_num, (fun _ => by trivial), fun h => absurd h (by omega), BH3.out, TH3.out, HB3.out⟩
        case measure => simp [intOf]
      · go_wp2_with fail
        go_ret
        exact ⟨rfl, HB3.out⟩
    · obtain rfl := hk0 (by omega)
      clear hk0 hk1
      go_wp2_with fail
      refine (HP1.out _).mono ?_
      rintro e w3 ⟨rfl, hb3⟩
      have BH3 := Lib.hid (bh_on BH.out hb3)
      have TH3 := Lib.hid (th_on TH.out hb3)
      have HB3 := Lib.hid (rstep HB.out hb3)
      clear hb3
      cases b1
      · go_wp2_with fail
        go_roundw
        case rel => exact ⟨2, by omega, by go_num, (fun _ => by trivial), (fun _ => by trivial), BH3.out, TH3.out, HB3.out⟩
        case measure => simp [intOf]
      · go_wp2_with fail
        go_ret
        exact ⟨rfl, HB3.out⟩
    · obtain rfl := hk0 (by omega)
      obtain rfl := hk1 (by omega)
      clear hk0 hk1
      go_wp2_with fail
      go_ret
      exact ⟨rfl, HB.out⟩

set_option maxHeartbeats 2000000 in
theorem impl_balOf_no (R C : Nat) (hR : R ≤ 8) (hC : C ≤ 8) (z o : Nat) (rr cc : Int) (s : ByteArray) (r c : Int) (hg : ∀ W : World, Calls Tryz.prog 35 #[mat rr cc s] W fun e w' => e = .returned (brd R C z o) ∧ Below W.heap.size W w') (h : rvB R C r c = false) (w : World) :
    Calls Tryz.prog 24 #[mat rr cc s, rect r c] w fun e w' => e = .returned (.tuple #[.int .i64 0, .bool false]) ∧ Below w.heap.size w w' := by
  have HG := Lib.hid hg
  have HH := Lib.hid (fun W => hasRect_any R C hR hC z o r c W)
  rw [h] at HH
  clear hg h
  go_enter Tryz.func24, Tryz.ntmps24
  go_wp2_with fail
  refine (HG.out _).mono ?_
  rintro e w1 ⟨rfl, hb1⟩
  obtain ⟨m0, t0, hbel⟩ := boxes hb1
  have e0 : BHolds (w1.alloc (.cells #[.int .i64 (R : Int), .int .i64 (C : Int), .int .u64 (z : Int), .int .u64 (o : Int)] 62)) w1.heap.size R C z o := heap_alloc_new w1 _
  have e1 : THolds (w1.alloc (.cells #[.int .i64 (R : Int), .int .i64 (C : Int), .int .u64 (z : Int), .int .u64 (o : Int)] 62)) (w.heap.size + 1) 34 r c := (Below.heap_alloc _ _ _ (Array.getElem?_eq_some_iff.1 t0).1).trans t0
  have hbA := bstepA hbel (.cells #[.int .i64 (R : Int), .int .i64 (C : Int), .int .u64 (z : Int), .int .u64 (o : Int)] 62)
  obtain ⟨q0, q1, q2, q3⟩ := bh_c e0
  obtain ⟨p0, p1⟩ := th_c e1
  have BH := Lib.hid e0
  have TH := Lib.hid e1
  have HB := Lib.hid hbA
  clear hb1 m0 t0 hbel e0 e1 hbA
  go_wp2_with fail
  refine (HH.out _).mono ?_
  rintro e w2 ⟨rfl, hb2⟩
  have HB2 := Lib.hid (rstep HB.out hb2)
  clear hb2
  go_wp2_with fail
  go_ret2
  exact ⟨rfl, HB2.out⟩
set_option maxHeartbeats 2000000 in
theorem impl_balOf_yes (R C : Nat) (hR : R ≤ 8) (hC : C ≤ 8) (z o : Nat) (rr cc : Int) (s : ByteArray) (r c : Int) (v : Int) (hg : ∀ W : World, Calls Tryz.prog 35 #[mat rr cc s] W fun e w' => e = .returned (brd R C z o) ∧ Below W.heap.size W w') (h : rvB R C r c = true)
    (hv : ∀ W : World, Calls Tryz.prog 61 #[brd R C z o, rect r c] W fun e w' => e = .returned (.int .i64 v) ∧ Below W.heap.size W w') (w : World) :
    Calls Tryz.prog 24 #[mat rr cc s, rect r c] w fun e w' => e = .returned (.tuple #[.int .i64 v, .bool true]) ∧ Below w.heap.size w w' := by
  have HG := Lib.hid hg
  have HH := Lib.hid (fun W => hasRect_any R C hR hC z o r c W)
  rw [h] at HH
  have HV := Lib.hid hv
  clear hg h hv
  go_enter Tryz.func24, Tryz.ntmps24
  go_wp2_with fail
  refine (HG.out _).mono ?_
  rintro e w1 ⟨rfl, hb1⟩
  obtain ⟨m0, t0, hbel⟩ := boxes hb1
  have e0 : BHolds (w1.alloc (.cells #[.int .i64 (R : Int), .int .i64 (C : Int), .int .u64 (z : Int), .int .u64 (o : Int)] 62)) w1.heap.size R C z o := heap_alloc_new w1 _
  have e1 : THolds (w1.alloc (.cells #[.int .i64 (R : Int), .int .i64 (C : Int), .int .u64 (z : Int), .int .u64 (o : Int)] 62)) (w.heap.size + 1) 34 r c := (Below.heap_alloc _ _ _ (Array.getElem?_eq_some_iff.1 t0).1).trans t0
  have hbA := bstepA hbel (.cells #[.int .i64 (R : Int), .int .i64 (C : Int), .int .u64 (z : Int), .int .u64 (o : Int)] 62)
  obtain ⟨q0, q1, q2, q3⟩ := bh_c e0
  obtain ⟨p0, p1⟩ := th_c e1
  have BH := Lib.hid e0
  have TH := Lib.hid e1
  have HB := Lib.hid hbA
  clear hb1 m0 t0 hbel e0 e1 hbA
  go_wp2_with fail
  refine (HH.out _).mono ?_
  rintro e w2 ⟨rfl, hb2⟩
  obtain ⟨q0, q1, q2, q3⟩ := bh_c (bh_on BH.out hb2)
  obtain ⟨p0, p1⟩ := th_c (th_on TH.out hb2)
  have HB2 := Lib.hid (rstep HB.out hb2)
  clear hb2 BH TH HB
  go_wp2_with fail
  refine (HV.out _).mono ?_
  rintro e w3 ⟨rfl, hb3⟩
  have HB3 := Lib.hid (rstep HB2.out hb3)
  clear hb3
  go_wp2_with fail
  go_ret2
  exact ⟨rfl, HB3.out⟩
end Go.Proofs.YtgmhddceeomjbaaGreatDoor.Colour

/-
  The reference's l1Turn.
-/
namespace Go.Proofs.YtgmhddceeomjbaaGreatDoor.Turn1
open Go.RowKit Go.Proofs.YtgmhddceeomjbaaGreatDoor.Plain Go.Proofs.YtgmhddceeomjbaaGreatDoor.Base Go.Proofs.YtgmhddceeomjbaaGreatDoor.Valid Go.Proofs.YtgmhddceeomjbaaGreatDoor.Law Go.Proofs.YtgmhddceeomjbaaGreatDoor.GridPlain Go.Proofs.YtgmhddceeomjbaaGreatDoor.Grid Go.Proofs.YtgmhddceeomjbaaGreatDoor.Entry
set_option linter.unusedVariables false

theorem two_blocks {w w1 : World} {o1 o2 : Obj} (hb : Below ((w.alloc o1).alloc o2).heap.size ((w.alloc o1).alloc o2) w1) :
    w1.heap[w.heap.size + 1]? = some o2 ∧ Below w.heap.size w w1 ∧ w.heap.size + 2 ≤ w1.heap.size := by
  have hs : ((w.alloc o1).alloc o2).heap.size = w.heap.size + 2 := by simp
  have h2 : ((w.alloc o1).alloc o2).heap[w.heap.size + 1]? = some o2 := by
    have := heap_alloc_new (w.alloc o1) o2
    rwa [World.size_alloc] at this
  exact ⟨(hb.block _ (by omega)).trans h2, (((Below.refl w.heap.size w).alloc (Nat.le_refl _) _).alloc (by simp) _).trans (hb.mono (by omega)), by have := hb.size; omega⟩
theorem two_blocks' {w w1 : World} {o1 o2 : Obj} (hb : Below ((w.alloc o1).alloc o2).heap.size ((w.alloc o1).alloc o2) w1) :
    w1.heap[w.heap.size]? = some o1 ∧ w1.heap[w.heap.size + 1]? = some o2 ∧ Below w.heap.size w w1 ∧ w.heap.size + 2 ≤ w1.heap.size := by
  obtain ⟨h1, h2, h3⟩ := two_blocks hb
  refine ⟨(hb.block _ (by simp; omega)).trans ?_, h1, h2, h3⟩
  rw [Below.heap_alloc _ _ _ (by simp)]
  exact heap_alloc_new w o1
theorem cells3 {w : World} {g : Nat} {T : TypeId} {a b c : Value} (h : w.heap[g]? = some (.cells #[a, b, c] T (0, 0))) :
    w.cell? ⟨g, 0, none⟩ = some a ∧ w.cell? ⟨g, 1, none⟩ = some b ∧ w.cell? ⟨g, 2, none⟩ = some c :=
  ⟨cell_of_row _ _ 0 _ _ _ h, cell_of_row _ _ 1 _ _ _ h, cell_of_row _ _ 2 _ _ _ h⟩
theorem free3 {w : World} {g : Nat} {T : TypeId} {a b c : Value} (h : w.heap[g]? = some (.cells #[a, b, c] T (0, 0))) :
    w.frozen? ⟨g, 0, none⟩ = false ∧ w.frozen? ⟨g, 1, none⟩ = false ∧ w.frozen? ⟨g, 2, none⟩ = false :=
  ⟨frozen_of_row _ _ 0 _ _ h, frozen_of_row _ _ 1 _ _ h, frozen_of_row _ _ 2 _ _ h⟩
/-- what holds while l1Turn runs: out has these bytes -/
def TInv (w wr : World) (r c : Nat) (s t : ByteArray) : Prop :=
  wr.heap[w.heap.size]? = some (.cells #[.int .i64 (r : Int), .int .i64 (c : Int), .string s] 27 (0, 0)) ∧ wr.heap[w.heap.size + 1]? = some (.cells #[.int .i64 0, .int .i64 0, .string ⟨#[]⟩] 27 (0, 0)) ∧
    wr.heap[w.heap.size + 2]? = some (.cells #[.int .i64 (c : Int), .int .i64 (r : Int), .string t] 27 (0, 0)) ∧ Below w.heap.size w wr ∧ w.heap.size + 3 ≤ wr.heap.size
theorem TInv.cells {w wr : World} {r c : Nat} {s t : ByteArray} (h : TInv w wr r c s t) :
    wr.cell? ⟨w.heap.size, 0, none⟩ = some (.int .i64 (r : Int)) ∧ wr.cell? ⟨w.heap.size, 1, none⟩ = some (.int .i64 (c : Int)) ∧ wr.cell? ⟨w.heap.size, 2, none⟩ = some (.string s) ∧
    wr.cell? ⟨w.heap.size + 1 + 1, 0, none⟩ = some (.int .i64 (c : Int)) ∧ wr.cell? ⟨w.heap.size + 1 + 1, 1, none⟩ = some (.int .i64 (r : Int)) ∧ wr.cell? ⟨w.heap.size + 1 + 1, 2, none⟩ = some (.string t) ∧
    wr.frozen? ⟨w.heap.size + 1 + 1, 2, none⟩ = false :=
  ⟨cell_of_row _ _ 0 _ _ _ h.1, cell_of_row _ _ 1 _ _ _ h.1, cell_of_row _ _ 2 _ _ _ h.1, cell_of_row _ _ 0 _ _ _ h.2.2.1, cell_of_row _ _ 1 _ _ _ h.2.2.1, cell_of_row _ _ 2 _ _ _ h.2.2.1, frozen_of_row _ _ 2 _ _ h.2.2.1⟩
theorem TInv.res {w wr : World} {r c : Nat} {s t : ByteArray} (h : TInv w wr r c s t) :
    wr.cell? ⟨w.heap.size + 1, 0, none⟩ = some (.int .i64 0) ∧ wr.cell? ⟨w.heap.size + 1, 1, none⟩ = some (.int .i64 0) ∧ wr.cell? ⟨w.heap.size + 1, 2, none⟩ = some (.string ⟨#[]⟩) ∧
    wr.frozen? ⟨w.heap.size + 1, 0, none⟩ = false ∧ wr.frozen? ⟨w.heap.size + 1, 1, none⟩ = false ∧ wr.frozen? ⟨w.heap.size + 1, 2, none⟩ = false :=
  ⟨cell_of_row _ _ 0 _ _ _ h.2.1, cell_of_row _ _ 1 _ _ _ h.2.1, cell_of_row _ _ 2 _ _ _ h.2.1, frozen_of_row _ _ 0 _ _ h.2.1, frozen_of_row _ _ 1 _ _ h.2.1, frozen_of_row _ _ 2 _ _ h.2.1⟩
theorem TInv.later {w wr w2 : World} {r c : Nat} {s t : ByteArray} (h : TInv w wr r c s t) (hb : Below wr.heap.size wr w2) : TInv w w2 r c s t := by
  obtain ⟨h0, h1, h2, h3, h4⟩ := h
  exact ⟨(hb.block _ (by omega)).trans h0, (hb.block _ (by omega)).trans h1, (hb.block _ (by omega)).trans h2, bstep h3 hb, Nat.le_trans h4 hb.size⟩
theorem TInv.drew {w wr : World} {r c : Nat} {s t : ByteArray} (h : TInv w wr r c s t) (n : Nat) : TInv w (wr.drewN n) r c s t :=
  ⟨h.1, h.2.1, h.2.2.1, ⟨h.2.2.2.1.os, h.2.2.2.1.tape, h.2.2.2.1.output, h.2.2.2.1.size, h.2.2.2.1.block⟩, h.2.2.2.2⟩
theorem TInv.set_ {w wr : World} {r c : Nat} {s t : ByteArray} (h : TInv w wr r c s t) (u : ByteArray) : TInv w (wr.setCell ⟨w.heap.size + 1 + 1, 2, none⟩ (.string u)) r c s u := by
  obtain ⟨h0, h1, h2, h3, h4⟩ := h
  exact ⟨(heap_setCell_other _ _ _ _ (by simp; omega)).trans h0, (heap_setCell_other _ _ _ _ (by simp)).trans h1, (heap_setCell_same _ _ _ _ _ _ h2).trans rfl, h3.setCell (by simp; omega) _, by simpa using h4⟩

set_option maxHeartbeats 4000000 in
theorem turn_spec1 (E : Nat → Nat → Bool) (r c : Nat) (hr : 1 ≤ r) (hr8 : r ≤ 8) (hc : 1 ≤ c) (hc8 : c ≤ 8) (w : World) :
    Calls Tryz.prog 118 #[mat r c (str (rowsB E r c))] w fun e w' => e = .returned (mat c r (str (rowsB (fun x y => E y x) c r))) ∧ Below w.heap.size w w' := by
  have HAT : Hid (∀ x y : Nat, x < r → y < c → ∀ W : World, Calls Tryz.prog 78 #[mat r c (str (rowsB E r c)), .int .i64 (x : Int), .int .i64 (y : Int)] W fun e w' => e = .returned (.bool (E x y)) ∧ Below W.heap.size W w') :=
    fun x y hx hy W => at_any E r c hr8 hc8 x y hx hy W
  generalize str (rowsB E r c) = s at *
  go_enter Tryz.func118, Tryz.ntmps118
  go_wp2_with fail
  have HI : Hid (TInv w (((w.alloc (.cells #[.int .i64 (r : Int), .int .i64 (c : Int), .string s] 27)).alloc (.cells #[.int .i64 0, .int .i64 0, .string ⟨#[]⟩] 27)).alloc (.cells #[.int .i64 (c : Int), .int .i64 (r : Int), .string ⟨#[]⟩] 27)) r c s ⟨#[]⟩) :=
    blocks3 (Below.refl _ _)
  go_loopw [4] (fun y wr => ∃ (k : Nat) (t : ByteArray), k ≤ c ∧ y = .int .i64 (k : Int) ∧ Hid (t = str (rowsB (fun x y => E y x) k r)) ∧ TInv w wr r c s t) (fun y _ => c - (intOf y).toNat)
  case atStart => exact ⟨0, _, Nat.zero_le _, rfl, rfl, HI.out⟩
  case round =>
    obtain ⟨k, t, hk, rfl, ht, hinv⟩ := hrel
    clear HI
    have HI := Lib.hid hinv
    obtain ⟨m0, m1, m2, o0, o1, o2, fo⟩ := hinv.cells
    obtain ⟨e0, e1, e2, g0, g1, g2⟩ := hinv.res
    clear hinv
    by_cases hlt : k < c
    · clear e0 e1 e2 g0 g1 g2
      go_wp2_with fail
      go_loopw [5] (fun x wr => ∃ (j : Nat) (t : ByteArray), j ≤ r ∧ x = .int .i64 (j : Int) ∧ Hid (t = str (rowsB (fun x y => E y x) k r ++ rowB (fun x y => E y x) k j)) ∧ TInv w wr r c s t) (fun x _ => r - (intOf x).toNat)
      case atStart => exact ⟨0, _, Nat.zero_le _, rfl, by rw [ht.out]; exact part_start _ _ _, HI.out⟩
      case round =>
        clear HI m0 m1 m2 o0 o1 o2 fo
        obtain ⟨j, t', hj, rfl, ht', hinv⟩ := hrel
        have HI := Lib.hid hinv
        obtain ⟨m0, m1, m2, o0, o1, o2, fo⟩ := hinv.cells
        clear hinv
        by_cases hlt' : j < r
        · go_wp2_with fail
          have htz : t'.size + 1 ≤ 9223372036854775807 := by
            have := part_size (fun x y => E y x) hc8 hr8 hlt hlt'
            rw [ht'.out]
            omega
          obtain ⟨b, hb⟩ : ∃ b : Bool, E j k = b := ⟨_, rfl⟩
          have hcat := fun W => run_string_add_sum (P := Tryz.prog) (w := W) t' ⟨#[dig b]⟩ htz
          have HC := Lib.hid (HAT.out j k hlt' hlt)
          rw [hb] at HC
          have HB := Lib.hid hb
          clear htz hb
          go_region_with (first | (go_at_call 78; refine (HC.out _).mono ?_; rintro e w2 ⟨rfl, hb2⟩; have HI2 := Lib.hid ((HI.out.drew 1).later hb2); obtain ⟨n0, n1, n2, p0, p1, p2, fp⟩ := HI2.out.cells; clear hb2) | (go_at_call 113; refine (l1Bit_any b _).mono ?_; rintro e w' ⟨rfl, rfl⟩))
          all_goals go_wp2_with fail
          all_goals
            go_roundw
            case rel => exact ⟨j + 1, _, by omega, by go_num, by rw [ht'.out, ← HB.out]; exact part_next (fun x y => E y x) k j r, HI2.out.set_ _⟩
            case measure => simp [intOf]; omega
        · obtain rfl : j = r := by omega
          go_wp2_with fail
          go_roundw
          case rel => exact ⟨k + 1, t', by omega, by go_num, by rw [ht'.out]; exact part_done _ _ _, HI.out⟩
          case measure => simp [intOf]; omega
    · obtain rfl : k = c := by omega
      go_wp2_with fail
      refine bodyPost_ret (v := mat k r t) (by simp [results, Tryz.results118, go_sem, e0, e1, e2]) rfl ⟨by rw [ht.out], ?_⟩
      exact ((HI.out.2.2.2.1.setCell (by simp) _).setCell (by simp) _).setCell (by simp) _
end Go.Proofs.YtgmhddceeomjbaaGreatDoor.Turn1

