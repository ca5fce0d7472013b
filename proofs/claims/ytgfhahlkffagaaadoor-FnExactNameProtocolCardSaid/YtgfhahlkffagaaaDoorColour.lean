/-
  The reference's l2Balance and l2Colour; ColourOf and BalanceOf.
-/
import Derived.Test.YtgfhahlkffagaaaDoorRValid
import Derived.Test.YtgfhahlkffagaaaDoorArea
import Derived.Test.YtgfhahlkffagaaaDoorBal
namespace Go.Proofs.YtgfhahlkffagaaaDoor.Colour
open Go.RowKit Go.Proofs.YtgfhahlkffagaaaDoor.Plain Go.Proofs.YtgfhahlkffagaaaDoor.Base Go.Proofs.YtgfhahlkffagaaaDoor.Valid Go.Proofs.YtgfhahlkffagaaaDoor.Law Go.Proofs.YtgfhahlkffagaaaDoor.GridPlain Go.Proofs.YtgfhahlkffagaaaDoor.Grid Go.Proofs.YtgfhahlkffagaaaDoor.Entry Go.Proofs.YtgfhahlkffagaaaDoor.Pat Go.Proofs.YtgfhahlkffagaaaDoor.Rect Go.Proofs.YtgfhahlkffagaaaDoor.Patch Go.Proofs.YtgfhahlkffagaaaDoor.FreeL Go.Proofs.YtgfhahlkffagaaaDoor.Board Go.Proofs.YtgfhahlkffagaaaDoor.BoardM Go.Proofs.YtgfhahlkffagaaaDoor.RValid Go.Proofs.YtgfhahlkffagaaaDoor.Area Go.Proofs.YtgfhahlkffagaaaDoor.Bal
open Go.Proofs.YtgfhahlkffagaaaDoor.Free (fill wp_value wp_enter wp_load_row freeB)
set_option linter.unusedVariables false

set_option maxHeartbeats 400000 in
theorem int_any (b : Bool) (w : World) :
    Calls Tryd.prog 38 #[.bool b] w fun e w' => e = .returned (.int .i64 (bitI b)) ∧ w = w' := by
  cases b
  all_goals
    go_enter Tryd.func38, Tryd.ntmps38
    go_wp2
    go_ret
    exact ⟨rfl, rfl⟩

/-- what the loops keep -/
structure CInv (w wr : World) (R C : Nat) (s : ByteArray) (RS CS : Nat) : Prop where
  m : MHolds wr w.heap.size 27 R C s
  t : THolds wr (w.heap.size + 1) 60 RS CS
  below : Below w.heap.size w wr
theorem CInv.later {w wr w2 : World} {R C : Nat} {s : ByteArray} {RS CS : Nat} (h : CInv w wr R C s RS CS) (hb : Below wr.heap.size wr w2) : CInv w w2 R C s RS CS := ⟨mh_on h.m hb, th_on h.t hb, rstep h.below hb⟩

set_option maxHeartbeats 2000000 in
theorem spec_bal (E : Nat → Nat → Bool) (R C : Nat) (hR1 : 1 ≤ R) (hR : R ≤ 8) (hC1 : 1 ≤ C) (hC : C ≤ 8) (RS CS : Nat) (hRS : RS < 256) (hCS : CS < 256) (w : World) :
    Calls Tryd.prog 103 #[mat R C (str (rowsB E R C)), rect RS CS] w fun e w' => e = .returned (.int .i64 (bal E RS CS R C)) ∧ Below w.heap.size w w' := by
  have HAT := Lib.hid (fun x y hx hy W => at_any E R C hR hC x y hx hy W)
  generalize str (rowsB E R C) = s at *
  go_enter Tryd.func103, Tryd.ntmps103
  go_wp2_with fail
  obtain ⟨e0, e1, hb0⟩ := two_box (w := w) (a := .cells #[.int .i64 (R : Int), .int .i64 (C : Int), .string s] 27) (b := .cells #[.int .i64 (RS : Int), .int .i64 (CS : Int)] 60)
  generalize (w.alloc (.cells #[.int .i64 (R : Int), .int .i64 (C : Int), .string s] 27)).alloc (.cells #[.int .i64 (RS : Int), .int .i64 (CS : Int)] 60) = W0 at *
  have HI0 : Hid (CInv w W0 R C s RS CS) := ⟨e0, e1, hb0⟩
  clear e0 e1 hb0
  go_loopw [5, 6] (fun n x wr => ∃ (k : Nat) (v : Int), k ≤ R ∧ n = .int .i64 v ∧ v = balTo E RS CS C k 0 ∧ x = .int .i64 (k : Int) ∧ CInv w wr R C s RS CS) (fun _ x _ => R - (intOf x).toNat)
  case atStart => exact ⟨0, 0, Nat.zero_le _, rfl, (balTo_start E RS CS C).symm, rfl, HI0.out⟩
  case round =>
    obtain ⟨k, v, hk, rfl, hv, rfl, hinv⟩ := hrel
    clear HI0
    obtain ⟨q0, q1, q2⟩ := mh_c hinv.m
    by_cases hlt : k < R
    · have HV := Lib.hid hv
      have HI := Lib.hid hinv
      clear hv hinv
      go_wp2_with fail
      go_loopw [5, 7] (fun n y wr => ∃ (j : Nat) (v : Int), j ≤ C ∧ n = .int .i64 v ∧ v = balTo E RS CS C k j ∧ y = .int .i64 (j : Int) ∧ CInv w wr R C s RS CS) (fun _ y _ => C - (intOf y).toNat)
      case atStart => exact ⟨0, v, Nat.zero_le _, rfl, HV.out, rfl, HI.out⟩
      case round =>
        obtain ⟨j, v, hj, rfl, hv, rfl, hinv⟩ := hrel
        clear q0 q1 q2 HI HV
        obtain ⟨q0, q1, q2⟩ := mh_c hinv.m
        obtain ⟨p0, p1⟩ := th_c hinv.t
        by_cases hlt' : j < C
        · have hbd := balTo_bound E RS CS C k j hC (by omega) (by omega)
          rw [← hv] at hbd
          have k8 : k < 8 := by omega
          have j8 : j < 8 := by omega
          have HK := Lib.hid (fun W => l2In_any RS k hRS k8 W)
          have HJ := Lib.hid (fun W => l2In_any CS j hCS j8 W)
          have HA := Lib.hid (fun W => HAT.out k j hlt hlt' W)
          have HI := Lib.hid hinv
          clear hinv
          obtain ⟨b1, h1⟩ : ∃ b, RS.testBit k = b := ⟨_, rfl⟩
          obtain ⟨b2, h2⟩ : ∃ b, CS.testBit j = b := ⟨_, rfl⟩
          obtain ⟨b3, h3⟩ : ∃ b, E k j = b := ⟨_, rfl⟩
          rw [h1] at HK
          rw [h2] at HJ
          rw [h3] at HA
          cases b1
          · have HN : Hid (v = balTo E RS CS C k (j + 1)) := by
              unfold Hid
              rw [balTo_out E RS CS C k j (by rw [h1]; rfl)]
              exact hv
            clear hv h1 h2 h3
            go_wp2_with fail
            refine (HK.out _).mono ?_
            rintro e w' ⟨rfl, rfl⟩
            go_wp2_with fail
            go_roundw
            case rel => exact ⟨j + 1, v, by omega, rfl, HN.out, by go_num, HI.out⟩
            case measure => simp [intOf]; omega
          · cases b2
            · have HN : Hid (v = balTo E RS CS C k (j + 1)) := by
                unfold Hid
                rw [balTo_out E RS CS C k j (by rw [h1, h2]; rfl)]
                exact hv
              clear hv h1 h2 h3
              go_wp2_with fail
              refine (HK.out _).mono ?_
              rintro e w' ⟨rfl, rfl⟩
              go_wp2_with fail
              refine (HJ.out _).mono ?_
              rintro e w' ⟨rfl, rfl⟩
              go_wp2_with fail
              go_roundw
              case rel => exact ⟨j + 1, v, by omega, rfl, HN.out, by go_num, HI.out⟩
              case measure => simp [intOf]; omega
            · have HN : Hid (balTo E RS CS C k (j + 1) = v - 1 + 2 * bitI b3) := by
                unfold Hid
                rw [balTo_in E RS CS C k j h1 h2, h3, hv]
              clear hv h1 h2 h3
              go_wp2_with fail
              refine (HK.out _).mono ?_
              rintro e w' ⟨rfl, rfl⟩
              go_wp2_with fail
              refine (HJ.out _).mono ?_
              rintro e w' ⟨rfl, rfl⟩
              go_wp2_with fail
              refine (HA.out _).mono ?_
              rintro e w2 ⟨rfl, hb2⟩
              have HI2 := Lib.hid (HI.out.later hb2)
              clear hb2 q0 q1 q2 p0 p1
              go_wp2_with fail
              refine (int_any _ _).mono ?_
              rintro e w' ⟨rfl, rfl⟩
              cases b3
              · rw [bitI_false] at HN ⊢
                go_wp2_with fail
                go_roundw
                case rel => exact ⟨j + 1, v - 1, by omega, by go_num, by rw [HN.out]; omega, by go_num, HI2.out⟩
                case measure => simp [intOf]; omega
              · rw [bitI_true] at HN ⊢
                go_wp2_with fail
                go_roundw
                case rel => exact ⟨j + 1, v + 1, by omega, by go_num, by rw [HN.out]; omega, by go_num, HI2.out⟩
                case measure => simp [intOf]; omega
        · obtain rfl : j = C := by omega
          have HV := Lib.hid hv
          have HI := Lib.hid hinv
          clear hv hinv
          go_wp2_with fail
          go_roundw
          case rel => exact ⟨k + 1, v, by omega, rfl, by rw [← balTo_row]; exact HV.out, by go_num, HI.out⟩
          case measure => simp [intOf]; omega
    · obtain rfl : k = R := by omega
      have HV : Hid (v = bal E RS CS k C) := by rw [balTo_end] at hv; exact hv
      have HI := Lib.hid hinv
      clear hv hinv
      go_wp2_with fail
      go_ret
      exact ⟨by rw [← HV.out]; rfl, HI.out.below⟩

/-- what the reference calls the value of a rectangle -/
def colV (v a : Int) : Int := if v = a then 1 else if v = - a then 0 else -1

set_option maxHeartbeats 1000000 in
theorem spec_l2col (E : Nat → Nat → Bool) (R C : Nat) (hR1 : 1 ≤ R) (hR : R ≤ 8) (hC1 : 1 ≤ C) (hC : C ≤ 8) (RS CS : Nat) (hRS1 : 1 ≤ RS) (hRS : RS < 256) (hCS1 : 1 ≤ CS) (hCS : CS < 256) (w : World) :
    Calls Tryd.prog 77 #[mat R C (str (rowsB E R C)), rect RS CS] w fun e w' => e = .returned (.int .i64 (colV (bal E RS CS R C) ((pop8 RS * pop8 CS : Nat) : Int))) ∧ Below w.heap.size w w' := by
  have HBL := Lib.hid (fun W => spec_bal E R C hR1 hR hC1 hC RS CS hRS hCS W)
  have HAR := Lib.hid (fun W => spec_area RS CS hRS1 hRS hCS1 hCS W)
  have har : pop8 RS * pop8 CS ≤ 64 := Nat.mul_le_mul (pop8_le RS) (pop8_le CS)
  generalize str (rowsB E R C) = s at *
  generalize bal E RS CS R C = v at *
  generalize pop8 RS * pop8 CS = a at *
  unfold colV
  by_cases h1 : v = (a : Int)
  · rw [if_pos h1]
    subst h1
    go_enter Tryd.func77, Tryd.ntmps77
    go_wp2_with fail
    refine (HBL.out _).mono ?_
    rintro e w1 ⟨rfl, hb1⟩
    obtain ⟨m0, t0, hbel⟩ := boxes hb1
    obtain ⟨p0, p1⟩ := th_c t0
    have TH := Lib.hid t0
    have HB := Lib.hid hbel
    clear hb1 hbel m0 t0
    go_wp2_with fail
    refine (HAR.out _).mono ?_
    rintro e w2 ⟨rfl, hb2⟩
    have HB2 := Lib.hid (rstep HB.out hb2)
    clear hb2
    go_wp2_with fail
    go_ret
    exact ⟨rfl, HB2.out⟩
  · rw [if_neg h1]
    obtain ⟨b1, hb1⟩ : ∃ b, (v == (a : Int)) = b := ⟨_, rfl⟩
    obtain rfl : b1 = false := by rw [← hb1]; exact beq_eq_false_iff_ne.2 h1
    obtain ⟨b2, hb2⟩ : ∃ b, (v == - (a : Int)) = b := ⟨_, rfl⟩
    have HV : Hid ((if v = - (a : Int) then (0 : Int) else -1) = if b2 = true then 0 else -1) := by
      unfold Hid
      by_cases h2 : v = - (a : Int)
      · obtain rfl : b2 = true := by rw [← hb2]; exact beq_iff_eq.2 h2
        rw [if_pos h2, if_pos rfl]
      · obtain rfl : b2 = false := by rw [← hb2]; exact beq_eq_false_iff_ne.2 h2
        rw [if_neg h2, if_neg (by decide)]
    rw [HV.out]
    clear h1 HV
    cases b2
    all_goals
      go_enter Tryd.func77, Tryd.ntmps77
      go_wp2_with fail
      refine (HBL.out _).mono ?_
      rintro e w1 ⟨rfl, hw1⟩
      obtain ⟨m0, t0, hbel⟩ := boxes hw1
      obtain ⟨p0, p1⟩ := th_c t0
      have TH := Lib.hid t0
      have HB := Lib.hid hbel
      clear hw1 hbel m0 t0
      go_wp2_with fail
      refine (HAR.out _).mono ?_
      rintro e w2 ⟨rfl, hw2⟩
      obtain ⟨p0, p1⟩ := th_c (th_on TH.out hw2)
      have HB2 := Lib.hid (rstep HB.out hw2)
      clear hw2 TH HB
      go_wp2_with fail
      refine (HAR.out _).mono ?_
      rintro e w3 ⟨rfl, hw3⟩
      have HB3 := Lib.hid (rstep HB2.out hw3)
      clear hw3
      go_wp2_with fail
      go_ret
      exact ⟨rfl, HB3.out⟩

/-- a callee of the reference's that is asked behind RectValid -/
theorem rv_nat {R C : Nat} {r c : Int} (hR : R ≤ 8) (hC : C ≤ 8) (h : rvB R C r c = true) : ∃ RS CS : Nat, r = (RS : Int) ∧ c = (CS : Int) ∧ 1 ≤ RS ∧ RS < 2 ^ R ∧ 1 ≤ CS ∧ CS < 2 ^ C ∧ RS < 256 ∧ CS < 256 := by
  unfold rvB at h
  rw [Bool.and_eq_true, decide_eq_true_iff, decide_eq_true_iff] at h
  obtain ⟨⟨h1, h2⟩, h3, h4⟩ := h
  obtain ⟨RS, rfl⟩ := Int.eq_ofNat_of_zero_le (show 0 ≤ r by omega)
  obtain ⟨CS, rfl⟩ := Int.eq_ofNat_of_zero_le (show 0 ≤ c by omega)
  have e1 : ((2 : Int) ^ R) = ((2 ^ R : Nat) : Int) := by simp
  have e2 : ((2 : Int) ^ C) = ((2 ^ C : Nat) : Int) := by simp
  have h5 : 2 ^ R ≤ 2 ^ 8 := Nat.pow_le_pow_right (by decide) hR
  have h6 : 2 ^ C ≤ 2 ^ 8 := Nat.pow_le_pow_right (by decide) hC
  rw [e1] at h2
  rw [e2] at h4
  generalize 2 ^ R = X at *
  generalize 2 ^ C = Y at *
  exact ⟨RS, CS, rfl, rfl, by omega, by omega, by omega, by omega, by omega, by omega⟩

end Go.Proofs.YtgfhahlkffagaaaDoor.Colour
