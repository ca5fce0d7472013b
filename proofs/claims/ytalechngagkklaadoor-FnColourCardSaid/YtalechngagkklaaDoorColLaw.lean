/-
  The walk of the drawn law on ColourOf and BalanceOf.
-/
import Derived.Test.YtalechngagkklaaDoorDrawCo
import Derived.Test.YtalechngagkklaaDoorColF
import Derived.Test.YtalechngagkklaaDoorAreaI
import Derived.Test.YtalechngagkklaaDoorInRectWalk
import Derived.Test.YtalechngagkklaaDoorKept
namespace Go.Proofs.YtalechngagkklaaDoor.fnColour
open Go.RowKit Go.Proofs.YtalechngagkklaaDoor.Plain Go.Proofs.YtalechngagkklaaDoor.Base Go.Proofs.YtalechngagkklaaDoor.Valid Go.Proofs.YtalechngagkklaaDoor.Pat Go.Proofs.YtalechngagkklaaDoor.Rect Go.Proofs.YtalechngagkklaaDoor.RValid Go.Proofs.YtalechngagkklaaDoor.Bal Go.Proofs.YtalechngagkklaaDoor.Colour Go.Proofs.YtalechngagkklaaDoor.ColM Go.Proofs.YtalechngagkklaaDoor.ColF Go.Proofs.YtalechngagkklaaDoor.Rd Go.Proofs.YtalechngagkklaaDoor.Kept
open Go.Proofs.YtalechngagkklaaDoor.Rd4 (cells2)
open Go.Proofs.YtalechngagkklaaDoor.Rd5 (cells3)
set_option linter.unusedVariables false

/-- whether a small row and a small column are in a rectangle -/
theorem in_impl (R C : Nat) (h : someB R C = true) (i k : Nat) (hi : i < 8) (hk : k < 8) (w : World) :
    Calls Tryd.prog 18 #[rect R C, .int .i64 (i : Int), .int .i64 (k : Int)] w fun e w' => e = .returned (.bool (R.testBit i && C.testBit k)) ∧ Below w.heap.size w w' := by
  have hh := (someB_iff R C).1 h
  exact fnExactInRect.impl_yes R C i k h _ _ (fun W => inSet_yes R i (by omega) hi W) (fun W => inSet_yes C k (by omega) hk W) w

/-- the colour by the counts -/
theorem col_counts (on zn : Nat) (bl ar : Int) (h1 : (on : Int) - zn = bl) (h2 : (on : Int) + zn = ar) (h3 : 1 ≤ ar) :
    (colV bl ar = 1 ∧ zn = 0 ∧ 1 ≤ on) ∨ (colV bl ar = 0 ∧ on = 0 ∧ 1 ≤ zn) ∨ (colV bl ar = -1 ∧ 1 ≤ on ∧ 1 ≤ zn) := by
  unfold colV
  by_cases hz : zn = 0
  · exact .inl ⟨by rw [if_pos (by omega)], hz, by omega⟩
  · by_cases ho : on = 0
    · exact .inr (.inl ⟨by rw [if_neg (by omega), if_pos (by omega)], ho, by omega⟩)
    · exact .inr (.inr ⟨by rw [if_neg (by omega), if_neg (by omega)], by omega, by omega⟩)

set_option maxHeartbeats 8000000 in
set_option maxRecDepth 100000 in
theorem walk (v : Value) (n : Nat) (w : World) (h : ByteArg w v n) :
    Calls Tryd.prog 3 #[v] w fun e w' => e = .returned (.bool true) ∧ Below w.heap.size w w' := by
  obtain ⟨hn0, a, cap, rfl, hc, hb0⟩ := id h
  clear hb0
  have HD := Lib.hid (DrawCo.draw_any _ n w h)
  clear h
  by_cases hbig : 1048576 < n
  · have hbi : (1048576 : Int) < (n : Int) := by omega
    go_enter Tryd.func3, Tryd.ntmps3
    go_wp2_with fail
    go_ret
    exact ⟨rfl, Below.refl _ _⟩
  · have hbi : ¬ (1048576 : Int) < (n : Int) := by omega
    go_enter Tryd.func3, Tryd.ntmps3
    go_wp2_with fail
    refine HD.out.mono ?_
    rintro e w1 ⟨a, b, t, x, y, rfl, -, -, ht, -, -, hb⟩
    clear HD hbig hbi
    have hcase := cases a b t (by unfold maxLen; omega) x y
    obtain ⟨B, hB⟩ : ∃ B, w1.heap.size = B := ⟨_, rfl⟩
    have HK1 := Lib.hid (((Kp.nil w).later hb |>.put (.cells #[.int .i64 a, .int .i64 b, .string t] 24) hB).put (.cells #[.int .i64 x, .int .i64 y] 26) (b := B + 1) (by simp [hB]))
    clear hb
    rcases hcase with ⟨hcs, hci, hbs, hbi, hrv⟩ | ⟨R, C, E, RS, CS, rfl, rfl, rfl, rfl, rfl, ⟨h1, h2, h3, h4⟩, k1, k2, k3, k4, k5, k6⟩
    · have HCS := Lib.hid hcs
      have HCI := Lib.hid hci
      have HBS := Lib.hid hbs
      have HBI := Lib.hid hbi
      have HRV := Lib.hid hrv
      clear hcs hci hbs hbi hrv
      obtain ⟨cB0, cB1, cB2, -, -, -⟩ := cells3 (HK1.out.at 1 rfl)
      obtain ⟨cBp10, cBp11, -, -⟩ := cells2 (HK1.out.at 0 rfl)
      go_wp2_with fail
      refine (HCI.out _).mono ?_
      rintro e w2 ⟨rfl, hb2⟩
      have HK2 := Lib.hid (HK1.out.later hb2)
      clear hb2 HK1
      clear hB cB0 cB1 cB2 cBp10 cBp11
      obtain ⟨cB0, cB1, cB2, -, -, -⟩ := cells3 (HK2.out.at 1 rfl)
      obtain ⟨cBp10, cBp11, -, -⟩ := cells2 (HK2.out.at 0 rfl)
      go_wp2_with fail
      refine (HBI.out _).mono ?_
      rintro e w3 ⟨rfl, hb3⟩
      have HK3 := Lib.hid (HK2.out.later hb3)
      clear hb3 HK2
      clear cB0 cB1 cB2 cBp10 cBp11
      obtain ⟨cB0, cB1, cB2, -, -, -⟩ := cells3 (HK3.out.at 1 rfl)
      obtain ⟨cBp10, cBp11, -, -⟩ := cells2 (HK3.out.at 0 rfl)
      go_wp2_with fail
      refine (HBS.out _).mono ?_
      rintro e w4 ⟨rfl, hb4⟩
      have HK4 := Lib.hid (HK3.out.later hb4)
      clear hb4 HK3
      clear cB0 cB1 cB2 cBp10 cBp11
      obtain ⟨cB0, cB1, cB2, -, -, -⟩ := cells3 (HK4.out.at 1 rfl)
      obtain ⟨cBp10, cBp11, -, -⟩ := cells2 (HK4.out.at 0 rfl)
      go_wp2_with fail
      refine (HCS.out _).mono ?_
      rintro e w5 ⟨rfl, hb5⟩
      have HK5 := Lib.hid (HK4.out.later hb5)
      clear hb5 HK4
      clear cB0 cB1 cB2 cBp10 cBp11
      obtain ⟨cB0, cB1, cB2, -, -, -⟩ := cells3 (HK5.out.at 1 rfl)
      obtain ⟨cBp10, cBp11, -, -⟩ := cells2 (HK5.out.at 0 rfl)
      go_wp2_with fail
      refine (HRV.out _).mono ?_
      rintro e w6 ⟨rfl, hb6⟩
      have HK6 := Lib.hid (HK5.out.later hb6)
      clear hb6 HK5
      clear cB0 cB1 cB2 cBp10 cBp11
      obtain ⟨cB0, cB1, cB2, -, -, -⟩ := cells3 (HK6.out.at 1 rfl)
      obtain ⟨cBp10, cBp11, -, -⟩ := cells2 (HK6.out.at 0 rfl)
      go_wp2_with fail
      refine (HCS.out _).mono ?_
      rintro e w7 ⟨rfl, hb7⟩
      have HK7 := Lib.hid (HK6.out.later hb7)
      clear hb7 HK6
      clear cB0 cB1 cB2 cBp10 cBp11
      obtain ⟨cB0, cB1, cB2, -, -, -⟩ := cells3 (HK7.out.at 1 rfl)
      obtain ⟨cBp10, cBp11, -, -⟩ := cells2 (HK7.out.at 0 rfl)
      go_wp2_with fail
      refine (HRV.out _).mono ?_
      rintro e w8 ⟨rfl, hb8⟩
      have HK8 := Lib.hid (HK7.out.later hb8)
      clear hb8 HK7
      clear cB0 cB1 cB2 cBp10 cBp11
      obtain ⟨cB0, cB1, cB2, -, -, -⟩ := cells3 (HK8.out.at 1 rfl)
      obtain ⟨cBp10, cBp11, -, -⟩ := cells2 (HK8.out.at 0 rfl)
      go_wp2_with fail
      go_ret
      exact ⟨rfl, HK8.out.below⟩
    · have hcol := colour_yes E R C h1 h2 h3 h4 RS CS k1 k2 k3 k4 k5 k6
      have hbal := balance_yes E R C h1 h2 h3 h4 RS CS k1 k2 k3 k4 k5 k6
      have hrv := fun W => rectvalid_yes E R C h1 h2 h3 h4 RS CS k1 k2 k3 k4 k5 k6 W
      have hin := fun i k hi hk W => in_impl RS CS ((someB_iff _ _).2 (by omega)) i k hi hk W
      have hent := fun a b ha hb W => tp_entry E R C h1 h2 h3 h4 a b ha hb W
      have hoth := fun W => other_yes E R C h1 h2 h3 h4 W
      have hbal2 := (balance_yes (fun x y => !E x y) R C h1 h2 h3 h4 RS CS k1 k2 k3 k4 k5 k6).2
      rw [← bal_not] at hbal2
      have har := fun W => AreaI.impl_area RS CS k1 k5 k3 k6 W
      have hpos : 1 ≤ pop8 RS * pop8 CS := Nat.mul_le_mul (pop8_pos RS k1 k5) (pop8_pos CS k3 k6)
      have hcnt := col_counts _ _ _ _ (all_bal E RS CS R C) (all_area E RS CS R C h2 h4 k2 k4) (by exact_mod_cast hpos)
      have hlb := all_bal E RS CS R C
      have hla := all_area E RS CS R C h2 h4 k2 k4
      have hl1 := all_le8 E true RS CS C R h4 h2
      have hl0 := all_le8 E false RS CS C R h4 h2
      have hcv : -2 < colV (bal E RS CS R C) ((pop8 RS * pop8 CS : Nat) : Int) := by omega
      generalize colV (bal E RS CS R C) ((pop8 RS * pop8 CS : Nat) : Int) = cv at hcol hcnt hcv
      generalize ((pop8 RS * pop8 CS : Nat) : Int) = ar at har hla
      generalize bal E RS CS R C = bl at hbal hbal2 hlb
      have hblo : -64 ≤ bl ∧ bl ≤ 64 := by omega
      generalize str (rowsB E R C) = s at *
      generalize str (rowsB (fun x y => !E x y) R C) = s2 at *
      have HCS := Lib.hid hcol.1
      have HCI := Lib.hid hcol.2
      have HBS := Lib.hid hbal.1
      have HBI := Lib.hid hbal.2
      have HRV := Lib.hid hrv
      have HIN := Lib.hid hin
      have HENT := Lib.hid hent
      have HOTH := Lib.hid hoth
      have HB2 := Lib.hid hbal2
      have HAR := Lib.hid har
      have HCNT := Lib.hid hcnt
      have HLB := Lib.hid hlb
      have HLA := Lib.hid hla
      clear hcol hbal hrv hin hent hoth hbal2 har hpos hcnt hlb hla
      obtain ⟨hbl0, hbl1⟩ := hblo
      obtain ⟨cB0, cB1, cB2, -, -, -⟩ := cells3 (HK1.out.at 1 rfl)
      obtain ⟨cBp10, cBp11, -, -⟩ := cells2 (HK1.out.at 0 rfl)
      go_wp2_with fail
      refine (HCI.out _).mono ?_
      rintro e w2 ⟨rfl, hb2⟩
      have HK2 := Lib.hid (HK1.out.later hb2)
      clear hb2 HK1
      clear hB cB0 cB1 cB2 cBp10 cBp11
      obtain ⟨cB0, cB1, cB2, -, -, -⟩ := cells3 (HK2.out.at 1 rfl)
      obtain ⟨cBp10, cBp11, -, -⟩ := cells2 (HK2.out.at 0 rfl)
      go_wp2_with fail
      refine (HBI.out _).mono ?_
      rintro e w3 ⟨rfl, hb3⟩
      have HK3 := Lib.hid (HK2.out.later hb3)
      clear hb3 HK2
      clear cB0 cB1 cB2 cBp10 cBp11
      obtain ⟨cB0, cB1, cB2, -, -, -⟩ := cells3 (HK3.out.at 1 rfl)
      obtain ⟨cBp10, cBp11, -, -⟩ := cells2 (HK3.out.at 0 rfl)
      go_wp2_with fail
      refine (HBS.out _).mono ?_
      rintro e w4 ⟨rfl, hb4⟩
      have HK4 := Lib.hid (HK3.out.later hb4)
      clear hb4 HK3
      clear cB0 cB1 cB2 cBp10 cBp11
      obtain ⟨cB0, cB1, cB2, -, -, -⟩ := cells3 (HK4.out.at 1 rfl)
      obtain ⟨cBp10, cBp11, -, -⟩ := cells2 (HK4.out.at 0 rfl)
      go_wp2_with fail
      refine (HCS.out _).mono ?_
      rintro e w5 ⟨rfl, hb5⟩
      have HK5 := Lib.hid (HK4.out.later hb5)
      clear hb5 HK4
      clear cB0 cB1 cB2 cBp10 cBp11
      obtain ⟨cB0, cB1, cB2, -, -, -⟩ := cells3 (HK5.out.at 1 rfl)
      obtain ⟨cBp10, cBp11, -, -⟩ := cells2 (HK5.out.at 0 rfl)
      go_wp2_with fail
      refine (HRV.out _).mono ?_
      rintro e w6 ⟨rfl, hb6⟩
      have HK6 := Lib.hid (HK5.out.later hb6)
      clear hb6 HK5
      clear cB0 cB1 cB2 cBp10 cBp11
      obtain ⟨cB0, cB1, cB2, -, -, -⟩ := cells3 (HK6.out.at 1 rfl)
      obtain ⟨cBp10, cBp11, -, -⟩ := cells2 (HK6.out.at 0 rfl)
      go_wp2_with fail
      clear cB0 cB1 cB2 cBp10 cBp11
      go_loopw [10, 11, 12] (fun o z x wr => ∃ i : Nat, i ≤ R ∧ o = .int .i64 ((allC E true RS CS C i : Nat) : Int) ∧ z = .int .i64 ((allC E false RS CS C i : Nat) : Int) ∧ x = .int .i64 (i : Int) ∧ Hid (Kp w wr [((B + 1), .cells #[.int .i64 RS, .int .i64 CS] 26), (B, .cells #[.int .i64 R, .int .i64 C, .string s] 24)])) (fun _ _ x _ => R - (intOf x).toNat)
      case atStart => exact ⟨0, by omega, rfl, rfl, rfl, HK6⟩
      case round =>
        obtain ⟨i, hi, rfl, rfl, rfl, HR⟩ := hrel
        clear HK6
        have ho8 := all_le8 E true RS CS C i h4 (by omega)
        have hz8 := all_le8 E false RS CS C i h4 (by omega)
        by_cases hlt : i < R
        · have hon := all_next E true RS CS C i
          have hzn := all_next E false RS CS C i
          generalize allC E true RS CS C i = oi at *
          generalize allC E false RS CS C i = zi at *
          have HON := Lib.hid hon
          have HZN := Lib.hid hzn
          clear hon hzn
          obtain ⟨c0, c1, c2, -, -, -⟩ := cells3 (HR.out.at 1 rfl)
          go_wp2_with fail
          clear c0 c1 c2
          go_loopw [10, 11, 13] (fun o z y wr => ∃ k : Nat, k ≤ C ∧ o = .int .i64 ((oi + rowC E true RS CS i k : Nat) : Int) ∧ z = .int .i64 ((zi + rowC E false RS CS i k : Nat) : Int) ∧ y = .int .i64 (k : Int) ∧ Hid (Kp w wr [((B + 1), .cells #[.int .i64 RS, .int .i64 CS] 26), (B, .cells #[.int .i64 R, .int .i64 C, .string s] 24)])) (fun _ _ y _ => C - (intOf y).toNat)
          case atStart => exact ⟨0, by omega, rfl, rfl, rfl, HR⟩
          case round =>
            obtain ⟨k, hk, rfl, rfl, rfl, HQ⟩ := hrel
            clear HR
            have hr1 := row_le E true RS CS i k
            have hr0 := row_le E false RS CS i k
            by_cases hkt : k < C
            · have hn1 := row_next E true RS CS i k
              have hn0 := row_next E false RS CS i k
              have HI := Lib.hid (fun W => HIN.out i k (by omega) (by omega) W)
              have HE := Lib.hid (fun W => HENT.out i k hlt hkt W)
              obtain ⟨o2, ho2⟩ : ∃ x, oi + rowC E true RS CS i k = x := ⟨_, rfl⟩
              obtain ⟨z2, hz2⟩ : ∃ x, zi + rowC E false RS CS i k = x := ⟨_, rfl⟩
              have ho3 : oi + rowC E true RS CS i (k + 1) = o2 + ((RS.testBit i && CS.testBit k) && (E i k == true)).toNat := by omega
              have hz3 : zi + rowC E false RS CS i (k + 1) = z2 + ((RS.testBit i && CS.testBit k) && (E i k == false)).toNat := by omega
              have ho4 : o2 ≤ 100 := by omega
              have hz4 : z2 ≤ 100 := by omega
              rw [ho2, hz2]
              clear hn1 hn0 ho2 hz2
              generalize (RS.testBit i && CS.testBit k) = p at *
              generalize E i k = ev at *
              have HO3 := Lib.hid ho3
              have HZ3 := Lib.hid hz3
              clear ho3 hz3
              obtain ⟨c0, c1, c2, -, -, -⟩ := cells3 (HQ.out.at 1 rfl)
              obtain ⟨d0, d1, -, -⟩ := cells2 (HQ.out.at 0 rfl)
              go_wp2_with fail
              clear c0 c1 c2 d0 d1
              refine (HI.out _).mono ?_
              rintro e w20 ⟨rfl, hb20⟩
              have HQ2 := Lib.hid (HQ.out.later hb20)
              clear hb20 HQ
              cases p
              · go_wp2_with fail
                go_roundw
                case rel => exact ⟨k + 1, by omega, by rw [HO3.out]; simp, by rw [HZ3.out]; simp, by go_num, HQ2⟩
                case measure => simp [intOf]; omega
              · obtain ⟨c0, c1, c2, -, -, -⟩ := cells3 (HQ2.out.at 1 rfl)
                go_wp2_with fail
                clear c0 c1 c2
                refine (HE.out _).mono ?_
                rintro e w21 ⟨rfl, hb21⟩
                have HQ3 := Lib.hid (HQ2.out.later hb21)
                clear hb21 HQ2
                cases ev
                all_goals
                  go_wp2_with fail
                  go_roundw
                  case rel => exact ⟨k + 1, by omega, by rw [HO3.out]; simp, by rw [HZ3.out]; simp, by go_num, HQ3⟩
                  case measure => simp [intOf]; omega
            · obtain rfl : k = C := by omega
              obtain ⟨c0, c1, c2, -, -, -⟩ := cells3 (HQ.out.at 1 rfl)
              go_wp2_with fail
              clear c0 c1 c2
              go_roundw
              case rel => exact ⟨i + 1, by omega, by rw [HON.out], by rw [HZN.out], by go_num, HQ⟩
              case measure => simp [intOf]; omega
        · obtain rfl : i = R := by omega
          have hlb := HLB.out
          have hla := HLA.out
          have hcnt := HCNT.out
          generalize allC E true RS CS C i = on at *
          generalize allC E false RS CS C i = zn at *
          have HCN := Lib.hid hcnt
          have HLB2 := Lib.hid hlb
          have HLA2 := Lib.hid hla
          clear hlb hla hcnt HLB HLA HCNT
          obtain ⟨cB0, cB1, cB2, -, -, -⟩ := cells3 (HR.out.at 1 rfl)
          obtain ⟨cBp10, cBp11, -, -⟩ := cells2 (HR.out.at 0 rfl)
          go_wp2_with fail
          refine (HOTH.out _).mono ?_
          rintro e w30 ⟨rfl, hb30⟩
          obtain ⟨bo, hbo⟩ : ∃ x, w30.heap.size = x := ⟨_, rfl⟩
          have HK30 := Lib.hid ((HR.out.later hb30).put (.cells #[.int .i64 i, .int .i64 C, .string s2] 24) hbo)
          clear hb30 HR
          clear cB0 cB1 cB2 cBp10 cBp11
          obtain ⟨cbo0, cbo1, cbo2, -, -, -⟩ := cells3 (HK30.out.at 0 rfl)
          obtain ⟨cBp10, cBp11, -, -⟩ := cells2 (HK30.out.at 1 rfl)
          go_wp2_with fail
          refine (HB2.out _).mono ?_
          rintro e w31 ⟨rfl, hb31⟩
          have HK31 := Lib.hid (HK30.out.later hb31)
          clear hb31 HK30
          clear hbo cbo0 cbo1 cbo2 cBp10 cBp11
          have hlb := HLB2.out
          have hla := HLA2.out
          subst hlb hla
          rcases HCN.out with ⟨rfl, rfl, h⟩ | ⟨rfl, rfl, h⟩ | ⟨rfl, h, h5⟩
          all_goals
            obtain ⟨cBp10, cBp11, -, -⟩ := cells2 (HK31.out.at 1 rfl)
            go_wp2_with fail
            refine (HAR.out _).mono ?_
            rintro e w32 ⟨rfl, hb32⟩
            have HK32 := Lib.hid (HK31.out.later hb32)
            clear hb32 HK31
            clear cBp10 cBp11
            go_wp2_with fail
            go_ret
            exact ⟨by first | rfl | (simp; omega), HK32.out.below⟩
end Go.Proofs.YtalechngagkklaaDoor.fnColour
