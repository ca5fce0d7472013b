/-
  Texts of one seat, joined: Area, Colour, Cols.
-/
import Derived.Test.YtemmagkkigdhjaaGreatDoorJn18
import Derived.WalkSmall
import Derived.Test.YtemmagkkigdhjaaGreatDoorJn19
import Derived.Test.YtemmagkkigdhjaaGreatDoorJn11
/-
  The reference's AreaOf and l1Ones.
-/
namespace Go.Proofs.YtemmagkkigdhjaaGreatDoor.Area
open Go.RowKit Go.Proofs.YtemmagkkigdhjaaGreatDoor.Plain Go.Proofs.YtemmagkkigdhjaaGreatDoor.Pat Go.Proofs.YtemmagkkigdhjaaGreatDoor.Rect Go.Proofs.YtemmagkkigdhjaaGreatDoor.Patch
set_option linter.unusedVariables false

theorem and_one8 : ∀ m : Nat, m < 256 → Go.bits .and .i64 (m : Int) 1 = ((m % 2 : Nat) : Int) := by
  have h : ∀ k : Fin 256, Go.bits .and .i64 ((k.val : Nat) : Int) 1 = ((k.val % 2 : Nat) : Int) := by decide +kernel
  intro k hk
  exact h ⟨k, hk⟩
theorem pop8_half (a : Nat) (h : a < 256) : pop8 a = a % 2 + pop8 (a / 2) := by
  unfold pop8
  omega

set_option maxHeartbeats 400000 in
theorem ones8 (n : Nat) (hn : n < 256) (w : World) :
    Calls Tryz.prog 70 #[.int .i64 (n : Int)] w fun e w' => e = .returned (.int .i64 (pop8 n : Int)) ∧ w' = w := by
  go_enter Tryz.func70, Tryz.ntmps70
  go_wp2_with fail
  go_loop [0, 3] (fun m k => ∃ (a t : Nat), a < 256 ∧ t ≤ 8 ∧ m = .int .i64 (a : Int) ∧ k = .int .i64 (t : Int) ∧ Hid (pop8 a + t = pop8 n)) (fun m _ => (intOf m).toNat)
  case atStart => exact ⟨n, 0, hn, by omega, rfl, rfl, rfl⟩
  case round =>
    obtain ⟨a, t, ha, ht, rfl, rfl, hs⟩ := hrel
    by_cases h0 : 0 < a
    · have hbit := and_one8 a ha
      have HN : Hid (t + a % 2 ≤ 8 ∧ pop8 (a / 2) + (t + a % 2) = pop8 n) := by
        have ho := hs.out
        have hp := pop8_half a ha
        have hq := pop8_le n
        unfold Hid
        omega
      clear hs
      go_wp2_with fail
      go_round
      case rel => exact ⟨a / 2, t + a % 2, by omega, HN.out.1, by go_num, by go_num, HN.out.2⟩
      case measure => simp [intOf]; omega
    · obtain rfl : a = 0 := by omega
      have HO := Lib.hid (show t = pop8 n by have ho := hs.out; rw [show pop8 0 = 0 from rfl, Nat.zero_add] at ho; exact ho)
      clear hs
      go_wp2_with fail
      go_ret
      exact ⟨by rw [← HO.out]; rfl, rfl⟩

set_option maxHeartbeats 1000000 in
theorem spec_area (R C : Nat) (hR1 : 1 ≤ R) (hR : R < 256) (hC1 : 1 ≤ C) (hC : C < 256) (w : World) :
    Calls Tryz.prog 37 #[rect R C] w fun e w' => e = .returned (.int .i64 ((pop8 R * pop8 C : Nat) : Int)) ∧ Below w.heap.size w w' := by
  have HS := Lib.hid (show someB R C = true by rw [someB_iff]; omega)
  have HM : Hid (wrap64 ((pop8 R : Int) * (pop8 C : Int)) = ((pop8 R * pop8 C : Nat) : Int)) := by
    have h1 := pop8_le R
    have h2 := pop8_le C
    have h3 : pop8 R * pop8 C ≤ 8 * 8 := Nat.mul_le_mul h1 h2
    unfold Hid
    rw [← Int.natCast_mul]
    unfold wrap64
    omega
  go_enter Tryz.func37, Tryz.ntmps37
  go_wp2_with fail
  refine (some_any _ _ _).mono ?_
  rintro e w1 ⟨rfl, hb1⟩
  rw [HS.out]
  obtain ⟨c0, c1, hz, HB⟩ := box2 hb1
  clear hb1
  go_wp2_with fail
  go_quiet ((go_at_call 70; exact Calls.quiet_of_same (ones8 _ (by assumption) _)))
  go_wp2_with fail
  go_ret
  exact ⟨congrArg (fun v => Ending.returned (Value.int .i64 v)) HM.out, below_drewN HB.out _⟩
set_option maxHeartbeats 1000000 in
theorem spec_area_no (r c : Int) (h : someB r c = false) (w : World) :
    Calls Tryz.prog 37 #[rect r c] w fun e w' => e = .returned (.int .i64 (-1)) ∧ Below w.heap.size w w' := by
  have HS := Lib.hid h
  clear h
  go_enter Tryz.func37, Tryz.ntmps37
  go_wp2_with fail
  refine (some_any _ _ _).mono ?_
  rintro e w1 ⟨rfl, hb1⟩
  rw [HS.out]
  obtain ⟨c0, c1, hz, HB⟩ := box2 hb1
  clear hb1
  go_wp2_with fail
  go_ret
  exact ⟨rfl, HB.out⟩
end Go.Proofs.YtemmagkkigdhjaaGreatDoor.Area

/-
  The reference's l2Balance and l2Colour; ColourOf and BalanceOf.
-/
namespace Go.Proofs.YtemmagkkigdhjaaGreatDoor.Colour
open Go.RowKit Go.Proofs.YtemmagkkigdhjaaGreatDoor.Plain Go.Proofs.YtemmagkkigdhjaaGreatDoor.Base Go.Proofs.YtemmagkkigdhjaaGreatDoor.Valid Go.Proofs.YtemmagkkigdhjaaGreatDoor.Law Go.Proofs.YtemmagkkigdhjaaGreatDoor.GridPlain Go.Proofs.YtemmagkkigdhjaaGreatDoor.Grid Go.Proofs.YtemmagkkigdhjaaGreatDoor.Entry Go.Proofs.YtemmagkkigdhjaaGreatDoor.Pat Go.Proofs.YtemmagkkigdhjaaGreatDoor.Rect Go.Proofs.YtemmagkkigdhjaaGreatDoor.Patch Go.Proofs.YtemmagkkigdhjaaGreatDoor.FreeL Go.Proofs.YtemmagkkigdhjaaGreatDoor.Board Go.Proofs.YtemmagkkigdhjaaGreatDoor.BoardM Go.Proofs.YtemmagkkigdhjaaGreatDoor.RValid Go.Proofs.YtemmagkkigdhjaaGreatDoor.Area Go.Proofs.YtemmagkkigdhjaaGreatDoor.Bal
open Go.Proofs.YtemmagkkigdhjaaGreatDoor.Free (fill wp_value wp_enter wp_load_row freeB)
set_option linter.unusedVariables false

set_option maxHeartbeats 400000 in
theorem int_any (b : Bool) (w : World) :
    Calls Tryz.prog 82 #[.bool b] w fun e w' => e = .returned (.int .i64 (bitI b)) ∧ w = w' := by
  cases b
  all_goals
    go_enter Tryz.func82, Tryz.ntmps82
    go_wp2
    go_ret
    exact ⟨rfl, rfl⟩

/-- what the loops keep -/
structure CInv (w wr : World) (R C : Nat) (s : ByteArray) (RS CS : Nat) : Prop where
  m : MHolds wr w.heap.size 24 R C s
  t : THolds wr (w.heap.size + 1) 31 RS CS
  below : Below w.heap.size w wr
theorem CInv.later {w wr w2 : World} {R C : Nat} {s : ByteArray} {RS CS : Nat} (h : CInv w wr R C s RS CS) (hb : Below wr.heap.size wr w2) : CInv w w2 R C s RS CS := ⟨mh_on h.m hb, th_on h.t hb, rstep h.below hb⟩

/-- what the reference calls the value of a rectangle -/
def colV (v a : Int) : Int := if v = a then 1 else if v = - a then 0 else -1

/-- a callee of the reference's that is asked behind RectValid -/
theorem rv_nat {R C : Nat} {r c : Int} (hR : R ≤ 8) (hC : C ≤ 8) (h : rvB R C r c = true) : ∃ RS CS : Nat, r = (RS : Int) ∧ c = (CS : Int) ∧ 1 ≤ RS ∧ RS < 2 ^ R ∧ 1 ≤ CS ∧ CS < 2 ^ C ∧ RS < 256 ∧ CS < 256 := by
  unfold rvB at h
  rw [Bool.and_eq_true, decide_eq_true_iff, decide_eq_true_iff] at h
  obtain ⟨⟨h1, h2⟩, h3, h4⟩ := h
  obtain ⟨RS, rfl⟩ := Int.eq_ofNat_of_zero_le (show 0 ≤ r by omega)
  obtain ⟨CS, rfl⟩ := Int.eq_ofNat_of_zero_le (show 0 ≤ c by omega)
  have e1 : ((2 : Int) ^ R) = ((2 ^ R : Nat) : Int) := by simp
  have e2 : ((2 : Int) ^ C) = ((2 ^ C : Nat) : Int) := by simp
  have h5 : 2 ^ R ≤ 2 ^ 8 := Nat.pow_le_pow_right (by decide) hR
  have h6 : 2 ^ C ≤ 2 ^ 8 := Nat.pow_le_pow_right (by decide) hC
  rw [e1] at h2
  rw [e2] at h4
  generalize 2 ^ R = X at *
  generalize 2 ^ C = Y at *
  exact ⟨RS, CS, rfl, rfl, by omega, by omega, by omega, by omega, by omega, by omega⟩

set_option maxHeartbeats 2000000 in
theorem impl_col_no (R C : Nat) (hR : R ≤ 8) (hC : C ≤ 8) (z o : Nat) (rr cc : Int) (s : ByteArray) (r c : Int) (hg : ∀ W : World, Calls Tryz.prog 20 #[mat rr cc s] W fun e w' => e = .returned (brd R C z o) ∧ Below W.heap.size W w') (h : rvB R C r c = false) (w : World) :
    Calls Tryz.prog 9 #[mat rr cc s, rect r c] w fun e w' => e = .returned (.int .i64 (-2)) ∧ Below w.heap.size w w' := by
  have HG := Lib.hid hg
  have HH := Lib.hid (fun W => hasRect_any R C hR hC z o r c W)
  rw [h] at HH
  clear hg h
  go_enter Tryz.func9, Tryz.ntmps9
  go_wp2_with fail
  refine (HG.out _).mono ?_
  rintro e w1 ⟨rfl, hb1⟩
  obtain ⟨m0, t0, hbel⟩ := boxes hb1
  have e0 : BHolds (w1.alloc (.cells #[.int .i64 (R : Int), .int .i64 (C : Int), .int .u64 (z : Int), .int .u64 (o : Int)] 50)) w1.heap.size R C z o := heap_alloc_new w1 _
  have e1 : THolds (w1.alloc (.cells #[.int .i64 (R : Int), .int .i64 (C : Int), .int .u64 (z : Int), .int .u64 (o : Int)] 50)) (w.heap.size + 1) 31 r c := (Below.heap_alloc _ _ _ (Array.getElem?_eq_some_iff.1 t0).1).trans t0
  have hbA := bstepA hbel (.cells #[.int .i64 (R : Int), .int .i64 (C : Int), .int .u64 (z : Int), .int .u64 (o : Int)] 50)
  obtain ⟨q0, q1, q2, q3⟩ := bh_c e0
  obtain ⟨p0, p1⟩ := th_c e1
  have BH := Lib.hid e0
  have TH := Lib.hid e1
  have HB := Lib.hid hbA
  clear hb1 m0 t0 hbel e0 e1 hbA
  go_wp2_with fail
  refine (HH.out _).mono ?_
  rintro e w2 ⟨rfl, hb2⟩
  have HB2 := Lib.hid (rstep HB.out hb2)
  clear hb2
  go_wp2_with fail
  go_ret
  exact ⟨rfl, HB2.out⟩

set_option maxHeartbeats 2000000 in
theorem impl_col_yes (R C : Nat) (hR : R ≤ 8) (hC : C ≤ 8) (z o : Nat) (hz : z < 18446744073709551616) (ho : o < 18446744073709551616) (rr cc : Int) (s : ByteArray) (RS CS : Nat) (hRS : RS < 256) (hCS : CS < 256)
    (hg : ∀ W : World, Calls Tryz.prog 20 #[mat rr cc s] W fun e w' => e = .returned (brd R C z o) ∧ Below W.heap.size W w') (h : rvB R C RS CS = true) (b0 b1 : Bool)
    (h0 : decide (pat (rectB RS CS) 8 &&& (18446744073709551615 - z) = 0) = b0) (h1 : decide (pat (rectB RS CS) 8 &&& (18446744073709551615 - o) = 0) = b1) (w : World) :
    Calls Tryz.prog 9 #[mat rr cc s, rect RS CS] w fun e w' => e = .returned (.int .i64 (if b0 = true then 0 else if b1 = true then 1 else -1)) ∧ Below w.heap.size w w' := by
  have HG := Lib.hid hg
  have HH := Lib.hid (fun W => hasRect_any R C hR hC z o RS CS W)
  rw [h] at HH
  have HP0 := Lib.hid (fun W => plain0 R C z o hz ho RS CS hRS hCS W)
  have HP1 := Lib.hid (fun W => plain1 R C z o hz ho RS CS hRS hCS W)
  rw [h0] at HP0
  rw [h1] at HP1
  clear hg h h0 h1
  go_enter Tryz.func9, Tryz.ntmps9
  go_wp2_with fail
  refine (HG.out _).mono ?_
  rintro e w1 ⟨rfl, hb1⟩
  obtain ⟨m0, t0, hbel⟩ := boxes hb1
  have e0 : BHolds (w1.alloc (.cells #[.int .i64 (R : Int), .int .i64 (C : Int), .int .u64 (z : Int), .int .u64 (o : Int)] 50)) w1.heap.size R C z o := heap_alloc_new w1 _
  have e1 : THolds (w1.alloc (.cells #[.int .i64 (R : Int), .int .i64 (C : Int), .int .u64 (z : Int), .int .u64 (o : Int)] 50)) (w.heap.size + 1) 31 (RS : Int) (CS : Int) := (Below.heap_alloc _ _ _ (Array.getElem?_eq_some_iff.1 t0).1).trans t0
  have hbA := bstepA hbel (.cells #[.int .i64 (R : Int), .int .i64 (C : Int), .int .u64 (z : Int), .int .u64 (o : Int)] 50)
  obtain ⟨q0, q1, q2, q3⟩ := bh_c e0
  obtain ⟨p0, p1⟩ := th_c e1
  have BH := Lib.hid e0
  have TH := Lib.hid e1
  have HB := Lib.hid hbA
  clear hb1 m0 t0 hbel e0 e1 hbA
  go_wp2_with fail
  refine (HH.out _).mono ?_
  rintro e w2 ⟨rfl, hb2⟩
  have BH2 := Lib.hid (bh_on BH.out hb2)
  have TH2 := Lib.hid (th_on TH.out hb2)
  have HB2 := Lib.hid (rstep HB.out hb2)
  clear hb2 BH TH HB q0 q1 q2 q3 p0 p1
  go_wp2_with fail
  go_loopw [13] (fun i wr => ∃ k : Nat, k ≤ 2 ∧ i = .int .i64 (k : Int) ∧ (1 ≤ k → b0 = false) ∧ (2 ≤ k → b1 = false) ∧ BHolds wr w1.heap.size R C z o ∧ THolds wr (w.heap.size + 1) 31 (RS : Int) (CS : Int) ∧ Below w.heap.size w wr) (fun i _ => 2 - (intOf i).toNat)
  case atStart => exact ⟨0, Nat.zero_le _, rfl, fun h => absurd h (by omega), fun h => absurd h (by omega), BH2.out, TH2.out, HB2.out⟩
  case round =>
    obtain ⟨k, hk, rfl, hk0, hk1, hbh, hth, hbl⟩ := hrel
    obtain ⟨q0, q1, q2, q3⟩ := bh_c hbh
    obtain ⟨p0, p1⟩ := th_c hth
    have BH := Lib.hid hbh
    have TH := Lib.hid hth
    have HB := Lib.hid hbl
    clear hbh hth hbl BH2 TH2 HB2
    obtain rfl | rfl | rfl : k = 0 ∨ k = 1 ∨ k = 2 := by omega
    · clear hk0 hk1
      go_wp2_with fail
      refine (HP0.out _).mono ?_
      rintro e w3 ⟨rfl, hb3⟩
      have BH3 := Lib.hid (bh_on BH.out hb3)
      have TH3 := Lib.hid (th_on TH.out hb3)
      have HB3 := Lib.hid (rstep HB.out hb3)
      clear hb3
      cases b0
      · go_wp2_with fail
        go_roundw
        case rel => exact ⟨1, by omega, by go_num, (fun _ => by trivial), fun h => absurd h (by omega), BH3.out, TH3.out, HB3.out⟩
        case measure => simp [intOf]
      · go_wp2_with fail
        go_ret
        exact ⟨rfl, HB3.out⟩
    · obtain rfl := hk0 (by omega)
      clear hk0 hk1
      go_wp2_with fail
      refine (HP1.out _).mono ?_
      rintro e w3 ⟨rfl, hb3⟩
      have BH3 := Lib.hid (bh_on BH.out hb3)
      have TH3 := Lib.hid (th_on TH.out hb3)
      have HB3 := Lib.hid (rstep HB.out hb3)
      clear hb3
      cases b1
      · go_wp2_with fail
        go_roundw
        case rel => exact ⟨2, by omega, by go_num, (fun _ => by trivial), (fun _ => by trivial), BH3.out, TH3.out, HB3.out⟩
        case measure => simp [intOf]
      · go_wp2_with fail
        go_ret
        exact ⟨rfl, HB3.out⟩
    · obtain rfl := hk0 (by omega)
      obtain rfl := hk1 (by omega)
      clear hk0 hk1
      go_wp2_with fail
      go_ret
      exact ⟨rfl, HB.out⟩

end Go.Proofs.YtemmagkkigdhjaaGreatDoor.Colour

/-
  The reference's l2Cols and l2Rows.
-/
namespace Go.Proofs.YtemmagkkigdhjaaGreatDoor.Cols
open Go.RowKit Go.Proofs.YtemmagkkigdhjaaGreatDoor.Plain Go.Proofs.YtemmagkkigdhjaaGreatDoor.Base Go.Proofs.YtemmagkkigdhjaaGreatDoor.Valid Go.Proofs.YtemmagkkigdhjaaGreatDoor.Law Go.Proofs.YtemmagkkigdhjaaGreatDoor.GridPlain Go.Proofs.YtemmagkkigdhjaaGreatDoor.Grid Go.Proofs.YtemmagkkigdhjaaGreatDoor.Entry Go.Proofs.YtemmagkkigdhjaaGreatDoor.Pat Go.Proofs.YtemmagkkigdhjaaGreatDoor.Rect Go.Proofs.YtemmagkkigdhjaaGreatDoor.Board Go.Proofs.YtemmagkkigdhjaaGreatDoor.BoardM Go.Proofs.YtemmagkkigdhjaaGreatDoor.RValid Go.Proofs.YtemmagkkigdhjaaGreatDoor.Colour Go.Proofs.YtemmagkkigdhjaaGreatDoor.Where Go.Proofs.YtemmagkkigdhjaaGreatDoor.Turn1
set_option linter.unusedVariables false

/-- whether the first k of the rows of a set all have the value in a column -/
def allTo (E : Nat → Nat → Bool) (S : Nat) (b : Bool) (y : Nat) : Nat → Bool
  | 0 => true
  | k + 1 => allTo E S b y k && (!S.testBit k || (E k y == b))
theorem allTo_iff (E : Nat → Nat → Bool) (S : Nat) (b : Bool) (y : Nat) : ∀ k, allTo E S b y k = true ↔ ∀ x, x < k → S.testBit x = true → E x y = b
  | 0 => ⟨fun _ x hx => absurd hx (by omega), fun _ => rfl⟩
  | k + 1 => by
    rw [allTo, Bool.and_eq_true, allTo_iff E S b y k, Bool.or_eq_true, beq_iff_eq, Bool.not_eq_true']
    constructor
    · rintro ⟨h1, h2⟩ x hx hb
      by_cases e : x = k
      · subst e
        rcases h2 with h2 | h2
        · rw [h2] at hb; cases hb
        · exact h2
      · exact h1 x (by omega) hb
    · intro h
      refine ⟨fun x hx hb => h x (by omega) hb, ?_⟩
      cases hs : S.testBit k with
      | false => exact .inl rfl
      | true => exact .inr (h k (by omega) hs)

/-- m's box is kept -/
structure DInv (w wr : World) (R C : Nat) (s : ByteArray) : Prop where
  m : MHolds wr w.heap.size 24 R C s
  below : Below w.heap.size w wr
theorem DInv.later {w wr w2 : World} {R C : Nat} {s : ByteArray} (h : DInv w wr R C s) (hb : Below wr.heap.size wr w2) : DInv w w2 R C s := ⟨mh_on h.m hb, rstep h.below hb⟩

set_option maxHeartbeats 4000000 in
theorem cols_any (E : Nat → Nat → Bool) (R C : Nat) (hR1 : 1 ≤ R) (hR : R ≤ 8) (hC1 : 1 ≤ C) (hC : C ≤ 8) (S : Nat) (hS : S < 256) (b : Bool) (w : World) :
    Calls Tryz.prog 56 #[mat R C (str (rowsB E R C)), .int .i64 (S : Int), .int .i64 (bitI b)] w fun e w' => e = .returned (.int .i64 ((setB (fun y => allTo E S b y R) C : Nat) : Int)) ∧ Below w.heap.size w w' := by
  have HAT := Lib.hid (fun x y hx hy W => at_any E R C hR hC x y hx hy W)
  generalize str (rowsB E R C) = s at *
  obtain ⟨bi, hbi⟩ : ∃ bi, bitI b = bi := ⟨_, rfl⟩
  rw [hbi]
  have HBI := Lib.hid hbi
  clear hbi
  go_enter Tryz.func56, Tryz.ntmps56
  go_wp2_with fail
  have e0 : MHolds (w.alloc (.cells #[.int .i64 (R : Int), .int .i64 (C : Int), .string s] 24)) w.heap.size 24 R C s := heap_alloc_new w _
  have hb0 : Below w.heap.size w (w.alloc (.cells #[.int .i64 (R : Int), .int .i64 (C : Int), .string s] 24)) := (Below.refl w.heap.size w).alloc (Nat.le_refl _) _
  generalize w.alloc (.cells #[.int .i64 (R : Int), .int .i64 (C : Int), .string s] 24) = W0 at *
  have HI0 : Hid (DInv w W0 R C s) := ⟨e0, hb0⟩
  clear e0 hb0
  go_loopw [7, 8] (fun t i wr => ∃ (j u : Nat), j ≤ C ∧ t = .int .i64 (u : Int) ∧ Hid (u = setB (fun y => allTo E S b y R) j) ∧ i = .int .i64 (j : Int) ∧ DInv w wr R C s) (fun _ i _ => C - (intOf i).toNat)
  case atStart => exact ⟨0, 0, Nat.zero_le _, rfl, rfl, rfl, HI0.out⟩
  case round =>
    obtain ⟨j, u, hj, rfl, hu, rfl, hinv⟩ := hrel
    clear HI0
    obtain ⟨q0, q1, q2⟩ := mh_c hinv.m
    by_cases hlt : j < C
    · have HI := Lib.hid hinv
      clear hinv
      go_wp2_with fail
      go_loopw [9, 10] (fun a x wr => ∃ (k : Nat) (v : Bool), k ≤ R ∧ a = .bool v ∧ Hid (v = allTo E S b j k) ∧ x = .int .i64 (k : Int) ∧ DInv w wr R C s) (fun _ x _ => R - (intOf x).toNat)
      case atStart => exact ⟨0, true, Nat.zero_le _, rfl, rfl, rfl, HI.out⟩
      case round =>
        obtain ⟨k, v, hk, rfl, hv, rfl, hinv⟩ := hrel
        clear q0 q1 q2 HI
        obtain ⟨q0, q1, q2⟩ := mh_c hinv.m
        have HI := Lib.hid hinv
        clear hinv
        by_cases hlt' : k < R
        · have k8 : k < 8 := by omega
          have HK := Lib.hid (fun W => l2In_any S k hS k8 W)
          have HA := Lib.hid (fun W => HAT.out k j hlt' hlt W)
          obtain ⟨b1, h1⟩ : ∃ b, S.testBit k = b := ⟨_, rfl⟩
          obtain ⟨b3, h3⟩ : ∃ b, E k j = b := ⟨_, rfl⟩
          rw [h1] at HK
          rw [h3] at HA
          have HN : Hid (allTo E S b j (k + 1) = (v && (!b1 || (b3 == b)))) := by
            unfold Hid
            rw [allTo, ← hv.out, h1, h3]
          clear hv h1 h3
          cases v
          · clear HK HA
            go_wp2_with fail
            go_roundw
            case rel => exact ⟨k + 1, false, by omega, rfl, by unfold Hid; rw [HN.out]; rfl, by go_num, HI.out⟩
            case measure => simp [intOf]; omega
          · cases b1
            · go_wp2_with fail
              refine (HK.out _).mono ?_
              rintro e w' ⟨rfl, rfl⟩
              go_wp2_with fail
              go_roundw
              case rel => exact ⟨k + 1, true, by omega, rfl, by unfold Hid; rw [HN.out]; rfl, by go_num, HI.out⟩
              case measure => simp [intOf]; omega
            · go_wp2_with fail
              refine (HK.out _).mono ?_
              rintro e w' ⟨rfl, rfl⟩
              go_wp2_with fail
              refine (HA.out _).mono ?_
              rintro e w2 ⟨rfl, hb2⟩
              have HI2 := Lib.hid (HI.out.later hb2)
              clear hb2 q0 q1 q2
              go_wp2_with fail
              refine (int_any _ _).mono ?_
              rintro e w' ⟨rfl, rfl⟩
              obtain ⟨x, hx⟩ : ∃ x, bitI b3 = x := ⟨_, rfl⟩
              rw [hx]
              have HX := Lib.hid hx
              clear hx
              go_wp2_with fail
              go_roundw
              case rel => exact ⟨k + 1, _, by omega, rfl, by unfold Hid; rw [HN.out, ← HX.out, ← HBI.out]; cases b3 <;> cases b <;> rfl, by go_num, HI2.out⟩
              case measure => simp [intOf]; omega
        · obtain rfl : k = R := by omega
          have hX : 2 ^ j < 256 := Nat.lt_of_lt_of_le (Nat.pow_lt_pow_right (by decide) (show j < 8 by omega)) (by decide)
          have hu8 : u < 256 := by rw [hu.out]; exact setB_lt8 _ j (by omega)
          have hw : IntKind.i64.wrap (2 ^ j) = ((2 ^ j : Nat) : Int) := by rw [show ((2 : Int) ^ j) = ((2 ^ j : Nat) : Int) by simp]; exact wrap8 _ (by omega)
          have ho := or8 u (2 ^ j) hu8 hX
          have HN : Hid ((if v = true then u ||| 2 ^ j else u) = setB (fun y => allTo E S b y k) (j + 1)) := by
            unfold Hid
            rw [← setB_or, ← hu.out, ← hv.out]
            cases v <;> simp
          clear hu hv
          generalize 2 ^ j = X at *
          generalize u ||| X = y at *
          cases v
          · go_wp2_with fail
            go_roundw
            case rel => exact ⟨j + 1, u, by omega, rfl, by have h := HN.out; unfold Hid; simpa using h, by go_num, HI.out⟩
            case measure => simp [intOf]; omega
          · go_wp2_with fail
            go_roundw
            case rel => exact ⟨j + 1, y, by omega, rfl, by have h := HN.out; unfold Hid; simpa using h, by go_num, HI.out⟩
            case measure => simp [intOf]; omega
    · obtain rfl : j = C := by omega
      have HI := Lib.hid hinv
      clear hinv
      go_wp2_with fail
      go_ret
      exact ⟨by rw [← hu.out]; rfl, HI.out.below⟩

set_option maxHeartbeats 1000000 in
theorem rows_any (E : Nat → Nat → Bool) (R C : Nat) (hR1 : 1 ≤ R) (hR : R ≤ 8) (hC1 : 1 ≤ C) (hC : C ≤ 8) (S : Nat) (hS : S < 256) (b : Bool) (w : World) :
    Calls Tryz.prog 57 #[mat R C (str (rowsB E R C)), .int .i64 (S : Int), .int .i64 (bitI b)] w fun e w' => e = .returned (.int .i64 ((setB (fun x => allTo (fun y x => E x y) S b x C) R : Nat) : Int)) ∧ Below w.heap.size w w' := by
  have HT := Lib.hid (fun W => turn_spec1 E R C hR1 hR hC1 hC W)
  have HC := Lib.hid (fun W => cols_any (fun y x => E x y) C R hC1 hC hR1 hR S hS b W)
  generalize str (rowsB E R C) = s at *
  go_enter Tryz.func57, Tryz.ntmps57
  go_wp2_with fail
  refine (HT.out _).mono ?_
  rintro e w1 ⟨rfl, hb1⟩
  have HB1 := Lib.hid (rstep ((Below.refl w.heap.size w).alloc (Nat.le_refl _) _) hb1)
  clear hb1
  go_wp2_with fail
  refine (HC.out _).mono ?_
  rintro e w2 ⟨rfl, hb2⟩
  have HB2 := Lib.hid (rstep HB1.out hb2)
  clear hb2
  go_wp2_with fail
  go_ret
  exact ⟨rfl, HB2.out⟩
end Go.Proofs.YtemmagkkigdhjaaGreatDoor.Cols

