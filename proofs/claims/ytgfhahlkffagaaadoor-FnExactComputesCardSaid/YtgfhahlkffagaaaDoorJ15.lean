/-
  Texts of one seat, joined: Area, Bal, Colour.
-/
import Derived.Test.YtgfhahlkffagaaaDoorJ10
import Derived.WalkSmall
import Derived.Test.YtgfhahlkffagaaaDoorJ3
import Derived.Test.YtgfhahlkffagaaaDoorJ14
/-
  The reference's AreaOf and l1Ones.
-/
namespace Go.Proofs.YtgfhahlkffagaaaDoor.Area
open Go.RowKit Go.Proofs.YtgfhahlkffagaaaDoor.Plain Go.Proofs.YtgfhahlkffagaaaDoor.Pat Go.Proofs.YtgfhahlkffagaaaDoor.Rect Go.Proofs.YtgfhahlkffagaaaDoor.Patch
set_option linter.unusedVariables false

theorem and_one8 : ∀ m : Nat, m < 256 → Go.bits .and .i64 (m : Int) 1 = ((m % 2 : Nat) : Int) := by
  have h : ∀ k : Fin 256, Go.bits .and .i64 ((k.val : Nat) : Int) 1 = ((k.val % 2 : Nat) : Int) := by decide +kernel
  intro k hk
  exact h ⟨k, hk⟩
theorem pop8_half (a : Nat) (h : a < 256) : pop8 a = a % 2 + pop8 (a / 2) := by
  unfold pop8
  omega

set_option maxHeartbeats 400000 in
theorem ones8 (n : Nat) (hn : n < 256) (w : World) :
    Calls Tryd.prog 127 #[.int .i64 (n : Int)] w fun e w' => e = .returned (.int .i64 (pop8 n : Int)) ∧ w' = w := by
  go_enter Tryd.func127, Tryd.ntmps127
  go_wp2_with fail
  go_loop [0, 3] (fun m k => ∃ (a t : Nat), a < 256 ∧ t ≤ 8 ∧ m = .int .i64 (a : Int) ∧ k = .int .i64 (t : Int) ∧ Hid (pop8 a + t = pop8 n)) (fun m _ => (intOf m).toNat)
  case atStart => exact ⟨n, 0, hn, by omega, rfl, rfl, rfl⟩
  case round =>
    obtain ⟨a, t, ha, ht, rfl, rfl, hs⟩ := hrel
    by_cases h0 : 0 < a
    · have hbit := and_one8 a ha
      have HN : Hid (t + a % 2 ≤ 8 ∧ pop8 (a / 2) + (t + a % 2) = pop8 n) := by
        have ho := hs.out
        have hp := pop8_half a ha
        have hq := pop8_le n
        unfold Hid
        omega
      clear hs
      go_wp2_with fail
      go_round
      case rel => exact ⟨a / 2, t + a % 2, by omega, HN.out.1, by go_num, by go_num, HN.out.2⟩
      case measure => simp [intOf]; omega
    · obtain rfl : a = 0 := by omega
      have HO := Lib.hid (show t = pop8 n by have ho := hs.out; rw [show pop8 0 = 0 from rfl, Nat.zero_add] at ho; exact ho)
      clear hs
      go_wp2_with fail
      go_ret
      exact ⟨by rw [← HO.out]; rfl, rfl⟩

set_option maxHeartbeats 1000000 in
theorem spec_area (R C : Nat) (hR1 : 1 ≤ R) (hR : R < 256) (hC1 : 1 ≤ C) (hC : C < 256) (w : World) :
    Calls Tryd.prog 104 #[rect R C] w fun e w' => e = .returned (.int .i64 ((pop8 R * pop8 C : Nat) : Int)) ∧ Below w.heap.size w w' := by
  have HS := Lib.hid (show someB R C = true by rw [someB_iff]; omega)
  have HM : Hid (wrap64 ((pop8 R : Int) * (pop8 C : Int)) = ((pop8 R * pop8 C : Nat) : Int)) := by
    have h1 := pop8_le R
    have h2 := pop8_le C
    have h3 : pop8 R * pop8 C ≤ 8 * 8 := Nat.mul_le_mul h1 h2
    unfold Hid
    rw [← Int.natCast_mul]
    unfold wrap64
    omega
  go_enter Tryd.func104, Tryd.ntmps104
  go_wp2_with fail
  refine (some_any _ _ _).mono ?_
  rintro e w1 ⟨rfl, hb1⟩
  rw [HS.out]
  obtain ⟨c0, c1, hz, HB⟩ := box2 hb1
  clear hb1
  go_wp2_with fail
  go_quiet ((go_at_call 127; exact Calls.quiet_of_same (ones8 _ (by assumption) _)))
  go_wp2_with fail
  go_ret
  exact ⟨congrArg (fun v => Ending.returned (Value.int .i64 v)) HM.out, below_drewN HB.out _⟩
set_option maxHeartbeats 1000000 in
theorem spec_area_no (r c : Int) (h : someB r c = false) (w : World) :
    Calls Tryd.prog 104 #[rect r c] w fun e w' => e = .returned (.int .i64 (-1)) ∧ Below w.heap.size w w' := by
  have HS := Lib.hid h
  clear h
  go_enter Tryd.func104, Tryd.ntmps104
  go_wp2_with fail
  refine (some_any _ _ _).mono ?_
  rintro e w1 ⟨rfl, hb1⟩
  rw [HS.out]
  obtain ⟨c0, c1, hz, HB⟩ := box2 hb1
  clear hb1
  go_wp2_with fail
  go_ret
  exact ⟨rfl, HB.out⟩
end Go.Proofs.YtgfhahlkffagaaaDoor.Area

/-
  Plain facts: the balance of a rectangle, entry by entry and by counts of ones. Nothing of the program.
-/
namespace Go.Proofs.YtgfhahlkffagaaaDoor.Bal
open Go.RowKit Go.Proofs.YtgfhahlkffagaaaDoor.Plain Go.Proofs.YtgfhahlkffagaaaDoor.Pat

def sumI (f : Nat → Int) : Nat → Int
  | 0 => 0
  | n + 1 => sumI f n + f n
theorem sumI_congr (f g : Nat → Int) : ∀ n, (∀ x, x < n → f x = g x) → sumI f n = sumI g n
  | 0, _ => rfl
  | n + 1, h => by rw [sumI, sumI, sumI_congr f g n (fun x hx => h x (by omega)), h n (by omega)]
theorem sumI_sub (f g : Nat → Int) : ∀ n, sumI f n - sumI g n = sumI (fun x => f x - g x) n
  | 0 => rfl
  | n + 1 => by
    rw [sumI, sumI, sumI, ← sumI_sub f g n]
    omega
theorem sumI_neg (f : Nat → Int) : ∀ n, - sumI f n = sumI (fun x => - f x) n
  | 0 => rfl
  | n + 1 => by
    rw [sumI, sumI, ← sumI_neg f n]
    omega
theorem sumI_cast (f : Nat → Nat) : ∀ n, ((sumN f n : Nat) : Int) = sumI (fun x => (f x : Int)) n
  | 0 => rfl
  | n + 1 => by rw [sumN, sumI, ← sumI_cast f n, Int.natCast_add]
theorem sumI_zero (f : Nat → Int) : ∀ n, (∀ x, x < n → f x = 0) → sumI f n = 0
  | 0, _ => rfl
  | n + 1, h => by rw [sumI, sumI_zero f n (fun x hx => h x (by omega)), h n (by omega)]; rfl
theorem sumI_cut (f : Nat → Int) (c : Nat) : ∀ n, c ≤ n → (∀ x, c ≤ x → x < n → f x = 0) → sumI f n = sumI f c
  | 0, h, _ => by
    obtain rfl : c = 0 := by omega
    rfl
  | n + 1, h, hz => by
    by_cases e : c = n + 1
    · rw [e]
    · rw [sumI, sumI_cut f c n (by omega) (fun x hx hn => hz x hx (by omega)), hz n (by omega) (by omega)]
      omega
theorem sumI_mul (f : Nat → Int) (k : Int) : ∀ n, sumI f n * k = sumI (fun x => f x * k) n
  | 0 => by simp [sumI]
  | n + 1 => by rw [sumI, sumI, ← sumI_mul f k n, Int.add_mul]
theorem sumI_bound (f : Nat → Int) (b : Int) (h : ∀ x, - b ≤ f x ∧ f x ≤ b) : ∀ n : Nat, - (b * n) ≤ sumI f n ∧ sumI f n ≤ b * n
  | 0 => by simp [sumI]
  | n + 1 => by
    have h1 := sumI_bound f b h n
    have h2 := h n
    rw [sumI, Int.natCast_add, Int.mul_add]
    simp only [Int.natCast_one, Int.mul_one]
    omega
/-- two sums of which one is never greater are equal just if they are so everywhere -/
theorem sumI_eq (f g : Nat → Int) : ∀ n, (∀ x, x < n → f x ≤ g x) → sumI f n ≤ sumI g n ∧ (sumI f n = sumI g n ↔ ∀ x, x < n → f x = g x)
  | 0, _ => ⟨Int.le_refl _, fun _ x hx => absurd hx (by omega), fun _ => rfl⟩
  | n + 1, h => by
    obtain ⟨h1, h2⟩ := sumI_eq f g n (fun x hx => h x (by omega))
    have h3 := h n (by omega)
    rw [sumI, sumI]
    refine ⟨by omega, fun he x hx => ?_, fun he => ?_⟩
    · have e1 : sumI f n = sumI g n := by omega
      by_cases e : x = n
      · subst e; omega
      · exact h2.1 e1 x (by omega)
    · rw [h2.2 (fun x hx => he x (by omega)), he n (by omega)]

/-- what an entry of the rectangle counts -/
def term (E : Nat → Nat → Bool) (RS CS x y : Nat) : Int := if (RS.testBit x && CS.testBit y) = true then (if E x y = true then 1 else -1) else 0
/-- the balance of a rectangle in so many rows and columns -/
def bal (E : Nat → Nat → Bool) (RS CS r c : Nat) : Int := sumI (fun x => sumI (term E RS CS x) c) r
theorem term_bound (E : Nat → Nat → Bool) (RS CS x y : Nat) : -1 ≤ term E RS CS x y ∧ term E RS CS x y ≤ 1 := by
  unfold term
  split
  · split <;> omega
  · omega
/-- the balance when so many rows, and so many columns of the next one, are counted -/
def balTo (E : Nat → Nat → Bool) (RS CS c k j : Nat) : Int := bal E RS CS k c + sumI (term E RS CS k) j
theorem balTo_bound (E : Nat → Nat → Bool) (RS CS c k j : Nat) (hc : c ≤ 8) (hk : k ≤ 8) (hj : j ≤ 8) : -72 ≤ balTo E RS CS c k j ∧ balTo E RS CS c k j ≤ 72 := by
  have h1 := sumI_bound (term E RS CS k) 1 (term_bound E RS CS k) j
  have h2 := sumI_bound (fun x => sumI (term E RS CS x) c) 8 (fun x => by have := sumI_bound (term E RS CS x) 1 (term_bound E RS CS x) c; omega) k
  unfold balTo bal
  omega
theorem balTo_row (E : Nat → Nat → Bool) (RS CS c k : Nat) : balTo E RS CS c k c = balTo E RS CS c (k + 1) 0 := by
  unfold balTo bal
  simp only [sumI]
  omega
theorem balTo_end (E : Nat → Nat → Bool) (RS CS c k : Nat) : balTo E RS CS c k 0 = bal E RS CS k c := by
  unfold balTo
  simp only [sumI]
  omega
theorem balTo_start (E : Nat → Nat → Bool) (RS CS c : Nat) : balTo E RS CS c 0 0 = 0 := by
  unfold balTo bal
  simp only [sumI]
  rfl
theorem balTo_in (E : Nat → Nat → Bool) (RS CS c k j : Nat) (h1 : RS.testBit k = true) (h2 : CS.testBit j = true) : balTo E RS CS c k (j + 1) = balTo E RS CS c k j - 1 + 2 * bitI (E k j) := by
  unfold balTo
  rw [sumI]
  have : term E RS CS k j = - 1 + 2 * bitI (E k j) := by
    unfold term
    rw [h1, h2]
    cases E k j <;> rfl
  omega
theorem balTo_out (E : Nat → Nat → Bool) (RS CS c k j : Nat) (h : (RS.testBit k && CS.testBit j) = false) : balTo E RS CS c k (j + 1) = balTo E RS CS c k j := by
  unfold balTo
  rw [sumI]
  have : term E RS CS k j = 0 := by
    unfold term
    rw [h]
    rfl
  omega

/-- the bytes of a rectangle, of all entries for which P holds (as elsewhere) -/
def rB (R C : Nat) : Nat → Nat := fun j => if R.testBit j then C else 0
def oB (P : Nat → Nat → Bool) (r c : Nat) : Nat → Nat := fun j => if j < r then setB (P j) c else 0
theorem count_row (P : Nat → Bool) (CS c : Nat) (hc : c ≤ 8) (hCS : CS < 256) : ((pop8 (CS &&& setB P c) : Nat) : Int) = sumI (fun y => if (CS.testBit y && P y) = true then 1 else 0) c := by
  have hlt : CS &&& setB P c < 256 := Nat.lt_of_le_of_lt Nat.and_le_left hCS
  rw [pop8_bits _ hlt, sumI_cast, sumI_cut _ c 8 hc]
  · apply sumI_congr
    intro y hy
    rw [Nat.testBit_and, setB_bit, decide_eq_true hy, Bool.true_and]
    cases (CS.testBit y && P y) <;> rfl
  · intro y hy _
    rw [Nat.testBit_and, setB_bit, decide_eq_false (by omega), Bool.false_and, Bool.and_false]
    rfl
theorem pop8_zero : pop8 0 = 0 := rfl
/-- the balance by counts of ones -/
theorem bal_count (E : Nat → Nat → Bool) (RS CS r c : Nat) (hr : r ≤ 8) (hc : c ≤ 8) (hCS : CS < 256) :
    ((sumN (fun x => pop8 (rB RS CS x &&& oB E r c x)) 8 : Nat) : Int) - ((sumN (fun x => pop8 (rB RS CS x &&& oB (fun x y => !E x y) r c x)) 8 : Nat) : Int) = bal E RS CS r c := by
  rw [sumI_cast, sumI_cast, sumI_sub, sumI_cut _ r 8 hr]
  · unfold bal
    apply sumI_congr
    intro x hx
    unfold rB oB
    rw [if_pos hx, if_pos hx]
    by_cases h : RS.testBit x = true
    · rw [if_pos h, count_row (E x) CS c hc hCS, count_row (fun y => !E x y) CS c hc hCS, sumI_sub]
      apply sumI_congr
      intro y _
      unfold term
      rw [h]
      cases CS.testBit y <;> cases E x y <;> rfl
    · rw [if_neg h, Nat.zero_and, Nat.zero_and, pop8_zero]
      rw [Bool.not_eq_true] at h
      refine Eq.symm (Eq.trans (sumI_zero _ c fun y _ => ?_) rfl)
      unfold term
      rw [h]
      rfl
  · intro x hx _
    unfold oB
    rw [if_neg (by omega), if_neg (by omega), Nat.and_zero, pop8_zero]
    rfl

/-- an entry of the rectangle -/
def one (RS CS x y : Nat) : Int := if (RS.testBit x && CS.testBit y) = true then 1 else 0
theorem area_sum (RS CS r c : Nat) (hr : r ≤ 8) (hc : c ≤ 8) (hRS : RS < 2 ^ r) (hCS : CS < 2 ^ c) : ((pop8 RS * pop8 CS : Nat) : Int) = sumI (fun x => sumI (one RS CS x) c) r := by
  have hR : RS < 256 := Nat.lt_of_lt_of_le hRS (Nat.pow_le_pow_right (n := 2) (by decide) hr)
  have hC : CS < 256 := Nat.lt_of_lt_of_le hCS (Nat.pow_le_pow_right (n := 2) (by decide) hc)
  have e1 : ((pop8 CS : Nat) : Int) = sumI (fun y => ((CS.testBit y).toNat : Int)) c := by
    rw [pop8_bits _ hC, sumI_cast, sumI_cut _ c 8 hc]
    intro y hy _
    rw [bit_beyond CS y c hCS hy]
    rfl
  have e2 : ((pop8 RS : Nat) : Int) = sumI (fun y => ((RS.testBit y).toNat : Int)) r := by
    rw [pop8_bits _ hR, sumI_cast, sumI_cut _ r 8 hr]
    intro y hy _
    rw [bit_beyond RS y r hRS hy]
    rfl
  rw [Int.natCast_mul, e2, sumI_mul]
  apply sumI_congr
  intro x _
  cases h : RS.testBit x
  · rw [sumI_zero (one RS CS x) c (fun y _ => by unfold one; rw [h]; rfl)]
    simp
  · rw [e1]
    simp only [Bool.toNat_true, Int.natCast_one, Int.one_mul]
    apply sumI_congr
    intro y _
    unfold one
    rw [h]
    cases CS.testBit y <;> rfl
/-- the balance is the area just if all entries are ones -/
theorem bal_area (E : Nat → Nat → Bool) (RS CS r c : Nat) (hr : r ≤ 8) (hc : c ≤ 8) (hRS : RS < 2 ^ r) (hCS : CS < 2 ^ c) :
    bal E RS CS r c = ((pop8 RS * pop8 CS : Nat) : Int) ↔ ∀ x y, RS.testBit x = true → CS.testBit y = true → E x y = true := by
  rw [area_sum RS CS r c hr hc hRS hCS]
  unfold bal
  have hle : ∀ x y, term E RS CS x y ≤ one RS CS x y := fun x y => by
    unfold term one
    split
    · split <;> omega
    · omega
  have hrow := fun x => sumI_eq (term E RS CS x) (one RS CS x) c (fun y _ => hle x y)
  rw [(sumI_eq (fun x => sumI (term E RS CS x) c) (fun x => sumI (one RS CS x) c) r (fun x _ => (hrow x).1)).2]
  constructor
  · intro h x y hx hy
    have hxr : x < r := by
      rcases Nat.lt_or_ge x r with h2 | h2
      · exact h2
      · rw [bit_beyond RS x r hRS h2] at hx; cases hx
    have hyc : y < c := by
      rcases Nat.lt_or_ge y c with h2 | h2
      · exact h2
      · rw [bit_beyond CS y c hCS h2] at hy; cases hy
    have := ((hrow x).2.1 (h x hxr)) y hyc
    unfold term one at this
    rw [hx, hy] at this
    cases hE : E x y
    · rw [hE] at this; simp at this
    · rfl
  · intro h x _
    refine (hrow x).2.2 fun y _ => ?_
    unfold term one
    by_cases hin : (RS.testBit x && CS.testBit y) = true
    · rw [Bool.and_eq_true] at hin
      rw [hin.1, hin.2, h x y hin.1 hin.2]
      rfl
    · rw [if_neg hin, if_neg hin]
theorem bal_not (E : Nat → Nat → Bool) (RS CS r c : Nat) : - bal E RS CS r c = bal (fun x y => !E x y) RS CS r c := by
  unfold bal
  rw [sumI_neg]
  apply sumI_congr
  intro x _
  rw [sumI_neg]
  apply sumI_congr
  intro y _
  show - (if (RS.testBit x && CS.testBit y) = true then (if E x y = true then (1 : Int) else -1) else 0) = if (RS.testBit x && CS.testBit y) = true then (if (!E x y) = true then 1 else -1) else 0
  cases RS.testBit x <;> cases CS.testBit y <;> cases E x y <;> rfl
theorem pop8_pos (n : Nat) (h1 : 1 ≤ n) (h2 : n < 256) : 1 ≤ pop8 n := by
  have h : ∀ k : Fin 256, 1 ≤ k.val → 1 ≤ pop8 k.val := by decide +kernel
  exact h ⟨n, h2⟩ h1
end Go.Proofs.YtgfhahlkffagaaaDoor.Bal

/-
  The reference's l2Balance and l2Colour; ColourOf and BalanceOf.
-/
namespace Go.Proofs.YtgfhahlkffagaaaDoor.Colour
open Go.RowKit Go.Proofs.YtgfhahlkffagaaaDoor.Plain Go.Proofs.YtgfhahlkffagaaaDoor.Base Go.Proofs.YtgfhahlkffagaaaDoor.Valid Go.Proofs.YtgfhahlkffagaaaDoor.Law Go.Proofs.YtgfhahlkffagaaaDoor.GridPlain Go.Proofs.YtgfhahlkffagaaaDoor.Grid Go.Proofs.YtgfhahlkffagaaaDoor.Entry Go.Proofs.YtgfhahlkffagaaaDoor.Pat Go.Proofs.YtgfhahlkffagaaaDoor.Rect Go.Proofs.YtgfhahlkffagaaaDoor.Patch Go.Proofs.YtgfhahlkffagaaaDoor.FreeL Go.Proofs.YtgfhahlkffagaaaDoor.Board Go.Proofs.YtgfhahlkffagaaaDoor.BoardM Go.Proofs.YtgfhahlkffagaaaDoor.RValid Go.Proofs.YtgfhahlkffagaaaDoor.Area Go.Proofs.YtgfhahlkffagaaaDoor.Bal
open Go.Proofs.YtgfhahlkffagaaaDoor.Free (fill wp_value wp_enter wp_load_row freeB)
set_option linter.unusedVariables false

set_option maxHeartbeats 400000 in
theorem int_any (b : Bool) (w : World) :
    Calls Tryd.prog 38 #[.bool b] w fun e w' => e = .returned (.int .i64 (bitI b)) ∧ w = w' := by
  cases b
  all_goals
    go_enter Tryd.func38, Tryd.ntmps38
    go_wp2
    go_ret
    exact ⟨rfl, rfl⟩

/-- what the loops keep -/
structure CInv (w wr : World) (R C : Nat) (s : ByteArray) (RS CS : Nat) : Prop where
  m : MHolds wr w.heap.size 27 R C s
  t : THolds wr (w.heap.size + 1) 60 RS CS
  below : Below w.heap.size w wr
theorem CInv.later {w wr w2 : World} {R C : Nat} {s : ByteArray} {RS CS : Nat} (h : CInv w wr R C s RS CS) (hb : Below wr.heap.size wr w2) : CInv w w2 R C s RS CS := ⟨mh_on h.m hb, th_on h.t hb, rstep h.below hb⟩

set_option maxHeartbeats 2000000 in
theorem spec_bal (E : Nat → Nat → Bool) (R C : Nat) (hR1 : 1 ≤ R) (hR : R ≤ 8) (hC1 : 1 ≤ C) (hC : C ≤ 8) (RS CS : Nat) (hRS : RS < 256) (hCS : CS < 256) (w : World) :
    Calls Tryd.prog 103 #[mat R C (str (rowsB E R C)), rect RS CS] w fun e w' => e = .returned (.int .i64 (bal E RS CS R C)) ∧ Below w.heap.size w w' := by
  have HAT := Lib.hid (fun x y hx hy W => at_any E R C hR hC x y hx hy W)
  generalize str (rowsB E R C) = s at *
  go_enter Tryd.func103, Tryd.ntmps103
  go_wp2_with fail
  obtain ⟨e0, e1, hb0⟩ := two_box (w := w) (a := .cells #[.int .i64 (R : Int), .int .i64 (C : Int), .string s] 27) (b := .cells #[.int .i64 (RS : Int), .int .i64 (CS : Int)] 60)
  generalize (w.alloc (.cells #[.int .i64 (R : Int), .int .i64 (C : Int), .string s] 27)).alloc (.cells #[.int .i64 (RS : Int), .int .i64 (CS : Int)] 60) = W0 at *
  have HI0 : Hid (CInv w W0 R C s RS CS) := ⟨e0, e1, hb0⟩
  clear e0 e1 hb0
  go_loopw [5, 6] (fun n x wr => ∃ (k : Nat) (v : Int), k ≤ R ∧ n = .int .i64 v ∧ v = balTo E RS CS C k 0 ∧ x = .int .i64 (k : Int) ∧ CInv w wr R C s RS CS) (fun _ x _ => R - (intOf x).toNat)
  case atStart => exact ⟨0, 0, Nat.zero_le _, rfl, (balTo_start E RS CS C).symm, rfl, HI0.out⟩
  case round =>
    obtain ⟨k, v, hk, rfl, hv, rfl, hinv⟩ := hrel
    clear HI0
    obtain ⟨q0, q1, q2⟩ := mh_c hinv.m
    by_cases hlt : k < R
    · have HV := Lib.hid hv
      have HI := Lib.hid hinv
      clear hv hinv
      go_wp2_with fail
      go_loopw [5, 7] (fun n y wr => ∃ (j : Nat) (v : Int), j ≤ C ∧ n = .int .i64 v ∧ v = balTo E RS CS C k j ∧ y = .int .i64 (j : Int) ∧ CInv w wr R C s RS CS) (fun _ y _ => C - (intOf y).toNat)
      case atStart => exact ⟨0, v, Nat.zero_le _, rfl, HV.out, rfl, HI.out⟩
      case round =>
        obtain ⟨j, v, hj, rfl, hv, rfl, hinv⟩ := hrel
        clear q0 q1 q2 HI HV
        obtain ⟨q0, q1, q2⟩ := mh_c hinv.m
        obtain ⟨p0, p1⟩ := th_c hinv.t
        by_cases hlt' : j < C
        · have hbd := balTo_bound E RS CS C k j hC (by omega) (by omega)
          rw [← hv] at hbd
          have k8 : k < 8 := by omega
          have j8 : j < 8 := by omega
          have HK := Lib.hid (fun W => l2In_any RS k hRS k8 W)
          have HJ := Lib.hid (fun W => l2In_any CS j hCS j8 W)
          have HA := Lib.hid (fun W => HAT.out k j hlt hlt' W)
          have HI := Lib.hid hinv
          clear hinv
          obtain ⟨b1, h1⟩ : ∃ b, RS.testBit k = b := ⟨_, rfl⟩
          obtain ⟨b2, h2⟩ : ∃ b, CS.testBit j = b := ⟨_, rfl⟩
          obtain ⟨b3, h3⟩ : ∃ b, E k j = b := ⟨_, rfl⟩
          rw [h1] at HK
          rw [h2] at HJ
          rw [h3] at HA
          cases b1
          · have HN : Hid (v = balTo E RS CS C k (j + 1)) := by
              unfold Hid
              rw [balTo_out E RS CS C k j (by rw [h1]; rfl)]
              exact hv
            clear hv h1 h2 h3
            go_wp2_with fail
            refine (HK.out _).mono ?_
            rintro e w' ⟨rfl, rfl⟩
            go_wp2_with fail
            go_roundw
            case rel => exact ⟨j + 1, v, by omega, rfl, HN.out, by go_num, HI.out⟩
            case measure => simp [intOf]; omega
          · cases b2
            · have HN : Hid (v = balTo E RS CS C k (j + 1)) := by
                unfold Hid
                rw [balTo_out E RS CS C k j (by rw [h1, h2]; rfl)]
                exact hv
              clear hv h1 h2 h3
              go_wp2_with fail
              refine (HK.out _).mono ?_
              rintro e w' ⟨rfl, rfl⟩
              go_wp2_with fail
              refine (HJ.out _).mono ?_
              rintro e w' ⟨rfl, rfl⟩
              go_wp2_with fail
              go_roundw
              case rel => exact ⟨j + 1, v, by omega, rfl, HN.out, by go_num, HI.out⟩
              case measure => simp [intOf]; omega
            · have HN : Hid (balTo E RS CS C k (j + 1) = v - 1 + 2 * bitI b3) := by
                unfold Hid
                rw [balTo_in E RS CS C k j h1 h2, h3, hv]
              clear hv h1 h2 h3
              go_wp2_with fail
              refine (HK.out _).mono ?_
              rintro e w' ⟨rfl, rfl⟩
              go_wp2_with fail
              refine (HJ.out _).mono ?_
              rintro e w' ⟨rfl, rfl⟩
              go_wp2_with fail
              refine (HA.out _).mono ?_
              rintro e w2 ⟨rfl, hb2⟩
              have HI2 := Lib.hid (HI.out.later hb2)
              clear hb2 q0 q1 q2 p0 p1
              go_wp2_with fail
              refine (int_any _ _).mono ?_
              rintro e w' ⟨rfl, rfl⟩
              cases b3
              · rw [bitI_false] at HN ⊢
                go_wp2_with fail
                go_roundw
                case rel => exact ⟨j + 1, v - 1, by omega, by go_num, by rw [HN.out]; omega, by go_num, HI2.out⟩
                case measure => simp [intOf]; omega
              · rw [bitI_true] at HN ⊢
                go_wp2_with fail
                go_roundw
                case rel => exact ⟨j + 1, v + 1, by omega, by go_num, by rw [HN.out]; omega, by go_num, HI2.out⟩
                case measure => simp [intOf]; omega
        · obtain rfl : j = C := by omega
          have HV := Lib.hid hv
          have HI := Lib.hid hinv
          clear hv hinv
          go_wp2_with fail
          go_roundw
          case rel => exact ⟨k + 1, v, by omega, rfl, by rw [← balTo_row]; exact HV.out, by go_num, HI.out⟩
          case measure => simp [intOf]; omega
    · obtain rfl : k = R := by omega
      have HV : Hid (v = bal E RS CS k C) := by rw [balTo_end] at hv; exact hv
      have HI := Lib.hid hinv
      clear hv hinv
      go_wp2_with fail
      go_ret
      exact ⟨by rw [← HV.out]; rfl, HI.out.below⟩

/-- what the reference calls the value of a rectangle -/
def colV (v a : Int) : Int := if v = a then 1 else if v = - a then 0 else -1

set_option maxHeartbeats 1000000 in
theorem spec_l2col (E : Nat → Nat → Bool) (R C : Nat) (hR1 : 1 ≤ R) (hR : R ≤ 8) (hC1 : 1 ≤ C) (hC : C ≤ 8) (RS CS : Nat) (hRS1 : 1 ≤ RS) (hRS : RS < 256) (hCS1 : 1 ≤ CS) (hCS : CS < 256) (w : World) :
    Calls Tryd.prog 77 #[mat R C (str (rowsB E R C)), rect RS CS] w fun e w' => e = .returned (.int .i64 (colV (bal E RS CS R C) ((pop8 RS * pop8 CS : Nat) : Int))) ∧ Below w.heap.size w w' := by
  have HBL := Lib.hid (fun W => spec_bal E R C hR1 hR hC1 hC RS CS hRS hCS W)
  have HAR := Lib.hid (fun W => spec_area RS CS hRS1 hRS hCS1 hCS W)
  have har : pop8 RS * pop8 CS ≤ 64 := Nat.mul_le_mul (pop8_le RS) (pop8_le CS)
  generalize str (rowsB E R C) = s at *
  generalize bal E RS CS R C = v at *
  generalize pop8 RS * pop8 CS = a at *
  unfold colV
  by_cases h1 : v = (a : Int)
  · rw [if_pos h1]
    subst h1
    go_enter Tryd.func77, Tryd.ntmps77
    go_wp2_with fail
    refine (HBL.out _).mono ?_
    rintro e w1 ⟨rfl, hb1⟩
    obtain ⟨m0, t0, hbel⟩ := boxes hb1
    obtain ⟨p0, p1⟩ := th_c t0
    have TH := Lib.hid t0
    have HB := Lib.hid hbel
    clear hb1 hbel m0 t0
    go_wp2_with fail
    refine (HAR.out _).mono ?_
    rintro e w2 ⟨rfl, hb2⟩
    have HB2 := Lib.hid (rstep HB.out hb2)
    clear hb2
    go_wp2_with fail
    go_ret
    exact ⟨rfl, HB2.out⟩
  · rw [if_neg h1]
    obtain ⟨b1, hb1⟩ : ∃ b, (v == (a : Int)) = b := ⟨_, rfl⟩
    obtain rfl : b1 = false := by rw [← hb1]; exact beq_eq_false_iff_ne.2 h1
    obtain ⟨b2, hb2⟩ : ∃ b, (v == - (a : Int)) = b := ⟨_, rfl⟩
    have HV : Hid ((if v = - (a : Int) then (0 : Int) else -1) = if b2 = true then 0 else -1) := by
      unfold Hid
      by_cases h2 : v = - (a : Int)
      · obtain rfl : b2 = true := by rw [← hb2]; exact beq_iff_eq.2 h2
        rw [if_pos h2, if_pos rfl]
      · obtain rfl : b2 = false := by rw [← hb2]; exact beq_eq_false_iff_ne.2 h2
        rw [if_neg h2, if_neg (by decide)]
    rw [HV.out]
    clear h1 HV
    cases b2
    all_goals
      go_enter Tryd.func77, Tryd.ntmps77
      go_wp2_with fail
      refine (HBL.out _).mono ?_
      rintro e w1 ⟨rfl, hw1⟩
      obtain ⟨m0, t0, hbel⟩ := boxes hw1
      obtain ⟨p0, p1⟩ := th_c t0
      have TH := Lib.hid t0
      have HB := Lib.hid hbel
      clear hw1 hbel m0 t0
      go_wp2_with fail
      refine (HAR.out _).mono ?_
      rintro e w2 ⟨rfl, hw2⟩
      obtain ⟨p0, p1⟩ := th_c (th_on TH.out hw2)
      have HB2 := Lib.hid (rstep HB.out hw2)
      clear hw2 TH HB
      go_wp2_with fail
      refine (HAR.out _).mono ?_
      rintro e w3 ⟨rfl, hw3⟩
      have HB3 := Lib.hid (rstep HB2.out hw3)
      clear hw3
      go_wp2_with fail
      go_ret
      exact ⟨rfl, HB3.out⟩

/-- a callee of the reference's that is asked behind RectValid -/
theorem rv_nat {R C : Nat} {r c : Int} (hR : R ≤ 8) (hC : C ≤ 8) (h : rvB R C r c = true) : ∃ RS CS : Nat, r = (RS : Int) ∧ c = (CS : Int) ∧ 1 ≤ RS ∧ RS < 2 ^ R ∧ 1 ≤ CS ∧ CS < 2 ^ C ∧ RS < 256 ∧ CS < 256 := by
  unfold rvB at h
  rw [Bool.and_eq_true, decide_eq_true_iff, decide_eq_true_iff] at h
  obtain ⟨⟨h1, h2⟩, h3, h4⟩ := h
  obtain ⟨RS, rfl⟩ := Int.eq_ofNat_of_zero_le (show 0 ≤ r by omega)
  obtain ⟨CS, rfl⟩ := Int.eq_ofNat_of_zero_le (show 0 ≤ c by omega)
  have e1 : ((2 : Int) ^ R) = ((2 ^ R : Nat) : Int) := by simp
  have e2 : ((2 : Int) ^ C) = ((2 ^ C : Nat) : Int) := by simp
  have h5 : 2 ^ R ≤ 2 ^ 8 := Nat.pow_le_pow_right (by decide) hR
  have h6 : 2 ^ C ≤ 2 ^ 8 := Nat.pow_le_pow_right (by decide) hC
  rw [e1] at h2
  rw [e2] at h4
  generalize 2 ^ R = X at *
  generalize 2 ^ C = Y at *
  exact ⟨RS, CS, rfl, rfl, by omega, by omega, by omega, by omega, by omega, by omega⟩

end Go.Proofs.YtgfhahlkffagaaaDoor.Colour

