/-
  Texts of one seat, joined: CountWalk, Bal, ColM, EntWalk.
-/
import Derived.Test.YtbbgibbpeibhiaaGreatDoorJn13
import Derived.Shelf.Strings.Count
import Derived.Test.YtbbgibbpeibhiaaGreatDoorJn3
import Derived.Test.YtbbgibbpeibhiaaGreatDoorJn14
import Derived.Deep.WholeRow
/-
  The walk of the law on CountOnes.
-/
namespace Go.Proofs.YtbbgibbpeibhiaaGreatDoor.fnExactCountOnes
open Go.RowKit Go.Proofs.YtbbgibbpeibhiaaGreatDoor.Plain Go.Proofs.YtbbgibbpeibhiaaGreatDoor.Base Go.Proofs.YtbbgibbpeibhiaaGreatDoor.Valid Go.Proofs.YtbbgibbpeibhiaaGreatDoor.Law
set_option linter.unusedVariables false

/-- what CountOnes returns -/
def cntI (r c : Int) (s : ByteArray) : Int := if validB r c s then (Lib.countByte s.data.toList 49 : Nat) else -1

theorem count_any (s : ByteArray) (w : World) :
    Calls Tryz.prog 63 #[.string s, .string ⟨#[49]⟩] w fun e w' => e = .returned (.int .i64 (Lib.countByte s.data.toList 49 : Nat)) ∧ w' = w :=
  Any.strings_Count_one Tryz.lays138 s 49 w

set_option maxHeartbeats 400000 in
theorem impl_count (r c : Int) (s : ByteArray) (hs : s.size ≤ maxLen) (w : World) :
    Calls Tryz.prog 47 #[mat r c s] w fun e w' => e = .returned (.int .i64 (cntI r c s)) ∧ Below w.heap.size w w' := by
  unfold cntI
  obtain ⟨b, hb⟩ : ∃ b, validB r c s = b := ⟨_, rfl⟩
  rw [hb]
  have HV := Lib.hid hb
  clear hb
  go_enter Tryz.func47, Tryz.ntmps47
  go_wp2_with fail
  refine (impl_valid r c s hs _).mono ?_
  rintro e w1 ⟨rfl, hb1⟩
  rw [HV.out]
  have HB := Lib.hid (bstep ((Below.refl w.heap.size w).alloc (Nat.le_refl _) _) hb1)
  obtain ⟨hc, hf⟩ := bcell hb1
  clear hb1
  cases b
  · go_wp2_with fail
    go_ret
    exact ⟨rfl, HB.out⟩
  · go_wp2_with fail
    refine (count_any s _).mono ?_
    rintro e w2 ⟨rfl, rfl⟩
    go_wp2_with fail
    go_ret
    exact ⟨rfl, HB.out⟩

theorem count_next (s : ByteArray) (k : Nat) (hk : k < s.size) (b : Bool) (hb : ((s[k].toNat : Int) == 49) = b) :
    ((Lib.countByte (s.data.toList.take (k + 1)) 49 : Nat) : Int) = ((Lib.countByte (s.data.toList.take k) 49 : Nat) : Int) + bitI b := by
  have ht : s.data.toList.take (k + 1) = s.data.toList.take k ++ [s[k]] := by
    rw [List.take_succ_eq_append_getElem (by simpa using hk)]; rfl
  rw [ht]
  unfold Lib.countByte
  rw [List.count_append]
  subst hb
  by_cases h : s[k] = 49
  · rw [h]; rfl
  · have h2 : ((s[k].toNat : Int) == 49) = false := beq_eq_false_iff_ne.2 fun e => h (UInt8.toNat_inj.1 (by show s[k].toNat = 49; omega))
    have h3 : List.count 49 [s[k]] = 0 := by simp [h]
    rw [h2, h3]
    simp [bitI]

end Go.Proofs.YtbbgibbpeibhiaaGreatDoor.fnExactCountOnes

/-
  Plain facts: the balance of a rectangle, entry by entry and by counts of ones. Nothing of the program.
-/
namespace Go.Proofs.YtbbgibbpeibhiaaGreatDoor.Bal
open Go.RowKit Go.Proofs.YtbbgibbpeibhiaaGreatDoor.Plain Go.Proofs.YtbbgibbpeibhiaaGreatDoor.Pat

def sumI (f : Nat → Int) : Nat → Int
  | 0 => 0
  | n + 1 => sumI f n + f n
theorem sumI_congr (f g : Nat → Int) : ∀ n, (∀ x, x < n → f x = g x) → sumI f n = sumI g n
  | 0, _ => rfl
  | n + 1, h => by rw [sumI, sumI, sumI_congr f g n (fun x hx => h x (by omega)), h n (by omega)]
theorem sumI_sub (f g : Nat → Int) : ∀ n, sumI f n - sumI g n = sumI (fun x => f x - g x) n
  | 0 => rfl
  | n + 1 => by
    rw [sumI, sumI, sumI, ← sumI_sub f g n]
    omega
theorem sumI_neg (f : Nat → Int) : ∀ n, - sumI f n = sumI (fun x => - f x) n
  | 0 => rfl
  | n + 1 => by
    rw [sumI, sumI, ← sumI_neg f n]
    omega
theorem sumI_cast (f : Nat → Nat) : ∀ n, ((sumN f n : Nat) : Int) = sumI (fun x => (f x : Int)) n
  | 0 => rfl
  | n + 1 => by rw [sumN, sumI, ← sumI_cast f n, Int.natCast_add]
theorem sumI_zero (f : Nat → Int) : ∀ n, (∀ x, x < n → f x = 0) → sumI f n = 0
  | 0, _ => rfl
  | n + 1, h => by rw [sumI, sumI_zero f n (fun x hx => h x (by omega)), h n (by omega)]; rfl
theorem sumI_cut (f : Nat → Int) (c : Nat) : ∀ n, c ≤ n → (∀ x, c ≤ x → x < n → f x = 0) → sumI f n = sumI f c
  | 0, h, _ => by
    obtain rfl : c = 0 := by omega
    rfl
  | n + 1, h, hz => by
    by_cases e : c = n + 1
    · rw [e]
    · rw [sumI, sumI_cut f c n (by omega) (fun x hx hn => hz x hx (by omega)), hz n (by omega) (by omega)]
      omega
theorem sumI_mul (f : Nat → Int) (k : Int) : ∀ n, sumI f n * k = sumI (fun x => f x * k) n
  | 0 => by simp [sumI]
  | n + 1 => by rw [sumI, sumI, ← sumI_mul f k n, Int.add_mul]
theorem sumI_bound (f : Nat → Int) (b : Int) (h : ∀ x, - b ≤ f x ∧ f x ≤ b) : ∀ n : Nat, - (b * n) ≤ sumI f n ∧ sumI f n ≤ b * n
  | 0 => by simp [sumI]
  | n + 1 => by
    have h1 := sumI_bound f b h n
    have h2 := h n
    rw [sumI, Int.natCast_add, Int.mul_add]
    simp only [Int.natCast_one, Int.mul_one]
    omega
/-- two sums of which one is never greater are equal just if they are so everywhere -/
theorem sumI_eq (f g : Nat → Int) : ∀ n, (∀ x, x < n → f x ≤ g x) → sumI f n ≤ sumI g n ∧ (sumI f n = sumI g n ↔ ∀ x, x < n → f x = g x)
  | 0, _ => ⟨Int.le_refl _, fun _ x hx => absurd hx (by omega), fun _ => rfl⟩
  | n + 1, h => by
    obtain ⟨h1, h2⟩ := sumI_eq f g n (fun x hx => h x (by omega))
    have h3 := h n (by omega)
    rw [sumI, sumI]
    refine ⟨by omega, fun he x hx => ?_, fun he => ?_⟩
    · have e1 : sumI f n = sumI g n := by omega
      by_cases e : x = n
      · subst e; omega
      · exact h2.1 e1 x (by omega)
    · rw [h2.2 (fun x hx => he x (by omega)), he n (by omega)]

/-- what an entry of the rectangle counts -/
def term (E : Nat → Nat → Bool) (RS CS x y : Nat) : Int := if (RS.testBit x && CS.testBit y) = true then (if E x y = true then 1 else -1) else 0
/-- the balance of a rectangle in so many rows and columns -/
def bal (E : Nat → Nat → Bool) (RS CS r c : Nat) : Int := sumI (fun x => sumI (term E RS CS x) c) r
theorem term_bound (E : Nat → Nat → Bool) (RS CS x y : Nat) : -1 ≤ term E RS CS x y ∧ term E RS CS x y ≤ 1 := by
  unfold term
  split
  · split <;> omega
  · omega
/-- the balance when so many rows, and so many columns of the next one, are counted -/
def balTo (E : Nat → Nat → Bool) (RS CS c k j : Nat) : Int := bal E RS CS k c + sumI (term E RS CS k) j
theorem balTo_bound (E : Nat → Nat → Bool) (RS CS c k j : Nat) (hc : c ≤ 8) (hk : k ≤ 8) (hj : j ≤ 8) : -72 ≤ balTo E RS CS c k j ∧ balTo E RS CS c k j ≤ 72 := by
  have h1 := sumI_bound (term E RS CS k) 1 (term_bound E RS CS k) j
  have h2 := sumI_bound (fun x => sumI (term E RS CS x) c) 8 (fun x => by have := sumI_bound (term E RS CS x) 1 (term_bound E RS CS x) c; omega) k
  unfold balTo bal
  omega
theorem balTo_row (E : Nat → Nat → Bool) (RS CS c k : Nat) : balTo E RS CS c k c = balTo E RS CS c (k + 1) 0 := by
  unfold balTo bal
  simp only [sumI]
  omega
theorem balTo_end (E : Nat → Nat → Bool) (RS CS c k : Nat) : balTo E RS CS c k 0 = bal E RS CS k c := by
  unfold balTo
  simp only [sumI]
  omega
theorem balTo_start (E : Nat → Nat → Bool) (RS CS c : Nat) : balTo E RS CS c 0 0 = 0 := by
  unfold balTo bal
  simp only [sumI]
  rfl
theorem balTo_in (E : Nat → Nat → Bool) (RS CS c k j : Nat) (h1 : RS.testBit k = true) (h2 : CS.testBit j = true) : balTo E RS CS c k (j + 1) = balTo E RS CS c k j - 1 + 2 * bitI (E k j) := by
  unfold balTo
  rw [sumI]
  have : term E RS CS k j = - 1 + 2 * bitI (E k j) := by
    unfold term
    rw [h1, h2]
    cases E k j <;> rfl
  omega
theorem balTo_out (E : Nat → Nat → Bool) (RS CS c k j : Nat) (h : (RS.testBit k && CS.testBit j) = false) : balTo E RS CS c k (j + 1) = balTo E RS CS c k j := by
  unfold balTo
  rw [sumI]
  have : term E RS CS k j = 0 := by
    unfold term
    rw [h]
    rfl
  omega

/-- the bytes of a rectangle, of all entries for which P holds (as elsewhere) -/
def rB (R C : Nat) : Nat → Nat := fun j => if R.testBit j then C else 0
def oB (P : Nat → Nat → Bool) (r c : Nat) : Nat → Nat := fun j => if j < r then setB (P j) c else 0
theorem count_row (P : Nat → Bool) (CS c : Nat) (hc : c ≤ 8) (hCS : CS < 256) : ((pop8 (CS &&& setB P c) : Nat) : Int) = sumI (fun y => if (CS.testBit y && P y) = true then 1 else 0) c := by
  have hlt : CS &&& setB P c < 256 := Nat.lt_of_le_of_lt Nat.and_le_left hCS
  rw [pop8_bits _ hlt, sumI_cast, sumI_cut _ c 8 hc]
  · apply sumI_congr
    intro y hy
    rw [Nat.testBit_and, setB_bit, decide_eq_true hy, Bool.true_and]
    cases (CS.testBit y && P y) <;> rfl
  · intro y hy _
    rw [Nat.testBit_and, setB_bit, decide_eq_false (by omega), Bool.false_and, Bool.and_false]
    rfl
theorem pop8_zero : pop8 0 = 0 := rfl
/-- the balance by counts of ones -/
theorem bal_count (E : Nat → Nat → Bool) (RS CS r c : Nat) (hr : r ≤ 8) (hc : c ≤ 8) (hCS : CS < 256) :
    ((sumN (fun x => pop8 (rB RS CS x &&& oB E r c x)) 8 : Nat) : Int) - ((sumN (fun x => pop8 (rB RS CS x &&& oB (fun x y => !E x y) r c x)) 8 : Nat) : Int) = bal E RS CS r c := by
  rw [sumI_cast, sumI_cast, sumI_sub, sumI_cut _ r 8 hr]
  · unfold bal
    apply sumI_congr
    intro x hx
    unfold rB oB
    rw [if_pos hx, if_pos hx]
    by_cases h : RS.testBit x = true
    · rw [if_pos h, count_row (E x) CS c hc hCS, count_row (fun y => !E x y) CS c hc hCS, sumI_sub]
      apply sumI_congr
      intro y _
      unfold term
      rw [h]
      cases CS.testBit y <;> cases E x y <;> rfl
    · rw [if_neg h, Nat.zero_and, Nat.zero_and, pop8_zero]
      rw [Bool.not_eq_true] at h
      refine Eq.symm (Eq.trans (sumI_zero _ c fun y _ => ?_) rfl)
      unfold term
      rw [h]
      rfl
  · intro x hx _
    unfold oB
    rw [if_neg (by omega), if_neg (by omega), Nat.and_zero, pop8_zero]
    rfl

/-- an entry of the rectangle -/
def one (RS CS x y : Nat) : Int := if (RS.testBit x && CS.testBit y) = true then 1 else 0
theorem area_sum (RS CS r c : Nat) (hr : r ≤ 8) (hc : c ≤ 8) (hRS : RS < 2 ^ r) (hCS : CS < 2 ^ c) : ((pop8 RS * pop8 CS : Nat) : Int) = sumI (fun x => sumI (one RS CS x) c) r := by
  have hR : RS < 256 := Nat.lt_of_lt_of_le hRS (Nat.pow_le_pow_right (n := 2) (by decide) hr)
  have hC : CS < 256 := Nat.lt_of_lt_of_le hCS (Nat.pow_le_pow_right (n := 2) (by decide) hc)
  have e1 : ((pop8 CS : Nat) : Int) = sumI (fun y => ((CS.testBit y).toNat : Int)) c := by
    rw [pop8_bits _ hC, sumI_cast, sumI_cut _ c 8 hc]
    intro y hy _
    rw [bit_beyond CS y c hCS hy]
    rfl
  have e2 : ((pop8 RS : Nat) : Int) = sumI (fun y => ((RS.testBit y).toNat : Int)) r := by
    rw [pop8_bits _ hR, sumI_cast, sumI_cut _ r 8 hr]
    intro y hy _
    rw [bit_beyond RS y r hRS hy]
    rfl
  rw [Int.natCast_mul, e2, sumI_mul]
  apply sumI_congr
  intro x _
  cases h : RS.testBit x
  · rw [sumI_zero (one RS CS x) c (fun y _ => by unfold one; rw [h]; rfl)]
    simp
  · rw [e1]
    simp only [Bool.toNat_true, Int.natCast_one, Int.one_mul]
    apply sumI_congr
    intro y _
    unfold one
    rw [h]
    cases CS.testBit y <;> rfl
/-- the balance is the area just if all entries are ones -/
theorem bal_area (E : Nat → Nat → Bool) (RS CS r c : Nat) (hr : r ≤ 8) (hc : c ≤ 8) (hRS : RS < 2 ^ r) (hCS : CS < 2 ^ c) :
    bal E RS CS r c = ((pop8 RS * pop8 CS : Nat) : Int) ↔ ∀ x y, RS.testBit x = true → CS.testBit y = true → E x y = true := by
  rw [area_sum RS CS r c hr hc hRS hCS]
  unfold bal
  have hle : ∀ x y, term E RS CS x y ≤ one RS CS x y := fun x y => by
    unfold term one
    split
    · split <;> omega
    · omega
  have hrow := fun x => sumI_eq (term E RS CS x) (one RS CS x) c (fun y _ => hle x y)
  rw [(sumI_eq (fun x => sumI (term E RS CS x) c) (fun x => sumI (one RS CS x) c) r (fun x _ => (hrow x).1)).2]
  constructor
  · intro h x y hx hy
    have hxr : x < r := by
      rcases Nat.lt_or_ge x r with h2 | h2
      · exact h2
      · rw [bit_beyond RS x r hRS h2] at hx; cases hx
    have hyc : y < c := by
      rcases Nat.lt_or_ge y c with h2 | h2
      · exact h2
      · rw [bit_beyond CS y c hCS h2] at hy; cases hy
    have := ((hrow x).2.1 (h x hxr)) y hyc
    unfold term one at this
    rw [hx, hy] at this
    cases hE : E x y
    · rw [hE] at this; simp at this
    · rfl
  · intro h x _
    refine (hrow x).2.2 fun y _ => ?_
    unfold term one
    by_cases hin : (RS.testBit x && CS.testBit y) = true
    · rw [Bool.and_eq_true] at hin
      rw [hin.1, hin.2, h x y hin.1 hin.2]
      rfl
    · rw [if_neg hin, if_neg hin]
theorem bal_not (E : Nat → Nat → Bool) (RS CS r c : Nat) : - bal E RS CS r c = bal (fun x y => !E x y) RS CS r c := by
  unfold bal
  rw [sumI_neg]
  apply sumI_congr
  intro x _
  rw [sumI_neg]
  apply sumI_congr
  intro y _
  show - (if (RS.testBit x && CS.testBit y) = true then (if E x y = true then (1 : Int) else -1) else 0) = if (RS.testBit x && CS.testBit y) = true then (if (!E x y) = true then 1 else -1) else 0
  cases RS.testBit x <;> cases CS.testBit y <;> cases E x y <;> rfl
theorem pop8_pos (n : Nat) (h1 : 1 ≤ n) (h2 : n < 256) : 1 ≤ pop8 n := by
  have h : ∀ k : Fin 256, 1 ≤ k.val → 1 ≤ pop8 k.val := by decide +kernel
  exact h ⟨n, h2⟩ h1
end Go.Proofs.YtbbgibbpeibhiaaGreatDoor.Bal

/-
  Plain facts: the ones and the zeros of a rectangle, counted one by one. Nothing of the program.
-/
namespace Go.Proofs.YtbbgibbpeibhiaaGreatDoor.ColM
open Go.RowKit Go.Proofs.YtbbgibbpeibhiaaGreatDoor.Plain Go.Proofs.YtbbgibbpeibhiaaGreatDoor.Pat Go.Proofs.YtbbgibbpeibhiaaGreatDoor.Bal

/-- the entries of a rectangle with a value, in so many columns of a row -/
def rowC (E : Nat → Nat → Bool) (v : Bool) (RS CS x k : Nat) : Nat := sumN (fun y => ((RS.testBit x && CS.testBit y) && (E x y == v)).toNat) k
/-- in so many rows -/
def allC (E : Nat → Nat → Bool) (v : Bool) (RS CS c i : Nat) : Nat := sumN (fun x => rowC E v RS CS x c) i
theorem row_next (E : Nat → Nat → Bool) (v : Bool) (RS CS x k : Nat) : rowC E v RS CS x (k + 1) = rowC E v RS CS x k + ((RS.testBit x && CS.testBit k) && (E x k == v)).toNat := rfl
theorem all_next (E : Nat → Nat → Bool) (v : Bool) (RS CS c i : Nat) : allC E v RS CS c (i + 1) = allC E v RS CS c i + rowC E v RS CS i c := rfl
theorem row_le (E : Nat → Nat → Bool) (v : Bool) (RS CS x k : Nat) : rowC E v RS CS x k ≤ k := by
  have := sumN_le (fun y => ((RS.testBit x && CS.testBit y) && (E x y == v)).toNat) 1 (fun y => by cases ((RS.testBit x && CS.testBit y) && (E x y == v)) <;> simp) k
  unfold rowC
  omega
theorem all_le (E : Nat → Nat → Bool) (v : Bool) (RS CS c i : Nat) : allC E v RS CS c i ≤ i * c := sumN_le _ c (fun x => row_le E v RS CS x c) i
theorem all_le8 (E : Nat → Nat → Bool) (v : Bool) (RS CS c i : Nat) (hc : c ≤ 8) (hi : i ≤ 8) : allC E v RS CS c i ≤ 64 := by
  have h1 := all_le E v RS CS c i
  have h2 : i * c ≤ 8 * 8 := Nat.mul_le_mul hi hc
  omega
theorem sumI_add (f g : Nat → Int) : ∀ n, sumI f n + sumI g n = sumI (fun x => f x + g x) n
  | 0 => rfl
  | n + 1 => by
    rw [sumI, sumI, sumI, ← sumI_add f g n]
    omega
theorem all_bal (E : Nat → Nat → Bool) (RS CS r c : Nat) : ((allC E true RS CS c r : Nat) : Int) - ((allC E false RS CS c r : Nat) : Int) = bal E RS CS r c := by
  unfold allC bal
  rw [sumI_cast, sumI_cast, sumI_sub]
  apply sumI_congr
  intro x _
  unfold rowC
  rw [sumI_cast, sumI_cast, sumI_sub]
  apply sumI_congr
  intro y _
  unfold term
  cases (RS.testBit x && CS.testBit y) <;> cases E x y <;> rfl
theorem all_area (E : Nat → Nat → Bool) (RS CS r c : Nat) (hr : r ≤ 8) (hc : c ≤ 8) (hRS : RS < 2 ^ r) (hCS : CS < 2 ^ c) : ((allC E true RS CS c r : Nat) : Int) + ((allC E false RS CS c r : Nat) : Int) = ((pop8 RS * pop8 CS : Nat) : Int) := by
  rw [area_sum RS CS r c hr hc hRS hCS]
  unfold allC
  rw [sumI_cast, sumI_cast, sumI_add]
  apply sumI_congr
  intro x _
  unfold rowC
  rw [sumI_cast, sumI_cast, sumI_add]
  apply sumI_congr
  intro y _
  unfold one
  cases (RS.testBit x && CS.testBit y) <;> cases E x y <;> rfl
end Go.Proofs.YtbbgibbpeibhiaaGreatDoor.ColM

/-
  The walk of the law on EntryOf.
-/
namespace Go.Proofs.YtbbgibbpeibhiaaGreatDoor.fnExactEntryOf
open Go.RowKit Go.Proofs.YtbbgibbpeibhiaaGreatDoor.Plain Go.Proofs.YtbbgibbpeibhiaaGreatDoor.Base Go.Proofs.YtbbgibbpeibhiaaGreatDoor.Valid Go.Proofs.YtbbgibbpeibhiaaGreatDoor.Law Go.Proofs.YtbbgibbpeibhiaaGreatDoor.GridPlain Go.Proofs.YtbbgibbpeibhiaaGreatDoor.Grid Go.Proofs.YtbbgibbpeibhiaaGreatDoor.Entry
set_option linter.unusedVariables false

/-- m's box later on -/
theorem box3 {w w1 : World} {a b c : Value} {T : TypeId} (hb : Below (w.alloc (.cells #[a, b, c] T)).heap.size (w.alloc (.cells #[a, b, c] T)) w1) :
    w1.cell? ⟨w.heap.size, 0, none⟩ = some a ∧ w1.cell? ⟨w.heap.size, 1, none⟩ = some b ∧ w1.cell? ⟨w.heap.size, 2, none⟩ = some c ∧ w.heap.size < w1.heap.size ∧ Hid (Below w.heap.size w w1) := by
  obtain ⟨h0, h1, h2⟩ := three_of hb
  exact ⟨h0, h1, h2, by have := hb.size; simp at this; omega, bstep ((Below.refl w.heap.size w).alloc (Nat.le_refl _) _) hb⟩

end Go.Proofs.YtbbgibbpeibhiaaGreatDoor.fnExactEntryOf

