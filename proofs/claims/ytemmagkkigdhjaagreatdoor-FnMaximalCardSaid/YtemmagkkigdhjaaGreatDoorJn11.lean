/-
  Texts of one seat, joined: Bal, Turn1, Where.
-/
import Derived.Test.YtemmagkkigdhjaaGreatDoorJn5
import Derived.Test.YtemmagkkigdhjaaGreatDoorJn10
import Derived.Deep.RegionWith
import Derived.Test.YtemmagkkigdhjaaGreatDoorJn3
/-
  Plain facts: the balance of a rectangle, entry by entry and by counts of ones. Nothing of the program.
-/
namespace Go.Proofs.YtemmagkkigdhjaaGreatDoor.Bal
open Go.RowKit Go.Proofs.YtemmagkkigdhjaaGreatDoor.Plain Go.Proofs.YtemmagkkigdhjaaGreatDoor.Pat

def sumI (f : Nat → Int) : Nat → Int
  | 0 => 0
  | n + 1 => sumI f n + f n
theorem sumI_congr (f g : Nat → Int) : ∀ n, (∀ x, x < n → f x = g x) → sumI f n = sumI g n
  | 0, _ => rfl
  | n + 1, h => by rw [sumI, sumI, sumI_congr f g n (fun x hx => h x (by omega)), h n (by omega)]
theorem sumI_sub (f g : Nat → Int) : ∀ n, sumI f n - sumI g n = sumI (fun x => f x - g x) n
  | 0 => rfl
  | n + 1 => by
    rw [sumI, sumI, sumI, ← sumI_sub f g n]
    omega
theorem sumI_neg (f : Nat → Int) : ∀ n, - sumI f n = sumI (fun x => - f x) n
  | 0 => rfl
  | n + 1 => by
    rw [sumI, sumI, ← sumI_neg f n]
    omega
theorem sumI_cast (f : Nat → Nat) : ∀ n, ((sumN f n : Nat) : Int) = sumI (fun x => (f x : Int)) n
  | 0 => rfl
  | n + 1 => by rw [sumN, sumI, ← sumI_cast f n, Int.natCast_add]
theorem sumI_zero (f : Nat → Int) : ∀ n, (∀ x, x < n → f x = 0) → sumI f n = 0
  | 0, _ => rfl
  | n + 1, h => by rw [sumI, sumI_zero f n (fun x hx => h x (by omega)), h n (by omega)]; rfl
theorem sumI_cut (f : Nat → Int) (c : Nat) : ∀ n, c ≤ n → (∀ x, c ≤ x → x < n → f x = 0) → sumI f n = sumI f c
  | 0, h, _ => by
    obtain rfl : c = 0 := by omega
    rfl
  | n + 1, h, hz => by
    by_cases e : c = n + 1
    · rw [e]
    · rw [sumI, sumI_cut f c n (by omega) (fun x hx hn => hz x hx (by omega)), hz n (by omega) (by omega)]
      omega
theorem sumI_mul (f : Nat → Int) (k : Int) : ∀ n, sumI f n * k = sumI (fun x => f x * k) n
  | 0 => by simp [sumI]
  | n + 1 => by rw [sumI, sumI, ← sumI_mul f k n, Int.add_mul]
theorem sumI_bound (f : Nat → Int) (b : Int) (h : ∀ x, - b ≤ f x ∧ f x ≤ b) : ∀ n : Nat, - (b * n) ≤ sumI f n ∧ sumI f n ≤ b * n
  | 0 => by simp [sumI]
  | n + 1 => by
    have h1 := sumI_bound f b h n
    have h2 := h n
    rw [sumI, Int.natCast_add, Int.mul_add]
    simp only [Int.natCast_one, Int.mul_one]
    omega
/-- two sums of which one is never greater are equal just if they are so everywhere -/
theorem sumI_eq (f g : Nat → Int) : ∀ n, (∀ x, x < n → f x ≤ g x) → sumI f n ≤ sumI g n ∧ (sumI f n = sumI g n ↔ ∀ x, x < n → f x = g x)
  | 0, _ => ⟨Int.le_refl _, fun _ x hx => absurd hx (by omega), fun _ => rfl⟩
  | n + 1, h => by
    obtain ⟨h1, h2⟩ := sumI_eq f g n (fun x hx => h x (by omega))
    have h3 := h n (by omega)
    rw [sumI, sumI]
    refine ⟨by omega, fun he x hx => ?_, fun he => ?_⟩
    · have e1 : sumI f n = sumI g n := by omega
      by_cases e : x = n
      · subst e; omega
      · exact h2.1 e1 x (by omega)
    · rw [h2.2 (fun x hx => he x (by omega)), he n (by omega)]

/-- what an entry of the rectangle counts -/
def term (E : Nat → Nat → Bool) (RS CS x y : Nat) : Int := if (RS.testBit x && CS.testBit y) = true then (if E x y = true then 1 else -1) else 0
/-- the balance of a rectangle in so many rows and columns -/
def bal (E : Nat → Nat → Bool) (RS CS r c : Nat) : Int := sumI (fun x => sumI (term E RS CS x) c) r
theorem term_bound (E : Nat → Nat → Bool) (RS CS x y : Nat) : -1 ≤ term E RS CS x y ∧ term E RS CS x y ≤ 1 := by
  unfold term
  split
  · split <;> omega
  · omega
/-- the balance when so many rows, and so many columns of the next one, are counted -/
def balTo (E : Nat → Nat → Bool) (RS CS c k j : Nat) : Int := bal E RS CS k c + sumI (term E RS CS k) j
theorem balTo_bound (E : Nat → Nat → Bool) (RS CS c k j : Nat) (hc : c ≤ 8) (hk : k ≤ 8) (hj : j ≤ 8) : -72 ≤ balTo E RS CS c k j ∧ balTo E RS CS c k j ≤ 72 := by
  have h1 := sumI_bound (term E RS CS k) 1 (term_bound E RS CS k) j
  have h2 := sumI_bound (fun x => sumI (term E RS CS x) c) 8 (fun x => by have := sumI_bound (term E RS CS x) 1 (term_bound E RS CS x) c; omega) k
  unfold balTo bal
  omega
theorem balTo_row (E : Nat → Nat → Bool) (RS CS c k : Nat) : balTo E RS CS c k c = balTo E RS CS c (k + 1) 0 := by
  unfold balTo bal
  simp only [sumI]
  omega
theorem balTo_end (E : Nat → Nat → Bool) (RS CS c k : Nat) : balTo E RS CS c k 0 = bal E RS CS k c := by
  unfold balTo
  simp only [sumI]
  omega
theorem balTo_start (E : Nat → Nat → Bool) (RS CS c : Nat) : balTo E RS CS c 0 0 = 0 := by
  unfold balTo bal
  simp only [sumI]
  rfl
theorem balTo_in (E : Nat → Nat → Bool) (RS CS c k j : Nat) (h1 : RS.testBit k = true) (h2 : CS.testBit j = true) : balTo E RS CS c k (j + 1) = balTo E RS CS c k j - 1 + 2 * bitI (E k j) := by
  unfold balTo
  rw [sumI]
  have : term E RS CS k j = - 1 + 2 * bitI (E k j) := by
    unfold term
    rw [h1, h2]
    cases E k j <;> rfl
  omega
theorem balTo_out (E : Nat → Nat → Bool) (RS CS c k j : Nat) (h : (RS.testBit k && CS.testBit j) = false) : balTo E RS CS c k (j + 1) = balTo E RS CS c k j := by
  unfold balTo
  rw [sumI]
  have : term E RS CS k j = 0 := by
    unfold term
    rw [h]
    rfl
  omega

/-- the bytes of a rectangle, of all entries for which P holds (as elsewhere) -/
def rB (R C : Nat) : Nat → Nat := fun j => if R.testBit j then C else 0
def oB (P : Nat → Nat → Bool) (r c : Nat) : Nat → Nat := fun j => if j < r then setB (P j) c else 0
theorem count_row (P : Nat → Bool) (CS c : Nat) (hc : c ≤ 8) (hCS : CS < 256) : ((pop8 (CS &&& setB P c) : Nat) : Int) = sumI (fun y => if (CS.testBit y && P y) = true then 1 else 0) c := by
  have hlt : CS &&& setB P c < 256 := Nat.lt_of_le_of_lt Nat.and_le_left hCS
  rw [pop8_bits _ hlt, sumI_cast, sumI_cut _ c 8 hc]
  · apply sumI_congr
    intro y hy
    rw [Nat.testBit_and, setB_bit, decide_eq_true hy, Bool.true_and]
    cases (CS.testBit y && P y) <;> rfl
  · intro y hy _
    rw [Nat.testBit_and, setB_bit, decide_eq_false (by omega), Bool.false_and, Bool.and_false]
    rfl
theorem pop8_zero : pop8 0 = 0 := rfl
/-- the balance by counts of ones -/
theorem bal_count (E : Nat → Nat → Bool) (RS CS r c : Nat) (hr : r ≤ 8) (hc : c ≤ 8) (hCS : CS < 256) :
    ((sumN (fun x => pop8 (rB RS CS x &&& oB E r c x)) 8 : Nat) : Int) - ((sumN (fun x => pop8 (rB RS CS x &&& oB (fun x y => !E x y) r c x)) 8 : Nat) : Int) = bal E RS CS r c := by
  rw [sumI_cast, sumI_cast, sumI_sub, sumI_cut _ r 8 hr]
  · unfold bal
    apply sumI_congr
    intro x hx
    unfold rB oB
    rw [if_pos hx, if_pos hx]
    by_cases h : RS.testBit x = true
    · rw [if_pos h, count_row (E x) CS c hc hCS, count_row (fun y => !E x y) CS c hc hCS, sumI_sub]
      apply sumI_congr
      intro y _
      unfold term
      rw [h]
      cases CS.testBit y <;> cases E x y <;> rfl
    · rw [if_neg h, Nat.zero_and, Nat.zero_and, pop8_zero]
      rw [Bool.not_eq_true] at h
      refine Eq.symm (Eq.trans (sumI_zero _ c fun y _ => ?_) rfl)
      unfold term
      rw [h]
      rfl
  · intro x hx _
    unfold oB
    rw [if_neg (by omega), if_neg (by omega), Nat.and_zero, pop8_zero]
    rfl

/-- an entry of the rectangle -/
def one (RS CS x y : Nat) : Int := if (RS.testBit x && CS.testBit y) = true then 1 else 0
theorem area_sum (RS CS r c : Nat) (hr : r ≤ 8) (hc : c ≤ 8) (hRS : RS < 2 ^ r) (hCS : CS < 2 ^ c) : ((pop8 RS * pop8 CS : Nat) : Int) = sumI (fun x => sumI (one RS CS x) c) r := by
  have hR : RS < 256 := Nat.lt_of_lt_of_le hRS (Nat.pow_le_pow_right (n := 2) (by decide) hr)
  have hC : CS < 256 := Nat.lt_of_lt_of_le hCS (Nat.pow_le_pow_right (n := 2) (by decide) hc)
  have e1 : ((pop8 CS : Nat) : Int) = sumI (fun y => ((CS.testBit y).toNat : Int)) c := by
    rw [pop8_bits _ hC, sumI_cast, sumI_cut _ c 8 hc]
    intro y hy _
    rw [bit_beyond CS y c hCS hy]
    rfl
  have e2 : ((pop8 RS : Nat) : Int) = sumI (fun y => ((RS.testBit y).toNat : Int)) r := by
    rw [pop8_bits _ hR, sumI_cast, sumI_cut _ r 8 hr]
    intro y hy _
    rw [bit_beyond RS y r hRS hy]
    rfl
  rw [Int.natCast_mul, e2, sumI_mul]
  apply sumI_congr
  intro x _
  cases h : RS.testBit x
  · rw [sumI_zero (one RS CS x) c (fun y _ => by unfold one; rw [h]; rfl)]
    simp
  · rw [e1]
    simp only [Bool.toNat_true, Int.natCast_one, Int.one_mul]
    apply sumI_congr
    intro y _
    unfold one
    rw [h]
    cases CS.testBit y <;> rfl
/-- the balance is the area just if all entries are ones -/
theorem bal_area (E : Nat → Nat → Bool) (RS CS r c : Nat) (hr : r ≤ 8) (hc : c ≤ 8) (hRS : RS < 2 ^ r) (hCS : CS < 2 ^ c) :
    bal E RS CS r c = ((pop8 RS * pop8 CS : Nat) : Int) ↔ ∀ x y, RS.testBit x = true → CS.testBit y = true → E x y = true := by
  rw [area_sum RS CS r c hr hc hRS hCS]
  unfold bal
  have hle : ∀ x y, term E RS CS x y ≤ one RS CS x y := fun x y => by
    unfold term one
    split
    · split <;> omega
    · omega
  have hrow := fun x => sumI_eq (term E RS CS x) (one RS CS x) c (fun y _ => hle x y)
  rw [(sumI_eq (fun x => sumI (term E RS CS x) c) (fun x => sumI (one RS CS x) c) r (fun x _ => (hrow x).1)).2]
  constructor
  · intro h x y hx hy
    have hxr : x < r := by
      rcases Nat.lt_or_ge x r with h2 | h2
      · exact h2
      · rw [bit_beyond RS x r hRS h2] at hx; cases hx
    have hyc : y < c := by
      rcases Nat.lt_or_ge y c with h2 | h2
      · exact h2
      · rw [bit_beyond CS y c hCS h2] at hy; cases hy
    have := ((hrow x).2.1 (h x hxr)) y hyc
    unfold term one at this
    rw [hx, hy] at this
    cases hE : E x y
    · rw [hE] at this; simp at this
    · rfl
  · intro h x _
    refine (hrow x).2.2 fun y _ => ?_
    unfold term one
    by_cases hin : (RS.testBit x && CS.testBit y) = true
    · rw [Bool.and_eq_true] at hin
      rw [hin.1, hin.2, h x y hin.1 hin.2]
      rfl
    · rw [if_neg hin, if_neg hin]
theorem bal_not (E : Nat → Nat → Bool) (RS CS r c : Nat) : - bal E RS CS r c = bal (fun x y => !E x y) RS CS r c := by
  unfold bal
  rw [sumI_neg]
  apply sumI_congr
  intro x _
  rw [sumI_neg]
  apply sumI_congr
  intro y _
  show - (if (RS.testBit x && CS.testBit y) = true then (if E x y = true then (1 : Int) else -1) else 0) = if (RS.testBit x && CS.testBit y) = true then (if (!E x y) = true then 1 else -1) else 0
  cases RS.testBit x <;> cases CS.testBit y <;> cases E x y <;> rfl
theorem pop8_pos (n : Nat) (h1 : 1 ≤ n) (h2 : n < 256) : 1 ≤ pop8 n := by
  have h : ∀ k : Fin 256, 1 ≤ k.val → 1 ≤ pop8 k.val := by decide +kernel
  exact h ⟨n, h2⟩ h1
end Go.Proofs.YtemmagkkigdhjaaGreatDoor.Bal

/-
  The reference's l1Turn.
-/
namespace Go.Proofs.YtemmagkkigdhjaaGreatDoor.Turn1
open Go.RowKit Go.Proofs.YtemmagkkigdhjaaGreatDoor.Plain Go.Proofs.YtemmagkkigdhjaaGreatDoor.Base Go.Proofs.YtemmagkkigdhjaaGreatDoor.Valid Go.Proofs.YtemmagkkigdhjaaGreatDoor.Law Go.Proofs.YtemmagkkigdhjaaGreatDoor.GridPlain Go.Proofs.YtemmagkkigdhjaaGreatDoor.Grid Go.Proofs.YtemmagkkigdhjaaGreatDoor.Entry
set_option linter.unusedVariables false

theorem two_blocks {w w1 : World} {o1 o2 : Obj} (hb : Below ((w.alloc o1).alloc o2).heap.size ((w.alloc o1).alloc o2) w1) :
    w1.heap[w.heap.size + 1]? = some o2 ∧ Below w.heap.size w w1 ∧ w.heap.size + 2 ≤ w1.heap.size := by
  have hs : ((w.alloc o1).alloc o2).heap.size = w.heap.size + 2 := by simp
  have h2 : ((w.alloc o1).alloc o2).heap[w.heap.size + 1]? = some o2 := by
    have := heap_alloc_new (w.alloc o1) o2
    rwa [World.size_alloc] at this
  exact ⟨(hb.block _ (by omega)).trans h2, (((Below.refl w.heap.size w).alloc (Nat.le_refl _) _).alloc (by simp) _).trans (hb.mono (by omega)), by have := hb.size; omega⟩
theorem two_blocks' {w w1 : World} {o1 o2 : Obj} (hb : Below ((w.alloc o1).alloc o2).heap.size ((w.alloc o1).alloc o2) w1) :
    w1.heap[w.heap.size]? = some o1 ∧ w1.heap[w.heap.size + 1]? = some o2 ∧ Below w.heap.size w w1 ∧ w.heap.size + 2 ≤ w1.heap.size := by
  obtain ⟨h1, h2, h3⟩ := two_blocks hb
  refine ⟨(hb.block _ (by simp; omega)).trans ?_, h1, h2, h3⟩
  rw [Below.heap_alloc _ _ _ (by simp)]
  exact heap_alloc_new w o1
theorem cells3 {w : World} {g : Nat} {T : TypeId} {a b c : Value} (h : w.heap[g]? = some (.cells #[a, b, c] T (0, 0))) :
    w.cell? ⟨g, 0, none⟩ = some a ∧ w.cell? ⟨g, 1, none⟩ = some b ∧ w.cell? ⟨g, 2, none⟩ = some c :=
  ⟨cell_of_row _ _ 0 _ _ _ h, cell_of_row _ _ 1 _ _ _ h, cell_of_row _ _ 2 _ _ _ h⟩
theorem free3 {w : World} {g : Nat} {T : TypeId} {a b c : Value} (h : w.heap[g]? = some (.cells #[a, b, c] T (0, 0))) :
    w.frozen? ⟨g, 0, none⟩ = false ∧ w.frozen? ⟨g, 1, none⟩ = false ∧ w.frozen? ⟨g, 2, none⟩ = false :=
  ⟨frozen_of_row _ _ 0 _ _ h, frozen_of_row _ _ 1 _ _ h, frozen_of_row _ _ 2 _ _ h⟩
/-- what holds while l1Turn runs: out has these bytes -/
def TInv (w wr : World) (r c : Nat) (s t : ByteArray) : Prop :=
  wr.heap[w.heap.size]? = some (.cells #[.int .i64 (r : Int), .int .i64 (c : Int), .string s] 24 (0, 0)) ∧ wr.heap[w.heap.size + 1]? = some (.cells #[.int .i64 0, .int .i64 0, .string ⟨#[]⟩] 24 (0, 0)) ∧
    wr.heap[w.heap.size + 2]? = some (.cells #[.int .i64 (c : Int), .int .i64 (r : Int), .string t] 24 (0, 0)) ∧ Below w.heap.size w wr ∧ w.heap.size + 3 ≤ wr.heap.size
theorem TInv.cells {w wr : World} {r c : Nat} {s t : ByteArray} (h : TInv w wr r c s t) :
    wr.cell? ⟨w.heap.size, 0, none⟩ = some (.int .i64 (r : Int)) ∧ wr.cell? ⟨w.heap.size, 1, none⟩ = some (.int .i64 (c : Int)) ∧ wr.cell? ⟨w.heap.size, 2, none⟩ = some (.string s) ∧
    wr.cell? ⟨w.heap.size + 1 + 1, 0, none⟩ = some (.int .i64 (c : Int)) ∧ wr.cell? ⟨w.heap.size + 1 + 1, 1, none⟩ = some (.int .i64 (r : Int)) ∧ wr.cell? ⟨w.heap.size + 1 + 1, 2, none⟩ = some (.string t) ∧
    wr.frozen? ⟨w.heap.size + 1 + 1, 2, none⟩ = false :=
  ⟨cell_of_row _ _ 0 _ _ _ h.1, cell_of_row _ _ 1 _ _ _ h.1, cell_of_row _ _ 2 _ _ _ h.1, cell_of_row _ _ 0 _ _ _ h.2.2.1, cell_of_row _ _ 1 _ _ _ h.2.2.1, cell_of_row _ _ 2 _ _ _ h.2.2.1, frozen_of_row _ _ 2 _ _ h.2.2.1⟩
theorem TInv.res {w wr : World} {r c : Nat} {s t : ByteArray} (h : TInv w wr r c s t) :
    wr.cell? ⟨w.heap.size + 1, 0, none⟩ = some (.int .i64 0) ∧ wr.cell? ⟨w.heap.size + 1, 1, none⟩ = some (.int .i64 0) ∧ wr.cell? ⟨w.heap.size + 1, 2, none⟩ = some (.string ⟨#[]⟩) ∧
    wr.frozen? ⟨w.heap.size + 1, 0, none⟩ = false ∧ wr.frozen? ⟨w.heap.size + 1, 1, none⟩ = false ∧ wr.frozen? ⟨w.heap.size + 1, 2, none⟩ = false :=
  ⟨cell_of_row _ _ 0 _ _ _ h.2.1, cell_of_row _ _ 1 _ _ _ h.2.1, cell_of_row _ _ 2 _ _ _ h.2.1, frozen_of_row _ _ 0 _ _ h.2.1, frozen_of_row _ _ 1 _ _ h.2.1, frozen_of_row _ _ 2 _ _ h.2.1⟩
theorem TInv.later {w wr w2 : World} {r c : Nat} {s t : ByteArray} (h : TInv w wr r c s t) (hb : Below wr.heap.size wr w2) : TInv w w2 r c s t := by
  obtain ⟨h0, h1, h2, h3, h4⟩ := h
  exact ⟨(hb.block _ (by omega)).trans h0, (hb.block _ (by omega)).trans h1, (hb.block _ (by omega)).trans h2, bstep h3 hb, Nat.le_trans h4 hb.size⟩
theorem TInv.drew {w wr : World} {r c : Nat} {s t : ByteArray} (h : TInv w wr r c s t) (n : Nat) : TInv w (wr.drewN n) r c s t :=
  ⟨h.1, h.2.1, h.2.2.1, ⟨h.2.2.2.1.os, h.2.2.2.1.tape, h.2.2.2.1.output, h.2.2.2.1.size, h.2.2.2.1.block⟩, h.2.2.2.2⟩
theorem TInv.set_ {w wr : World} {r c : Nat} {s t : ByteArray} (h : TInv w wr r c s t) (u : ByteArray) : TInv w (wr.setCell ⟨w.heap.size + 1 + 1, 2, none⟩ (.string u)) r c s u := by
  obtain ⟨h0, h1, h2, h3, h4⟩ := h
  exact ⟨(heap_setCell_other _ _ _ _ (by simp; omega)).trans h0, (heap_setCell_other _ _ _ _ (by simp)).trans h1, (heap_setCell_same _ _ _ _ _ _ h2).trans rfl, h3.setCell (by simp; omega) _, by simpa using h4⟩

set_option maxHeartbeats 4000000 in
theorem turn_spec1 (E : Nat → Nat → Bool) (r c : Nat) (hr : 1 ≤ r) (hr8 : r ≤ 8) (hc : 1 ≤ c) (hc8 : c ≤ 8) (w : World) :
    Calls Tryz.prog 84 #[mat r c (str (rowsB E r c))] w fun e w' => e = .returned (mat c r (str (rowsB (fun x y => E y x) c r))) ∧ Below w.heap.size w w' := by
  have HAT : Hid (∀ x y : Nat, x < r → y < c → ∀ W : World, Calls Tryz.prog 83 #[mat r c (str (rowsB E r c)), .int .i64 (x : Int), .int .i64 (y : Int)] W fun e w' => e = .returned (.bool (E x y)) ∧ Below W.heap.size W w') :=
    fun x y hx hy W => at_any E r c hr8 hc8 x y hx hy W
  generalize str (rowsB E r c) = s at *
  go_enter Tryz.func84, Tryz.ntmps84
  go_wp2_with fail
  have HI : Hid (TInv w (((w.alloc (.cells #[.int .i64 (r : Int), .int .i64 (c : Int), .string s] 24)).alloc (.cells #[.int .i64 0, .int .i64 0, .string ⟨#[]⟩] 24)).alloc (.cells #[.int .i64 (c : Int), .int .i64 (r : Int), .string ⟨#[]⟩] 24)) r c s ⟨#[]⟩) :=
    blocks3 (Below.refl _ _)
  go_loopw [4] (fun y wr => ∃ (k : Nat) (t : ByteArray), k ≤ c ∧ y = .int .i64 (k : Int) ∧ Hid (t = str (rowsB (fun x y => E y x) k r)) ∧ TInv w wr r c s t) (fun y _ => c - (intOf y).toNat)
  case atStart => exact ⟨0, _, Nat.zero_le _, rfl, rfl, HI.out⟩
  case round =>
    obtain ⟨k, t, hk, rfl, ht, hinv⟩ := hrel
    clear HI
    have HI := Lib.hid hinv
    obtain ⟨m0, m1, m2, o0, o1, o2, fo⟩ := hinv.cells
    obtain ⟨e0, e1, e2, g0, g1, g2⟩ := hinv.res
    clear hinv
    by_cases hlt : k < c
    · clear e0 e1 e2 g0 g1 g2
      go_wp2_with fail
      go_loopw [5] (fun x wr => ∃ (j : Nat) (t : ByteArray), j ≤ r ∧ x = .int .i64 (j : Int) ∧ Hid (t = str (rowsB (fun x y => E y x) k r ++ rowB (fun x y => E y x) k j)) ∧ TInv w wr r c s t) (fun x _ => r - (intOf x).toNat)
      case atStart => exact ⟨0, _, Nat.zero_le _, rfl, by rw [ht.out]; exact part_start _ _ _, HI.out⟩
      case round =>
        clear HI m0 m1 m2 o0 o1 o2 fo
        obtain ⟨j, t', hj, rfl, ht', hinv⟩ := hrel
        have HI := Lib.hid hinv
        obtain ⟨m0, m1, m2, o0, o1, o2, fo⟩ := hinv.cells
        clear hinv
        by_cases hlt' : j < r
        · go_wp2_with fail
          have htz : t'.size + 1 ≤ 9223372036854775807 := by
            have := part_size (fun x y => E y x) hc8 hr8 hlt hlt'
            rw [ht'.out]
            omega
          obtain ⟨b, hb⟩ : ∃ b : Bool, E j k = b := ⟨_, rfl⟩
          have hcat := fun W => run_string_add_sum (P := Tryz.prog) (w := W) t' ⟨#[dig b]⟩ htz
          have HC := Lib.hid (HAT.out j k hlt' hlt)
          rw [hb] at HC
          have HB := Lib.hid hb
          clear htz hb
          go_region_with (first | (go_at_call 83; refine (HC.out _).mono ?_; rintro e w2 ⟨rfl, hb2⟩; have HI2 := Lib.hid ((HI.out.drew 1).later hb2); obtain ⟨n0, n1, n2, p0, p1, p2, fp⟩ := HI2.out.cells; clear hb2) | (go_at_call 73; refine (l1Bit_any b _).mono ?_; rintro e w' ⟨rfl, rfl⟩))
          all_goals go_wp2_with fail
          all_goals
            go_roundw
            case rel => exact ⟨j + 1, _, by omega, by go_num, by rw [ht'.out, ← HB.out]; exact part_next (fun x y => E y x) k j r, HI2.out.set_ _⟩
            case measure => simp [intOf]; omega
        · obtain rfl : j = r := by omega
          go_wp2_with fail
          go_roundw
          case rel => exact ⟨k + 1, t', by omega, by go_num, by rw [ht'.out]; exact part_done _ _ _, HI.out⟩
          case measure => simp [intOf]; omega
    · obtain rfl : k = c := by omega
      go_wp2_with fail
      refine bodyPost_ret (v := mat k r t) (by simp [results, Tryz.results84, go_sem, e0, e1, e2]) rfl ⟨by rw [ht.out], ?_⟩
      exact ((HI.out.2.2.2.1.setCell (by simp) _).setCell (by simp) _).setCell (by simp) _
end Go.Proofs.YtemmagkkigdhjaaGreatDoor.Turn1

/-
  The program's setWhere, whatever function tells which numbers are in the set.
-/
namespace Go.Proofs.YtemmagkkigdhjaaGreatDoor.Where
open Go.RowKit Go.Proofs.YtemmagkkigdhjaaGreatDoor.Plain Go.Proofs.YtemmagkkigdhjaaGreatDoor.Base Go.Proofs.YtemmagkkigdhjaaGreatDoor.Pat
set_option linter.unusedVariables false

/-- what is asked of the function value -/
def Says (g : Nat) (lb : Array Value) (n : Nat) (P : Nat → Bool) (w : World) : Prop :=
  ∀ (W : World) (i : Nat), i < n → Below w.heap.size w W → Calls Tryz.prog g (#[.int .i64 (i : Int)] ++ lb) W fun e W' => e = .returned (.bool (P i)) ∧ Below W.heap.size W W'
theorem wrap8 (n : Nat) (h : n ≤ 256) : IntKind.i64.wrap (n : Int) = (n : Int) := by
  rw [IntKind.wrap_i64]
  omega
theorem or8 (a b : Nat) (ha : a < 256) (hb : b < 256) : Go.bits .or .i64 (a : Int) (b : Int) = ((a ||| b : Nat) : Int) :=
  (bits_nat .i64 8 (by decide) (fun n h0 h1 => by rw [IntKind.wrap_i64]; omega) a b (by omega) (by omega)).2

set_option maxHeartbeats 1000000 in
theorem where_any (g : Nat) (lb : Array Value) (n : Nat) (hn : n ≤ 8) (P : Nat → Bool) (w : World) (eg : ∀ args W, (callFunc g args).run Tryz.prog W = .ok (.enter g args) W) (hT : Hid (Says g lb n P w)) :
    Calls Tryz.prog 75 #[.int .i64 (n : Int), .func (.func g) #[] lb] w fun e w' => e = .returned (.int .i64 ((setB P n : Nat) : Int)) ∧ Below w.heap.size w w' := by
  go_enter Tryz.func75, Tryz.ntmps75
  go_wp2_with fail
  go_loopw [5, 8] (fun t i wr => ∃ (k s : Nat), k ≤ n ∧ t = .int .i64 (s : Int) ∧ Hid (s = setB P k) ∧ i = .int .i64 (k : Int) ∧ Below w.heap.size w wr) (fun _ i _ => n - (intOf i).toNat)
  case atStart => exact ⟨0, 0, Nat.zero_le _, rfl, rfl, rfl, Below.refl _ _⟩
  case round =>
    obtain ⟨k, s, hk, rfl, hs, rfl, hb⟩ := hrel
    have HB := Lib.hid hb
    clear hb
    by_cases hlt : k < n
    · have hk8 : k < 8 := by omega
      have hs8 : s < 256 := by rw [hs.out]; exact setB_lt8 P k (by omega)
      have hX : 2 ^ k < 256 := Nat.lt_of_lt_of_le (Nat.pow_lt_pow_right (by decide) hk8) (by decide)
      have HC := Lib.hid (hT.out wr k hlt HB.out)
      have hw : IntKind.i64.wrap (2 ^ k) = ((2 ^ k : Nat) : Int) := by rw [show ((2 : Int) ^ k) = ((2 ^ k : Nat) : Int) by simp]; exact wrap8 _ (by omega)
      have ho := or8 s (2 ^ k) hs8 hX
      have hz := or8 s 0 hs8 (by decide)
      rw [Nat.or_zero] at hz
      replace hz : Go.bits .or .i64 (s : Int) 0 = (s : Int) := hz
      obtain ⟨b, hbit⟩ : ∃ b, P k = b := ⟨_, rfl⟩
      have HN : Hid ((if b = true then s ||| 2 ^ k else s) = setB P (k + 1)) := by
        unfold Hid
        rw [← setB_or, ← hs.out, hbit]
        cases b
        · simp
        · simp
      rw [hbit] at HC
      clear hs hbit
      generalize 2 ^ k = X at *
      generalize s ||| X = y at *
      cases b
      · go_wp2_with fail
        refine HC.out.mono ?_
        rintro e w2 ⟨rfl, hb2⟩
        have HB2 : Hid (Below w.heap.size w w2) := HB.out.trans (hb2.mono HB.out.size)
        clear hb2
        go_wp2_with fail
        refine (bitOf_any false _).mono ?_
        rintro e w' ⟨rfl, rfl⟩
        rw [bitI_false]
        go_wp2_with fail
        go_roundw
        case rel => exact ⟨k + 1, s, by omega, rfl, by have h := HN.out; unfold Hid; simpa using h, by go_num, HB2.out⟩
        case measure => simp [intOf]; omega
      · go_wp2_with fail
        refine HC.out.mono ?_
        rintro e w2 ⟨rfl, hb2⟩
        have HB2 : Hid (Below w.heap.size w w2) := HB.out.trans (hb2.mono HB.out.size)
        clear hb2
        go_wp2_with fail
        refine (bitOf_any true _).mono ?_
        rintro e w' ⟨rfl, rfl⟩
        rw [bitI_true]
        go_wp2_with fail
        go_roundw
        case rel => exact ⟨k + 1, y, by omega, rfl, by have h := HN.out; unfold Hid; simpa using h, by go_num, HB2.out⟩
        case measure => simp [intOf]; omega
    · obtain rfl : k = n := by omega
      go_wp2_with fail
      go_ret
      exact ⟨by rw [← hs.out]; rfl, HB.out⟩
end Go.Proofs.YtemmagkkigdhjaaGreatDoor.Where

