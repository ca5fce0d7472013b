/-
  Texts of one seat, joined: Disc, ColM.
-/
import Derived.Test.YtgmhddceeomjbaaGreatDoorJ17
import Derived.Test.YtgmhddceeomjbaaGreatDoorJ15
/-
  The reference's l2Discrepancy; the mathematics of the greatest difference.
-/
namespace Go.Proofs.YtgmhddceeomjbaaGreatDoor.Disc
open Go.RowKit Go.Proofs.YtgmhddceeomjbaaGreatDoor.Plain Go.Proofs.YtgmhddceeomjbaaGreatDoor.Base Go.Proofs.YtgmhddceeomjbaaGreatDoor.Valid Go.Proofs.YtgmhddceeomjbaaGreatDoor.Law Go.Proofs.YtgmhddceeomjbaaGreatDoor.GridPlain Go.Proofs.YtgmhddceeomjbaaGreatDoor.Grid Go.Proofs.YtgmhddceeomjbaaGreatDoor.Entry Go.Proofs.YtgmhddceeomjbaaGreatDoor.Pat Go.Proofs.YtgmhddceeomjbaaGreatDoor.Rect Go.Proofs.YtgmhddceeomjbaaGreatDoor.FreeL Go.Proofs.YtgmhddceeomjbaaGreatDoor.Board Go.Proofs.YtgmhddceeomjbaaGreatDoor.BoardM Go.Proofs.YtgmhddceeomjbaaGreatDoor.RValid Go.Proofs.YtgmhddceeomjbaaGreatDoor.Bal Go.Proofs.YtgmhddceeomjbaaGreatDoor.Colour Go.Proofs.YtgmhddceeomjbaaGreatDoor.Cols Go.Proofs.YtgmhddceeomjbaaGreatDoor.Where
open Go.Proofs.YtgmhddceeomjbaaGreatDoor.Free (fill wp_value wp_enter wp_load_row freeB)
set_option linter.unusedVariables false

theorem bal_bound (E : Nat → Nat → Bool) (RS CS r c : Nat) (hr : r ≤ 8) (hc : c ≤ 8) : -72 ≤ bal E RS CS r c ∧ bal E RS CS r c ≤ 72 := by
  rw [← balTo_end]
  exact balTo_bound E RS CS c r 0 hc hr (by omega)
/-- what the columns with more ones, or with more zeros, have together -/
def moreTo (E : Nat → Nat → Bool) (S R C : Nat) (k : Nat) : Int := sumI (fun y => max (bal E S (2 ^ y) R C) 0) k
def lessTo (E : Nat → Nat → Bool) (S R C : Nat) (k : Nat) : Int := sumI (fun y => max (- bal E S (2 ^ y) R C) 0) k
theorem more_bound (E : Nat → Nat → Bool) (S R C k : Nat) (hR : R ≤ 8) (hC : C ≤ 8) (hk : k ≤ 8) : 0 ≤ moreTo E S R C k ∧ moreTo E S R C k ≤ 576 := by
  unfold moreTo
  induction k with
  | zero => exact ⟨Int.le_refl _, by show (0 : Int) ≤ 576; omega⟩
  | succ k ih =>
    have hb := bal_bound E S (2 ^ k) R C hR hC
    have h2 : ∀ n : Nat, n ≤ 8 → 0 ≤ sumI (fun y => max (bal E S (2 ^ y) R C) 0) n ∧ sumI (fun y => max (bal E S (2 ^ y) R C) 0) n ≤ 72 * n := fun n hn => by
      induction n with
      | zero => exact ⟨Int.le_refl _, by show (0 : Int) ≤ _; omega⟩
      | succ n ihn =>
        have := ihn (by omega)
        have hb := bal_bound E S (2 ^ n) R C hR hC
        rw [sumI]
        omega
    have := h2 (k + 1) hk
    omega
theorem less_bound (E : Nat → Nat → Bool) (S R C k : Nat) (hR : R ≤ 8) (hC : C ≤ 8) (hk : k ≤ 8) : 0 ≤ lessTo E S R C k ∧ lessTo E S R C k ≤ 576 := by
  have h2 : ∀ n : Nat, n ≤ 8 → 0 ≤ lessTo E S R C n ∧ lessTo E S R C n ≤ 72 * n := fun n hn => by
    induction n with
    | zero => exact ⟨Int.le_refl _, by show (0 : Int) ≤ _; omega⟩
    | succ n ihn =>
      have := ihn (by omega)
      have hb := bal_bound E S (2 ^ n) R C hR hC
      unfold lessTo at *
      rw [sumI]
      omega
  have := h2 k hk
  omega
/-- the greatest of so many sets of rows, from a start -/
def foldTo (E : Nat → Nat → Bool) (R C : Nat) (b0 : Int) : Nat → Int
  | 0 => b0
  | k + 1 => max (foldTo E R C b0 k) (max (moreTo E (k + 1) R C C) (lessTo E (k + 1) R C C))
theorem fold_bound (E : Nat → Nat → Bool) (R C : Nat) (b0 : Int) (h0 : -1 ≤ b0 ∧ b0 ≤ 0) (hR : R ≤ 8) (hC : C ≤ 8) : ∀ k, -1 ≤ foldTo E R C b0 k ∧ foldTo E R C b0 k ≤ 576
  | 0 => by rw [foldTo]; omega
  | k + 1 => by
    have h1 := fold_bound E R C b0 h0 hR hC k
    have h2 := more_bound E (k + 1) R C C hR hC hC
    have h3 := less_bound E (k + 1) R C C hR hC hC
    rw [foldTo]
    omega
theorem fold_same (E : Nat → Nat → Bool) (R C : Nat) (hR : R ≤ 8) (hC : C ≤ 8) : ∀ k, foldTo E R C 0 k = max 0 (foldTo E R C (-1) k)
  | 0 => rfl
  | k + 1 => by
    have h2 := more_bound E (k + 1) R C C hR hC hC
    rw [foldTo, foldTo, fold_same E R C hR hC k]
    omega
theorem fold_eq (E : Nat → Nat → Bool) (R C : Nat) (hR : R ≤ 8) (hC : C ≤ 8) (k : Nat) (hk : 1 ≤ k) : foldTo E R C 0 k = foldTo E R C (-1) k := by
  obtain ⟨k, rfl⟩ : ∃ j, k = j + 1 := ⟨k - 1, by omega⟩
  have h2 := more_bound E (k + 1) R C C hR hC hC
  rw [fold_same E R C hR hC, foldTo]
  omega

set_option maxHeartbeats 4000000 in
set_option maxRecDepth 100000 in
theorem spec_disc (E : Nat → Nat → Bool) (R C : Nat) (hR1 : 1 ≤ R) (hR : R ≤ 8) (hC1 : 1 ≤ C) (hC : C ≤ 8) (w : World) :
    Calls Tryz.prog 63 #[mat R C (str (rowsB E R C))] w fun e w' => e = .returned (.int .i64 (foldTo E R C 0 (2 ^ R - 1))) ∧ Below w.heap.size w w' := by
  have HB0 := Lib.hid (fun RS CS h1 h2 W => spec_bal E R C hR1 hR hC1 hC RS CS h1 h2 W)
  obtain ⟨hpw, hp1, hp2⟩ := pow8 R hR
  have hp3 : 2 ≤ 2 ^ R := by
    have := Nat.pow_le_pow_right (n := 2) (by decide) hR1
    omega
  generalize str (rowsB E R C) = s at *
  generalize 2 ^ R = N at *
  go_enter Tryz.func63, Tryz.ntmps63
  go_wp2_with fail
  have e0 : MHolds (w.alloc (.cells #[.int .i64 (R : Int), .int .i64 (C : Int), .string s] 27)) w.heap.size 27 R C s := heap_alloc_new w _
  have hb0 : Below w.heap.size w (w.alloc (.cells #[.int .i64 (R : Int), .int .i64 (C : Int), .string s] 27)) := (Below.refl w.heap.size w).alloc (Nat.le_refl _) _
  generalize w.alloc (.cells #[.int .i64 (R : Int), .int .i64 (C : Int), .string s] 27) = W0 at *
  have HI0 : Hid (DInv w W0 R C s) := ⟨e0, hb0⟩
  clear e0 hb0
  go_loopw [3, 4] (fun t i wr => ∃ (k : Nat), 1 ≤ k ∧ k ≤ N ∧ t = .int .i64 (foldTo E R C 0 (k - 1)) ∧ i = .int .i64 (k : Int) ∧ DInv w wr R C s) (fun _ i _ => N - (intOf i).toNat)
  case atStart => exact ⟨1, Nat.le_refl _, by omega, rfl, rfl, HI0.out⟩
  case round =>
    obtain ⟨k, hk1, hk, rfl, rfl, hinv⟩ := hrel
    clear HI0
    obtain ⟨q0, q1, q2⟩ := mh_c hinv.m
    by_cases hlt : k < N
    · have HI := Lib.hid hinv
      clear hinv
      have HF := Lib.hid (fold_bound E R C 0 (by omega) hR hC (k - 1))
      have HFN : Hid (foldTo E R C 0 (k + 1 - 1) = max (foldTo E R C 0 (k - 1)) (max (moreTo E k R C C) (lessTo E k R C C))) := by
        obtain ⟨q, rfl⟩ : ∃ q, k = q + 1 := ⟨k - 1, by omega⟩
        rfl
      have HM := Lib.hid (fun j hj => more_bound E k R C j hR hC hj)
      have HL := Lib.hid (fun j hj => less_bound E k R C j hR hC hj)
      generalize foldTo E R C 0 (k - 1) = f at *
      go_wp2_with fail
      go_loopw [5, 6, 7] (fun a b y wr => ∃ (j : Nat), j ≤ C ∧ a = .int .i64 (moreTo E k R C j) ∧ b = .int .i64 (lessTo E k R C j) ∧ y = .int .i64 (j : Int) ∧ DInv w wr R C s) (fun _ _ y _ => C - (intOf y).toNat)
      case atStart => exact ⟨0, Nat.zero_le _, rfl, rfl, rfl, HI.out⟩
      case round =>
        obtain ⟨j, hj, rfl, rfl, rfl, hinv⟩ := hrel
        clear q0 q1 q2 HI
        obtain ⟨q0, q1, q2⟩ := mh_c hinv.m
        have HI := Lib.hid hinv
        clear hinv
        by_cases hlt' : j < C
        · have hX8 : 2 ^ j < 256 := Nat.lt_of_lt_of_le (Nat.pow_lt_pow_right (by decide) (show j < 8 by omega)) (by decide)
          have HX : Hid (IntKind.i64.wrap (2 ^ j) = ((2 ^ j : Nat) : Int)) := by unfold Hid; rw [show ((2 : Int) ^ j) = ((2 ^ j : Nat) : Int) by simp]; exact wrap8 _ (by omega)
          have HBAL := Lib.hid (fun W => HB0.out k (2 ^ j) (by omega) hX8 W)
          have hbb := bal_bound E k (2 ^ j) R C hR hC
          have hm := HM.out j (by omega)
          have hl := HL.out j (by omega)
          have HM1 : Hid (moreTo E k R C (j + 1) = moreTo E k R C j + max (bal E k (2 ^ j) R C) 0) := rfl
          have HL1 : Hid (lessTo E k R C (j + 1) = lessTo E k R C j + max (- bal E k (2 ^ j) R C) 0) := rfl
          generalize bal E k (2 ^ j) R C = b at *
          generalize moreTo E k R C j = m at *
          generalize lessTo E k R C j = l at *
          generalize 2 ^ j = X at *
          have hsh := HX.out
          go_wp2_with fail
          refine (HBAL.out _).mono ?_
          rintro e w2 ⟨rfl, hb2⟩
          have HI2 := Lib.hid (HI.out.later hb2)
          clear hb2 q0 q1 q2 HI hsh
          go_wp2_with fail
          go_roundw
          case rel => exact ⟨j + 1, by omega, by rw [HM1.out], by rw [HL1.out], by go_num, HI2.out⟩
          case measure => simp [intOf]; omega
        · obtain rfl : j = C := by omega
          have hm := HM.out j (by omega)
          have hl := HL.out j (by omega)
          generalize moreTo E k R j j = m at *
          generalize lessTo E k R j j = l at *
          go_wp2_with fail
          go_roundw
          case rel => exact ⟨k + 1, by omega, by omega, by rw [HFN.out], by go_num, HI.out⟩
          case measure => simp [intOf]; omega
    · obtain rfl : N = k := by omega
      have HI := Lib.hid hinv
      clear hinv
      go_wp2_with fail
      go_ret
      exact ⟨rfl, HI.out.below⟩
end Go.Proofs.YtgmhddceeomjbaaGreatDoor.Disc

/-
  Plain facts: the ones and the zeros of a rectangle, counted one by one. Nothing of the program.
-/
namespace Go.Proofs.YtgmhddceeomjbaaGreatDoor.ColM
open Go.RowKit Go.Proofs.YtgmhddceeomjbaaGreatDoor.Plain Go.Proofs.YtgmhddceeomjbaaGreatDoor.Pat Go.Proofs.YtgmhddceeomjbaaGreatDoor.Bal

/-- the entries of a rectangle with a value, in so many columns of a row -/
def rowC (E : Nat → Nat → Bool) (v : Bool) (RS CS x k : Nat) : Nat := sumN (fun y => ((RS.testBit x && CS.testBit y) && (E x y == v)).toNat) k
/-- in so many rows -/
def allC (E : Nat → Nat → Bool) (v : Bool) (RS CS c i : Nat) : Nat := sumN (fun x => rowC E v RS CS x c) i
theorem row_next (E : Nat → Nat → Bool) (v : Bool) (RS CS x k : Nat) : rowC E v RS CS x (k + 1) = rowC E v RS CS x k + ((RS.testBit x && CS.testBit k) && (E x k == v)).toNat := rfl
theorem all_next (E : Nat → Nat → Bool) (v : Bool) (RS CS c i : Nat) : allC E v RS CS c (i + 1) = allC E v RS CS c i + rowC E v RS CS i c := rfl
theorem row_le (E : Nat → Nat → Bool) (v : Bool) (RS CS x k : Nat) : rowC E v RS CS x k ≤ k := by
  have := sumN_le (fun y => ((RS.testBit x && CS.testBit y) && (E x y == v)).toNat) 1 (fun y => by cases ((RS.testBit x && CS.testBit y) && (E x y == v)) <;> simp) k
  unfold rowC
  omega
theorem all_le (E : Nat → Nat → Bool) (v : Bool) (RS CS c i : Nat) : allC E v RS CS c i ≤ i * c := sumN_le _ c (fun x => row_le E v RS CS x c) i
theorem all_le8 (E : Nat → Nat → Bool) (v : Bool) (RS CS c i : Nat) (hc : c ≤ 8) (hi : i ≤ 8) : allC E v RS CS c i ≤ 64 := by
  have h1 := all_le E v RS CS c i
  have h2 : i * c ≤ 8 * 8 := Nat.mul_le_mul hi hc
  omega
theorem sumI_add (f g : Nat → Int) : ∀ n, sumI f n + sumI g n = sumI (fun x => f x + g x) n
  | 0 => rfl
  | n + 1 => by
    rw [sumI, sumI, sumI, ← sumI_add f g n]
    omega
theorem all_bal (E : Nat → Nat → Bool) (RS CS r c : Nat) : ((allC E true RS CS c r : Nat) : Int) - ((allC E false RS CS c r : Nat) : Int) = bal E RS CS r c := by
  unfold allC bal
  rw [sumI_cast, sumI_cast, sumI_sub]
  apply sumI_congr
  intro x _
  unfold rowC
  rw [sumI_cast, sumI_cast, sumI_sub]
  apply sumI_congr
  intro y _
  unfold term
  cases (RS.testBit x && CS.testBit y) <;> cases E x y <;> rfl
theorem all_area (E : Nat → Nat → Bool) (RS CS r c : Nat) (hr : r ≤ 8) (hc : c ≤ 8) (hRS : RS < 2 ^ r) (hCS : CS < 2 ^ c) : ((allC E true RS CS c r : Nat) : Int) + ((allC E false RS CS c r : Nat) : Int) = ((pop8 RS * pop8 CS : Nat) : Int) := by
  rw [area_sum RS CS r c hr hc hRS hCS]
  unfold allC
  rw [sumI_cast, sumI_cast, sumI_add]
  apply sumI_congr
  intro x _
  unfold rowC
  rw [sumI_cast, sumI_cast, sumI_add]
  apply sumI_congr
  intro y _
  unfold one
  cases (RS.testBit x && CS.testBit y) <;> cases E x y <;> rfl
end Go.Proofs.YtgmhddceeomjbaaGreatDoor.ColM

