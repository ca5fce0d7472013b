/-
  What the program's AcceptsRow and AcceptsCol answer, told.
-/
import Derived.Test.YtcafingoghoijaaJo15
import Derived.Test.YtcafingoghoijaaJo9
namespace Go.Proofs.Ytcafingoghoijaa.AccV
open Go.RowKit Go.Proofs.Ytcafingoghoijaa.Plain Go.Proofs.Ytcafingoghoijaa.Rect Go.Proofs.Ytcafingoghoijaa.Rects Go.Proofs.Ytcafingoghoijaa.Proof Go.Proofs.Ytcafingoghoijaa.Accept
set_option linter.unusedVariables false
set_option linter.unusedSimpArgs false

/-- whether a player accepts a rectangle -/
def acc (q : Int × Int) (input : Int) (cols : Bool) : Bool := someB q.1 q.2 && tb (side q cols) input
theorem acc_both (q : Int × Int) (x y : Int) : (acc q x false && acc q y true) = inR q x y := by
  unfold acc inR side
  cases someB q.1 q.2 <;> simp
theorem side_in {q : Int × Int} (h : someB q.1 q.2 = true) (cols : Bool) : 0 ≤ side q cols ∧ side q cols < 256 := by
  have hb := (someB_iff _ _).1 h
  cases cols <;> simp only [side, if_true, if_false, Bool.false_eq_true] <;> omega
theorem accRow (xs : List (Int × Int)) (v : Value) (j : Nat) (hj : j < xs.length) (input : Int) (w : World) (hv : RV w w.heap.size v xs) :
    Calls Try.prog 19 #[v, .int .i64 (j : Int), .int .i64 input] w fun e w' => e = .returned (.bool (acc xs[j] input false)) ∧ Below w.heap.size w w' := by
  unfold acc
  cases hs : someB xs[j].1 xs[j].2 with
  | false => exact wrapRow v _ _ _ w (impl_none xs v j hj input false hs w hv)
  | true =>
    rw [Bool.true_and]
    exact wrapRow v _ _ _ w (impl_some xs v j hj input false _ hs (fun W => tb_set (side_in hs false) input W) w hv)
theorem outRow (xs : List (Int × Int)) (v : Value) (proof input : Int) (hp : ¬ (0 ≤ proof ∧ proof < (xs.length : Int))) (w : World) (hv : RV w w.heap.size v xs) :
    Calls Try.prog 19 #[v, .int .i64 proof, .int .i64 input] w fun e w' => e = .returned (.bool false) ∧ Below w.heap.size w w' := by
  obtain ⟨p, k, rfl⟩ := hv.slice
  exact wrapRow _ _ _ _ w (impl_out xs p k proof input false hp w)
theorem accCol (xs : List (Int × Int)) (v : Value) (j : Nat) (hj : j < xs.length) (input : Int) (w : World) (hv : RV w w.heap.size v xs) :
    Calls Try.prog 21 #[v, .int .i64 (j : Int), .int .i64 input] w fun e w' => e = .returned (.bool (acc xs[j] input true)) ∧ Below w.heap.size w w' := by
  unfold acc
  cases hs : someB xs[j].1 xs[j].2 with
  | false => exact wrapCol v _ _ _ w (impl_none xs v j hj input true hs w hv)
  | true =>
    rw [Bool.true_and]
    exact wrapCol v _ _ _ w (impl_some xs v j hj input true _ hs (fun W => tb_set (side_in hs true) input W) w hv)
theorem outCol (xs : List (Int × Int)) (v : Value) (proof input : Int) (hp : ¬ (0 ≤ proof ∧ proof < (xs.length : Int))) (w : World) (hv : RV w w.heap.size v xs) :
    Calls Try.prog 21 #[v, .int .i64 proof, .int .i64 input] w fun e w' => e = .returned (.bool false) ∧ Below w.heap.size w w' := by
  obtain ⟨p, k, rfl⟩ := hv.slice
  exact wrapCol _ _ _ _ w (impl_out xs p k proof input true hp w)
theorem specRow (xs : List (Int × Int)) (hlen : xs.length ≤ 1048576) (v : Value) (j : Nat) (hj : j < xs.length) (input : Int) (w : World) (hv : RV w w.heap.size v xs) :
    Calls Try.prog 18 #[v, .int .i64 (j : Int), .int .i64 input] w fun e w' => e = .returned (.bool (acc xs[j] input false)) ∧ Below w.heap.size w w' := by
  unfold acc
  have hp := proof_in xs hlen v j hj input w hv
  cases hs : someB xs[j].1 xs[j].2 with
  | false =>
    rw [hs] at hp
    exact noRow v _ _ w hp
  | true =>
    rw [Bool.true_and]
    by_cases hi : 0 ≤ input ∧ input ≤ 7
    · rw [hs, decide_eq_true hi] at hp
      have hse := side_in hs false
      obtain ⟨i, rfl⟩ := Int.eq_ofNat_of_zero_le hi.1
      refine yesRow xs v j hj _ _ w hv hp (fun W => ?_)
      obtain ⟨s, hs2⟩ := Int.eq_ofNat_of_zero_le hse.1
      rw [hs2] at hse ⊢
      unfold tb
      rw [if_pos hi]
      exact l2In_any s i (by omega) (by omega) W
    · rw [hs, decide_eq_false hi] at hp
      have e : tb (side xs[j] false) input = false := by unfold tb; rw [if_neg hi]
      rw [e]
      exact noRow v _ _ w hp
theorem soutRow (xs : List (Int × Int)) (hlen : xs.length ≤ 1048576) (v : Value) (proof input : Int) (hp : ¬ (0 ≤ proof ∧ proof < (xs.length : Int))) (w : World) (hv : RV w w.heap.size v xs) :
    Calls Try.prog 18 #[v, .int .i64 proof, .int .i64 input] w fun e w' => e = .returned (.bool false) ∧ Below w.heap.size w w' := by
  obtain ⟨p, k, rfl⟩ := hv.slice
  exact noRow _ _ _ w (proof_out xs hlen p k proof input hp w)
theorem specCol (xs : List (Int × Int)) (hlen : xs.length ≤ 1048576) (v : Value) (j : Nat) (hj : j < xs.length) (input : Int) (w : World) (hv : RV w w.heap.size v xs) :
    Calls Try.prog 20 #[v, .int .i64 (j : Int), .int .i64 input] w fun e w' => e = .returned (.bool (acc xs[j] input true)) ∧ Below w.heap.size w w' := by
  unfold acc
  have hp := proof_in xs hlen v j hj input w hv
  cases hs : someB xs[j].1 xs[j].2 with
  | false =>
    rw [hs] at hp
    exact noCol v _ _ w hp
  | true =>
    rw [Bool.true_and]
    by_cases hi : 0 ≤ input ∧ input ≤ 7
    · rw [hs, decide_eq_true hi] at hp
      have hse := side_in hs true
      obtain ⟨i, rfl⟩ := Int.eq_ofNat_of_zero_le hi.1
      refine yesCol xs v j hj _ _ w hv hp (fun W => ?_)
      obtain ⟨s, hs2⟩ := Int.eq_ofNat_of_zero_le hse.1
      rw [hs2] at hse ⊢
      unfold tb
      rw [if_pos hi]
      exact l2In_any s i (by omega) (by omega) W
    · rw [hs, decide_eq_false hi] at hp
      have e : tb (side xs[j] true) input = false := by unfold tb; rw [if_neg hi]
      rw [e]
      exact noCol v _ _ w hp
theorem soutCol (xs : List (Int × Int)) (hlen : xs.length ≤ 1048576) (v : Value) (proof input : Int) (hp : ¬ (0 ≤ proof ∧ proof < (xs.length : Int))) (w : World) (hv : RV w w.heap.size v xs) :
    Calls Try.prog 20 #[v, .int .i64 proof, .int .i64 input] w fun e w' => e = .returned (.bool false) ∧ Below w.heap.size w w' := by
  obtain ⟨p, k, rfl⟩ := hv.slice
  exact noCol _ _ _ w (proof_out xs hlen p k proof input hp w)
end Go.Proofs.Ytcafingoghoijaa.AccV
