/-
  Slices of numbers that are only read: areIndices, l1Numbers.
-/
import Derived.Test.YtffilggpimdikaaDoorEntry
namespace Go.Proofs.YtffilggpimdikaaDoor.Ints
open Go.RowKit Go.Proofs.YtffilggpimdikaaDoor.Plain Go.Proofs.YtffilggpimdikaaDoor.Base Go.Proofs.YtffilggpimdikaaDoor.Valid Go.Proofs.YtffilggpimdikaaDoor.Law Go.Proofs.YtffilggpimdikaaDoor.Entry
set_option linter.unusedVariables false

/-- a slice value reads as these numbers, in blocks below B -/
def IV (w : World) (B : Nat) (v : Value) (xs : List Int) : Prop :=
  xs.length ≤ 9223372036854775807 ∧ ((v = .slice none 0 0 ∧ xs = []) ∨ ∃ b off c, v = .slice (some ⟨b, off, none⟩) xs.length c ∧ b < B ∧ ∀ j (hj : j < xs.length), w.cell? ⟨b, off + j, none⟩ = some (.int .i64 xs[j]))
theorem IV.later {w w1 : World} {B : Nat} {v : Value} {xs : List Int} (h : IV w B v xs) (hB : B ≤ w.heap.size) (hb : Below w.heap.size w w1) : IV w1 B v xs := by
  refine ⟨h.1, ?_⟩
  rcases h.2 with h2 | ⟨b, off, c, rfl, hlt, hc⟩
  · exact .inl h2
  · exact .inr ⟨b, off, c, rfl, hlt, fun j hj => (hb.cell (p := ⟨b, off + j, none⟩) (by show b < _; omega)).trans (hc j hj)⟩
theorem IV.mono {w : World} {B B' : Nat} {v : Value} {xs : List Int} (h : IV w B v xs) (hB : B ≤ B') : IV w B' v xs := by
  refine ⟨h.1, ?_⟩
  rcases h.2 with h2 | ⟨b, off, c, rfl, hlt, hc⟩
  · exact .inl h2
  · exact .inr ⟨b, off, c, rfl, by omega, hc⟩

/-- all are from 0 to less than n -/
def okI (xs : List Int) (n : Int) : Bool := xs.all fun x => decide (0 ≤ x ∧ x < n)
theorem okI_true {xs : List Int} {n : Int} (h : ∀ j (hj : j < xs.length), 0 ≤ xs[j] ∧ xs[j] < n) : okI xs n = true := by
  unfold okI
  rw [List.all_eq_true]
  intro x hx
  obtain ⟨j, hj, rfl⟩ := List.getElem_of_mem hx
  exact decide_eq_true (h j hj)
theorem okI_false {xs : List Int} {n : Int} (j : Nat) (hj : j < xs.length) (h : ¬ (0 ≤ xs[j] ∧ xs[j] < n)) : okI xs n = false := by
  unfold okI
  rw [List.all_eq_false]
  exact ⟨xs[j], List.getElem_mem hj, by simpa using h⟩
theorem okI_get {xs : List Int} {n : Int} (h : okI xs n = true) (j : Nat) (hj : j < xs.length) : 0 ≤ xs[j] ∧ xs[j] < n := by
  unfold okI at h
  have := List.all_eq_true.1 h _ (List.getElem_mem hj)
  simpa using this




end Go.Proofs.YtffilggpimdikaaDoor.Ints
