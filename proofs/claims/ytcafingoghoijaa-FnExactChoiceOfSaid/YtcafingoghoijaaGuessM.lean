/-
  Guesses: what a map of things by their numbers holds; the numbers in ascending order. No program.
-/
import Derived.Maps.Views
import Derived.Maps.OwnSet
import Derived.Lib.SlKeysI
import Derived.Lib.Hide
import Derived.Test.YtcafingoghoijaaPlain
namespace Go.Proofs.Ytcafingoghoijaa.GuessM
open Go Go.Maps Go.Sort
set_option linter.unusedVariables false

/-- the numbers below n that f keeps, ascending -/
def keep (f : Nat → Bool) : Nat → List Nat
  | 0 => []
  | n + 1 => keep f n ++ (if f n then [n] else [])
theorem mem_keep (f : Nat → Bool) (i : Nat) : ∀ n, i ∈ keep f n ↔ i < n ∧ f i = true
  | 0 => by simp [keep]
  | n + 1 => by
    rw [keep, List.mem_append, mem_keep f i n]
    by_cases e : i = n
    · subst e
      cases h : f i <;> simp
    · have h2 : (i ∈ if f n = true then [n] else []) ↔ False := by split <;> simp [e]
      rw [h2, or_false]
      exact ⟨fun h => ⟨by omega, h.2⟩, fun h => ⟨by omega, h.2⟩⟩
theorem keep_rises (f : Nat → Bool) : ∀ n, (keep f n).Pairwise (· < ·)
  | 0 => List.Pairwise.nil
  | n + 1 => by
    rw [keep, List.pairwise_append]
    refine ⟨keep_rises f n, by split <;> simp, fun a ha b hb => ?_⟩
    have h1 := ((mem_keep f a n).1 ha).1
    split at hb
    · obtain rfl := List.mem_singleton.1 hb; exact h1
    · cases hb
theorem keep_len (f : Nat → Bool) : ∀ n, (keep f n).length ≤ n
  | 0 => Nat.le_refl _
  | n + 1 => by
    have := keep_len f n
    rw [keep, List.length_append]
    split <;> simp <;> omega
theorem keep_congr {f g : Nat → Bool} : ∀ n, (∀ j, j < n → f j = g j) → keep f n = keep g n
  | 0, _ => rfl
  | n + 1, h => by rw [keep, keep, keep_congr n (fun j hj => h j (by omega)), h n (by omega)]

/-- a thing as a datum -/
def pt (p : Int × Int) : DataW Unit := .agg [.lit (.int .i64 p.1), .lit (.int .i64 p.2)]
/-- how a rectangle in a map reads -/
def rectElem : Value → Option (DataW Unit × List MemPlace)
  | .agg ⟨[.int .i64 a, .int .i64 b]⟩ => some (pt (a, b), [])
  | _ => none
theorem rectElem_mk (a b : Int) : rectElem (.agg #[.int .i64 a, .int .i64 b]) = some (pt (a, b), []) := rfl
theorem rectElem_inv {v : Value} {d : DataW Unit} {ps : List MemPlace} (h : rectElem v = some (d, ps)) : ∃ a b, v = .agg #[.int .i64 a, .int .i64 b] ∧ d = pt (a, b) := by
  unfold rectElem at h
  split at h
  · cases h; exact ⟨_, _, rfl, rfl⟩
  · cases h
theorem pt_one {p q : Int × Int} (h : pt p = pt q) : p = q := by
  unfold pt at h
  simp at h
  exact Prod.ext h.1 h.2

/-- the map holds the things of a list that f keeps, by their numbers -/
structure Guess (D : DataW Unit) (xs : List (Int × Int)) (f : Nat → Bool) : Prop where
  isMap : IsMap D
  has : ∀ x : Int, Maps.has D (.int .i64 x) = true ↔ ∃ j : Nat, x = j ∧ j < xs.length ∧ f j = true
  at_ : ∀ (j : Nat) (hj : j < xs.length), f j = true → ∀ z, D.atKey (.int .i64 (j : Int)) z = pt xs[j]
theorem Guess.start (xs : List (Int × Int)) : Guess (.map []) xs (fun _ => false) :=
  ⟨⟨[], rfl⟩, fun x => ⟨fun h => by simp [has_eq] at h, fun ⟨j, _, _, h⟩ => by cases h⟩, fun j _ h => by cases h⟩
theorem Guess.congr {D : DataW Unit} {xs : List (Int × Int)} {f g : Nat → Bool} (h : Guess D xs f) (e : ∀ j, j < xs.length → f j = g j) : Guess D xs g :=
  ⟨h.isMap, fun x => (h.has x).trans ⟨fun ⟨j, h1, h2, h3⟩ => ⟨j, h1, h2, (e j h2).symm.trans h3⟩, fun ⟨j, h1, h2, h3⟩ => ⟨j, h1, h2, (e j h2).trans h3⟩⟩, fun j hj hf z => h.at_ j hj ((e j hj).trans hf) z⟩
theorem lit_ne {x y : Int} (h : x ≠ y) : (Lit.int .i64 x : Lit) ≠ .int .i64 y := fun e => by injection e with _ e2; exact h e2
theorem Guess.put {D : DataW Unit} {xs : List (Int × Int)} {f : Nat → Bool} (h : Guess D xs f) {k : Nat} (hk : k < xs.length) : Guess (D.put (.int .i64 (k : Int)) (pt xs[k])) xs (fun j => f j || j == k) := by
  have hkl : WideAt.IsKeyLit (.int .i64 (k : Int)) := by simp [WideAt.IsKeyLit]
  refine ⟨IsMap.put h.isMap _ _, fun x => ?_, fun j hj hf z => ?_⟩
  · by_cases e : x = (k : Int)
    · subst e
      rw [has_put_same h.isMap hkl]
      exact ⟨fun _ => ⟨k, rfl, hk, by simp⟩, fun _ => rfl⟩
    · rw [has_put_other (lit_ne e), h.has x]
      constructor
      · rintro ⟨j, h1, h2, h3⟩; exact ⟨j, h1, h2, by simp [h3]⟩
      · rintro ⟨j, h1, h2, h3⟩
        refine ⟨j, h1, h2, ?_⟩
        have : j ≠ k := fun e2 => e (by omega)
        simpa [this] using h3
  · by_cases e : j = k
    · subst e
      rw [atKey_put_same h.isMap hkl]
    · have hne : (j : Int) ≠ (k : Int) := by omega
      rw [atKey_put_other (lit_ne hne)]
      exact h.at_ j hj (by simpa [e] using hf) z
theorem Guess.del {D : DataW Unit} {xs : List (Int × Int)} {f : Nat → Bool} (h : Guess D xs f) (k : Nat) : Guess (D.del (.int .i64 (k : Int))) xs (fun j => f j && j != k) := by
  refine ⟨IsMap.del h.isMap _, fun x => ?_, fun j hj hf z => ?_⟩
  · by_cases e : x = (k : Int)
    · subst e
      rw [has_del_same]
      constructor
      · intro h; cases h
      · rintro ⟨j, h1, h2, h3⟩
        have : j = k := by omega
        subst this
        simp at h3
    · rw [has_del_other (lit_ne e), h.has x]
      constructor
      · rintro ⟨j, h1, h2, h3⟩
        have : j ≠ k := fun e2 => e (by omega)
        exact ⟨j, h1, h2, by simp [h3, this]⟩
      · rintro ⟨j, h1, h2, h3⟩
        rw [Bool.and_eq_true] at h3
        exact ⟨j, h1, h2, h3.1⟩
  · rw [Bool.and_eq_true] at hf
    have hne : (j : Int) ≠ (k : Int) := by have := hf.2; simp at this; omega
    rw [atKey_del_other (lit_ne hne)]
    exact h.at_ j hj hf.1 z

/-- the keys, in ascending order -/
theorem Guess.sorted {D : DataW Unit} {xs : List (Int × Int)} {f : Nat → Bool} (h : Guess D xs f) {P : Program} {k : TypeId} {R : Value → Option (DataW Unit × List MemPlace)} {w : World} {b n : Nat}
    (hown : w.ownsMap P k R b n D) (K : Keyed P k) (hk : P.underlying k = some (.int .i64)) {ss : List Int} (hp : ss.Perm (intKeys D)) :
    ss.mergeSort (fun x y => decide (x ≤ y)) = (keep f xs.length).map (fun j : Nat => (j : Int)) := by
  obtain ⟨es, hD, hpw, _⟩ := hown.entries K
  obtain ⟨es', hD', hko⟩ := hown.keysOf
  obtain rfl : es = es' := by rw [hD] at hD'; simpa using hD'
  have hr : ((keep f xs.length).map (fun j : Nat => (j : Int))).Pairwise (fun a b => a < b) := List.pairwise_map.2 ((keep_rises f xs.length).imp (fun {a b} h => by omega))
  have hL : ((keep f xs.length).map (fun j : Nat => (j : Int))).Perm (intKeys D) := by
    subst hD
    refine perm_intKeys hpw (fun p hp => by obtain ⟨v, hv⟩ := hko p hp; obtain ⟨x, _, hx, _⟩ := Maps.keyOf_i64 hk hv; exact ⟨x, hx⟩) (hr.imp (fun {a b} h => by omega)) (fun x => ?_)
    rw [h.has x, List.mem_map]
    constructor
    · rintro ⟨j, hj, rfl⟩; obtain ⟨h1, h2⟩ := (mem_keep f j _).1 hj; exact ⟨j, rfl, h1, h2⟩
    · rintro ⟨j, rfl, h1, h2⟩; exact ⟨j, (mem_keep f j _).2 ⟨h1, h2⟩, rfl⟩
  rw [show (fun x y : Int => decide (x ≤ y)) = leI from rfl, mergeSort_of_perm_i (hp.trans hL.symm)]
  exact List.mergeSort_of_pairwise (hr.imp (fun {a b} h => by simp [leI]; omega))
/-- how many -/
theorem Guess.size {D : DataW Unit} {xs : List (Int × Int)} {f : Nat → Bool} (h : Guess D xs f) {P : Program} {k : TypeId} {R : Value → Option (DataW Unit × List MemPlace)} {w : World} {b n : Nat}
    (hown : w.ownsMap P k R b n D) (K : Keyed P k) (hk : P.underlying k = some (.int .i64)) : Maps.size D = (keep f xs.length).length := by
  have h1 := h.sorted hown K hk (List.Perm.refl (intKeys D))
  have h2 : (intKeys D).length = Maps.size D := by
    obtain ⟨es, rfl⟩ := h.isMap
    simp [intKeys, Maps.size]
  rw [← h2, ← List.length_mergeSort (intKeys D) (le := fun x y => decide (x ≤ y)), h1, List.length_map]
end Go.Proofs.Ytcafingoghoijaa.GuessM
