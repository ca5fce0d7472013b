/-
  Texts of one seat, joined: GuessM, ShelfI.
-/
import Derived.Test.YtcafingoghoijaaJo1
import Derived.Shelf.SortM.Plain
import Derived.Maps.Views
import Derived.Maps.OwnSet
import Derived.Lib.SlKeysI
import Derived.Lib.Hide
import Derived.Shelf.SlIterI.Sorted
import Derived.Shelf.SlIterI.Keys
import Derived.Shelf.SortM.SortNone
import Derived.Ground.GgzProg
import Derived.Ground.SlgmProg
import Derived.Test.YtcafingoghoijaaProg
/-
  Guesses: what a map of things by their numbers holds; the numbers in ascending order. No program.
-/
namespace Go.Proofs.Ytcafingoghoijaa.GuessM
open Go Go.Maps Go.Sort
set_option linter.unusedVariables false

/-- the numbers below n that f keeps, ascending -/
def keep (f : Nat → Bool) : Nat → List Nat
  | 0 => []
  | n + 1 => keep f n ++ (if f n then [n] else [])
theorem mem_keep (f : Nat → Bool) (i : Nat) : ∀ n, i ∈ keep f n ↔ i < n ∧ f i = true
  | 0 => by simp [keep]
  | n + 1 => by
    rw [keep, List.mem_append, mem_keep f i n]
    by_cases e : i = n
    · subst e
      cases h : f i <;> simp
    · have h2 : (i ∈ if f n = true then [n] else []) ↔ False := by split <;> simp [e]
      rw [h2, or_false]
      exact ⟨fun h => ⟨by omega, h.2⟩, fun h => ⟨by omega, h.2⟩⟩
theorem keep_rises (f : Nat → Bool) : ∀ n, (keep f n).Pairwise (· < ·)
  | 0 => List.Pairwise.nil
  | n + 1 => by
    rw [keep, List.pairwise_append]
    refine ⟨keep_rises f n, by split <;> simp, fun a ha b hb => ?_⟩
    have h1 := ((mem_keep f a n).1 ha).1
    split at hb
    · obtain rfl := List.mem_singleton.1 hb; exact h1
    · cases hb
theorem keep_len (f : Nat → Bool) : ∀ n, (keep f n).length ≤ n
  | 0 => Nat.le_refl _
  | n + 1 => by
    have := keep_len f n
    rw [keep, List.length_append]
    split <;> simp <;> omega
theorem keep_congr {f g : Nat → Bool} : ∀ n, (∀ j, j < n → f j = g j) → keep f n = keep g n
  | 0, _ => rfl
  | n + 1, h => by rw [keep, keep, keep_congr n (fun j hj => h j (by omega)), h n (by omega)]

/-- a thing as a datum -/
def pt (p : Int × Int) : DataW Unit := .agg [.lit (.int .i64 p.1), .lit (.int .i64 p.2)]
/-- how a rectangle in a map reads -/
def rectElem : Value → Option (DataW Unit × List MemPlace)
  | .agg ⟨[.int .i64 a, .int .i64 b]⟩ => some (pt (a, b), [])
  | _ => none
theorem rectElem_mk (a b : Int) : rectElem (.agg #[.int .i64 a, .int .i64 b]) = some (pt (a, b), []) := rfl
theorem rectElem_inv {v : Value} {d : DataW Unit} {ps : List MemPlace} (h : rectElem v = some (d, ps)) : ∃ a b, v = .agg #[.int .i64 a, .int .i64 b] ∧ d = pt (a, b) := by
  unfold rectElem at h
  split at h
  · cases h; exact ⟨_, _, rfl, rfl⟩
  · cases h
theorem pt_one {p q : Int × Int} (h : pt p = pt q) : p = q := by
  unfold pt at h
  simp at h
  exact Prod.ext h.1 h.2

/-- the map holds the things of a list that f keeps, by their numbers -/
structure Guess (D : DataW Unit) (xs : List (Int × Int)) (f : Nat → Bool) : Prop where
  isMap : IsMap D
  has : ∀ x : Int, Maps.has D (.int .i64 x) = true ↔ ∃ j : Nat, x = j ∧ j < xs.length ∧ f j = true
  at_ : ∀ (j : Nat) (hj : j < xs.length), f j = true → ∀ z, D.atKey (.int .i64 (j : Int)) z = pt xs[j]
theorem Guess.start (xs : List (Int × Int)) : Guess (.map []) xs (fun _ => false) :=
  ⟨⟨[], rfl⟩, fun x => ⟨fun h => by simp [has_eq] at h, fun ⟨j, _, _, h⟩ => by cases h⟩, fun j _ h => by cases h⟩
theorem Guess.congr {D : DataW Unit} {xs : List (Int × Int)} {f g : Nat → Bool} (h : Guess D xs f) (e : ∀ j, j < xs.length → f j = g j) : Guess D xs g :=
  ⟨h.isMap, fun x => (h.has x).trans ⟨fun ⟨j, h1, h2, h3⟩ => ⟨j, h1, h2, (e j h2).symm.trans h3⟩, fun ⟨j, h1, h2, h3⟩ => ⟨j, h1, h2, (e j h2).trans h3⟩⟩, fun j hj hf z => h.at_ j hj ((e j hj).trans hf) z⟩
theorem lit_ne {x y : Int} (h : x ≠ y) : (Lit.int .i64 x : Lit) ≠ .int .i64 y := fun e => by injection e with _ e2; exact h e2
theorem Guess.put {D : DataW Unit} {xs : List (Int × Int)} {f : Nat → Bool} (h : Guess D xs f) {k : Nat} (hk : k < xs.length) : Guess (D.put (.int .i64 (k : Int)) (pt xs[k])) xs (fun j => f j || j == k) := by
  have hkl : WideAt.IsKeyLit (.int .i64 (k : Int)) := by simp [WideAt.IsKeyLit]
  refine ⟨IsMap.put h.isMap _ _, fun x => ?_, fun j hj hf z => ?_⟩
  · by_cases e : x = (k : Int)
    · subst e
      rw [has_put_same h.isMap hkl]
      exact ⟨fun _ => ⟨k, rfl, hk, by simp⟩, fun _ => rfl⟩
    · rw [has_put_other (lit_ne e), h.has x]
      constructor
      · rintro ⟨j, h1, h2, h3⟩; exact ⟨j, h1, h2, by simp [h3]⟩
      · rintro ⟨j, h1, h2, h3⟩
        refine ⟨j, h1, h2, ?_⟩
        have : j ≠ k := fun e2 => e (by omega)
        simpa [this] using h3
  · by_cases e : j = k
    · subst e
      rw [atKey_put_same h.isMap hkl]
    · have hne : (j : Int) ≠ (k : Int) := by omega
      rw [atKey_put_other (lit_ne hne)]
      exact h.at_ j hj (by simpa [e] using hf) z
theorem Guess.del {D : DataW Unit} {xs : List (Int × Int)} {f : Nat → Bool} (h : Guess D xs f) (k : Nat) : Guess (D.del (.int .i64 (k : Int))) xs (fun j => f j && j != k) := by
  refine ⟨IsMap.del h.isMap _, fun x => ?_, fun j hj hf z => ?_⟩
  · by_cases e : x = (k : Int)
    · subst e
      rw [has_del_same]
      constructor
      · intro h; cases h
      · rintro ⟨j, h1, h2, h3⟩
        have : j = k := by omega
        subst this
        simp at h3
    · rw [has_del_other (lit_ne e), h.has x]
      constructor
      · rintro ⟨j, h1, h2, h3⟩
        have : j ≠ k := fun e2 => e (by omega)
        exact ⟨j, h1, h2, by simp [h3, this]⟩
      · rintro ⟨j, h1, h2, h3⟩
        rw [Bool.and_eq_true] at h3
        exact ⟨j, h1, h2, h3.1⟩
  · rw [Bool.and_eq_true] at hf
    have hne : (j : Int) ≠ (k : Int) := by have := hf.2; simp at this; omega
    rw [atKey_del_other (lit_ne hne)]
    exact h.at_ j hj hf.1 z

/-- the keys, in ascending order -/
theorem Guess.sorted {D : DataW Unit} {xs : List (Int × Int)} {f : Nat → Bool} (h : Guess D xs f) {P : Program} {k : TypeId} {R : Value → Option (DataW Unit × List MemPlace)} {w : World} {b n : Nat}
    (hown : w.ownsMap P k R b n D) (K : Keyed P k) (hk : P.underlying k = some (.int .i64)) {ss : List Int} (hp : ss.Perm (intKeys D)) :
    ss.mergeSort (fun x y => decide (x ≤ y)) = (keep f xs.length).map (fun j : Nat => (j : Int)) := by
  obtain ⟨es, hD, hpw, _⟩ := hown.entries K
  obtain ⟨es', hD', hko⟩ := hown.keysOf
  obtain rfl : es = es' := by rw [hD] at hD'; simpa using hD'
  have hr : ((keep f xs.length).map (fun j : Nat => (j : Int))).Pairwise (fun a b => a < b) := List.pairwise_map.2 ((keep_rises f xs.length).imp (fun {a b} h => by omega))
  have hL : ((keep f xs.length).map (fun j : Nat => (j : Int))).Perm (intKeys D) := by
    subst hD
    refine perm_intKeys hpw (fun p hp => by obtain ⟨v, hv⟩ := hko p hp; obtain ⟨x, _, hx, _⟩ := Maps.keyOf_i64 hk hv; exact ⟨x, hx⟩) (hr.imp (fun {a b} h => by omega)) (fun x => ?_)
    rw [h.has x, List.mem_map]
    constructor
    · rintro ⟨j, hj, rfl⟩; obtain ⟨h1, h2⟩ := (mem_keep f j _).1 hj; exact ⟨j, rfl, h1, h2⟩
    · rintro ⟨j, rfl, h1, h2⟩; exact ⟨j, (mem_keep f j _).2 ⟨h1, h2⟩, rfl⟩
  rw [show (fun x y : Int => decide (x ≤ y)) = leI from rfl, mergeSort_of_perm_i (hp.trans hL.symm)]
  exact List.mergeSort_of_pairwise (hr.imp (fun {a b} h => by simp [leI]; omega))
/-- how many -/
theorem Guess.size {D : DataW Unit} {xs : List (Int × Int)} {f : Nat → Bool} (h : Guess D xs f) {P : Program} {k : TypeId} {R : Value → Option (DataW Unit × List MemPlace)} {w : World} {b n : Nat}
    (hown : w.ownsMap P k R b n D) (K : Keyed P k) (hk : P.underlying k = some (.int .i64)) : Maps.size D = (keep f xs.length).length := by
  have h1 := h.sorted hown K hk (List.Perm.refl (intKeys D))
  have h2 : (intKeys D).length = Maps.size D := by
    obtain ⟨es, rfl⟩ := h.isMap
    simp [intKeys, Maps.size]
  rw [← h2, ← List.length_mergeSort (intKeys D) (le := fun x y => decide (x ≤ y)), h1, List.length_map]
end Go.Proofs.Ytcafingoghoijaa.GuessM

/-
  The numbers of a generic library function in this program; laid by program.
-/
namespace Go.Proofs
open Go.Shelf
def Try.keysI_ren : Go.Shelf.Ren := ⟨fun | 7 => 90 | 10 => 99 | n => n, fun | 23 => 54 | 26 => 3 | 3 => 33 | 28 => 93 | 0 => 0 | 27 => 92 | 33 => 104 | 4 => 4 | n => n, fun | n => n⟩
theorem Try.keysI : Go.Proofs.SlLaysZI.n7 Try.prog Try.keysI_ren := {
  mixed := by kernel_rfl
  f7 := ⟨Try.f90.name, by decide, Try.func90.trans (congrArg some (by kernel_rfl))⟩
  f10 := ⟨Try.f99.name, by decide, Try.func99.trans (congrArg some (by kernel_rfl))⟩
  t0 := Try.underlying0
  a0 := Try.isAgg0
  z0 := Try.sizeOf0
  v0 := Try.zeroValue0
  t4 := Try.underlying4
  a4 := Try.isAgg4
  z4 := Try.sizeOf4
  v4 := Try.zeroValue4
  t23 := Try.underlying54
  a23 := Try.isAgg54
  z23 := Try.sizeOf54
  v23 := Try.zeroValue54
  t26 := Try.underlying3
  a26 := Try.isAgg3
  z26 := Try.sizeOf3
  v26 := Try.zeroValue3
  t27 := Try.underlying92
  a27 := Try.isAgg92
  z27 := Try.sizeOf92
  v27 := Try.zeroValue92
  t28 := Try.underlying93
  a28 := Try.isAgg93
  z28 := Try.sizeOf93
  v28 := Try.zeroValue93
  t33 := Try.underlying104
  a33 := Try.isAgg104
  z33 := Try.sizeOf104
  v33 := Try.zeroValue104 }
def Try.sortedI_ren : Go.Shelf.Ren := ⟨fun | 6 => 89 | 8 => 97 | 9 => 98 | 11 => 103 | 13 => 105 | 12 => 104 | 23 => 115 | 24 => 116 | 14 => 106 | 15 => 107 | 16 => 108 | 17 => 109 | 18 => 110 | 19 => 111 | 20 => 112 | 21 => 113 | 22 => 114 | 25 => 117 | 26 => 118 | 27 => 119 | 28 => 120 | 29 => 121 | 30 => 122 | 31 => 123 | n => n, fun | 26 => 3 | 28 => 93 | 24 => 71 | 0 => 0 | 3 => 3 | 37 => 89 | 48 => 123 | 50 => 72 | 4 => 4 | 40 => 116 | 39 => 115 | 45 => 120 | 5 => 5 | 9 => 9 | 51 => 124 | 55 => 128 | 57 => 130 | 58 => 131 | 33 => 104 | n => n, fun | n => n⟩
theorem Try.sortedI : Go.Proofs.SlLaysZI.n6 Try.prog Try.sortedI_ren := {
  mixed := by kernel_rfl
  f6 := ⟨Try.f89.name, by decide, Try.func89.trans (congrArg some (by kernel_rfl))⟩
  f8 := ⟨Try.f97.name, by decide, Try.func97.trans (congrArg some (by kernel_rfl))⟩
  f11 := ⟨Try.f103.name, by decide, Try.func103.trans (congrArg some (by kernel_rfl))⟩
  t0 := Try.underlying0
  a0 := Try.isAgg0
  z0 := Try.sizeOf0
  v0 := Try.zeroValue0
  t24 := Try.underlying71
  a24 := Try.isAgg71
  z24 := Try.sizeOf71
  v24 := Try.zeroValue71
  t26 := Try.underlying3
  a26 := Try.isAgg3
  z26 := Try.sizeOf3
  v26 := Try.zeroValue3
  t28 := Try.underlying93
  a28 := Try.isAgg93
  z28 := Try.sizeOf93
  v28 := Try.zeroValue93
  i26 := by kernel_rfl }
def Try.sortI_ren : Go.Shelf.Ren := ⟨fun | 5 => 98 | 8 => 105 | 7 => 104 | 19 => 115 | 20 => 116 | 10 => 106 | 11 => 107 | 12 => 108 | 13 => 109 | 14 => 110 | 15 => 111 | 16 => 112 | 17 => 113 | 18 => 114 | 30 => 117 | 31 => 118 | 32 => 119 | 33 => 120 | 34 => 121 | 35 => 122 | 40 => 123 | n => n, fun | 23 => 71 | 25 => 3 | 3 => 3 | 32 => 89 | 22 => 71 | 0 => 0 | 44 => 123 | 46 => 72 | 4 => 4 | 36 => 116 | 35 => 115 | 41 => 120 | 5 => 5 | 9 => 9 | 53 => 124 | 57 => 128 | 63 => 130 | 64 => 131 | n => n, fun | n => n⟩
theorem Try.sortI : Go.Proofs.SlLaysM.n5 Try.prog Try.sortI_ren := {
  mixed := by kernel_rfl
  f5 := ⟨Try.f98.name, by decide, Try.func98.trans (congrArg some (by kernel_rfl))⟩
  f7 := ⟨Try.f104.name, by decide, Try.func104.trans (congrArg some (by kernel_rfl))⟩
  f8 := Try.func105.trans (congrArg some (by kernel_rfl))
  f10 := ⟨Try.f106.name, by decide, Try.func106.trans (congrArg some (by kernel_rfl))⟩
  f11 := ⟨Try.f107.name, by decide, Try.func107.trans (congrArg some (by kernel_rfl))⟩
  f12 := ⟨Try.f108.name, by decide, Try.func108.trans (congrArg some (by kernel_rfl))⟩
  f13 := ⟨Try.f109.name, by decide, Try.func109.trans (congrArg some (by kernel_rfl))⟩
  f14 := ⟨Try.f110.name, by decide, Try.func110.trans (congrArg some (by kernel_rfl))⟩
  f15 := ⟨Try.f111.name, by decide, Try.func111.trans (congrArg some (by kernel_rfl))⟩
  f16 := ⟨Try.f112.name, by decide, Try.func112.trans (congrArg some (by kernel_rfl))⟩
  f17 := ⟨Try.f113.name, by decide, Try.func113.trans (congrArg some (by kernel_rfl))⟩
  f18 := ⟨Try.f114.name, by decide, Try.func114.trans (congrArg some (by kernel_rfl))⟩
  f19 := Try.func115.trans (congrArg some (by kernel_rfl))
  f20 := Try.func116.trans (congrArg some (by kernel_rfl))
  f30 := ⟨Try.f117.name, by decide, Try.func117.trans (congrArg some (by kernel_rfl))⟩
  f31 := Try.func118.trans (congrArg some (by kernel_rfl))
  f32 := Try.func119.trans (congrArg some (by kernel_rfl))
  f33 := ⟨Try.f120.name, by decide, Try.func120.trans (congrArg some (by kernel_rfl))⟩
  f34 := ⟨Try.f121.name, by decide, Try.func121.trans (congrArg some (by kernel_rfl))⟩
  f35 := ⟨Try.f122.name, by decide, Try.func122.trans (congrArg some (by kernel_rfl))⟩
  f40 := ⟨Try.f123.name, by decide, Try.func123.trans (congrArg some (by kernel_rfl))⟩
  t0 := Try.underlying0
  a0 := Try.isAgg0
  z0 := Try.sizeOf0
  v0 := Try.zeroValue0
  t3 := Try.underlying3
  a3 := Try.isAgg3
  z3 := Try.sizeOf3
  v3 := Try.zeroValue3
  t4 := Try.underlying4
  a4 := Try.isAgg4
  z4 := Try.sizeOf4
  v4 := Try.zeroValue4
  t5 := Try.underlying5
  a5 := Try.isAgg5
  z5 := Try.sizeOf5
  v5 := Try.zeroValue5
  t9 := Try.underlying9
  a9 := Try.isAgg9
  z9 := Try.sizeOf9
  v9 := Try.zeroValue9
  t22 := Try.underlying71
  a22 := Try.isAgg71
  z22 := Try.sizeOf71
  v22 := Try.zeroValue71
  t23 := Try.underlying71
  a23 := Try.isAgg71
  z23 := Try.sizeOf71
  v23 := Try.zeroValue71
  t25 := Try.underlying3
  a25 := Try.isAgg3
  z25 := Try.sizeOf3
  v25 := Try.zeroValue3
  t32 := Try.underlying89
  a32 := Try.isAgg89
  z32 := Try.sizeOf89
  v32 := Try.zeroValue89
  t35 := Try.underlying115
  a35 := Try.isAgg115
  z35 := Try.sizeOf115
  v35 := Try.zeroValue115
  t36 := Try.underlying116
  a36 := Try.isAgg116
  z36 := Try.sizeOf116
  v36 := Try.zeroValue116
  t41 := Try.underlying120
  a41 := Try.isAgg120
  z41 := Try.sizeOf120
  v41 := Try.zeroValue120
  t44 := Try.underlying123
  a44 := Try.isAgg123
  z44 := Try.sizeOf123
  v44 := Try.zeroValue123
  t46 := Try.underlying72
  a46 := Try.isAgg72
  z46 := Try.sizeOf72
  v46 := Try.zeroValue72
  t53 := Try.underlying124
  a53 := Try.isAgg124
  z53 := Try.sizeOf124
  v53 := Try.zeroValue124
  t57 := Try.underlying128
  a57 := Try.isAgg128
  z57 := Try.sizeOf128
  v57 := Try.zeroValue128
  t63 := Try.underlying130
  a63 := Try.isAgg130
  z63 := Try.sizeOf130
  v63 := Try.zeroValue130
  t64 := Try.underlying131
  a64 := Try.isAgg131
  z64 := Try.sizeOf131
  v64 := Try.zeroValue131 }
end Go.Proofs

