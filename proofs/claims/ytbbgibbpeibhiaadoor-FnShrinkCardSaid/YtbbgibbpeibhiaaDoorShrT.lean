/-
  The mathematics of the law on ShrinkMatrix: rows and columns that are equal to none before them.
-/
import Derived.Test.YtbbgibbpeibhiaaDoorShrM
namespace Go.Proofs.YtbbgibbpeibhiaaDoor.ShrT
open Go.RowKit Go.Proofs.YtbbgibbpeibhiaaDoor.Plain Go.Proofs.YtbbgibbpeibhiaaDoor.Base Go.Proofs.YtbbgibbpeibhiaaDoor.Valid Go.Proofs.YtbbgibbpeibhiaaDoor.Law Go.Proofs.YtbbgibbpeibhiaaDoor.GridPlain Go.Proofs.YtbbgibbpeibhiaaDoor.Grid Go.Proofs.YtbbgibbpeibhiaaDoor.Entry Go.Proofs.YtbbgibbpeibhiaaDoor.First Go.Proofs.YtbbgibbpeibhiaaDoor.ShrM
open Go.Proofs.YtbbgibbpeibhiaaDoor.PickI (pickI)
set_option linter.unusedVariables false

theorem nodup_len {α : Type} [BEq α] [LawfulBEq α] : ∀ (l l' : List α), l.Nodup → (∀ x ∈ l, x ∈ l') → l.length ≤ l'.length
  | [], _, _, _ => Nat.zero_le _
  | a :: l, l', hn, hs => by
    have ha := hs a List.mem_cons_self
    rw [List.nodup_cons] at hn
    have h := nodup_len l (l'.erase a) hn.2 fun x hx => (List.mem_erase_of_ne (fun e => hn.1 (by rw [← e]; exact hx))).2 (hs x (List.mem_cons_of_mem _ hx))
    rw [List.length_erase_of_mem ha] at h
    have := List.length_pos_of_mem ha
    rw [List.length_cons]
    omega
theorem fresh_iff (f : Nat → List UInt8) (x : List UInt8) (n : Nat) : fresh f x n = true ↔ ∀ j, j < n → f j ≠ x := by
  unfold fresh
  rw [List.all_eq_true]
  constructor
  · intro h j hj e
    have := h j (List.mem_range.2 hj)
    rw [e] at this
    simp at this
  · intro h j hj
    have := h j (List.mem_range.1 hj)
    simpa using this
/-- no two of the first ones have one key -/
theorem firsts_apart (f : Nat → List UInt8) : ∀ k, (firsts f k).Pairwise fun i j => f i ≠ f j
  | 0 => List.Pairwise.nil
  | k + 1 => by
    have ih := firsts_apart f k
    rw [firsts]
    split
    · rename_i hf
      rw [List.pairwise_append]
      refine ⟨ih, List.pairwise_singleton _ _, fun a ha b hb => ?_⟩
      rw [List.mem_singleton] at hb
      subst hb
      exact (fresh_iff f (f b) b).1 hf a (firsts_lt f b a ha)
    · exact ih
/-- each key is one of the first ones' -/
theorem firsts_has (f : Nat → List UInt8) (k i : Nat) (hi : i < k) : ∃ j ∈ firsts f k, f j = f i := by
  have h := firsts_any f (f i) k
  have hf : fresh f (f i) k = false := by
    cases e : fresh f (f i) k with
    | false => rfl
    | true => exact absurd rfl ((fresh_iff f (f i) k).1 e i hi)
  rw [hf] at h
  obtain ⟨j, hj, e⟩ := List.any_eq_true.1 h
  exact ⟨j, hj, by simpa using e⟩
/-- as many, if what is one key stays one -/
theorem firsts_le (f g : Nat → List UInt8) (n : Nat) (h : ∀ i j, i < n → j < n → f i = f j → g i = g j) : (firsts g n).length ≤ (firsts f n).length := by
  have := nodup_len ((firsts g n).map f) ((firsts f n).map f) ?_ ?_
  · simpa using this
  · rw [List.Nodup, List.pairwise_map]
    exact (firsts_apart g n).imp_of_mem fun ha hb hne e => hne (h _ _ (firsts_lt g n _ ha) (firsts_lt g n _ hb) e)
  · intro x hx
    obtain ⟨i, hi, rfl⟩ := List.mem_map.1 hx
    obtain ⟨j, hj, e⟩ := firsts_has f n i (firsts_lt g n i hi)
    exact List.mem_map.2 ⟨j, hj, e⟩
/-- as many, if each key is one of the other's -/
theorem firsts_sub (f g : Nat → List UInt8) (n k : Nat) (h : ∀ i, i < k → ∃ j, j < n ∧ g i = f j) : (firsts g k).length ≤ (firsts f n).length := by
  have := nodup_len ((firsts g k).map g) ((firsts f n).map f) ?_ ?_
  · simpa using this
  · rw [List.Nodup, List.pairwise_map]
    exact firsts_apart g k
  · intro x hx
    obtain ⟨i, hi, rfl⟩ := List.mem_map.1 hx
    obtain ⟨j, hj, e⟩ := h i (firsts_lt g k i hi)
    obtain ⟨l, hl, e2⟩ := firsts_has f n j hj
    exact List.mem_map.2 ⟨l, hl, by rw [e2, e]⟩
/-- all of them, if no two have one key -/
theorem firsts_all (f : Nat → List UInt8) : ∀ k, (∀ i j, i < j → j < k → f i ≠ f j) → firsts f k = List.range k
  | 0, _ => rfl
  | k + 1, h => by
    rw [firsts, if_pos ((fresh_iff f (f k) k).2 fun j hj => h j k hj (by omega)), firsts_all f k fun i j hi hj => h i j hi (by omega), List.range_succ]
theorem row_same (E F : Nat → Nat → Bool) (x y c : Nat) : rowB E x c = rowB F y c ↔ ∀ i, i < c → E x i = F y i := by
  constructor
  · intro h1 i hi
    have := congrArg (fun l : List UInt8 => l[i]?) h1
    simp only [rowB_get E x c i hi, rowB_get F y c i hi, Option.some.injEq] at this
    revert this
    cases E x i <;> cases F y i <;> simp [dig]
  · intro h1
    unfold rowB
    refine List.map_congr_left fun i hi => ?_
    rw [h1 i (List.mem_range.1 hi)]
theorem ints_at (l : List Nat) (i : Nat) (h : i < l.length) : ((ints l).getD i 0).toNat = l[i] := by
  unfold ints
  rw [List.getD_eq_getElem?_getD, List.getElem?_map, List.getElem?_eq_getElem h]
  rfl
/-- the entries of what is left -/
def shrE (E : Nat → Nat → Bool) (r c : Nat) : Nat → Nat → Bool := pickI E (ints (firsts (keyR E c) r)) (ints (firsts (keyC E r) c))
def rN (E : Nat → Nat → Bool) (r c : Nat) : Nat := (firsts (keyR E c) r).length
def cN (E : Nat → Nat → Bool) (r c : Nat) : Nat := (firsts (keyC E r) c).length
theorem shr_turn (E : Nat → Nat → Bool) (r c : Nat) : (fun x y => shrE E r c y x) = shrE (fun x y => E y x) c r := rfl
theorem rN_turn (E : Nat → Nat → Bool) (r c : Nat) : cN E r c = rN (fun x y => E y x) c r := rfl
theorem cN_turn (E : Nat → Nat → Bool) (r c : Nat) : rN E r c = cN (fun x y => E y x) c r := rfl
theorem shr_at (E : Nat → Nat → Bool) (r c i j : Nat) (hi : i < rN E r c) (hj : j < cN E r c) :
    shrE E r c i j = E ((firsts (keyR E c) r)[i]'hi) ((firsts (keyC E r) c)[j]'hj) := by
  unfold shrE pickI
  rw [ints_at _ _ hi, ints_at _ _ hj]
/-- no two rows of what is left are one -/
theorem shr_rows (E : Nat → Nat → Bool) (r c i j : Nat) (hij : i < j) (hj : j < rN E r c) : keyR (shrE E r c) (cN E r c) i ≠ keyR (shrE E r c) (cN E r c) j := by
  intro e
  have hi : i < rN E r c := by omega
  have hp := List.pairwise_iff_getElem.1 (firsts_apart (keyR E c) r) i j hi hj hij
  refine hp ((row_same E E _ _ c).2 fun y hy => ?_)
  obtain ⟨y', hy', e2⟩ := firsts_has (keyC E r) c y hy
  obtain ⟨k, hk, rfl⟩ := List.getElem_of_mem hy'
  have hcol := (row_same (fun x y => E y x) (fun x y => E y x) _ _ r).1 e2
  have hx1 := firsts_lt (keyR E c) r _ (List.getElem_mem hi)
  have hx2 := firsts_lt (keyR E c) r _ (List.getElem_mem hj)
  have h := (row_same (shrE E r c) (shrE E r c) i j (cN E r c)).1 e k hk
  rw [shr_at E r c i k hi hk, shr_at E r c j k hj hk] at h
  have h1 := hcol _ hx1
  have h2 := hcol _ hx2
  exact h1.symm.trans (h.trans h2)
theorem shr_cols (E : Nat → Nat → Bool) (r c i j : Nat) (hij : i < j) (hj : j < cN E r c) : keyC (shrE E r c) (rN E r c) i ≠ keyC (shrE E r c) (rN E r c) j :=
  shr_rows (fun x y => E y x) c r i j hij hj
/-- what is left stays -/
theorem again_rN (E : Nat → Nat → Bool) (r c : Nat) : rN (shrE E r c) (rN E r c) (cN E r c) = rN E r c := by
  unfold rN
  rw [show (firsts (keyR E c) r).length = rN E r c from rfl, firsts_all _ _ fun i j hi hj => shr_rows E r c i j hi hj, List.length_range]
theorem again_cN (E : Nat → Nat → Bool) (r c : Nat) : cN (shrE E r c) (rN E r c) (cN E r c) = cN E r c := by
  rw [rN_turn, cN_turn E r c, rN_turn E r c, shr_turn]
  exact again_rN (fun x y => E y x) c r
theorem again_at (E : Nat → Nat → Bool) (r c x y : Nat) (hx : x < rN E r c) (hy : y < cN E r c) : shrE (shrE E r c) (rN E r c) (cN E r c) x y = shrE E r c x y := by
  have h1 := firsts_all (keyR (shrE E r c) (cN E r c)) (rN E r c) fun i j hi hj => shr_rows E r c i j hi hj
  have h2 := firsts_all (keyC (shrE E r c) (rN E r c)) (cN E r c) fun i j hi hj => shr_cols E r c i j hi hj
  rw [show shrE (shrE E r c) (rN E r c) (cN E r c) = pickI (shrE E r c) (ints (firsts (keyR (shrE E r c) (cN E r c)) (rN E r c))) (ints (firsts (keyC (shrE E r c) (rN E r c)) (cN E r c))) from rfl, h1, h2]
  unfold pickI
  rw [ints_at _ _ (by rw [List.length_range]; exact hx), ints_at _ _ (by rw [List.length_range]; exact hy), List.getElem_range, List.getElem_range]
theorem again_bytes (E : Nat → Nat → Bool) (r c : Nat) : rowsB (shrE (shrE E r c) (rN E r c) (cN E r c)) (rN E r c) (cN E r c) = rowsB (shrE E r c) (rN E r c) (cN E r c) :=
  rowsB_congr fun x y hx hy => again_at E r c x y hx hy
/-- rows picked twice add none that is new -/
theorem twice_rows (E F : Nat → Nat → Bool) (r c n : Nat) (h : ∀ i, i < n → ∃ x, x < r ∧ ∀ y, y < c → F i y = E x y) : rN F n c ≤ rN E r c :=
  firsts_sub (keyR E c) (keyR F c) r n fun i hi => by
    obtain ⟨x, hx, e⟩ := h i hi
    exact ⟨x, hx, (row_same F E i x c).2 e⟩
theorem twice_cols (E F : Nat → Nat → Bool) (r c n : Nat) (h : ∀ i, i < n → ∃ x, x < r ∧ ∀ y, y < c → F i y = E x y) : cN F n c ≤ cN E r c :=
  firsts_le (keyC E r) (keyC F n) c fun i j hi hj e => by
    have he := (row_same (fun x y => E y x) (fun x y => E y x) i j r).1 e
    refine (row_same (fun x y => F y x) (fun x y => F y x) i j n).2 fun k hk => ?_
    obtain ⟨x, hx, e2⟩ := h k hk
    show F k i = F k j
    rw [e2 i hi, e2 j hj]
    exact he x hx
end Go.Proofs.YtbbgibbpeibhiaaDoor.ShrT
