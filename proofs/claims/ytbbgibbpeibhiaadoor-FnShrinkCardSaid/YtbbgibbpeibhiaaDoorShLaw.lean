/-
  The walk of the drawn law on ShrinkMatrix.
-/
import Derived.Test.YtbbgibbpeibhiaaDoorDrawSh
import Derived.Test.YtbbgibbpeibhiaaDoorShrY
import Derived.Test.YtbbgibbpeibhiaaDoorClos
import Derived.Test.YtbbgibbpeibhiaaDoorKept
import Derived.Test.YtbbgibbpeibhiaaDoorApx
import Derived.Test.YtbbgibbpeibhiaaDoorFreeK
namespace Go.Proofs.YtbbgibbpeibhiaaDoor.fnShrink
open Go.RowKit Go.Proofs.YtbbgibbpeibhiaaDoor.Plain Go.Proofs.YtbbgibbpeibhiaaDoor.Base Go.Proofs.YtbbgibbpeibhiaaDoor.Valid Go.Proofs.YtbbgibbpeibhiaaDoor.Law Go.Proofs.YtbbgibbpeibhiaaDoor.GridPlain Go.Proofs.YtbbgibbpeibhiaaDoor.Grid Go.Proofs.YtbbgibbpeibhiaaDoor.Entry Go.Proofs.YtbbgibbpeibhiaaDoor.Ints Go.Proofs.YtbbgibbpeibhiaaDoor.FreeL Go.Proofs.YtbbgibbpeibhiaaDoor.ShrT Go.Proofs.YtbbgibbpeibhiaaDoor.ShrY Go.Proofs.YtbbgibbpeibhiaaDoor.Rd Go.Proofs.YtbbgibbpeibhiaaDoor.Kept Go.Proofs.YtbbgibbpeibhiaaDoor.Apx
open Go.Proofs.YtbbgibbpeibhiaaDoor.First (firsts firsts_len firsts_one info3)
open Go.Proofs.YtbbgibbpeibhiaaDoor.Fmt (cut_row)
open Go.Proofs.YtbbgibbpeibhiaaDoor.ShrM (keyR keyC)
open Go.Proofs.YtbbgibbpeibhiaaDoor.PickI (pickI pick_impl)
open Go.Proofs.YtbbgibbpeibhiaaDoor.Clos (turn_impl)
open Go.Proofs.YtbbgibbpeibhiaaDoor.Free (fill wp_value wp_enter wp_load_row freeB)
open Go.Proofs.YtbbgibbpeibhiaaDoor.FreeK (wp_region_acts put_other)
set_option linter.unusedVariables false
set_option linter.unusedSimpArgs false

theorem eval_get {a : Act} {d : Tmp} {v : Value} (h : a.tmps[d]?.getD undef = v) : a.eval (.tmp d) = v := by
  rw [← h]
  show a.tmps.getD d undef = _
  simp [Array.getD_eq_getD_getElem?]
theorem cells3 {w : World} {b : Nat} {c0 c1 c2 : Value} {ty : TypeId} (h : w.heap[b]? = some (.cells #[c0, c1, c2] ty (0, 0))) : w.cell? ⟨b, 0, none⟩ = some c0 ∧ w.cell? ⟨b, 1, none⟩ = some c1 ∧ w.cell? ⟨b, 2, none⟩ = some c2 :=
  ⟨cell_of_row _ _ 0 _ _ _ h, cell_of_row _ _ 1 _ _ _ h, cell_of_row _ _ 2 _ _ _ h⟩
theorem minfo : (Tryd.prog.info? 24).map (·.size) = some 3 := by kernel_rfl
theorem rows_small (E : Nat → Nat → Bool) (R C : Nat) (h2 : R ≤ 8) (h4 : C ≤ 8) : (str (rowsB E R C)).size ≤ 64 := by rw [str_size, rowsB_length]; exact prod_le h2 h4
theorem rows_max (E : Nat → Nat → Bool) (R C : Nat) (h2 : R ≤ 8) (h4 : C ≤ 8) : (str (rowsB E R C)).size ≤ maxLen := by
  have := rows_small E R C h2 h4
  unfold maxLen
  omega
theorem valid_rows (E : Nat → Nat → Bool) (R C : Nat) (h1 : 1 ≤ R) (h2 : R ≤ 8) (h3 : 1 ≤ C) (h4 : C ≤ 8) : validB R C (str (rowsB E R C)) = true := by
  rw [validB_in (by omega) (by omega) (by omega) (by omega)]
  have : okB (str (rowsB E R C)) = true := okB_true fun j hj => by
    have hj' : j < R * C := by rw [str_size, rowsB_length] at hj; exact hj
    rw [str_get _ j _ (rowsB_get E R C j hj') hj]
    cases E (j / C) (j % C) <;> rfl
  rw [this, Bool.true_and, str_size, rowsB_length]
  simp

/-- the rows that are picked: each twice, the last one once more -/
def half (k : Nat) : List Int := (List.range k).map fun i => ((i / 2 : Nat) : Int)
def upto (k : Nat) : List Int := (List.range k).map fun i : Nat => (i : Int)
theorem half_len (k : Nat) : (half k).length = k := by simp [half]
theorem upto_len (k : Nat) : (upto k).length = k := by simp [upto]
theorem half_next (k : Nat) : half (k + 1) = half k ++ [((k / 2 : Nat) : Int)] := by simp [half, List.range_succ]
theorem upto_next (k : Nat) : upto (k + 1) = upto k ++ [(k : Int)] := by simp [upto, List.range_succ]
def picked (R : Nat) : List Int := (half R ++ [((R - 1 : Nat) : Int)]).take (min (R + 1) 8)
theorem picked_len (R : Nat) : (picked R).length = min (R + 1) 8 := by
  unfold picked
  rw [List.length_take, List.length_append, half_len]
  simp
theorem picked_in (R : Nat) (h : 1 ≤ R) : ∀ x ∈ picked R, ∃ k : Nat, x = (k : Int) ∧ k < R := by
  intro x hx
  have := List.mem_of_mem_take hx
  rcases List.mem_append.1 this with h1 | h1
  · obtain ⟨i, hi, rfl⟩ := List.mem_map.1 h1
    have := List.mem_range.1 hi
    exact ⟨i / 2, rfl, by omega⟩
  · simp only [List.mem_singleton] at h1
    exact ⟨R - 1, h1, by omega⟩
theorem picked_ok (R : Nat) (h : 1 ≤ R) : okI (picked R) R = true := okI_true fun j hj => by
  obtain ⟨k, e, hk⟩ := picked_in R h _ (List.getElem_mem hj)
  rw [e]
  omega
theorem upto_ok (C : Nat) : okI (upto C) C = true := okI_true fun j hj => by
  simp only [upto, List.getElem_map, List.getElem_range]
  rw [upto_len] at hj
  omega
theorem picked_row (E : Nat → Nat → Bool) (R C : Nat) (h : 1 ≤ R) (i : Nat) (hi : i < min (R + 1) 8) : ∃ x, x < R ∧ ∀ y, y < C → pickI E (picked R) (upto C) i y = E x y := by
  have hl : i < (picked R).length := by rw [picked_len]; exact hi
  obtain ⟨k, e, hk⟩ := picked_in R h _ (List.getElem_mem hl)
  refine ⟨k, hk, fun y hy => ?_⟩
  unfold pickI
  rw [List.getD_eq_getElem?_getD, List.getElem?_eq_getElem hl, e, List.getD_eq_getElem?_getD, List.getElem?_eq_getElem (by rw [upto_len]; exact hy)]
  simp [upto]

/-- which matrices there are: both answer none, or the matrix is told by its entries -/
theorem cases (a b : Int) (t : ByteArray) (hs : t.size ≤ maxLen) :
    ((∀ w, Calls Tryd.prog 9 #[mat a b t] w fun e w' => e = .returned noneV ∧ Below w.heap.size w w') ∧ (∀ w, Calls Tryd.prog 10 #[mat a b t] w fun e w' => e = .returned noneV ∧ Below w.heap.size w w')) ∨
    (∃ (R C : Nat) (E : Nat → Nat → Bool), a = R ∧ b = C ∧ t = str (rowsB E R C) ∧ 1 ≤ R ∧ R ≤ 8 ∧ 1 ≤ C ∧ C ≤ 8) := by
  by_cases hv : validB a b t = true
  · obtain ⟨R, C, E, rfl, rfl, h1, h2, h3, h4, rfl⟩ := valid_form hv
    exact .inr ⟨R, C, E, rfl, rfl, rfl, h1, h2, h3, h4⟩
  · have hv' : validB a b t = false := by simpa using hv
    exact .inl ⟨fun w => shr_no a b t hs hv' w, fun w => shr_said_no a b t hs hv' w⟩
/-- all that the law calls, where the matrix is one -/
theorem facts (E : Nat → Nat → Bool) (R C : Nat) (h1 : 1 ≤ R) (h2 : R ≤ 8) (h3 : 1 ≤ C) (h4 : C ≤ 8) : ∃ (r c rd cd : Nat) (sn sT st sp sd : ByteArray),
    (1 ≤ r ∧ r ≤ 8) ∧ (1 ≤ c ∧ c ≤ 8) ∧ rd ≤ r ∧ cd ≤ c ∧ sn.size = r * c ∧ (∀ i k, k < i → i < r → sn.extract (i * c) ((i + 1) * c) ≠ sn.extract (k * c) ((k + 1) * c)) ∧
    (∀ w, Calls Tryd.prog 9 #[mat R C (str (rowsB E R C))] w fun e w' => e = .returned (.tuple #[mat r c sn, .bool true]) ∧ Below w.heap.size w w') ∧
    (∀ w, Calls Tryd.prog 10 #[mat R C (str (rowsB E R C))] w fun e w' => e = .returned (.tuple #[mat r c sn, .bool true]) ∧ Below w.heap.size w w') ∧
    (∀ w, Calls Tryd.prog 9 #[mat r c sn] w fun e w' => e = .returned (.tuple #[mat r c sn, .bool true]) ∧ Below w.heap.size w w') ∧
    (∀ w, Calls Tryd.prog 11 #[mat R C (str (rowsB E R C))] w fun e w' => e = .returned (.tuple #[mat C R sT, .bool true]) ∧ Below w.heap.size w w') ∧
    (∀ w, Calls Tryd.prog 9 #[mat C R sT] w fun e w' => e = .returned (.tuple #[mat c r st, .bool true]) ∧ Below w.heap.size w w') ∧
    (∀ w, Calls Tryd.prog 11 #[mat r c sn] w fun e w' => e = .returned (.tuple #[mat c r st, .bool true]) ∧ Below w.heap.size w w') ∧
    (∀ (v u : Value) (w : World), IV w w.heap.size v (picked R) → IV w w.heap.size u (upto C) → Calls Tryd.prog 12 #[mat R C (str (rowsB E R C)), v, u] w fun e w' => e = .returned (.tuple #[mat (min (R + 1) 8 : Nat) C sp, .bool true]) ∧ Below w.heap.size w w') ∧
    (∀ w, Calls Tryd.prog 9 #[mat (min (R + 1) 8 : Nat) C sp] w fun e w' => e = .returned (.tuple #[mat rd cd sd, .bool true]) ∧ Below w.heap.size w w') := by
  have hr := rN_in E R C h1 h2 h3 h4
  have hc := cN_in E R C h1 h2 h3 h4
  have hg := fun W => grid_yes E R C h1 h2 h3 h4 _ rfl (rows_max E R C h2 h4) (rows_small E R C h2 h4) (valid_rows E R C h1 h2 h3 h4) W
  have hag := fun W => shr_yes (shrE E R C) (rN E R C) (cN E R C) hr.1 (by omega) hc.1 (by omega) (rows_max _ _ _ (by omega) (by omega)) (valid_rows _ _ _ hr.1 (by omega) hc.1 (by omega)) W
  unfold shrV at hag
  rw [again_rN, again_cN, again_bytes] at hag
  have hp := fun v u W i1 i2 => pick_impl E R C h1 h2 h3 h4 _ (picked R) (upto C) v u (picked_ok R h1) (upto_ok C) (by rw [picked_len]; omega) (by rw [picked_len]; omega) (by rw [upto_len]; omega) (by rw [upto_len]; omega) W i1 i2 hg
  rw [picked_len, upto_len] at hp
  have hpr := fun i hi => picked_row E R C h1 i hi
  refine ⟨rN E R C, cN E R C, rN (pickI E (picked R) (upto C)) (min (R + 1) 8) C, cN (pickI E (picked R) (upto C)) (min (R + 1) 8) C, str (rowsB (shrE E R C) (rN E R C) (cN E R C)), str (rowsB (fun x y => E y x) C R), str (rowsB (fun x y => shrE E R C y x) (cN E R C) (rN E R C)),
    str (rowsB (pickI E (picked R) (upto C)) (min (R + 1) 8) C), str (rowsB (shrE (pickI E (picked R) (upto C)) (min (R + 1) 8) C) (rN (pickI E (picked R) (upto C)) (min (R + 1) 8) C) (cN (pickI E (picked R) (upto C)) (min (R + 1) 8) C)),
    ⟨hr.1, by omega⟩, ⟨hc.1, by omega⟩, twice_rows E _ R C _ hpr, twice_cols E _ R C _ hpr, by rw [str_size, rowsB_length], fun i k hk hi => ?_,
    fun w => shr_yes E R C h1 h2 h3 h4 (rows_max E R C h2 h4) (valid_rows E R C h1 h2 h3 h4) w, fun w => shr_said E R C h1 h2 h3 h4 (rows_max E R C h2 h4) (valid_rows E R C h1 h2 h3 h4) w, hag,
    fun w => turn_impl E R C h1 h2 h3 h4 _ w hg, fun w => ?_, fun w => ?_, fun v u w i1 i2 => hp v u w i1 i2, fun w => ?_⟩
  · rw [cut_row _ _ _ i _ rfl hi, cut_row _ _ _ k _ rfl (by omega)]
    intro e
    have e2 := congrArg (fun b : ByteArray => b.data.toList) e
    simp only [str] at e2
    exact shr_rows E R C k i hk hi (by simpa using e2.symm)
  · exact shr_yes (fun x y => E y x) C R h3 h4 h1 h2 (rows_max _ C R h4 h2) (valid_rows _ C R h3 h4 h1 h2) w
  · exact turn_impl (shrE E R C) (rN E R C) (cN E R C) hr.1 (by omega) hc.1 (by omega) _ w fun W => grid_yes _ _ _ hr.1 (by omega) hc.1 (by omega) _ rfl (rows_max _ _ _ (by omega) (by omega)) (rows_small _ _ _ (by omega) (by omega)) (valid_rows _ _ _ hr.1 (by omega) hc.1 (by omega)) W
  · exact shr_yes (pickI E (picked R) (upto C)) (min (R + 1) 8) C (by omega) (by omega) h3 h4 (rows_max _ _ _ (by omega) (by omega)) (valid_rows _ _ _ (by omega) (by omega) h3 h4) w

/-! two lists of a call's own, in blocks of their own -/
def cellsN (xs : List Int) : List Value := xs.map fun x => Value.int .i64 x
theorem cellsN_len (xs : List Int) : (cellsN xs).length = xs.length := by simp [cellsN]
structure Tw (w0 wr : World) (v u : Value) (xs ys : List Int) : Prop where
  one : App.Own w0 wr 3 1 v xs.length (cellsN xs)
  two : App.Own w0 wr 3 1 u ys.length (cellsN ys)
  apart : v.ownBlock ≠ u.ownBlock
  lt1 : ∀ k, v.ownBlock = some k → k < wr.heap.size
  lt2 : ∀ k, u.ownBlock = some k → k < wr.heap.size
theorem Tw.later {w0 wr w2 : World} {v u : Value} {xs ys : List Int} (h : Tw w0 wr v u xs ys) (hb : Below wr.heap.size wr w2) : Tw w0 w2 v u xs ys :=
  ⟨h.one.later hb, h.two.later hb, h.apart, fun k e => Nat.lt_of_lt_of_le (h.lt1 k e) hb.size, fun k e => Nat.lt_of_lt_of_le (h.lt2 k e) hb.size⟩
theorem Tw.swap {w0 wr : World} {v u : Value} {xs ys : List Int} (h : Tw w0 wr v u xs ys) : Tw w0 wr u v ys xs := ⟨h.two, h.one, h.apart.symm, h.lt2, h.lt1⟩
/-- an append to the first one -/
theorem Tw.next {w0 wr w3 : World} {v u v3 : Value} {xs ys : List Int} {x : Int} (h : Tw w0 wr v u xs ys) (h3 : w3.ownsRow w0.heap.size 3 1 v3 (xs.length + 1) (cellsN xs ++ [.int .i64 x])) (hg : wr.grownBy w3 v.ownBlock) (hw : v3.ownBlock = v.ownBlock ∨ v3.ownBlock = some wr.heap.size) :
    Tw w0 w3 v3 u (xs ++ [x]) ys := by
  have hb : Below w0.heap.size w0 w3 := h.one.below.grown hg h.one.below.size fun j hj => (h.one.row.lt j hj).1
  have hsz : wr.heap.size ≤ w3.heap.size := hg.size
  refine ⟨⟨by simpa [cellsN] using h3, hb⟩, ⟨h.two.row.kept hg (.inr h.apart.symm), hb⟩, ?_, fun k e => ?_, fun k e => Nat.lt_of_lt_of_le (h.lt2 k e) hsz⟩
  · rcases hw with e | e
    · rw [e]; exact h.apart
    · rw [e]
      intro e2
      have := h.lt2 _ e2.symm
      omega
  · obtain ⟨_, h4⟩ := h3
    rcases h4 with ⟨rfl, _⟩ | ⟨g, cap, cur, rfl, _, hgc, _⟩
    · cases e
    · simp only [Value.ownBlock, Option.some.injEq] at e
      rw [← e]
      exact (Array.getElem?_eq_some_iff.1 hgc).1
theorem iv_own {w0 wr : World} {v : Value} {xs : List Int} (h : App.Own w0 wr 3 1 v xs.length (cellsN xs)) (hl : xs.length ≤ 1000) : IV wr wr.heap.size v xs := by
  refine ⟨by omega, ?_⟩
  rcases h.row.2 with ⟨rfl, h0⟩ | ⟨g, cap, cur, rfl, h1, h2, h3, h4, h5, h6⟩
  · exact .inl ⟨rfl, List.eq_nil_of_length_eq_zero h0⟩
  · refine .inr ⟨g, 0, cap, rfl, (Array.getElem?_eq_some_iff.1 h2).1, fun j hj => ?_⟩
    rw [Nat.zero_add, cell_of_row _ _ j _ _ _ h2]
    have h7 : (cur.toList.take (xs.length * 1))[j]? = some (.int .i64 xs[j]) := by rw [h6]; simp [cellsN, hj]
    rw [List.getElem?_take, if_pos (by omega)] at h7
    simpa using h7

theorem Tw.start (W0 : World) (D : Nat) (h : W0.heap.size = D) : Tw W0 ((W0.alloc (.cells #[] 3)).alloc (.cells #[] 3)) (.slice (some ⟨D, 0, none⟩) 0 0) (.slice (some ⟨D + 1, 0, none⟩) 0 0) (half 0) (upto 0) := by
  subst h
  have h2 := (App.Own.lit W0 3 1).later ((Below.refl _ _).alloc (Nat.le_refl _) (.cells #[] 3))
  have h3 := World.ownsRow_lit (base := W0.heap.size) (e := 3) (size := 1) (W0.alloc (.cells #[] 3)) #[] 0 (by simp) (by unfold maxLen; omega) (by simp)
  rw [World.size_alloc] at h3
  refine ⟨h2, ⟨h3, h2.below⟩, by simp [Value.ownBlock], fun k e => ?_, fun k e => ?_⟩
  · simp only [Value.ownBlock, Option.some.injEq] at e
    simp
    omega
  · simp only [Value.ownBlock, Option.some.injEq] at e
    simp
    omega

/-! the region in which the list is made, cut and picked by -/
def Row (w : World) (v : Value) (n : Nat) (xs : List Int) : Prop := ∃ g cap cur, v = .slice (some ⟨g, 0, none⟩) n cap ∧ w.heap[g]? = some (.cells cur 3 (0, 0)) ∧ n ≤ cap ∧ cap ≤ 9223372036854775807 ∧ cur.toList.take n = cellsN xs
theorem Row.iv {w : World} {v : Value} {n : Nat} {xs : List Int} (h : Row w v n xs) (hn : xs.length = n) (hl : n ≤ 1000) : IV w w.heap.size v xs := by
  obtain ⟨g, cap, cur, rfl, h2, h3, _, h4⟩ := h
  subst hn
  refine ⟨by omega, .inr ⟨g, 0, cap, rfl, (Array.getElem?_eq_some_iff.1 h2).1, fun j hj => ?_⟩⟩
  rw [Nat.zero_add, cell_of_row _ _ j _ _ _ h2]
  have h7 : (cur.toList.take xs.length)[j]? = some (.int .i64 xs[j]) := by rw [h4]; simp [cellsN, hj]
  rw [List.getElem?_take, if_pos hj] at h7
  simpa using h7
abbrev Mo (a b : Int) (s : ByteArray) : Obj := .cells #[.int .i64 a, .int .i64 b, .string s] 24 (0, 0)
def Yr (W0 : World) (rv cv : Value) (B R C q : Nat) (sm sp : ByteArray) : Nat → Value → Act → World → Prop
  | 0, v, _, _ => v = mat R C sm
  | 1, v, _, _ => v = rv
  | 2, v, _, _ => v = .pointer (some ⟨B, 0, none⟩)
  | 3, v, _, _ => v = .int .i64 (R : Int)
  | 4, v, _, _ => v = .int .i64 ((R : Int) - 1)
  | 5, v, _, w => ∃ g, v = .slice (some ⟨g, 0, none⟩) 1 1 ∧ w.heap[g]? = some (.cells #[.int .i64 ((R : Int) - 1)] 3 (0, 0)) ∧ some g ≠ rv.ownBlock
  | 6, v, _, w => Row w v (R + 1) (half R ++ [(R : Int) - 1])
  | 7, v, _, _ => v = .pointer (some ⟨B, 0, none⟩)
  | 8, v, _, _ => v = .int .i64 (R : Int)
  | 9, v, _, _ => v = .int .i64 ((R : Int) + 1)
  | 10, v, _, _ => v = .int .i64 (q : Int)
  | 11, v, _, w => Row w v q (picked R)
  | 12, v, _, _ => v = cv
  | 13, v, _, _ => v = .tuple #[mat q C sp, .bool true]
  | 14, v, _, _ => v = .tuple #[mat q C sp, .bool true]
  | 15, v, _, _ => v = mat q C sp
  | 16, v, _, _ => v = .bool true
  | 17, v, _, w => ∃ g, v = .pointer (some ⟨g, 0, none⟩) ∧ W0.heap.size ≤ g ∧ (w.heap[g]? = some (Mo 0 0 ⟨#[]⟩) ∨ w.heap[g]? = some (Mo q C sp))
  | 18, _, a, w => ∃ g, a.tmps[22]? = some (.pointer (some ⟨g, 0, none⟩)) ∧ W0.heap.size ≤ g ∧ w.heap[g]? = some (Mo q C sp)
  | 19, v, _, _ => v = .bool true
  | _, _, _, _ => True
/-- what keeps the relations -/
theorem Yr.step {W0 : World} {rv cv : Value} {B R C q : Nat} {sm sp : ByteArray} {j : Nat} {u : Value} {a a' : Act} {w w' : World} (h : Yr W0 rv cv B R C q sm sp j u a w)
    (h5 : ∀ g cur, w.heap[g]? = some (.cells cur 3 (0, 0)) → (j = 5 → some g ≠ rv.ownBlock) → (j = 5 ∨ j = 6 ∨ j = 11) → w'.heap[g]? = w.heap[g]?)
    (h17 : ∀ g x y s, W0.heap.size ≤ g → w.heap[g]? = some (Mo x y s) → (j = 17 ∨ j = 18) → w'.heap[g]? = w.heap[g]? ∨ w'.heap[g]? = some (Mo q C sp)) (h22 : j = 18 → a'.tmps[22]? = a.tmps[22]?) : Yr W0 rv cv B R C q sm sp j u a' w' := by
  match j, h with
  | 0, h => exact h
  | 1, h => exact h
  | 2, h => exact h
  | 3, h => exact h
  | 4, h => exact h
  | 5, h =>
    obtain ⟨g, h1, h2, h3⟩ := h
    exact ⟨g, h1, (h5 g _ h2 (fun _ => h3) (.inl rfl)).trans h2, h3⟩
  | 6, h =>
    obtain ⟨g, cap, cur, h1, h2, h3⟩ := h
    exact ⟨g, cap, cur, h1, (h5 g _ h2 (fun e => by cases e) (.inr (.inl rfl))).trans h2, h3⟩
  | 7, h => exact h
  | 8, h => exact h
  | 9, h => exact h
  | 10, h => exact h
  | 11, h =>
    obtain ⟨g, cap, cur, h1, h2, h3⟩ := h
    exact ⟨g, cap, cur, h1, (h5 g _ h2 (fun e => by cases e) (.inr (.inr rfl))).trans h2, h3⟩
  | 12, h => exact h
  | 13, h => exact h
  | 14, h => exact h
  | 15, h => exact h
  | 16, h => exact h
  | 17, h =>
    obtain ⟨g, h1, hg, h2⟩ := h
    refine ⟨g, h1, hg, ?_⟩
    rcases h2 with h2 | h2
    · rcases h17 g _ _ _ hg h2 (.inl rfl) with e | e
      · exact .inl (e.trans h2)
      · exact .inr e
    · rcases h17 g _ _ _ hg h2 (.inl rfl) with e | e
      · exact .inr (e.trans h2)
      · exact .inr e
  | 18, h =>
    obtain ⟨g, h1, hg, h2⟩ := h
    refine ⟨g, (h22 rfl).trans h1, hg, ?_⟩
    rcases h17 g _ _ _ hg h2 (.inr rfl) with e | e
    · exact e.trans h2
    · exact e
  | 19, h => exact h
  | n + 20, h => trivial
/-- a step that only makes memory -/
theorem Yr.later {W0 : World} {rv cv : Value} {B R C q : Nat} {sm sp : ByteArray} {j : Nat} {u v : Value} {a : Act} {d : Option Tmp} {w w' : World} (h : Yr W0 rv cv B R C q sm sp j u a w) (hb : Below w.heap.size w w') (hd : j = 18 → d ≠ some 22) : Yr W0 rv cv B R C q sm sp j u (a.put d v) w' :=
  h.step (fun g cur e _ _ => hb.block g (Array.getElem?_eq_some_iff.1 e).1) (fun g x y s _ e _ => .inl (hb.block g (Array.getElem?_eq_some_iff.1 e).1)) fun e => by
    cases d with
    | none => rfl
    | some k => exact put_other v fun e2 => hd e (by rw [e2])
/-- the world, by what has come up -/
structure Wr (W0 : World) (rv cv : Value) (R C : Nat) (l : Nat → Bool) (w : World) : Prop where
  below : Below W0.heap.size W0 w
  cols : App.Own W0 w 3 1 cv (upto C).length (cellsN (upto C))
  rows : l 6 = false → Tw W0 w rv cv (half R) (upto C)
theorem Wr.later {W0 : World} {rv cv : Value} {R C : Nat} {l l' : Nat → Bool} {w w' : World} (h : Wr W0 rv cv R C l w) (hb : Below w.heap.size w w') (hl : l' 6 = false → l 6 = false) : Wr W0 rv cv R C l' w' :=
  ⟨h.below.trans (hb.mono h.below.size), h.cols.later hb, fun e => (h.rows (hl e)).later hb⟩
theorem mone (x y : Int) (s : ByteArray) : (#[.int .i64 x, .int .i64 y, .string s] : Array Value).all (·.oneCell') = true := by simp [Value.oneCell']
theorem minfo3 (x y z : Value) : (Tryd.prog.info? 24).map (·.size) = some (#[x, y, z] : Array Value).size := by kernel_rfl

set_option maxHeartbeats 8000000 in
set_option maxRecDepth 100000 in
theorem walk (v : Value) (n : Nat) (w : World) (h : ByteArg w v n) :
    Calls Tryd.prog 3 #[v] w fun e w' => e = .returned (.bool true) ∧ Below w.heap.size w w' := by
  obtain ⟨hn0, a, cap, rfl, hc, hb0⟩ := id h
  clear hb0
  have HD := Lib.hid (DrawSh.draw_any _ n w h)
  clear h
  by_cases hbig : 1048576 < n
  · have hbi : (1048576 : Int) < (n : Int) := by omega
    go_enter Tryd.func3, Tryd.ntmps3
    go_wp2_with fail
    go_ret
    exact ⟨rfl, Below.refl _ _⟩
  · have hbi : ¬ (1048576 : Int) < (n : Int) := by omega
    go_enter Tryd.func3, Tryd.ntmps3
    go_wp2_with fail
    refine HD.out.mono ?_
    rintro e w1 ⟨a, b, t, rfl, ht, hb⟩
    clear HD hbig hbi
    have hcase := cases a b t (by unfold maxLen; omega)
    obtain ⟨B, hB⟩ : ∃ B, w1.heap.size = B := ⟨_, rfl⟩
    have HK1 := Lib.hid ((Kp.nil w).later hb |>.put (.cells #[.int .i64 a, .int .i64 b, .string t] 24) hB)
    clear hb
    rcases hcase with ⟨hsi, hss⟩ | ⟨R, C, E, rfl, rfl, rfl, h1, h2, h3, h4⟩
    · unfold noneV at hsi hss
      have HSI := Lib.hid hsi
      have HSS := Lib.hid hss
      clear hsi hss
      generalize str [] = z at *
      obtain ⟨cB0, cB1, cB2, -, -, -⟩ := Go.Proofs.YtbbgibbpeibhiaaDoor.Rd5.cells3 (HK1.out.at 0 rfl)
      go_wp2_with fail
      refine (HSI.out _).mono ?_
      rintro e w2 ⟨rfl, hb2⟩
      obtain ⟨x4, hx4⟩ : ∃ x, w2.heap.size = x := ⟨_, rfl⟩
      have HK2 := Lib.hid ((HK1.out.later hb2).put (.cells #[.int .i64 0, .int .i64 0, .string z] 24) hx4)
      clear hb2 HK1
      clear hB cB0 cB1 cB2
      obtain ⟨cB0, cB1, cB2, -, -, -⟩ := Go.Proofs.YtbbgibbpeibhiaaDoor.Rd5.cells3 (HK2.out.at 1 rfl)
      go_wp2_with fail
      refine (HSS.out _).mono ?_
      rintro e w3 ⟨rfl, hb3⟩
      obtain ⟨x6, hx6⟩ : ∃ x, w3.heap.size = x := ⟨_, rfl⟩
      have HK3 := Lib.hid ((HK2.out.later hb3).put (.cells #[.int .i64 0, .int .i64 0, .string z] 24) hx6)
      clear hb3 HK2
      clear hx4 cB0 cB1 cB2
      obtain ⟨cx40, cx41, cx42, -, -, -⟩ := Go.Proofs.YtbbgibbpeibhiaaDoor.Rd5.cells3 (HK3.out.at 1 rfl)
      obtain ⟨cx60, cx61, cx62, -, -, -⟩ := Go.Proofs.YtbbgibbpeibhiaaDoor.Rd5.cells3 (HK3.out.at 0 rfl)
      go_wp2_with fail
      go_ret
      exact ⟨rfl, HK3.out.below⟩
    · obtain ⟨r, c, rd, cd, sn, sT, st, sp, sd, hr, hc, hrd, hcd, hsz, hdf, hsi, hss, hag, htu, hsa, htb, hpk, hsd⟩ := facts E R C h1 h2 h3 h4
      generalize str (rowsB E R C) = sm at *
      have hrdi : (rd : Int) ≤ (r : Int) := by omega
      have hcdi : (cd : Int) ≤ (c : Int) := by omega
      have HDF := Lib.hid hdf
      have HSZ := Lib.hid hsz
      have HSI := Lib.hid hsi
      have HSS := Lib.hid hss
      have HAG := Lib.hid hag
      have HTU := Lib.hid htu
      have HSA := Lib.hid hsa
      have HTB := Lib.hid htb
      have HPK := Lib.hid hpk
      have HSD := Lib.hid hsd
      clear hdf hsz hsi hss hag htu hsa htb hpk hsd hrd hcd
      obtain ⟨cB0, cB1, cB2, -, -, -⟩ := Go.Proofs.YtbbgibbpeibhiaaDoor.Rd5.cells3 (HK1.out.at 0 rfl)
      go_wp2_with fail
      refine (HSI.out _).mono ?_
      rintro e w2 ⟨rfl, hb2⟩
      obtain ⟨x4, hx4⟩ : ∃ x, w2.heap.size = x := ⟨_, rfl⟩
      have HK2 := Lib.hid ((HK1.out.later hb2).put (.cells #[.int .i64 (r : Int), .int .i64 (c : Int), .string sn] 24) hx4)
      clear hb2 HK1
      clear hB cB0 cB1 cB2
      obtain ⟨cB0, cB1, cB2, -, -, -⟩ := Go.Proofs.YtbbgibbpeibhiaaDoor.Rd5.cells3 (HK2.out.at 1 rfl)
      go_wp2_with fail
      refine (HSS.out _).mono ?_
      rintro e w3 ⟨rfl, hb3⟩
      obtain ⟨x6, hx6⟩ : ∃ x, w3.heap.size = x := ⟨_, rfl⟩
      have HK3 := Lib.hid ((HK2.out.later hb3).put (.cells #[.int .i64 (r : Int), .int .i64 (c : Int), .string sn] 24) hx6)
      clear hb3 HK2
      clear hx4 cB0 cB1 cB2
      obtain ⟨cx40, cx41, cx42, -, -, -⟩ := Go.Proofs.YtbbgibbpeibhiaaDoor.Rd5.cells3 (HK3.out.at 1 rfl)
      obtain ⟨cx60, cx61, cx62, -, -, -⟩ := Go.Proofs.YtbbgibbpeibhiaaDoor.Rd5.cells3 (HK3.out.at 0 rfl)
      go_wp2_with fail
      clear hx6 cx40 cx41 cx42 cx60 cx61 cx62
      go_loopw [8] (fun x wr => ∃ ii : Nat, ii ≤ r ∧ x = .int .i64 (ii : Int) ∧ Hid (Kp w wr [(x6, .cells #[.int .i64 (r : Int), .int .i64 (c : Int), .string sn] 24), (x4, .cells #[.int .i64 (r : Int), .int .i64 (c : Int), .string sn] 24), (B, .cells #[.int .i64 (R : Int), .int .i64 (C : Int), .string sm] 24)])) (fun x _ => r - (intOf x).toNat)
      case atStart => exact ⟨0, by omega, rfl, HK3⟩
      case round =>
        obtain ⟨ii, hi, rfl, HR⟩ := hrel
        clear HK3
        obtain ⟨c0, c1, c2, -, -, -⟩ := Go.Proofs.YtbbgibbpeibhiaaDoor.Rd5.cells3 (HR.out.at 1 rfl)
        by_cases hlt : ii < r
        · go_wp2_with fail
          clear c0 c1 c2
          go_loopw [9] (fun y wr => ∃ kk : Nat, kk ≤ ii ∧ y = .int .i64 (kk : Int) ∧ Hid (Kp w wr [(x6, .cells #[.int .i64 (r : Int), .int .i64 (c : Int), .string sn] 24), (x4, .cells #[.int .i64 (r : Int), .int .i64 (c : Int), .string sn] 24), (B, .cells #[.int .i64 (R : Int), .int .i64 (C : Int), .string sm] 24)])) (fun y _ => ii - (intOf y).toNat)
          case atStart => exact ⟨0, by omega, rfl, HR⟩
          case round =>
            obtain ⟨kk, hk, rfl, HQ⟩ := hrel
            clear HR
            by_cases hkt : kk < ii
            · have hd := HDF.out ii kk hkt hlt
              have hz := HSZ.out
              have q1 : ii * c ≤ (ii + 1) * c := Nat.mul_le_mul_right _ (by omega)
              have q2 : kk * c ≤ (kk + 1) * c := Nat.mul_le_mul_right _ (by omega)
              have q3 : (ii + 1) * c ≤ r * c := Nat.mul_le_mul_right _ (by omega)
              have q4 : (kk + 1) * c ≤ r * c := Nat.mul_le_mul_right _ (by omega)
              have q5 : r * c ≤ 64 := prod_le hr.2 hc.2
              have m1 : ((ii : Int) * (c : Int)) = ((ii * c : Nat) : Int) := by simp
              have m2 : (((ii : Int) + 1) * (c : Int)) = (((ii + 1) * c : Nat) : Int) := by simp
              have m3 : ((kk : Int) * (c : Int)) = ((kk * c : Nat) : Int) := by simp
              have m4 : (((kk : Int) + 1) * (c : Int)) = (((kk + 1) * c : Nat) : Int) := by simp
              generalize ii * c = a1 at *
              generalize (ii + 1) * c = a2 at *
              generalize kk * c = e1 at *
              generalize (kk + 1) * c = e2 at *
              generalize r * c = zz at *
              have wq : ∀ q : Nat, q ≤ 64 → IntKind.i64.wrap (q : Int) = (q : Int) := fun q hq => IntWalk.i64_in _ ⟨by omega, by omega⟩
              have HW : Hid (IntKind.i64.wrap ((ii : Int) * (c : Int)) = (a1 : Int) ∧ IntKind.i64.wrap (((ii : Int) + 1) * (c : Int)) = (a2 : Int) ∧ IntKind.i64.wrap ((kk : Int) * (c : Int)) = (e1 : Int) ∧ IntKind.i64.wrap (((kk : Int) + 1) * (c : Int)) = (e2 : Int)) := by
                refine ⟨?_, ?_, ?_, ?_⟩
                · rw [m1, wq _ (by omega)]
                · rw [m2, wq _ (by omega)]
                · rw [m3, wq _ (by omega)]
                · rw [m4, wq _ (by omega)]
              have p1 : (a1 : Int) ≤ (a2 : Int) := by omega
              have p2 : (a2 : Int) ≤ (sn.size : Int) := by omega
              have p3 : (e1 : Int) ≤ (e2 : Int) := by omega
              have p4 : (e2 : Int) ≤ (sn.size : Int) := by omega
              have p5 : (0 : Int) ≤ (a1 : Int) := by omega
              have p6 : (0 : Int) ≤ (e1 : Int) := by omega
              have n1 : a1 ≤ a2 := q1
              have n2 : a2 ≤ sn.size := by omega
              have n3 : e1 ≤ e2 := q2
              have n4 : e2 ≤ sn.size := by omega
              obtain ⟨u1, hu1⟩ : ∃ u, sn.extract a1 a2 = u := ⟨_, rfl⟩
              obtain ⟨u2, hu2⟩ : ∃ u, sn.extract e1 e2 = u := ⟨_, rfl⟩
              have HU := Lib.hid (And.intro hu1 hu2)
              rw [hu1, hu2] at hd
              have hne : (u1.toList == u2.toList) = false := by
                rw [ByteArray.toList_eq, ByteArray.toList_eq]
                exact beq_false_of_ne fun e => hd (ByteArray.ext (by simpa using e))
              clear m1 m2 m3 m4 q1 q2 q3 q4 q5 hz hu1 hu2 hd wq
              go_wp2_with fail
              refine wp_region_below (fun | 0 => .pointer (some ⟨x4, 2, none⟩) | 1 => .string sn | 2 => .int .i64 (ii : Int) | 3 => .pointer (some ⟨x4, 1, none⟩) | 4 => .int .i64 (c : Int) | 5 => .int .i64 (a1 : Int) | 6 => .int .i64 (ii : Int) | 7 => .int .i64 ((ii : Int) + 1) | 8 => .pointer (some ⟨x4, 1, none⟩) | 9 => .int .i64 (c : Int) | 10 => .int .i64 (a2 : Int) | 11 => .string u1 | 12 => .pointer (some ⟨x4, 2, none⟩) | 13 => .string sn | 14 => .int .i64 (kk : Int) | 15 => .pointer (some ⟨x4, 1, none⟩) | 16 => .int .i64 (c : Int) | 17 => .int .i64 (e1 : Int) | 18 => .int .i64 (kk : Int) | 19 => .int .i64 ((kk : Int) + 1) | 20 => .pointer (some ⟨x4, 1, none⟩) | 21 => .int .i64 (c : Int) | 22 => .int .i64 (e2 : Int) | 23 => .string u2 | 24 => .bool false | _ => undef) (by kernel_rfl) (by kernel_rfl) rfl ?conA ?enA
              case conA =>
                intro i o ho a wx hb hf
                match i, ho with
                | 0, ho =>
                  obtain rfl := Option.some.inj ho
                  have b4 : a.tmps[4]?.getD undef = .pointer (some ⟨x4, 0, none⟩) := hf.2 4 (by kernel_rfl)
                  exact wp_value (.pointer (some ⟨x4, 2, none⟩)) (by unfold execOp; go_simp) ⟨rfl, Below.refl _ _⟩
                | 1, ho =>
                  obtain rfl := Option.some.inj ho
                  have e72 : a.tmps[72]?.getD undef = .pointer (some ⟨x4, 2, none⟩) := hf.1 ⟨0, .data⟩ (by simp) rfl _ 72 rfl rfl
                  obtain ⟨c0, c1, c2⟩ := cells3 ((HQ.out.later hb).at 1 rfl)
                  exact wp_value (.string sn) (by unfold execOp; go_simp) ⟨rfl, Below.refl _ _⟩
                | 2, ho =>
                  obtain rfl := Option.some.inj ho
                  have b8 : a.tmps[8]?.getD undef = .int .i64 (ii : Int) := hf.2 8 (by kernel_rfl)
                  exact wp_value (.int .i64 (ii : Int)) (by unfold execOp; go_simp) ⟨rfl, Below.refl _ _⟩
                | 3, ho =>
                  obtain rfl := Option.some.inj ho
                  have b4 : a.tmps[4]?.getD undef = .pointer (some ⟨x4, 0, none⟩) := hf.2 4 (by kernel_rfl)
                  exact wp_value (.pointer (some ⟨x4, 1, none⟩)) (by unfold execOp; go_simp) ⟨rfl, Below.refl _ _⟩
                | 4, ho =>
                  obtain rfl := Option.some.inj ho
                  have e75 : a.tmps[75]?.getD undef = .pointer (some ⟨x4, 1, none⟩) := hf.1 ⟨3, .data⟩ (by simp) rfl _ 75 rfl rfl
                  obtain ⟨c0, c1, c2⟩ := cells3 ((HQ.out.later hb).at 1 rfl)
                  exact wp_value (.int .i64 (c : Int)) (by unfold execOp; go_simp) ⟨rfl, Below.refl _ _⟩
                | 5, ho =>
                  obtain rfl := Option.some.inj ho
                  have e74 : a.tmps[74]?.getD undef = .int .i64 (ii : Int) := hf.1 ⟨2, .data⟩ (by simp) rfl _ 74 rfl rfl
                  have e76 : a.tmps[76]?.getD undef = .int .i64 (c : Int) := hf.1 ⟨4, .data⟩ (by simp) rfl _ 76 rfl rfl
                  exact wp_value (.int .i64 (a1 : Int)) (by unfold execOp; go_simp; first | done | rfl | exact HW.out.1 | (rw [HW.out.1])) ⟨rfl, Below.refl _ _⟩
                | 6, ho =>
                  obtain rfl := Option.some.inj ho
                  have b8 : a.tmps[8]?.getD undef = .int .i64 (ii : Int) := hf.2 8 (by kernel_rfl)
                  exact wp_value (.int .i64 (ii : Int)) (by unfold execOp; go_simp) ⟨rfl, Below.refl _ _⟩
                | 7, ho =>
                  obtain rfl := Option.some.inj ho
                  have e78 : a.tmps[78]?.getD undef = .int .i64 (ii : Int) := hf.1 ⟨6, .data⟩ (by simp) rfl _ 78 rfl rfl
                  exact wp_value (.int .i64 ((ii : Int) + 1)) (by unfold execOp; go_simp; first | done | exact IntWalk.i64_in _ ⟨by omega, by omega⟩) ⟨rfl, Below.refl _ _⟩
                | 8, ho =>
                  obtain rfl := Option.some.inj ho
                  have b4 : a.tmps[4]?.getD undef = .pointer (some ⟨x4, 0, none⟩) := hf.2 4 (by kernel_rfl)
                  exact wp_value (.pointer (some ⟨x4, 1, none⟩)) (by unfold execOp; go_simp) ⟨rfl, Below.refl _ _⟩
                | 9, ho =>
                  obtain rfl := Option.some.inj ho
                  have e80 : a.tmps[80]?.getD undef = .pointer (some ⟨x4, 1, none⟩) := hf.1 ⟨8, .data⟩ (by simp) rfl _ 80 rfl rfl
                  obtain ⟨c0, c1, c2⟩ := cells3 ((HQ.out.later hb).at 1 rfl)
                  exact wp_value (.int .i64 (c : Int)) (by unfold execOp; go_simp) ⟨rfl, Below.refl _ _⟩
                | 10, ho =>
                  obtain rfl := Option.some.inj ho
                  have e79 : a.tmps[79]?.getD undef = .int .i64 ((ii : Int) + 1) := hf.1 ⟨7, .data⟩ (by simp) rfl _ 79 rfl rfl
                  have e81 : a.tmps[81]?.getD undef = .int .i64 (c : Int) := hf.1 ⟨9, .data⟩ (by simp) rfl _ 81 rfl rfl
                  exact wp_value (.int .i64 (a2 : Int)) (by unfold execOp; go_simp; first | done | rfl | exact HW.out.2.1 | (rw [HW.out.2.1])) ⟨rfl, Below.refl _ _⟩
                | 11, ho =>
                  obtain rfl := Option.some.inj ho
                  have e73 : a.tmps[73]?.getD undef = .string sn := hf.1 ⟨1, .data⟩ (by simp) rfl _ 73 rfl rfl
                  have e77 : a.tmps[77]?.getD undef = .int .i64 (a1 : Int) := hf.1 ⟨5, .data⟩ (by simp) rfl _ 77 rfl rfl
                  have e82 : a.tmps[82]?.getD undef = .int .i64 (a2 : Int) := hf.1 ⟨10, .data⟩ (by simp) rfl _ 82 rfl rfl
                  exact wp_value (.string u1) (by unfold execOp; go_simp; first | done | (rw [← HU.out.1]; first | rfl | simp) | (simp [HU.out.1])) ⟨rfl, Below.refl _ _⟩
                | 12, ho =>
                  obtain rfl := Option.some.inj ho
                  have b4 : a.tmps[4]?.getD undef = .pointer (some ⟨x4, 0, none⟩) := hf.2 4 (by kernel_rfl)
                  exact wp_value (.pointer (some ⟨x4, 2, none⟩)) (by unfold execOp; go_simp) ⟨rfl, Below.refl _ _⟩
                | 13, ho =>
                  obtain rfl := Option.some.inj ho
                  have e84 : a.tmps[84]?.getD undef = .pointer (some ⟨x4, 2, none⟩) := hf.1 ⟨12, .data⟩ (by simp) rfl _ 84 rfl rfl
                  obtain ⟨c0, c1, c2⟩ := cells3 ((HQ.out.later hb).at 1 rfl)
                  exact wp_value (.string sn) (by unfold execOp; go_simp) ⟨rfl, Below.refl _ _⟩
                | 14, ho =>
                  obtain rfl := Option.some.inj ho
                  have b9 : a.tmps[9]?.getD undef = .int .i64 (kk : Int) := hf.2 9 (by kernel_rfl)
                  exact wp_value (.int .i64 (kk : Int)) (by unfold execOp; go_simp) ⟨rfl, Below.refl _ _⟩
                | 15, ho =>
                  obtain rfl := Option.some.inj ho
                  have b4 : a.tmps[4]?.getD undef = .pointer (some ⟨x4, 0, none⟩) := hf.2 4 (by kernel_rfl)
                  exact wp_value (.pointer (some ⟨x4, 1, none⟩)) (by unfold execOp; go_simp) ⟨rfl, Below.refl _ _⟩
                | 16, ho =>
                  obtain rfl := Option.some.inj ho
                  have e87 : a.tmps[87]?.getD undef = .pointer (some ⟨x4, 1, none⟩) := hf.1 ⟨15, .data⟩ (by simp) rfl _ 87 rfl rfl
                  obtain ⟨c0, c1, c2⟩ := cells3 ((HQ.out.later hb).at 1 rfl)
                  exact wp_value (.int .i64 (c : Int)) (by unfold execOp; go_simp) ⟨rfl, Below.refl _ _⟩
                | 17, ho =>
                  obtain rfl := Option.some.inj ho
                  have e86 : a.tmps[86]?.getD undef = .int .i64 (kk : Int) := hf.1 ⟨14, .data⟩ (by simp) rfl _ 86 rfl rfl
                  have e88 : a.tmps[88]?.getD undef = .int .i64 (c : Int) := hf.1 ⟨16, .data⟩ (by simp) rfl _ 88 rfl rfl
                  exact wp_value (.int .i64 (e1 : Int)) (by unfold execOp; go_simp; first | done | rfl | exact HW.out.2.2.1 | (rw [HW.out.2.2.1])) ⟨rfl, Below.refl _ _⟩
                | 18, ho =>
                  obtain rfl := Option.some.inj ho
                  have b9 : a.tmps[9]?.getD undef = .int .i64 (kk : Int) := hf.2 9 (by kernel_rfl)
                  exact wp_value (.int .i64 (kk : Int)) (by unfold execOp; go_simp) ⟨rfl, Below.refl _ _⟩
                | 19, ho =>
                  obtain rfl := Option.some.inj ho
                  have e90 : a.tmps[90]?.getD undef = .int .i64 (kk : Int) := hf.1 ⟨18, .data⟩ (by simp) rfl _ 90 rfl rfl
                  exact wp_value (.int .i64 ((kk : Int) + 1)) (by unfold execOp; go_simp; first | done | exact IntWalk.i64_in _ ⟨by omega, by omega⟩) ⟨rfl, Below.refl _ _⟩
                | 20, ho =>
                  obtain rfl := Option.some.inj ho
                  have b4 : a.tmps[4]?.getD undef = .pointer (some ⟨x4, 0, none⟩) := hf.2 4 (by kernel_rfl)
                  exact wp_value (.pointer (some ⟨x4, 1, none⟩)) (by unfold execOp; go_simp) ⟨rfl, Below.refl _ _⟩
                | 21, ho =>
                  obtain rfl := Option.some.inj ho
                  have e92 : a.tmps[92]?.getD undef = .pointer (some ⟨x4, 1, none⟩) := hf.1 ⟨20, .data⟩ (by simp) rfl _ 92 rfl rfl
                  obtain ⟨c0, c1, c2⟩ := cells3 ((HQ.out.later hb).at 1 rfl)
                  exact wp_value (.int .i64 (c : Int)) (by unfold execOp; go_simp) ⟨rfl, Below.refl _ _⟩
                | 22, ho =>
                  obtain rfl := Option.some.inj ho
                  have e91 : a.tmps[91]?.getD undef = .int .i64 ((kk : Int) + 1) := hf.1 ⟨19, .data⟩ (by simp) rfl _ 91 rfl rfl
                  have e93 : a.tmps[93]?.getD undef = .int .i64 (c : Int) := hf.1 ⟨21, .data⟩ (by simp) rfl _ 93 rfl rfl
                  exact wp_value (.int .i64 (e2 : Int)) (by unfold execOp; go_simp; first | done | rfl | exact HW.out.2.2.2 | (rw [HW.out.2.2.2])) ⟨rfl, Below.refl _ _⟩
                | 23, ho =>
                  obtain rfl := Option.some.inj ho
                  have e85 : a.tmps[85]?.getD undef = .string sn := hf.1 ⟨13, .data⟩ (by simp) rfl _ 85 rfl rfl
                  have e89 : a.tmps[89]?.getD undef = .int .i64 (e1 : Int) := hf.1 ⟨17, .data⟩ (by simp) rfl _ 89 rfl rfl
                  have e94 : a.tmps[94]?.getD undef = .int .i64 (e2 : Int) := hf.1 ⟨22, .data⟩ (by simp) rfl _ 94 rfl rfl
                  exact wp_value (.string u2) (by unfold execOp; go_simp; first | done | (rw [← HU.out.2]; first | rfl | simp) | (simp [HU.out.2])) ⟨rfl, Below.refl _ _⟩
                | 24, ho =>
                  obtain rfl := Option.some.inj ho
                  have e83 : a.tmps[83]?.getD undef = .string u1 := hf.1 ⟨11, .data⟩ (by simp) rfl _ 83 rfl rfl
                  have e95 : a.tmps[95]?.getD undef = .string u2 := hf.1 ⟨23, .data⟩ (by simp) rfl _ 95 rfl rfl
                  exact wp_value (.bool false) (by unfold execOp; go_simp; first | done | rfl | exact hne | (rw [hne])) ⟨rfl, Below.refl _ _⟩
                | q + 25, ho => simp at ho
              case enA =>
              intro w20 hb20
              have HQ2 := Lib.hid (HQ.out.later hb20)
              clear hb20 HQ HU HW hne
              simp only [fill, Act.put]
              go_simp
              go_wp2_with fail
              go_roundw
              case rel => exact ⟨kk + 1, by omega, by go_num, HQ2⟩
              case measure => simp [intOf]; omega
            · obtain rfl : kk = ii := by omega
              go_wp2_with fail
              go_roundw
              case rel => exact ⟨kk + 1, by omega, by go_num, HQ⟩
              case measure => simp [intOf]; omega
        · obtain rfl : ii = r := by omega
          go_wp2_with fail
          refine (HAG.out _).mono ?_
          rintro e w30 ⟨rfl, hb30⟩
          obtain ⟨x10, hx10⟩ : ∃ x, w30.heap.size = x := ⟨_, rfl⟩
          have HK30 := Lib.hid ((HR.out.later hb30).put (.cells #[.int .i64 (ii : Int), .int .i64 (c : Int), .string sn] 24) hx10)
          clear hb30 HR
          clear c0 c1 c2
          obtain ⟨cB0, cB1, cB2, -, -, -⟩ := Go.Proofs.YtbbgibbpeibhiaaDoor.Rd5.cells3 (HK30.out.at 3 rfl)
          go_wp2_with fail
          refine (HTU.out _).mono ?_
          rintro e w31 ⟨rfl, hb31⟩
          obtain ⟨x12, hx12⟩ : ∃ x, w31.heap.size = x := ⟨_, rfl⟩
          have HK31 := Lib.hid ((HK30.out.later hb31).put (.cells #[.int .i64 (C : Int), .int .i64 (R : Int), .string sT] 24) hx12)
          clear hb31 HK30
          clear hx10 cB0 cB1 cB2
          obtain ⟨cx120, cx121, cx122, -, -, -⟩ := Go.Proofs.YtbbgibbpeibhiaaDoor.Rd5.cells3 (HK31.out.at 0 rfl)
          go_wp2_with fail
          refine (HSA.out _).mono ?_
          rintro e w32 ⟨rfl, hb32⟩
          obtain ⟨x14, hx14⟩ : ∃ x, w32.heap.size = x := ⟨_, rfl⟩
          have HK32 := Lib.hid ((HK31.out.later hb32).put (.cells #[.int .i64 (c : Int), .int .i64 (ii : Int), .string st] 24) hx14)
          clear hb32 HK31
          clear hx12 cx120 cx121 cx122
          obtain ⟨cx40, cx41, cx42, -, -, -⟩ := Go.Proofs.YtbbgibbpeibhiaaDoor.Rd5.cells3 (HK32.out.at 4 rfl)
          go_wp2_with fail
          refine (HTB.out _).mono ?_
          rintro e w33 ⟨rfl, hb33⟩
          obtain ⟨x16, hx16⟩ : ∃ x, w33.heap.size = x := ⟨_, rfl⟩
          have HK33 := Lib.hid ((HK32.out.later hb33).put (.cells #[.int .i64 (c : Int), .int .i64 (ii : Int), .string st] 24) hx16)
          clear hb33 HK32
          clear hx14 cx40 cx41 cx42
          obtain ⟨i0, hi0, hz0, hz1, hz2⟩ := info_parts info3
          have HX16 := Lib.hid hx16
          go_wp2_with fail
          obtain ⟨W0, hW0⟩ : ∃ W0, w33.alloc (.cells #[.int .i64 (c : Int), .int .i64 (ii : Int), .string st] 24) = W0 := ⟨_, rfl⟩
          have hs0 : W0.heap.size = x16 + 1 := by rw [← hW0, World.size_alloc, HX16.out]
          rw [hW0] at HK33 ⊢
          have HT0 := Lib.hid (Tw.start W0 (x16 + 1) hs0)
          clear hW0 hx16
          go_loopw [18, 20] (fun v x wr => ∃ k : Nat, k ≤ R ∧ x = .int .i64 (k : Int) ∧ Hid (Tw W0 wr v (.slice (some ⟨x16 + 1 + 1, 0, none⟩) 0 0) (half k) (upto 0))) (fun _ x _ => R - (intOf x).toNat)
          case atStart => exact ⟨0, Nat.zero_le _, rfl, HT0⟩
          case round =>
            rename_i wr
            obtain ⟨k, hk, rfl, HT⟩ := hrel
            clear HT0
            obtain ⟨c0, c1, c2, -, -, -⟩ := Go.Proofs.YtbbgibbpeibhiaaDoor.Rd5.cells3 ((HK33.out.later HT.out.one.below).at 6 rfl)
            by_cases hlt : k < R
            · obtain ⟨p, cc, hv⟩ := HT.out.one.slice
              subst hv
              have hkR : (k : Int) < (R : Int) := by omega
              go_wp2_with (at_builtin; have HH := HT.out; refine wpList_append_where rfl (.tmp 125) (.tmp 128) 28 rfl W0.heap.size 3 i0 (.int .i64 0) 8 Tryd.underlying28 hi0 hz0 hz1 hz2 rfl _ _ _ rfl (HH.one.row.alloc _) ⟨wr.heap.size, 0, none⟩ 1 (.int .i64 ((k : Int) / 2)) rfl ?a1 ?a2 ?a3 ?a4 ?a5 ?a6; go_must (case a1 => simp); go_must (case a2 => simp [Value.oneCell']); go_must (case a3 => (unfold maxLen; simp only [half_len, upto_len]; omega)); go_must (case a4 => (simp only [half_len, upto_len]; omega)); go_must (case a5 => (have := HH.one.below.size; simp at this ⊢; omega)); go_must (intro v3 w3 hown3 hgrow3 hwhere3; have H3 := Lib.hid ((Tw.later HH ((Below.refl _ _).alloc (Nat.le_refl _) _)).next hown3 hgrow3 hwhere3); clear HT HH hown3 hgrow3 hwhere3))
              go_wp2_with fail
              go_roundw
              case rel => exact ⟨k + 1, by omega, by go_num, by rw [half_next, show ((k / 2 : Nat) : Int) = (k : Int) / 2 by omega]; exact H3⟩
              case measure => simp [intOf]; omega
            · obtain rfl : R = k := by omega
              obtain ⟨p, cc, hv⟩ := HT.out.one.slice
              subst hv
              go_wp2_with fail
              clear c0 c1 c2
              go_loopw [19, 21] (fun u x wr2 => ∃ k : Nat, k ≤ C ∧ x = .int .i64 (k : Int) ∧ Hid (Tw W0 wr2 (.slice p (half R).length cc) u (half R) (upto k))) (fun _ x _ => C - (intOf x).toNat)
              case atStart => exact ⟨0, Nat.zero_le _, rfl, HT⟩
              case round =>
                obtain ⟨k, hk2, rfl, HU⟩ := hrel
                clear HT
                obtain ⟨c0, c1, c2, -, -, -⟩ := Go.Proofs.YtbbgibbpeibhiaaDoor.Rd5.cells3 ((HK33.out.later HU.out.one.below).at 6 rfl)
                by_cases hlt : k < C
                · obtain ⟨p2, cc2, hv⟩ := HU.out.two.slice
                  subst hv
                  have hkC : (k : Int) < (C : Int) := by omega
                  go_wp2_with (at_builtin; have HH := HU.out; refine wpList_append_where rfl (.tmp 136) (.tmp 138) 28 rfl W0.heap.size 3 i0 (.int .i64 0) 8 Tryd.underlying28 hi0 hz0 hz1 hz2 rfl _ _ _ rfl (HH.two.row.alloc _) ⟨wr.heap.size, 0, none⟩ 1 (.int .i64 (k : Int)) rfl ?b1 ?b2 ?b3 ?b4 ?b5 ?b6; go_must (case b1 => simp); go_must (case b2 => simp [Value.oneCell']); go_must (case b3 => (unfold maxLen; simp only [half_len, upto_len]; omega)); go_must (case b4 => (simp only [half_len, upto_len]; omega)); go_must (case b5 => (have := HH.two.below.size; simp at this ⊢; omega)); go_must (intro v3 w3 hown3 hgrow3 hwhere3; have H3 := Lib.hid (((Tw.later HH ((Below.refl _ _).alloc (Nat.le_refl _) _)).swap.next hown3 hgrow3 hwhere3).swap); clear HU HH hown3 hgrow3 hwhere3))
                  go_wp2_with fail
                  go_roundw
                  case rel => exact ⟨k + 1, by omega, by go_num, by rw [upto_next]; exact H3⟩
                  case measure => simp [intOf]; omega
                · obtain rfl : C = k := by omega
                  obtain ⟨p2, cc2, hv⟩ := HU.out.two.slice
                  subst hv
                  go_wp2_with fail
                  clear c0 c1 c2
                  refine wp_region_acts (Yr W0 (.slice p (half R).length cc) (.slice p2 (upto C).length cc2) B R C (min (R + 1) 8) sm sp) (Wr W0 (.slice p (half R).length cc) (.slice p2 (upto C).length cc2) R C) (by kernel_rfl) (by kernel_rfl) rfl ?t0 ?con ?en
                  case t0 => exact ⟨HU.out.one.below.drew, HU.out.two.later ((Below.refl _ _).drew), fun _ => HU.out.later ((Below.refl _ _).drew)⟩
                  case con =>
                    intro i oo ho a wx l hT hli hcl hdp hf
                    match i, ho with
                    | 0, ho =>
                      obtain rfl := Option.some.inj ho
                      have b3 : a.tmps[3]?.getD undef = .pointer (some ⟨B, 0, none⟩) := hf.2 3 (by kernel_rfl)
                      exact wp_load_row 24 (.tmp 3) rfl B (eval_get b3) 24 _ (0, 0) _ ((HK33.out.later hT.below).at 6 rfl) Tryd.underlying24 rfl minfo ⟨_, rfl, rfl, hT.later (Below.refl _ _) (fun e => by simpa using e), fun j u _ hj hY => hY.later (Below.refl _ _) (fun _ => by decide)⟩
                    | 1, ho =>
                      obtain rfl := Option.some.inj ho
                      have b18 : a.tmps[18]?.getD undef = .slice p (half R).length cc := hf.2 18 (by kernel_rfl)
                      exact wp_value (.slice p (half R).length cc) (by unfold execOp; go_simp) ⟨_, rfl, rfl, hT.later (Below.refl _ _) (fun e => by simpa using e), fun j u _ hj hY => hY.later (Below.refl _ _) (fun _ => by decide)⟩
                    | 2, ho =>
                      obtain rfl := Option.some.inj ho
                      have b3 : a.tmps[3]?.getD undef = .pointer (some ⟨B, 0, none⟩) := hf.2 3 (by kernel_rfl)
                      exact wp_value (.pointer (some ⟨B, 0, none⟩)) (by unfold execOp; go_simp) ⟨_, rfl, rfl, hT.later (Below.refl _ _) (fun e => by simpa using e), fun j u _ hj hY => hY.later (Below.refl _ _) (fun _ => by decide)⟩
                    | 3, ho =>
                      obtain rfl := Option.some.inj ho
                      obtain e143 : a.tmps[143]?.getD undef = .pointer (some ⟨B, 0, none⟩) := hf.1 ⟨2, .data⟩ (by simp) rfl _ 143 rfl rfl
                      obtain ⟨k0, k1, k2⟩ := cells3 ((HK33.out.later hT.below).at 6 rfl)
                      exact wp_value (.int .i64 (R : Int)) (by unfold execOp; go_simp) ⟨_, rfl, rfl, hT.later (Below.refl _ _) (fun e => by simpa using e), fun j u _ hj hY => hY.later (Below.refl _ _) (fun _ => by decide)⟩
                    | 4, ho =>
                      obtain rfl := Option.some.inj ho
                      obtain e144 : a.tmps[144]?.getD undef = .int .i64 (R : Int) := hf.1 ⟨3, .data⟩ (by simp) rfl _ 144 rfl rfl
                      exact wp_value (.int .i64 ((R : Int) - 1)) (by unfold execOp; go_simp; first | done | exact IntWalk.i64_in _ ⟨by omega, by omega⟩) ⟨_, rfl, rfl, hT.later (Below.refl _ _) (fun e => by simpa using e), fun j u _ hj hY => hY.later (Below.refl _ _) (fun _ => by decide)⟩
                    | 5, ho =>
                      obtain rfl := Option.some.inj ho
                      obtain e145 : a.tmps[145]?.getD undef = .int .i64 ((R : Int) - 1) := hf.1 ⟨4, .data⟩ (by simp) rfl _ 145 rfl rfl
                      have hl6 : l 6 = false := by
                        cases h : l 6 with
                        | false => rfl
                        | true => rw [hcl 6 _ rfl h ⟨5, .data⟩ (by simp) rfl] at hli; cases hli
                      exact Go.Proofs.YtbbgibbpeibhiaaDoor.Apx.wp_made (wx.alloc (.cells #[.int .i64 ((R : Int) - 1)] 3)) (.slice (some ⟨wx.heap.size, 0, none⟩) 1 1) (by unfold execOp; go_simp) ⟨_, rfl, ⟨wx.heap.size, rfl, heap_alloc_new _ _, fun e => by have := (hT.rows hl6).lt1 _ e.symm; omega⟩, hT.later ((Below.refl _ _).alloc (Nat.le_refl _) _) (fun e => by simpa using e), fun j u _ hj hY => hY.later ((Below.refl _ _).alloc (Nat.le_refl _) _) (fun _ => by decide)⟩
                    | 6, ho =>
                      obtain rfl := Option.some.inj ho
                      obtain e142 : a.tmps[142]?.getD undef = .slice p (half R).length cc := hf.1 ⟨1, .data⟩ (by simp) rfl _ 142 rfl rfl
                      obtain ⟨g, e146, hg5, hne5⟩ : ∃ g, a.tmps[146]?.getD undef = .slice (some ⟨g, 0, none⟩) 1 1 ∧ wx.heap[g]? = some (.cells #[.int .i64 ((R : Int) - 1)] 3 (0, 0)) ∧ some g ≠ (.slice p (half R).length cc : Value).ownBlock := hf.1 ⟨5, .data⟩ (by simp) rfl _ 146 rfl rfl
                      have hW := hT.rows hli
                      refine wp_append_where (.tmp 142) (.tmp 146) 28 rfl W0.heap.size 3 i0 (.int .i64 0) 8 Tryd.underlying28 hi0 hz0 hz1 hz2 rfl _ _ _ (eval_get e142) hW.one.row ⟨g, 0, none⟩ 1 (.int .i64 ((R : Int) - 1)) (eval_get e146) (cell_of_row _ _ 0 _ _ _ hg5) rfl (by unfold maxLen; simp only [half_len]; omega) (by simp only [half_len]; omega) hW.one.below.size ?_
                      intro v3 w3 hown3 hgrow3 hwhere3
                      have HN := hW.next hown3 hgrow3 hwhere3
                      have hself : ∀ g o, wx.heap[g]? = some o → some g ≠ (.slice p (half R).length cc : Value).ownBlock → w3.heap[g]? = wx.heap[g]? := fun g o e hne => hgrow3.block g (Array.getElem?_eq_some_iff.1 e).1 hne
                      have hcont : ∀ g x y s, wx.heap[g]? = some (Mo x y s) → some g ≠ (.slice p (half R).length cc : Value).ownBlock := fun g x y s e hne => by
                        rcases hW.one.row.2 with ⟨e1, _⟩ | ⟨g2, cap2, cur2, e1, _, e2, _⟩
                        · rw [e1] at hne; cases hne
                        · rw [e1] at hne
                          simp only [Value.ownBlock, Option.some.injEq] at hne
                          rw [hne] at e
                          rw [e] at e2
                          simp at e2
                      refine ⟨v3, rfl, ?_, ⟨HN.one.below, HN.two, fun e => by simp at e⟩, fun j u hj hlj hY => ?_⟩
                      · obtain ⟨hl3, h4⟩ := hown3
                        rcases h4 with ⟨_, h0⟩ | ⟨g3, cap3, cur3, e3, _, e4, e5, e6, _, e7⟩
                        · simp [half_len] at h0
                        · exact ⟨g3, cap3, cur3, by rw [e3, half_len], e4, by rw [half_len] at e5; exact e5, by unfold maxLen at e6; omega, by rw [half_len, Nat.mul_one] at e7; rw [e7]; simp [cellsN]⟩
                      · refine hY.step (fun g cur e hne hj2 => ?_) (fun g x y s _ e _ => .inl (hself g _ e (hcont g x y s e))) (fun e => put_other _ (by decide))
                        rcases hj2 with rfl | rfl | rfl
                        · exact hself g _ e (hne rfl)
                        · exact absurd rfl hj
                        · rw [hcl 11 _ rfl hlj ⟨6, .data⟩ (by simp) rfl] at hli; cases hli
                    | 7, ho =>
                      obtain rfl := Option.some.inj ho
                      have b3 : a.tmps[3]?.getD undef = .pointer (some ⟨B, 0, none⟩) := hf.2 3 (by kernel_rfl)
                      exact wp_value (.pointer (some ⟨B, 0, none⟩)) (by unfold execOp; go_simp) ⟨_, rfl, rfl, hT.later (Below.refl _ _) (fun e => by simpa using e), fun j u _ hj hY => hY.later (Below.refl _ _) (fun _ => by decide)⟩
                    | 8, ho =>
                      obtain rfl := Option.some.inj ho
                      obtain e148 : a.tmps[148]?.getD undef = .pointer (some ⟨B, 0, none⟩) := hf.1 ⟨7, .data⟩ (by simp) rfl _ 148 rfl rfl
                      obtain ⟨k0, k1, k2⟩ := cells3 ((HK33.out.later hT.below).at 6 rfl)
                      exact wp_value (.int .i64 (R : Int)) (by unfold execOp; go_simp) ⟨_, rfl, rfl, hT.later (Below.refl _ _) (fun e => by simpa using e), fun j u _ hj hY => hY.later (Below.refl _ _) (fun _ => by decide)⟩
                    | 9, ho =>
                      obtain rfl := Option.some.inj ho
                      obtain e149 : a.tmps[149]?.getD undef = .int .i64 (R : Int) := hf.1 ⟨8, .data⟩ (by simp) rfl _ 149 rfl rfl
                      exact wp_value (.int .i64 ((R : Int) + 1)) (by unfold execOp; go_simp; first | done | exact IntWalk.i64_in _ ⟨by omega, by omega⟩) ⟨_, rfl, rfl, hT.later (Below.refl _ _) (fun e => by simpa using e), fun j u _ hj hY => hY.later (Below.refl _ _) (fun _ => by decide)⟩
                    | 10, ho =>
                      obtain rfl := Option.some.inj ho
                      obtain e150 : a.tmps[150]?.getD undef = .int .i64 ((R : Int) + 1) := hf.1 ⟨9, .data⟩ (by simp) rfl _ 150 rfl rfl
                      exact wp_value (.int .i64 ((min (R + 1) 8 : Nat) : Int)) (by unfold execOp; go_simp; first | done | omega | (congr 1; omega) | (simp; omega)) ⟨_, rfl, rfl, hT.later (Below.refl _ _) (fun e => by simpa using e), fun j u _ hj hY => hY.later (Below.refl _ _) (fun _ => by decide)⟩
                    | 11, ho =>
                      obtain rfl := Option.some.inj ho
                      obtain ⟨g, cap6, cur6, e147, hg6, hc6, hm6, ht6⟩ : Row wx (a.tmps[147]?.getD undef) (R + 1) (half R ++ [(R : Int) - 1]) := hf.1 ⟨6, .data⟩ (by simp) rfl _ 147 rfl rfl
                      obtain e151 : a.tmps[151]?.getD undef = .int .i64 ((min (R + 1) 8 : Nat) : Int) := hf.1 ⟨10, .data⟩ (by simp) rfl _ 151 rfl rfl
                      have hq1 : ((min (R + 1) 8 : Nat) : Int) ≤ (cap6 : Int) := by omega
                      have hq0 : (0 : Int) ≤ ((min (R + 1) 8 : Nat) : Int) := by omega
                      have hq2 : ¬ cap6 < min (R + 1) 8 := by omega
                      exact wp_value (.slice (some ⟨g, 0, none⟩) (min (R + 1) 8) cap6) (by unfold execOp; go_simp; try (intro hq; exact absurd hq (by omega))) ⟨_, rfl, ⟨g, cap6, cur6, rfl, hg6, by omega, hm6, by unfold picked; rw [show (R : Int) - 1 = ((R - 1 : Nat) : Int) by omega] at ht6; rw [show cur6.toList.take (min (R + 1) 8) = (cur6.toList.take (R + 1)).take (min (R + 1) 8) by rw [List.take_take]; congr 1; omega, ht6]; simp [cellsN]⟩, hT.later (Below.refl _ _) (fun e => by simpa using e), fun j u _ hj hY => hY.later (Below.refl _ _) (fun _ => by decide)⟩
                    | 12, ho =>
                      obtain rfl := Option.some.inj ho
                      have b19 : a.tmps[19]?.getD undef = .slice p2 (upto C).length cc2 := hf.2 19 (by kernel_rfl)
                      exact wp_value (.slice p2 (upto C).length cc2) (by unfold execOp; go_simp) ⟨_, rfl, rfl, hT.later (Below.refl _ _) (fun e => by simpa using e), fun j u _ hj hY => hY.later (Below.refl _ _) (fun _ => by decide)⟩
                    | 13, ho =>
                      obtain rfl := Option.some.inj ho
                      obtain e141 : a.tmps[141]?.getD undef = mat R C sm := hf.1 ⟨0, .data⟩ (by simp) rfl _ 141 rfl rfl
                      have h152 : Row wx (a.tmps[152]?.getD undef) (min (R + 1) 8) (picked R) := hf.1 ⟨11, .data⟩ (by simp) rfl _ 152 rfl rfl
                      obtain e153 : a.tmps[153]?.getD undef = .slice p2 (upto C).length cc2 := hf.1 ⟨12, .data⟩ (by simp) rfl _ 153 rfl rfl
                      obtain ⟨v11, e152⟩ : ∃ v, a.tmps[152]?.getD undef = v := ⟨_, rfl⟩
                      rw [e152] at h152
                      exact wp_enter 12 #[mat R C sm, v11, .slice p2 (upto C).length cc2] (.tuple #[mat (min (R + 1) 8 : Nat) C sp, .bool true]) _ (by unfold execOp; go_simp) (HPK.out _ _ wx (h152.iv (picked_len R) (by omega)) (iv_own hT.cols (by rw [upto_len]; omega))) (fun w' h => ⟨_, rfl, rfl, hT.later h (fun e => by simpa using e), fun j u _ hj hY => hY.later h (fun _ => by decide)⟩)
                    | 14, ho =>
                      obtain rfl := Option.some.inj ho
                      obtain e154 : a.tmps[154]?.getD undef = .tuple #[mat (min (R + 1) 8 : Nat) C sp, .bool true] := hf.1 ⟨13, .data⟩ (by simp) rfl _ 154 rfl rfl
                      exact wp_value (.tuple #[mat (min (R + 1) 8 : Nat) C sp, .bool true]) (by unfold execOp; go_simp) ⟨_, rfl, rfl, hT.later (Below.refl _ _) (fun e => by simpa using e), fun j u _ hj hY => hY.later (Below.refl _ _) (fun _ => by decide)⟩
                    | 15, ho =>
                      obtain rfl := Option.some.inj ho
                      obtain e140 : a.tmps[140]?.getD undef = .tuple #[mat (min (R + 1) 8 : Nat) C sp, .bool true] := hf.1 ⟨14, .data⟩ (by simp) rfl _ 140 rfl rfl
                      exact wp_value (mat (min (R + 1) 8 : Nat) C sp) (by unfold execOp; go_simp) ⟨_, rfl, rfl, hT.later (Below.refl _ _) (fun e => by simpa using e), fun j u _ hj hY => hY.later (Below.refl _ _) (fun _ => by decide)⟩
                    | 16, ho =>
                      obtain rfl := Option.some.inj ho
                      obtain e140 : a.tmps[140]?.getD undef = .tuple #[mat (min (R + 1) 8 : Nat) C sp, .bool true] := hf.1 ⟨14, .data⟩ (by simp) rfl _ 140 rfl rfl
                      exact wp_value (.bool true) (by unfold execOp; go_simp) ⟨_, rfl, rfl, hT.later (Below.refl _ _) (fun e => by simpa using e), fun j u _ hj hY => hY.later (Below.refl _ _) (fun _ => by decide)⟩
                    | 17, ho =>
                      obtain rfl := Option.some.inj ho
                      exact Go.Proofs.YtbbgibbpeibhiaaDoor.Apx.wp_made (wx.alloc (.cells #[.int .i64 0, .int .i64 0, .string ⟨#[]⟩] 24)) (.pointer (some ⟨wx.heap.size, 0, none⟩)) (by unfold execOp; go_simp) ⟨_, rfl, ⟨wx.heap.size, rfl, hT.below.size, .inl (heap_alloc_new _ _)⟩, hT.later ((Below.refl _ _).alloc (Nat.le_refl _) _) (fun e => by simpa using e), fun j u _ hlj hY => hY.later ((Below.refl _ _).alloc (Nat.le_refl _) _) (fun e => by subst e; rw [hcl 18 _ rfl hlj ⟨17, .data⟩ (by simp) rfl] at hli; cases hli)⟩
                    | 18, ho =>
                      obtain rfl := Option.some.inj ho
                      obtain ⟨g, e22, hg0, hg⟩ : ∃ g, a.tmps[22]?.getD undef = .pointer (some ⟨g, 0, none⟩) ∧ W0.heap.size ≤ g ∧ (wx.heap[g]? = some (Mo 0 0 ⟨#[]⟩) ∨ wx.heap[g]? = some (Mo (min (R + 1) 8 : Nat) C sp)) := hf.1 ⟨17, .data⟩ (by simp) rfl _ 22 rfl rfl
                      obtain e155 : a.tmps[155]?.getD undef = mat (min (R + 1) 8 : Nat) C sp := hf.1 ⟨15, .data⟩ (by simp) rfl _ 155 rfl rfl
                      obtain ⟨x0, y0, s0, hrow⟩ : ∃ x y s, wx.heap[g]? = some (Mo x y s) := by
                        rcases hg with h | h
                        · exact ⟨_, _, _, h⟩
                        · exact ⟨_, _, _, h⟩
                      refine wp_store_row 24 (.tmp 22) (.tmp 155) rfl g #[.int .i64 ((min (R + 1) 8 : Nat) : Int), .int .i64 (C : Int), .string sp] (eval_get e22) (eval_get e155) 24 _ hrow (minfo3 _ _ _) rfl (mone _ _ _) ⟨undef, rfl, ?_, ?_, fun j u hj hlj hY => ?_⟩
                      · refine ⟨g, ?_, hg0, Go.Proofs.YtbbgibbpeibhiaaDoor.Free.setRow_kept hrow _⟩
                        have h22 : a.tmps[22]?.getD undef = .pointer (some ⟨g, 0, none⟩) := e22
                        cases h : a.tmps[22]? with
                        | none => rw [h] at h22; cases h22
                        | some x => rw [h] at h22; exact h22 ▸ h
                      · exact ⟨Go.Proofs.YtbbgibbpeibhiaaDoor.Free.setRow_below hT.below (by omega) _, ⟨hT.cols.row.kept (row := some g) ⟨rfl, rfl, rfl, by simp, fun k _ hk => Go.Proofs.YtbbgibbpeibhiaaDoor.Free.setRow_other (fun e => hk (by rw [e])) _⟩ (.inr fun e => by
                          rcases hT.cols.row.2 with ⟨e1, _⟩ | ⟨g2, cap2, cur2, e1, _, e2, _⟩
                          · rw [e1] at e; cases e
                          · rw [e1] at e
                            simp only [Value.ownBlock, Option.some.injEq] at e
                            rw [e, hrow] at e2
                            simp at e2), Go.Proofs.YtbbgibbpeibhiaaDoor.Free.setRow_below hT.below (by omega) _⟩, fun e => by
                          have h6 : l 6 = true := hcl 11 _ rfl (hcl 13 _ rfl (hcl 14 _ rfl (hcl 15 _ rfl (hdp ⟨15, .data⟩ (by simp) rfl) ⟨14, .data⟩ (by simp) rfl) ⟨13, .data⟩ (by simp) rfl) ⟨11, .data⟩ (by simp) rfl) ⟨6, .data⟩ (by simp) rfl
                          simp [h6] at e⟩
                      · refine hY.step (fun g2 cur e _ _ => Go.Proofs.YtbbgibbpeibhiaaDoor.Free.setRow_other (fun e2 => by rw [e2, hrow] at e; simp at e) _) (fun g2 x y s _ e _ => ?_) (fun _ => rfl)
                        by_cases e2 : g2 = g
                        · subst e2; exact .inr (Go.Proofs.YtbbgibbpeibhiaaDoor.Free.setRow_kept hrow _)
                        · exact .inl (Go.Proofs.YtbbgibbpeibhiaaDoor.Free.setRow_other e2 _)
                    | 19, ho =>
                      obtain rfl := Option.some.inj ho
                      obtain e156 : a.tmps[156]?.getD undef = .bool true := hf.1 ⟨16, .data⟩ (by simp) rfl _ 156 rfl rfl
                      exact wp_value (.bool true) (by unfold execOp; go_simp) ⟨_, rfl, rfl, hT.later (Below.refl _ _) (fun e => by simpa using e), fun j u _ hj hY => hY.later (Below.refl _ _) (fun _ => by decide)⟩
                    | q + 20, ho => simp at ho
                  case en =>
                    intro vs w2 hT hall
                    obtain ⟨g, e18, hg0, hMg⟩ := hall 18 _ rfl
                    have e19 : vs 19 = .bool true := hall 19 _ rfl
                    have e17 : vs 17 = .pointer (some ⟨g, 0, none⟩) := by
                      simp only [fill, Act.put] at e18
                      rw [Array.getElem?_setIfInBounds_ne (by decide), Array.getElem?_setIfInBounds_self] at e18
                      split at e18
                      · exact Option.some.inj e18
                      · cases e18
                    have HE := Lib.hid (HK33.out.later hT.below)
                    have HKE : Hid (Kp w w2 ((g, .cells #[.int .i64 ((min (R + 1) 8 : Nat) : Int), .int .i64 (C : Int), .string sp] 24 (0, 0)) :: [(x16, .cells #[.int .i64 (c : Int), .int .i64 (ii : Int), .string st] 24), (x14, .cells #[.int .i64 (c : Int), .int .i64 (ii : Int), .string st] 24), (x12, .cells #[.int .i64 (C : Int), .int .i64 (R : Int), .string sT] 24), (x10, .cells #[.int .i64 (ii : Int), .int .i64 (c : Int), .string sn] 24), (x6, .cells #[.int .i64 (ii : Int), .int .i64 (c : Int), .string sn] 24), (x4, .cells #[.int .i64 (ii : Int), .int .i64 (c : Int), .string sn] 24), (B, .cells #[.int .i64 (R : Int), .int .i64 (C : Int), .string sm] 24)])) := ⟨fun q hq => by
                      rcases List.mem_cons.1 hq with rfl | hq
                      · exact hMg
                      · exact HE.out.all q hq, HE.out.below⟩
                    clear hT hall e18 hg0 hMg HE HU HK33
                    simp only [fill, Act.put]
                    rw [e17, e19]
                    clear e17 e19
                    go_simp
                    obtain ⟨cg0, cg1, cg2, -, -, -⟩ := Go.Proofs.YtbbgibbpeibhiaaDoor.Rd5.cells3 (HKE.out.at 0 rfl)
                    go_wp2_with fail
                    refine (HSD.out _).mono ?_
                    rintro e w40 ⟨rfl, hb40⟩
                    obtain ⟨x24, hx24⟩ : ∃ x, w40.heap.size = x := ⟨_, rfl⟩
                    have HK40 := Lib.hid ((HKE.out.later hb40).put (.cells #[.int .i64 (rd : Int), .int .i64 (cd : Int), .string sd] 24) hx24)
                    clear hb40 HKE
                    clear cg0 cg1 cg2
                    obtain ⟨cx100, cx101, cx102, -, -, -⟩ := Go.Proofs.YtbbgibbpeibhiaaDoor.Rd5.cells3 (HK40.out.at 5 rfl)
                    obtain ⟨cx40, cx41, cx42, -, -, -⟩ := Go.Proofs.YtbbgibbpeibhiaaDoor.Rd5.cells3 (HK40.out.at 7 rfl)
                    obtain ⟨cx140, cx141, cx142, -, -, -⟩ := Go.Proofs.YtbbgibbpeibhiaaDoor.Rd5.cells3 (HK40.out.at 3 rfl)
                    obtain ⟨cx160, cx161, cx162, -, -, -⟩ := Go.Proofs.YtbbgibbpeibhiaaDoor.Rd5.cells3 (HK40.out.at 2 rfl)
                    obtain ⟨cx240, cx241, cx242, -, -, -⟩ := Go.Proofs.YtbbgibbpeibhiaaDoor.Rd5.cells3 (HK40.out.at 0 rfl)
                    go_wp2_with fail
                    go_ret
                    exact ⟨rfl, HK40.out.below⟩
end Go.Proofs.YtbbgibbpeibhiaaDoor.fnShrink
