/-
  ShrinkMatrix: what is known of a slice of numbers, and which lines are equal.
-/
import Derived.Test.YtbbgibbpeibhiaaDoorFirstI
import Derived.Test.YtbbgibbpeibhiaaDoorFreeR
import Derived.Test.YtbbgibbpeibhiaaDoorPick
import Derived.Test.YtbbgibbpeibhiaaDoorPickI
import Derived.Test.YtbbgibbpeibhiaaDoorTurn1
namespace Go.Proofs.YtbbgibbpeibhiaaDoor.ShrM
open Go.RowKit Go.Proofs.YtbbgibbpeibhiaaDoor.Plain Go.Proofs.YtbbgibbpeibhiaaDoor.Base Go.Proofs.YtbbgibbpeibhiaaDoor.Valid Go.Proofs.YtbbgibbpeibhiaaDoor.Law Go.Proofs.YtbbgibbpeibhiaaDoor.GridPlain Go.Proofs.YtbbgibbpeibhiaaDoor.Grid Go.Proofs.YtbbgibbpeibhiaaDoor.Entry Go.Proofs.YtbbgibbpeibhiaaDoor.App Go.Proofs.YtbbgibbpeibhiaaDoor.Ints Go.Proofs.YtbbgibbpeibhiaaDoor.First Go.Proofs.YtbbgibbpeibhiaaDoor.Line Go.Proofs.YtbbgibbpeibhiaaDoor.FirstI
open Go.Proofs.YtbbgibbpeibhiaaDoor.PickI (pickI pick_impl pick_impl_no)
open Go.Proofs.YtbbgibbpeibhiaaDoor.Pick (pick_spec1)
set_option linter.unusedVariables false

/-- v is a slice of these numbers, in a block from lo on -/
def SV (lo : Nat) (w : World) (v : Value) (l : List Nat) : Prop :=
  (v = .slice none 0 0 ∧ l = []) ∨ ∃ b c, v = .slice (some ⟨b, 0, none⟩) l.length c ∧ lo ≤ b ∧ b < w.heap.size ∧ ∀ j (hj : j < l.length), w.cell? ⟨b, j, none⟩ = some (.int .i64 (l[j] : Int))
theorem SV.later {lo : Nat} {w w' : World} {v : Value} {l : List Nat} (h : SV lo w v l) (hb : Below w.heap.size w w') : SV lo w' v l := by
  rcases h with h | ⟨b, c, h1, h2, h3, h4⟩
  · exact .inl h
  · exact .inr ⟨b, c, h1, h2, Nat.lt_of_lt_of_le h3 hb.size, fun j hj => (hb.cell (p := ⟨b, j, none⟩) h3).trans (h4 j hj)⟩
theorem SV.row {lo : Nat} {w : World} {v : Value} {l : List Nat} (h : SV lo w v l) (g : Nat) (hg : g < lo) (cs : Array Value) : SV lo (w.setRow g cs) v l := by
  rcases h with h | ⟨b, c, h1, h2, h3, h4⟩
  · exact .inl h
  · refine .inr ⟨b, c, h1, h2, by simpa using h3, fun j hj => ?_⟩
    have hk := h4 j hj
    have e := Free.setRow_other (w := w) (g := g) (k := b) (by omega) cs
    simp only [World.cell?, e] at hk ⊢
    exact hk
theorem SV.own {lo : Nat} {w0 w : World} {v : Value} {l : List Nat} (h : Own w0 w 3 1 v l.length (nums l)) (hlo : lo ≤ w0.heap.size) : SV lo w v l := by
  rcases h.row.2 with ⟨h1, h2⟩ | ⟨g, cap, cur, h1, h2, h3, _⟩
  · exact .inl ⟨h1, List.length_eq_zero_iff.1 h2⟩
  · subst h1
    refine .inr ⟨g, cap, rfl, by omega, (Array.getElem?_eq_some_iff.1 h3).1, fun j hj => ?_⟩
    obtain ⟨g', e, _, h5⟩ := cell_own h j hj
    obtain rfl : g = g' := by simpa using e
    exact h5
/-- the numbers as the picks take them -/
def ints (l : List Nat) : List Int := l.map fun n : Nat => (n : Int)
theorem SV.iv {lo : Nat} {w : World} {v : Value} {l : List Nat} (h : SV lo w v l) (h8 : l.length ≤ 8) : IV w w.heap.size v (ints l) := by
  have hl : (ints l).length = l.length := by simp [ints]
  refine ⟨by omega, ?_⟩
  rcases h with ⟨rfl, rfl⟩ | ⟨b, c, rfl, _, h3, h4⟩
  · exact .inl ⟨rfl, rfl⟩
  · refine .inr ⟨b, 0, c, by rw [hl], h3, fun j hj => ?_⟩
    rw [Nat.zero_add]
    have := h4 j (by omega)
    simpa [ints] using this
theorem ints_ok {l : List Nat} {n : Nat} (h : ∀ x ∈ l, x < n) : okI (ints l) n = true := by
  refine okI_true fun j hj => ?_
  have hl : (ints l).length = l.length := by simp [ints]
  have := h l[j] (List.getElem_mem (by omega))
  simp only [ints, List.getElem_map]
  omega

/-- a line is its row's bytes -/
theorem same_row (F : Nat → Nat → Bool) (c x1 x2 : Nat) (hc8 : c ≤ 8) (g h : Nat → Int) (hg : ∀ i, i < 8 → g i = if i < c then bitI (F x1 i) else 0) (hh : ∀ i, i < 8 → h i = if i < c then bitI (F x2 i) else 0) :
    sameL g h = (rowB F x1 c == rowB F x2 c) := by
  have e1 : sameL g h = true ↔ ∀ i, i < c → F x1 i = F x2 i := by
    unfold sameL
    rw [List.all_eq_true]
    constructor
    · intro h1 i hi
      have := h1 i (List.mem_range.2 (by omega))
      rw [beq_iff_eq, hg i (by omega), hh i (by omega), if_pos hi, if_pos hi] at this
      revert this
      cases F x1 i <;> cases F x2 i <;> simp [bitI]
    · intro h1 i hi
      have h8 := List.mem_range.1 hi
      rw [beq_iff_eq, hg i h8, hh i h8]
      by_cases hic : i < c
      · rw [if_pos hic, if_pos hic, h1 i hic]
      · rw [if_neg hic, if_neg hic]
  have e2 : (rowB F x1 c == rowB F x2 c) = true ↔ ∀ i, i < c → F x1 i = F x2 i := by
    rw [beq_iff_eq]
    constructor
    · intro h1 i hi
      have := congrArg (fun l : List UInt8 => l[i]?) h1
      simp only [rowB_get F x1 c i hi, rowB_get F x2 c i hi, Option.some.injEq] at this
      revert this
      cases F x1 i <;> cases F x2 i <;> simp [dig]
    · intro h1
      unfold rowB
      refine List.map_congr_left fun i hi => ?_
      rw [h1 i (List.mem_range.1 hi)]
  rw [Bool.eq_iff_iff, e1, e2]
theorem grid_row (E : Nat → Nat → Bool) (r c x i : Nat) (hx : x < r) (hi : i < 8) (hc8 : c ≤ 8) : gpart E c (r * c) (x * 8 + i) = if i < c then bitI (E x i) else 0 := by
  by_cases h : i < c
  · rw [if_pos h, Nat.mul_comm x 8]
    exact gpart_all E r c x i hx h hc8
  · rw [if_neg h]
    unfold gpart
    rw [if_neg]
    have : (x * 8 + i) % 8 = i := by omega
    omega
theorem grid_col (E : Nat → Nat → Bool) (r c y i : Nat) (hy : y < c) (hi : i < 8) (hc8 : c ≤ 8) : (if i < r then gpart E c (r * c) (i * 8 + y) else 0) = if i < r then bitI ((fun x y => E y x) y i) else 0 := by
  by_cases h : i < r
  · rw [if_pos h, if_pos h, Nat.mul_comm i 8]
    exact gpart_all E r c i y h hy hc8
  · rw [if_neg h, if_neg h]

theorem row_enters (args : Array Value) (W : World) : (callFunc 29 args).run Tryd.prog W = .ok (.enter 29 args) W := by kernel_rfl
theorem col_enters (args : Array Value) (W : World) : (callFunc 30 args).run Tryd.prog W = .ok (.enter 30 args) W := by kernel_rfl
theorem rows_lines (E : Nat → Nat → Bool) (r c : Nat) (hr8 : r ≤ 8) : Lines 29 (gval r c (gpart E c (r * c))) r (fun x y => gpart E c (r * c) (x * 8 + y)) :=
  ⟨row_enters, fun x hx W => row_line r c _ x (by omega) W⟩
theorem cols_lines (E : Nat → Nat → Bool) (r c : Nat) (hr8 : r ≤ 8) (hc8 : c ≤ 8) : Lines 30 (gval r c (gpart E c (r * c))) c (fun y x => if x < r then gpart E c (r * c) (x * 8 + y) else 0) :=
  ⟨col_enters, fun y hy W => col_line r c _ y (by omega) hr8 W⟩
/-- the rows' and the columns' keys -/
abbrev keyR (E : Nat → Nat → Bool) (c : Nat) : Nat → List UInt8 := fun x => rowB E x c
abbrev keyC (E : Nat → Nat → Bool) (r : Nat) : Nat → List UInt8 := fun y => rowB (fun x y => E y x) y r

theorem firsts_rows (E : Nat → Nat → Bool) (r c : Nat) (hr8 : r ≤ 8) (hc8 : c ≤ 8) (lo : Nat) (W : World) (hlo : lo ≤ W.heap.size) :
    Calls Tryd.prog 28 #[.int .i64 (r : Int), .func (.func 29) #[gval r c (gpart E c (r * c))] #[]] W
      fun e w' => ∃ v, e = .returned v ∧ SV lo w' v (firsts (keyR E c) r) ∧ Below W.heap.size W w' :=
  (firsts_of _ _ r hr8 _ (rows_lines E r c hr8) (keyR E c) (fun i j hi hj => same_row E c j i hc8 _ _ (fun q hq => grid_row E r c j q hj hq hc8) (fun q hq => grid_row E r c i q hi hq hc8)) W).mono
    fun e w' h => by
      obtain ⟨v, h1, h2⟩ := h
      exact ⟨v, h1, SV.own h2 (by simp; omega), below_grown h2.below⟩
theorem firsts_cols (E : Nat → Nat → Bool) (r c : Nat) (hr8 : r ≤ 8) (hc8 : c ≤ 8) (lo : Nat) (W : World) (hlo : lo ≤ W.heap.size) :
    Calls Tryd.prog 28 #[.int .i64 (c : Int), .func (.func 30) #[gval r c (gpart E c (r * c))] #[]] W
      fun e w' => ∃ v, e = .returned v ∧ SV lo w' v (firsts (keyC E r) c) ∧ Below W.heap.size W w' :=
  (firsts_of _ _ c hc8 _ (cols_lines E r c hr8 hc8) (keyC E r) (fun i j hi hj => same_row _ r j i hr8 _ _ (fun q hq => grid_col E r c j q hj hq hc8) (fun q hq => grid_col E r c i q hi hq hc8)) W).mono
    fun e w' h => by
      obtain ⟨v, h1, h2⟩ := h
      exact ⟨v, h1, SV.own h2 (by simp; omega), below_grown h2.below⟩
/-- no lines, whatever the function -/
theorem firsts_none (gg : Nat) (g0 : Value) (he : ∀ args W, (callFunc gg args).run Tryd.prog W = .ok (.enter gg args) W) (lo : Nat) (W : World) (hlo : lo ≤ W.heap.size) :
    Calls Tryd.prog 28 #[.int .i64 0, .func (.func gg) #[g0] #[]] W fun e w' => ∃ v, e = .returned v ∧ SV lo w' v [] ∧ Below W.heap.size W w' :=
  (firsts_of gg g0 0 (by omega) (fun _ _ => 0) ⟨he, fun x hx => absurd hx (by omega)⟩ (fun _ => []) (fun i j hi => absurd hi (by omega)) W).mono
    fun e w' h => by
      obtain ⟨v, h1, h2⟩ := h
      exact ⟨v, h1, SV.own (l := []) h2 (by simp; omega), below_grown h2.below⟩
/-- the reference's -/
theorem first_sv (E : Nat → Nat → Bool) (r c : Nat) (hr8 : r ≤ 8) (hc8 : c ≤ 8) (lo : Nat) (W : World) (hlo : lo ≤ W.heap.size) :
    Calls Tryd.prog 33 #[mat r c (str (rowsB E r c))] W fun e w' => ∃ v, e = .returned v ∧ SV lo w' v (firsts (keyR E c) r) ∧ Below W.heap.size W w' :=
  (first_any E r c hr8 hc8 W).mono fun e w' h => by
    obtain ⟨v, h1, h2⟩ := h
    exact ⟨v, h1, SV.own h2 (by simp; omega), below_grown h2.below⟩

/-- what is picked -/
abbrev picked (E : Nat → Nat → Bool) (xs ys : List Nat) : Value := mat xs.length ys.length (str (rowsB (pickI E (ints xs) (ints ys)) xs.length ys.length))
theorem pick_s (E : Nat → Nat → Bool) (r c : Nat) (hr8 : r ≤ 8) (hc8 : c ≤ 8) (xs ys : List Nat) (hx : ∀ x ∈ xs, x < r) (hy : ∀ y ∈ ys, y < c) (hx1 : 1 ≤ xs.length) (hx8 : xs.length ≤ 8) (hy1 : 1 ≤ ys.length) (hy8 : ys.length ≤ 8)
    (lo : Nat) (v u : Value) (W : World) (sv : SV lo W v xs) (su : SV lo W u ys) :
    Calls Tryd.prog 32 #[mat r c (str (rowsB E r c)), v, u] W fun e w' => e = .returned (picked E xs ys) ∧ Below W.heap.size W w' := by
  have lx : (ints xs).length = xs.length := by simp [ints]
  have ly : (ints ys).length = ys.length := by simp [ints]
  have h := pick_spec1 E r c hr8 hc8 (ints xs) (ints ys) v u (ints_ok hx) (ints_ok hy) (by omega) (by omega) (by omega) (by omega) W (sv.iv hx8) (su.iv hy8)
  rw [lx, ly] at h
  exact h
theorem pick_i (E : Nat → Nat → Bool) (r c : Nat) (hr : 1 ≤ r) (hr8 : r ≤ 8) (hc : 1 ≤ c) (hc8 : c ≤ 8) (s : ByteArray) (xs ys : List Nat) (hx : ∀ x ∈ xs, x < r) (hy : ∀ y ∈ ys, y < c) (hx1 : 1 ≤ xs.length) (hx8 : xs.length ≤ 8) (hy1 : 1 ≤ ys.length) (hy8 : ys.length ≤ 8)
    (hg : ∀ W : World, Calls Tryd.prog 27 #[mat r c s] W fun e w' => e = .returned (gval r c (gpart E c (r * c))) ∧ Below W.heap.size W w')
    (lo : Nat) (v u : Value) (W : World) (sv : SV lo W v xs) (su : SV lo W u ys) :
    Calls Tryd.prog 12 #[mat r c s, v, u] W fun e w' => e = .returned (.tuple #[picked E xs ys, .bool true]) ∧ Below W.heap.size W w' := by
  have lx : (ints xs).length = xs.length := by simp [ints]
  have ly : (ints ys).length = ys.length := by simp [ints]
  have h := pick_impl E r c hr hr8 hc hc8 s (ints xs) (ints ys) v u (ints_ok hx) (ints_ok hy) (by omega) (by omega) (by omega) (by omega) W (sv.iv hx8) (su.iv hy8) hg
  rw [lx, ly] at h
  exact h
theorem pick_n (r c : Int) (s : ByteArray) (hg : ∀ W : World, Calls Tryd.prog 27 #[mat r c s] W fun e w' => e = .returned (gval 0 0 (fun _ => 0)) ∧ Below W.heap.size W w')
    (lo : Nat) (v u : Value) (W : World) (sv : SV lo W v []) (su : SV lo W u []) :
    Calls Tryd.prog 12 #[mat r c s, v, u] W fun e w' => e = .returned (.tuple #[mat 0 0 (str []), .bool false]) ∧ Below W.heap.size W w' :=
  pick_impl_no 0 0 _ r c s [] [] v u (fun h => by simp at h) W (sv.iv (by simp)) (su.iv (by simp)) hg
end Go.Proofs.YtbbgibbpeibhiaaDoor.ShrM
