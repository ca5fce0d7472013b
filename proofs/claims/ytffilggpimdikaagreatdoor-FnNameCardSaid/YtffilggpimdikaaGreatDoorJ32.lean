/-
  Texts of one seat, joined: PickI, ShrM, DiffWalk, Bits.
-/
import Derived.Test.YtffilggpimdikaaGreatDoorJ31
import Derived.Test.YtffilggpimdikaaGreatDoorJ8
import Derived.StillTailTactics
import Derived.Deep.WholeRow
import Derived.Test.YtffilggpimdikaaGreatDoorJ30
import Derived.Test.YtffilggpimdikaaGreatDoorJ29
import Derived.Test.YtffilggpimdikaaGreatDoorJ3
import Derived.IntWalk
/-
  The program's PickMatrix: the function value that tells an entry.
-/
namespace Go.Proofs.YtffilggpimdikaaGreatDoor.PickI
open Go.RowKit Go.Proofs.YtffilggpimdikaaGreatDoor.Plain Go.Proofs.YtffilggpimdikaaGreatDoor.Base Go.Proofs.YtffilggpimdikaaGreatDoor.Valid Go.Proofs.YtffilggpimdikaaGreatDoor.Law Go.Proofs.YtffilggpimdikaaGreatDoor.GridPlain Go.Proofs.YtffilggpimdikaaGreatDoor.Grid Go.Proofs.YtffilggpimdikaaGreatDoor.Entry Go.Proofs.YtffilggpimdikaaGreatDoor.Ints Go.Proofs.YtffilggpimdikaaGreatDoor.From
set_option linter.unusedVariables false

section
variable {P : Program} {ops : Array Oper} {w : World}
/-- a whole row is loaded, in a region that draws its order and only reads -/
theorem wpStill_load_row {Q : Act → Prop} {a : Act} {o : Oper} {rest : List Oper} (hgd : o.guard = none) (ty : TypeId) (x : Operand) (ho : o.op = .load ty x)
    (g : Nat) (hx : a.eval x = .pointer (some ⟨g, 0, none⟩)) (t : TypeId) (cs : Array Value) (fr : Nat × Nat) (d : TypeDesc) (hg : w.heap[g]? = some (.cells cs t fr))
    (hu : P.underlying ty = some d) (hd : (match d with | .struct _ | .array _ _ => true | _ => false) = true) (hi : (P.info? ty).map (·.size) = some cs.size)
    (h : wpStill P ops w Q rest (a.put o.dst (.agg cs))) : wpStill P ops w Q (o :: rest) a := by
  refine wpStill_step fun K hK => ?_
  have hw : Region.wanted o (yielded ops a.tmps) = true := by simp [Region.wanted, hgd]
  rw [if_pos hw]
  unfold Oper.still execOp
  simp only [ho, hx, Instr.loadAt, Instr.sureAddr, Sem.run_bind, Sem.run_pure, Result.andThen_ok, run_loadVar_row w g t ty cs fr d hg hu hd hi]
  exact ⟨rfl, hK _ h⟩
end

/-- the entries that are picked -/
def pickI (E : Nat → Nat → Bool) (xs ys : List Int) : Nat → Nat → Bool := fun x y => E (xs.getD x 0).toNat (ys.getD y 0).toNat

/-- block b holds the grid of so many entries -/
def Holds (w : World) (b : Nat) (r c : Nat) (E : Nat → Nat → Bool) : Prop := w.heap[b]? = some (.cells (gcells r c (gpart E c (r * c))) 52 (0, 0))
theorem Holds.lt {w : World} {b r c : Nat} {E : Nat → Nat → Bool} (h : Holds w b r c E) : b < w.heap.size := (Array.getElem?_eq_some_iff.1 h).1
theorem Holds.below {w w1 : World} {b r c : Nat} {E : Nat → Nat → Bool} (h : Holds w b r c E) (hb : Below w.heap.size w w1) : Holds w1 b r c E := (hb.block b h.lt).trans h

theorem iv_slice {w : World} {B : Nat} {v : Value} {xs : List Int} (h : IV w B v xs) : ∃ p k, v = .slice p xs.length k := by
  rcases h.2 with ⟨rfl, rfl⟩ | ⟨b, off, c, rfl, hlt, hc⟩
  · exact ⟨none, 0, rfl⟩
  · exact ⟨_, _, rfl⟩

theorem four_blocks {w w1 : World} {o1 o2 o3 o4 : Obj} (hb : Below ((((w.alloc o1).alloc o2).alloc o3).alloc o4).heap.size ((((w.alloc o1).alloc o2).alloc o3).alloc o4) w1) :
    w1.heap[w.heap.size + 1]? = some o2 ∧ w1.heap[w.heap.size + 1 + 1]? = some o3 ∧ w1.heap[w.heap.size + 1 + 1 + 1]? = some o4 ∧ Below w.heap.size w w1 ∧ w.heap.size + 4 ≤ w1.heap.size := by
  have hs : ((((w.alloc o1).alloc o2).alloc o3).alloc o4).heap.size = w.heap.size + 4 := by simp
  have h4 : ((((w.alloc o1).alloc o2).alloc o3).alloc o4).heap[w.heap.size + 1 + 1 + 1]? = some o4 := by
    have := heap_alloc_new (((w.alloc o1).alloc o2).alloc o3) o4
    rwa [World.size_alloc, World.size_alloc, World.size_alloc] at this
  have h3 : (((w.alloc o1).alloc o2).alloc o3).heap[w.heap.size + 1 + 1]? = some o3 := by
    have := heap_alloc_new ((w.alloc o1).alloc o2) o3
    rwa [World.size_alloc, World.size_alloc] at this
  have h2 : ((w.alloc o1).alloc o2).heap[w.heap.size + 1]? = some o2 := by
    have := heap_alloc_new (w.alloc o1) o2
    rwa [World.size_alloc] at this
  have b3 : ((((w.alloc o1).alloc o2).alloc o3).alloc o4).heap[w.heap.size + 1 + 1]? = some o3 := (Below.heap_alloc _ _ _ (by simp)).trans h3
  have b2 : ((((w.alloc o1).alloc o2).alloc o3).alloc o4).heap[w.heap.size + 1]? = some o2 := (Below.heap_alloc _ _ _ (by simp)).trans ((Below.heap_alloc _ _ _ (by simp)).trans h2)
  refine ⟨(hb.block _ (by omega)).trans b2, (hb.block _ (by omega)).trans b3, (hb.block _ (by omega)).trans h4, ?_, by have := hb.size; omega⟩
  exact (((((Below.refl w.heap.size w).alloc (Nat.le_refl _) _).alloc (by simp) _).alloc (by simp; omega) _).alloc (by simp; omega) _).trans (hb.mono (by omega))

end Go.Proofs.YtffilggpimdikaaGreatDoor.PickI

/-
  ShrinkMatrix: what is known of a slice of numbers, and which lines are equal.
-/
namespace Go.Proofs.YtffilggpimdikaaGreatDoor.ShrM
open Go.RowKit Go.Proofs.YtffilggpimdikaaGreatDoor.Plain Go.Proofs.YtffilggpimdikaaGreatDoor.Base Go.Proofs.YtffilggpimdikaaGreatDoor.Valid Go.Proofs.YtffilggpimdikaaGreatDoor.Law Go.Proofs.YtffilggpimdikaaGreatDoor.GridPlain Go.Proofs.YtffilggpimdikaaGreatDoor.Grid Go.Proofs.YtffilggpimdikaaGreatDoor.Entry Go.Proofs.YtffilggpimdikaaGreatDoor.App Go.Proofs.YtffilggpimdikaaGreatDoor.Ints Go.Proofs.YtffilggpimdikaaGreatDoor.First Go.Proofs.YtffilggpimdikaaGreatDoor.Line Go.Proofs.YtffilggpimdikaaGreatDoor.FirstI
open Go.Proofs.YtffilggpimdikaaGreatDoor.PickI (pickI)

set_option linter.unusedVariables false

/-- v is a slice of these numbers, in a block from lo on -/
def SV (lo : Nat) (w : World) (v : Value) (l : List Nat) : Prop :=
  (v = .slice none 0 0 ∧ l = []) ∨ ∃ b c, v = .slice (some ⟨b, 0, none⟩) l.length c ∧ lo ≤ b ∧ b < w.heap.size ∧ ∀ j (hj : j < l.length), w.cell? ⟨b, j, none⟩ = some (.int .i64 (l[j] : Int))
theorem SV.later {lo : Nat} {w w' : World} {v : Value} {l : List Nat} (h : SV lo w v l) (hb : Below w.heap.size w w') : SV lo w' v l := by
  rcases h with h | ⟨b, c, h1, h2, h3, h4⟩
  · exact .inl h
  · exact .inr ⟨b, c, h1, h2, Nat.lt_of_lt_of_le h3 hb.size, fun j hj => (hb.cell (p := ⟨b, j, none⟩) h3).trans (h4 j hj)⟩
theorem SV.row {lo : Nat} {w : World} {v : Value} {l : List Nat} (h : SV lo w v l) (g : Nat) (hg : g < lo) (cs : Array Value) : SV lo (w.setRow g cs) v l := by
  rcases h with h | ⟨b, c, h1, h2, h3, h4⟩
  · exact .inl h
  · refine .inr ⟨b, c, h1, h2, by simpa using h3, fun j hj => ?_⟩
    have hk := h4 j hj
    have e := Free.setRow_other (w := w) (g := g) (k := b) (by omega) cs
    simp only [World.cell?, e] at hk ⊢
    exact hk
theorem SV.own {lo : Nat} {w0 w : World} {v : Value} {l : List Nat} (h : Own w0 w 3 1 v l.length (nums l)) (hlo : lo ≤ w0.heap.size) : SV lo w v l := by
  rcases h.row.2 with ⟨h1, h2⟩ | ⟨g, cap, cur, h1, h2, h3, _⟩
  · exact .inl ⟨h1, List.length_eq_zero_iff.1 h2⟩
  · subst h1
    refine .inr ⟨g, cap, rfl, by omega, (Array.getElem?_eq_some_iff.1 h3).1, fun j hj => ?_⟩
    obtain ⟨g', e, _, h5⟩ := cell_own h j hj
    obtain rfl : g = g' := by simpa using e
    exact h5
/-- the numbers as the picks take them -/
def ints (l : List Nat) : List Int := l.map fun n : Nat => (n : Int)
theorem SV.iv {lo : Nat} {w : World} {v : Value} {l : List Nat} (h : SV lo w v l) (h8 : l.length ≤ 8) : IV w w.heap.size v (ints l) := by
  have hl : (ints l).length = l.length := by simp [ints]
  refine ⟨by omega, ?_⟩
  rcases h with ⟨rfl, rfl⟩ | ⟨b, c, rfl, _, h3, h4⟩
  · exact .inl ⟨rfl, rfl⟩
  · refine .inr ⟨b, 0, c, by rw [hl], h3, fun j hj => ?_⟩
    rw [Nat.zero_add]
    have := h4 j (by omega)
    simpa [ints] using this
theorem ints_ok {l : List Nat} {n : Nat} (h : ∀ x ∈ l, x < n) : okI (ints l) n = true := by
  refine okI_true fun j hj => ?_
  have hl : (ints l).length = l.length := by simp [ints]
  have := h l[j] (List.getElem_mem (by omega))
  simp only [ints, List.getElem_map]
  omega

/-- a line is its row's bytes -/
theorem same_row (F : Nat → Nat → Bool) (c x1 x2 : Nat) (hc8 : c ≤ 8) (g h : Nat → Int) (hg : ∀ i, i < 8 → g i = if i < c then bitI (F x1 i) else 0) (hh : ∀ i, i < 8 → h i = if i < c then bitI (F x2 i) else 0) :
    sameL g h = (rowB F x1 c == rowB F x2 c) := by
  have e1 : sameL g h = true ↔ ∀ i, i < c → F x1 i = F x2 i := by
    unfold sameL
    rw [List.all_eq_true]
    constructor
    · intro h1 i hi
      have := h1 i (List.mem_range.2 (by omega))
      rw [beq_iff_eq, hg i (by omega), hh i (by omega), if_pos hi, if_pos hi] at this
      revert this
      cases F x1 i <;> cases F x2 i <;> simp [bitI]
    · intro h1 i hi
      have h8 := List.mem_range.1 hi
      rw [beq_iff_eq, hg i h8, hh i h8]
      by_cases hic : i < c
      · rw [if_pos hic, if_pos hic, h1 i hic]
      · rw [if_neg hic, if_neg hic]
  have e2 : (rowB F x1 c == rowB F x2 c) = true ↔ ∀ i, i < c → F x1 i = F x2 i := by
    rw [beq_iff_eq]
    constructor
    · intro h1 i hi
      have := congrArg (fun l : List UInt8 => l[i]?) h1
      simp only [rowB_get F x1 c i hi, rowB_get F x2 c i hi, Option.some.injEq] at this
      revert this
      cases F x1 i <;> cases F x2 i <;> simp [dig]
    · intro h1
      unfold rowB
      refine List.map_congr_left fun i hi => ?_
      rw [h1 i (List.mem_range.1 hi)]
  rw [Bool.eq_iff_iff, e1, e2]
theorem grid_row (E : Nat → Nat → Bool) (r c x i : Nat) (hx : x < r) (hi : i < 8) (hc8 : c ≤ 8) : gpart E c (r * c) (x * 8 + i) = if i < c then bitI (E x i) else 0 := by
  by_cases h : i < c
  · rw [if_pos h, Nat.mul_comm x 8]
    exact gpart_all E r c x i hx h hc8
  · rw [if_neg h]
    unfold gpart
    rw [if_neg]
    have : (x * 8 + i) % 8 = i := by omega
    omega
theorem grid_col (E : Nat → Nat → Bool) (r c y i : Nat) (hy : y < c) (hi : i < 8) (hc8 : c ≤ 8) : (if i < r then gpart E c (r * c) (i * 8 + y) else 0) = if i < r then bitI ((fun x y => E y x) y i) else 0 := by
  by_cases h : i < r
  · rw [if_pos h, if_pos h, Nat.mul_comm i 8]
    exact gpart_all E r c i y h hy hc8
  · rw [if_neg h, if_neg h]

theorem row_enters (args : Array Value) (W : World) : (callFunc 32 args).run Tryz.prog W = .ok (.enter 32 args) W := by kernel_rfl
theorem rows_lines (E : Nat → Nat → Bool) (r c : Nat) (hr8 : r ≤ 8) : Lines 32 (gval r c (gpart E c (r * c))) r (fun x y => gpart E c (r * c) (x * 8 + y)) :=
  ⟨row_enters, fun x hx W => row_line r c _ x (by omega) W⟩
/-- the rows' and the columns' keys -/
abbrev keyR (E : Nat → Nat → Bool) (c : Nat) : Nat → List UInt8 := fun x => rowB E x c
abbrev keyC (E : Nat → Nat → Bool) (r : Nat) : Nat → List UInt8 := fun y => rowB (fun x y => E y x) y r

theorem firsts_rows (E : Nat → Nat → Bool) (r c : Nat) (hr8 : r ≤ 8) (hc8 : c ≤ 8) (lo : Nat) (W : World) (hlo : lo ≤ W.heap.size) :
    Calls Tryz.prog 31 #[.int .i64 (r : Int), .func (.func 32) #[gval r c (gpart E c (r * c))] #[]] W
      fun e w' => ∃ v, e = .returned v ∧ SV lo w' v (firsts (keyR E c) r) ∧ Below W.heap.size W w' :=
  (firsts_of _ _ r hr8 _ (rows_lines E r c hr8) (keyR E c) (fun i j hi hj => same_row E c j i hc8 _ _ (fun q hq => grid_row E r c j q hj hq hc8) (fun q hq => grid_row E r c i q hi hq hc8)) W).mono
    fun e w' h => by
      obtain ⟨v, h1, h2⟩ := h
      exact ⟨v, h1, SV.own h2 (by simp; omega), below_grown h2.below⟩
/-- no lines, whatever the function -/
theorem firsts_none (gg : Nat) (g0 : Value) (he : ∀ args W, (callFunc gg args).run Tryz.prog W = .ok (.enter gg args) W) (lo : Nat) (W : World) (hlo : lo ≤ W.heap.size) :
    Calls Tryz.prog 31 #[.int .i64 0, .func (.func gg) #[g0] #[]] W fun e w' => ∃ v, e = .returned v ∧ SV lo w' v [] ∧ Below W.heap.size W w' :=
  (firsts_of gg g0 0 (by omega) (fun _ _ => 0) ⟨he, fun x hx => absurd hx (by omega)⟩ (fun _ => []) (fun i j hi => absurd hi (by omega)) W).mono
    fun e w' h => by
      obtain ⟨v, h1, h2⟩ := h
      exact ⟨v, h1, SV.own (l := []) h2 (by simp; omega), below_grown h2.below⟩
/-- the reference's -/
theorem first_sv (E : Nat → Nat → Bool) (r c : Nat) (hr8 : r ≤ 8) (hc8 : c ≤ 8) (lo : Nat) (W : World) (hlo : lo ≤ W.heap.size) :
    Calls Tryz.prog 37 #[mat r c (str (rowsB E r c))] W fun e w' => ∃ v, e = .returned v ∧ SV lo w' v (firsts (keyR E c) r) ∧ Below W.heap.size W w' :=
  (first_any E r c hr8 hc8 W).mono fun e w' h => by
    obtain ⟨v, h1, h2⟩ := h
    exact ⟨v, h1, SV.own h2 (by simp; omega), below_grown h2.below⟩

/-- what is picked -/
abbrev picked (E : Nat → Nat → Bool) (xs ys : List Nat) : Value := mat xs.length ys.length (str (rowsB (pickI E (ints xs) (ints ys)) xs.length ys.length))
end Go.Proofs.YtffilggpimdikaaGreatDoor.ShrM

/-
  The walk of the law on DifferentRows.
-/
namespace Go.Proofs.YtffilggpimdikaaGreatDoor.fnExactDifferentRows
open Go.RowKit Go.Proofs.YtffilggpimdikaaGreatDoor.Plain Go.Proofs.YtffilggpimdikaaGreatDoor.Base Go.Proofs.YtffilggpimdikaaGreatDoor.Valid Go.Proofs.YtffilggpimdikaaGreatDoor.Law Go.Proofs.YtffilggpimdikaaGreatDoor.GridPlain Go.Proofs.YtffilggpimdikaaGreatDoor.Grid Go.Proofs.YtffilggpimdikaaGreatDoor.Entry Go.Proofs.YtffilggpimdikaaGreatDoor.First Go.Proofs.YtffilggpimdikaaGreatDoor.Line Go.Proofs.YtffilggpimdikaaGreatDoor.FirstI Go.Proofs.YtffilggpimdikaaGreatDoor.ShrM
set_option linter.unusedVariables false

theorem SV.slice {lo : Nat} {w : World} {v : Value} {l : List Nat} (h : SV lo w v l) : ∃ p c, v = .slice p l.length c := by
  rcases h with ⟨rfl, rfl⟩ | ⟨b, c, rfl, _⟩
  · exact ⟨none, 0, rfl⟩
  · exact ⟨_, c, rfl⟩

/-- the number of different rows -/
def diffV (r c : Int) (s : ByteArray) (n : Nat) : Int := if validB r c s then (n : Int) else -1
set_option maxHeartbeats 1000000 in
theorem impl_diff_no (r c : Int) (s : ByteArray) (hG : ∀ W : World, Calls Tryz.prog 28 #[mat r c s] W fun e w' => e = .returned (gval 0 0 (fun _ => 0)) ∧ Below W.heap.size W w') (w : World) :
    Calls Tryz.prog 9 #[mat r c s] w fun e w' => e = .returned (.int .i64 (-1)) ∧ Below w.heap.size w w' := by
  have HG := Lib.hid hG
  clear hG
  go_enter Tryz.func9, Tryz.ntmps9
  go_wp2_with fail
  refine (HG.out _).mono ?_
  rintro e w1 ⟨rfl, hb1⟩
  have HB := Lib.hid (bstep ((Below.refl w.heap.size w).alloc (Nat.le_refl _) _) hb1)
  clear hb1
  have HB2 := Lib.hid (bstepA HB.out (.cells (gcells 0 0 (fun _ => 0)) 52))
  have k0 : (w1.alloc (.cells (gcells 0 0 (fun _ => 0)) 52)).cell? ⟨w1.heap.size, 0, none⟩ = some (.int .i64 0) := cell_of_row _ _ 0 _ _ _ (heap_alloc_new w1 _)
  have K0 := Lib.hid k0
  clear k0
  go_wp2_with (refine wpList_store_row rfl 52 (.tmp 3) (.tmp 5) rfl w1.heap.size (gcells 0 0 (fun _ => 0)) rfl rfl 52 _ (heap_alloc_new w1 _) (ginfo' _ _ _) (by rw [gzero]) (gone _ _ _) ?_; rw [World.setRow_alloc_new]; generalize w1.alloc (.cells (gcells 0 0 (fun _ => 0)) 52) = w2 at *; have k0 := K0.out)
  go_wp2_with fail
  go_ret
  exact ⟨rfl, HB2.out⟩

set_option maxHeartbeats 2000000 in
set_option maxRecDepth 100000 in
theorem impl_diff (R C : Nat) (hR1 : 1 ≤ R) (hR8 : R ≤ 8) (f : Nat → Int) (l : List Nat) (r c : Int) (s : ByteArray) (hG : ∀ W : World, Calls Tryz.prog 28 #[mat r c s] W fun e w' => e = .returned (gval R C f) ∧ Below W.heap.size W w')
    (hX : ∀ W : World, Calls Tryz.prog 31 #[.int .i64 (R : Int), .func (.func 32) #[gval R C f] #[]] W fun e w' => ∃ v, e = .returned v ∧ SV 0 w' v l ∧ Below W.heap.size W w') (w : World) :
    Calls Tryz.prog 9 #[mat r c s] w fun e w' => e = .returned (.int .i64 (l.length : Int)) ∧ Below w.heap.size w w' := by
  have HG := Lib.hid hG
  have HX := Lib.hid hX
  clear hG hX
  have hR0 : ((R : Int) == 0) = false := beq_false_of_ne (by omega)
  go_enter Tryz.func9, Tryz.ntmps9
  go_wp2_with fail
  refine (HG.out _).mono ?_
  rintro e w1 ⟨rfl, hb1⟩
  have HB := Lib.hid (bstep ((Below.refl w.heap.size w).alloc (Nat.le_refl _) _) hb1)
  clear hb1
  have HB2 := Lib.hid (bstepA HB.out (.cells (gcells R C f) 52))
  have H2 := Lib.hid (heap_alloc_new w1 (.cells (gcells R C f) 52))
  have k0 : (w1.alloc (.cells (gcells R C f) 52)).cell? ⟨w1.heap.size, 0, none⟩ = some (.int .i64 (R : Int)) := cell_of_row _ _ 0 _ _ _ (heap_alloc_new w1 _)
  have K0 := Lib.hid k0
  clear k0
  go_wp2_with (first | (refine wpList_store_row rfl 52 (.tmp 3) (.tmp 5) rfl w1.heap.size (gcells R C f) rfl rfl 52 _ (heap_alloc_new w1 _) (ginfo' _ _ _) (by rw [gzero, gsize, gsize]) (gone _ _ _) ?_; rw [World.setRow_alloc_new]; generalize w1.alloc (.cells (gcells R C f) 52) = w2 at *; have k0 := K0.out) | (have X := H2.out; refine wpList_load_row rfl 52 (.tmp 3) rfl w1.heap.size rfl 52 (gcells R C f) (0, 0) _ X Tryz.underlying52 rfl (ginfo' _ _ _) ?_; clear X))
  refine (HX.out _).mono ?_
  rintro e w3 ⟨v, rfl, hsv, hb2⟩
  obtain ⟨p, k, rfl⟩ := SV.slice hsv
  have HB3 := Lib.hid (bstep HB2.out hb2)
  clear hb2 hsv k0
  go_wp2_with fail
  go_ret
  exact ⟨rfl, HB3.out⟩

end Go.Proofs.YtffilggpimdikaaGreatDoor.fnExactDifferentRows

/-
  The number of bits that name so many things: the reference and the program find the same.
-/
namespace Go.Proofs.YtffilggpimdikaaGreatDoor.Bits
open Go.RowKit Go.Proofs.YtffilggpimdikaaGreatDoor.Plain Go.Proofs.YtffilggpimdikaaGreatDoor.Rect
set_option linter.unusedVariables false

/-- k is the least number of bits that name n things -/
def IsBits (n k : Nat) : Prop := n ≤ 2 ^ k ∧ ∀ j, j < k → 2 ^ j < n
theorem IsBits.one {n k l : Nat} (h : IsBits n k) (h' : IsBits n l) : k = l := by
  rcases Nat.lt_trichotomy k l with hlt | rfl | hlt
  · have := h'.2 k hlt
    have := h.1
    omega
  · rfl
  · have := h.2 l hlt
    have := h'.1
    omega
theorem isBits_le {n k : Nat} (hn : n ≤ 1000000) (h : ∀ j, j < k → 2 ^ j < n) : k ≤ 20 := by
  rcases Nat.lt_or_ge 20 k with hlt | hge
  · have h20 := h 20 hlt
    have : (2 : Nat) ^ 20 = 1048576 := by decide
    omega
  · exact hge
theorem pow20 (k : Nat) (hk : k ≤ 20) : 1 ≤ 2 ^ k ∧ 2 ^ k ≤ 1048576 :=
  ⟨Nat.one_le_two_pow, Nat.le_trans (Nat.pow_le_pow_right (by decide) hk) (by decide)⟩
theorem wrap_pow (k : Nat) (hk : k ≤ 20) : IntKind.i64.wrap (2 ^ k) = ((2 ^ k : Nat) : Int) := by
  have h := pow20 k hk
  rw [show ((2 : Int) ^ k) = ((2 ^ k : Nat) : Int) by simp]
  exact IntWalk.i64_in _ ⟨by omega, by omega⟩

set_option maxHeartbeats 1000000 in
theorem impl_yes (n : Nat) (hn : n ≤ 1000000) (w : World) :
    Calls Tryz.prog 13 #[.int .i64 (n : Int)] w fun e w' => ∃ k : Nat, IsBits n k ∧ k ≤ 20 ∧ e = .returned (.int .i64 (k : Int)) ∧ w = w' := by
  have h0 : ¬ (n : Int) < 0 := by omega
  have h1 : ¬ (1000000 : Int) < (n : Int) := by omega
  go_enter Tryz.func13, Tryz.ntmps13
  go_wp2_with fail
  clear h0 h1
  go_loop [3] (fun i => ∃ k : Nat, i = .int .i64 (k : Int) ∧ k ≤ 20 ∧ ∀ j, j < k → 2 ^ j < n) (fun i => 21 - (intOf i).toNat)
  case atStart => exact ⟨0, rfl, by omega, fun j hj => absurd hj (by omega)⟩
  case round =>
    obtain ⟨k, rfl, hk, hs⟩ := hrel
    have hsh := wrap_pow k hk
    have hp := pow20 k hk
    obtain ⟨X, hX⟩ : ∃ X, 2 ^ k = X := ⟨_, rfl⟩
    have HX := Lib.hid hX
    rw [hX] at hsh hp
    clear hX
    have HS := Lib.hid hs
    clear hs
    by_cases hlt : X < n
    · have hc : (X : Int) < (n : Int) := by omega
      have HN : Hid (∀ j, j < k + 1 → 2 ^ j < n) := fun j hj => by
        rcases Nat.lt_or_ge j k with h | h
        · exact HS.out j h
        · obtain rfl : j = k := by omega
          rw [HX.out]
          exact hlt
      have hk1 := isBits_le hn HN.out
      go_wp2_with fail
      go_round
      case rel => exact ⟨k + 1, by go_num, hk1, HN.out⟩
      case measure => simp [intOf]; omega
    · have hc : ¬ (X : Int) < (n : Int) := by omega
      go_wp2_with fail
      go_ret
      exact ⟨k, ⟨by rw [HX.out]; omega, HS.out⟩, hk, rfl, rfl⟩

set_option maxHeartbeats 1000000 in
theorem impl_no (n : Int) (hn : n < 0 ∨ 1000000 < n) (w : World) :
    Calls Tryz.prog 13 #[.int .i64 n] w fun e w' => e = .returned (.int .i64 (-1)) ∧ w = w' := by
  by_cases h : n < 0
  · clear hn
    go_enter Tryz.func13, Tryz.ntmps13
    go_wp2_with fail
    go_ret
    exact ⟨rfl, rfl⟩
  · have h1 : 1000000 < n := by omega
    clear hn
    go_enter Tryz.func13, Tryz.ntmps13
    go_wp2_with fail
    go_ret
    exact ⟨rfl, rfl⟩
end Go.Proofs.YtffilggpimdikaaGreatDoor.Bits

