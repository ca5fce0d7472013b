/-
  Texts of one seat, joined: Law, GridPlain, Grid.
-/
import Derived.Test.YtemmagkkigdhjaaGreatDoorJn1
import Derived.Test.YtemmagkkigdhjaaGreatDoorJn8
import Derived.Laws.Rows
import Derived.Laws.Tables
import Derived.StillTailTactics
/-
  Contracts of the laws' own small functions: szMatrix, toMatrix, eqMatrix.
-/
namespace Go.Proofs.YtemmagkkigdhjaaGreatDoor.Law
open Go.RowKit Go.Proofs.YtemmagkkigdhjaaGreatDoor.Plain Go.Proofs.YtemmagkkigdhjaaGreatDoor.Base
set_option linter.unusedVariables false

theorem bcell {W w1 : World} (hb : Below W.heap.size W w1) : (∀ b o, b < W.heap.size → w1.cell? ⟨b, o, none⟩ = W.cell? ⟨b, o, none⟩) ∧ (∀ b o, b < W.heap.size → w1.frozen? ⟨b, o, none⟩ = W.frozen? ⟨b, o, none⟩) :=
  ⟨fun b o h => hb.cell (p := ⟨b, o, none⟩) h, fun b o h => hb.frozen (p := ⟨b, o, none⟩) h⟩
/-- one step more: what a callee leaves alone -/
theorem bstep {w a b : World} (h : Below w.heap.size w a) (h2 : Below a.heap.size a b) : Below w.heap.size w b := h.trans (h2.mono h.size)
theorem bstepA {w a : World} (h : Below w.heap.size w a) (o : Obj) : Below w.heap.size w (a.alloc o) := h.alloc h.size o

/-- the law's own copy of its argument, later on -/
theorem three_of {w w1 : World} {a b c : Value} {T : TypeId} (hb : Below (w.alloc (.cells #[a, b, c] T)).heap.size (w.alloc (.cells #[a, b, c] T)) w1) :
    w1.cell? ⟨w.heap.size, 0, none⟩ = some a ∧ w1.cell? ⟨w.heap.size, 1, none⟩ = some b ∧ w1.cell? ⟨w.heap.size, 2, none⟩ = some c := by
  have hs : (w.alloc (.cells #[a, b, c] T)).heap.size = w.heap.size + 1 := by simp
  refine ⟨?_, ?_, ?_⟩
  · exact (hb.cell (p := ⟨w.heap.size, 0, none⟩) (by show w.heap.size < _; omega)).trans (by simp)
  · exact (hb.cell (p := ⟨w.heap.size, 1, none⟩) (by show w.heap.size < _; omega)).trans (by simp)
  · exact (hb.cell (p := ⟨w.heap.size, 2, none⟩) (by show w.heap.size < _; omega)).trans (by simp)
theorem three_on {w1 w2 : World} {g : Nat} {a b c : Value} (hb : Below w1.heap.size w1 w2) (hg : g < w1.heap.size)
    (h0 : w1.cell? ⟨g, 0, none⟩ = some a) (h1 : w1.cell? ⟨g, 1, none⟩ = some b) (h2 : w1.cell? ⟨g, 2, none⟩ = some c) :
    w2.cell? ⟨g, 0, none⟩ = some a ∧ w2.cell? ⟨g, 1, none⟩ = some b ∧ w2.cell? ⟨g, 2, none⟩ = some c :=
  ⟨(hb.cell (p := ⟨g, 0, none⟩) hg).trans h0, (hb.cell (p := ⟨g, 1, none⟩) hg).trans h1, (hb.cell (p := ⟨g, 2, none⟩) hg).trans h2⟩

end Go.Proofs.YtemmagkkigdhjaaGreatDoor.Law

/-
  Plain facts on a grid's cells: eight a line, one more with each byte that is read. Nothing of the program.
-/
namespace Go.Proofs.YtemmagkkigdhjaaGreatDoor.GridPlain
open Go.RowKit Go.Proofs.YtemmagkkigdhjaaGreatDoor.Plain

theorem rowB_get (E : Nat → Nat → Bool) (x c j : Nat) (h : j < c) : (rowB E x c)[j]? = some (dig (E x j)) := by
  simp [rowB, h]
theorem rowsB_get (E : Nat → Nat → Bool) (r c k : Nat) (h : k < r * c) : (rowsB E r c)[k]? = some (dig (E (k / c) (k % c))) := by
  induction r with
  | zero => simp at h
  | succ r ih =>
    rw [rowsB_succ]
    by_cases hlt : k < r * c
    · rw [List.getElem?_append_left (by rw [rowsB_length]; exact hlt)]
      exact ih hlt
    · rw [List.getElem?_append_right (by rw [rowsB_length]; omega), rowsB_length]
      have hj : k - r * c < c := by rw [Nat.succ_mul] at h; omega
      rw [rowB_get E r c _ hj]
      obtain ⟨j, rfl⟩ : ∃ j, k = r * c + j := ⟨k - r * c, by omega⟩
      rw [show r * c + j - r * c = j by omega] at hj ⊢
      have hd : (r * c + j) / c = r := by
        rw [Nat.mul_comm, Nat.mul_add_div (by omega), Nat.div_eq_of_lt hj, Nat.add_zero]
      have hm : (r * c + j) % c = j := by
        rw [Nat.mul_comm, Nat.mul_add_mod, Nat.mod_eq_of_lt hj]
      rw [hd, hm]
theorem str_get (l : List UInt8) (k : Nat) (u : UInt8) (h : l[k]? = some u) (hk : k < (str l).size) : (str l)[k] = u := by
  obtain ⟨h1, h2⟩ := List.getElem?_eq_some_iff.1 h
  rw [← h2]
  rfl

/-- what stands at place i of the 64 when so many bytes are read -/
def gpart (E : Nat → Nat → Bool) (c k : Nat) (i : Nat) : Int := if i / 8 * c + i % 8 < k ∧ i % 8 < c then bitI (E (i / 8) (i % 8)) else 0
theorem gpart_zero (E : Nat → Nat → Bool) (c : Nat) : gpart E c 0 = fun _ => 0 := by
  funext i
  simp [gpart]
theorem place (c k i : Nat) (h1 : 1 ≤ c) (h8 : c ≤ 8) : (i / 8 * c + i % 8 = k ∧ i % 8 < c) ↔ i = k / c * 8 + k % c := by
  have h : c = 1 ∨ c = 2 ∨ c = 3 ∨ c = 4 ∨ c = 5 ∨ c = 6 ∨ c = 7 ∨ c = 8 := by omega
  rcases h with rfl | rfl | rfl | rfl | rfl | rfl | rfl | rfl <;> omega
theorem gpart_succ (E : Nat → Nat → Bool) (c k i : Nat) (h1 : 1 ≤ c) (h8 : c ≤ 8) :
    gpart E c (k + 1) i = if i = k / c * 8 + k % c then bitI (E (k / c) (k % c)) else gpart E c k i := by
  have hp := place c k i h1 h8
  unfold gpart
  by_cases h : i = k / c * 8 + k % c
  · have h2 := hp.2 h
    have h3 : i / 8 = k / c ∧ i % 8 = k % c := by
      have : k % c < 8 := Nat.lt_of_lt_of_le (Nat.mod_lt _ h1) h8
      omega
    rw [if_pos h, if_pos ⟨by omega, h2.2⟩, h3.1, h3.2]
  · rw [if_neg h]
    by_cases h4 : i / 8 * c + i % 8 < k ∧ i % 8 < c
    · rw [if_pos h4, if_pos ⟨by omega, h4.2⟩]
    · rw [if_neg h4, if_neg]
      intro h5
      apply h
      apply hp.1
      refine ⟨?_, h5.2⟩
      have : ¬ (i / 8 * c + i % 8 < k) := fun h6 => h4 ⟨h6, h5.2⟩
      omega
/-- when all bytes are read -/
theorem gpart_all (E : Nat → Nat → Bool) (r c x y : Nat) (hx : x < r) (hy : y < c) (h8 : c ≤ 8) : gpart E c (r * c) (8 * x + y) = bitI (E x y) := by
  unfold gpart
  have h1 : (8 * x + y) / 8 = x := by omega
  have h2 : (8 * x + y) % 8 = y := by omega
  rw [h1, h2, if_pos]
  refine ⟨?_, hy⟩
  have : (x + 1) * c ≤ r * c := Nat.mul_le_mul_right c hx
  rw [Nat.succ_mul] at this
  omega
/-- beyond the matrix -/
theorem gpart_none (E : Nat → Nat → Bool) (r c x y : Nat) (hy8 : y < 8) (h : r ≤ x ∨ c ≤ y) : gpart E c (r * c) (8 * x + y) = 0 := by
  unfold gpart
  have h1 : (8 * x + y) / 8 = x := by omega
  have h2 : (8 * x + y) % 8 = y := by omega
  rw [h1, h2, if_neg]
  rintro ⟨h3, h4⟩
  rcases h with h | h
  · have : r * c ≤ x * c := Nat.mul_le_mul_right c h
    omega
  · omega
theorem div_lt_of {k r c : Nat} (h : k < r * c) (hr : r ≤ 8) : k / c < 8 := by
  have : k / c < r := Nat.div_lt_of_lt_mul (by rw [Nat.mul_comm]; exact h)
  omega
theorem mod_lt_of {k c : Nat} (hc : 1 ≤ c) (h8 : c ≤ 8) : k % c < 8 := Nat.lt_of_lt_of_le (Nat.mod_lt _ hc) h8
end Go.Proofs.YtemmagkkigdhjaaGreatDoor.GridPlain

/-
  The contract of impl.gridOf.
-/
namespace Go.Proofs.YtemmagkkigdhjaaGreatDoor.Grid
open Go.RowKit Go.Proofs.YtemmagkkigdhjaaGreatDoor.Plain Go.Proofs.YtemmagkkigdhjaaGreatDoor.Base Go.Proofs.YtemmagkkigdhjaaGreatDoor.Valid Go.Proofs.YtemmagkkigdhjaaGreatDoor.Law Go.Proofs.YtemmagkkigdhjaaGreatDoor.GridPlain
set_option linter.unusedVariables false

/-- the entries of a grid as values, eight a line -/
def gv (f : Nat → Int) : List Value := (List.range 64).map fun i => .int .i64 (f i)
/-- a grid's cells -/
def gcells (r c : Int) (f : Nat → Int) : Array Value := (Value.int .i64 r :: Value.int .i64 c :: gv f).toArray
theorem gsize (r c : Int) (f : Nat → Int) : (gcells r c f).size = 66 := by simp [gcells, gv]
theorem gone (r c : Int) (f : Nat → Int) : (gcells r c f).all (·.oneCell') = true := by
  rw [Array.all_eq_true]
  intro i hi
  have h66 : i < 66 := by rw [gsize] at hi; exact hi
  match i, h66 with
  | 0, _ => rfl
  | 1, _ => rfl
  | n + 2, h => simp [gcells, gv, Value.oneCell']
theorem gzero : Tryz.zeroCells71 = gcells 0 0 (fun _ => 0) := by kernel_rfl
theorem ginfo : (Tryz.prog.info? 71).map (·.size) = some 66 := by kernel_rfl
theorem ginfo' (r c : Int) (f : Nat → Int) : (Tryz.prog.info? 71).map (·.size) = some (gcells r c f).size := by rw [gsize]; exact ginfo

/-- three new blocks, behind a call that leaves them alone -/
theorem blocks3 {w w1 : World} {o1 o2 o3 : Obj} (hb : Below (((w.alloc o1).alloc o2).alloc o3).heap.size (((w.alloc o1).alloc o2).alloc o3) w1) :
    w1.heap[w.heap.size]? = some o1 ∧ w1.heap[w.heap.size + 1]? = some o2 ∧ w1.heap[w.heap.size + 2]? = some o3 ∧ Below w.heap.size w w1 ∧ w.heap.size + 3 ≤ w1.heap.size := by
  have hs : (((w.alloc o1).alloc o2).alloc o3).heap.size = w.heap.size + 3 := by simp
  have h1 : (((w.alloc o1).alloc o2).alloc o3).heap[w.heap.size]? = some o1 := by
    rw [Below.heap_alloc _ _ _ (by simp; omega), Below.heap_alloc _ _ _ (by simp)]
    exact heap_alloc_new w o1
  have h2 : (((w.alloc o1).alloc o2).alloc o3).heap[w.heap.size + 1]? = some o2 := by
    rw [Below.heap_alloc _ _ _ (by simp)]
    have := heap_alloc_new (w.alloc o1) o2
    rwa [World.size_alloc] at this
  have h3 : (((w.alloc o1).alloc o2).alloc o3).heap[w.heap.size + 2]? = some o3 := by
    have := heap_alloc_new ((w.alloc o1).alloc o2) o3
    rwa [World.size_alloc, World.size_alloc] at this
  refine ⟨(hb.block _ (by omega)).trans h1, (hb.block _ (by omega)).trans h2, (hb.block _ (by omega)).trans h3, ?_, by have := hb.size; omega⟩
  exact ((((Below.refl w.heap.size w).alloc (Nat.le_refl _) _).alloc (by simp) _).alloc (by simp; omega) _).trans (hb.mono (by omega))

theorem setRow_at {w : World} {g : Nat} {t : TypeId} {cs : Array Value} (h : w.heap[g]? = some (.cells cs t (0, 0))) (cs' : Array Value) : (w.setRow g cs').heap[g]? = some (.cells cs' t (0, 0)) := by
  simp [World.setRow, Array.getElem?_modify, h]
theorem below_setRow {w w1 : World} {g : Nat} (h : Below w.heap.size w w1) (hg : w.heap.size ≤ g) (cs : Array Value) : Below w.heap.size w (w1.setRow g cs) :=
  h.trans ⟨rfl, rfl, rfl, by simp, fun k hk => by simp only [World.setRow, Array.getElem?_modify]; rw [if_neg (by omega)]⟩
/-- block g holds these cells, none frozen -/
def Blk (w : World) (g : Nat) (t : TypeId) (cs : Array Value) : Prop := w.heap[g]? = some (.cells cs t (0, 0))

set_option maxHeartbeats 1000000 in
set_option maxRecDepth 100000 in
theorem grid_no (r c : Int) (s : ByteArray) (hs : s.size ≤ maxLen) (hv : Hid (validB r c s = false)) (w : World) :
    Calls Tryz.prog 38 #[mat r c s] w fun e w' => e = .returned (.agg (gcells 0 0 (fun _ => 0))) ∧ Below w.heap.size w w' := by
  go_enter Tryz.func38, Tryz.ntmps38
  go_wp2_with fail
  refine (impl_valid r c s hs _).mono ?_
  rintro e w1 ⟨rfl, hb1⟩
  rw [hv.out]
  rw [gzero] at hb1
  obtain ⟨b0, b1, b2, hbel, hz⟩ := blocks3 hb1
  have HB := Lib.hid hbel
  have B1 := Lib.hid b1
  have B2 := Lib.hid b2
  clear hb1 b0 b1 b2 hbel
  go_wp2_with (first | (have X := B2.out; refine wpList_load_row rfl 71 (.tmp 3) rfl (w.heap.size + 2) rfl 71 _ (0, 0) _ X Tryz.underlying71 rfl (ginfo' _ _ _) ?_; clear X) | (have X := B1.out; refine wpList_store_row rfl 71 (.tmp 2) (.tmp 8) rfl (w.heap.size + 1) _ rfl rfl 71 _ X (ginfo' _ _ _) rfl (gone _ _ _) ?_; clear X))
  refine bodyPost_ret (v := .agg (gcells 0 0 (fun _ => 0))) (results_cell_row Tryz.results38 _ _ (w.heap.size + 1) 71 _ (0, 0) _ rfl (setRow_at B1.out _) Tryz.underlying71 rfl (ginfo' _ _ _)) rfl ⟨rfl, below_setRow HB.out (by omega) _⟩

/-- what holds while the bytes are read: so many are -/
def Inv (w wr : World) (r c : Int) (s : ByteArray) (f : Nat → Int) : Prop :=
  wr.heap[w.heap.size]? = some (.cells #[.int .i64 r, .int .i64 c, .string s] 24 (0, 0)) ∧ wr.heap[w.heap.size + 1]? = some (.cells (gcells 0 0 (fun _ => 0)) 71 (0, 0)) ∧
    wr.heap[w.heap.size + 2]? = some (.cells (gcells r c f) 71 (0, 0)) ∧ Below w.heap.size w wr ∧ w.heap.size + 3 ≤ wr.heap.size

theorem gset (r c : Int) (f g : Nat → Int) (j : Nat) (v : Int) (hj : j < 64) (h : ∀ i, g i = if i = j then v else f i) : (gcells r c f).setIfInBounds (2 + j) (.int .i64 v) = gcells r c g := by
  apply Array.ext
  · simp [gsize]
  · intro i h1 h2
    have h66 : i < 66 := by rw [gsize] at h2; exact h2
    rw [Array.getElem_setIfInBounds (by simpa using h1)]
    match i, h66 with
    | 0, _ => rw [if_neg (by omega)]; rfl
    | 1, _ => rw [if_neg (by omega)]; rfl
    | n + 2, hn =>
      simp only [gcells, gv, List.getElem_toArray, List.getElem_cons_succ, List.getElem_map, List.getElem_range, h n]
      by_cases e : n = j
      · rw [if_pos (by omega), if_pos e]
      · rw [if_neg (by omega), if_neg e]
theorem gat (r c : Int) (f : Nat → Int) (p q : Nat) (hp : p < 8) (hq : q < 8) : (gcells r c f)[2 + p * 8 + q]? = some (.int .i64 (f (p * 8 + q))) := by
  rw [show 2 + p * 8 + q = (p * 8 + q) + 2 by omega]
  have h : p * 8 + q < 64 := by omega
  simp only [gcells, gv, List.getElem?_toArray, List.getElem?_cons_succ, List.getElem?_map, List.getElem?_range h]
  rfl
theorem inv_set {w w1 : World} {r c : Int} {s : ByteArray} {cs : Array Value} (h0 : w1.heap[w.heap.size]? = some (.cells #[.int .i64 r, .int .i64 c, .string s] 24 (0, 0)))
    (h1 : w1.heap[w.heap.size + 1]? = some (.cells (gcells 0 0 (fun _ => 0)) 71 (0, 0))) (h2 : w1.heap[w.heap.size + 2]? = some (.cells cs 71 (0, 0)))
    (hb : Below w.heap.size w w1) (i : Nat) (v : Value) :
    (w1.setCell ⟨w.heap.size + 1 + 1, i, none⟩ v).heap[w.heap.size]? = some (.cells #[.int .i64 r, .int .i64 c, .string s] 24 (0, 0)) ∧
    (w1.setCell ⟨w.heap.size + 1 + 1, i, none⟩ v).heap[w.heap.size + 1]? = some (.cells (gcells 0 0 (fun _ => 0)) 71 (0, 0)) ∧
    (w1.setCell ⟨w.heap.size + 1 + 1, i, none⟩ v).heap[w.heap.size + 2]? = some (.cells (cs.setIfInBounds i v) 71 (0, 0)) ∧ Below w.heap.size w (w1.setCell ⟨w.heap.size + 1 + 1, i, none⟩ v) :=
  ⟨(heap_setCell_other _ _ _ _ (by simp; omega)).trans h0, (heap_setCell_other _ _ _ _ (by simp)).trans h1, heap_setCell_same _ _ _ _ _ _ h2, hb.setCell (by simp; omega) _⟩
theorem inv_start {w w1 : World} {r c : Int} {s : ByteArray} (h0 : w1.heap[w.heap.size]? = some (.cells #[.int .i64 r, .int .i64 c, .string s] 24 (0, 0)))
    (h1 : w1.heap[w.heap.size + 1]? = some (.cells (gcells 0 0 (fun _ => 0)) 71 (0, 0))) (h2 : w1.heap[w.heap.size + 2]? = some (.cells (gcells 0 0 (fun _ => 0)) 71 (0, 0)))
    (hb : Below w.heap.size w w1) (hz : w.heap.size + 3 ≤ w1.heap.size) : Inv w ((w1.setCell ⟨w.heap.size + 1 + 1, 0, none⟩ (.int .i64 r)).setCell ⟨w.heap.size + 1 + 1, 1, none⟩ (.int .i64 c)).drew r c s (fun _ => 0) := by
  obtain ⟨a0, a1, a2, a3⟩ := inv_set h0 h1 h2 hb 0 (.int .i64 r)
  obtain ⟨b0, b1, b2, b3⟩ := inv_set a0 a1 a2 a3 1 (.int .i64 c)
  exact ⟨b0, b1, b2, b3.drew, by show w.heap.size + 3 ≤ ((w1.setCell _ _).setCell _ _).heap.size; simpa using hz⟩
theorem inv_step {w w1 : World} {r c : Int} {s : ByteArray} {f g : Nat → Int} {p q : Nat} {v : Int} (h : Inv w w1 r c s f) (hp : p < 8) (hq : q < 8) (hg : ∀ i, g i = if i = p * 8 + q then v else f i) :
    Inv w (w1.setCell ⟨w.heap.size + 1 + 1, 2 + p * 8 + q, none⟩ (.int .i64 v)).drew r c s g := by
  obtain ⟨h0, h1, h2, hb, hz⟩ := h
  obtain ⟨a0, a1, a2, a3⟩ := inv_set h0 h1 h2 hb (2 + p * 8 + q) (.int .i64 v)
  rw [show 2 + p * 8 + q = 2 + (p * 8 + q) by omega] at a0 a1 a2 a3 ⊢
  rw [gset r c f g (p * 8 + q) v (by omega) hg] at a2
  exact ⟨a0, a1, a2, a3.drew, by show w.heap.size + 3 ≤ (w1.setCell _ _).heap.size; simpa using hz⟩
theorem quo_nat (k c : Nat) (hc : 1 ≤ c) (hk : k ≤ 64) : IntKind.i64.wrap ((k : Int) / (c : Int)) = ((k / c : Nat) : Int) := by
  rw [← Int.natCast_ediv]
  have := Nat.div_le_self k c
  exact IntWalk.i64_in _ ⟨by have := Int.natCast_nonneg (k / c); omega, by omega⟩
theorem rem_nat (k c : Nat) : (k : Int).tmod (c : Int) = ((k % c : Nat) : Int) := rfl
theorem byte_at (E : Nat → Nat → Bool) (r c k : Nat) (s : ByteArray) (h : s = str (rowsB E r c)) (hk : k < r * c) (hlt : k < s.size) : s[k].toNat = if E (k / c) (k % c) then 49 else 48 := by
  subst h
  rw [str_get _ k _ (rowsB_get E r c k hk) hlt]
  unfold dig
  cases E (k / c) (k % c) <;> rfl

set_option maxHeartbeats 2000000 in
set_option maxRecDepth 100000 in
theorem grid_yes (E : Nat → Nat → Bool) (r c : Nat) (hr : 1 ≤ r) (hr8 : r ≤ 8) (hc : 1 ≤ c) (hc8 : c ≤ 8) (s : ByteArray) (hE : Hid (s = str (rowsB E r c))) (hs : s.size ≤ maxLen) (hsz : s.size ≤ 64) (hv : Hid (validB r c s = true)) (w : World) :
    Calls Tryz.prog 38 #[mat r c s] w fun e w' => e = .returned (.agg (gcells r c (gpart E c (r * c)))) ∧ Below w.heap.size w w' := by
  have HS : Hid (s.size = r * c) := by rw [hE.out, str_size, rowsB_length]; rfl
  go_enter Tryz.func38, Tryz.ntmps38
  go_wp2_with fail
  refine (impl_valid r c s hs _).mono ?_
  rintro e w1 ⟨rfl, hb1⟩
  rw [hv.out]
  rw [gzero] at hb1
  obtain ⟨b0, b1, b2, hbel, hz⟩ := blocks3 hb1
  have H0 := Lib.hid b0
  have H1 := Lib.hid b1
  have H2 := Lib.hid b2
  have HB := Lib.hid hbel
  have c0 : w1.cell? ⟨w.heap.size, 0, none⟩ = some (.int .i64 (r : Int)) := cell_of_row _ _ 0 _ _ _ b0
  have c1 : w1.cell? ⟨w.heap.size, 1, none⟩ = some (.int .i64 (c : Int)) := cell_of_row _ _ 1 _ _ _ b0
  have c2 : w1.cell? ⟨w.heap.size, 2, none⟩ = some (.string s) := cell_of_row _ _ 2 _ _ _ b0
  have g0 : w1.cell? ⟨w.heap.size + 1 + 1, 0, none⟩ = some (.int .i64 0) := cell_of_row _ _ 0 _ _ _ b2
  have g1 : w1.cell? ⟨w.heap.size + 1 + 1, 1, none⟩ = some (.int .i64 0) := cell_of_row _ _ 1 _ _ _ b2
  have f0 : w1.frozen? ⟨w.heap.size + 1 + 1, 0, none⟩ = false := frozen_of_row _ _ 0 _ _ b2
  have f1 : w1.frozen? ⟨w.heap.size + 1 + 1, 1, none⟩ = false := frozen_of_row _ _ 1 _ _ b2
  have HZ := Lib.hid hz
  clear hb1 b0 b1 b2 hbel hz
  go_wp2_with fail
  go_region
  go_wp2_with fail
  have HI := Lib.hid (inv_start H0.out H1.out H2.out HB.out HZ.out)
  rw [← gpart_zero E c] at HI
  clear c0 c1 c2 g0 g1 f0 f1 H0 H1 H2 HB HZ
  go_loopw [18] (fun i wr => ∃ k : Nat, k ≤ s.size ∧ i = .int .i64 (k : Int) ∧ Inv w wr r c s (gpart E c k)) (fun i _ => s.size - (intOf i).toNat)
  case atStart => exact ⟨0, Nat.zero_le _, rfl, HI.out⟩
  case round =>
    obtain ⟨k, hk, rfl, hinv⟩ := hrel
    clear HI
    have HI := Lib.hid hinv
    obtain ⟨i0, i1, i2, ib, iz⟩ := hinv
    have c0 : wr.cell? ⟨w.heap.size, 0, none⟩ = some (.int .i64 (r : Int)) := cell_of_row _ _ 0 _ _ _ i0
    have c1 : wr.cell? ⟨w.heap.size, 1, none⟩ = some (.int .i64 (c : Int)) := cell_of_row _ _ 1 _ _ _ i0
    have c2 : wr.cell? ⟨w.heap.size, 2, none⟩ = some (.string s) := cell_of_row _ _ 2 _ _ _ i0
    have H1 := Lib.hid i1
    have H2 := Lib.hid i2
    have HB := Lib.hid ib
    clear i0 i1 i2 ib iz
    by_cases hlt : k < s.size
    · have hkr : k < r * c := by rw [← HS.out]; exact hlt
      have q8 := div_lt_of hkr hr8
      have m8 := mod_lt_of (k := k) hc hc8
      have hc0 : ¬ (c = 0) := by omega
      have hq := quo_nat k c hc (by omega)
      have hm := rem_nat k c
      have hby := byte_at E r c k s hE.out hkr hlt
      have HP : Hid (∀ i, gpart E c (k + 1) i = if i = k / c * 8 + k % c then bitI (E (k / c) (k % c)) else gpart E c k i) := fun i => gpart_succ E c k i hc hc8
      generalize k / c = p at hq q8 hby HP
      generalize k % c = q at hm m8 hby HP
      obtain ⟨b, hb⟩ : ∃ b, E p q = b := ⟨_, rfl⟩
      rw [hb] at hby HP
      clear hb hkr
      have p8 : (p : Int) < 8 := by omega
      have m8' : (q : Int) < 8 := by omega
      have p0 : (0 : Int) ≤ (p : Int) := Int.natCast_nonneg p
      have m0 : (0 : Int) ≤ (q : Int) := Int.natCast_nonneg q
      have cg : wr.cell? ⟨w.heap.size + 1 + 1, 2 + p * 8 + q, none⟩ = some (.int .i64 (gpart E c k (p * 8 + q))) := (cell_of_row _ _ _ _ _ _ H2.out).trans (gat _ _ _ _ _ q8 m8)
      have fg : wr.frozen? ⟨w.heap.size + 1 + 1, 2 + p * 8 + q, none⟩ = false := frozen_of_row _ _ _ _ _ H2.out
      clear H1 H2 HB
      cases b
      · simp only [Bool.false_eq_true, if_false] at hby
        go_wp2_with fail
        go_still_tail 17, (by kernel_rfl)
        change wpList _ _ _ _ _ wr.drew
        go_wp2_with fail
        go_roundw
        case rel => exact ⟨k + 1, by omega, by go_num, inv_step (v := bitI false) HI.out q8 m8 HP.out⟩
        case measure => simp [intOf]; omega
      · simp only [if_true] at hby
        go_wp2_with fail
        go_still_tail 17, (by kernel_rfl)
        change wpList _ _ _ _ _ wr.drew
        go_wp2_with fail
        go_roundw
        case rel => exact ⟨k + 1, by omega, by go_num, inv_step (v := bitI true) HI.out q8 m8 HP.out⟩
        case measure => simp [intOf]; omega
    · obtain rfl : k = s.size := by omega
      have hkc := HS.out
      have HK : Hid (gpart E c s.size = gpart E c (r * c)) := by rw [hkc]; rfl
      clear hkc c0 c1 c2
      go_wp2_with (first | (have X := H2.out; refine wpList_load_row rfl 71 (.tmp 3) rfl (w.heap.size + 2) rfl 71 _ (0, 0) _ X Tryz.underlying71 rfl (ginfo' _ _ _) ?_; clear X) | (have X := H1.out; refine wpList_store_row rfl 71 (.tmp 2) (.tmp 39) rfl (w.heap.size + 1) _ rfl rfl 71 _ X (ginfo' _ _ _) rfl (gone _ _ _) ?_; clear X))
      refine bodyPost_ret (v := .agg (gcells r c (gpart E c s.size))) (results_cell_row Tryz.results38 _ _ (w.heap.size + 1) 71 _ (0, 0) _ rfl (setRow_at H1.out _) Tryz.underlying71 rfl (ginfo' _ _ _)) rfl ⟨by rw [HK.out], below_setRow HB.out (by omega) _⟩
end Go.Proofs.YtemmagkkigdhjaaGreatDoor.Grid

