/-
  Texts of one seat, joined: Grid, Entry, JoinB, Ops.
-/
import Derived.Test.YtbbgibbpeibhiaaGreatDoorJn13
import Derived.Laws.Rows
import Derived.Laws.Tables
import Derived.StillTailTactics
import Derived.Test.YtbbgibbpeibhiaaGreatDoorJn10
/-
  The contract of impl.gridOf.
-/
namespace Go.Proofs.YtbbgibbpeibhiaaGreatDoor.Grid
open Go.RowKit Go.Proofs.YtbbgibbpeibhiaaGreatDoor.Plain Go.Proofs.YtbbgibbpeibhiaaGreatDoor.Base Go.Proofs.YtbbgibbpeibhiaaGreatDoor.Valid Go.Proofs.YtbbgibbpeibhiaaGreatDoor.Law Go.Proofs.YtbbgibbpeibhiaaGreatDoor.GridPlain
set_option linter.unusedVariables false

/-- the entries of a grid as values, eight a line -/
def gv (f : Nat → Int) : List Value := (List.range 64).map fun i => .int .i64 (f i)
/-- a grid's cells -/
def gcells (r c : Int) (f : Nat → Int) : Array Value := (Value.int .i64 r :: Value.int .i64 c :: gv f).toArray
theorem gsize (r c : Int) (f : Nat → Int) : (gcells r c f).size = 66 := by simp [gcells, gv]
theorem gone (r c : Int) (f : Nat → Int) : (gcells r c f).all (·.oneCell') = true := by
  rw [Array.all_eq_true]
  intro i hi
  have h66 : i < 66 := by rw [gsize] at hi; exact hi
  match i, h66 with
  | 0, _ => rfl
  | 1, _ => rfl
  | n + 2, h => simp [gcells, gv, Value.oneCell']
theorem gzero : Tryz.zeroCells109 = gcells 0 0 (fun _ => 0) := by kernel_rfl
theorem ginfo : (Tryz.prog.info? 109).map (·.size) = some 66 := by kernel_rfl
theorem ginfo' (r c : Int) (f : Nat → Int) : (Tryz.prog.info? 109).map (·.size) = some (gcells r c f).size := by rw [gsize]; exact ginfo

/-- three new blocks, behind a call that leaves them alone -/
theorem blocks3 {w w1 : World} {o1 o2 o3 : Obj} (hb : Below (((w.alloc o1).alloc o2).alloc o3).heap.size (((w.alloc o1).alloc o2).alloc o3) w1) :
    w1.heap[w.heap.size]? = some o1 ∧ w1.heap[w.heap.size + 1]? = some o2 ∧ w1.heap[w.heap.size + 2]? = some o3 ∧ Below w.heap.size w w1 ∧ w.heap.size + 3 ≤ w1.heap.size := by
  have hs : (((w.alloc o1).alloc o2).alloc o3).heap.size = w.heap.size + 3 := by simp
  have h1 : (((w.alloc o1).alloc o2).alloc o3).heap[w.heap.size]? = some o1 := by
    rw [Below.heap_alloc _ _ _ (by simp; omega), Below.heap_alloc _ _ _ (by simp)]
    exact heap_alloc_new w o1
  have h2 : (((w.alloc o1).alloc o2).alloc o3).heap[w.heap.size + 1]? = some o2 := by
    rw [Below.heap_alloc _ _ _ (by simp)]
    have := heap_alloc_new (w.alloc o1) o2
    rwa [World.size_alloc] at this
  have h3 : (((w.alloc o1).alloc o2).alloc o3).heap[w.heap.size + 2]? = some o3 := by
    have := heap_alloc_new ((w.alloc o1).alloc o2) o3
    rwa [World.size_alloc, World.size_alloc] at this
  refine ⟨(hb.block _ (by omega)).trans h1, (hb.block _ (by omega)).trans h2, (hb.block _ (by omega)).trans h3, ?_, by have := hb.size; omega⟩
  exact ((((Below.refl w.heap.size w).alloc (Nat.le_refl _) _).alloc (by simp) _).alloc (by simp; omega) _).trans (hb.mono (by omega))

theorem setRow_at {w : World} {g : Nat} {t : TypeId} {cs : Array Value} (h : w.heap[g]? = some (.cells cs t (0, 0))) (cs' : Array Value) : (w.setRow g cs').heap[g]? = some (.cells cs' t (0, 0)) := by
  simp [World.setRow, Array.getElem?_modify, h]
theorem below_setRow {w w1 : World} {g : Nat} (h : Below w.heap.size w w1) (hg : w.heap.size ≤ g) (cs : Array Value) : Below w.heap.size w (w1.setRow g cs) :=
  h.trans ⟨rfl, rfl, rfl, by simp, fun k hk => by simp only [World.setRow, Array.getElem?_modify]; rw [if_neg (by omega)]⟩
/-- block g holds these cells, none frozen -/
def Blk (w : World) (g : Nat) (t : TypeId) (cs : Array Value) : Prop := w.heap[g]? = some (.cells cs t (0, 0))

set_option maxHeartbeats 1000000 in
set_option maxRecDepth 100000 in
theorem grid_no (r c : Int) (s : ByteArray) (hs : s.size ≤ maxLen) (hv : Hid (validB r c s = false)) (w : World) :
    Calls Tryz.prog 58 #[mat r c s] w fun e w' => e = .returned (.agg (gcells 0 0 (fun _ => 0))) ∧ Below w.heap.size w w' := by
  go_enter Tryz.func58, Tryz.ntmps58
  go_wp2_with fail
  refine (impl_valid r c s hs _).mono ?_
  rintro e w1 ⟨rfl, hb1⟩
  rw [hv.out]
  rw [gzero] at hb1
  obtain ⟨b0, b1, b2, hbel, hz⟩ := blocks3 hb1
  have HB := Lib.hid hbel
  have B1 := Lib.hid b1
  have B2 := Lib.hid b2
  clear hb1 b0 b1 b2 hbel
  go_wp2_with (first | (have X := B2.out; refine wpList_load_row rfl 109 (.tmp 3) rfl (w.heap.size + 2) rfl 109 _ (0, 0) _ X Tryz.underlying109 rfl (ginfo' _ _ _) ?_; clear X) | (have X := B1.out; refine wpList_store_row rfl 109 (.tmp 2) (.tmp 8) rfl (w.heap.size + 1) _ rfl rfl 109 _ X (ginfo' _ _ _) rfl (gone _ _ _) ?_; clear X))
  refine bodyPost_ret (v := .agg (gcells 0 0 (fun _ => 0))) (results_cell_row Tryz.results58 _ _ (w.heap.size + 1) 109 _ (0, 0) _ rfl (setRow_at B1.out _) Tryz.underlying109 rfl (ginfo' _ _ _)) rfl ⟨rfl, below_setRow HB.out (by omega) _⟩

/-- what holds while the bytes are read: so many are -/
def Inv (w wr : World) (r c : Int) (s : ByteArray) (f : Nat → Int) : Prop :=
  wr.heap[w.heap.size]? = some (.cells #[.int .i64 r, .int .i64 c, .string s] 28 (0, 0)) ∧ wr.heap[w.heap.size + 1]? = some (.cells (gcells 0 0 (fun _ => 0)) 109 (0, 0)) ∧
    wr.heap[w.heap.size + 2]? = some (.cells (gcells r c f) 109 (0, 0)) ∧ Below w.heap.size w wr ∧ w.heap.size + 3 ≤ wr.heap.size

theorem gset (r c : Int) (f g : Nat → Int) (j : Nat) (v : Int) (hj : j < 64) (h : ∀ i, g i = if i = j then v else f i) : (gcells r c f).setIfInBounds (2 + j) (.int .i64 v) = gcells r c g := by
  apply Array.ext
  · simp [gsize]
  · intro i h1 h2
    have h66 : i < 66 := by rw [gsize] at h2; exact h2
    rw [Array.getElem_setIfInBounds (by simpa using h1)]
    match i, h66 with
    | 0, _ => rw [if_neg (by omega)]; rfl
    | 1, _ => rw [if_neg (by omega)]; rfl
    | n + 2, hn =>
      simp only [gcells, gv, List.getElem_toArray, List.getElem_cons_succ, List.getElem_map, List.getElem_range, h n]
      by_cases e : n = j
      · rw [if_pos (by omega), if_pos e]
      · rw [if_neg (by omega), if_neg e]
theorem gat (r c : Int) (f : Nat → Int) (p q : Nat) (hp : p < 8) (hq : q < 8) : (gcells r c f)[2 + p * 8 + q]? = some (.int .i64 (f (p * 8 + q))) := by
  rw [show 2 + p * 8 + q = (p * 8 + q) + 2 by omega]
  have h : p * 8 + q < 64 := by omega
  simp only [gcells, gv, List.getElem?_toArray, List.getElem?_cons_succ, List.getElem?_map, List.getElem?_range h]
  rfl
theorem inv_set {w w1 : World} {r c : Int} {s : ByteArray} {cs : Array Value} (h0 : w1.heap[w.heap.size]? = some (.cells #[.int .i64 r, .int .i64 c, .string s] 28 (0, 0)))
    (h1 : w1.heap[w.heap.size + 1]? = some (.cells (gcells 0 0 (fun _ => 0)) 109 (0, 0))) (h2 : w1.heap[w.heap.size + 2]? = some (.cells cs 109 (0, 0)))
    (hb : Below w.heap.size w w1) (i : Nat) (v : Value) :
    (w1.setCell ⟨w.heap.size + 1 + 1, i, none⟩ v).heap[w.heap.size]? = some (.cells #[.int .i64 r, .int .i64 c, .string s] 28 (0, 0)) ∧
    (w1.setCell ⟨w.heap.size + 1 + 1, i, none⟩ v).heap[w.heap.size + 1]? = some (.cells (gcells 0 0 (fun _ => 0)) 109 (0, 0)) ∧
    (w1.setCell ⟨w.heap.size + 1 + 1, i, none⟩ v).heap[w.heap.size + 2]? = some (.cells (cs.setIfInBounds i v) 109 (0, 0)) ∧ Below w.heap.size w (w1.setCell ⟨w.heap.size + 1 + 1, i, none⟩ v) :=
  ⟨(heap_setCell_other _ _ _ _ (by simp; omega)).trans h0, (heap_setCell_other _ _ _ _ (by simp)).trans h1, heap_setCell_same _ _ _ _ _ _ h2, hb.setCell (by simp; omega) _⟩
theorem inv_start {w w1 : World} {r c : Int} {s : ByteArray} (h0 : w1.heap[w.heap.size]? = some (.cells #[.int .i64 r, .int .i64 c, .string s] 28 (0, 0)))
    (h1 : w1.heap[w.heap.size + 1]? = some (.cells (gcells 0 0 (fun _ => 0)) 109 (0, 0))) (h2 : w1.heap[w.heap.size + 2]? = some (.cells (gcells 0 0 (fun _ => 0)) 109 (0, 0)))
    (hb : Below w.heap.size w w1) (hz : w.heap.size + 3 ≤ w1.heap.size) : Inv w ((w1.setCell ⟨w.heap.size + 1 + 1, 0, none⟩ (.int .i64 r)).setCell ⟨w.heap.size + 1 + 1, 1, none⟩ (.int .i64 c)).drew r c s (fun _ => 0) := by
  obtain ⟨a0, a1, a2, a3⟩ := inv_set h0 h1 h2 hb 0 (.int .i64 r)
  obtain ⟨b0, b1, b2, b3⟩ := inv_set a0 a1 a2 a3 1 (.int .i64 c)
  exact ⟨b0, b1, b2, b3.drew, by show w.heap.size + 3 ≤ ((w1.setCell _ _).setCell _ _).heap.size; simpa using hz⟩
theorem inv_step {w w1 : World} {r c : Int} {s : ByteArray} {f g : Nat → Int} {p q : Nat} {v : Int} (h : Inv w w1 r c s f) (hp : p < 8) (hq : q < 8) (hg : ∀ i, g i = if i = p * 8 + q then v else f i) :
    Inv w (w1.setCell ⟨w.heap.size + 1 + 1, 2 + p * 8 + q, none⟩ (.int .i64 v)).drew r c s g := by
  obtain ⟨h0, h1, h2, hb, hz⟩ := h
  obtain ⟨a0, a1, a2, a3⟩ := inv_set h0 h1 h2 hb (2 + p * 8 + q) (.int .i64 v)
  rw [show 2 + p * 8 + q = 2 + (p * 8 + q) by omega] at a0 a1 a2 a3 ⊢
  rw [gset r c f g (p * 8 + q) v (by omega) hg] at a2
  exact ⟨a0, a1, a2, a3.drew, by show w.heap.size + 3 ≤ (w1.setCell _ _).heap.size; simpa using hz⟩
theorem quo_nat (k c : Nat) (hc : 1 ≤ c) (hk : k ≤ 64) : IntKind.i64.wrap ((k : Int) / (c : Int)) = ((k / c : Nat) : Int) := by
  rw [← Int.natCast_ediv]
  have := Nat.div_le_self k c
  exact IntWalk.i64_in _ ⟨by have := Int.natCast_nonneg (k / c); omega, by omega⟩
theorem rem_nat (k c : Nat) : (k : Int).tmod (c : Int) = ((k % c : Nat) : Int) := rfl
theorem byte_at (E : Nat → Nat → Bool) (r c k : Nat) (s : ByteArray) (h : s = str (rowsB E r c)) (hk : k < r * c) (hlt : k < s.size) : s[k].toNat = if E (k / c) (k % c) then 49 else 48 := by
  subst h
  rw [str_get _ k _ (rowsB_get E r c k hk) hlt]
  unfold dig
  cases E (k / c) (k % c) <;> rfl

set_option maxHeartbeats 2000000 in
set_option maxRecDepth 100000 in
theorem grid_yes (E : Nat → Nat → Bool) (r c : Nat) (hr : 1 ≤ r) (hr8 : r ≤ 8) (hc : 1 ≤ c) (hc8 : c ≤ 8) (s : ByteArray) (hE : Hid (s = str (rowsB E r c))) (hs : s.size ≤ maxLen) (hsz : s.size ≤ 64) (hv : Hid (validB r c s = true)) (w : World) :
    Calls Tryz.prog 58 #[mat r c s] w fun e w' => e = .returned (.agg (gcells r c (gpart E c (r * c)))) ∧ Below w.heap.size w w' := by
  have HS : Hid (s.size = r * c) := by rw [hE.out, str_size, rowsB_length]; rfl
  go_enter Tryz.func58, Tryz.ntmps58
  go_wp2_with fail
  refine (impl_valid r c s hs _).mono ?_
  rintro e w1 ⟨rfl, hb1⟩
  rw [hv.out]
  rw [gzero] at hb1
  obtain ⟨b0, b1, b2, hbel, hz⟩ := blocks3 hb1
  have H0 := Lib.hid b0
  have H1 := Lib.hid b1
  have H2 := Lib.hid b2
  have HB := Lib.hid hbel
  have c0 : w1.cell? ⟨w.heap.size, 0, none⟩ = some (.int .i64 (r : Int)) := cell_of_row _ _ 0 _ _ _ b0
  have c1 : w1.cell? ⟨w.heap.size, 1, none⟩ = some (.int .i64 (c : Int)) := cell_of_row _ _ 1 _ _ _ b0
  have c2 : w1.cell? ⟨w.heap.size, 2, none⟩ = some (.string s) := cell_of_row _ _ 2 _ _ _ b0
  have g0 : w1.cell? ⟨w.heap.size + 1 + 1, 0, none⟩ = some (.int .i64 0) := cell_of_row _ _ 0 _ _ _ b2
  have g1 : w1.cell? ⟨w.heap.size + 1 + 1, 1, none⟩ = some (.int .i64 0) := cell_of_row _ _ 1 _ _ _ b2
  have f0 : w1.frozen? ⟨w.heap.size + 1 + 1, 0, none⟩ = false := frozen_of_row _ _ 0 _ _ b2
  have f1 : w1.frozen? ⟨w.heap.size + 1 + 1, 1, none⟩ = false := frozen_of_row _ _ 1 _ _ b2
  have HZ := Lib.hid hz
  clear hb1 b0 b1 b2 hbel hz
  go_wp2_with fail
  go_region
  go_wp2_with fail
  have HI := Lib.hid (inv_start H0.out H1.out H2.out HB.out HZ.out)
  rw [← gpart_zero E c] at HI
  clear c0 c1 c2 g0 g1 f0 f1 H0 H1 H2 HB HZ
  go_loopw [18] (fun i wr => ∃ k : Nat, k ≤ s.size ∧ i = .int .i64 (k : Int) ∧ Inv w wr r c s (gpart E c k)) (fun i _ => s.size - (intOf i).toNat)
  case atStart => exact ⟨0, Nat.zero_le _, rfl, HI.out⟩
  case round =>
    obtain ⟨k, hk, rfl, hinv⟩ := hrel
    clear HI
    have HI := Lib.hid hinv
    obtain ⟨i0, i1, i2, ib, iz⟩ := hinv
    have c0 : wr.cell? ⟨w.heap.size, 0, none⟩ = some (.int .i64 (r : Int)) := cell_of_row _ _ 0 _ _ _ i0
    have c1 : wr.cell? ⟨w.heap.size, 1, none⟩ = some (.int .i64 (c : Int)) := cell_of_row _ _ 1 _ _ _ i0
    have c2 : wr.cell? ⟨w.heap.size, 2, none⟩ = some (.string s) := cell_of_row _ _ 2 _ _ _ i0
    have H1 := Lib.hid i1
    have H2 := Lib.hid i2
    have HB := Lib.hid ib
    clear i0 i1 i2 ib iz
    by_cases hlt : k < s.size
    · have hkr : k < r * c := by rw [← HS.out]; exact hlt
      have q8 := div_lt_of hkr hr8
      have m8 := mod_lt_of (k := k) hc hc8
      have hc0 : ¬ (c = 0) := by omega
      have hq := quo_nat k c hc (by omega)
      have hm := rem_nat k c
      have hby := byte_at E r c k s hE.out hkr hlt
      have HP : Hid (∀ i, gpart E c (k + 1) i = if i = k / c * 8 + k % c then bitI (E (k / c) (k % c)) else gpart E c k i) := fun i => gpart_succ E c k i hc hc8
      generalize k / c = p at hq q8 hby HP
      generalize k % c = q at hm m8 hby HP
      obtain ⟨b, hb⟩ : ∃ b, E p q = b := ⟨_, rfl⟩
      rw [hb] at hby HP
      clear hb hkr
      have p8 : (p : Int) < 8 := by omega
      have m8' : (q : Int) < 8 := by omega
      have p0 : (0 : Int) ≤ (p : Int) := Int.natCast_nonneg p
      have m0 : (0 : Int) ≤ (q : Int) := Int.natCast_nonneg q
      have cg : wr.cell? ⟨w.heap.size + 1 + 1, 2 + p * 8 + q, none⟩ = some (.int .i64 (gpart E c k (p * 8 + q))) := (cell_of_row _ _ _ _ _ _ H2.out).trans (gat _ _ _ _ _ q8 m8)
      have fg : wr.frozen? ⟨w.heap.size + 1 + 1, 2 + p * 8 + q, none⟩ = false := frozen_of_row _ _ _ _ _ H2.out
      clear H1 H2 HB
      cases b
      · simp only [Bool.false_eq_true, if_false] at hby
        go_wp2_with fail
        go_still_tail 17, (by kernel_rfl)
        change wpList _ _ _ _ _ wr.drew
        go_wp2_with fail
        go_roundw
        case rel => exact ⟨k + 1, by omega, by go_num, inv_step (v := bitI false) HI.out q8 m8 HP.out⟩
        case measure => simp [intOf]; omega
      · simp only [if_true] at hby
        go_wp2_with fail
        go_still_tail 17, (by kernel_rfl)
        change wpList _ _ _ _ _ wr.drew
        go_wp2_with fail
        go_roundw
        case rel => exact ⟨k + 1, by omega, by go_num, inv_step (v := bitI true) HI.out q8 m8 HP.out⟩
        case measure => simp [intOf]; omega
    · obtain rfl : k = s.size := by omega
      have hkc := HS.out
      have HK : Hid (gpart E c s.size = gpart E c (r * c)) := by rw [hkc]; rfl
      clear hkc c0 c1 c2
      go_wp2_with (first | (have X := H2.out; refine wpList_load_row rfl 109 (.tmp 3) rfl (w.heap.size + 2) rfl 109 _ (0, 0) _ X Tryz.underlying109 rfl (ginfo' _ _ _) ?_; clear X) | (have X := H1.out; refine wpList_store_row rfl 109 (.tmp 2) (.tmp 39) rfl (w.heap.size + 1) _ rfl rfl 109 _ X (ginfo' _ _ _) rfl (gone _ _ _) ?_; clear X))
      refine bodyPost_ret (v := .agg (gcells r c (gpart E c s.size))) (results_cell_row Tryz.results58 _ _ (w.heap.size + 1) 109 _ (0, 0) _ rfl (setRow_at H1.out _) Tryz.underlying109 rfl (ginfo' _ _ _)) rfl ⟨by rw [HK.out], below_setRow HB.out (by omega) _⟩
end Go.Proofs.YtbbgibbpeibhiaaGreatDoor.Grid

/-
  Contracts of the grid's methods and of the reference's l1At.
-/
namespace Go.Proofs.YtbbgibbpeibhiaaGreatDoor.Entry
open Go.RowKit Go.Proofs.YtbbgibbpeibhiaaGreatDoor.Plain Go.Proofs.YtbbgibbpeibhiaaGreatDoor.Base Go.Proofs.YtbbgibbpeibhiaaGreatDoor.Valid Go.Proofs.YtbbgibbpeibhiaaGreatDoor.Law Go.Proofs.YtbbgibbpeibhiaaGreatDoor.GridPlain Go.Proofs.YtbbgibbpeibhiaaGreatDoor.Grid
set_option linter.unusedVariables false

set_option maxHeartbeats 400000 in
theorem index_true (i n : Int) (h1 : 0 ≤ i) (h2 : i < n) (w : World) :
    Calls Tryz.prog 56 #[.int .i64 i, .int .i64 n] w fun e w' => e = .returned (.bool true) ∧ w = w' := by
  go_enter Tryz.func56, Tryz.ntmps56
  go_wp2
  go_ret
  exact ⟨rfl, rfl⟩
set_option maxHeartbeats 400000 in
theorem index_false (i n : Int) (h : i < 0 ∨ n ≤ i) (w : World) :
    Calls Tryz.prog 56 #[.int .i64 i, .int .i64 n] w fun e w' => e = .returned (.bool false) ∧ w = w' := by
  by_cases h0 : 0 ≤ i
  · have h2 : n ≤ i := by omega
    clear h
    go_enter Tryz.func56, Tryz.ntmps56
    go_wp2
    go_ret
    exact ⟨by simp; omega, rfl⟩
  · have h2 : i < 0 := by omega
    clear h h0
    go_enter Tryz.func56, Tryz.ntmps56
    go_wp2
    go_ret
    exact ⟨rfl, rfl⟩

/-- a grid's value -/
abbrev gval (r c : Int) (f : Nat → Int) : Value := .agg (gcells r c f)

set_option maxHeartbeats 1000000 in
theorem entry_any (r c : Int) (f : Nat → Int) (x y : Nat) (hx : x < 8) (hy : y < 8) (w : World) :
    Calls Tryz.prog 61 #[gval r c f, .int .i64 (x : Int), .int .i64 (y : Int)] w fun e w' => e = .returned (.int .i64 (f (8 * x + y))) ∧ Below w.heap.size w w' := by
  have hx' : (x : Int) < 8 := by omega
  have hy' : (y : Int) < 8 := by omega
  have cg : (w.alloc (.cells (gcells r c f) 109)).cell? ⟨w.heap.size, 2 + x * 8 + y, none⟩ = some (.int .i64 (f (8 * x + y))) := by
    rw [Nat.mul_comm 8 x]
    exact (cell_of_row _ _ _ _ _ _ (heap_alloc_new w _)).trans (gat _ _ _ _ _ hx hy)
  go_enter Tryz.func61, Tryz.ntmps61
  go_wp2_with fail
  go_ret
  exact ⟨rfl, by go_grown⟩


theorem byte_xy (E : Nat → Nat → Bool) (r c x y : Nat) (s : ByteArray) (h : s = str (rowsB E r c)) (hx : x < r) (hy : y < c) (hlt : x * c + y < s.size) : s[x * c + y].toNat = if E x y then 49 else 48 := by
  have hk : x * c + y < r * c := by
    have : (x + 1) * c ≤ r * c := Nat.mul_le_mul_right c hx
    rw [Nat.succ_mul] at this
    omega
  have h1 : (x * c + y) / c = x := by rw [Nat.mul_comm, Nat.mul_add_div (by omega), Nat.div_eq_of_lt hy, Nat.add_zero]
  have h2 : (x * c + y) % c = y := by rw [Nat.mul_comm, Nat.mul_add_mod, Nat.mod_eq_of_lt hy]
  have h3 := Grid.byte_at E r c (x * c + y) s h hk hlt
  rwa [h1, h2] at h3
theorem size_xy {r c x y : Nat} (hx : x < r) (hy : y < c) : x * c + y < r * c := by
  have : (x + 1) * c ≤ r * c := Nat.mul_le_mul_right c hx
  rw [Nat.succ_mul] at this
  omega

/-- a valid matrix is told by its entries -/
theorem valid_form {r c : Int} {s : ByteArray} (h : validB r c s = true) : ∃ (R C : Nat) (E : Nat → Nat → Bool), r = (R : Int) ∧ c = (C : Int) ∧ 1 ≤ R ∧ R ≤ 8 ∧ 1 ≤ C ∧ C ≤ 8 ∧ s = str (rowsB E R C) := by
  unfold validB at h
  simp only [Bool.and_eq_true, decide_eq_true_eq, beq_iff_eq] at h
  obtain ⟨⟨h1, h2, h3, h4⟩, hok, hsz⟩ := h
  obtain ⟨R, rfl⟩ := Int.eq_ofNat_of_zero_le (show 0 ≤ r by omega)
  obtain ⟨C, rfl⟩ := Int.eq_ofNat_of_zero_le (show 0 ≤ c by omega)
  have hsz' : s.size = R * C := by
    have : ((s.size : Nat) : Int) = ((R * C : Nat) : Int) := by rw [hsz, Int.natCast_mul]
    omega
  refine ⟨R, C, fun x y => decide (s.data.toList[x * C + y]? = some 49), rfl, rfl, by omega, by omega, by omega, by omega, ?_⟩
  have hl : s.data.toList = rowsB (fun x y => decide (s.data.toList[x * C + y]? = some 49)) R C := by
    apply List.ext_getElem?
    intro k
    by_cases hk : k < R * C
    · rw [rowsB_get _ _ _ _ hk]
      have he : k / C * C + k % C = k := by rw [Nat.mul_comm]; exact Nat.div_add_mod k C
      have hk2 : k < s.data.toList.length := by rw [Array.length_toList]; show k < s.size; omega
      simp only [he]
      rw [List.getElem?_eq_getElem hk2]
      have hb := List.all_eq_true.1 hok _ (List.getElem_mem hk2)
      unfold isBit at hb
      unfold dig
      by_cases h49 : s.data.toList[k] = 49
      · rw [h49]; simp
      · have h48 : s.data.toList[k] = 48 := by
          simp only [Bool.or_eq_true, beq_iff_eq] at hb
          exact hb.resolve_right h49
        rw [h48]; simp
    · rw [List.getElem?_eq_none (by rw [Array.length_toList]; show s.size ≤ k; omega), List.getElem?_eq_none (by rw [rowsB_length]; omega)]
  rw [← hl]
  apply ByteArray.ext
  simp [str]
end Go.Proofs.YtbbgibbpeibhiaaGreatDoor.Entry

/-
  What the program's and the reference's JoinMatrices stand on: a block that holds a grid, rows of three cells.
-/
namespace Go.Proofs.YtbbgibbpeibhiaaGreatDoor.JoinB
open Go.RowKit Go.Proofs.YtbbgibbpeibhiaaGreatDoor.Plain Go.Proofs.YtbbgibbpeibhiaaGreatDoor.Base Go.Proofs.YtbbgibbpeibhiaaGreatDoor.Valid Go.Proofs.YtbbgibbpeibhiaaGreatDoor.Law Go.Proofs.YtbbgibbpeibhiaaGreatDoor.GridPlain Go.Proofs.YtbbgibbpeibhiaaGreatDoor.Grid Go.Proofs.YtbbgibbpeibhiaaGreatDoor.Entry Go.Proofs.YtbbgibbpeibhiaaGreatDoor.From
set_option linter.unusedVariables false

def Holds (w : World) (b : Nat) (r c : Nat) (E : Nat → Nat → Bool) : Prop := w.heap[b]? = some (.cells (gcells r c (gpart E c (r * c))) 109 (0, 0))
theorem Holds.lt {w : World} {b r c : Nat} {E : Nat → Nat → Bool} (h : Holds w b r c E) : b < w.heap.size := (Array.getElem?_eq_some_iff.1 h).1
theorem Holds.below {w w1 : World} {b r c : Nat} {E : Nat → Nat → Bool} (h : Holds w b r c E) (hb : Below w.heap.size w w1) : Holds w1 b r c E := (hb.block b h.lt).trans h
theorem take_next (l : List UInt8) (k : Nat) (u : UInt8) (h : l[k]? = some u) : str (l.take k) ++ ⟨#[u]⟩ = str (l.take (k + 1)) := by
  obtain ⟨h1, h2⟩ := List.getElem?_eq_some_iff.1 h
  rw [str_one, str_append, List.take_succ_eq_append_getElem h1, h2]
theorem cells3 {w : World} {g : Nat} {T : TypeId} {a b c : Value} (h : w.heap[g]? = some (.cells #[a, b, c] T (0, 0))) :
    w.cell? ⟨g, 0, none⟩ = some a ∧ w.cell? ⟨g, 1, none⟩ = some b ∧ w.cell? ⟨g, 2, none⟩ = some c :=
  ⟨cell_of_row _ _ 0 _ _ _ h, cell_of_row _ _ 1 _ _ _ h, cell_of_row _ _ 2 _ _ _ h⟩
theorem free3 {w : World} {g : Nat} {T : TypeId} {a b c : Value} (h : w.heap[g]? = some (.cells #[a, b, c] T (0, 0))) :
    w.frozen? ⟨g, 0, none⟩ = false ∧ w.frozen? ⟨g, 1, none⟩ = false ∧ w.frozen? ⟨g, 2, none⟩ = false :=
  ⟨frozen_of_row _ _ 0 _ _ h, frozen_of_row _ _ 1 _ _ h, frozen_of_row _ _ 2 _ _ h⟩
end Go.Proofs.YtbbgibbpeibhiaaGreatDoor.JoinB

/-
  Operations by their names: l1Known, l1Op, operationOf.
-/
namespace Go.Proofs.YtbbgibbpeibhiaaGreatDoor.Ops
open Go.RowKit Go.Proofs.YtbbgibbpeibhiaaGreatDoor.Plain Go.Proofs.YtbbgibbpeibhiaaGreatDoor.Base Go.Proofs.YtbbgibbpeibhiaaGreatDoor.Valid Go.Proofs.YtbbgibbpeibhiaaGreatDoor.Law Go.Proofs.YtbbgibbpeibhiaaGreatDoor.Entry
set_option linter.unusedVariables false

/-- the value of an operation, by its name -/
def opB (op : ByteArray) (a b : Bool) : Bool := if (op.toList == [97, 110, 100]) = true then a && b else if (op.toList == [111, 114]) = true then a || b else !(a == b)
/-- one of the three names -/
def opKnown (op : ByteArray) : Bool := op.toList == [97, 110, 100] || op.toList == [111, 114] || op.toList == [120, 111, 114]

set_option maxHeartbeats 400000 in
theorem and_any (a b : Bool) (w : World) :
    Calls Tryz.prog 67 #[.int .i64 (bitI a), .int .i64 (bitI b)] w fun e w' => e = .returned (.int .i64 (bitI (a && b))) ∧ w = w' := by
  cases a <;> cases b
  all_goals
    simp only [bitI_true, bitI_false]
    go_enter Tryz.func67, Tryz.ntmps67
    go_wp2_with fail
    go_ret
    exact ⟨rfl, rfl⟩
set_option maxHeartbeats 400000 in
theorem or_any (a b : Bool) (w : World) :
    Calls Tryz.prog 68 #[.int .i64 (bitI a), .int .i64 (bitI b)] w fun e w' => e = .returned (.int .i64 (bitI (a || b))) ∧ w = w' := by
  cases a <;> cases b
  all_goals
    simp only [bitI_true, bitI_false]
    go_enter Tryz.func68, Tryz.ntmps68
    go_wp2_with fail
    go_ret
    exact ⟨rfl, rfl⟩
set_option maxHeartbeats 400000 in
theorem xor_any (a b : Bool) (w : World) :
    Calls Tryz.prog 69 #[.int .i64 (bitI a), .int .i64 (bitI b)] w fun e w' => e = .returned (.int .i64 (bitI (!(a == b)))) ∧ w = w' := by
  cases a <;> cases b
  all_goals
    simp only [bitI_true, bitI_false]
    go_enter Tryz.func69, Tryz.ntmps69
    go_wp2_with fail
    go_ret
    exact ⟨rfl, rfl⟩

set_option maxHeartbeats 400000 in
theorem oper_yes (op : ByteArray) (hk : opKnown op = true) : ∃ g : Nat,
    (∀ w, Calls Tryz.prog 59 #[.string op] w fun e w' => e = .returned (.tuple #[.func (.func g) #[] #[], .bool true]) ∧ w = w') ∧
    (∀ args W, (callFunc g args).run Tryz.prog W = .ok (.enter g args) W) ∧
    (∀ (a b : Bool) (W : World), Calls Tryz.prog g #[.int .i64 (bitI a), .int .i64 (bitI b)] W fun e W' => e = .returned (.int .i64 (bitI (opB op a b))) ∧ W = W') := by
  obtain ⟨k1, h1⟩ : ∃ k, (op.toList == [97, 110, 100]) = k := ⟨_, rfl⟩
  obtain ⟨k2, h2⟩ : ∃ k, (op.toList == [111, 114]) = k := ⟨_, rfl⟩
  obtain ⟨k3, h3⟩ : ∃ k, (op.toList == [120, 111, 114]) = k := ⟨_, rfl⟩
  cases k1
  · cases k2
    · cases k3
      · unfold opKnown at hk; rw [h1, h2, h3] at hk; simp at hk
      · refine ⟨69, fun w => ?_, fun args W => by kernel_rfl, fun a b W => ?_⟩
        · go_enter Tryz.func59, Tryz.ntmps59
          go_wp2_with fail
          refine bodyPost_ret (v := .tuple #[.func (.func 69) #[] #[], .bool true]) (by simp [results, Tryz.results59, go_sem]) rfl ⟨rfl, rfl⟩
        · have : opB op a b = !(a == b) := by unfold opB; rw [h1, h2]; simp
          rw [this]
          exact xor_any a b W
    · refine ⟨68, fun w => ?_, fun args W => by kernel_rfl, fun a b W => ?_⟩
      · go_enter Tryz.func59, Tryz.ntmps59
        go_wp2_with fail
        refine bodyPost_ret (v := .tuple #[.func (.func 68) #[] #[], .bool true]) (by simp [results, Tryz.results59, go_sem]) rfl ⟨rfl, rfl⟩
      · have : opB op a b = (a || b) := by unfold opB; rw [h1, h2]; simp
        rw [this]
        exact or_any a b W
  · refine ⟨67, fun w => ?_, fun args W => by kernel_rfl, fun a b W => ?_⟩
    · go_enter Tryz.func59, Tryz.ntmps59
      go_wp2_with fail
      refine bodyPost_ret (v := .tuple #[.func (.func 67) #[] #[], .bool true]) (by simp [results, Tryz.results59, go_sem]) rfl ⟨rfl, rfl⟩
    · have : opB op a b = (a && b) := by unfold opB; rw [h1]; simp
      rw [this]
      exact and_any a b W

set_option maxHeartbeats 400000 in
theorem oper_no (op : ByteArray) (hk : opKnown op = false) (w : World) :
    Calls Tryz.prog 59 #[.string op] w fun e w' => e = .returned (.tuple #[.nilFunc, .bool false]) ∧ w = w' := by
  unfold opKnown at hk
  simp only [Bool.or_eq_false_iff] at hk
  obtain ⟨⟨h1, h2⟩, h3⟩ := hk
  go_enter Tryz.func59, Tryz.ntmps59
  go_wp2_with fail
  refine bodyPost_ret (v := .tuple #[.nilFunc, .bool false]) (by simp [results, Tryz.results59, go_sem]) rfl ⟨rfl, rfl⟩
end Go.Proofs.YtbbgibbpeibhiaaGreatDoor.Ops

