/-
  The program's board: the entries of a matrix as a set for each value. Its contract, and those of its small methods.
-/
import Derived.Test.YtgfhahlkffagaaaDoorEntry
import Derived.Test.YtgfhahlkffagaaaDoorPatch
import Derived.Test.YtgfhahlkffagaaaDoorFreeL
namespace Go.Proofs.YtgfhahlkffagaaaDoor.Board
open Go.RowKit Go.Proofs.YtgfhahlkffagaaaDoor.Plain Go.Proofs.YtgfhahlkffagaaaDoor.Base Go.Proofs.YtgfhahlkffagaaaDoor.Valid Go.Proofs.YtgfhahlkffagaaaDoor.Law Go.Proofs.YtgfhahlkffagaaaDoor.GridPlain Go.Proofs.YtgfhahlkffagaaaDoor.Grid Go.Proofs.YtgfhahlkffagaaaDoor.Entry Go.Proofs.YtgfhahlkffagaaaDoor.Pat Go.Proofs.YtgfhahlkffagaaaDoor.Rect Go.Proofs.YtgfhahlkffagaaaDoor.Patch Go.Proofs.YtgfhahlkffagaaaDoor.FreeL
open Go.Proofs.YtgfhahlkffagaaaDoor.Free (fill wp_value wp_enter wp_load_row freeB)
set_option linter.unusedVariables false

/-- a board's value -/
abbrev brd (r c : Int) (z o : Nat) : Value := .agg #[.int .i64 r, .int .i64 c, .int .u64 (z : Int), .int .u64 (o : Int)]
/-- the bytes of the entries of so many rows, and of so many columns of the next one, for which P holds -/
def wB (P : Nat → Nat → Bool) (c x y : Nat) : Nat → Nat := fun j => if j < x then setB (P j) c else if j = x then setB (P j) y else 0
/-- the bytes of all entries for which P holds -/
def onB (P : Nat → Nat → Bool) (r c : Nat) : Nat → Nat := fun j => if j < r then setB (P j) c else 0
theorem wB_lt (P : Nat → Nat → Bool) (c x y : Nat) (hc : c ≤ 8) (hy : y ≤ 8) (j : Nat) : wB P c x y j < 256 := by
  unfold wB
  split
  · exact setB_lt8 _ _ hc
  · split
    · exact setB_lt8 _ _ hy
    · omega
theorem onB_lt (P : Nat → Nat → Bool) (r c : Nat) (hc : c ≤ 8) (j : Nat) : onB P r c j < 256 := by
  unfold onB
  split
  · exact setB_lt8 _ _ hc
  · omega
theorem wB_start (P : Nat → Nat → Bool) (c : Nat) : pat (wB P c 0 0) 8 = 0 := (pat_zero 8 _).2 fun j _ => by
  unfold wB
  rw [if_neg (by omega)]
  split
  · rfl
  · rfl
theorem wB_row (P : Nat → Nat → Bool) (c x : Nat) : wB P c x c = wB P c (x + 1) 0 := by
  funext j
  unfold wB
  by_cases h : j < x
  · rw [if_pos h, if_pos (by omega)]
  · rw [if_neg h]
    by_cases e : j = x
    · rw [if_pos e, if_pos (by omega)]
    · rw [if_neg e, if_neg (by omega)]
      split <;> rfl
theorem wB_end (P : Nat → Nat → Bool) (r c : Nat) : wB P c r 0 = onB P r c := by
  funext j
  unfold wB onB
  by_cases h : j < r
  · rw [if_pos h, if_pos h]
  · rw [if_neg h, if_neg h]
    split <;> rfl
theorem wB_no (P : Nat → Nat → Bool) (c x y : Nat) (h : P x y = false) : wB P c x (y + 1) = wB P c x y := by
  funext j
  unfold wB
  by_cases hj : j < x
  · rw [if_pos hj, if_pos hj]
  · rw [if_neg hj, if_neg hj]
    by_cases e : j = x
    · subst e
      rw [if_pos rfl, if_pos rfl, setB, if_neg (by rw [h]; decide), Nat.add_zero]
    · rw [if_neg e, if_neg e]
theorem pow_bit (x j : Nat) : (2 ^ x).testBit j = decide (x = j) := Nat.testBit_two_pow
theorem wB_yes (P : Nat → Nat → Bool) (c x y : Nat) (hc : c ≤ 8) (hx : x < 8) (hy : y < 8) (h : P x y = true) : pat (wB P c x y) 8 ||| pat (rectB (2 ^ x) (2 ^ y)) 8 = pat (wB P c x (y + 1)) 8 := by
  have h2 : 2 ^ y < 256 := Nat.lt_of_lt_of_le (Nat.pow_lt_pow_right (by decide) hy) (by decide)
  rw [pat_or 8 _ _ (wB_lt P c x y hc (by omega)) (rectB_lt _ _ h2)]
  apply pat_congr
  intro j hj
  unfold wB rectB
  rw [pow_bit]
  by_cases e : x = j
  · subst e
    simp only [Nat.lt_irrefl, if_false, if_true, decide_true]
    have := setB_or (P x) y
    rwa [if_pos h] at this
  · rw [if_neg (show ¬ (decide (x = j) = true) by simpa using e)]
    by_cases hj2 : j < x
    · rw [if_pos hj2, if_pos hj2, Nat.or_zero]
    · rw [if_neg hj2, if_neg hj2, if_neg (fun h => e h.symm), if_neg (fun h => e h.symm), Nat.or_zero]

/-- block b holds a board -/
def BHolds (w : World) (b : Nat) (r c : Int) (z o : Nat) : Prop := w.heap[b]? = some (.cells #[.int .i64 r, .int .i64 c, .int .u64 (z : Int), .int .u64 (o : Int)] 111 (0, 0))
/-- block g holds a grid -/
def GHolds (w : World) (g : Nat) (r c : Int) (f : Nat → Int) : Prop := w.heap[g]? = some (.cells (gcells r c f) 42 (0, 0))
theorem binfo : (Tryd.prog.info? 111).map (·.size) = some 4 := by kernel_rfl

/-- what the loops keep -/
structure BInv (w wr : World) (g b : Nat) (r c : Int) (f : Nat → Int) (z o : Nat) : Prop where
  res : BHolds wr (w.heap.size + 1) 0 0 0 0
  grid : GHolds wr g r c f
  brd : BHolds wr b r c z o
  low : w.heap.size + 1 < g
  gb : g < b
  below : Below w.heap.size w wr
theorem BInv.later {w wr w2 : World} {g b : Nat} {r c : Int} {f : Nat → Int} {z o : Nat} (h : BInv w wr g b r c f z o) (hb : Below wr.heap.size wr w2) : BInv w w2 g b r c f z o :=
  ⟨(hb.block _ (Array.getElem?_eq_some_iff.1 h.res).1).trans h.res, (hb.block _ (Array.getElem?_eq_some_iff.1 h.grid).1).trans h.grid, (hb.block _ (Array.getElem?_eq_some_iff.1 h.brd).1).trans h.brd, h.low, h.gb, h.below.trans (hb.mono h.below.size)⟩
theorem BInv.set0 {w wr : World} {g b : Nat} {r c : Int} {f : Nat → Int} {z o : Nat} (h : BInv w wr g b r c f z o) (n : Nat) : BInv w (wr.setCell ⟨b, 2, none⟩ (.int .u64 (n : Int))) g b r c f n o :=
  ⟨(heap_setCell_other _ _ _ _ (by show w.heap.size + 1 ≠ b; have := h.low; have := h.gb; omega)).trans h.res, (heap_setCell_other _ _ _ _ (by show g ≠ b; have := h.gb; omega)).trans h.grid,
    heap_setCell_same _ _ _ _ _ _ h.brd, h.low, h.gb, h.below.setCell (by show w.heap.size ≤ b; have := h.low; have := h.gb; omega) _⟩
theorem BInv.set1 {w wr : World} {g b : Nat} {r c : Int} {f : Nat → Int} {z o : Nat} (h : BInv w wr g b r c f z o) (n : Nat) : BInv w (wr.setCell ⟨b, 3, none⟩ (.int .u64 (n : Int))) g b r c f z n :=
  ⟨(heap_setCell_other _ _ _ _ (by show w.heap.size + 1 ≠ b; have := h.low; have := h.gb; omega)).trans h.res, (heap_setCell_other _ _ _ _ (by show g ≠ b; have := h.gb; omega)).trans h.grid,
    heap_setCell_same _ _ _ _ _ _ h.brd, h.low, h.gb, h.below.setCell (by show w.heap.size ≤ b; have := h.low; have := h.gb; omega) _⟩

theorem two_blk {w w1 : World} {o1 o2 : Obj} (hb : Below ((w.alloc o1).alloc o2).heap.size ((w.alloc o1).alloc o2) w1) : w1.heap[w.heap.size + 1]? = some o2 ∧ Below w.heap.size w w1 ∧ w.heap.size + 2 ≤ w1.heap.size := by
  have hs : ((w.alloc o1).alloc o2).heap.size = w.heap.size + 2 := by simp
  have h2 : ((w.alloc o1).alloc o2).heap[w.heap.size + 1]? = some o2 := by
    have := heap_alloc_new (w.alloc o1) o2
    rwa [World.size_alloc] at this
  exact ⟨(hb.block _ (by omega)).trans h2, (((Below.refl w.heap.size w).alloc (Nat.le_refl _) _).alloc (by simp) _).trans (hb.mono (by omega)), by have := hb.size; omega⟩
theorem wrap_small (n : Nat) (h : n < 256) : IntKind.i64.wrap (n : Int) = (n : Int) := by
  rw [IntKind.wrap_i64]
  omega
theorem eval_get {a : Act} {d : Tmp} {v : Value} (h : a.tmps[d]?.getD undef = v) (_ : True) : a.eval (.tmp d) = v := by
  rw [← h]
  show a.tmps.getD d undef = _
  simp [Array.getD_eq_getD_getElem?]
theorem wp_skip {P : Program} {o : Oper} {a : Act} {w w' : World} {K : Act → World → Prop} {Q : Exit → Act → World → Prop} (h : (execOp a.eval o).run P w = .ok .skip w') (hK : K (a.put o.dst undef) w') : o.wp P a w K Q := by
  unfold Oper.wp
  rw [h]
  exact hK

set_option maxHeartbeats 4000000 in
set_option maxRecDepth 100000 in
theorem board_of (R C : Nat) (hR : R ≤ 8) (hC : C ≤ 8) (f : Nat → Int) (E : Nat → Nat → Bool) (hf : ∀ x y, x < R → y < C → f (8 * x + y) = bitI (E x y)) (rr cc : Int) (s : ByteArray)
    (hg : ∀ W : World, Calls Tryd.prog 29 #[mat rr cc s] W fun e w' => e = .returned (gval R C f) ∧ Below W.heap.size W w') (w : World) :
    Calls Tryd.prog 81 #[mat rr cc s] w fun e w' => e = .returned (brd R C (pat (onB (fun x y => !E x y) R C) 8) (pat (onB E R C) 8)) ∧ Below w.heap.size w w' := by
  have HG := Lib.hid hg
  have HF := Lib.hid hf
  clear hg hf
  go_enter Tryd.func81, Tryd.ntmps81
  go_wp2_with fail
  refine (HG.out _).mono ?_
  rintro e w1 ⟨rfl, hb1⟩
  have c0 : (w1.alloc (.cells (gcells R C f) 42)).cell? ⟨w1.heap.size, 0, none⟩ = some (.int .i64 (R : Int)) := cell_of_row _ _ 0 _ _ _ (heap_alloc_new w1 _)
  have c1 : (w1.alloc (.cells (gcells R C f) 42)).cell? ⟨w1.heap.size, 1, none⟩ = some (.int .i64 (C : Int)) := cell_of_row _ _ 1 _ _ _ (heap_alloc_new w1 _)
  have c2 : ((w1.alloc (.cells (gcells R C f) 42)).alloc (.cells #[.int .i64 (R : Int), .int .i64 (C : Int), .int .u64 0, .int .u64 0] 111)).cell? ⟨w1.heap.size, 0, none⟩ = some (.int .i64 (R : Int)) := cell_of_row _ _ 0 _ _ _ ((Below.heap_alloc _ _ _ (by simp)).trans (heap_alloc_new w1 _))
  obtain ⟨b1, hbel, hz⟩ := two_blk hb1
  have HI0 : Hid (BInv w ((w1.alloc (.cells (gcells R C f) 42)).alloc (.cells #[.int .i64 (R : Int), .int .i64 (C : Int), .int .u64 0, .int .u64 0] 111)) w1.heap.size (w1.heap.size + 1) R C f 0 0) :=
    ⟨(Below.heap_alloc _ _ _ (by simp; omega)).trans ((Below.heap_alloc _ _ _ (by omega)).trans b1), (Below.heap_alloc _ _ _ (by simp)).trans (heap_alloc_new w1 _), (by have := heap_alloc_new (w1.alloc (.cells (gcells R C f) 42)) (.cells #[.int .i64 (R : Int), .int .i64 (C : Int), .int .u64 0, .int .u64 0] 111); rwa [World.size_alloc] at this), by omega, by omega,
      bstepA (bstepA hbel _) _⟩
  clear hb1 b1 hbel hz
  go_wp2_with (first | (refine wpList_store_row rfl 42 (.tmp 3) (.tmp 8) rfl w1.heap.size (gcells R C f) rfl rfl 42 _ (heap_alloc_new w1 _) (ginfo' _ _ _) (by rw [gzero, gsize, gsize]) (gone _ _ _) ?_; rw [World.setRow_alloc_new]))
  go_loopw [16] (fun x wr => ∃ k : Nat, k ≤ R ∧ x = .int .i64 (k : Int) ∧ BInv w wr w1.heap.size (w1.heap.size + 1) R C f (pat (wB (fun x y => !E x y) C k 0) 8) (pat (wB E C k 0) 8)) (fun x _ => R - (intOf x).toNat)
  case atStart => exact ⟨0, Nat.zero_le _, rfl, by rw [wB_start, wB_start]; exact HI0.out⟩
  case round =>
    obtain ⟨k, hk, rfl, hinv⟩ := hrel
    clear HI0 c0 c1 c2
    by_cases hlt : k < R
    · have c1 : wr.cell? ⟨w1.heap.size, 1, none⟩ = some (.int .i64 (C : Int)) := cell_of_row _ _ 1 _ _ _ hinv.grid
      have HI := Lib.hid hinv
      clear hinv
      go_wp2_with fail
      go_loopw [21] (fun y wr => ∃ j : Nat, j ≤ C ∧ y = .int .i64 (j : Int) ∧ BInv w wr w1.heap.size (w1.heap.size + 1) R C f (pat (wB (fun x y => !E x y) C k j) 8) (pat (wB E C k j) 8)) (fun y _ => C - (intOf y).toNat)
      case atStart => exact ⟨0, Nat.zero_le _, rfl, HI.out⟩
      case round =>
        obtain ⟨j, hj, rfl, hinv⟩ := hrel
        clear c1 HI
        by_cases hlt' : j < C
        · have HI := Lib.hid hinv
          clear hinv
          have k8 : k < 8 := by omega
          have j8 : j < 8 := by omega
          have hx2 : 2 ^ k < 256 := Nat.lt_of_lt_of_le (Nat.pow_lt_pow_right (by decide) k8) (by decide)
          have hy2 : 2 ^ j < 256 := Nat.lt_of_lt_of_le (Nat.pow_lt_pow_right (by decide) j8) (by decide)
          have HP := Lib.hid (patch_any (2 ^ k) (2 ^ j) hx2 hy2)
          have HX : Hid (IntKind.i64.wrap (2 ^ k) = ((2 ^ k : Nat) : Int)) := by unfold Hid; rw [show ((2 : Int) ^ k) = ((2 ^ k : Nat) : Int) by simp, wrap_small _ hx2]
          have HV : Hid (IntKind.i64.wrap (2 ^ j) = ((2 ^ j : Nat) : Int)) := by unfold Hid; rw [show ((2 : Int) ^ j) = ((2 ^ j : Nat) : Int) by simp, wrap_small _ hy2]
          have hpl := pat64 (rectB (2 ^ k) (2 ^ j)) (rectB_lt _ _ hy2)
          have HEN := Lib.hid (fun W => entry_any (R : Int) (C : Int) f k j k8 j8 W)
          rw [HF.out k j hlt hlt'] at HEN
          obtain ⟨t, ht⟩ : ∃ t, E k j = t := ⟨_, rfl⟩
          rw [ht] at HEN
          cases t
          · have HE : Hid (∀ W : World, Calls Tryd.prog 63 #[gval R C f, .int .i64 (k : Int), .int .i64 (j : Int)] W fun e w' => e = .returned (.int .i64 0) ∧ Below W.heap.size W w') := HEN.out
            have HN := Lib.hid (wB_yes (fun x y => !E x y) C k j hC k8 j8 (by show (!E k j) = true; rw [ht]; rfl))
            have HZ := Lib.hid (wB_no E C k j ht)
            have hol := pat64 (wB (fun x y => !E x y) C k j) (wB_lt _ C k j hC (by omega))
            have HO := Lib.hid (u64_or_nat _ _ hol hpl)
            clear HEN ht
            generalize pat (rectB (2 ^ k) (2 ^ j)) 8 = p at *
            generalize pat (wB (fun x y => !E x y) C k j) 8 = old at *
            generalize 2 ^ k = X at *
            generalize 2 ^ j = V at *
            generalize old ||| p = n at *
            go_wp2_with fail
            refine wp_region_last (fun | 0 => gval R C f | 1 => .int .i64 (k : Int) | 2 => .int .i64 (j : Int) | 3 => .int .i64 0 | 4 => .pointer (some ⟨w1.heap.size + 1, 2, none⟩) | 5 => .pointer (some ⟨w1.heap.size + 1, 2, none⟩) | 6 => .int .u64 (old : Int) | 7 => .int .i64 (k : Int) | 8 => .int .i64 (X : Int) | 9 => .int .i64 (j : Int) | 10 => .int .i64 (V : Int) | 11 => rect X V | 12 => .int .u64 (p : Int) | 13 => .int .u64 (n : Int) | 14 => .pointer (some ⟨w1.heap.size + 1, 2, none⟩) | 15 => .pointer (some ⟨w1.heap.size + 1, 2, none⟩) | _ => undef) 16 (fun w' => w'.setCell ⟨w1.heap.size + 1, 2, none⟩ (.int .u64 (n : Int))) _ (by kernel_rfl) (by kernel_rfl) rfl rfl rfl rfl (by kernel_rfl) ?con0 ?st0 ?en0
            case con0 =>
              intro i o ho hi a w2 hb2 hf
              have HI2 := HI.out.later hb2
              match i, ho with
              | 0, ho =>
                obtain rfl := Option.some.inj ho
                have b3 : a.tmps[3]?.getD undef = .pointer (some ⟨w1.heap.size, 0, none⟩) := hf.2 3 (by kernel_rfl)
                exact wp_load_row 42 (.tmp 3) rfl w1.heap.size (eval_get b3 (by decide)) 42 _ (0, 0) _ HI2.grid Tryd.underlying42 rfl (ginfo' _ _ _) ⟨rfl, Below.refl _ _⟩
              | 1, ho =>
                obtain rfl := Option.some.inj ho
                have b5 : a.tmps[5]?.getD undef = .int .i64 (k : Int) := hf.2 5 (by kernel_rfl)
                exact wp_value (.int .i64 (k : Int)) (by unfold execOp; go_simp) ⟨rfl, Below.refl _ _⟩
              | 2, ho =>
                obtain rfl := Option.some.inj ho
                have b6 : a.tmps[6]?.getD undef = .int .i64 (j : Int) := hf.2 6 (by kernel_rfl)
                exact wp_value (.int .i64 (j : Int)) (by unfold execOp; go_simp) ⟨rfl, Below.refl _ _⟩
              | 3, ho =>
                obtain rfl := Option.some.inj ho
                have e24 : a.tmps[24]?.getD undef = gval R C f := hf.1 ⟨0, .data⟩ (by simp) rfl _ 24 rfl rfl
                have e25 : a.tmps[25]?.getD undef = .int .i64 (k : Int) := hf.1 ⟨1, .data⟩ (by simp) rfl _ 25 rfl rfl
                have e26 : a.tmps[26]?.getD undef = .int .i64 (j : Int) := hf.1 ⟨2, .data⟩ (by simp) rfl _ 26 rfl rfl
                exact wp_enter 63 #[gval R C f, .int .i64 (k : Int), .int .i64 (j : Int)] (.int .i64 0) _ (by unfold execOp; go_simp) (HE.out w2) (fun w' h => ⟨rfl, h⟩)
              | 4, ho =>
                obtain rfl := Option.some.inj ho
                have b4 : a.tmps[4]?.getD undef = .pointer (some ⟨w1.heap.size + 1, 0, none⟩) := hf.2 4 (by kernel_rfl)
                exact wp_value (.pointer (some ⟨w1.heap.size + 1, 2, none⟩)) (by unfold execOp; go_simp) ⟨rfl, Below.refl _ _⟩
              | 5, ho =>
                obtain rfl := Option.some.inj ho
                have e28 : a.tmps[28]?.getD undef = .pointer (some ⟨w1.heap.size + 1, 2, none⟩) := hf.1 ⟨4, .data⟩ (by simp) rfl _ 28 rfl rfl
                have e27 : a.tmps[27]?.getD undef = .int .i64 0 := hf.1 ⟨3, .data⟩ (by simp) rfl _ 27 rfl rfl
                exact wp_value (.pointer (some ⟨w1.heap.size + 1, 2, none⟩)) (by unfold execOp; go_simp) ⟨rfl, Below.refl _ _⟩
              | 6, ho =>
                obtain rfl := Option.some.inj ho
                have e29 : a.tmps[29]?.getD undef = .pointer (some ⟨w1.heap.size + 1, 2, none⟩) := hf.1 ⟨5, .data⟩ (by simp) rfl _ 29 rfl rfl
                have hc : w2.cell? ⟨w1.heap.size + 1, 2, none⟩ = some (.int .u64 (old : Int)) := cell_of_row _ _ 2 _ _ _ HI2.brd
                exact wp_value (.int .u64 (old : Int)) (by unfold execOp; go_simp) ⟨rfl, Below.refl _ _⟩
              | 7, ho =>
                obtain rfl := Option.some.inj ho
                have b5 : a.tmps[5]?.getD undef = .int .i64 (k : Int) := hf.2 5 (by kernel_rfl)
                exact wp_value (.int .i64 (k : Int)) (by unfold execOp; go_simp) ⟨rfl, Below.refl _ _⟩
              | 8, ho =>
                obtain rfl := Option.some.inj ho
                have e31 : a.tmps[31]?.getD undef = .int .i64 (k : Int) := hf.1 ⟨7, .data⟩ (by simp) rfl _ 31 rfl rfl
                have hsh := HX.out
                exact wp_value (.int .i64 (X : Int)) (by unfold execOp; go_simp) ⟨rfl, Below.refl _ _⟩
              | 9, ho =>
                obtain rfl := Option.some.inj ho
                have b6 : a.tmps[6]?.getD undef = .int .i64 (j : Int) := hf.2 6 (by kernel_rfl)
                exact wp_value (.int .i64 (j : Int)) (by unfold execOp; go_simp) ⟨rfl, Below.refl _ _⟩
              | 10, ho =>
                obtain rfl := Option.some.inj ho
                have e33 : a.tmps[33]?.getD undef = .int .i64 (j : Int) := hf.1 ⟨9, .data⟩ (by simp) rfl _ 33 rfl rfl
                have hsh := HV.out
                exact wp_value (.int .i64 (V : Int)) (by unfold execOp; go_simp) ⟨rfl, Below.refl _ _⟩
              | 11, ho =>
                obtain rfl := Option.some.inj ho
                have e32 : a.tmps[32]?.getD undef = .int .i64 (X : Int) := hf.1 ⟨8, .data⟩ (by simp) rfl _ 32 rfl rfl
                have e34 : a.tmps[34]?.getD undef = .int .i64 (V : Int) := hf.1 ⟨10, .data⟩ (by simp) rfl _ 34 rfl rfl
                exact wp_value (rect X V) (by unfold execOp; go_simp) ⟨rfl, Below.refl _ _⟩
              | 12, ho =>
                obtain rfl := Option.some.inj ho
                have e35 : a.tmps[35]?.getD undef = rect X V := hf.1 ⟨11, .data⟩ (by simp) rfl _ 35 rfl rfl
                exact wp_enter 69 #[rect X V] (.int .u64 (p : Int)) _ (by unfold execOp; go_simp) (HP.out w2) (fun w' h => ⟨rfl, h⟩)
              | 13, ho =>
                obtain rfl := Option.some.inj ho
                have e30 : a.tmps[30]?.getD undef = .int .u64 (old : Int) := hf.1 ⟨6, .data⟩ (by simp) rfl _ 30 rfl rfl
                have e36 : a.tmps[36]?.getD undef = .int .u64 (p : Int) := hf.1 ⟨12, .data⟩ (by simp) rfl _ 36 rfl rfl
                exact wp_value (.int .u64 (n : Int)) (by unfold execOp; go_simp; exact HO.out) ⟨rfl, Below.refl _ _⟩
              | 14, ho =>
                obtain rfl := Option.some.inj ho
                have b4 : a.tmps[4]?.getD undef = .pointer (some ⟨w1.heap.size + 1, 0, none⟩) := hf.2 4 (by kernel_rfl)
                exact wp_value (.pointer (some ⟨w1.heap.size + 1, 2, none⟩)) (by unfold execOp; go_simp) ⟨rfl, Below.refl _ _⟩
              | 15, ho =>
                obtain rfl := Option.some.inj ho
                have e38 : a.tmps[38]?.getD undef = .pointer (some ⟨w1.heap.size + 1, 2, none⟩) := hf.1 ⟨14, .data⟩ (by simp) rfl _ 38 rfl rfl
                have e27 : a.tmps[27]?.getD undef = .int .i64 0 := hf.1 ⟨3, .data⟩ (by simp) rfl _ 27 rfl rfl
                exact wp_value (.pointer (some ⟨w1.heap.size + 1, 2, none⟩)) (by unfold execOp; go_simp) ⟨rfl, Below.refl _ _⟩
              | q + 16, ho => exact absurd hi (by omega)
            case st0 =>
              intro a w2 hb2 hf
              have HI2 := HI.out.later hb2
              have e39 : a.tmps[39]?.getD undef = .pointer (some ⟨w1.heap.size + 1, 2, none⟩) := hf.1 ⟨15, .data⟩ (by simp) rfl _ 39 rfl rfl
              have e37 : a.tmps[37]?.getD undef = .int .u64 (n : Int) := hf.1 ⟨13, .data⟩ (by simp) rfl _ 37 rfl rfl
              have hc : w2.cell? ⟨w1.heap.size + 1, 2, none⟩ = some (.int .u64 (old : Int)) := cell_of_row _ _ 2 _ _ _ HI2.brd
              have hfz : w2.frozen? ⟨w1.heap.size + 1, 2, none⟩ = false := frozen_of_row _ _ 2 _ _ HI2.brd
              exact wp_skip (by unfold execOp; go_simp) ⟨rfl, rfl⟩
            case en0 =>
              intro w2 hb2
              have HI3 := Lib.hid ((HI.out.later hb2).set0 n)
              clear hb2
              generalize w2.setCell ⟨w1.heap.size + 1, 2, none⟩ (.int .u64 (n : Int)) = w3 at *
              simp only [fill, Act.put]
              go_simp
              go_wp2_with fail
              go_roundw
              case rel => exact ⟨j + 1, by omega, by go_num, by rw [← HN.out, HZ.out]; exact HI3.out⟩
              case measure => simp [intOf]; omega
          · have HE : Hid (∀ W : World, Calls Tryd.prog 63 #[gval R C f, .int .i64 (k : Int), .int .i64 (j : Int)] W fun e w' => e = .returned (.int .i64 1) ∧ Below W.heap.size W w') := HEN.out
            have HN := Lib.hid (wB_yes E C k j hC k8 j8 ht)
            have HZ := Lib.hid (wB_no (fun x y => !E x y) C k j (by show (!E k j) = false; rw [ht]; rfl))
            have hol := pat64 (wB E C k j) (wB_lt _ C k j hC (by omega))
            have HO := Lib.hid (u64_or_nat _ _ hol hpl)
            clear HEN ht
            generalize pat (rectB (2 ^ k) (2 ^ j)) 8 = p at *
            generalize pat (wB E C k j) 8 = old at *
            generalize 2 ^ k = X at *
            generalize 2 ^ j = V at *
            generalize old ||| p = n at *
            go_wp2_with fail
            refine wp_region_last (fun | 0 => gval R C f | 1 => .int .i64 (k : Int) | 2 => .int .i64 (j : Int) | 3 => .int .i64 1 | 4 => .pointer (some ⟨w1.heap.size + 1, 2, none⟩) | 5 => .pointer (some ⟨w1.heap.size + 1, 3, none⟩) | 6 => .int .u64 (old : Int) | 7 => .int .i64 (k : Int) | 8 => .int .i64 (X : Int) | 9 => .int .i64 (j : Int) | 10 => .int .i64 (V : Int) | 11 => rect X V | 12 => .int .u64 (p : Int) | 13 => .int .u64 (n : Int) | 14 => .pointer (some ⟨w1.heap.size + 1, 2, none⟩) | 15 => .pointer (some ⟨w1.heap.size + 1, 3, none⟩) | _ => undef) 16 (fun w' => w'.setCell ⟨w1.heap.size + 1, 3, none⟩ (.int .u64 (n : Int))) _ (by kernel_rfl) (by kernel_rfl) rfl rfl rfl rfl (by kernel_rfl) ?con1 ?st1 ?en1
            case con1 =>
              intro i o ho hi a w2 hb2 hf
              have HI2 := HI.out.later hb2
              match i, ho with
              | 0, ho =>
                obtain rfl := Option.some.inj ho
                have b3 : a.tmps[3]?.getD undef = .pointer (some ⟨w1.heap.size, 0, none⟩) := hf.2 3 (by kernel_rfl)
                exact wp_load_row 42 (.tmp 3) rfl w1.heap.size (eval_get b3 (by decide)) 42 _ (0, 0) _ HI2.grid Tryd.underlying42 rfl (ginfo' _ _ _) ⟨rfl, Below.refl _ _⟩
              | 1, ho =>
                obtain rfl := Option.some.inj ho
                have b5 : a.tmps[5]?.getD undef = .int .i64 (k : Int) := hf.2 5 (by kernel_rfl)
                exact wp_value (.int .i64 (k : Int)) (by unfold execOp; go_simp) ⟨rfl, Below.refl _ _⟩
              | 2, ho =>
                obtain rfl := Option.some.inj ho
                have b6 : a.tmps[6]?.getD undef = .int .i64 (j : Int) := hf.2 6 (by kernel_rfl)
                exact wp_value (.int .i64 (j : Int)) (by unfold execOp; go_simp) ⟨rfl, Below.refl _ _⟩
              | 3, ho =>
                obtain rfl := Option.some.inj ho
                have e24 : a.tmps[24]?.getD undef = gval R C f := hf.1 ⟨0, .data⟩ (by simp) rfl _ 24 rfl rfl
                have e25 : a.tmps[25]?.getD undef = .int .i64 (k : Int) := hf.1 ⟨1, .data⟩ (by simp) rfl _ 25 rfl rfl
                have e26 : a.tmps[26]?.getD undef = .int .i64 (j : Int) := hf.1 ⟨2, .data⟩ (by simp) rfl _ 26 rfl rfl
                exact wp_enter 63 #[gval R C f, .int .i64 (k : Int), .int .i64 (j : Int)] (.int .i64 1) _ (by unfold execOp; go_simp) (HE.out w2) (fun w' h => ⟨rfl, h⟩)
              | 4, ho =>
                obtain rfl := Option.some.inj ho
                have b4 : a.tmps[4]?.getD undef = .pointer (some ⟨w1.heap.size + 1, 0, none⟩) := hf.2 4 (by kernel_rfl)
                exact wp_value (.pointer (some ⟨w1.heap.size + 1, 2, none⟩)) (by unfold execOp; go_simp) ⟨rfl, Below.refl _ _⟩
              | 5, ho =>
                obtain rfl := Option.some.inj ho
                have e28 : a.tmps[28]?.getD undef = .pointer (some ⟨w1.heap.size + 1, 2, none⟩) := hf.1 ⟨4, .data⟩ (by simp) rfl _ 28 rfl rfl
                have e27 : a.tmps[27]?.getD undef = .int .i64 1 := hf.1 ⟨3, .data⟩ (by simp) rfl _ 27 rfl rfl
                exact wp_value (.pointer (some ⟨w1.heap.size + 1, 3, none⟩)) (by unfold execOp; go_simp) ⟨rfl, Below.refl _ _⟩
              | 6, ho =>
                obtain rfl := Option.some.inj ho
                have e29 : a.tmps[29]?.getD undef = .pointer (some ⟨w1.heap.size + 1, 3, none⟩) := hf.1 ⟨5, .data⟩ (by simp) rfl _ 29 rfl rfl
                have hc : w2.cell? ⟨w1.heap.size + 1, 3, none⟩ = some (.int .u64 (old : Int)) := cell_of_row _ _ 3 _ _ _ HI2.brd
                exact wp_value (.int .u64 (old : Int)) (by unfold execOp; go_simp) ⟨rfl, Below.refl _ _⟩
              | 7, ho =>
                obtain rfl := Option.some.inj ho
                have b5 : a.tmps[5]?.getD undef = .int .i64 (k : Int) := hf.2 5 (by kernel_rfl)
                exact wp_value (.int .i64 (k : Int)) (by unfold execOp; go_simp) ⟨rfl, Below.refl _ _⟩
              | 8, ho =>
                obtain rfl := Option.some.inj ho
                have e31 : a.tmps[31]?.getD undef = .int .i64 (k : Int) := hf.1 ⟨7, .data⟩ (by simp) rfl _ 31 rfl rfl
                have hsh := HX.out
                exact wp_value (.int .i64 (X : Int)) (by unfold execOp; go_simp) ⟨rfl, Below.refl _ _⟩
              | 9, ho =>
                obtain rfl := Option.some.inj ho
                have b6 : a.tmps[6]?.getD undef = .int .i64 (j : Int) := hf.2 6 (by kernel_rfl)
                exact wp_value (.int .i64 (j : Int)) (by unfold execOp; go_simp) ⟨rfl, Below.refl _ _⟩
              | 10, ho =>
                obtain rfl := Option.some.inj ho
                have e33 : a.tmps[33]?.getD undef = .int .i64 (j : Int) := hf.1 ⟨9, .data⟩ (by simp) rfl _ 33 rfl rfl
                have hsh := HV.out
                exact wp_value (.int .i64 (V : Int)) (by unfold execOp; go_simp) ⟨rfl, Below.refl _ _⟩
              | 11, ho =>
                obtain rfl := Option.some.inj ho
                have e32 : a.tmps[32]?.getD undef = .int .i64 (X : Int) := hf.1 ⟨8, .data⟩ (by simp) rfl _ 32 rfl rfl
                have e34 : a.tmps[34]?.getD undef = .int .i64 (V : Int) := hf.1 ⟨10, .data⟩ (by simp) rfl _ 34 rfl rfl
                exact wp_value (rect X V) (by unfold execOp; go_simp) ⟨rfl, Below.refl _ _⟩
              | 12, ho =>
                obtain rfl := Option.some.inj ho
                have e35 : a.tmps[35]?.getD undef = rect X V := hf.1 ⟨11, .data⟩ (by simp) rfl _ 35 rfl rfl
                exact wp_enter 69 #[rect X V] (.int .u64 (p : Int)) _ (by unfold execOp; go_simp) (HP.out w2) (fun w' h => ⟨rfl, h⟩)
              | 13, ho =>
                obtain rfl := Option.some.inj ho
                have e30 : a.tmps[30]?.getD undef = .int .u64 (old : Int) := hf.1 ⟨6, .data⟩ (by simp) rfl _ 30 rfl rfl
                have e36 : a.tmps[36]?.getD undef = .int .u64 (p : Int) := hf.1 ⟨12, .data⟩ (by simp) rfl _ 36 rfl rfl
                exact wp_value (.int .u64 (n : Int)) (by unfold execOp; go_simp; exact HO.out) ⟨rfl, Below.refl _ _⟩
              | 14, ho =>
                obtain rfl := Option.some.inj ho
                have b4 : a.tmps[4]?.getD undef = .pointer (some ⟨w1.heap.size + 1, 0, none⟩) := hf.2 4 (by kernel_rfl)
                exact wp_value (.pointer (some ⟨w1.heap.size + 1, 2, none⟩)) (by unfold execOp; go_simp) ⟨rfl, Below.refl _ _⟩
              | 15, ho =>
                obtain rfl := Option.some.inj ho
                have e38 : a.tmps[38]?.getD undef = .pointer (some ⟨w1.heap.size + 1, 2, none⟩) := hf.1 ⟨14, .data⟩ (by simp) rfl _ 38 rfl rfl
                have e27 : a.tmps[27]?.getD undef = .int .i64 1 := hf.1 ⟨3, .data⟩ (by simp) rfl _ 27 rfl rfl
                exact wp_value (.pointer (some ⟨w1.heap.size + 1, 3, none⟩)) (by unfold execOp; go_simp) ⟨rfl, Below.refl _ _⟩
              | q + 16, ho => exact absurd hi (by omega)
            case st1 =>
              intro a w2 hb2 hf
              have HI2 := HI.out.later hb2
              have e39 : a.tmps[39]?.getD undef = .pointer (some ⟨w1.heap.size + 1, 3, none⟩) := hf.1 ⟨15, .data⟩ (by simp) rfl _ 39 rfl rfl
              have e37 : a.tmps[37]?.getD undef = .int .u64 (n : Int) := hf.1 ⟨13, .data⟩ (by simp) rfl _ 37 rfl rfl
              have hc : w2.cell? ⟨w1.heap.size + 1, 3, none⟩ = some (.int .u64 (old : Int)) := cell_of_row _ _ 3 _ _ _ HI2.brd
              have hfz : w2.frozen? ⟨w1.heap.size + 1, 3, none⟩ = false := frozen_of_row _ _ 3 _ _ HI2.brd
              exact wp_skip (by unfold execOp; go_simp) ⟨rfl, rfl⟩
            case en1 =>
              intro w2 hb2
              have HI3 := Lib.hid ((HI.out.later hb2).set1 n)
              clear hb2
              generalize w2.setCell ⟨w1.heap.size + 1, 3, none⟩ (.int .u64 (n : Int)) = w3 at *
              simp only [fill, Act.put]
              go_simp
              go_wp2_with fail
              go_roundw
              case rel => exact ⟨j + 1, by omega, by go_num, by rw [HZ.out, ← HN.out]; exact HI3.out⟩
              case measure => simp [intOf]; omega
        · obtain rfl : j = C := by omega
          have HI := Lib.hid hinv
          clear hinv
          go_wp2_with fail
          go_roundw
          case rel => exact ⟨k + 1, by omega, by go_num, by rw [← wB_row, ← wB_row]; exact HI.out⟩
          case measure => simp [intOf]; omega
    · obtain rfl : k = R := by omega
      rw [wB_end, wB_end] at hinv
      have q0 : wr.cell? ⟨w1.heap.size + 1, 0, none⟩ = some (.int .i64 (k : Int)) := cell_of_row _ _ 0 _ _ _ hinv.brd
      have q1 : wr.cell? ⟨w1.heap.size + 1, 1, none⟩ = some (.int .i64 (C : Int)) := cell_of_row _ _ 1 _ _ _ hinv.brd
      have q2 : wr.cell? ⟨w1.heap.size + 1, 2, none⟩ = some (.int .u64 (pat (onB (fun x y => !E x y) k C) 8 : Nat)) := cell_of_row _ _ 2 _ _ _ hinv.brd
      have q3 : wr.cell? ⟨w1.heap.size + 1, 3, none⟩ = some (.int .u64 (pat (onB E k C) 8 : Nat)) := cell_of_row _ _ 3 _ _ _ hinv.brd
      have HI := Lib.hid hinv
      have r0 : wr.cell? ⟨w.heap.size + 1, 0, none⟩ = some (.int .i64 0) := cell_of_row _ _ 0 _ _ _ hinv.res
      have r1 : wr.cell? ⟨w.heap.size + 1, 1, none⟩ = some (.int .i64 0) := cell_of_row _ _ 1 _ _ _ hinv.res
      have r2 : wr.cell? ⟨w.heap.size + 1, 2, none⟩ = some (.int .u64 0) := cell_of_row _ _ 2 _ _ _ hinv.res
      have r3 : wr.cell? ⟨w.heap.size + 1, 3, none⟩ = some (.int .u64 0) := cell_of_row _ _ 3 _ _ _ hinv.res
      have z0 : wr.frozen? ⟨w.heap.size + 1, 0, none⟩ = false := frozen_of_row _ _ 0 _ _ hinv.res
      have z1 : wr.frozen? ⟨w.heap.size + 1, 1, none⟩ = false := frozen_of_row _ _ 1 _ _ hinv.res
      have z2 : wr.frozen? ⟨w.heap.size + 1, 2, none⟩ = false := frozen_of_row _ _ 2 _ _ hinv.res
      have z3 : wr.frozen? ⟨w.heap.size + 1, 3, none⟩ = false := frozen_of_row _ _ 3 _ _ hinv.res
      clear hinv
      go_wp2_with fail
      refine bodyPost_ret (v := brd k C (pat (onB (fun x y => !E x y) k C) 8) (pat (onB E k C) 8)) (by simp [results, Tryd.results81, go_sem, r0, r1, r2, r3]) rfl ⟨rfl, ?_⟩
      exact (((HI.out.below.setCell (by simp) _).setCell (by simp) _).setCell (by simp) _).setCell (by simp) _
end Go.Proofs.YtgfhahlkffagaaaDoor.Board
