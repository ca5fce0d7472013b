/-
  Texts of one seat, joined: MatI, MatrixOfWalk, ErrW, Board.
-/
import Derived.Test.YtffilggpimdikaaGreatDoorJ1
import Derived.Test.YtffilggpimdikaaGreatDoorJ19
import Derived.Test.YtffilggpimdikaaGreatDoorMatI
import Derived.Test.YtffilggpimdikaaGreatDoorJ10
import Derived.Lib.BufferMore
import Derived.Test.YtffilggpimdikaaGreatDoorJ13
import Derived.Test.YtffilggpimdikaaGreatDoorJ14
import Derived.Test.YtffilggpimdikaaGreatDoorJ9
import Derived.Deep.QuietTactic
import Derived.BigQuiet
import Derived.Test.YtffilggpimdikaaGreatDoorJ12
import Derived.Test.YtffilggpimdikaaGreatDoorJ5


/-
  The walk of the law on MatrixOf.
-/
namespace Go.Proofs.YtffilggpimdikaaGreatDoor.fnExactMatrixOf
open Go.RowKit Go.Shelf Go.Proofs.YtffilggpimdikaaGreatDoor.Plain Go.Proofs.YtffilggpimdikaaGreatDoor.Base Go.Proofs.YtffilggpimdikaaGreatDoor.Rect Go.Proofs.YtffilggpimdikaaGreatDoor.Tree Go.Proofs.YtffilggpimdikaaGreatDoor.Read Go.Proofs.YtffilggpimdikaaGreatDoor.TreeOf Go.Proofs.YtffilggpimdikaaGreatDoor.TreeIn Go.Proofs.YtffilggpimdikaaGreatDoor.Leaf Go.Proofs.YtffilggpimdikaaGreatDoor.Talk Go.Proofs.YtffilggpimdikaaGreatDoor.MatT Go.Proofs.YtffilggpimdikaaGreatDoor.MatP
open Go.Proofs.YtffilggpimdikaaGreatDoor.SaidMat (mtx)
set_option linter.unusedVariables false
set_option linter.unusedSimpArgs false

/-- one step more: what a callee leaves alone -/
theorem bstep {w a b : World} (h : Below w.heap.size w a) (h2 : Below a.heap.size a b) : Below w.heap.size w b := h.trans (h2.mono h.size)
theorem bstepA {w a : World} (h : Below w.heap.size w a) (o : Obj) : Below w.heap.size w (a.alloc o) := h.alloc h.size o

/-- the law's own copy of its argument, later on -/
theorem three_of {w w1 : World} {a b c : Value} {T : TypeId} (hb : Below (w.alloc (.cells #[a, b, c] T)).heap.size (w.alloc (.cells #[a, b, c] T)) w1) :
    w1.cell? ⟨w.heap.size, 0, none⟩ = some a ∧ w1.cell? ⟨w.heap.size, 1, none⟩ = some b ∧ w1.cell? ⟨w.heap.size, 2, none⟩ = some c := by
  have hs : (w.alloc (.cells #[a, b, c] T)).heap.size = w.heap.size + 1 := by simp
  refine ⟨?_, ?_, ?_⟩
  · exact (hb.cell (p := ⟨w.heap.size, 0, none⟩) (by show w.heap.size < _; omega)).trans (by simp)
  · exact (hb.cell (p := ⟨w.heap.size, 1, none⟩) (by show w.heap.size < _; omega)).trans (by simp)
  · exact (hb.cell (p := ⟨w.heap.size, 2, none⟩) (by show w.heap.size < _; omega)).trans (by simp)
theorem three_on {w1 w2 : World} {g : Nat} {a b c : Value} (hb : Below w1.heap.size w1 w2) (hg : g < w1.heap.size)
    (h0 : w1.cell? ⟨g, 0, none⟩ = some a) (h1 : w1.cell? ⟨g, 1, none⟩ = some b) (h2 : w1.cell? ⟨g, 2, none⟩ = some c) :
    w2.cell? ⟨g, 0, none⟩ = some a ∧ w2.cell? ⟨g, 1, none⟩ = some b ∧ w2.cell? ⟨g, 2, none⟩ = some c :=
  ⟨(hb.cell (p := ⟨g, 0, none⟩) hg).trans h0, (hb.cell (p := ⟨g, 1, none⟩) hg).trans h1, (hb.cell (p := ⟨g, 2, none⟩) hg).trans h2⟩

theorem bit_all {r x : Nat} (h : x < r) : (allN r).testBit x = true := by
  unfold allN
  rw [Nat.testBit_two_pow_sub_one]
  exact decide_eq_true h
end Go.Proofs.YtffilggpimdikaaGreatDoor.fnExactMatrixOf

/-
  For how many inputs a protocol finds another value: the program and the reference.
-/
namespace Go.Proofs.YtffilggpimdikaaGreatDoor.ErrW
open Go.RowKit Go.Shelf Go.Proofs.YtffilggpimdikaaGreatDoor.Plain Go.Proofs.YtffilggpimdikaaGreatDoor.Base Go.Proofs.YtffilggpimdikaaGreatDoor.Valid Go.Proofs.YtffilggpimdikaaGreatDoor.Entry Go.Proofs.YtffilggpimdikaaGreatDoor.Tree Go.Proofs.YtffilggpimdikaaGreatDoor.Read Go.Proofs.YtffilggpimdikaaGreatDoor.TreeOf Go.Proofs.YtffilggpimdikaaGreatDoor.TreeIn Go.Proofs.YtffilggpimdikaaGreatDoor.FreeL Go.Proofs.YtffilggpimdikaaGreatDoor.Talk Go.Proofs.YtffilggpimdikaaGreatDoor.Join Go.Proofs.YtffilggpimdikaaGreatDoor.Ops
open Go.Proofs.YtffilggpimdikaaGreatDoor.NodeH (eval_get)
open Go.Proofs.YtffilggpimdikaaGreatDoor.SaidMat (mtx)
open Go.Proofs.YtffilggpimdikaaGreatDoor.Split (wp_skip)
open Go.Proofs.YtffilggpimdikaaGreatDoor.fnExactCountOnes (cntI impl_count l1Int_any count_next)
open Go.Proofs.YtffilggpimdikaaGreatDoor.Free (fill wp_value wp_enter wp_load_row freeB)
set_option linter.unusedVariables false
set_option linter.unusedSimpArgs false
set_option maxRecDepth 100000

def xorS : ByteArray := ⟨#[120, 111, 114]⟩
theorem known_xor : opKnown xorS = true := by unfold opKnown xorS; rw [ByteArray.toList_eq]; rfl
theorem opB_xor (a b : Bool) : opB xorS a b = !(a == b) := by unfold opB xorS; rw [ByteArray.toList_eq]; cases a <;> cases b <;> rfl
theorem cells3 {w : World} {b : Nat} {c0 c1 c2 : Value} {ty : TypeId} (h : w.heap[b]? = some (.cells #[c0, c1, c2] ty (0, 0))) : w.cell? ⟨b, 0, none⟩ = some c0 ∧ w.cell? ⟨b, 1, none⟩ = some c1 ∧ w.cell? ⟨b, 2, none⟩ = some c2 :=
  ⟨cell_of_row _ _ 0 _ _ _ h, cell_of_row _ _ 1 _ _ _ h, cell_of_row _ _ 2 _ _ _ h⟩
theorem zero_cnt : cntI 0 0 (str []) = -1 := by unfold cntI validB; simp
/-- two values differ where their sum is 1 -/
theorem differ (F E : Nat → Nat → Bool) (r c : Nat) (hc : 1 ≤ c) (k : Nat) (hk : k < r * c) (f e j : ByteArray) (hf : f = str (rowsB F r c)) (he : e = str (rowsB E r c)) (hj : j = str (rowsB (joinE xorS F E) r c)) (h1 : k < f.size) (h2 : k < e.size) (h3 : k < j.size) :
    ((j[k].toNat : Int) == 49) = !((f[k].toNat : Int) == (e[k].toNat : Int)) := by
  have hx : k / c < r := by
    rw [Nat.div_lt_iff_lt_mul (by omega)]
    exact hk
  have hy : k % c < c := Nat.mod_lt _ (by omega)
  have hkk : k / c * c + k % c = k := by rw [Nat.mul_comm]; exact Nat.div_add_mod k c
  have a1 : f[k].toNat = if F (k / c) (k % c) then 49 else 48 := by
    have := byte_xy F r c (k / c) (k % c) f hf hx hy (by rw [hkk]; exact h1)
    simpa only [hkk] using this
  have a2 : e[k].toNat = if E (k / c) (k % c) then 49 else 48 := by
    have := byte_xy E r c (k / c) (k % c) e he hx hy (by rw [hkk]; exact h2)
    simpa only [hkk] using this
  have a3 : j[k].toNat = if joinE xorS F E (k / c) (k % c) then 49 else 48 := by
    have := byte_xy (joinE xorS F E) r c (k / c) (k % c) j hj hx hy (by rw [hkk]; exact h3)
    simpa only [hkk] using this
  rw [a1, a2, a3]
  unfold joinE
  rw [opB_xor]
  cases F (k / c) (k % c) <;> cases E (k / c) (k % c) <;> rfl

set_option maxHeartbeats 2000000 in
theorem impl_err (s : ByteArray) (r c : Int) (ms : ByteArray) (A B : Int) (u : ByteArray) (b : Bool) (A2 B2 : Int) (u2 : ByteArray) (b2 : Bool) (hu2 : u2.size ≤ maxLen)
    (hM : ∀ W : World, Calls Tryz.prog 17 #[.string s, .int .i64 r, .int .i64 c] W fun e w' => e = .returned (.tuple #[mat A B u, .bool b]) ∧ Below W.heap.size W w')
    (hJ : ∀ W : World, Calls Tryz.prog 76 #[.string ⟨#[120, 111, 114]⟩, mat A B u, mat r c ms] W fun e w' => e = .returned (.tuple #[mat A2 B2 u2, .bool b2]) ∧ Below W.heap.size W w') (w : World) :
    Calls Tryz.prog 39 #[.string s, mat r c ms] w fun e w' => e = .returned (.int .i64 (cntI A2 B2 u2)) ∧ Below w.heap.size w w' := by
  have HM := Lib.hid hM
  have HJ := Lib.hid hJ
  have HC := Lib.hid (fun W => impl_count A2 B2 u2 hu2 W)
  generalize cntI A2 B2 u2 = n at *
  obtain ⟨D, hD⟩ : ∃ D, w.heap.size = D := ⟨_, rfl⟩
  clear hM hJ hu2
  go_enter Tryz.func39, Tryz.ntmps39
  go_wp2_with fail
  refine (HM.out _).mono ?_
  rintro e w1 ⟨rfl, hb1⟩
  have n0 := heap_alloc_new w (.cells #[.int .i64 r, .int .i64 c, .string ms] 24)
  have k0 := (hb1.block _ (Array.getElem?_eq_some_iff.1 n0).1).trans n0
  have hB1 := ((Below.refl w.heap.size w).alloc (Nat.le_refl _) (.cells #[.int .i64 r, .int .i64 c, .string ms] 24)).trans (hb1.mono (by simp))
  rw [hD] at k0
  obtain ⟨G, hG⟩ : ∃ G, w1.heap.size = G := ⟨_, rfl⟩
  have hlt : D < w1.heap.size := (Array.getElem?_eq_some_iff.1 k0).1
  have k1 := (heap_alloc_old w1 (.cells #[.int .i64 A, .int .i64 B, .string u] 24) hlt).trans k0
  have n1 := heap_alloc_new w1 (.cells #[.int .i64 A, .int .i64 B, .string u] 24)
  rw [hG] at n1 hlt
  have HB1 := Lib.hid (hB1.alloc hB1.size (.cells #[.int .i64 A, .int .i64 B, .string u] 24))
  obtain ⟨m0, m1, m2⟩ := cells3 k1
  obtain ⟨f0, f1, f2⟩ := cells3 n1
  have hne : D ≠ G := by omega
  have hne2 : G ≠ D := by omega
  clear hb1 n0 k0 hB1 k1 n1 hlt HM hD
  go_wp2_with fail
  generalize w1.alloc (.cells #[.int .i64 A, .int .i64 B, .string u] 24) = w2 at *
  refine (HJ.out _).mono ?_
  rintro e w3 ⟨rfl, hb3⟩
  have HB3 := Lib.hid (HB1.out.trans (hb3.mono HB1.out.size))
  have HB4 := Lib.hid (HB3.out.alloc HB3.out.size (.cells #[.int .i64 A2, .int .i64 B2, .string u2] 24))
  clear hb3 HJ m0 m1 m2 f0 f1 f2 hG
  go_wp2_with fail
  refine (HC.out _).mono ?_
  rintro e w5 ⟨rfl, hb5⟩
  have HB5 := Lib.hid (HB4.out.trans (hb5.mono HB4.out.size))
  clear hb5
  go_wp2_with fail
  go_ret
  exact ⟨rfl, HB5.out⟩

/-- the blocks of the reference's call: the matrix, and the one that is found -/
structure Eb (w wr : World) (B D : Nat) (r c : Int) (ms fs : ByteArray) : Prop where
  arg : wr.heap[B]? = some (.cells #[.int .i64 r, .int .i64 c, .string ms] 24 (0, 0))
  found : wr.heap[D]? = some (.cells #[.int .i64 r, .int .i64 c, .string fs] 24 (0, 0))
  below : Below w.heap.size w wr
theorem Eb.later {w wr w2 : World} {B D : Nat} {r c : Int} {ms fs : ByteArray} (h : Eb w wr B D r c ms fs) (hb : Below wr.heap.size wr w2) : Eb w w2 B D r c ms fs :=
  have k : ∀ {g : Nat} {o : Obj}, wr.heap[g]? = some o → w2.heap[g]? = some o := fun e => (hb.block _ (Array.getElem?_eq_some_iff.1 e).1).trans e
  ⟨k h.arg, k h.found, h.below.trans (hb.mono h.below.size)⟩

end Go.Proofs.YtffilggpimdikaaGreatDoor.ErrW

/-
  The program's board: the entries of a matrix as a set for each value. Its contract, and those of its small methods.
-/
namespace Go.Proofs.YtffilggpimdikaaGreatDoor.Board
open Go.RowKit Go.Proofs.YtffilggpimdikaaGreatDoor.Plain Go.Proofs.YtffilggpimdikaaGreatDoor.Base Go.Proofs.YtffilggpimdikaaGreatDoor.Valid Go.Proofs.YtffilggpimdikaaGreatDoor.Law Go.Proofs.YtffilggpimdikaaGreatDoor.GridPlain Go.Proofs.YtffilggpimdikaaGreatDoor.Grid Go.Proofs.YtffilggpimdikaaGreatDoor.Entry Go.Proofs.YtffilggpimdikaaGreatDoor.Pat Go.Proofs.YtffilggpimdikaaGreatDoor.Rect Go.Proofs.YtffilggpimdikaaGreatDoor.Patch Go.Proofs.YtffilggpimdikaaGreatDoor.FreeL
open Go.Proofs.YtffilggpimdikaaGreatDoor.Free (fill wp_value wp_enter wp_load_row freeB)
set_option linter.unusedVariables false

/-- a board's value -/
abbrev brd (r c : Int) (z o : Nat) : Value := .agg #[.int .i64 r, .int .i64 c, .int .u64 (z : Int), .int .u64 (o : Int)]
/-- the bytes of the entries of so many rows, and of so many columns of the next one, for which P holds -/
def wB (P : Nat → Nat → Bool) (c x y : Nat) : Nat → Nat := fun j => if j < x then setB (P j) c else if j = x then setB (P j) y else 0
/-- the bytes of all entries for which P holds -/
def onB (P : Nat → Nat → Bool) (r c : Nat) : Nat → Nat := fun j => if j < r then setB (P j) c else 0
theorem wB_lt (P : Nat → Nat → Bool) (c x y : Nat) (hc : c ≤ 8) (hy : y ≤ 8) (j : Nat) : wB P c x y j < 256 := by
  unfold wB
  split
  · exact setB_lt8 _ _ hc
  · split
    · exact setB_lt8 _ _ hy
    · omega
theorem onB_lt (P : Nat → Nat → Bool) (r c : Nat) (hc : c ≤ 8) (j : Nat) : onB P r c j < 256 := by
  unfold onB
  split
  · exact setB_lt8 _ _ hc
  · omega
theorem wB_start (P : Nat → Nat → Bool) (c : Nat) : pat (wB P c 0 0) 8 = 0 := (pat_zero 8 _).2 fun j _ => by
  unfold wB
  rw [if_neg (by omega)]
  split
  · rfl
  · rfl
theorem wB_row (P : Nat → Nat → Bool) (c x : Nat) : wB P c x c = wB P c (x + 1) 0 := by
  funext j
  unfold wB
  by_cases h : j < x
  · rw [if_pos h, if_pos (by omega)]
  · rw [if_neg h]
    by_cases e : j = x
    · rw [if_pos e, if_pos (by omega)]
    · rw [if_neg e, if_neg (by omega)]
      split <;> rfl
theorem wB_end (P : Nat → Nat → Bool) (r c : Nat) : wB P c r 0 = onB P r c := by
  funext j
  unfold wB onB
  by_cases h : j < r
  · rw [if_pos h, if_pos h]
  · rw [if_neg h, if_neg h]
    split <;> rfl
theorem wB_no (P : Nat → Nat → Bool) (c x y : Nat) (h : P x y = false) : wB P c x (y + 1) = wB P c x y := by
  funext j
  unfold wB
  by_cases hj : j < x
  · rw [if_pos hj, if_pos hj]
  · rw [if_neg hj, if_neg hj]
    by_cases e : j = x
    · subst e
      rw [if_pos rfl, if_pos rfl, setB, if_neg (by rw [h]; decide), Nat.add_zero]
    · rw [if_neg e, if_neg e]
theorem pow_bit (x j : Nat) : (2 ^ x).testBit j = decide (x = j) := Nat.testBit_two_pow
theorem wB_yes (P : Nat → Nat → Bool) (c x y : Nat) (hc : c ≤ 8) (hx : x < 8) (hy : y < 8) (h : P x y = true) : pat (wB P c x y) 8 ||| pat (rectB (2 ^ x) (2 ^ y)) 8 = pat (wB P c x (y + 1)) 8 := by
  have h2 : 2 ^ y < 256 := Nat.lt_of_lt_of_le (Nat.pow_lt_pow_right (by decide) hy) (by decide)
  rw [pat_or 8 _ _ (wB_lt P c x y hc (by omega)) (rectB_lt _ _ h2)]
  apply pat_congr
  intro j hj
  unfold wB rectB
  rw [pow_bit]
  by_cases e : x = j
  · subst e
    simp only [Nat.lt_irrefl, if_false, if_true, decide_true]
    have := setB_or (P x) y
    rwa [if_pos h] at this
  · rw [if_neg (show ¬ (decide (x = j) = true) by simpa using e)]
    by_cases hj2 : j < x
    · rw [if_pos hj2, if_pos hj2, Nat.or_zero]
    · rw [if_neg hj2, if_neg hj2, if_neg (fun h => e h.symm), if_neg (fun h => e h.symm), Nat.or_zero]

/-- block g holds a grid -/
def GHolds (w : World) (g : Nat) (r c : Int) (f : Nat → Int) : Prop := w.heap[g]? = some (.cells (gcells r c f) 52 (0, 0))
theorem two_blk {w w1 : World} {o1 o2 : Obj} (hb : Below ((w.alloc o1).alloc o2).heap.size ((w.alloc o1).alloc o2) w1) : w1.heap[w.heap.size + 1]? = some o2 ∧ Below w.heap.size w w1 ∧ w.heap.size + 2 ≤ w1.heap.size := by
  have hs : ((w.alloc o1).alloc o2).heap.size = w.heap.size + 2 := by simp
  have h2 : ((w.alloc o1).alloc o2).heap[w.heap.size + 1]? = some o2 := by
    have := heap_alloc_new (w.alloc o1) o2
    rwa [World.size_alloc] at this
  exact ⟨(hb.block _ (by omega)).trans h2, (((Below.refl w.heap.size w).alloc (Nat.le_refl _) _).alloc (by simp) _).trans (hb.mono (by omega)), by have := hb.size; omega⟩
theorem wrap_small (n : Nat) (h : n < 256) : IntKind.i64.wrap (n : Int) = (n : Int) := by
  rw [IntKind.wrap_i64]
  omega
theorem eval_get {a : Act} {d : Tmp} {v : Value} (h : a.tmps[d]?.getD undef = v) (_ : True) : a.eval (.tmp d) = v := by
  rw [← h]
  show a.tmps.getD d undef = _
  simp [Array.getD_eq_getD_getElem?]
theorem wp_skip {P : Program} {o : Oper} {a : Act} {w w' : World} {K : Act → World → Prop} {Q : Exit → Act → World → Prop} (h : (execOp a.eval o).run P w = .ok .skip w') (hK : K (a.put o.dst undef) w') : o.wp P a w K Q := by
  unfold Oper.wp
  rw [h]
  exact hK

end Go.Proofs.YtffilggpimdikaaGreatDoor.Board

