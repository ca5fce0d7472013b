/-
  Texts of one seat, joined: Grow, MaxM, KeysR.
-/
import Derived.Test.YtohkllmhknjkoaaDoorJp1
import Derived.Test.YtohkllmhknjkoaaDoorJp18
import Derived.RangeFuncNested
import Derived.RangeFuncBound
import Derived.RangeFuncCalls
import Derived.RangeFuncLeaves
import Derived.RangeFuncStops
import Derived.RangeFuncKeeps
import Derived.Maps.OwnIn
import Derived.Maps.Ext
import Derived.Sort.MapsRangeIn
import Derived.DeepKeys4
import Derived.MapViews
import Derived.Shelf.Abstract
import Derived.Shelf.AbstractIn
import Derived.WalkKit
import Derived.OwnWalkIn
import Derived.TacticsInMore
import Derived.RegionIn
import Derived.LoopNIn
import Derived.LoopIn
import Derived.OpenShut
import Derived.Lib.SmallJoins
import Derived.Lib.Hide
import Derived.Test.YtohkllmhknjkoaaDoorJp4
/-
  The reference's l2Grow and GrowRect; the board's grow, isBit, GrowRect.
-/
namespace Go.Proofs.YtohkllmhknjkoaaDoor.Grow
open Go.RowKit Go.Proofs.YtohkllmhknjkoaaDoor.Plain Go.Proofs.YtohkllmhknjkoaaDoor.Base Go.Proofs.YtohkllmhknjkoaaDoor.Valid Go.Proofs.YtohkllmhknjkoaaDoor.Law Go.Proofs.YtohkllmhknjkoaaDoor.GridPlain Go.Proofs.YtohkllmhknjkoaaDoor.Grid Go.Proofs.YtohkllmhknjkoaaDoor.Entry Go.Proofs.YtohkllmhknjkoaaDoor.Pat Go.Proofs.YtohkllmhknjkoaaDoor.Rect Go.Proofs.YtohkllmhknjkoaaDoor.Patch Go.Proofs.YtohkllmhknjkoaaDoor.FreeL Go.Proofs.YtohkllmhknjkoaaDoor.Board Go.Proofs.YtohkllmhknjkoaaDoor.BoardM Go.Proofs.YtohkllmhknjkoaaDoor.RValid Go.Proofs.YtohkllmhknjkoaaDoor.Colour Go.Proofs.YtohkllmhknjkoaaDoor.Where Go.Proofs.YtohkllmhknjkoaaDoor.With Go.Proofs.YtohkllmhknjkoaaDoor.Cols
open Go.Proofs.YtohkllmhknjkoaaDoor.Free (fill wp_value wp_enter wp_load_row freeB)
set_option linter.unusedVariables false

/-- a box, the rectangle's box, the result's block -/
structure GInv (w wr : World) (X : Obj) (r c a b : Int) : Prop where
  m : wr.heap[w.heap.size]? = some X
  t : THolds wr (w.heap.size + 1) 39 r c
  o : THolds wr (w.heap.size + 1 + 1) 39 a b
  below : Below w.heap.size w wr
theorem GInv.later {w wr w2 : World} {X : Obj} {r c a b : Int} (h : GInv w wr X r c a b) (hb : Below wr.heap.size wr w2) : GInv w w2 X r c a b :=
  ⟨(hb.block _ (Array.getElem?_eq_some_iff.1 h.m).1).trans h.m, th_on h.t hb, th_on h.o hb, rstep h.below hb⟩
theorem GInv.start (w : World) (X : Obj) (r c a b : Int) : GInv w (((w.alloc X).alloc (.cells #[.int .i64 r, .int .i64 c] 39)).alloc (.cells #[.int .i64 a, .int .i64 b] 39)) X r c a b := by
  obtain ⟨e0, e1, e2, hb0, _⟩ := three_box (w := w) (a := X) (b := .cells #[.int .i64 r, .int .i64 c] 39) (c := .cells #[.int .i64 a, .int .i64 b] 39)
  exact ⟨e0, e1, e2, hb0⟩
theorem GInv.fr {w wr : World} {X : Obj} {r c a b : Int} (h : GInv w wr X r c a b) : wr.frozen? ⟨w.heap.size + 1 + 1, 0, none⟩ = false ∧ wr.frozen? ⟨w.heap.size + 1 + 1, 1, none⟩ = false :=
  ⟨frozen_of_row _ _ 0 _ _ h.o, frozen_of_row _ _ 1 _ _ h.o⟩
theorem GInv.sz {w wr : World} {X : Obj} {r c a b : Int} (h : GInv w wr X r c a b) : w.heap.size + 3 ≤ wr.heap.size := by
  have := (Array.getElem?_eq_some_iff.1 h.o).1
  omega

/-- sets of the same members -/
theorem setB_same {P Q : Nat → Bool} : ∀ n, (∀ i, i < n → P i = Q i) → setB P n = setB Q n := by
  intro n h
  refine Nat.eq_of_testBit_eq fun i => ?_
  rw [setB_bit, setB_bit]
  by_cases hi : i < n
  · rw [h i hi]
  · rw [decide_eq_false hi]; rfl

theorem rows_eq (E P : Nat → Nat → Bool) (b : Bool) (hP : ∀ x y, P x y = (E x y == b)) (R C c : Nat) (hR : R ≤ 8) (hC : C ≤ 8) (h8 : c < 256) (hc : ∀ y, c.testBit y = true → y < C) :
    setB (fun x => decide (pat (rectB (2 ^ x) c) 8 &&& (18446744073709551615 - pat (onB P R C) 8) = 0)) R = setB (fun x => allTo (fun y x => E x y) c b x C) R := by
  refine setB_same R fun x hx => ?_
  have hX8 : 2 ^ x < 256 := Nat.lt_of_lt_of_le (Nat.pow_lt_pow_right (by decide) (show x < 8 by omega)) (by decide)
  have e := plain_pat P R C (2 ^ x) c hR hC hX8 h8
  have e2 := allTo_iff (fun y x => E x y) c b x C
  have e3 : allP P R C (2 ^ x) c ↔ ∀ y, y < C → c.testBit y = true → E x y = b := by
    unfold allP
    constructor
    · intro h y hy hb
      have := (h x y (by rw [pow_bit]; simp) hb).2
      rw [hP, beq_iff_eq] at this
      exact this
    · intro h x' y hx' hb
      rw [pow_bit, decide_eq_true_iff] at hx'
      subst hx'
      refine ⟨⟨hx, hc y hb⟩, ?_⟩
      rw [hP, beq_iff_eq]
      exact h y (hc y hb) hb
  show decide _ = allTo _ _ _ _ _
  rw [Bool.eq_iff_iff, decide_eq_true_iff]
  exact e.trans (e3.trans e2.symm)

theorem cols_eq (E P : Nat → Nat → Bool) (b : Bool) (hP : ∀ x y, P x y = (E x y == b)) (R C c : Nat) (hR : R ≤ 8) (hC : C ≤ 8) (h8 : c < 256) (hc : ∀ x, c.testBit x = true → x < R) :
    setB (fun y => decide (pat (rectB c (2 ^ y)) 8 &&& (18446744073709551615 - pat (onB P R C) 8) = 0)) C = setB (fun y => allTo E c b y R) C := by
  refine setB_same C fun y hy => ?_
  have hX8 : 2 ^ y < 256 := Nat.lt_of_lt_of_le (Nat.pow_lt_pow_right (by decide) (show y < 8 by omega)) (by decide)
  have e := plain_pat P R C c (2 ^ y) hR hC h8 hX8
  have e2 := allTo_iff E c b y R
  have e3 : allP P R C c (2 ^ y) ↔ ∀ x, x < R → c.testBit x = true → E x y = b := by
    unfold allP
    constructor
    · intro h x hx hb
      have := (h x y hb (by rw [pow_bit]; simp)).2
      rw [hP, beq_iff_eq] at this
      exact this
    · intro h x y' hb hy'
      rw [pow_bit, decide_eq_true_iff] at hy'
      subst hy'
      refine ⟨⟨hc x hb, hy⟩, ?_⟩
      rw [hP, beq_iff_eq]
      exact h x (hc x hb) hb
  show decide _ = allTo _ _ _ _ _
  rw [Bool.eq_iff_iff, decide_eq_true_iff]
  exact e.trans (e3.trans e2.symm)

set_option maxHeartbeats 1000000 in
theorem isBit_any (v : Int) (hv : v = -2 ∨ v = -1 ∨ v = 0 ∨ v = 1) (w : World) :
    Calls Tryd.prog 65 #[.int .i64 v] w fun e w' => e = .returned (.bool (decide (0 ≤ v))) ∧ w = w' := by
  rcases hv with rfl | rfl | rfl | rfl
  all_goals
    go_enter Tryd.func65, Tryd.ntmps65
    go_wp2_with fail
    go_ret
    exact ⟨rfl, rfl⟩

end Go.Proofs.YtohkllmhknjkoaaDoor.Grow

/-
  The mathematics of maximal rectangles: closed pairs of sets of rows and columns, their list by rising rows.
-/
namespace Go.Proofs.YtohkllmhknjkoaaDoor.MaxM
open Go.RowKit Go.Proofs.YtohkllmhknjkoaaDoor.Pat Go.Proofs.YtohkllmhknjkoaaDoor.Cols
set_option linter.unusedVariables false

/-- the columns that have a value in all rows of a set; the rows that have it in all columns of a set -/
def cS (E : Nat → Nat → Bool) (b : Bool) (R C S : Nat) : Nat := setB (fun y => allTo E S b y R) C
def rS (E : Nat → Nat → Bool) (b : Bool) (R C T : Nat) : Nat := setB (fun x => allTo (fun y x => E x y) T b x C) R
theorem cS_bit (E : Nat → Nat → Bool) (b : Bool) (R C S y : Nat) : (cS E b R C S).testBit y = true ↔ y < C ∧ ∀ x, x < R → S.testBit x = true → E x y = b := by
  unfold cS
  rw [setB_bit, Bool.and_eq_true, decide_eq_true_iff, allTo_iff]
theorem rS_bit (E : Nat → Nat → Bool) (b : Bool) (R C T x : Nat) : (rS E b R C T).testBit x = true ↔ x < R ∧ ∀ y, y < C → T.testBit y = true → E x y = b := by
  unfold rS
  rw [setB_bit, Bool.and_eq_true, decide_eq_true_iff, allTo_iff]
theorem cS_lt (E : Nat → Nat → Bool) (b : Bool) (R C S : Nat) : cS E b R C S < 2 ^ C := setB_lt _ C
theorem rS_lt (E : Nat → Nat → Bool) (b : Bool) (R C S : Nat) : rS E b R C S < 2 ^ R := setB_lt _ R
/-- the rows that fit have the first ones -/
theorem rows_grow (E : Nat → Nat → Bool) (b : Bool) (R C S x : Nat) (hx : x < R) (h : S.testBit x = true) : (rS E b R C (cS E b R C S)).testBit x = true :=
  (rS_bit ..).2 ⟨hx, fun y hy hb => ((cS_bit ..).1 hb).2 x hx h⟩
/-- the columns that fit do not change -/
theorem cols_closed (E : Nat → Nat → Bool) (b : Bool) (R C S : Nat) : cS E b R C (rS E b R C (cS E b R C S)) = cS E b R C S := by
  refine Nat.eq_of_testBit_eq fun y => ?_
  rw [Bool.eq_iff_iff]
  constructor
  · intro h
    obtain ⟨h1, h2⟩ := (cS_bit ..).1 h
    exact (cS_bit ..).2 ⟨h1, fun x hx hb => h2 x hx (rows_grow E b R C S x hx hb)⟩
  · intro h
    obtain ⟨h1, h2⟩ := (cS_bit ..).1 h
    exact (cS_bit ..).2 ⟨h1, fun x hx hb => ((rS_bit ..).1 hb).2 y h1 h⟩
/-- a set that is not empty keeps a row -/
theorem rows_pos (E : Nat → Nat → Bool) (b : Bool) (R C S : Nat) (h1 : 1 ≤ S) (h2 : S < 2 ^ R) : 1 ≤ rS E b R C (cS E b R C S) := by
  obtain ⟨x, hx⟩ : ∃ x, S.testBit x = true := Nat.exists_testBit_of_ne_zero (by omega)
  have hxR : x < R := by
    rcases Nat.lt_or_ge x R with h | h
    · exact h
    · rw [bit_beyond S x R h2 h] at hx
      cases hx
  have h := rows_grow E b R C S x hxR hx
  rcases Nat.eq_zero_or_pos (rS E b R C (cS E b R C S)) with h0 | h0
  · rw [h0] at h
    simp at h
  · exact h0

/-- the maximal rectangles whose rows are at most k -/
def mx (E : Nat → Nat → Bool) (b : Bool) (R C : Nat) : Nat → List (Int × Int)
  | 0 => []
  | k + 1 => mx E b R C k ++ (if 0 < cS E b R C (k + 1) ∧ rS E b R C (cS E b R C (k + 1)) = k + 1 then [(((k + 1 : Nat) : Int), ((cS E b R C (k + 1) : Nat) : Int))] else [])
theorem mx_len (E : Nat → Nat → Bool) (b : Bool) (R C : Nat) : ∀ k, (mx E b R C k).length ≤ k
  | 0 => Nat.le_refl _
  | k + 1 => by
    have := mx_len E b R C k
    rw [mx, List.length_append]
    split <;> simp <;> omega
theorem mx_mem (E : Nat → Nat → Bool) (b : Bool) (R C : Nat) (p : Int × Int) : ∀ k, p ∈ mx E b R C k ↔ ∃ S, 1 ≤ S ∧ S ≤ k ∧ 0 < cS E b R C S ∧ rS E b R C (cS E b R C S) = S ∧ p = ((S : Int), ((cS E b R C S : Nat) : Int))
  | 0 => by
    constructor
    · intro h; cases h
    · rintro ⟨S, h1, h2, _⟩; omega
  | k + 1 => by
    rw [mx, List.mem_append, mx_mem E b R C p k]
    constructor
    · rintro (⟨S, h1, h2, h3⟩ | h)
      · exact ⟨S, h1, by omega, h3⟩
      · split at h
        · rename_i hc
          simp only [List.mem_singleton] at h
          exact ⟨k + 1, by omega, Nat.le_refl _, hc.1, hc.2, h⟩
        · cases h
    · rintro ⟨S, h1, h2, h3, h4, h5⟩
      by_cases e : S = k + 1
      · subst e
        right
        rw [if_pos ⟨h3, h4⟩, h5]
        exact List.mem_singleton.2 rfl
      · exact .inl ⟨S, h1, by omega, h3, h4, h5⟩
theorem mx_rises (E : Nat → Nat → Bool) (b : Bool) (R C : Nat) : ∀ k, (mx E b R C k).Pairwise (fun p q => p.1 < q.1)
  | 0 => List.Pairwise.nil
  | k + 1 => by
    rw [mx, List.pairwise_append]
    refine ⟨mx_rises E b R C k, by split <;> simp, fun p hp q hq => ?_⟩
    obtain ⟨S, h1, h2, _, _, rfl⟩ := (mx_mem E b R C p k).1 hp
    split at hq
    · simp only [List.mem_singleton] at hq
      subst hq
      show (S : Int) < ((k + 1 : Nat) : Int)
      omega
    · cases hq
theorem mx_wf (E : Nat → Nat → Bool) (b : Bool) (R C k : Nat) (hC : C ≤ 8) (p : Int × Int) (h : p ∈ mx E b R C k) : (1 ≤ p.1 ∧ p.1 ≤ k) ∧ 1 ≤ p.2 ∧ p.2 < 256 := by
  obtain ⟨S, h1, h2, h3, _, rfl⟩ := (mx_mem E b R C p k).1 h
  have h4 := cS_lt E b R C S
  have h5 : 2 ^ C ≤ 256 := Nat.pow_le_pow_right (n := 2) (by decide) hC
  refine ⟨⟨?_, ?_⟩, ?_, ?_⟩ <;> simp only <;> omega

/-- what a set of rows grows to -/
def growP (E : Nat → Nat → Bool) (b : Bool) (R C S : Nat) : Int × Int := (((rS E b R C (cS E b R C S) : Nat) : Int), ((cS E b R C (rS E b R C (cS E b R C S)) : Nat) : Int))
/-- grown sets are the maximal ones -/
theorem found_iff (E : Nat → Nat → Bool) (b : Bool) (R C : Nat) (p : Int × Int) :
    (∃ S, 1 ≤ S ∧ S ≤ 2 ^ R - 1 ∧ cS E b R C S ≠ 0 ∧ p = growP E b R C S) ↔ p ∈ mx E b R C (2 ^ R - 1) := by
  have hp := Nat.one_le_two_pow (n := R)
  rw [mx_mem]
  constructor
  · rintro ⟨S, h1, h2, h3, rfl⟩
    have h4 := rS_lt E b R C (cS E b R C S)
    have h5 := cols_closed E b R C S
    refine ⟨rS E b R C (cS E b R C S), rows_pos E b R C S h1 (by omega), by omega, ?_, ?_, rfl⟩
    · rw [h5]; omega
    · rw [h5]
  · rintro ⟨S, h1, h2, h3, h4, rfl⟩
    refine ⟨S, h1, h2, by omega, ?_⟩
    unfold growP
    rw [h4]
/-- a list of the same rectangles by rising rows is the one list -/
theorem same_list (E : Nat → Nat → Bool) (b : Bool) (R C k : Nat) {l : List (Int × Int)} (hn : l.Nodup) (hs : l.Pairwise (fun p q => p.1 ≤ q.1)) (hm : ∀ p, p ∈ l ↔ p ∈ mx E b R C k) : l = mx E b R C k := by
  have hr := mx_rises E b R C k
  have hn2 : (mx E b R C k).Nodup := hr.imp (fun {p q} h e => by rw [e] at h; omega)
  refine List.Perm.eq_of_pairwise (le := fun p q : Int × Int => p.1 ≤ q.1) (fun p q hp hq h1 h2 => ?_) hs (hr.imp (fun {p q} h => by omega)) ((List.perm_ext_iff_of_nodup hn hn2).2 hm)
  obtain ⟨S, _, _, _, _, rfl⟩ := (mx_mem E b R C p k).1 ((hm p).1 hp)
  obtain ⟨T, _, _, _, _, rfl⟩ := (mx_mem E b R C q k).1 hq
  simp only at h1 h2
  obtain rfl : S = T := by omega
  rfl
end Go.Proofs.YtohkllmhknjkoaaDoor.MaxM

/-
  A map keyed by rectangles that a call makes: what it holds, its keys by maps.Keys.
-/
namespace Go.Proofs.YtohkllmhknjkoaaDoor.KeysR
open Go.RowKit Go.Maps Go.Sort Go.Shelf Go.Joins Go.Proofs.YtohkllmhknjkoaaDoor.Plain Go.Proofs.YtohkllmhknjkoaaDoor.Rect
set_option linter.unusedVariables false
attribute [local go_sem] Oper.semAt_some

theorem laidOut : laidOutB Tryd.prog = true := by kernel_rfl
theorem rowK : (39 : TypeId) < Tryd.prog.types.size := of_decide_eq_true (by kernel_rfl)
theorem deepK : Tryd.prog.keyTypeAt (Tryd.prog.types.size + 1) 39 = true := by kernel_rfl
theorem wideK : (match Tryd.prog.underlying 39 with | some (.array _ _) | some (.struct _) => true | _ => false) = true := by rw [Tryd.underlying39]
theorem key2 : Tryd.prog.keyTypeAt 2 39 = true := by kernel_rfl
set_option maxRecDepth 100000 in
theorem lawK : WideMaps.KeyLaw Tryd.prog 39 := deep_law_laid laidOut (m := 2) (by decide) rowK key2 wideK
theorem keyed : Keyed Tryd.prog 39 := Keyed.of_law lawK
theorem cellsK : Tryd.prog.cellsOf 39 = 2 := by kernel_rfl
theorem cellsI : Tryd.prog.cellsOf 3 = 1 := by kernel_rfl
theorem formedK (c0 c1 : Value) : (Value.agg #[c0, c1]).formed Tryd.prog 39 = true := by simp [Value.formed, Tryd.underlying39, cellsK]
/-- a number of 64 bits -/
def WF (x : Int) : Prop := (Lit.int .i64 x).wf = true
theorem WF.mk {x : Int} (h : 0 ≤ x ∧ x < 256) : WF x := by
  unfold WF
  simp [Lit.wf, IntKind.min, IntKind.max, IntKind.bits, IntKind.signed]
  omega

set_option maxRecDepth 100000 in
theorem key_mk (a b : Int) (ha : WF a) (hb : WF b) : ∃ kl, keyOf Tryd.prog 39 (rect a b) = some kl := by
  have t : ∀ W : World, DataW.Trod (fun _ => ()) Tryd.prog W 0 (fun _ => true) true 39 (rect a b) (.agg [.lit (.int .i64 a), .lit (.int .i64 b)]) [] := fun W =>
    shut_agg2 (y0 := (.lit (.int .i64 a), [])) (y1 := (.lit (.int .i64 b), [])) Tryd.underlying39 (by kernel_rfl) cellsK
      ⟨1, by have ha' : (Lit.int .i64 a).wf = true := ha; simp [DataW.trod, Tryd.underlying3, ha']⟩ ⟨1, by have hb' : (Lit.int .i64 b).wf = true := hb; simp [DataW.trod, Tryd.underlying3, hb']⟩
  exact ⟨_, (keyOf_asKey deepK wideK (formedK _ _) (t (default : World))).1⟩

set_option maxRecDepth 100000 in
theorem lit_int {d : Nat} {x : Value} {l : List Lit} (h : Tryd.prog.keyLits (d + 1) 3 [x] = some l) : ∃ n, x = .int .i64 n ∧ WF n := by
  unfold Program.keyLits at h
  rw [Tryd.underlying3] at h
  cases x with
  | int q n =>
    simp only at h
    split at h
    · rename_i hc
      obtain ⟨rfl, hw⟩ := hc
      exact ⟨n, rfl, hw⟩
    · cases h
  | _ => simp at h
set_option maxRecDepth 100000 in
theorem key_inv {v : Value} {kl : Lit} (h : keyOf Tryd.prog 39 v = some kl) : ∃ p : Int × Int, v = rect p.1 p.2 ∧ WF p.1 ∧ WF p.2 := by
  obtain ⟨d, hd⟩ : ∃ d, Tryd.prog.types.size = d + 1 := ⟨Tryd.prog.types.size - 1, (Nat.sub_add_cancel (Nat.lt_of_le_of_lt (Nat.zero_le _) rowK)).symm⟩
  unfold keyOf at h
  rw [Tryd.underlying39] at h
  simp only at h
  split at h
  · rename_i hc
    rw [Bool.and_eq_true] at hc
    have hf := hc.2
    cases v with
    | agg cs =>
      simp only [Value.formed, Tryd.underlying39, cellsK, beq_iff_eq] at hf
      match cs, hf with
      | ⟨[x, y]⟩, _ =>
        rw [hd] at h
        simp only [Value.cells] at h
        obtain ⟨ls, hls, -⟩ := Option.map_eq_some_iff.1 h
        unfold Program.keyLits at hls
        rw [Tryd.underlying39] at hls
        simp only at hls
        split at hls
        · obtain ⟨l2, h2, -⟩ := Option.map_eq_some_iff.1 hls
          rw [List.mapM_cons, List.mapM_cons, List.mapM_nil] at h2
          simp only [cellsI] at h2
          have h5 : ((Tryd.prog.keyLits (d + 1) 3 [x]).bind fun la => ((Tryd.prog.keyLits (d + 1) 3 [y]).bind fun lb => some [lb]).bind fun t => some (la :: t)) = some l2 := h2
          cases h3 : Tryd.prog.keyLits (d + 1) 3 [x] with
          | none => rw [h3] at h5; cases h5
          | some la =>
            cases h4 : Tryd.prog.keyLits (d + 1) 3 [y] with
            | none => rw [h3, h4] at h5; cases h5
            | some lb =>
              obtain ⟨a, rfl, ha⟩ := lit_int h3
              obtain ⟨b, rfl, hb⟩ := lit_int h4
              exact ⟨(a, b), rfl, ha, hb⟩
        · cases hls
    | _ => simp [Value.formed, Tryd.underlying39] at hf
  · cases h
theorem rect_one {a b c d : Int} (h : rect a b = rect c d) : a = c ∧ b = d := by
  have h1 : rect a b = Value.agg #[.int .i64 c, .int .i64 d] := h
  simpa [rect] using h1
set_option maxRecDepth 100000 in
theorem key_one {p q : Int × Int} {kl : Lit} (hp : keyOf Tryd.prog 39 (rect p.1 p.2) = some kl) (hq : keyOf Tryd.prog 39 (rect q.1 q.2) = some kl) : p = q := by
  have h1 := rect_one (keyed.inj hp hq)
  exact Prod.ext h1.1 h1.2

/-- the map's keys are the rectangles of a list -/
def KeysAre (D : DataW Unit) (L : List (Int × Int)) : Prop := IsMap D ∧ ∀ (p : Int × Int) (kl : Lit), keyOf Tryd.prog 39 (rect p.1 p.2) = some kl → (has D kl = true ↔ p ∈ L)
theorem KeysAre.start : KeysAre (.map []) [] := ⟨⟨[], rfl⟩, fun p kl _ => ⟨fun h => by simp [has_eq] at h, fun h => by cases h⟩⟩
set_option maxRecDepth 100000 in
theorem KeysAre.put {D : DataW Unit} {L : List (Int × Int)} (h : KeysAre D L) {p : Int × Int} {kl : Lit} (hp : keyOf Tryd.prog 39 (rect p.1 p.2) = some kl) (d : DataW Unit) : KeysAre (D.put kl d) (L ++ [p]) := by
  refine ⟨IsMap.put h.1 kl d, fun q kq hq => ?_⟩
  by_cases e : kq = kl
  · subst e
    obtain rfl := key_one hp hq
    rw [has_put_same h.1 (keyed.key hp)]
    simp
  · rw [has_put_other e, h.2 q kq hq, List.mem_append, List.mem_singleton]
    constructor
    · exact .inl
    · rintro (h1 | rfl)
      · exact h1
      · exact absurd (Option.some.inj (hq.symm.trans hp)) e

/-- what has come of the keys -/
def Coll (D : DataW Unit) (left : Lit → Bool) (ss : List (Int × Int)) : Prop :=
  ss.Nodup ∧ (∀ p ∈ ss, WF p.1 ∧ WF p.2) ∧ ∀ (p : Int × Int) (kl : Lit), keyOf Tryd.prog 39 (rect p.1 p.2) = some kl → (p ∈ ss ↔ (has D kl = true ∧ left kl = false))
theorem Coll.start (D : DataW Unit) : Coll D (has D) [] := ⟨List.nodup_nil, fun p h => (by cases h), fun p kl _ => by cases has D kl <;> simp⟩
set_option maxRecDepth 100000 in
theorem Coll.step {D : DataW Unit} {left : Lit → Bool} {ss : List (Int × Int)} (h : Coll D left ss) {x : Int × Int} {kx : Lit} {y : DataW Unit} (hx : keyOf Tryd.prog 39 (rect x.1 x.2) = some kx) (hlk : left kx = true) (hat : ∀ zd, D.atKey kx zd = y) :
    Coll D (fun z => left z && !z.sameKey kx) (ss ++ [x]) := by
  have hhas : has D kx = true := has_true_of_atKey hat
  have hnew : x ∉ ss := fun hm => by have := ((h.2.2 x kx hx).1 hm).2; rw [hlk] at this; cases this
  obtain ⟨p, hp, w1, w2⟩ := key_inv hx
  obtain rfl : x = p := Prod.ext (rect_one hp).1 (rect_one hp).2
  refine ⟨List.nodup_append.2 ⟨h.1, by simp, fun a ha b hb => by simp at hb; subst hb; exact fun e => hnew (e ▸ ha)⟩, fun q hq => ?_, fun q kq hq => ?_⟩
  · rcases List.mem_append.1 hq with hq | hq
    · exact h.2.1 q hq
    · obtain rfl := List.mem_singleton.1 hq
      exact ⟨w1, w2⟩
  · by_cases e : kq = kx
    · subst e
      obtain rfl := key_one hx hq
      simp [hhas, WideAt.sameKey_self (keyed.key hx)]
    · have hqx : q ≠ x := fun e2 => e (by subst e2; exact Option.some.inj (hq.symm.trans hx))
      rw [List.mem_append, h.2.2 q kq hq, List.mem_singleton]
      show _ ↔ has D kq = true ∧ (left kq && !kq.sameKey kx) = false
      rw [show kq.sameKey kx = false by cases hs : kq.sameKey kx; rfl; exact absurd (WideAt.sameKey_eq hs) e]
      simp [hqx]
theorem Coll.done {D : DataW Unit} {left : Lit → Bool} {ss L : List (Int × Int)} (h : Coll D left ss) (hD : KeysAre D L) (hL : ∀ p ∈ L, WF p.1 ∧ WF p.2) (hl : ∀ kl, left kl = false) : ss.Nodup ∧ ∀ p, p ∈ ss ↔ p ∈ L := by
  refine ⟨h.1, fun p => ⟨fun hp => ?_, fun hp => ?_⟩⟩
  · obtain ⟨w1, w2⟩ := h.2.1 p hp
    obtain ⟨kl, hk⟩ := key_mk p.1 p.2 w1 w2
    exact (hD.2 p kl hk).1 ((h.2.2 p kl hk).1 hp).1
  · obtain ⟨w1, w2⟩ := hL p hp
    obtain ⟨kl, hk⟩ := key_mk p.1 p.2 w1 w2
    exact (h.2.2 p kl hk).2 ⟨(hD.2 p kl hk).2 hp, hl kl⟩
end Go.Proofs.YtohkllmhknjkoaaDoor.KeysR

