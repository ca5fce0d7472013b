/-
  Texts of one seat, joined: KeysR, KeysI, SortR.
-/
import Derived.RangeFuncNested
import Derived.RangeFuncBound
import Derived.RangeFuncCalls
import Derived.RangeFuncLeaves
import Derived.RangeFuncStops
import Derived.RangeFuncKeeps
import Derived.Maps.OwnIn
import Derived.Maps.Ext
import Derived.Sort.MapsRangeIn
import Derived.DeepKeys4
import Derived.MapViews
import Derived.Shelf.Abstract
import Derived.Shelf.AbstractIn
import Derived.WalkKit
import Derived.OwnWalkIn
import Derived.TacticsInMore
import Derived.RegionIn
import Derived.LoopNIn
import Derived.LoopIn
import Derived.OpenShut
import Derived.Lib.SmallJoins
import Derived.Lib.Hide
import Derived.Test.YtemmagkkigdhjaaGreatDoorJn6
import Derived.Test.YtemmagkkigdhjaaGreatDoorJn3
import Derived.RangeFuncBox
import Derived.RangeFuncFrom
import Derived.Maps.AppendAt
import Derived.Test.YtemmagkkigdhjaaGreatDoorJn12
import Derived.Shelf.SlSortCmp.WholeK
import Derived.Shelf.SlSortCmp.NoneTotal
/-
  A map keyed by rectangles that a call makes: what it holds, its keys by maps.Keys.
-/
namespace Go.Proofs.YtemmagkkigdhjaaGreatDoor.KeysR
open Go.RowKit Go.Maps Go.Sort Go.Shelf Go.Joins Go.Proofs.YtemmagkkigdhjaaGreatDoor.Plain Go.Proofs.YtemmagkkigdhjaaGreatDoor.Rect
set_option linter.unusedVariables false
attribute [local go_sem] Oper.semAt_some

theorem laidOut : laidOutB Tryz.prog = true := by kernel_rfl
theorem rowK : (31 : TypeId) < Tryz.prog.types.size := of_decide_eq_true (by kernel_rfl)
theorem deepK : Tryz.prog.keyTypeAt (Tryz.prog.types.size + 1) 31 = true := by kernel_rfl
theorem wideK : (match Tryz.prog.underlying 31 with | some (.array _ _) | some (.struct _) => true | _ => false) = true := by rw [Tryz.underlying31]
theorem key2 : Tryz.prog.keyTypeAt 2 31 = true := by kernel_rfl
set_option maxRecDepth 100000 in
theorem lawK : WideMaps.KeyLaw Tryz.prog 31 := deep_law_laid laidOut (m := 2) (by decide) rowK key2 wideK
theorem keyed : Keyed Tryz.prog 31 := Keyed.of_law lawK
theorem cellsK : Tryz.prog.cellsOf 31 = 2 := by kernel_rfl
theorem cellsI : Tryz.prog.cellsOf 3 = 1 := by kernel_rfl
theorem formedK (c0 c1 : Value) : (Value.agg #[c0, c1]).formed Tryz.prog 31 = true := by simp [Value.formed, Tryz.underlying31, cellsK]
/-- a number of 64 bits -/
def WF (x : Int) : Prop := (Lit.int .i64 x).wf = true
theorem WF.mk {x : Int} (h : 0 ≤ x ∧ x < 256) : WF x := by
  unfold WF
  simp [Lit.wf, IntKind.min, IntKind.max, IntKind.bits, IntKind.signed]
  omega

set_option maxRecDepth 100000 in
theorem key_mk (a b : Int) (ha : WF a) (hb : WF b) : ∃ kl, keyOf Tryz.prog 31 (rect a b) = some kl := by
  have t : ∀ W : World, DataW.Trod (fun _ => ()) Tryz.prog W 0 (fun _ => true) true 31 (rect a b) (.agg [.lit (.int .i64 a), .lit (.int .i64 b)]) [] := fun W =>
    shut_agg2 (y0 := (.lit (.int .i64 a), [])) (y1 := (.lit (.int .i64 b), [])) Tryz.underlying31 (by kernel_rfl) cellsK
      ⟨1, by have ha' : (Lit.int .i64 a).wf = true := ha; simp [DataW.trod, Tryz.underlying3, ha']⟩ ⟨1, by have hb' : (Lit.int .i64 b).wf = true := hb; simp [DataW.trod, Tryz.underlying3, hb']⟩
  exact ⟨_, (keyOf_asKey deepK wideK (formedK _ _) (t (default : World))).1⟩

set_option maxRecDepth 100000 in
theorem lit_int {d : Nat} {x : Value} {l : List Lit} (h : Tryz.prog.keyLits (d + 1) 3 [x] = some l) : ∃ n, x = .int .i64 n ∧ WF n := by
  unfold Program.keyLits at h
  rw [Tryz.underlying3] at h
  cases x with
  | int q n =>
    simp only at h
    split at h
    · rename_i hc
      obtain ⟨rfl, hw⟩ := hc
      exact ⟨n, rfl, hw⟩
    · cases h
  | _ => simp at h
set_option maxRecDepth 100000 in
theorem key_inv {v : Value} {kl : Lit} (h : keyOf Tryz.prog 31 v = some kl) : ∃ p : Int × Int, v = rect p.1 p.2 ∧ WF p.1 ∧ WF p.2 := by
  obtain ⟨d, hd⟩ : ∃ d, Tryz.prog.types.size = d + 1 := ⟨Tryz.prog.types.size - 1, (Nat.sub_add_cancel (Nat.lt_of_le_of_lt (Nat.zero_le _) rowK)).symm⟩
  unfold keyOf at h
  rw [Tryz.underlying31] at h
  simp only at h
  split at h
  · rename_i hc
    rw [Bool.and_eq_true] at hc
    have hf := hc.2
    cases v with
    | agg cs =>
      simp only [Value.formed, Tryz.underlying31, cellsK, beq_iff_eq] at hf
      match cs, hf with
      | ⟨[x, y]⟩, _ =>
        rw [hd] at h
        simp only [Value.cells] at h
        obtain ⟨ls, hls, -⟩ := Option.map_eq_some_iff.1 h
        unfold Program.keyLits at hls
        rw [Tryz.underlying31] at hls
        simp only at hls
        split at hls
        · obtain ⟨l2, h2, -⟩ := Option.map_eq_some_iff.1 hls
          rw [List.mapM_cons, List.mapM_cons, List.mapM_nil] at h2
          simp only [cellsI] at h2
          have h5 : ((Tryz.prog.keyLits (d + 1) 3 [x]).bind fun la => ((Tryz.prog.keyLits (d + 1) 3 [y]).bind fun lb => some [lb]).bind fun t => some (la :: t)) = some l2 := h2
          cases h3 : Tryz.prog.keyLits (d + 1) 3 [x] with
          | none => rw [h3] at h5; cases h5
          | some la =>
            cases h4 : Tryz.prog.keyLits (d + 1) 3 [y] with
            | none => rw [h3, h4] at h5; cases h5
            | some lb =>
              obtain ⟨a, rfl, ha⟩ := lit_int h3
              obtain ⟨b, rfl, hb⟩ := lit_int h4
              exact ⟨(a, b), rfl, ha, hb⟩
        · cases hls
    | _ => simp [Value.formed, Tryz.underlying31] at hf
  · cases h
theorem rect_one {a b c d : Int} (h : rect a b = rect c d) : a = c ∧ b = d := by
  have h1 : rect a b = Value.agg #[.int .i64 c, .int .i64 d] := h
  simpa [rect] using h1
set_option maxRecDepth 100000 in
theorem key_one {p q : Int × Int} {kl : Lit} (hp : keyOf Tryz.prog 31 (rect p.1 p.2) = some kl) (hq : keyOf Tryz.prog 31 (rect q.1 q.2) = some kl) : p = q := by
  have h1 := rect_one (keyed.inj hp hq)
  exact Prod.ext h1.1 h1.2

/-- the map's keys are the rectangles of a list -/
def KeysAre (D : DataW Unit) (L : List (Int × Int)) : Prop := IsMap D ∧ ∀ (p : Int × Int) (kl : Lit), keyOf Tryz.prog 31 (rect p.1 p.2) = some kl → (has D kl = true ↔ p ∈ L)
theorem KeysAre.start : KeysAre (.map []) [] := ⟨⟨[], rfl⟩, fun p kl _ => ⟨fun h => by simp [has_eq] at h, fun h => by cases h⟩⟩
set_option maxRecDepth 100000 in
theorem KeysAre.put {D : DataW Unit} {L : List (Int × Int)} (h : KeysAre D L) {p : Int × Int} {kl : Lit} (hp : keyOf Tryz.prog 31 (rect p.1 p.2) = some kl) (d : DataW Unit) : KeysAre (D.put kl d) (L ++ [p]) := by
  refine ⟨IsMap.put h.1 kl d, fun q kq hq => ?_⟩
  by_cases e : kq = kl
  · subst e
    obtain rfl := key_one hp hq
    rw [has_put_same h.1 (keyed.key hp)]
    simp
  · rw [has_put_other e, h.2 q kq hq, List.mem_append, List.mem_singleton]
    constructor
    · exact .inl
    · rintro (h1 | rfl)
      · exact h1
      · exact absurd (Option.some.inj (hq.symm.trans hp)) e

/-- what has come of the keys -/
def Coll (D : DataW Unit) (left : Lit → Bool) (ss : List (Int × Int)) : Prop :=
  ss.Nodup ∧ (∀ p ∈ ss, WF p.1 ∧ WF p.2) ∧ ∀ (p : Int × Int) (kl : Lit), keyOf Tryz.prog 31 (rect p.1 p.2) = some kl → (p ∈ ss ↔ (has D kl = true ∧ left kl = false))
theorem Coll.start (D : DataW Unit) : Coll D (has D) [] := ⟨List.nodup_nil, fun p h => (by cases h), fun p kl _ => by cases has D kl <;> simp⟩
set_option maxRecDepth 100000 in
theorem Coll.step {D : DataW Unit} {left : Lit → Bool} {ss : List (Int × Int)} (h : Coll D left ss) {x : Int × Int} {kx : Lit} {y : DataW Unit} (hx : keyOf Tryz.prog 31 (rect x.1 x.2) = some kx) (hlk : left kx = true) (hat : ∀ zd, D.atKey kx zd = y) :
    Coll D (fun z => left z && !z.sameKey kx) (ss ++ [x]) := by
  have hhas : has D kx = true := has_true_of_atKey hat
  have hnew : x ∉ ss := fun hm => by have := ((h.2.2 x kx hx).1 hm).2; rw [hlk] at this; cases this
  obtain ⟨p, hp, w1, w2⟩ := key_inv hx
  obtain rfl : x = p := Prod.ext (rect_one hp).1 (rect_one hp).2
  refine ⟨List.nodup_append.2 ⟨h.1, by simp, fun a ha b hb => by simp at hb; subst hb; exact fun e => hnew (e ▸ ha)⟩, fun q hq => ?_, fun q kq hq => ?_⟩
  · rcases List.mem_append.1 hq with hq | hq
    · exact h.2.1 q hq
    · obtain rfl := List.mem_singleton.1 hq
      exact ⟨w1, w2⟩
  · by_cases e : kq = kx
    · subst e
      obtain rfl := key_one hx hq
      simp [hhas, WideAt.sameKey_self (keyed.key hx)]
    · have hqx : q ≠ x := fun e2 => e (by subst e2; exact Option.some.inj (hq.symm.trans hx))
      rw [List.mem_append, h.2.2 q kq hq, List.mem_singleton]
      show _ ↔ has D kq = true ∧ (left kq && !kq.sameKey kx) = false
      rw [show kq.sameKey kx = false by cases hs : kq.sameKey kx; rfl; exact absurd (WideAt.sameKey_eq hs) e]
      simp [hqx]
theorem Coll.done {D : DataW Unit} {left : Lit → Bool} {ss L : List (Int × Int)} (h : Coll D left ss) (hD : KeysAre D L) (hL : ∀ p ∈ L, WF p.1 ∧ WF p.2) (hl : ∀ kl, left kl = false) : ss.Nodup ∧ ∀ p, p ∈ ss ↔ p ∈ L := by
  refine ⟨h.1, fun p => ⟨fun hp => ?_, fun hp => ?_⟩⟩
  · obtain ⟨w1, w2⟩ := h.2.1 p hp
    obtain ⟨kl, hk⟩ := key_mk p.1 p.2 w1 w2
    exact (hD.2 p kl hk).1 ((h.2.2 p kl hk).1 hp).1
  · obtain ⟨w1, w2⟩ := hL p hp
    obtain ⟨kl, hk⟩ := key_mk p.1 p.2 w1 w2
    exact (h.2.2 p kl hk).2 ⟨(hD.2 p kl hk).2 hp, hl kl⟩
end Go.Proofs.YtemmagkkigdhjaaGreatDoor.KeysR

/-
  maps.Keys over a map keyed by rectangles; slices.AppendSeq and slices.Collect of its keys.
-/
namespace Go.Proofs.YtemmagkkigdhjaaGreatDoor.KeysI
open Go.RowKit Go.Maps Go.Sort Go.Shelf Go.Proofs.YtemmagkkigdhjaaGreatDoor.Plain Go.Proofs.YtemmagkkigdhjaaGreatDoor.Rect Go.Proofs.YtemmagkkigdhjaaGreatDoor.KeysR
set_option linter.unusedVariables false
attribute [local go_sem] Oper.semAt_some

/-- a rectangle as yield's argument -/
abbrev encP (p : Int × Int) : Array Value := #[rect p.1 p.2]
/-- what has come, each once -/
def AllOf (L ss : List (Int × Int)) : Prop := ss.Nodup ∧ ∀ p, p ∈ ss ↔ p ∈ L

set_option maxHeartbeats 1000000 in
theorem keys_call (mb : Option Nat) (w : World) :
    Calls Tryz.prog 24 #[.map mb] w fun e w' => e = .returned (.func (.func 53) #[] #[.pointer (some ⟨w.heap.size, 0, none⟩)]) ∧ w' = w.alloc (.cells #[.map mb] 52) := by
  go_enter Tryz.func24, Tryz.ntmps24
  go_wp2_with fail
  go_ret
  exact ⟨rfl, rfl⟩

set_option maxRecDepth 100000 in
set_option maxHeartbeats 2000000 in
theorem keys_in (n : Nat) (hn : 1 ≤ n) (l Bm b nn : Nat) (D0 : DataW Unit) (L : List (Int × Int)) (hD : KeysAre D0 L) (hL : ∀ p ∈ L, WF p.1 ∧ WF p.2) (J Jx : List (Int × Int) → World → Prop)
    (hY : ∀ pre x W, J pre W → pre.length < nn → YieldAt Fence.wide (n - 1) Tryz.prog l (encP x) W fun e W' =>
      (e = .returned (.bool true) ∧ J (pre ++ [x]) W' ∧ KeepsWalks W W') ∨ (e = .returned (.bool false) ∧ Jx (pre ++ [x]) W'))
    (W : World) (hJ : AbidesFrom W.heap.size J) (hm : W.cell? ⟨Bm, 0, none⟩ = some (.map (some b))) (hown : W.ownsMap Tryz.prog 31 (plainElem (H := Unit) Tryz.prog 4) b nn D0) (h0 : J [] W) :
    CallsIn Fence.wide n Tryz.prog 53 #[.func (.yield l) #[] #[], .pointer (some ⟨Bm, 0, none⟩)] W fun e W' => (∃ v, e = .returned v) ∧
      ((∃ ss, AllOf L ss ∧ J ss W') ∨ (∃ pre, True ∧ Jx pre W')) := by
  have hsize := hown.size_le
  have HY := Lib.hid hY
  have HJ := Lib.hid hJ
  clear hY hJ
  refine callsIn_of_wp Tryz.func53 rfl trivial ?_ rfl
  simp only [Tryz.ntmps53, List.size_toArray, List.length_cons, List.length_nil, Nat.reduceAdd, Nat.reduceSub, Array.replicate_succ, Array.replicate_zero, List.push_toArray, List.append_toArray, List.nil_append, List.cons_append]
  gi_wp2_with (first
    | (gi_at_range; refine wpListIn_range_own _ rfl _ 52 rfl 31 4 keyed Tryz.underlying52 _ b nn _ rfl hown ?_; intro w0 hrg0 hg0 hs0)
    | gi_in)
  go_frame
  gi_loopw [3] (fun _ wr => ∃ (left : Lit → Bool) (cnt : Nat) (ss : List (Int × Int)), wr.ranges Tryz.prog 31 (plainElem (H := Unit) Tryz.prog 4) b W.heap.size nn D0 left cnt ∧ ss.length + cnt ≤ Maps.size D0 ∧ Coll D0 left ss ∧ J ss wr)
    (fun _ wr => wr.rangeLeft b W.heap.size)
  case atStart =>
    exact ⟨_, _, [], hrg0, by simp, Coll.start D0, HJ.out [] W w0 none h0 hg0 (fun r e => by cases e)⟩
  case round =>
    obtain ⟨left, cnt, ss, hrg, hcs, hC, hJs⟩ := hrel
    gi_wp2_with (first
      | (gi_at_next; refine wpListIn_next_ranges _ rfl _ rfl 31 keyed (plainElem (H := Unit) Tryz.prog 4) (fun p : Int × Int => rect p.1 p.2) id (fun key kl hk => by obtain ⟨p, hp, _⟩ := key_inv hk; exact ⟨p, hp⟩) (fun v _ _ => ⟨v, rfl⟩) b W.heap.size nn _ _ _ rfl hrg ?_ ?_)
      | gi_in)
    · intro hc0 hl0
      gi_wp2
      go_end0
      exact ⟨⟨_, rfl⟩, .inl ⟨ss, hC.done hD hL hl0, hJs⟩⟩
    · intro a1 a2 c kl yd yp w2 cnt2 hkey hlk hv hat hrg2 hlt hg2 hs2 hen
      have hJ2 : J ss w2 := HJ.out ss wr w2 (some W.heap.size) hJs hg2 (fun r e => by cases e; exact ⟨Nat.le_refl _, hrg.iter_walk⟩)
      have hJ3 : J ss (w2.alloc (.cells #[.int .i64 a1, .int .i64 a2] 31)) := HJ.out ss w2 _ none hJ2 (World.grownBy_alloc w2 _ none) (fun r e => by cases e)
      have hC2 := hC.step (x := (a1, a2)) hkey hlk hat
      obtain ⟨fn, tmps, assign, body, hy, hR⟩ := HY.out ss (a1, a2) _ hJ3 (by omega)
      have HRG := Lib.hid hrg
      have HRG2 := Lib.hid (hrg2.of_walks (KeepsWalks.alloc w2 (.cells #[.int .i64 a1, .int .i64 a2] 31)))
      have HC2 := Lib.hid hC2
      have HR := Lib.hid hR
      clear hs2 hJ2 hJ3 hC2 hR hrg hrg2 hC hJs hg2 hat hkey hlk hv
      gi_wp2
      refine HR.out.mono ?_
      rintro e W3 (⟨rfl, hJ3, hk3⟩ | ⟨rfl, hJx3⟩)
      · gi_wp2
        have hrg3 := HRG2.out.of_walks hk3
        go_roundw
        case rel => exact ⟨_, cnt2, ss ++ [(a1, a2)], hrg3, by simp; omega, HC2.out, hJ3⟩
        case measure => rw [hrg3.left_eq, HRG.out.left_eq]; exact hlt
      · gi_wp2
        refine bodyPost_ret (results_none rfl _ _ _) rfl ?_
        exact ⟨⟨_, rfl⟩, .inr ⟨_, trivial, hJx3⟩⟩

theorem keys_stops (n : Nat) (hn : 1 ≤ n) (Bm b nn : Nat) (D0 : DataW Unit) (L : List (Int × Int)) (hD : KeysAre D0 L) (hL : ∀ p ∈ L, WF p.1 ∧ WF p.2) (w : World) (hBm : Bm < w.heap.size)
    (hm : w.cell? ⟨Bm, 0, none⟩ = some (.map (some b))) (hown : w.ownsMap Tryz.prog 31 (plainElem (H := Unit) Tryz.prog 4) b nn D0) :
    SeqStopsK Fence.wide n Tryz.prog 53 #[.pointer (some ⟨Bm, 0, none⟩)] encP KeepsWalks (AllOf L) (fun _ => True) nn w := fun l J Jx W hW hJ _ hY h0 => by
  have hown' : W.ownsMap Tryz.prog 31 (plainElem (H := Unit) Tryz.prog 4) b nn D0 := by
    have hbl := hown.lt
    obtain ⟨es, clock, hb, Ft, hs, hD⟩ := hown
    exact ⟨es, clock, (hW.block b hbl).trans hb, Ft, hs, hD⟩
  exact keys_in n hn l Bm b nn D0 L hD hL J Jx hY W hJ ((hW.cell (p := ⟨Bm, 0, none⟩) hBm).trans hm) hown' h0

/-- rectangles' cells -/
def flat (ss : List (Int × Int)) : List Value := ss.flatMap fun p => [.int .i64 p.1, .int .i64 p.2]
theorem flat_next (pre : List (Int × Int)) (x : Int × Int) : flat (pre ++ [x]) = flat pre ++ [.int .i64 x.1, .int .i64 x.2] := by simp [flat]
theorem infoK : (Tryz.prog.info? 31).map (fun i => (i.zero, i.size, i.bytes)) = some (some (.agg #[.int .i64 0, .int .i64 0]), 2, 16) := by kernel_rfl
theorem two_new (w : World) (x y : Value) (t : TypeId) : ∀ j u, [x, y][j]? = some u → (w.alloc (.cells #[x, y] t)).cell? ((⟨w.heap.size, 0, none⟩ : Addr).add j) = some u := by
  intro j u hj
  match j, hj with
  | 0, hj => obtain rfl := Option.some.inj hj; exact cell_of_row _ _ 0 _ _ _ (heap_alloc_new w _)
  | 1, hj => obtain rfl := Option.some.inj hj; exact cell_of_row _ _ 1 _ _ _ (heap_alloc_new w _)
  | j + 2, hj => simp at hj

set_option maxRecDepth 100000 in
set_option maxHeartbeats 4000000 in
theorem append_in (n : Nat) (hn : 3 ≤ n) (Bm b nn : Nat) (hnn : nn ≤ 1000) (D0 : DataW Unit) (L : List (Int × Int)) (hD : KeysAre D0 L) (hL : ∀ p ∈ L, WF p.1 ∧ WF p.2) (w : World) (hBm : Bm < w.heap.size)
    (hm : w.cell? ⟨Bm, 0, none⟩ = some (.map (some b))) (hown : w.ownsMap Tryz.prog 31 (plainElem (H := Unit) Tryz.prog 4) b nn D0) :
    CallsIn Fence.wide n Tryz.prog 78 #[.slice none 0 0, .func (.func 53) #[] #[.pointer (some ⟨Bm, 0, none⟩)]] w
      fun e W' => ∃ v ss, e = .returned v ∧ AllOf L ss ∧ W'.ownsRow w.heap.size 31 2 v ss.length (flat ss) ∧ Below w.heap.size w W' := by
  have h1 : 1 ≤ n := by omega
  obtain ⟨i0, hi, hz0, hz1, hz2⟩ := info_parts infoK
  have hb0 : Below w.heap.size w (w.alloc (.cells #[.slice none 0 0] 27)) := (Below.refl w.heap.size w).alloc (Nat.le_refl _) _
  have hseq := keys_stops (n - 1) (by omega) Bm b nn D0 L hD hL _ (Nat.lt_of_lt_of_le hBm hb0.size) ((hb0.cell (p := ⟨Bm, 0, none⟩) hBm).trans hm) (hown.alloc (.cells #[.slice none 0 0] 27))
  have HSEQ := Lib.hid hseq
  clear hseq hm hown
  refine callsIn_of_wp_marks Tryz.func78 rfl trivial ?_ rfl
  simp only [Tryz.ntmps78, List.size_toArray, List.length_cons, List.length_nil, Nat.reduceAdd, Nat.reduceSub, Array.replicate_succ, Array.replicate_zero, List.push_toArray, List.append_toArray, List.nil_append, List.cons_append]
  gi_wp2
  refine wpIn_rangeFunc_ownH rfl h1 (gf := 53) (lb := #[.pointer (some ⟨Bm, 0, none⟩)]) rfl trivial (enters_of Tryz.func53 (by kernel_rfl) rfl)
    HSEQ.out walksK_t walksK_b (Below.refl _ _) (fun _ => rfl)
    (fun pre W => (∃ v, Boxed W w.heap.size 27 v ∧ W.ownsRow w.heap.size 31 2 v pre.length (flat pre) ∧ True) ∧ Below w.heap.size w W)
    (fun _ _ _ => False)
    (OwnFrom.and ((holdsRow_own w.heap.size w.heap.size 27 31 2 (fun pre => pre.length) (fun pre => flat pre) (fun _ _ => True)).from _) (ownFrom_below (Nat.le_refl _) (by simp)))
    (fun _ _ _ _ _ hs _ _ => hs)
    ⟨⟨.slice none 0 0, Boxed.new w _ _, World.ownsRow_nil _ _ _ _, trivial⟩, hb0⟩
    (fun x a' W => ∃ Bx, W.heap[Bx]? = some (.cells #[.int .i64 x.1, .int .i64 x.2] 31 (0, 0)) ∧ a' = { tmps := #[.slice none 0 0, .func (.func 53) #[] #[.pointer (some ⟨Bm, 0, none⟩)], .pointer (some ⟨w.heap.size, 0, none⟩), undef, .slice none 0 0, .pointer (some ⟨Bx, 0, none⟩), .func (.func 53) #[] #[.pointer (some ⟨Bm, 0, none⟩)], rect x.1 x.2, undef, undef, undef, undef, undef], defers := [] })
    (fun x a' s A B row hs hg hr => by
      obtain ⟨Bx, hbx, ha⟩ := hs
      exact ⟨Bx, (grownBy_keeps_cells hg (fun r e => (hr r e).2) hbx rfl).trans hbx, ha⟩) ?assign ?body ?done ?stop
  case assign =>
    rintro l pre x W K ⟨⟨v, hv, hrow, -⟩, hB⟩ hK
    gi_wp2
    exact hK _ _ ((KeepsOthers.alloc _ _).from _) (KeepsWalks.alloc _ _) ⟨⟨v, hv.alloc _, hrow.alloc _, trivial⟩, hB.alloc hB.size _⟩ ⟨W.heap.size, heap_alloc_new W _, rfl⟩
  case body =>
    rintro l pre x a' W hl - ⟨⟨v, hv, hrow, -⟩, hB⟩ ⟨Bx, hbx, rfl⟩ hlt
    have hc := hv.cell
    have q0 : W.cell? ⟨Bx, 0, none⟩ = some (.int .i64 x.1) := cell_of_row _ _ 0 _ _ _ hbx
    have q1 : W.cell? ⟨Bx, 1, none⟩ = some (.int .i64 x.2) := cell_of_row _ _ 1 _ _ _ hbx
    gi_wp2_with (gi_at_builtin; refine wpListIn_append_own _ rfl _ _ 27 rfl w.heap.size 31 i0 (.agg #[.int .i64 0, .int .i64 0]) 2 16 Tryz.underlying27 hi hz0 hz1 hz2 rfl (by decide) _ _ _ rfl (hrow.alloc _) ⟨W.heap.size, 0, none⟩ 1 1 [.int .i64 x.1, .int .i64 x.2] rfl rfl (two_new _ _ _ _) (by simp [Value.oneCell']) (by unfold maxLen; omega) (by omega) (by have := hB.size; simp; omega) ?_; intro v' w1 hown' hgrow _; obtain ⟨g', cap', rfl⟩ := ownsRow_succ hown'; obtain ⟨hv1, hv2, hr2, hk2, hb2⟩ := hv.appended (by decide) hrow hB.size (Nat.le_refl _) hown' hgrow; have hc1 := hv1.cell; have hf1 := hv1.frozen)
    exact ⟨hk2.from _, hk2.walks, ⟨_, hv2, by rw [List.length_append, flat_next]; exact hr2, trivial⟩, hB.trans hb2⟩
  case done =>
    rintro D ys W hDl hS ⟨⟨v, hv, hrow, -⟩, hB⟩ hK
    have hc := hv.cell
    gi_wp2
    refine ⟨by simp, .inl ⟨_, _, rfl, run_takeDeferred hK, ?_⟩⟩
    exact ⟨_, results_tmp rfl _ _ _, v, ys, rfl, hS, ownsRow_putObj hrow _ hK rfl, hB.trans (belowK_b (w := w) (Nat.le_refl _) W D _ _ (by simp at hDl; omega) hK rfl rfl)⟩
  case stop =>
    rintro D c pre W _ _ h _
    exact h.elim
end Go.Proofs.YtemmagkkigdhjaaGreatDoor.KeysI

/-
  slices.SortFunc over rectangles by their rows; slices.Collect and slices.SortedFunc of a map's keys.
-/
namespace Go.Proofs.YtemmagkkigdhjaaGreatDoor.SortR
open Go.RowKit Go.Lib Go.Shelf Go.Maps Go.Proofs Go.Proofs.YtemmagkkigdhjaaGreatDoor.Plain Go.Proofs.YtemmagkkigdhjaaGreatDoor.Rect Go.Proofs.YtemmagkkigdhjaaGreatDoor.KeysR Go.Proofs.YtemmagkkigdhjaaGreatDoor.KeysI
open Go.Sort (flatK HoldsK Holds putRowK putRow putCells SWO PermIn SortedIn grow mapBlock get_flatK size_flatK ext_get! alloc_eq_grow grow_grow)
set_option linter.unusedVariables false

/-- a rectangle's two cells -/
abbrev encR (p : Int × Int) : List Value := [.int .i64 p.1, .int .i64 p.2]
/-- by their rows -/
abbrev byRows (x y : Int × Int) : Int := Lib.compareInt x.1 y.1
theorem ltRows (x y : Int × Int) : ltOf byRows x y = decide (x.1 < y.1) := by
  unfold ltOf byRows Lib.compareInt
  by_cases h1 : x.1 < y.1
  · simp [h1]
  · by_cases h2 : y.1 < x.1 <;> simp [h1, h2]
theorem swoRows : SWO (ltOf byRows) where
  irrefl x := by rw [ltRows]; simp
  trans x y z h1 h2 := by rw [ltRows] at *; simp at *; omega
  ntrans x y z h1 h2 := by rw [ltRows] at *; simp at *; omega

set_option maxHeartbeats 1000000 in
theorem cmp_int (x y : Int) (w : World) : Calls Tryz.prog 26 #[.int .i64 x, .int .i64 y] w fun e w' => e = .returned (.int .i64 (Lib.compareInt x y)) ∧ w' = w := by
  have hnan : ∀ (z : Int) (W : World), Calls Tryz.prog 54 #[.int .i64 z] W fun e w' => e = .returned (.bool false) ∧ w' = W := by
    intro z W
    go_enter Tryz.func54, Tryz.ntmps54
    go_wp2
    go_ret
    exact ⟨rfl, rfl⟩
  have HN := Lib.hid hnan
  clear hnan
  unfold Lib.compareInt
  by_cases h1 : x < y
  · rw [if_pos h1]
    go_enter Tryz.func26, Tryz.ntmps26
    go_wp2_with (go_at_call 54; refine (HN.out _ _).mono ?_; rintro e w' ⟨rfl, rfl⟩)
    go_ret
    exact ⟨rfl, rfl⟩
  · rw [if_neg h1]
    by_cases h2 : y < x
    · rw [if_pos h2]
      go_enter Tryz.func26, Tryz.ntmps26
      go_wp2_with (go_at_call 54; refine (HN.out _ _).mono ?_; rintro e w' ⟨rfl, rfl⟩)
      go_ret
      exact ⟨rfl, rfl⟩
    · rw [if_neg h2]
      go_enter Tryz.func26, Tryz.ntmps26
      go_wp2_with (go_at_call 54; refine (HN.out _ _).mono ?_; rintro e w' ⟨rfl, rfl⟩)
      go_ret
      exact ⟨rfl, rfl⟩

set_option maxHeartbeats 1000000 in
theorem closure (x y : Int × Int) (W : World) : Calls Tryz.prog 25 #[.agg #[.int .i64 x.1, .int .i64 x.2], .agg #[.int .i64 y.1, .int .i64 y.2]] W fun e w' => e = .returned (.int .i64 (byRows x y)) ∧ ∃ q os', w' = grow (W.drewN q) os' := by
  have hcon := fun W' => cmp_int x.1 y.1 W'
  unfold byRows
  generalize Lib.compareInt x.1 y.1 = r at hcon ⊢
  have HC := Lib.hid hcon
  clear hcon
  go_enter Tryz.func25, Tryz.ntmps25
  go_wp2_with (go_at_call 26; refine (HC.out _).mono ?_; rintro e w' ⟨rfl, rfl⟩)
  go_ret
  exact ⟨rfl, 0, _, by rw [alloc_eq_grow, alloc_eq_grow, grow_grow]; rfl⟩
theorem closure_lays (blk off size : Nat) (w : World) : CmpLays Tryz.prog 25 #[] encR 2 byRows blk off size w :=
  fun _ _ _ _ x y => closure x y _

theorem flat_get : ∀ (ss : List (Int × Int)) (t : Nat), t < ss.length * 2 → (flat ss)[t]? = some ((encR ss[t / 2]!)[t % 2]!)
  | [], t, h => by simp at h
  | p :: r, 0, h => by simp [flat]
  | p :: r, 1, h => by simp [flat]
  | p :: r, t + 2, h => by
    have ih := flat_get r t (by simp at h; omega)
    have e1 : (t + 2) / 2 = t / 2 + 1 := by omega
    have e2 : (t + 2) % 2 = t % 2 := by omega
    have e3 : flat (p :: r) = Value.int .i64 p.1 :: Value.int .i64 p.2 :: flat r := by simp [flat]
    rw [e3, e1, e2, List.getElem?_cons_succ, List.getElem?_cons_succ, ih]
    simp
theorem flat_length (ss : List (Int × Int)) : (flat ss).length = ss.length * 2 := by
  induction ss with
  | nil => rfl
  | cons p r ih =>
    have e3 : flat (p :: r) = Value.int .i64 p.1 :: Value.int .i64 p.2 :: flat r := by simp [flat]
    rw [e3]; simp [ih]; omega
theorem flatK_eq (ss : List (Int × Int)) : flatK encR 2 ss.toArray = (flat ss).toArray := by
  refine ext_get! (by simp [flat_length]) fun t ht => ?_
  have ht' : t < ss.length * 2 := by simpa using ht
  rw [get_flatK _ _ _ t (by simpa using ht')]
  have h := flat_get ss t ht'
  have hl : t < (flat ss).length := by rw [flat_length]; exact ht'
  rw [getElem!_pos _ t (by simpa using hl)]
  rw [List.getElem?_eq_getElem hl] at h
  have h2 := Option.some.inj h
  simpa using h2.symm

theorem holds_of {w : World} {g : Nat} {cur : Array Value} {e : TypeId} {ss : List (Int × Int)} (hb : w.heap[g]? = some (.cells cur e (0, 0))) (ht : cur.toList.take (ss.length * 2) = flat ss) : HoldsK encR 2 w g 0 ss.toArray := by
  unfold HoldsK
  rw [flatK_eq]
  intro j hj
  have hj1 : j < (flat ss).length := by simpa using hj
  have hj' : j < ss.length * 2 := by rw [flat_length] at hj1; exact hj1
  refine ⟨?_, by simp [World.frozen?, hb]⟩
  have h1 : (cur.toList.take (ss.length * 2))[j]? = (flat ss)[j]? := by rw [ht]
  rw [List.getElem?_take_of_lt hj'] at h1
  simp only [World.cell?, hb, Nat.zero_add]
  simp only [Option.isSome_none, Bool.false_eq_true, if_false]
  rw [← Array.getElem?_toList, h1]
  rw [getElem!_pos _ j hj, List.getElem?_eq_getElem hj1]
  simp
theorem heap_after {w : World} {g n : Nat} {os : Array Obj} {cur : Array Value} {e : TypeId} (F : Array Value) (hb : w.heap[g]? = some (.cells cur e (0, 0))) :
    (grow (putRow id (Go.Sort.ahead w n) g 0 F) os).heap[g]? = some (.cells (putCells id 0 F cur) e (0, 0)) := by
  have hg : g < w.heap.size := (Array.getElem?_eq_some_iff.1 hb).1
  rw [Go.Sort.heap_grow_old _ _ (by simpa using hg)]
  simp [putRow, mapBlock, Go.Sort.ahead, Array.getElem?_modify, hb, Go.Sort.onCells]
theorem below_after {B : Nat} {w : World} {g n : Nat} {os : Array Obj} (F : Array Value) (hB : B ≤ g) (hw : B ≤ w.heap.size) : Below B w (grow (putRow id (Go.Sort.ahead w n) g 0 F) os) := by
  refine ⟨rfl, rfl, rfl, by simp, fun k hk => ?_⟩
  rw [Go.Sort.heap_grow_old _ _ (by simp; omega)]
  have : g ≠ k := by omega
  simp [putRow, mapBlock, Go.Sort.ahead, Array.getElem?_modify, this]
theorem take_after (cur : Array Value) (ts : List Value) (h : ts.length ≤ cur.size) : (putCells id 0 ts.toArray cur).toList.take ts.length = ts := by
  apply List.ext_getElem?
  intro j
  by_cases hj : j < ts.length
  · rw [List.getElem?_take_of_lt hj, Array.getElem?_toList]
    simp [putCells, hj, show j < cur.size by omega]
  · rw [List.getElem?_take_eq_none (by omega), List.getElem?_eq_none (by omega)]
theorem owns_after {w : World} {base g cap n : Nat} {e : TypeId} {os : Array Obj} {cur : Array Value} {ts : List (Int × Int)} (hbase : base ≤ g) (hb : w.heap[g]? = some (.cells cur e (0, 0)))
    (h1 : ts.length ≤ cap) (h2 : cap ≤ maxLen) (h3 : cur.size = cap * 2) :
    (grow (putRow id (Go.Sort.ahead w n) g 0 (flat ts).toArray) os).ownsRow base e 2 (.slice (some ⟨g, 0, none⟩) ts.length cap) ts.length (flat ts) :=
  ⟨flat_length ts, .inr ⟨g, cap, _, rfl, hbase, heap_after _ hb, h1, h2, by simp [putCells, h3], by rw [← flat_length ts]; exact take_after cur (flat ts) (by rw [flat_length]; omega)⟩⟩

/-- slices.SortFunc of a slice of the call's own -/
theorem sort_own (base : Nat) (v : Value) (ss : List (Int × Int)) (W : World) (hb : base ≤ W.heap.size) (hown : W.ownsRow base 31 2 v ss.length (flat ss)) (hlen : ss.length ≤ 1000) :
    Calls Tryz.prog 52 #[v, .func (.func 25) #[] #[]] W fun e w' => e = .returned (.tuple #[]) ∧
      ∃ ts : List (Int × Int), ts.Perm ss ∧ ts.Pairwise (fun p q => p.1 ≤ q.1) ∧ w'.ownsRow base 31 2 v ts.length (flat ts) ∧ Below base W w' := by
  rcases hown.2 with ⟨rfl, h0⟩ | ⟨g, cap, cur, rfl, hg, hheap, hn, hcap, hsz, htake⟩
  · obtain rfl : ss = [] := List.length_eq_zero_iff.1 h0
    refine (AnyF.slices_SortFunc_none Tryz.sortR none 0 _ W).mono ?_
    rintro e w' ⟨rfl, rfl⟩
    exact ⟨rfl, [], List.Perm.refl _, List.Pairwise.nil, hown, Below.refl _ _⟩
  · have eg : ∀ args w, (callFunc 25 args).run Tryz.prog w = .ok (.enter 25 args) w := enters_of Tryz.func25 (by kernel_rfl) rfl
    have hH := holds_of (ss := ss) hheap htake
    have hcon := AnyQ.slices_SortFunc Tryz.sortR 2 Tryz.isAgg31 Tryz.sizeOf31 encR (fun _ => rfl) (fun x v hv => by simp [encR] at hv; rcases hv with rfl | rfl <;> rfl) byRows swoRows 25 #[] g 0 cap ss.toArray W eg (closure_lays g 0 _ W) hH (Array.getElem?_eq_some_iff.1 hheap).1 (by simp; omega)
    simp only [List.size_toArray] at hcon
    refine hcon.mono ?_
    rintro e w' ⟨rfl, d', n, os, ⟨hds, -, hperm⟩, hsorted, rfl⟩
    obtain ⟨ts, rfl⟩ : ∃ ts : List (Int × Int), d' = ts.toArray := ⟨d'.toList, by simp⟩
    have hlt : ts.length = ss.length := by simpa using hds
    refine ⟨rfl, ts, ?_, ?_, ?_, ?_⟩
    · have := hperm
      simp at this
      rw [← hlt, List.take_length] at this
      first | exact this | (rw [hlt, List.take_length] at this; exact this)
    · rw [List.pairwise_iff_getElem]
      intro i j hi hj hij
      have h := hsorted i j (Nat.zero_le _) hij (by omega)
      rw [ltRows] at h
      have h' := of_decide_eq_false h
      rw [getElem!_pos ts.toArray j (by simpa using hj), getElem!_pos ts.toArray i (by simpa using hi)] at h'
      simp at h'
      omega
    · rw [← hlt]
      unfold sortWorldK putRowK
      rw [flatK_eq]
      exact owns_after hg hheap (by omega) hcap hsz
    · unfold sortWorldK putRowK
      exact below_after _ hg hb

set_option maxHeartbeats 1000000 in
/-- slices.Collect of the keys -/
theorem collect (Bm b nn : Nat) (hnn : nn ≤ 1000) (D0 : DataW Unit) (L : List (Int × Int)) (hD : KeysAre D0 L) (hL : ∀ p ∈ L, WF p.1 ∧ WF p.2) (w : World) (hBm : Bm < w.heap.size)
    (hm : w.cell? ⟨Bm, 0, none⟩ = some (.map (some b))) (hown : w.ownsMap Tryz.prog 31 (plainElem (H := Unit) Tryz.prog 4) b nn D0) :
    Calls Tryz.prog 51 #[.func (.func 53) #[] #[.pointer (some ⟨Bm, 0, none⟩)]] w
      fun e W' => ∃ v ss, e = .returned v ∧ AllOf L ss ∧ W'.ownsRow w.heap.size 31 2 v ss.length (flat ss) ∧ Below w.heap.size w W' := by
  have HA := Lib.hid (callsIn_wide.1 (append_in 3 (by decide) Bm b nn hnn D0 L hD hL w hBm hm hown))
  clear hD hL hm hown hBm hnn
  go_enter Tryz.func51, Tryz.ntmps51
  go_wp2_with fail
  refine HA.out.mono ?_
  rintro e w1 ⟨v, ss, rfl, h1, h2, h3⟩
  have H := Lib.hid (And.intro h1 (And.intro h2 h3))
  clear h1 h2 h3 HA
  go_wp2_with fail
  go_ret
  exact ⟨v, ss, rfl, H.out.1, H.out.2.1, H.out.2.2⟩

set_option maxHeartbeats 1000000 in
/-- slices.SortedFunc of the keys -/
theorem sorted (Bm b nn : Nat) (hnn : nn ≤ 1000) (D0 : DataW Unit) (L : List (Int × Int)) (hD : KeysAre D0 L) (hL : ∀ p ∈ L, WF p.1 ∧ WF p.2) (hlen : ∀ ss, AllOf L ss → ss.length ≤ 1000) (w : World) (hBm : Bm < w.heap.size)
    (hm : w.cell? ⟨Bm, 0, none⟩ = some (.map (some b))) (hown : w.ownsMap Tryz.prog 31 (plainElem (H := Unit) Tryz.prog 4) b nn D0) :
    Calls Tryz.prog 23 #[.func (.func 53) #[] #[.pointer (some ⟨Bm, 0, none⟩)], .func (.func 25) #[] #[]] w
      fun e W' => ∃ v ts, e = .returned v ∧ AllOf L ts ∧ ts.Pairwise (fun p q => p.1 ≤ q.1) ∧ W'.ownsRow w.heap.size 31 2 v ts.length (flat ts) ∧ Below w.heap.size w W' := by
  have HA := Lib.hid (collect Bm b nn hnn D0 L hD hL w hBm hm hown)
  have HL := Lib.hid hlen
  clear hD hL hm hown hBm hnn hlen
  go_enter Tryz.func23, Tryz.ntmps23
  go_wp2_with fail
  refine HA.out.mono ?_
  rintro e w1 ⟨v, ss, rfl, h1, h2, h3⟩
  have HS := Lib.hid (sort_own w.heap.size v ss w1 h3.size h2 (HL.out ss h1))
  have H := Lib.hid (And.intro h1 h3)
  clear h1 h2 h3 HA HL
  go_wp2_with fail
  refine HS.out.mono ?_
  rintro e w2 ⟨rfl, ts, hp, hs, ho, hb⟩
  have HQ := Lib.hid (And.intro hp (And.intro hs (And.intro ho hb)))
  clear hp hs ho hb HS
  go_wp2_with fail
  go_ret
  refine ⟨v, ts, rfl, ⟨HQ.out.1.nodup_iff.2 H.out.1.1, fun p => HQ.out.1.mem_iff.trans (H.out.1.2 p)⟩, HQ.out.2.1, HQ.out.2.2.1, H.out.2.trans HQ.out.2.2.2⟩
end Go.Proofs.YtemmagkkigdhjaaGreatDoor.SortR

