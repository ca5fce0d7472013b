/-
  A map keyed by rectangles that a call makes: what it holds, its keys by maps.Keys.
-/
import Derived.RangeFuncNested
import Derived.RangeFuncBound
import Derived.RangeFuncCalls
import Derived.RangeFuncLeaves
import Derived.RangeFuncStops
import Derived.RangeFuncKeeps
import Derived.Maps.OwnIn
import Derived.Maps.Ext
import Derived.Sort.MapsRangeIn
import Derived.DeepKeys4
import Derived.MapViews
import Derived.Shelf.Abstract
import Derived.Shelf.AbstractIn
import Derived.WalkKit
import Derived.OwnWalkIn
import Derived.TacticsInMore
import Derived.RegionIn
import Derived.LoopNIn
import Derived.LoopIn
import Derived.OpenShut
import Derived.Lib.SmallJoins
import Derived.Lib.Hide
import Derived.Test.YtalechngagkklaaDoorRect
namespace Go.Proofs.YtalechngagkklaaDoor.KeysR
open Go.RowKit Go.Maps Go.Sort Go.Shelf Go.Joins Go.Proofs.YtalechngagkklaaDoor.Plain Go.Proofs.YtalechngagkklaaDoor.Rect
set_option linter.unusedVariables false
attribute [local go_sem] Oper.semAt_some

theorem laidOut : laidOutB Tryd.prog = true := by kernel_rfl
theorem rowK : (26 : TypeId) < Tryd.prog.types.size := of_decide_eq_true (by kernel_rfl)
theorem deepK : Tryd.prog.keyTypeAt (Tryd.prog.types.size + 1) 26 = true := by kernel_rfl
theorem wideK : (match Tryd.prog.underlying 26 with | some (.array _ _) | some (.struct _) => true | _ => false) = true := by rw [Tryd.underlying26]
theorem key2 : Tryd.prog.keyTypeAt 2 26 = true := by kernel_rfl
set_option maxRecDepth 100000 in
theorem lawK : WideMaps.KeyLaw Tryd.prog 26 := deep_law_laid laidOut (m := 2) (by decide) rowK key2 wideK
theorem keyed : Keyed Tryd.prog 26 := Keyed.of_law lawK
theorem cellsK : Tryd.prog.cellsOf 26 = 2 := by kernel_rfl
theorem cellsI : Tryd.prog.cellsOf 3 = 1 := by kernel_rfl
theorem formedK (c0 c1 : Value) : (Value.agg #[c0, c1]).formed Tryd.prog 26 = true := by simp [Value.formed, Tryd.underlying26, cellsK]
/-- a number of 64 bits -/
def WF (x : Int) : Prop := (Lit.int .i64 x).wf = true
theorem WF.mk {x : Int} (h : 0 ≤ x ∧ x < 256) : WF x := by
  unfold WF
  simp [Lit.wf, IntKind.min, IntKind.max, IntKind.bits, IntKind.signed]
  omega

set_option maxRecDepth 100000 in
theorem key_mk (a b : Int) (ha : WF a) (hb : WF b) : ∃ kl, keyOf Tryd.prog 26 (rect a b) = some kl := by
  have t : ∀ W : World, DataW.Trod (fun _ => ()) Tryd.prog W 0 (fun _ => true) true 26 (rect a b) (.agg [.lit (.int .i64 a), .lit (.int .i64 b)]) [] := fun W =>
    shut_agg2 (y0 := (.lit (.int .i64 a), [])) (y1 := (.lit (.int .i64 b), [])) Tryd.underlying26 (by kernel_rfl) cellsK
      ⟨1, by have ha' : (Lit.int .i64 a).wf = true := ha; simp [DataW.trod, Tryd.underlying3, ha']⟩ ⟨1, by have hb' : (Lit.int .i64 b).wf = true := hb; simp [DataW.trod, Tryd.underlying3, hb']⟩
  exact ⟨_, (keyOf_asKey deepK wideK (formedK _ _) (t (default : World))).1⟩

set_option maxRecDepth 100000 in
theorem lit_int {d : Nat} {x : Value} {l : List Lit} (h : Tryd.prog.keyLits (d + 1) 3 [x] = some l) : ∃ n, x = .int .i64 n ∧ WF n := by
  unfold Program.keyLits at h
  rw [Tryd.underlying3] at h
  cases x with
  | int q n =>
    simp only at h
    split at h
    · rename_i hc
      obtain ⟨rfl, hw⟩ := hc
      exact ⟨n, rfl, hw⟩
    · cases h
  | _ => simp at h
set_option maxRecDepth 100000 in
theorem key_inv {v : Value} {kl : Lit} (h : keyOf Tryd.prog 26 v = some kl) : ∃ p : Int × Int, v = rect p.1 p.2 ∧ WF p.1 ∧ WF p.2 := by
  obtain ⟨d, hd⟩ : ∃ d, Tryd.prog.types.size = d + 1 := ⟨Tryd.prog.types.size - 1, (Nat.sub_add_cancel (Nat.lt_of_le_of_lt (Nat.zero_le _) rowK)).symm⟩
  unfold keyOf at h
  rw [Tryd.underlying26] at h
  simp only at h
  split at h
  · rename_i hc
    rw [Bool.and_eq_true] at hc
    have hf := hc.2
    cases v with
    | agg cs =>
      simp only [Value.formed, Tryd.underlying26, cellsK, beq_iff_eq] at hf
      match cs, hf with
      | ⟨[x, y]⟩, _ =>
        rw [hd] at h
        simp only [Value.cells] at h
        obtain ⟨ls, hls, -⟩ := Option.map_eq_some_iff.1 h
        unfold Program.keyLits at hls
        rw [Tryd.underlying26] at hls
        simp only at hls
        split at hls
        · obtain ⟨l2, h2, -⟩ := Option.map_eq_some_iff.1 hls
          rw [List.mapM_cons, List.mapM_cons, List.mapM_nil] at h2
          simp only [cellsI] at h2
          have h5 : ((Tryd.prog.keyLits (d + 1) 3 [x]).bind fun la => ((Tryd.prog.keyLits (d + 1) 3 [y]).bind fun lb => some [lb]).bind fun t => some (la :: t)) = some l2 := h2
          cases h3 : Tryd.prog.keyLits (d + 1) 3 [x] with
          | none => rw [h3] at h5; cases h5
          | some la =>
            cases h4 : Tryd.prog.keyLits (d + 1) 3 [y] with
            | none => rw [h3, h4] at h5; cases h5
            | some lb =>
              obtain ⟨a, rfl, ha⟩ := lit_int h3
              obtain ⟨b, rfl, hb⟩ := lit_int h4
              exact ⟨(a, b), rfl, ha, hb⟩
        · cases hls
    | _ => simp [Value.formed, Tryd.underlying26] at hf
  · cases h
theorem rect_one {a b c d : Int} (h : rect a b = rect c d) : a = c ∧ b = d := by
  have h1 : rect a b = Value.agg #[.int .i64 c, .int .i64 d] := h
  simpa [rect] using h1
set_option maxRecDepth 100000 in
theorem key_one {p q : Int × Int} {kl : Lit} (hp : keyOf Tryd.prog 26 (rect p.1 p.2) = some kl) (hq : keyOf Tryd.prog 26 (rect q.1 q.2) = some kl) : p = q := by
  have h1 := rect_one (keyed.inj hp hq)
  exact Prod.ext h1.1 h1.2

/-- the map's keys are the rectangles of a list -/
def KeysAre (D : DataW Unit) (L : List (Int × Int)) : Prop := IsMap D ∧ ∀ (p : Int × Int) (kl : Lit), keyOf Tryd.prog 26 (rect p.1 p.2) = some kl → (has D kl = true ↔ p ∈ L)
theorem KeysAre.start : KeysAre (.map []) [] := ⟨⟨[], rfl⟩, fun p kl _ => ⟨fun h => by simp [has_eq] at h, fun h => by cases h⟩⟩
set_option maxRecDepth 100000 in
theorem KeysAre.put {D : DataW Unit} {L : List (Int × Int)} (h : KeysAre D L) {p : Int × Int} {kl : Lit} (hp : keyOf Tryd.prog 26 (rect p.1 p.2) = some kl) (d : DataW Unit) : KeysAre (D.put kl d) (L ++ [p]) := by
  refine ⟨IsMap.put h.1 kl d, fun q kq hq => ?_⟩
  by_cases e : kq = kl
  · subst e
    obtain rfl := key_one hp hq
    rw [has_put_same h.1 (keyed.key hp)]
    simp
  · rw [has_put_other e, h.2 q kq hq, List.mem_append, List.mem_singleton]
    constructor
    · exact .inl
    · rintro (h1 | rfl)
      · exact h1
      · exact absurd (Option.some.inj (hq.symm.trans hp)) e

/-- what has come of the keys -/
def Coll (D : DataW Unit) (left : Lit → Bool) (ss : List (Int × Int)) : Prop :=
  ss.Nodup ∧ (∀ p ∈ ss, WF p.1 ∧ WF p.2) ∧ ∀ (p : Int × Int) (kl : Lit), keyOf Tryd.prog 26 (rect p.1 p.2) = some kl → (p ∈ ss ↔ (has D kl = true ∧ left kl = false))
theorem Coll.start (D : DataW Unit) : Coll D (has D) [] := ⟨List.nodup_nil, fun p h => (by cases h), fun p kl _ => by cases has D kl <;> simp⟩
set_option maxRecDepth 100000 in
theorem Coll.step {D : DataW Unit} {left : Lit → Bool} {ss : List (Int × Int)} (h : Coll D left ss) {x : Int × Int} {kx : Lit} {y : DataW Unit} (hx : keyOf Tryd.prog 26 (rect x.1 x.2) = some kx) (hlk : left kx = true) (hat : ∀ zd, D.atKey kx zd = y) :
    Coll D (fun z => left z && !z.sameKey kx) (ss ++ [x]) := by
  have hhas : has D kx = true := has_true_of_atKey hat
  have hnew : x ∉ ss := fun hm => by have := ((h.2.2 x kx hx).1 hm).2; rw [hlk] at this; cases this
  obtain ⟨p, hp, w1, w2⟩ := key_inv hx
  obtain rfl : x = p := Prod.ext (rect_one hp).1 (rect_one hp).2
  refine ⟨List.nodup_append.2 ⟨h.1, by simp, fun a ha b hb => by simp at hb; subst hb; exact fun e => hnew (e ▸ ha)⟩, fun q hq => ?_, fun q kq hq => ?_⟩
  · rcases List.mem_append.1 hq with hq | hq
    · exact h.2.1 q hq
    · obtain rfl := List.mem_singleton.1 hq
      exact ⟨w1, w2⟩
  · by_cases e : kq = kx
    · subst e
      obtain rfl := key_one hx hq
      simp [hhas, WideAt.sameKey_self (keyed.key hx)]
    · have hqx : q ≠ x := fun e2 => e (by subst e2; exact Option.some.inj (hq.symm.trans hx))
      rw [List.mem_append, h.2.2 q kq hq, List.mem_singleton]
      show _ ↔ has D kq = true ∧ (left kq && !kq.sameKey kx) = false
      rw [show kq.sameKey kx = false by cases hs : kq.sameKey kx; rfl; exact absurd (WideAt.sameKey_eq hs) e]
      simp [hqx]
theorem Coll.done {D : DataW Unit} {left : Lit → Bool} {ss L : List (Int × Int)} (h : Coll D left ss) (hD : KeysAre D L) (hL : ∀ p ∈ L, WF p.1 ∧ WF p.2) (hl : ∀ kl, left kl = false) : ss.Nodup ∧ ∀ p, p ∈ ss ↔ p ∈ L := by
  refine ⟨h.1, fun p => ⟨fun hp => ?_, fun hp => ?_⟩⟩
  · obtain ⟨w1, w2⟩ := h.2.1 p hp
    obtain ⟨kl, hk⟩ := key_mk p.1 p.2 w1 w2
    exact (hD.2 p kl hk).1 ((h.2.2 p kl hk).1 hp).1
  · obtain ⟨w1, w2⟩ := hL p hp
    obtain ⟨kl, hk⟩ := key_mk p.1 p.2 w1 w2
    exact (h.2.2 p kl hk).2 ⟨(hD.2 p kl hk).2 hp, hl kl⟩
end Go.Proofs.YtalechngagkklaaDoor.KeysR
