/-
  Texts of one seat, joined: DiscWalk, KeysR.
-/
import Derived.Test.YtgmhddceeomjbaaGreatDoorJ21
import Derived.RangeFuncNested
import Derived.RangeFuncBound
import Derived.RangeFuncCalls
import Derived.RangeFuncLeaves
import Derived.RangeFuncStops
import Derived.RangeFuncKeeps
import Derived.Maps.OwnIn
import Derived.Maps.Ext
import Derived.Sort.MapsRangeIn
import Derived.DeepKeys4
import Derived.MapViews
import Derived.Shelf.Abstract
import Derived.Shelf.AbstractIn
import Derived.WalkKit
import Derived.OwnWalkIn
import Derived.TacticsInMore
import Derived.RegionIn
import Derived.LoopNIn
import Derived.LoopIn
import Derived.OpenShut
import Derived.Lib.SmallJoins
import Derived.Lib.Hide
import Derived.Test.YtgmhddceeomjbaaGreatDoorJ11
/-
  The walk of the law on DiscrepancyOf.
-/
namespace Go.Proofs.YtgmhddceeomjbaaGreatDoor.fnExactDiscrepancyOf
open Go.RowKit Go.Proofs.YtgmhddceeomjbaaGreatDoor.Plain Go.Proofs.YtgmhddceeomjbaaGreatDoor.Base Go.Proofs.YtgmhddceeomjbaaGreatDoor.Valid Go.Proofs.YtgmhddceeomjbaaGreatDoor.Law Go.Proofs.YtgmhddceeomjbaaGreatDoor.GridPlain Go.Proofs.YtgmhddceeomjbaaGreatDoor.Entry Go.Proofs.YtgmhddceeomjbaaGreatDoor.Pat Go.Proofs.YtgmhddceeomjbaaGreatDoor.Rect Go.Proofs.YtgmhddceeomjbaaGreatDoor.Patch Go.Proofs.YtgmhddceeomjbaaGreatDoor.FreeL Go.Proofs.YtgmhddceeomjbaaGreatDoor.Board Go.Proofs.YtgmhddceeomjbaaGreatDoor.BoardM Go.Proofs.YtgmhddceeomjbaaGreatDoor.RValid Go.Proofs.YtgmhddceeomjbaaGreatDoor.Area Go.Proofs.YtgmhddceeomjbaaGreatDoor.Bal Go.Proofs.YtgmhddceeomjbaaGreatDoor.Colour Go.Proofs.YtgmhddceeomjbaaGreatDoor.EachS Go.Proofs.YtgmhddceeomjbaaGreatDoor.Disc Go.Proofs.YtgmhddceeomjbaaGreatDoor.DiscI
set_option linter.unusedVariables false

theorem fold_up (E : Nat → Nat → Bool) (R C : Nat) : ∀ k, k < 256 → foldL (fun S => sumI (fun y => max (bal E S (2 ^ y) R C) 0) C) (fun S => sumI (fun y => max (- bal E S (2 ^ y) R C) 0) C) (upS k) = foldTo E R C (-1) k
  | 0, _ => rfl
  | k + 1, h => by
    rw [upS, dif_pos h, foldL_next, fold_up E R C k (by omega), foldTo]
    rfl

theorem impl_all (E : Nat → Nat → Bool) (R C : Nat) (hR : R ≤ 8) (hC : C ≤ 8) (rr cc : Int) (s : ByteArray)
    (hbo : ∀ W : World, Calls Tryz.prog 35 #[mat rr cc s] W fun e w' => e = .returned (brd R C (pat (onB (fun x y => !E x y) R C) 8) (pat (onB E R C) 8)) ∧ Below W.heap.size W w') (w : World) :
    Calls Tryz.prog 21 #[mat rr cc s] w fun e W' => e = .returned (.int .i64 (foldTo E R C (-1) (2 ^ R - 1))) ∧ Below w.heap.size w W' := by
  have h := callsIn_wide.1 (disc_in 3 (by omega) R C hR hC _ _ rr cc s (fun S X => bal E S X R C) (fun S X => bal_bound E S X R C hR hC) hbo (fun S X hS hX W => by
    have hb := balance_any (R : Int) (C : Int) (onB (fun x y => !E x y) R C) (onB E R C) (onB_lt _ R C hC) (onB_lt _ R C hC) S X hS hX W
    rw [show (((sumN (fun x => pop8 (rectB S X x &&& onB E R C x)) 8 : Nat) : Int) - ((sumN (fun x => pop8 (rectB S X x &&& onB (fun x y => !E x y) R C x)) 8 : Nat) : Int)) = bal E S X R C from bal_count E S X R C hR hC hX] at hb
    exact hb) w)
  have hp := (pow8 R hR).2
  rw [fold_up E R C _ (by omega)] at h
  exact h

set_option maxHeartbeats 400000 in
theorem spec_dOf (r c v : Int) (s : ByteArray) (hs : s.size ≤ maxLen) (b : Bool) (hb : validB r c s = b) (hd : b = true → ∀ W : World, Calls Tryz.prog 63 #[mat r c s] W fun e w' => e = .returned (.int .i64 v) ∧ Below W.heap.size W w') (w : World) :
    Calls Tryz.prog 22 #[mat r c s] w fun e w' => e = .returned (.int .i64 (if b = true then v else -1)) ∧ Below w.heap.size w w' := by
  have HV := Lib.hid hb
  have HD := Lib.hid hd
  clear hb hd
  go_enter Tryz.func22, Tryz.ntmps22
  go_wp2_with fail
  refine (spec_valid r c s hs _).mono ?_
  rintro e w1 ⟨rfl, hb1⟩
  rw [HV.out]
  obtain ⟨k0, k1, k2⟩ := three_of hb1
  have HB := Lib.hid (bstep ((Below.refl w.heap.size w).alloc (Nat.le_refl _) _) hb1)
  clear hb1
  cases b
  · go_wp2_with fail
    go_ret
    exact ⟨rfl, HB.out⟩
  · go_wp2_with fail
    refine (HD.out (by trivial) _).mono ?_
    rintro e w2 ⟨rfl, hb2⟩
    have HB2 := Lib.hid (bstep HB.out hb2)
    clear hb2
    go_wp2_with fail
    go_ret
    exact ⟨rfl, HB2.out⟩

/-- both find one number -/
theorem both (r c : Int) (s : ByteArray) (hs : s.size ≤ maxLen) : ∃ v : Int,
    (∀ w, Calls Tryz.prog 22 #[mat r c s] w fun e w' => e = .returned (.int .i64 v) ∧ Below w.heap.size w w') ∧
    (∀ w, Calls Tryz.prog 21 #[mat r c s] w fun e w' => e = .returned (.int .i64 v) ∧ Below w.heap.size w w') := by
  by_cases hv : validB r c s = true
  · obtain ⟨R, C, E, rfl, rfl, h1, h2, h3, h4, rfl⟩ := valid_form hv
    have hp : 2 ≤ 2 ^ R := by
      have := Nat.pow_le_pow_right (n := 2) (by decide) h1
      omega
    refine ⟨foldTo E R C (-1) (2 ^ R - 1), fun w => ?_, fun w => impl_all E R C h2 h4 _ _ _ (fun W => board_yes R C E h1 h2 h3 h4 hs hv W) w⟩
    rw [← fold_eq E R C h2 h4 _ (by omega)]
    exact spec_dOf R C _ _ hs true hv (fun _ W => spec_disc E R C h1 h2 h3 h4 W) w
  · have hv' : validB r c s = false := by simpa using hv
    refine ⟨-1, fun w => spec_dOf r c 0 s hs false hv' (fun h => by cases h) w, fun w => ?_⟩
    exact impl_all (fun _ _ => false) 0 0 (by omega) (by omega) r c s (fun W => board_no r c s hs hv' W) w

end Go.Proofs.YtgmhddceeomjbaaGreatDoor.fnExactDiscrepancyOf

/-
  A map keyed by rectangles that a call makes: what it holds, its keys by maps.Keys.
-/
namespace Go.Proofs.YtgmhddceeomjbaaGreatDoor.KeysR
open Go.RowKit Go.Maps Go.Sort Go.Shelf Go.Joins Go.Proofs.YtgmhddceeomjbaaGreatDoor.Plain Go.Proofs.YtgmhddceeomjbaaGreatDoor.Rect
set_option linter.unusedVariables false
attribute [local go_sem] Oper.semAt_some

theorem laidOut : laidOutB Tryz.prog = true := by kernel_rfl
theorem rowK : (34 : TypeId) < Tryz.prog.types.size := of_decide_eq_true (by kernel_rfl)
theorem deepK : Tryz.prog.keyTypeAt (Tryz.prog.types.size + 1) 34 = true := by kernel_rfl
theorem wideK : (match Tryz.prog.underlying 34 with | some (.array _ _) | some (.struct _) => true | _ => false) = true := by rw [Tryz.underlying34]
theorem key2 : Tryz.prog.keyTypeAt 2 34 = true := by kernel_rfl
set_option maxRecDepth 100000 in
theorem lawK : WideMaps.KeyLaw Tryz.prog 34 := deep_law_laid laidOut (m := 2) (by decide) rowK key2 wideK
theorem keyed : Keyed Tryz.prog 34 := Keyed.of_law lawK
theorem cellsK : Tryz.prog.cellsOf 34 = 2 := by kernel_rfl
theorem cellsI : Tryz.prog.cellsOf 3 = 1 := by kernel_rfl
theorem formedK (c0 c1 : Value) : (Value.agg #[c0, c1]).formed Tryz.prog 34 = true := by simp [Value.formed, Tryz.underlying34, cellsK]
/-- a number of 64 bits -/
def WF (x : Int) : Prop := (Lit.int .i64 x).wf = true
theorem WF.mk {x : Int} (h : 0 ≤ x ∧ x < 256) : WF x := by
  unfold WF
  simp [Lit.wf, IntKind.min, IntKind.max, IntKind.bits, IntKind.signed]
  omega

set_option maxRecDepth 100000 in
theorem key_mk (a b : Int) (ha : WF a) (hb : WF b) : ∃ kl, keyOf Tryz.prog 34 (rect a b) = some kl := by
  have t : ∀ W : World, DataW.Trod (fun _ => ()) Tryz.prog W 0 (fun _ => true) true 34 (rect a b) (.agg [.lit (.int .i64 a), .lit (.int .i64 b)]) [] := fun W =>
    shut_agg2 (y0 := (.lit (.int .i64 a), [])) (y1 := (.lit (.int .i64 b), [])) Tryz.underlying34 (by kernel_rfl) cellsK
      ⟨1, by have ha' : (Lit.int .i64 a).wf = true := ha; simp [DataW.trod, Tryz.underlying3, ha']⟩ ⟨1, by have hb' : (Lit.int .i64 b).wf = true := hb; simp [DataW.trod, Tryz.underlying3, hb']⟩
  exact ⟨_, (keyOf_asKey deepK wideK (formedK _ _) (t (default : World))).1⟩

set_option maxRecDepth 100000 in
theorem lit_int {d : Nat} {x : Value} {l : List Lit} (h : Tryz.prog.keyLits (d + 1) 3 [x] = some l) : ∃ n, x = .int .i64 n ∧ WF n := by
  unfold Program.keyLits at h
  rw [Tryz.underlying3] at h
  cases x with
  | int q n =>
    simp only at h
    split at h
    · rename_i hc
      obtain ⟨rfl, hw⟩ := hc
      exact ⟨n, rfl, hw⟩
    · cases h
  | _ => simp at h
set_option maxRecDepth 100000 in
theorem key_inv {v : Value} {kl : Lit} (h : keyOf Tryz.prog 34 v = some kl) : ∃ p : Int × Int, v = rect p.1 p.2 ∧ WF p.1 ∧ WF p.2 := by
  obtain ⟨d, hd⟩ : ∃ d, Tryz.prog.types.size = d + 1 := ⟨Tryz.prog.types.size - 1, (Nat.sub_add_cancel (Nat.lt_of_le_of_lt (Nat.zero_le _) rowK)).symm⟩
  unfold keyOf at h
  rw [Tryz.underlying34] at h
  simp only at h
  split at h
  · rename_i hc
    rw [Bool.and_eq_true] at hc
    have hf := hc.2
    cases v with
    | agg cs =>
      simp only [Value.formed, Tryz.underlying34, cellsK, beq_iff_eq] at hf
      match cs, hf with
      | ⟨[x, y]⟩, _ =>
        rw [hd] at h
        simp only [Value.cells] at h
        obtain ⟨ls, hls, -⟩ := Option.map_eq_some_iff.1 h
        unfold Program.keyLits at hls
        rw [Tryz.underlying34] at hls
        simp only at hls
        split at hls
        · obtain ⟨l2, h2, -⟩ := Option.map_eq_some_iff.1 hls
          rw [List.mapM_cons, List.mapM_cons, List.mapM_nil] at h2
          simp only [cellsI] at h2
          have h5 : ((Tryz.prog.keyLits (d + 1) 3 [x]).bind fun la => ((Tryz.prog.keyLits (d + 1) 3 [y]).bind fun lb => some [lb]).bind fun t => some (la :: t)) = some l2 := h2
          cases h3 : Tryz.prog.keyLits (d + 1) 3 [x] with
          | none => rw [h3] at h5; cases h5
          | some la =>
            cases h4 : Tryz.prog.keyLits (d + 1) 3 [y] with
            | none => rw [h3, h4] at h5; cases h5
            | some lb =>
              obtain ⟨a, rfl, ha⟩ := lit_int h3
              obtain ⟨b, rfl, hb⟩ := lit_int h4
              exact ⟨(a, b), rfl, ha, hb⟩
        · cases hls
    | _ => simp [Value.formed, Tryz.underlying34] at hf
  · cases h
theorem rect_one {a b c d : Int} (h : rect a b = rect c d) : a = c ∧ b = d := by
  have h1 : rect a b = Value.agg #[.int .i64 c, .int .i64 d] := h
  simpa [rect] using h1
set_option maxRecDepth 100000 in
theorem key_one {p q : Int × Int} {kl : Lit} (hp : keyOf Tryz.prog 34 (rect p.1 p.2) = some kl) (hq : keyOf Tryz.prog 34 (rect q.1 q.2) = some kl) : p = q := by
  have h1 := rect_one (keyed.inj hp hq)
  exact Prod.ext h1.1 h1.2

/-- the map's keys are the rectangles of a list -/
def KeysAre (D : DataW Unit) (L : List (Int × Int)) : Prop := IsMap D ∧ ∀ (p : Int × Int) (kl : Lit), keyOf Tryz.prog 34 (rect p.1 p.2) = some kl → (has D kl = true ↔ p ∈ L)
theorem KeysAre.start : KeysAre (.map []) [] := ⟨⟨[], rfl⟩, fun p kl _ => ⟨fun h => by simp [has_eq] at h, fun h => by cases h⟩⟩
set_option maxRecDepth 100000 in
theorem KeysAre.put {D : DataW Unit} {L : List (Int × Int)} (h : KeysAre D L) {p : Int × Int} {kl : Lit} (hp : keyOf Tryz.prog 34 (rect p.1 p.2) = some kl) (d : DataW Unit) : KeysAre (D.put kl d) (L ++ [p]) := by
  refine ⟨IsMap.put h.1 kl d, fun q kq hq => ?_⟩
  by_cases e : kq = kl
  · subst e
    obtain rfl := key_one hp hq
    rw [has_put_same h.1 (keyed.key hp)]
    simp
  · rw [has_put_other e, h.2 q kq hq, List.mem_append, List.mem_singleton]
    constructor
    · exact .inl
    · rintro (h1 | rfl)
      · exact h1
      · exact absurd (Option.some.inj (hq.symm.trans hp)) e

/-- what has come of the keys -/
def Coll (D : DataW Unit) (left : Lit → Bool) (ss : List (Int × Int)) : Prop :=
  ss.Nodup ∧ (∀ p ∈ ss, WF p.1 ∧ WF p.2) ∧ ∀ (p : Int × Int) (kl : Lit), keyOf Tryz.prog 34 (rect p.1 p.2) = some kl → (p ∈ ss ↔ (has D kl = true ∧ left kl = false))
theorem Coll.start (D : DataW Unit) : Coll D (has D) [] := ⟨List.nodup_nil, fun p h => (by cases h), fun p kl _ => by cases has D kl <;> simp⟩
set_option maxRecDepth 100000 in
theorem Coll.step {D : DataW Unit} {left : Lit → Bool} {ss : List (Int × Int)} (h : Coll D left ss) {x : Int × Int} {kx : Lit} {y : DataW Unit} (hx : keyOf Tryz.prog 34 (rect x.1 x.2) = some kx) (hlk : left kx = true) (hat : ∀ zd, D.atKey kx zd = y) :
    Coll D (fun z => left z && !z.sameKey kx) (ss ++ [x]) := by
  have hhas : has D kx = true := has_true_of_atKey hat
  have hnew : x ∉ ss := fun hm => by have := ((h.2.2 x kx hx).1 hm).2; rw [hlk] at this; cases this
  obtain ⟨p, hp, w1, w2⟩ := key_inv hx
  obtain rfl : x = p := Prod.ext (rect_one hp).1 (rect_one hp).2
  refine ⟨List.nodup_append.2 ⟨h.1, by simp, fun a ha b hb => by simp at hb; subst hb; exact fun e => hnew (e ▸ ha)⟩, fun q hq => ?_, fun q kq hq => ?_⟩
  · rcases List.mem_append.1 hq with hq | hq
    · exact h.2.1 q hq
    · obtain rfl := List.mem_singleton.1 hq
      exact ⟨w1, w2⟩
  · by_cases e : kq = kx
    · subst e
      obtain rfl := key_one hx hq
      simp [hhas, WideAt.sameKey_self (keyed.key hx)]
    · have hqx : q ≠ x := fun e2 => e (by subst e2; exact Option.some.inj (hq.symm.trans hx))
      rw [List.mem_append, h.2.2 q kq hq, List.mem_singleton]
      show _ ↔ has D kq = true ∧ (left kq && !kq.sameKey kx) = false
      rw [show kq.sameKey kx = false by cases hs : kq.sameKey kx; rfl; exact absurd (WideAt.sameKey_eq hs) e]
      simp [hqx]
theorem Coll.done {D : DataW Unit} {left : Lit → Bool} {ss L : List (Int × Int)} (h : Coll D left ss) (hD : KeysAre D L) (hL : ∀ p ∈ L, WF p.1 ∧ WF p.2) (hl : ∀ kl, left kl = false) : ss.Nodup ∧ ∀ p, p ∈ ss ↔ p ∈ L := by
  refine ⟨h.1, fun p => ⟨fun hp => ?_, fun hp => ?_⟩⟩
  · obtain ⟨w1, w2⟩ := h.2.1 p hp
    obtain ⟨kl, hk⟩ := key_mk p.1 p.2 w1 w2
    exact (hD.2 p kl hk).1 ((h.2.2 p kl hk).1 hp).1
  · obtain ⟨w1, w2⟩ := hL p hp
    obtain ⟨kl, hk⟩ := key_mk p.1 p.2 w1 w2
    exact (h.2.2 p kl hk).2 ⟨(hD.2 p kl hk).2 hp, hl kl⟩
end Go.Proofs.YtgmhddceeomjbaaGreatDoor.KeysR

