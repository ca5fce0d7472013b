/-
  Texts of one seat, joined: Rd5, Kept, FreeH, Door.
-/
import Derived.Test.YtbbgibbpeibhiaaGreatDoorJn21
import Derived.Test.YtbbgibbpeibhiaaGreatDoorJn5
import Derived.Deep.Quiet
import Derived.Deep.WholeRow
import Derived.Test.YtbbgibbpeibhiaaGreatDoorRows
import Derived.Test.YtbbgibbpeibhiaaGreatDoorJn10
import Derived.WalkKit
import Derived.ProofKit
import Derived.OpenShut
import Derived.Lib.SmallJoins
import Derived.Deep.DeepHandedRow
import GoSem.PinnedTables
/-
  The drawing function l1Bad.
-/
namespace Go.Proofs.YtbbgibbpeibhiaaGreatDoor.Rd5
open Go.RowKit Go.Proofs.YtbbgibbpeibhiaaGreatDoor.Plain Go.Proofs.YtbbgibbpeibhiaaGreatDoor.Rd Go.Proofs.YtbbgibbpeibhiaaGreatDoor.Rd2 Go.Proofs.YtbbgibbpeibhiaaGreatDoor.Rd3 Go.Proofs.YtbbgibbpeibhiaaGreatDoor.Rd4
set_option linter.unusedVariables false

theorem cells3 {w : World} {g : Nat} {T : TypeId} {a b c : Value} (h : w.heap[g]? = some (.cells #[a, b, c] T (0, 0))) : w.cell? ⟨g, 0, none⟩ = some a ∧ w.cell? ⟨g, 1, none⟩ = some b ∧ w.cell? ⟨g, 2, none⟩ = some c ∧ w.frozen? ⟨g, 0, none⟩ = false ∧ w.frozen? ⟨g, 1, none⟩ = false ∧ w.frozen? ⟨g, 2, none⟩ = false :=
  ⟨cell_of_row _ _ 0 _ _ _ h, cell_of_row _ _ 1 _ _ _ h, cell_of_row _ _ 2 _ _ _ h, frozen_of_row _ _ 0 _ _ h, frozen_of_row _ _ 1 _ _ h, frozen_of_row _ _ 2 _ _ h⟩
/-- a drawn matrix -/
abbrev mtx (r c : Int) (s : ByteArray) : Value := .agg #[.int .i64 r, .int .i64 c, .string s]

end Go.Proofs.YtbbgibbpeibhiaaGreatDoor.Rd5

/-
  Blocks that are kept while calls only make memory; a drawn region walked once in the class of the worlds that keep them.
-/
namespace Go.Proofs.YtbbgibbpeibhiaaGreatDoor.Kept
open Go.RowKit Go.Proofs.YtbbgibbpeibhiaaGreatDoor.Plain Go.Proofs.YtbbgibbpeibhiaaGreatDoor.Rd
set_option linter.unusedVariables false

/-- these blocks lie so, and what lay before w lies as it lay -/
structure Kp (w wr : World) (l : List (Nat × Obj)) : Prop where
  all : ∀ p ∈ l, wr.heap[p.1]? = some p.2
  below : Below w.heap.size w wr
theorem kp_step {B : Nat} {w w1 w2 : World} (h : Below B w w1) (hB : B ≤ w1.heap.size) (h2 : Below w1.heap.size w1 w2) : Below B w w2 := h.trans (h2.mono hB)
theorem Kp.nil (w : World) : Kp w w [] := ⟨fun p hp => (by cases hp), Below.refl _ _⟩
theorem Kp.later {w wr w2 : World} {l : List (Nat × Obj)} (h : Kp w wr l) (hb : Below wr.heap.size wr w2) : Kp w w2 l :=
  ⟨fun p hp => (hb.block _ (Array.getElem?_eq_some_iff.1 (h.all p hp)).1).trans (h.all p hp), kp_step h.below h.below.size hb⟩
theorem Kp.drew {w wr : World} {l : List (Nat × Obj)} (h : Kp w wr l) : Kp w { wr with drawn := wr.drawn + 1 } l := ⟨h.all, ⟨h.below.os, h.below.tape, h.below.output, h.below.size, h.below.block⟩⟩
theorem Kp.put {w wr : World} {l : List (Nat × Obj)} (h : Kp w wr l) (o : Obj) {b : Nat} (hb : wr.heap.size = b) : Kp w (wr.alloc o) ((b, o) :: l) := by
  have h2 := h.later ((Below.refl wr.heap.size wr).alloc (Nat.le_refl _) o)
  refine ⟨fun p hp => ?_, h2.below⟩
  rcases List.mem_cons.1 hp with rfl | hp
  · subst hb
    exact heap_alloc_new wr o
  · exact h2.all p hp
theorem Kp.at {w wr : World} {l : List (Nat × Obj)} (h : Kp w wr l) (i : Nat) {p : Nat × Obj} (hi : l[i]? = some p) : wr.heap[p.1]? = some p.2 := h.all p (List.mem_of_getElem? hi)
theorem Kp.sub {w wr : World} {l m : List (Nat × Obj)} (h : Kp w wr l) (hs : ∀ p ∈ m, p ∈ l) : Kp w wr m := ⟨fun p hp => h.all p (hs p hp), h.below⟩

section
variable {P : Program} {ops : Array Oper} {C : World → Prop}
theorem quiet_gen {Q : Act → Prop} {a : Act} {o : Oper} {rest : List Oper} (hw : Region.wanted o (yielded ops a.tmps) = true) (v : Value) (h : ∀ w, C w → o.quietAt P a C w v) (hn : wpQuiet P ops C Q rest (a.put o.dst v)) :
    wpQuiet P ops C Q (o :: rest) a := by
  refine wpQuiet_step fun K hK => ?_
  rw [if_pos hw]
  exact ⟨v, h, hK _ hn⟩
theorem quiet_skip {Q : Act → Prop} {a : Act} {o : Oper} {rest : List Oper} (hw : Region.wanted o (yielded ops a.tmps) = false) (hn : wpQuiet P ops C Q rest (a.put o.dst undef)) :
    wpQuiet P ops C Q (o :: rest) a := by
  refine wpQuiet_step fun K hK => ?_
  rw [if_neg (by rw [hw]; decide)]
  exact hK _ hn
/-- a value, in each world of the class -/
theorem quiet_value {a : Act} {o : Oper} {w : World} {v : Value} (h : (execOp a.eval o).run P w = .ok (.value v) w) : o.quietAt P a C w v := by
  unfold Oper.quietAt
  rw [h]
  exact ⟨rfl, rfl⟩
/-- a call, in each world of the class -/
theorem quiet_enter {a : Act} {o : Oper} {w : World} {v : Value} (f : FuncId) (args : Array Value) (h : (execOp a.eval o).run P w = .ok (.enter f args) w) (hc : Calls P f args w fun e w' => e = .returned v ∧ C w') : o.quietAt P a C w v := by
  unfold Oper.quietAt
  rw [h]
  exact ⟨rfl, hc⟩
end
/-- the walk of the order of the text, closed: a plain wpQuiet over a list that is written out unfolds by itself where a guard skips operations -/
structure WQ (P : Program) (ops : Array Oper) (C : World → Prop) (Q : Act → Prop) (l : List Oper) (a : Act) : Prop where
  out : wpQuiet P ops C Q l a
theorem wq_step {P : Program} {ops : Array Oper} {C : World → Prop} {Q : Act → Prop} {a : Act} {o : Oper} {rest : List Oper}
    (h : ∀ K : Act → Prop, (∀ a, WQ P ops C Q rest a → K a) → if Region.wanted o (yielded ops a.tmps) then o.quiet P a C K else K (a.put o.dst undef)) : WQ P ops C Q (o :: rest) a :=
  ⟨wpQuiet_step fun K hK => h K fun a h2 => hK a h2.out⟩
theorem wq_nil {P : Program} {ops : Array Oper} {C : World → Prop} {Q : Act → Prop} {a : Act} (h : Q a) : WQ P ops C Q [] a := ⟨wpQuiet_nil h⟩
/-- a region that draws its order and whose callees only make memory: one walk of the order of the text -/
theorem region_kept {P : Program} {C : World → Prop} {id : Nat} {Q : Exit → Act → World → Prop} {a : Act} {w : World} {l : List Oper} (hC : C { w with drawn := w.drawn + 1 }) (hm : P.follows .mixedOrders = true) (hB : Region.lexB .any l.toArray = true)
    (h : WQ P l.toArray C (fun a' => ∀ w', C w' → Q .normal a' w') l a) : (Code.region id l.toArray true).wp P Q a w :=
  wp_region_quiet (C := C) hm hB hC (by simpa using h.out)
/-- a callee that only makes memory, met in a world that keeps some blocks -/
theorem Kp.call {P : Program} {f : FuncId} {args : Array Value} {w wx : World} {v : Value} {l : List (Nat × Obj)} (hC : Kp w wx l) (h : Calls P f args wx fun e w' => e = .returned v ∧ Below wx.heap.size wx w') :
    Calls P f args wx fun e w' => e = .returned v ∧ Kp w w' l := h.mono fun e w' ⟨he, hb⟩ => ⟨he, hC.later hb⟩
end Go.Proofs.YtbbgibbpeibhiaaGreatDoor.Kept

/-
  The same laws at a region that draws its order and has guards (&&, ||), where all guards are met: each operation comes up, behind that which its guard names.
-/
namespace Go.Proofs.YtbbgibbpeibhiaaGreatDoor.FreeH
open Go Go.RowKit Go.Proofs.YtbbgibbpeibhiaaGreatDoor.Free Go.Proofs.YtbbgibbpeibhiaaGreatDoor.FreeL
set_option linter.unusedVariables false

section
variable {P : Program} {ops : Array Oper}
/-- a guard names an operation ahead, with a slot -/
def guardB (ops : Array Oper) (o : Oper) : Bool :=
  match o.guard with
  | none => true
  | some (j, _) => (o.after.any fun e => e.on == j && Region.binds .any e) && ((ops[j]?).bind (·.dst)).isSome
def freeH (ops : Array Oper) (n : Nat) : Bool :=
  (ops.toList.all fun o => guardB ops o && (match o.dst with | some d => decide (d < n) | none => true)) &&
  decide (ops.toList.filterMap (·.dst)).Nodup &&
  (List.range ops.size).all fun i => (ops[i]?).all fun o => o.after.all fun e => !Region.binds .any e || decide (e.on < i)

theorem wpAnyH_mid {n : Nat} {a0 : Act} {Y : Nat → Value → Act → World → Prop} {S : (Nat → Bool) → World → Prop} {Q : Exit → Act → World → Prop} (hG : ∀ (i : Nat) (o : Oper) (j : Nat) (b : Bool), ops[i]? = some o → o.guard = some (j, b) → ∀ (v : Value) (a : Act) (w : World), Y j v a w → v = .bool b) (hB : freeH ops n = true) (hn : a0.tmps.size = n)
    (hstep : ∀ (i : Nat) (o : Oper), ops[i]? = some o → ∀ (listed : Array Bool) (a : Act) (w : World), MidL ops a0 Y S listed a w → listed.getD i false = false → (∀ e ∈ o.after, Region.binds .any e = true → listed.getD e.on false = true) →
      o.wp P a w (fun a' w' => ∃ v, a' = a.put o.dst v ∧ Y i v a' w' ∧ S (fun j => if j = i then true else listed.getD j false) w' ∧ ∀ j u, j ≠ i → listed.getD j false = true → Y j u a w → Y j u a' w') Q)
    (hend : ∀ a w, (∀ listed : Array Bool, (∀ i, listed.getD i false = decide (i < ops.size)) → MidL ops a0 Y S listed a w) → Q .normal a w) :
    ∀ (fuel : Nat) (listed : Array Bool) (a : Act) (w : World), listed.size = ops.size → left listed ops.size ≤ fuel → MidL ops a0 Y S listed a w → wpAny P .any ops Q fuel listed a w := by
  simp only [freeH, Bool.and_eq_true, decide_eq_true_eq] at hB
  obtain ⟨⟨h1, h2⟩, h3⟩ := hB
  have hg : ∀ (i : Nat) (o : Oper), ops[i]? = some o → guardB ops o = true := fun i o ho => by
    have := List.all_eq_true.1 h1 o (by simpa using Array.mem_of_getElem? ho)
    simp only [Bool.and_eq_true] at this
    exact this.1
  have hd : ∀ (i : Nat) (o : Oper) (d : Tmp), ops[i]? = some o → o.dst = some d → d < n := fun i o d ho hdst => by
    have := List.all_eq_true.1 h1 o (by simpa using Array.mem_of_getElem? ho)
    simp only [Bool.and_eq_true, hdst] at this
    simpa using this.2
  have hac : ∀ (i : Nat) (o : Oper), ops[i]? = some o → ∀ e ∈ o.after, Region.binds .any e = true → e.on < i := fun i o ho e he hb => by
    have hi : i < ops.size := (Array.getElem?_eq_some_iff.1 ho).1
    have := List.all_eq_true.1 h3 i (List.mem_range.2 hi)
    rw [ho] at this
    have h4 : ∀ e ∈ o.after, (!Region.binds .any e || decide (e.on < i)) = true := by
      have h5 : (o.after.all fun e => !Region.binds .any e || decide (e.on < i)) = true := this
      exact fun e he => Array.all_eq_true_iff_forall_mem.1 h5 e he
    have := h4 e he
    simpa [hb] using this
  have hdd : ∀ (i j : Nat) (oi oj : Oper) (d : Tmp), ops[i]? = some oi → ops[j]? = some oj → oi.dst = some d → oj.dst = some d → i = j := fun i j oi oj d hi hj di dj => by
    have hi' : ops.toList[i]? = some oi := by simpa using hi
    have hj' : ops.toList[j]? = some oj := by simpa using hj
    clear hd hac hg h1 h3 hstep hend hi hj
    generalize ops.toList = l at *
    induction l generalizing i j with
    | nil => simp at hi'
    | cons o l ih =>
      cases i with
      | zero =>
        cases j with
        | zero => rfl
        | succ j =>
          exfalso
          simp only [List.getElem?_cons_zero, Option.some.injEq] at hi'
          subst hi'
          simp only [List.getElem?_cons_succ] at hj'
          rw [List.filterMap_cons_some di, List.nodup_cons] at h2
          exact h2.1 (List.mem_filterMap.2 ⟨oj, List.mem_of_getElem? hj', dj⟩)
      | succ i =>
        cases j with
        | zero =>
          exfalso
          simp only [List.getElem?_cons_zero, Option.some.injEq] at hj'
          subst hj'
          simp only [List.getElem?_cons_succ] at hi'
          rw [List.filterMap_cons_some dj, List.nodup_cons] at h2
          exact h2.1 (List.mem_filterMap.2 ⟨oi, List.mem_of_getElem? hi', di⟩)
        | succ j =>
          simp only [List.getElem?_cons_succ] at hi' hj'
          have : (l.filterMap (·.dst)).Nodup := by
            cases hod : o.dst with
            | none => rwa [List.filterMap_cons_none hod] at h2
            | some x => rw [List.filterMap_cons_some hod, List.nodup_cons] at h2; exact h2.2
          rw [ih i j this hi' hj']
  have hall : ∀ (listed : Array Bool), listed.size = ops.size → Region.ready .any ops listed = [] → ∀ m, ∀ i, i < m → i < ops.size → listed.getD i false = true := by
    intro listed hsz hr m
    induction m with
    | zero => intro i hi; omega
    | succ m ih =>
      intro i hi hio
      by_cases e : i = m
      · subst e
        by_cases hl : listed.getD i false = true
        · exact hl
        · exfalso
          have hl2 : listed.getD i true = false := by
            have hlt : i < listed.size := by omega
            simp [hlt] at hl ⊢
            exact hl
          have : i ∈ Region.ready .any ops listed := by
            refine mem_ready.2 ⟨hl2, ops[i], by simp [hio], fun e he hb => ?_⟩
            have := hac i ops[i] (by simp [hio]) e he hb
            exact ih e.on this (by omega)
          rw [hr] at this
          cases this
      · exact ih i (by omega) hio
  intro fuel
  induction fuel with
  | zero =>
    intro listed a w hsz hc hM
    have hz := left_zero listed ops.size (by omega)
    have wEnd : ∀ l' : Array Bool, (∀ i, l'.getD i false = decide (i < ops.size)) → S (fun i => l'.getD i false) w := fun l' hl' => by
      have e : (fun i => l'.getD i false) = fun i => listed.getD i false := funext fun i => by
        rw [hl']
        by_cases hi : i < ops.size
        · rw [hz i hi]; exact decide_eq_true hi
        · rw [decide_eq_false hi]; simp [Array.getD_eq_getD_getElem?, Array.getElem?_eq_none (show listed.size ≤ i by omega)]
      rw [e]; exact hM.world
    refine ⟨?_, hend a w fun l' hl' => ⟨hM.defers, hM.size, wEnd l' hl', hM.old, fun i o ho _ e he hb => by rw [hl']; exact decide_eq_true (Nat.lt_trans (hac i o ho e he hb) (Array.getElem?_eq_some_iff.1 ho).1), fun i o ho _ => hM.new i o ho (hz i (Array.getElem?_eq_some_iff.1 ho).1)⟩⟩
    cases hr : Region.ready .any ops listed with
    | nil => rfl
    | cons i l =>
      exfalso
      have hi : i ∈ Region.ready .any ops listed := by rw [hr]; exact List.mem_cons_self
      obtain ⟨hu, o, ho, _⟩ := mem_ready.1 hi
      have hio : i < ops.size := (Array.getElem?_eq_some_iff.1 ho).1
      have := hz i hio
      have hlt : i < listed.size := by omega
      simp [hlt] at hu this
      rw [hu] at this
      cases this
  | succ fuel ih =>
    intro listed a w hsz hc hM
    refine ⟨fun hr => hend a w fun l' hl' => ⟨hM.defers, hM.size, (by
      have e : (fun i => l'.getD i false) = fun i => listed.getD i false := funext fun i => by
        rw [hl']
        by_cases hi : i < ops.size
        · rw [hall listed hsz hr ops.size i hi hi]; exact decide_eq_true hi
        · rw [decide_eq_false hi]; simp [Array.getD_eq_getD_getElem?, Array.getElem?_eq_none (show listed.size ≤ i by omega)]
      rw [e]; exact hM.world), hM.old, fun i o ho _ e he hb => by rw [hl']; exact decide_eq_true (Nat.lt_trans (hac i o ho e he hb) (Array.getElem?_eq_some_iff.1 ho).1), fun i o ho _ => hM.new i o ho (hall listed hsz hr ops.size i (Array.getElem?_eq_some_iff.1 ho).1 (Array.getElem?_eq_some_iff.1 ho).1)⟩, fun i hi => ?_⟩
    obtain ⟨hu, o, ho, hdep⟩ := mem_ready.1 hi
    have hio : i < ops.size := (Array.getElem?_eq_some_iff.1 ho).1
    have hu2 : listed.getD i false = false := by
      have hlt : i < listed.size := by omega
      simp [hlt] at hu ⊢
      exact hu
    unfold wpOp
    simp only [ho]
    have hw : Region.wanted o (yielded ops a.tmps) = true := by
      have hgo := hg i o ho
      unfold guardB at hgo
      unfold Region.wanted
      cases hq : o.guard with
      | none => rfl
      | some q =>
        obtain ⟨j, b⟩ := q
        rw [hq] at hgo
        simp only [Bool.and_eq_true, Array.any_eq_true] at hgo
        obtain ⟨⟨k, hk, hk2⟩, hd2⟩ := hgo
        rw [beq_iff_eq] at hk2
        have hj : listed.getD j false = true := by
          have := hdep o.after[k] (Array.getElem_mem hk) hk2.2
          rwa [hk2.1] at this
        obtain ⟨oj, hoj⟩ : ∃ oj, ops[j]? = some oj := by
          cases h : ops[j]? with
          | none => rw [h] at hd2; simp at hd2
          | some oj => exact ⟨oj, rfl⟩
        rw [hoj] at hd2
        obtain ⟨d, hdj⟩ : ∃ d, oj.dst = some d := Option.isSome_iff_exists.1 hd2
        obtain ⟨v, hv, hvd⟩ := hM.new j oj hoj hj
        obtain rfl := hG i o j b ho hq v a w hv
        have hy : yielded ops a.tmps j = some b := by simp [yielded, hoj, hdj, hvd d hdj]
        simp [hy]
    rw [if_pos hw]
    refine .inl (Oper.wp_mono ?_ (hstep i o ho listed a w hM hu2 hdep))
    rintro a' w' ⟨v, rfl, hY, hS, hst⟩
    refine ih _ _ _ (by simpa using hsz) (by have := left_set listed i (by omega) hu2 ops.size hio; omega) ⟨?_, ?_, ?_, ?_, ?_, ?_⟩
    · rw [← hM.defers]
      cases o.dst <;> rfl
    · rw [← hM.size]
      cases o.dst <;> simp [Act.put]
    · have e : (fun j => (listed.setIfInBounds i true).getD j false) = fun j => if j = i then true else listed.getD j false := funext fun j => by
        by_cases hj : j = i
        · subst hj
          have hlt : j < listed.size := by omega
          simp [Array.getD_eq_getD_getElem?, hlt]
        · simp [Array.getD_eq_getD_getElem?, Array.getElem?_setIfInBounds_ne (Ne.symm hj), hj]
      rw [e]; exact hS
    · intro k hk
      rw [← hM.old k hk]
      cases hod : o.dst with
      | none => rfl
      | some d =>
        have : d ≠ k := fun e => hk i o ho (by rw [hod, e])
        simp [Act.put, Array.getElem?_setIfInBounds_ne this]
    · intro j oj hoj hl e he hb
      have hl' : listed.getD e.on false = true := by
        by_cases e2 : j = i
        · subst e2
          obtain rfl : o = oj := Option.some.inj (ho.symm.trans hoj)
          exact hdep e he hb
        · have hl2 : listed.getD j false = true := by
            rw [← hl]
            simp [Array.getD_eq_getD_getElem?, Array.getElem?_setIfInBounds_ne (Ne.symm e2)]
          exact hM.closed j oj hoj hl2 e he hb
      exact getD_set_true hl'
    · intro j oj hoj hl
      by_cases e : j = i
      · subst e
        obtain rfl : o = oj := Option.some.inj (ho.symm.trans hoj)
        refine ⟨v, hY, fun d hdd' => ?_⟩
        have hdn := hd j o d ho hdd'
        rw [← hn, ← hM.size] at hdn
        simp [hdd', Act.put, hdn]
      · have hl2 : listed.getD j false = true := by
          rw [← hl]
          simp [Array.getD_eq_getD_getElem?, Array.getElem?_setIfInBounds_ne (Ne.symm e)]
        obtain ⟨u, hu', hd'⟩ := hM.new j oj hoj hl2
        refine ⟨u, hst j u e hl2 hu', fun d hdj => ?_⟩
        rw [← hd' d hdj]
        cases hod : o.dst with
        | none => rfl
        | some d2 =>
          have : d2 ≠ d := fun e2 => e (hdd j i oj o d hoj ho hdj (by rw [hod, e2]))
          simp [Act.put, Array.getElem?_setIfInBounds_ne this]

/-- THE LAW -/
theorem wp_region_freeH {id n : Nat} {a0 : Act} {w0 : World} {Y : Nat → Value → Act → World → Prop} {S : (Nat → Bool) → World → Prop} {Q : Exit → Act → World → Prop} (hm : P.follows .mixedOrders = true) (hG : ∀ (i : Nat) (o : Oper) (j : Nat) (b : Bool), ops[i]? = some o → o.guard = some (j, b) → ∀ (v : Value) (a : Act) (w : World), Y j v a w → v = .bool b) (hB : freeH ops n = true) (hn : a0.tmps.size = n)
    (hS : S (fun _ => false) { w0 with drawn := w0.drawn + 1 })
    (hstep : ∀ (i : Nat) (o : Oper), ops[i]? = some o → ∀ (listed : Array Bool) (a : Act) (w : World), MidL ops a0 Y S listed a w → listed.getD i false = false → (∀ e ∈ o.after, Region.binds .any e = true → listed.getD e.on false = true) →
      o.wp P a w (fun a' w' => ∃ v, a' = a.put o.dst v ∧ Y i v a' w' ∧ S (fun j => if j = i then true else listed.getD j false) w' ∧ ∀ j u, j ≠ i → listed.getD j false = true → Y j u a w → Y j u a' w') Q)
    (hend : ∀ (vs : Nat → Value) (w : World), S (fun i => decide (i < ops.size)) w → (∀ (i : Nat) (o : Oper), ops[i]? = some o → Y i (vs i) (fill ops.toList vs 0 a0) w) → Q .normal (fill ops.toList vs 0 a0) w) : (Code.region id ops true).wp P Q a0 w0 := by
  refine wp_region_any hm ?_
  have hB2 := hB
  simp only [freeH, Bool.and_eq_true, decide_eq_true_eq] at hB2
  obtain ⟨⟨h1, h2⟩, _⟩ := hB2
  refine wpAnyH_mid hG hB hn hstep (fun a w hM => ?_) _ _ _ _ (by simp) ?_ ⟨rfl, rfl, (by
    have e : (fun i => (Array.replicate ops.size false).getD i false) = fun _ => false := funext fun i => by
      by_cases hi : i < ops.size <;> simp [Array.getD_eq_getD_getElem?, hi]
    rw [e]; exact hS), fun _ _ => rfl, fun i o _ hl => ?_, fun i o _ hl => ?_⟩
  · have M := hM (Array.replicate ops.size true) (fun i => by by_cases hi : i < ops.size <;> simp [Array.getD_eq_getD_getElem?, hi])
    have hl : ∀ (i : Nat) (o : Oper), ops[i]? = some o → (Array.replicate ops.size true).getD i false = true := fun i o ho => by
      have hi : i < ops.size := (Array.getElem?_eq_some_iff.1 ho).1
      simp [Array.getD_eq_getD_getElem?, hi]
    classical
    obtain ⟨vs, hvs⟩ : ∃ vs : Nat → Value, ∀ (i : Nat) (o : Oper), ops[i]? = some o → Y i (vs i) a w ∧ ∀ d, o.dst = some d → a.tmps[d]? = some (vs i) := by
      refine ⟨fun i => if h : ∃ v : Value, ∀ o : Oper, ops[i]? = some o → Y i v a w ∧ ∀ d, o.dst = some d → a.tmps[d]? = some v then h.choose else undef, fun i o ho => ?_⟩
      have hex : ∃ v : Value, ∀ o : Oper, ops[i]? = some o → Y i v a w ∧ ∀ d, o.dst = some d → a.tmps[d]? = some v := by
        obtain ⟨v, hv⟩ := M.new i o ho (hl i o ho)
        exact ⟨v, fun o' ho' => by obtain rfl : o = o' := Option.some.inj (ho.symm.trans ho'); exact hv⟩
      dsimp only
      rw [dif_pos hex]
      exact hex.choose_spec o ho
    have ha : a = fill ops.toList vs 0 a0 := by
      have ht : a.tmps = (fill ops.toList vs 0 a0).tmps := by
        apply Array.ext_getElem?
        intro k
        by_cases hk : ∃ (i : Nat) (o : Oper), ops[i]? = some o ∧ o.dst = some k
        · obtain ⟨i, o, ho, hd⟩ := hk
          have hkn : k < a0.tmps.size := by
            have := List.all_eq_true.1 h1 o (by simpa using Array.mem_of_getElem? ho)
            simp only [Bool.and_eq_true, hd] at this
            rw [hn]
            simpa using this.2
          rw [fill_at k ops.toList vs 0 a0 i o (by simpa using ho) hd h2 hkn, (hvs i o ho).2 k hd, Nat.zero_add]
        · have hk2 : ∀ (i : Nat) (o : Oper), ops[i]? = some o → o.dst ≠ some k := fun i o ho e => hk ⟨i, o, ho, e⟩
          rw [M.old k hk2, fill_not k ops.toList vs 0 a0]
          intro o ho e
          obtain ⟨i, hi, rfl⟩ := List.getElem_of_mem ho
          exact hk2 i _ (by simp at hi; simp [hi]) e
      have hdf := M.defers
      rw [← fill_defers ops.toList vs 0 a0] at hdf
      cases a
      cases hfl : fill ops.toList vs 0 a0
      rw [hfl] at ht hdf
      simp only at ht hdf
      rw [ht, hdf]
    rw [ha]
    refine hend vs w (by
      have e : (fun i => (Array.replicate ops.size true).getD i false) = fun i => decide (i < ops.size) := funext fun i => by
        by_cases hi : i < ops.size <;> simp [Array.getD_eq_getD_getElem?, hi]
      have M2 := M.world
      rw [e] at M2; exact M2) fun i o ho => ?_
    rw [← ha]
    exact (hvs i o ho).1
  · clear hstep hend
    have : ∀ n, left (Array.replicate ops.size false) n ≤ n := fun n => by
      induction n with
      | zero => simp [left]
      | succ n ih => rw [left]; split <;> omega
    exact this _
  all_goals
    exfalso
    simp [Array.getD_eq_getD_getElem?, Array.getElem?_replicate] at hl
    split at hl <;> simp at hl
/-- what an operation may know of the slots -/
def FactsH (ops : Array Oper) (a0 : Act) (R : Nat → Value → World → Prop) (o : Oper) (a : Act) (w : World) : Prop :=
  (∀ e ∈ o.after, Region.binds .any e = true → ∀ (oj : Oper) (dj : Tmp), ops[e.on]? = some oj → oj.dst = some dj → R e.on (a.tmps[dj]?.getD undef) w) ∧
  (∀ k, (ops.toList.all fun o => o.dst != some k) = true → a.tmps[k]?.getD undef = a0.tmps[k]?.getD undef)
/-- THE LAW -/
theorem wp_region_relsH {id n : Nat} {a0 : Act} {w0 : World} {Q : Exit → Act → World → Prop} (R : Nat → Value → World → Prop)
    (hR : ∀ (i : Nat) (v : Value) (w w' : World), Below w.heap.size w w' → R i v w → R i v w')
    (hG : ∀ (i : Nat) (o : Oper) (j : Nat) (b : Bool), ops[i]? = some o → o.guard = some (j, b) → ∀ (v : Value) (w : World), R j v w → v = .bool b)
    (hm : P.follows .mixedOrders = true) (hB : freeH ops n = true) (hn : a0.tmps.size = n)
    (hcon : ∀ (i : Nat) (o : Oper), ops[i]? = some o → ∀ (a : Act) (w : World), Below w0.heap.size w0 w → FactsH ops a0 R o a w →
      o.wp P a w (fun a' w' => ∃ v, a' = a.put o.dst v ∧ R i v w' ∧ Below w.heap.size w w') Q)
    (hend : ∀ (vs : Nat → Value) (w : World), Below w0.heap.size w0 w → (∀ (i : Nat) (o : Oper), ops[i]? = some o → R i (vs i) w) → Q .normal (fill ops.toList vs 0 a0) w) :
    (Code.region id ops true).wp P Q a0 w0 := by
  refine wp_region_freeH (Y := fun i v a w => R i v w) (S := fun _ w => Below w0.heap.size w0 w) hm (fun i o j b ho hg v a w hY => hG i o j b ho hg v w hY) hB hn (Below.refl w0.heap.size w0).drew ?_ ?_
  · intro i o ho listed a w hM hu hdp
    have hf : FactsH ops a0 R o a w := by
      refine ⟨fun e he hb oj dj hoj hdj => ?_, fun k hk => ?_⟩
      · obtain ⟨v, hv, hvd⟩ := hM.new e.on oj hoj (hdp e he hb)
        rw [hvd dj hdj]
        exact hv
      · rw [hM.old k fun i o' ho' hd' => ?_]
        have := List.all_eq_true.1 hk o' (by simpa using Array.mem_of_getElem? ho')
        simp [hd'] at this
    refine Oper.wp_mono ?_ (hcon i o ho a w hM.world hf)
    rintro a' w' ⟨v, rfl, hRv, hb⟩
    exact ⟨v, rfl, hRv, hM.world.trans (hb.mono hM.world.size), fun j u _ _ hY => hR j u w w' hb hY⟩
  · intro vs w hS hall
    exact hend vs w hS hall
theorem wp_enterE {o : Oper} {a : Act} {w : World} {K : Act → World → Prop} {Q : Exit → Act → World → Prop} (f : FuncId) (args : Array Value) (R : Value → World → Prop) (h : (execOp a.eval o).run P w = .ok (.enter f args) w)
    (hc : Calls P f args w fun e w' => ∃ v, e = .returned v ∧ R v w') (hK : ∀ v w', R v w' → K (a.put o.dst v) w') : o.wp P a w K Q := by
  unfold Oper.wp
  rw [h]
  refine Calls.mono hc ?_
  rintro e w' ⟨v, rfl, hR⟩
  exact hK v w' hR
end
end Go.Proofs.YtbbgibbpeibhiaaGreatDoor.FreeH

/-
  What each law of this seat shares: the witness's world, a matrix read as data, and the last part of a statement.
-/
namespace Go.Proofs.YtbbgibbpeibhiaaGreatDoor.Door
open Go.ChangeShapes Go.WideShapes Go.ChangeAt Go.RowKit Go.Joins
set_option linter.unusedVariables false

theorem own : ownKnob Tryz.prog.godebug = none := by kernel_rfl
/-- the numbers of the table that is read as data -/
def ranges : List Nat := [128, 191, 160, 191, 128, 159, 144, 191, 128, 143, 0, 0, 0, 0, 0, 0, 0, 0, 0, 0, 0, 0, 0, 0, 0, 0, 0, 0, 0, 0, 0, 0]
/-- a block of cells that holds other numbers -/
def relaid (l : List Nat) : Obj → Obj
  | .cells _ t frozen => .cells (l.map fun (n : Nat) => Value.int .u8 (n : Int)).toArray t frozen
  | o => o
/-- a world for the witness: the settled one, both tables as their texts lay them -/
noncomputable def laidWorld (os : Os) : World :=
  { World.holding Tryz.prog os ⟨#[], #[], []⟩ with heap := ((World.holding Tryz.prog os ⟨#[], #[], []⟩).heap.modify 2 (relaid ranges)).modify 1 (relaid Go.Pinned.utf8FirstZ) }

section
variable {H : Type} {enc : TypeId × Value → H}
/-- what a call that only makes memory leaves of the statement's last part -/
theorem post_below {P : Program} {f : Func} {s : ChangeSpec} {apart fresh handsOn again : Bool} {W W' : World} {args : Array Value} {v : Value} {ds gs : List (DataW H)} {before : List MemPlace}
    (hW : DataW.Whole enc P f.params.toList s.vars apart W args.toList ds gs before) (hb : Below W.heap.size W W')
    (hres : ∀ (b : Nat) (sp : Nat → Bool) (hd : Bool), DataW.TrodAll enc P W' b sp hd f.resultTypes.toList (v.resultList f.resultTypes.size) (s.fn H (ds ++ gs)).results [])
    (hargs : ∀ sp : Nat → Bool, (∀ p ∈ before, sp p.block = true) → DataW.TrodAll enc P W' 0 sp true f.params.toList args.toList (s.fn H (ds ++ gs)).args before)
    (hvars : ∀ sp : Nat → Bool, (∀ p ∈ before, sp p.block = true) → DataW.TrodVars enc P W' sp s.vars (s.fn H (ds ++ gs)).vars [])
    (hok : ∀ (j : Nat) (t : TypeId) (r : Value), f.resultTypes[j]? = some t → (v.resultList f.resultTypes.size)[j]? = some r → Value.okWide P W' .any 0 t r) :
    s.post enc P f apart fresh handsOn again W args v W' := by
  have hlt := hW.lt
  have hold : ∀ p ∈ before, (fun b => decide (b < W.heap.size)) p.block = true := fun p hp => by simpa using hlt p hp
  refine ⟨ds, gs, before, [], before, [], hW, hres _ _ _, hargs _ hold, hvars _ hold, hb.frame _, fun _ => ?_⟩
  obtain ⟨_, _, _, _, _, hz, hn⟩ := hW
  refine ⟨hok, _, _, ([] ++ before) ++ [], ⟨[] ++ before, [], trodAll_append (hargs _ (fun _ _ => rfl)) (hres _ _ _), hvars _ (fun _ _ => rfl), rfl, ?_, ?_⟩, ?_⟩
  · intro b off hp
    have hp' : MemPlace.cell b off ∈ before := by simpa using hp
    rw [hb.frozen (p := ⟨b, off, none⟩) (hlt _ hp')]
    exact hz b off hp'
  · intro ha
    simpa using hn ha
  · intro p hp _
    simpa using hp
end
end Go.Proofs.YtbbgibbpeibhiaaGreatDoor.Door

