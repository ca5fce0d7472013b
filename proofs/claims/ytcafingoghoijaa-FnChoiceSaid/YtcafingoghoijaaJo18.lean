/-
  Texts of one seat, joined: FreeH, Wq.
-/
import Derived.Test.YtcafingoghoijaaJo1
import Derived.Test.YtcafingoghoijaaJo4
import Derived.Below
import Derived.WalkKit
import Derived.WalkSpells
import Derived.Lib.Hide
import Derived.Handy
import Derived.Outline
import Derived.Deep.Quiet
import Derived.Deep.QuietTactic
import Derived.BigQuiet
/-
  The same laws at a region that draws its order and has guards (&&, ||), where all guards are met: each operation comes up, behind that which its guard names.
-/
namespace Go.Proofs.Ytcafingoghoijaa.FreeH
open Go Go.RowKit Go.Proofs.Ytcafingoghoijaa.Free Go.Proofs.Ytcafingoghoijaa.FreeL
set_option linter.unusedVariables false

section
variable {P : Program} {ops : Array Oper}
/-- a guard names an operation ahead, with a slot -/
def guardB (ops : Array Oper) (o : Oper) : Bool :=
  match o.guard with
  | none => true
  | some (j, _) => (o.after.any fun e => e.on == j && Region.binds .any e) && ((ops[j]?).bind (·.dst)).isSome
def freeH (ops : Array Oper) (n : Nat) : Bool :=
  (ops.toList.all fun o => guardB ops o && (match o.dst with | some d => decide (d < n) | none => true)) &&
  decide (ops.toList.filterMap (·.dst)).Nodup &&
  (List.range ops.size).all fun i => (ops[i]?).all fun o => o.after.all fun e => !Region.binds .any e || decide (e.on < i)

theorem wpAnyH_mid {n : Nat} {a0 : Act} {Y : Nat → Value → Act → World → Prop} {S : (Nat → Bool) → World → Prop} {Q : Exit → Act → World → Prop} (hG : ∀ (i : Nat) (o : Oper) (j : Nat) (b : Bool), ops[i]? = some o → o.guard = some (j, b) → ∀ (v : Value) (a : Act) (w : World), Y j v a w → v = .bool b) (hB : freeH ops n = true) (hn : a0.tmps.size = n)
    (hstep : ∀ (i : Nat) (o : Oper), ops[i]? = some o → ∀ (listed : Array Bool) (a : Act) (w : World), MidL ops a0 Y S listed a w → listed.getD i false = false → (∀ e ∈ o.after, Region.binds .any e = true → listed.getD e.on false = true) →
      o.wp P a w (fun a' w' => ∃ v, a' = a.put o.dst v ∧ Y i v a' w' ∧ S (fun j => if j = i then true else listed.getD j false) w' ∧ ∀ j u, j ≠ i → listed.getD j false = true → Y j u a w → Y j u a' w') Q)
    (hend : ∀ a w, (∀ listed : Array Bool, (∀ i, listed.getD i false = decide (i < ops.size)) → MidL ops a0 Y S listed a w) → Q .normal a w) :
    ∀ (fuel : Nat) (listed : Array Bool) (a : Act) (w : World), listed.size = ops.size → left listed ops.size ≤ fuel → MidL ops a0 Y S listed a w → wpAny P .any ops Q fuel listed a w := by
  simp only [freeH, Bool.and_eq_true, decide_eq_true_eq] at hB
  obtain ⟨⟨h1, h2⟩, h3⟩ := hB
  have hg : ∀ (i : Nat) (o : Oper), ops[i]? = some o → guardB ops o = true := fun i o ho => by
    have := List.all_eq_true.1 h1 o (by simpa using Array.mem_of_getElem? ho)
    simp only [Bool.and_eq_true] at this
    exact this.1
  have hd : ∀ (i : Nat) (o : Oper) (d : Tmp), ops[i]? = some o → o.dst = some d → d < n := fun i o d ho hdst => by
    have := List.all_eq_true.1 h1 o (by simpa using Array.mem_of_getElem? ho)
    simp only [Bool.and_eq_true, hdst] at this
    simpa using this.2
  have hac : ∀ (i : Nat) (o : Oper), ops[i]? = some o → ∀ e ∈ o.after, Region.binds .any e = true → e.on < i := fun i o ho e he hb => by
    have hi : i < ops.size := (Array.getElem?_eq_some_iff.1 ho).1
    have := List.all_eq_true.1 h3 i (List.mem_range.2 hi)
    rw [ho] at this
    have h4 : ∀ e ∈ o.after, (!Region.binds .any e || decide (e.on < i)) = true := by
      have h5 : (o.after.all fun e => !Region.binds .any e || decide (e.on < i)) = true := this
      exact fun e he => Array.all_eq_true_iff_forall_mem.1 h5 e he
    have := h4 e he
    simpa [hb] using this
  have hdd : ∀ (i j : Nat) (oi oj : Oper) (d : Tmp), ops[i]? = some oi → ops[j]? = some oj → oi.dst = some d → oj.dst = some d → i = j := fun i j oi oj d hi hj di dj => by
    have hi' : ops.toList[i]? = some oi := by simpa using hi
    have hj' : ops.toList[j]? = some oj := by simpa using hj
    clear hd hac hg h1 h3 hstep hend hi hj
    generalize ops.toList = l at *
    induction l generalizing i j with
    | nil => simp at hi'
    | cons o l ih =>
      cases i with
      | zero =>
        cases j with
        | zero => rfl
        | succ j =>
          exfalso
          simp only [List.getElem?_cons_zero, Option.some.injEq] at hi'
          subst hi'
          simp only [List.getElem?_cons_succ] at hj'
          rw [List.filterMap_cons_some di, List.nodup_cons] at h2
          exact h2.1 (List.mem_filterMap.2 ⟨oj, List.mem_of_getElem? hj', dj⟩)
      | succ i =>
        cases j with
        | zero =>
          exfalso
          simp only [List.getElem?_cons_zero, Option.some.injEq] at hj'
          subst hj'
          simp only [List.getElem?_cons_succ] at hi'
          rw [List.filterMap_cons_some dj, List.nodup_cons] at h2
          exact h2.1 (List.mem_filterMap.2 ⟨oi, List.mem_of_getElem? hi', di⟩)
        | succ j =>
          simp only [List.getElem?_cons_succ] at hi' hj'
          have : (l.filterMap (·.dst)).Nodup := by
            cases hod : o.dst with
            | none => rwa [List.filterMap_cons_none hod] at h2
            | some x => rw [List.filterMap_cons_some hod, List.nodup_cons] at h2; exact h2.2
          rw [ih i j this hi' hj']
  have hall : ∀ (listed : Array Bool), listed.size = ops.size → Region.ready .any ops listed = [] → ∀ m, ∀ i, i < m → i < ops.size → listed.getD i false = true := by
    intro listed hsz hr m
    induction m with
    | zero => intro i hi; omega
    | succ m ih =>
      intro i hi hio
      by_cases e : i = m
      · subst e
        by_cases hl : listed.getD i false = true
        · exact hl
        · exfalso
          have hl2 : listed.getD i true = false := by
            have hlt : i < listed.size := by omega
            simp [hlt] at hl ⊢
            exact hl
          have : i ∈ Region.ready .any ops listed := by
            refine mem_ready.2 ⟨hl2, ops[i], by simp [hio], fun e he hb => ?_⟩
            have := hac i ops[i] (by simp [hio]) e he hb
            exact ih e.on this (by omega)
          rw [hr] at this
          cases this
      · exact ih i (by omega) hio
  intro fuel
  induction fuel with
  | zero =>
    intro listed a w hsz hc hM
    have hz := left_zero listed ops.size (by omega)
    have wEnd : ∀ l' : Array Bool, (∀ i, l'.getD i false = decide (i < ops.size)) → S (fun i => l'.getD i false) w := fun l' hl' => by
      have e : (fun i => l'.getD i false) = fun i => listed.getD i false := funext fun i => by
        rw [hl']
        by_cases hi : i < ops.size
        · rw [hz i hi]; exact decide_eq_true hi
        · rw [decide_eq_false hi]; simp [Array.getD_eq_getD_getElem?, Array.getElem?_eq_none (show listed.size ≤ i by omega)]
      rw [e]; exact hM.world
    refine ⟨?_, hend a w fun l' hl' => ⟨hM.defers, hM.size, wEnd l' hl', hM.old, fun i o ho _ e he hb => by rw [hl']; exact decide_eq_true (Nat.lt_trans (hac i o ho e he hb) (Array.getElem?_eq_some_iff.1 ho).1), fun i o ho _ => hM.new i o ho (hz i (Array.getElem?_eq_some_iff.1 ho).1)⟩⟩
    cases hr : Region.ready .any ops listed with
    | nil => rfl
    | cons i l =>
      exfalso
      have hi : i ∈ Region.ready .any ops listed := by rw [hr]; exact List.mem_cons_self
      obtain ⟨hu, o, ho, _⟩ := mem_ready.1 hi
      have hio : i < ops.size := (Array.getElem?_eq_some_iff.1 ho).1
      have := hz i hio
      have hlt : i < listed.size := by omega
      simp [hlt] at hu this
      rw [hu] at this
      cases this
  | succ fuel ih =>
    intro listed a w hsz hc hM
    refine ⟨fun hr => hend a w fun l' hl' => ⟨hM.defers, hM.size, (by
      have e : (fun i => l'.getD i false) = fun i => listed.getD i false := funext fun i => by
        rw [hl']
        by_cases hi : i < ops.size
        · rw [hall listed hsz hr ops.size i hi hi]; exact decide_eq_true hi
        · rw [decide_eq_false hi]; simp [Array.getD_eq_getD_getElem?, Array.getElem?_eq_none (show listed.size ≤ i by omega)]
      rw [e]; exact hM.world), hM.old, fun i o ho _ e he hb => by rw [hl']; exact decide_eq_true (Nat.lt_trans (hac i o ho e he hb) (Array.getElem?_eq_some_iff.1 ho).1), fun i o ho _ => hM.new i o ho (hall listed hsz hr ops.size i (Array.getElem?_eq_some_iff.1 ho).1 (Array.getElem?_eq_some_iff.1 ho).1)⟩, fun i hi => ?_⟩
    obtain ⟨hu, o, ho, hdep⟩ := mem_ready.1 hi
    have hio : i < ops.size := (Array.getElem?_eq_some_iff.1 ho).1
    have hu2 : listed.getD i false = false := by
      have hlt : i < listed.size := by omega
      simp [hlt] at hu ⊢
      exact hu
    unfold wpOp
    simp only [ho]
    have hw : Region.wanted o (yielded ops a.tmps) = true := by
      have hgo := hg i o ho
      unfold guardB at hgo
      unfold Region.wanted
      cases hq : o.guard with
      | none => rfl
      | some q =>
        obtain ⟨j, b⟩ := q
        rw [hq] at hgo
        simp only [Bool.and_eq_true, Array.any_eq_true] at hgo
        obtain ⟨⟨k, hk, hk2⟩, hd2⟩ := hgo
        rw [beq_iff_eq] at hk2
        have hj : listed.getD j false = true := by
          have := hdep o.after[k] (Array.getElem_mem hk) hk2.2
          rwa [hk2.1] at this
        obtain ⟨oj, hoj⟩ : ∃ oj, ops[j]? = some oj := by
          cases h : ops[j]? with
          | none => rw [h] at hd2; simp at hd2
          | some oj => exact ⟨oj, rfl⟩
        rw [hoj] at hd2
        obtain ⟨d, hdj⟩ : ∃ d, oj.dst = some d := Option.isSome_iff_exists.1 hd2
        obtain ⟨v, hv, hvd⟩ := hM.new j oj hoj hj
        obtain rfl := hG i o j b ho hq v a w hv
        have hy : yielded ops a.tmps j = some b := by simp [yielded, hoj, hdj, hvd d hdj]
        simp [hy]
    rw [if_pos hw]
    refine .inl (Oper.wp_mono ?_ (hstep i o ho listed a w hM hu2 hdep))
    rintro a' w' ⟨v, rfl, hY, hS, hst⟩
    refine ih _ _ _ (by simpa using hsz) (by have := left_set listed i (by omega) hu2 ops.size hio; omega) ⟨?_, ?_, ?_, ?_, ?_, ?_⟩
    · rw [← hM.defers]
      cases o.dst <;> rfl
    · rw [← hM.size]
      cases o.dst <;> simp [Act.put]
    · have e : (fun j => (listed.setIfInBounds i true).getD j false) = fun j => if j = i then true else listed.getD j false := funext fun j => by
        by_cases hj : j = i
        · subst hj
          have hlt : j < listed.size := by omega
          simp [Array.getD_eq_getD_getElem?, hlt]
        · simp [Array.getD_eq_getD_getElem?, Array.getElem?_setIfInBounds_ne (Ne.symm hj), hj]
      rw [e]; exact hS
    · intro k hk
      rw [← hM.old k hk]
      cases hod : o.dst with
      | none => rfl
      | some d =>
        have : d ≠ k := fun e => hk i o ho (by rw [hod, e])
        simp [Act.put, Array.getElem?_setIfInBounds_ne this]
    · intro j oj hoj hl e he hb
      have hl' : listed.getD e.on false = true := by
        by_cases e2 : j = i
        · subst e2
          obtain rfl : o = oj := Option.some.inj (ho.symm.trans hoj)
          exact hdep e he hb
        · have hl2 : listed.getD j false = true := by
            rw [← hl]
            simp [Array.getD_eq_getD_getElem?, Array.getElem?_setIfInBounds_ne (Ne.symm e2)]
          exact hM.closed j oj hoj hl2 e he hb
      exact getD_set_true hl'
    · intro j oj hoj hl
      by_cases e : j = i
      · subst e
        obtain rfl : o = oj := Option.some.inj (ho.symm.trans hoj)
        refine ⟨v, hY, fun d hdd' => ?_⟩
        have hdn := hd j o d ho hdd'
        rw [← hn, ← hM.size] at hdn
        simp [hdd', Act.put, hdn]
      · have hl2 : listed.getD j false = true := by
          rw [← hl]
          simp [Array.getD_eq_getD_getElem?, Array.getElem?_setIfInBounds_ne (Ne.symm e)]
        obtain ⟨u, hu', hd'⟩ := hM.new j oj hoj hl2
        refine ⟨u, hst j u e hl2 hu', fun d hdj => ?_⟩
        rw [← hd' d hdj]
        cases hod : o.dst with
        | none => rfl
        | some d2 =>
          have : d2 ≠ d := fun e2 => e (hdd j i oj o d hoj ho hdj (by rw [hod, e2]))
          simp [Act.put, Array.getElem?_setIfInBounds_ne this]

/-- THE LAW -/
theorem wp_region_freeH {id n : Nat} {a0 : Act} {w0 : World} {Y : Nat → Value → Act → World → Prop} {S : (Nat → Bool) → World → Prop} {Q : Exit → Act → World → Prop} (hm : P.follows .mixedOrders = true) (hG : ∀ (i : Nat) (o : Oper) (j : Nat) (b : Bool), ops[i]? = some o → o.guard = some (j, b) → ∀ (v : Value) (a : Act) (w : World), Y j v a w → v = .bool b) (hB : freeH ops n = true) (hn : a0.tmps.size = n)
    (hS : S (fun _ => false) { w0 with drawn := w0.drawn + 1 })
    (hstep : ∀ (i : Nat) (o : Oper), ops[i]? = some o → ∀ (listed : Array Bool) (a : Act) (w : World), MidL ops a0 Y S listed a w → listed.getD i false = false → (∀ e ∈ o.after, Region.binds .any e = true → listed.getD e.on false = true) →
      o.wp P a w (fun a' w' => ∃ v, a' = a.put o.dst v ∧ Y i v a' w' ∧ S (fun j => if j = i then true else listed.getD j false) w' ∧ ∀ j u, j ≠ i → listed.getD j false = true → Y j u a w → Y j u a' w') Q)
    (hend : ∀ (vs : Nat → Value) (w : World), S (fun i => decide (i < ops.size)) w → (∀ (i : Nat) (o : Oper), ops[i]? = some o → Y i (vs i) (fill ops.toList vs 0 a0) w) → Q .normal (fill ops.toList vs 0 a0) w) : (Code.region id ops true).wp P Q a0 w0 := by
  refine wp_region_any hm ?_
  have hB2 := hB
  simp only [freeH, Bool.and_eq_true, decide_eq_true_eq] at hB2
  obtain ⟨⟨h1, h2⟩, _⟩ := hB2
  refine wpAnyH_mid hG hB hn hstep (fun a w hM => ?_) _ _ _ _ (by simp) ?_ ⟨rfl, rfl, (by
    have e : (fun i => (Array.replicate ops.size false).getD i false) = fun _ => false := funext fun i => by
      by_cases hi : i < ops.size <;> simp [Array.getD_eq_getD_getElem?, hi]
    rw [e]; exact hS), fun _ _ => rfl, fun i o _ hl => ?_, fun i o _ hl => ?_⟩
  · have M := hM (Array.replicate ops.size true) (fun i => by by_cases hi : i < ops.size <;> simp [Array.getD_eq_getD_getElem?, hi])
    have hl : ∀ (i : Nat) (o : Oper), ops[i]? = some o → (Array.replicate ops.size true).getD i false = true := fun i o ho => by
      have hi : i < ops.size := (Array.getElem?_eq_some_iff.1 ho).1
      simp [Array.getD_eq_getD_getElem?, hi]
    classical
    obtain ⟨vs, hvs⟩ : ∃ vs : Nat → Value, ∀ (i : Nat) (o : Oper), ops[i]? = some o → Y i (vs i) a w ∧ ∀ d, o.dst = some d → a.tmps[d]? = some (vs i) := by
      refine ⟨fun i => if h : ∃ v : Value, ∀ o : Oper, ops[i]? = some o → Y i v a w ∧ ∀ d, o.dst = some d → a.tmps[d]? = some v then h.choose else undef, fun i o ho => ?_⟩
      have hex : ∃ v : Value, ∀ o : Oper, ops[i]? = some o → Y i v a w ∧ ∀ d, o.dst = some d → a.tmps[d]? = some v := by
        obtain ⟨v, hv⟩ := M.new i o ho (hl i o ho)
        exact ⟨v, fun o' ho' => by obtain rfl : o = o' := Option.some.inj (ho.symm.trans ho'); exact hv⟩
      dsimp only
      rw [dif_pos hex]
      exact hex.choose_spec o ho
    have ha : a = fill ops.toList vs 0 a0 := by
      have ht : a.tmps = (fill ops.toList vs 0 a0).tmps := by
        apply Array.ext_getElem?
        intro k
        by_cases hk : ∃ (i : Nat) (o : Oper), ops[i]? = some o ∧ o.dst = some k
        · obtain ⟨i, o, ho, hd⟩ := hk
          have hkn : k < a0.tmps.size := by
            have := List.all_eq_true.1 h1 o (by simpa using Array.mem_of_getElem? ho)
            simp only [Bool.and_eq_true, hd] at this
            rw [hn]
            simpa using this.2
          rw [fill_at k ops.toList vs 0 a0 i o (by simpa using ho) hd h2 hkn, (hvs i o ho).2 k hd, Nat.zero_add]
        · have hk2 : ∀ (i : Nat) (o : Oper), ops[i]? = some o → o.dst ≠ some k := fun i o ho e => hk ⟨i, o, ho, e⟩
          rw [M.old k hk2, fill_not k ops.toList vs 0 a0]
          intro o ho e
          obtain ⟨i, hi, rfl⟩ := List.getElem_of_mem ho
          exact hk2 i _ (by simp at hi; simp [hi]) e
      have hdf := M.defers
      rw [← fill_defers ops.toList vs 0 a0] at hdf
      cases a
      cases hfl : fill ops.toList vs 0 a0
      rw [hfl] at ht hdf
      simp only at ht hdf
      rw [ht, hdf]
    rw [ha]
    refine hend vs w (by
      have e : (fun i => (Array.replicate ops.size true).getD i false) = fun i => decide (i < ops.size) := funext fun i => by
        by_cases hi : i < ops.size <;> simp [Array.getD_eq_getD_getElem?, hi]
      have M2 := M.world
      rw [e] at M2; exact M2) fun i o ho => ?_
    rw [← ha]
    exact (hvs i o ho).1
  · clear hstep hend
    have : ∀ n, left (Array.replicate ops.size false) n ≤ n := fun n => by
      induction n with
      | zero => simp [left]
      | succ n ih => rw [left]; split <;> omega
    exact this _
  all_goals
    exfalso
    simp [Array.getD_eq_getD_getElem?, Array.getElem?_replicate] at hl
    split at hl <;> simp at hl
/-- what an operation may know of the slots -/
def FactsH (ops : Array Oper) (a0 : Act) (R : Nat → Value → World → Prop) (o : Oper) (a : Act) (w : World) : Prop :=
  (∀ e ∈ o.after, Region.binds .any e = true → ∀ (oj : Oper) (dj : Tmp), ops[e.on]? = some oj → oj.dst = some dj → R e.on (a.tmps[dj]?.getD undef) w) ∧
  (∀ k, (ops.toList.all fun o => o.dst != some k) = true → a.tmps[k]?.getD undef = a0.tmps[k]?.getD undef)
/-- THE LAW -/
theorem wp_region_relsH {id n : Nat} {a0 : Act} {w0 : World} {Q : Exit → Act → World → Prop} (R : Nat → Value → World → Prop)
    (hR : ∀ (i : Nat) (v : Value) (w w' : World), Below w.heap.size w w' → R i v w → R i v w')
    (hG : ∀ (i : Nat) (o : Oper) (j : Nat) (b : Bool), ops[i]? = some o → o.guard = some (j, b) → ∀ (v : Value) (w : World), R j v w → v = .bool b)
    (hm : P.follows .mixedOrders = true) (hB : freeH ops n = true) (hn : a0.tmps.size = n)
    (hcon : ∀ (i : Nat) (o : Oper), ops[i]? = some o → ∀ (a : Act) (w : World), Below w0.heap.size w0 w → FactsH ops a0 R o a w →
      o.wp P a w (fun a' w' => ∃ v, a' = a.put o.dst v ∧ R i v w' ∧ Below w.heap.size w w') Q)
    (hend : ∀ (vs : Nat → Value) (w : World), Below w0.heap.size w0 w → (∀ (i : Nat) (o : Oper), ops[i]? = some o → R i (vs i) w) → Q .normal (fill ops.toList vs 0 a0) w) :
    (Code.region id ops true).wp P Q a0 w0 := by
  refine wp_region_freeH (Y := fun i v a w => R i v w) (S := fun _ w => Below w0.heap.size w0 w) hm (fun i o j b ho hg v a w hY => hG i o j b ho hg v w hY) hB hn (Below.refl w0.heap.size w0).drew ?_ ?_
  · intro i o ho listed a w hM hu hdp
    have hf : FactsH ops a0 R o a w := by
      refine ⟨fun e he hb oj dj hoj hdj => ?_, fun k hk => ?_⟩
      · obtain ⟨v, hv, hvd⟩ := hM.new e.on oj hoj (hdp e he hb)
        rw [hvd dj hdj]
        exact hv
      · rw [hM.old k fun i o' ho' hd' => ?_]
        have := List.all_eq_true.1 hk o' (by simpa using Array.mem_of_getElem? ho')
        simp [hd'] at this
    refine Oper.wp_mono ?_ (hcon i o ho a w hM.world hf)
    rintro a' w' ⟨v, rfl, hRv, hb⟩
    exact ⟨v, rfl, hRv, hM.world.trans (hb.mono hM.world.size), fun j u _ _ hY => hR j u w w' hb hY⟩
  · intro vs w hS hall
    exact hend vs w hS hall
theorem wp_enterE {o : Oper} {a : Act} {w : World} {K : Act → World → Prop} {Q : Exit → Act → World → Prop} (f : FuncId) (args : Array Value) (R : Value → World → Prop) (h : (execOp a.eval o).run P w = .ok (.enter f args) w)
    (hc : Calls P f args w fun e w' => ∃ v, e = .returned v ∧ R v w') (hK : ∀ v w', R v w' → K (a.put o.dst v) w') : o.wp P a w K Q := by
  unfold Oper.wp
  rw [h]
  refine Calls.mono hc ?_
  rintro e w' ⟨v, rfl, hR⟩
  exact hK v w' hR
end
end Go.Proofs.Ytcafingoghoijaa.FreeH

/-
  A drawn region walked once, in the order of the text, in the class of the worlds that its callees may make.
-/
namespace Go.Proofs.Ytcafingoghoijaa.Wq
open Go.RowKit
set_option linter.unusedVariables false

/-- the walk of the order of the text, closed -/
structure WQ (P : Program) (ops : Array Oper) (C : World → Prop) (Q : Act → Prop) (l : List Oper) (a : Act) : Prop where
  out : wpQuiet P ops C Q l a
theorem wq_step {P : Program} {ops : Array Oper} {C : World → Prop} {Q : Act → Prop} {a : Act} {o : Oper} {rest : List Oper}
    (h : ∀ K : Act → Prop, (∀ a, WQ P ops C Q rest a → K a) → if Region.wanted o (yielded ops a.tmps) then o.quiet P a C K else K (a.put o.dst undef)) : WQ P ops C Q (o :: rest) a :=
  ⟨wpQuiet_step fun K hK => h K fun a h2 => hK a h2.out⟩
theorem wq_nil {P : Program} {ops : Array Oper} {C : World → Prop} {Q : Act → Prop} {a : Act} (h : Q a) : WQ P ops C Q [] a := ⟨wpQuiet_nil h⟩
/-- a region that draws its order and whose callees only make memory: one walk of the order of the text -/
theorem region_kept {P : Program} {C : World → Prop} {id : Nat} {Q : Exit → Act → World → Prop} {a : Act} {w : World} {l : List Oper} (hC : C { w with drawn := w.drawn + 1 }) (hm : P.follows .mixedOrders = true) (hB : Region.lexB .any l.toArray = true)
    (h : WQ P l.toArray C (fun a' => ∀ w', C w' → Q .normal a' w') l a) : (Code.region id l.toArray true).wp P Q a w :=
  wp_region_quiet (C := C) hm hB hC (by simpa using h.out)
theorem drawn_at (w : World) (q : Nat) : Below w.heap.size w (w.drewN q) := ⟨rfl, rfl, rfl, Nat.le_refl _, fun _ _ => rfl⟩
theorem drew_at (w : World) : Below w.heap.size w { w with drawn := w.drawn + 1 } := ⟨rfl, rfl, rfl, Nat.le_refl _, fun _ _ => rfl⟩
end Go.Proofs.Ytcafingoghoijaa.Wq

