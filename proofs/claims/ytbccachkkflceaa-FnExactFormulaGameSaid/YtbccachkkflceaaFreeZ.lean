/-
  The law at a region that draws its order, whose operations only make memory, what they yield told by relations to the world, with one store behind them, told by a relation to the slots.
-/
import Derived.Test.YtbccachkkflceaaFreeW
import Derived.Test.YtbccachkkflceaaFreeL
namespace Go.Proofs.Ytbccachkkflceaa.FreeZ
open Go Go.RowKit Go.Proofs.Ytbccachkkflceaa.Free Go.Proofs.Ytbccachkkflceaa.FreeW
open Go.Proofs.Ytbccachkkflceaa.FreeL (sink_listed)
set_option linter.unusedVariables false

section
variable {P : Program} {ops : Array Oper}
theorem dst_apart {n : Nat} (hB : freeB ops n = true) : ∀ (i j : Nat) (oi oj : Oper) (d : Tmp), ops[i]? = some oi → ops[j]? = some oj → oi.dst = some d → oj.dst = some d → i = j := by
  simp only [freeB, Bool.and_eq_true, decide_eq_true_eq] at hB
  obtain ⟨⟨h1, h2⟩, h3⟩ := hB
  intro i j oi oj d hi hj di dj
  have hi' : ops.toList[i]? = some oi := by simpa using hi
  have hj' : ops.toList[j]? = some oj := by simpa using hj
  clear h1 h3 hi hj
  generalize ops.toList = l at *
  induction l generalizing i j with
  | nil => simp at hi'
  | cons o l ih =>
    cases i with
    | zero =>
      cases j with
      | zero => rfl
      | succ j =>
        exfalso
        simp only [List.getElem?_cons_zero, Option.some.injEq] at hi'
        subst hi'
        simp only [List.getElem?_cons_succ] at hj'
        rw [List.filterMap_cons_some di, List.nodup_cons] at h2
        exact h2.1 (List.mem_filterMap.2 ⟨oj, List.mem_of_getElem? hj', dj⟩)
    | succ i =>
      cases j with
      | zero =>
        exfalso
        simp only [List.getElem?_cons_zero, Option.some.injEq] at hj'
        subst hj'
        simp only [List.getElem?_cons_succ] at hi'
        rw [List.filterMap_cons_some dj, List.nodup_cons] at h2
        exact h2.1 (List.mem_filterMap.2 ⟨oi, List.mem_of_getElem? hi', di⟩)
      | succ j =>
        simp only [List.getElem?_cons_succ] at hi' hj'
        have : (l.filterMap (·.dst)).Nodup := by
          cases hod : o.dst with
          | none => rwa [List.filterMap_cons_none hod] at h2
          | some x => rw [List.filterMap_cons_some hod, List.nodup_cons] at h2; exact h2.2
        rw [ih i j this hi' hj']
theorem dst_lt {n : Nat} (hB : freeB ops n = true) (i : Nat) (o : Oper) (d : Tmp) (ho : ops[i]? = some o) (hd : o.dst = some d) : d < n := by
  simp only [freeB, Bool.and_eq_true, decide_eq_true_eq] at hB
  have := List.all_eq_true.1 hB.1.1 o (by simpa using Array.mem_of_getElem? ho)
  simp only [Bool.and_eq_true, hd] at this
  simpa using this.2

/-- what an operation may know of the slots -/
def FactsZ (ops : Array Oper) (a0 : Act) (R : Nat → Value → World → Prop) (o : Oper) (a : Act) (w : World) : Prop :=
  (∀ e ∈ o.after, Region.binds .any e = true → ∀ (oj : Oper) (dj : Tmp), ops[e.on]? = some oj → oj.dst = some dj → R e.on (a.tmps[dj]?.getD undef) w) ∧
  (∀ k, (ops.toList.all fun o => o.dst != some k) = true → a.tmps[k]?.getD undef = a0.tmps[k]?.getD undef)
theorem put_get {a : Act} {d k : Tmp} {v : Value} (h : d ≠ k) : (a.put (some d) v).tmps[k]? = a.tmps[k]? := by
  simp [Act.put, Array.getElem?_setIfInBounds_ne h]
theorem put_new {a : Act} {d : Tmp} {v : Value} (h : d < a.tmps.size) : (a.put (some d) v).tmps[d]? = some v := by
  simp [Act.put, h]

/-- THE LAW -/
theorem wp_region_lastR {id n : Nat} {a0 : Act} {w0 : World} {Q : Exit → Act → World → Prop} (R : Nat → Value → World → Prop) (F : Act → World → World → Prop) (last : Nat) (os : Oper)
    (hm : P.follows .mixedOrders = true) (hB : freeB ops n = true) (hn : a0.tmps.size = n) (hs : ops[last]? = some os) (hsd : os.dst = none) (hsz : ops.size = last + 1)
    (hw : Region.sinkB .any ops last = true)
    (hR : ∀ i v w w', R i v w → Below w.heap.size w w' → R i v w')
    (hcon : ∀ (i : Nat) (o : Oper), ops[i]? = some o → i < last → ∀ (a : Act) (w : World), Below w0.heap.size w0 w → FactsZ ops a0 R o a w →
      o.wp P a w (fun a' w' => ∃ v, a' = a.put o.dst v ∧ R i v w' ∧ Below w.heap.size w w') Q)
    (hst : ∀ (a : Act) (w : World), Below w0.heap.size w0 w → FactsZ ops a0 R os a w → os.wp P a w (fun a' w' => a' = a ∧ F a w w') Q)
    (hend : ∀ (vs : Nat → Value) (w1 w : World), Below w0.heap.size w0 w1 → (∀ (i : Nat) (o : Oper) (d : Tmp), ops[i]? = some o → i < last → o.dst = some d → R i (vs i) w1) → F (fill ops.toList vs 0 a0) w1 w → Q .normal (fill ops.toList vs 0 a0) w) :
    (Code.region id ops true).wp P Q a0 w0 := by
  have hdd := dst_apart hB
  have hdl := dst_lt hB
  let Y : Nat → Value → Act → World → Prop := fun i v a w => ∀ (o : Oper) (d : Tmp), ops[i]? = some o → o.dst = some d → a.tmps[d]? = some v
  let S : (Nat → Bool) → Act → World → Prop := fun l a w =>
    (l last = false → Below w0.heap.size w0 w ∧ ∀ (i : Nat) (o : Oper) (d : Tmp), l i = true → ops[i]? = some o → i < last → o.dst = some d → R i (a.tmps[d]?.getD undef) w) ∧
    (l last = true → ∃ w1, Below w0.heap.size w0 w1 ∧ (∀ (i : Nat) (o : Oper) (d : Tmp), ops[i]? = some o → i < last → o.dst = some d → R i (a.tmps[d]?.getD undef) w1) ∧ F a w1 w)
  have hB2 := hB
  simp only [freeB, Bool.and_eq_true, decide_eq_true_eq] at hB2
  obtain ⟨⟨_, _⟩, h3⟩ := hB2
  have hac : ∀ (i : Nat) (o : Oper), ops[i]? = some o → ∀ e ∈ o.after, Region.binds .any e = true → e.on < i := fun i o ho e he hb => by
    have hi : i < ops.size := (Array.getElem?_eq_some_iff.1 ho).1
    have := List.all_eq_true.1 h3 i (List.mem_range.2 hi)
    rw [ho] at this
    have h5 : (o.after.all fun e => !Region.binds .any e || decide (e.on < i)) = true := this
    have := Array.all_eq_true_iff_forall_mem.1 h5 e he
    simpa [hb] using this
  have facts : ∀ (listed : Array Bool) (o : Oper) (i : Nat) (a : Act) (w : World), ops[i]? = some o → i ≤ last → MidA ops a0 Y S listed a w → listed.getD last false = false →
      (∀ e ∈ o.after, Region.binds .any e = true → listed.getD e.on false = true) → FactsZ ops a0 R o a w := by
    intro listed o i a w ho hi hM hnl hdl'
    refine ⟨fun e he hb oj dj hoj hdj => ?_, fun k hk => ?_⟩
    · have := hac i o ho e he hb
      exact (hM.world.1 hnl).2 e.on oj dj (hdl' e he hb) hoj (by omega) hdj
    · rw [hM.old k fun i o' ho' hd' => ?_]
      have := List.all_eq_true.1 hk o' (by simpa using Array.mem_of_getElem? ho')
      simp [hd'] at this
  refine wp_region_freeA (Y := Y) (S := S) hm hB hn ⟨fun _ => ⟨(Below.refl w0.heap.size w0).drew, fun i o d h => (by cases h)⟩, fun h => (by cases h)⟩ ?_ ?_
  · intro i o ho listed a w hM hu hdp
    have hi : i < ops.size := (Array.getElem?_eq_some_iff.1 ho).1
    by_cases hil : i = last
    · subst hil
      obtain rfl : o = os := Option.some.inj (ho.symm.trans hs)
      obtain ⟨hw1, hall⟩ := hM.world.1 hu
      have hlisted : ∀ j, j < i → listed.getD j false = true := by
        have hs2 : ∀ (d j : Nat), i - j ≤ d → j < i → listed.getD j false = true := by
          intro d
          induction d with
          | zero => intro j h1 h2; omega
          | succ d ih =>
            intro j h1 h2
            have h3 := List.all_eq_true.1 hw j (List.mem_range.2 h2)
            obtain ⟨k, hk, h4⟩ := List.any_eq_true.1 h3
            simp only [Bool.and_eq_true, decide_eq_true_eq] at h4
            have hki' : k < i + 1 := List.mem_range.1 hk
            obtain ⟨ok, hok, e, he, hee, hon⟩ := Region.waitsFor_spec h4.2
            by_cases hki : k = i
            · subst hki
              obtain rfl : ok = o := Option.some.inj (hok.symm.trans ho)
              have := hdp e he hee
              rwa [hon] at this
            · have h6 := ih k (by omega) (by omega)
              have := hM.closed k ok hok h6 e he hee
              rwa [hon] at this
        exact fun j hj => hs2 i j (by omega) hj
      refine Oper.wp_mono ?_ (hst a w hw1 (facts listed o i a _ ho (Nat.le_refl _) hM hu hdp))
      rintro a' w' ⟨rfl, hF⟩
      refine ⟨undef, by rw [hsd]; rfl, fun o' d ho' hd' => ?_, ⟨fun h => (by simp at h), fun _ => ⟨w, hw1, fun j oj d hoj hj hd' => hall j oj d (hlisted j hj) hoj hj hd', hF⟩⟩, fun j u hj _ hY => hY⟩
      obtain rfl : o' = o := Option.some.inj (ho'.symm.trans ho)
      rw [hsd] at hd'
      cases hd'
    · have hlt : i < last := by omega
      have hnl : listed.getD last false = false := by
        cases hl : listed.getD last false with
        | false => rfl
        | true =>
          exfalso
          have := sink_listed hw hM.closed hl (last - i) i (Nat.le_refl _) (by omega)
          rw [hu] at this
          cases this
      obtain ⟨hw1, hall⟩ := hM.world.1 hnl
      refine Oper.wp_mono ?_ (hcon i o ho hlt a w hw1 (facts listed o i a _ ho (by omega) hM hnl hdp))
      rintro a' w' ⟨v, rfl, hv, hb⟩
      have hkeep : ∀ (j : Nat) (oj : Oper) (d : Tmp), j ≠ i → ops[j]? = some oj → oj.dst = some d → (a.put o.dst v).tmps[d]? = a.tmps[d]? := by
        intro j oj d hj hoj hdj
        cases hod : o.dst with
        | none => rfl
        | some d' =>
          refine put_get ?_
          rintro rfl
          exact hj (hdd j i oj o d' hoj ho hdj hod)
      have hnew : ∀ d, o.dst = some d → (a.put o.dst v).tmps[d]? = some v := fun d hd' => by
        rw [hd']
        exact put_new (by rw [hM.size, hn]; exact hdl i o d ho hd')
      refine ⟨v, rfl, fun o' d ho' hd' => ?_, ⟨fun _ => ⟨hw1.trans (hb.mono hw1.size), fun j oj d hlj hoj hj hdj => ?_⟩, fun h => ?_⟩, fun j u hj hlj hY oj d hoj hdj => ?_⟩
      · obtain rfl : o' = o := Option.some.inj (ho'.symm.trans ho)
        exact hnew d hd'
      · by_cases hji : j = i
        · subst hji
          obtain rfl : oj = o := Option.some.inj (hoj.symm.trans ho)
          rw [hnew d hdj]
          exact hv
        · rw [hkeep j oj d hji hoj hdj]
          simp only [if_neg hji] at hlj
          exact hR j _ w w' (hall j oj d hlj hoj hj hdj) hb
      · dsimp only at h
        rw [if_neg (Ne.symm hil), hnl] at h
        cases h
      · rw [hkeep j oj d hj hoj hdj]
        exact hY oj d hoj hdj
  · intro vs w hS hY
    obtain ⟨w1, hb, hall, hF⟩ := hS.2 (decide_eq_true (by omega))
    refine hend vs w1 w hb (fun i o d ho hi hd' => ?_) hF
    have h1 := hall i o d ho hi hd'
    have h2 := hY i o ho o d ho hd'
    rw [h2] at h1
    exact h1
theorem wp_valR {o : Oper} {a : Act} {w : World} {Q : Exit → Act → World → Prop} {i : Nat} {R : Nat → Value → World → Prop} (v : Value) (h : (execOp a.eval o).run P w = .ok (.value v) w) (hR : R i v w) : o.wp P a w (fun a' w' => ∃ v, a' = a.put o.dst v ∧ R i v w' ∧ Below w.heap.size w w') Q := by
  unfold Oper.wp
  rw [h]
  exact ⟨v, rfl, hR, Below.refl _ _⟩
theorem wp_newR {o : Oper} {a : Act} {w w1 : World} {Q : Exit → Act → World → Prop} {i : Nat} {R : Nat → Value → World → Prop} (v : Value) (h : (execOp a.eval o).run P w = .ok (.value v) w1) (hb : Below w.heap.size w w1) (hR : R i v w1) : o.wp P a w (fun a' w' => ∃ v, a' = a.put o.dst v ∧ R i v w' ∧ Below w.heap.size w w') Q := by
  unfold Oper.wp
  rw [h]
  exact ⟨v, rfl, hR, hb⟩
theorem wp_callR {o : Oper} {a : Act} {w : World} {Q : Exit → Act → World → Prop} {i : Nat} {R : Nat → Value → World → Prop} (f : FuncId) (args : Array Value) (h : (execOp a.eval o).run P w = .ok (.enter f args) w)
    (hc : Calls P f args w fun e w' => ∃ v, e = .returned v ∧ R i v w' ∧ Below w.heap.size w w') : o.wp P a w (fun a' w' => ∃ v, a' = a.put o.dst v ∧ R i v w' ∧ Below w.heap.size w w') Q := by
  unfold Oper.wp
  rw [h]
  refine Calls.mono hc ?_
  rintro e w' ⟨v, rfl, hR, hb⟩
  exact ⟨v, rfl, hR, hb⟩
end
end Go.Proofs.Ytbccachkkflceaa.FreeZ
