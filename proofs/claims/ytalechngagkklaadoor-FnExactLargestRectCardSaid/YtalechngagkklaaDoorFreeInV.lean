/-
  The law of a drawn region within a round of a range over a function: all operations but the last only make memory; what they yield is told by a relation.
-/
import Derived.Test.YtalechngagkklaaDoorFreeIn
namespace Go.Proofs.YtalechngagkklaaDoor.FreeInV
open Go Go.RowKit Go.Proofs.YtalechngagkklaaDoor.Free Go.Proofs.YtalechngagkklaaDoor.FreeIn
set_option linter.unusedVariables false

section
variable {ops : Array Oper}

/-- what an operation may know of the slots -/
def FactsV (ops : Array Oper) (a0 : Act) (R : Nat → Value → Prop) (o : Oper) (a : Act) : Prop :=
  (∀ e ∈ o.after, Region.binds .any e = true → ∀ (oj : Oper) (dj : Tmp), ops[e.on]? = some oj → oj.dst = some dj → R e.on (a.tmps[dj]?.getD undef)) ∧
  (∀ k, (ops.toList.all fun o => o.dst != some k) = true → a.tmps[k]?.getD undef = a0.tmps[k]?.getD undef)

/-- THE LAW WITHOUT A DRAW: within a round -/
theorem wpIn_region_val {P : Program} {F₀ : Fence} {m id n : Nat} {a0 : Act} {w0 : World} {Q : Exit → Act → World → Prop} (R : Nat → Value → Prop) (last : Nat) (F : World → World → Prop) (os : Oper)
    (hm : P.follows .mixedOrders = true) (hB : freeB ops n = true) (hn : a0.tmps.size = n) (hs : ops[last]? = some os) (hsd : os.dst = none) (hsz : ops.size = last + 1)
    (hw : Region.sinkB .any ops last = true)
    (hcon : ∀ (i : Nat) (o : Oper), ops[i]? = some o → i < last → ∀ (a : Act) (w : World), Below w0.heap.size w0 w → FactsV ops a0 R o a →
      o.wpIn F₀ m P a w (fun a' w' => ∃ v, a' = a.put o.dst v ∧ R i v ∧ Below w.heap.size w w') Q)
    (hst : ∀ (a : Act) (w : World), Below w0.heap.size w0 w → FactsV ops a0 R os a → os.wpIn F₀ m P a w (fun a' w' => a' = a ∧ F w w') Q)
    (hend : ∀ (vs : Nat → Value) (w1 w : World), Below w0.heap.size w0 w1 → F w1 w → (∀ (i : Nat) (o : Oper), ops[i]? = some o → i ≠ last → R i (vs i)) → Q .normal (fill ops.toList vs 0 a0) w) :
    (Code.region id ops true).wpIn F₀ m P Q a0 w0 := by
  let Y : Nat → Value → Act → World → Prop := fun i v a w => i ≠ last → R i v
  let S : (Nat → Bool) → World → Prop := fun l w => (l last = false → Below w0.heap.size w0 w) ∧ (l last = true → ∃ w1, Below w0.heap.size w0 w1 ∧ F w1 w)
  have facts : ∀ (listed : Array Bool) (o : Oper) (i : Nat) (a : Act) (w : World), ops[i]? = some o → MidIn ops a0 Y S listed a w →
      (∀ e ∈ o.after, Region.binds .any e = true → listed.getD e.on false = true) → (∀ e ∈ o.after, Region.binds .any e = true → e.on ≠ last) → FactsV ops a0 R o a := by
    intro listed o i a w ho hM hdl hlt
    refine ⟨fun e he hb oj dj hoj hdj => ?_, fun k hk => ?_⟩
    · obtain ⟨v, hv, hvd⟩ := hM.new e.on oj hoj (hdl e he hb)
      rw [hvd dj hdj]
      exact hv (hlt e he hb)
    · rw [hM.old k fun i o' ho' hd' => ?_]
      have := List.all_eq_true.1 hk o' (by simpa using Array.mem_of_getElem? ho')
      simp [hd'] at this
  have hB2 := hB
  simp only [freeB, Bool.and_eq_true, decide_eq_true_eq] at hB2
  obtain ⟨⟨_, _⟩, h3⟩ := hB2
  have hac : ∀ (i : Nat) (o : Oper), ops[i]? = some o → ∀ e ∈ o.after, Region.binds .any e = true → e.on < i := fun i o ho e he hb => by
    have hi : i < ops.size := (Array.getElem?_eq_some_iff.1 ho).1
    have := List.all_eq_true.1 h3 i (List.mem_range.2 hi)
    rw [ho] at this
    have h5 : (o.after.all fun e => !Region.binds .any e || decide (e.on < i)) = true := this
    have := Array.all_eq_true_iff_forall_mem.1 h5 e he
    simpa [hb] using this
  refine wpIn_region_free (Y := Y) (S := S) hm hB hn ⟨fun _ => (Below.refl w0.heap.size w0).drew, fun h => (by cases h)⟩ ?_ ?_
  · intro i o ho listed a w hM hu hdp
    have hi : i < ops.size := (Array.getElem?_eq_some_iff.1 ho).1
    by_cases hil : i = last
    · subst hil
      obtain rfl : o = os := Option.some.inj (ho.symm.trans hs)
      have hw1 := hM.world.1 hu
      refine Oper.wpIn_mono ?_ (hst a w hw1 (facts listed o i a _ ho hM hdp (fun e he hb => Nat.ne_of_lt (hac i o ho e he hb))))
      rintro a' w' ⟨rfl, hf⟩
      exact ⟨undef, by rw [hsd]; rfl, fun h => absurd rfl h, ⟨fun h => (by simp at h), fun _ => ⟨w, hw1, hf⟩⟩, fun j u hj _ hY hjl => hY hjl⟩
    · have hlt : i < last := by omega
      have hnl : listed.getD last false = false := by
        cases hl : listed.getD last false with
        | false => rfl
        | true =>
          exfalso
          have := sink_listed hw hM.closed hl (last - i) i (Nat.le_refl _) (by omega)
          rw [hu] at this
          cases this
      have hw1 := hM.world.1 hnl
      refine Oper.wpIn_mono ?_ (hcon i o ho hlt a w hw1 (facts listed o i a w ho hM hdp (fun e he hb => Nat.ne_of_lt (Nat.lt_trans (hac i o ho e he hb) hlt))))
      rintro a' w' ⟨v, rfl, hv, hb⟩
      refine ⟨v, rfl, fun _ => hv, ⟨fun _ => hw1.trans (hb.mono hw1.size), fun h => ?_⟩, fun j u hj _ hY hjl => hY hjl⟩
      dsimp only at h
      rw [if_neg (Ne.symm hil), hnl] at h
      cases h
  · intro vs w hw1 hall
    obtain ⟨w1, hb1, hf⟩ := hw1.2 (decide_eq_true (by omega))
    exact hend vs w1 w hb1 hf fun i o ho hil => hall i o ho hil
end

theorem wpIn_enterE {P : Program} {F : Fence} {m : Nat} {o : Oper} {a : Act} {w : World} {K : Act → World → Prop} {Q : Exit → Act → World → Prop} (f : FuncId) (args : Array Value) (R : Value → World → Prop)
    (ha : ∀ g, o.about P w a.eval = some g → F.fn g) (h : (o.semAt F.round a.eval).run P w = .ok (.enter f args) w) (hm : F.depth.isSome = true → 1 ≤ m)
    (hc : CallsIn F (m - 1) P f args w fun e w' => ∃ v, e = .returned v ∧ R v w') (hK : ∀ v w', R v w' → K (a.put o.dst v) w') : o.wpIn F m P a w K Q := by
  unfold Oper.wpIn
  refine ⟨ha, ?_⟩
  rw [h]
  refine ⟨hm, ?_⟩
  refine CallsIn.mono hc ?_
  rintro e w' ⟨v, rfl, hR⟩
  exact hK v w' hR
end Go.Proofs.YtalechngagkklaaDoor.FreeInV
