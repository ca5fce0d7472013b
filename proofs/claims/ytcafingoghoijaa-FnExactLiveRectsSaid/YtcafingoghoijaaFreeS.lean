/-
  The law at a region that draws its order and whose operations only make memory, told by relations of what comes up to the world (a fresh slice).
-/
import Derived.Test.YtcafingoghoijaaFreeL
namespace Go.Proofs.Ytcafingoghoijaa.FreeS
open Go Go.RowKit Go.Proofs.Ytcafingoghoijaa.Free Go.Proofs.Ytcafingoghoijaa.FreeL
set_option linter.unusedVariables false

section
variable {P : Program} {ops : Array Oper}
/-- what an operation may know of the slots -/
def FactsS (ops : Array Oper) (a0 : Act) (R : Nat → Value → World → Prop) (o : Oper) (a : Act) (w : World) : Prop :=
  (∀ e ∈ o.after, Region.binds .any e = true → ∀ (oj : Oper) (dj : Tmp), ops[e.on]? = some oj → oj.dst = some dj → R e.on (a.tmps[dj]?.getD undef) w) ∧
  (∀ k, (ops.toList.all fun o => o.dst != some k) = true → a.tmps[k]?.getD undef = a0.tmps[k]?.getD undef)
/-- THE LAW -/
theorem wp_region_rels {id n : Nat} {a0 : Act} {w0 : World} {Q : Exit → Act → World → Prop} (R : Nat → Value → World → Prop)
    (hR : ∀ (i : Nat) (v : Value) (w w' : World), Below w.heap.size w w' → R i v w → R i v w')
    (hm : P.follows .mixedOrders = true) (hB : freeB ops n = true) (hn : a0.tmps.size = n)
    (hcon : ∀ (i : Nat) (o : Oper), ops[i]? = some o → ∀ (a : Act) (w : World), Below w0.heap.size w0 w → FactsS ops a0 R o a w →
      o.wp P a w (fun a' w' => ∃ v, a' = a.put o.dst v ∧ R i v w' ∧ Below w.heap.size w w') Q)
    (hend : ∀ (vs : Nat → Value) (w : World), Below w0.heap.size w0 w → (∀ (i : Nat) (o : Oper), ops[i]? = some o → R i (vs i) w) → Q .normal (fill ops.toList vs 0 a0) w) :
    (Code.region id ops true).wp P Q a0 w0 := by
  refine wp_region_freeL (Y := fun i v a w => R i v w) (S := fun _ w => Below w0.heap.size w0 w) hm hB hn (Below.refl w0.heap.size w0).drew ?_ ?_
  · intro i o ho listed a w hM hu hdp
    have hf : FactsS ops a0 R o a w := by
      refine ⟨fun e he hb oj dj hoj hdj => ?_, fun k hk => ?_⟩
      · obtain ⟨v, hv, hvd⟩ := hM.new e.on oj hoj (hdp e he hb)
        rw [hvd dj hdj]
        exact hv
      · rw [hM.old k fun i o' ho' hd' => ?_]
        have := List.all_eq_true.1 hk o' (by simpa using Array.mem_of_getElem? ho')
        simp [hd'] at this
    refine Oper.wp_mono ?_ (hcon i o ho a w hM.world hf)
    rintro a' w' ⟨v, rfl, hRv, hb⟩
    exact ⟨v, rfl, hRv, hM.world.trans (hb.mono hM.world.size), fun j u _ _ hY => hR j u w w' hb hY⟩
  · intro vs w hS hall
    exact hend vs w hS hall
theorem wp_enterE {o : Oper} {a : Act} {w : World} {K : Act → World → Prop} {Q : Exit → Act → World → Prop} (f : FuncId) (args : Array Value) (R : Value → World → Prop) (h : (execOp a.eval o).run P w = .ok (.enter f args) w)
    (hc : Calls P f args w fun e w' => ∃ v, e = .returned v ∧ R v w') (hK : ∀ v w', R v w' → K (a.put o.dst v) w') : o.wp P a w K Q := by
  unfold Oper.wp
  rw [h]
  refine Calls.mono hc ?_
  rintro e w' ⟨v, rfl, hR⟩
  exact hK v w' hR
end
end Go.Proofs.Ytcafingoghoijaa.FreeS
