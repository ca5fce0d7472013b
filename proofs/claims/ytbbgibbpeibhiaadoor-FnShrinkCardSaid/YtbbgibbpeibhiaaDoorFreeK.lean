/-
  The law at a region that draws its order, told by relations to the slots and the world, which each operation keeps by itself.
-/
import Derived.Test.YtbbgibbpeibhiaaDoorFreeL
namespace Go.Proofs.YtbbgibbpeibhiaaDoor.FreeK
open Go Go.RowKit Go.Proofs.YtbbgibbpeibhiaaDoor.Free Go.Proofs.YtbbgibbpeibhiaaDoor.FreeL
set_option linter.unusedVariables false

section
variable {P : Program} {ops : Array Oper}
/-- what an operation may know of the slots -/
def FactsA (ops : Array Oper) (a0 : Act) (R : Nat → Value → Act → World → Prop) (o : Oper) (a : Act) (w : World) : Prop :=
  (∀ e ∈ o.after, Region.binds .any e = true → ∀ (oj : Oper) (dj : Tmp), ops[e.on]? = some oj → oj.dst = some dj → R e.on (a.tmps[dj]?.getD undef) a w) ∧
  (∀ k, (ops.toList.all fun o => o.dst != some k) = true → a.tmps[k]?.getD undef = a0.tmps[k]?.getD undef)
/-- THE LAW -/
theorem wp_region_acts {id n : Nat} {a0 : Act} {w0 : World} {Q : Exit → Act → World → Prop} (R : Nat → Value → Act → World → Prop) (T : (Nat → Bool) → World → Prop)
    (hm : P.follows .mixedOrders = true) (hB : freeB ops n = true) (hn : a0.tmps.size = n) (hT0 : T (fun _ => false) { w0 with drawn := w0.drawn + 1 })
    (hcon : ∀ (i : Nat) (o : Oper), ops[i]? = some o → ∀ (a : Act) (w : World) (l : Nat → Bool), T l w → l i = false → (∀ (j : Nat) (oj : Oper), ops[j]? = some oj → l j = true → ∀ e ∈ oj.after, Region.binds .any e = true → l e.on = true) → (∀ e ∈ o.after, Region.binds .any e = true → l e.on = true) → FactsA ops a0 R o a w →
      o.wp P a w (fun a' w' => ∃ v, a' = a.put o.dst v ∧ R i v a' w' ∧ T (fun j => if j = i then true else l j) w' ∧ ∀ j u, j ≠ i → l j = true → R j u a w → R j u a' w') Q)
    (hend : ∀ (vs : Nat → Value) (w : World), T (fun i => decide (i < ops.size)) w → (∀ (i : Nat) (o : Oper), ops[i]? = some o → R i (vs i) (fill ops.toList vs 0 a0) w) → Q .normal (fill ops.toList vs 0 a0) w) :
    (Code.region id ops true).wp P Q a0 w0 := by
  refine wp_region_freeL (Y := R) (S := fun l w => T l w) hm hB hn hT0 ?_ hend
  intro i o ho listed a w hM hu hdp
  have hf : FactsA ops a0 R o a w := by
    refine ⟨fun e he hb oj dj hoj hdj => ?_, fun k hk => ?_⟩
    · obtain ⟨v, hv, hvd⟩ := hM.new e.on oj hoj (hdp e he hb)
      rw [hvd dj hdj]
      exact hv
    · rw [hM.old k fun i o' ho' hd' => ?_]
      have := List.all_eq_true.1 hk o' (by simpa using Array.mem_of_getElem? ho')
      simp [hd'] at this
  exact hcon i o ho a w _ hM.world hu hM.closed hdp hf
end
theorem put_other {a : Act} {d k : Nat} (v : Value) (h : d ≠ k) : (a.put (some d) v).tmps[k]? = a.tmps[k]? := by
  simp [Act.put, Array.getElem?_setIfInBounds_ne h]
end Go.Proofs.YtbbgibbpeibhiaaDoor.FreeK
