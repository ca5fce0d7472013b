/-
  The law at a region that draws its order, told by a family of worlds that is indexed by what has come up: each operation is walked once. (The return
  of a drawing function with several results: the family says what is stored, and that the reader still reads while nothing is.)
-/
import Derived.Test.YtbbgibbpeibhiaaDoorFreeD
namespace Go.Proofs.YtbbgibbpeibhiaaDoor.FreeQ
open Go Go.RowKit Go.Proofs.YtbbgibbpeibhiaaDoor.Free Go.Proofs.YtbbgibbpeibhiaaDoor.FreeL Go.Proofs.YtbbgibbpeibhiaaDoor.FreeD
set_option linter.unusedVariables false

section
variable {P : Program} {ops : Array Oper}
/-- THE LAW -/
theorem wp_region_family {id n : Nat} {a0 : Act} {w0 : World} {Q : Exit → Act → World → Prop} (R : Nat → Value → Prop) (T : (Nat → Bool) → World → Prop)
    (hm : P.follows .mixedOrders = true) (hB : freeB ops n = true) (hn : a0.tmps.size = n) (hT0 : T (fun _ => false) { w0 with drawn := w0.drawn + 1 })
    (hcon : ∀ (i : Nat) (o : Oper), ops[i]? = some o → ∀ (a : Act) (w : World) (l : Nat → Bool), T l w → l i = false → (∀ (j : Nat) (oj : Oper), ops[j]? = some oj → l j = true → ∀ e ∈ oj.after, Region.binds .any e = true → l e.on = true) → FactsV ops a0 R o a →
      o.wp P a w (fun a' w' => ∃ v, a' = a.put o.dst v ∧ R i v ∧ T (fun j => if j = i then true else l j) w') Q)
    (hend : ∀ (vs : Nat → Value) (w : World), T (fun i => decide (i < ops.size)) w → (∀ (i : Nat) (o : Oper), ops[i]? = some o → R i (vs i)) → Q .normal (fill ops.toList vs 0 a0) w) :
    (Code.region id ops true).wp P Q a0 w0 := by
  refine wp_region_freeL (Y := fun i v a w => R i v) (S := fun l w => T l w) hm hB hn hT0 ?_ ?_
  · intro i o ho listed a w hM hu hdp
    have hf : FactsV ops a0 R o a := by
      refine ⟨fun e he hb oj dj hoj hdj => ?_, fun k hk => ?_⟩
      · obtain ⟨v, hv, hvd⟩ := hM.new e.on oj hoj (hdp e he hb)
        rw [hvd dj hdj]
        exact hv
      · rw [hM.old k fun i o' ho' hd' => ?_]
        have := List.all_eq_true.1 hk o' (by simpa using Array.mem_of_getElem? ho')
        simp [hd'] at this
    refine Oper.wp_mono ?_ (hcon i o ho a w _ hM.world hu hM.closed hf)
    rintro a' w' ⟨v, rfl, hRv, hT'⟩
    exact ⟨v, rfl, hRv, hT', fun j u _ _ hY => hY⟩
  · intro vs w hS hall
    exact hend vs w hS hall
end
end Go.Proofs.YtbbgibbpeibhiaaDoor.FreeQ
