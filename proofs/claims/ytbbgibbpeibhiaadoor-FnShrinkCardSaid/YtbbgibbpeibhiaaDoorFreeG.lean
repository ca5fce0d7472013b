/-
  The law at a region that draws its order, told by a family of worlds and by relations of what comes up to the world, which stay true at each step.
-/
import Derived.Test.YtbbgibbpeibhiaaDoorFreeQ
namespace Go.Proofs.YtbbgibbpeibhiaaDoor.FreeG
open Go Go.RowKit Go.Proofs.YtbbgibbpeibhiaaDoor.Free Go.Proofs.YtbbgibbpeibhiaaDoor.FreeL
set_option linter.unusedVariables false

/-- all blocks but two lie as they lay -/
structure Off (g b : Nat) (w w' : World) : Prop where
  size : w.heap.size ≤ w'.heap.size
  block : ∀ k, k < w.heap.size → k ≠ g → k ≠ b → w'.heap[k]? = w.heap[k]?
theorem Off.refl (g b : Nat) (w : World) : Off g b w w := ⟨Nat.le_refl _, fun _ _ _ _ => rfl⟩
theorem Off.row (g b : Nat) (w : World) (cs : Array Value) : Off g b w (w.setRow b cs) := ⟨by simp, fun k _ _ h => Free.setRow_other h cs⟩

section
variable {P : Program} {ops : Array Oper}
/-- what an operation may know of the slots -/
def FactsW (ops : Array Oper) (a0 : Act) (R : Nat → Value → World → Prop) (o : Oper) (a : Act) (w : World) : Prop :=
  (∀ e ∈ o.after, Region.binds .any e = true → ∀ (oj : Oper) (dj : Tmp), ops[e.on]? = some oj → oj.dst = some dj → R e.on (a.tmps[dj]?.getD undef) w) ∧
  (∀ k, (ops.toList.all fun o => o.dst != some k) = true → a.tmps[k]?.getD undef = a0.tmps[k]?.getD undef)
/-- THE LAW -/
theorem wp_region_famrel {id n : Nat} {a0 : Act} {w0 : World} {Q : Exit → Act → World → Prop} (R : Nat → Value → World → Prop) (T : (Nat → Bool) → World → Prop) (St : World → World → Prop)
    (hR : ∀ (i : Nat) (v : Value) (w w' : World), St w w' → R i v w → R i v w')
    (hm : P.follows .mixedOrders = true) (hB : freeB ops n = true) (hn : a0.tmps.size = n) (hT0 : T (fun _ => false) { w0 with drawn := w0.drawn + 1 })
    (hcon : ∀ (i : Nat) (o : Oper), ops[i]? = some o → ∀ (a : Act) (w : World) (l : Nat → Bool), T l w → l i = false → (∀ (j : Nat) (oj : Oper), ops[j]? = some oj → l j = true → ∀ e ∈ oj.after, Region.binds .any e = true → l e.on = true) → FactsW ops a0 R o a w →
      o.wp P a w (fun a' w' => ∃ v, a' = a.put o.dst v ∧ R i v w' ∧ T (fun j => if j = i then true else l j) w' ∧ St w w') Q)
    (hend : ∀ (vs : Nat → Value) (w : World), T (fun i => decide (i < ops.size)) w → (∀ (i : Nat) (o : Oper), ops[i]? = some o → R i (vs i) w) → Q .normal (fill ops.toList vs 0 a0) w) :
    (Code.region id ops true).wp P Q a0 w0 := by
  refine wp_region_freeL (Y := fun i v a w => R i v w) (S := fun l w => T l w) hm hB hn hT0 ?_ ?_
  · intro i o ho listed a w hM hu hdp
    have hf : FactsW ops a0 R o a w := by
      refine ⟨fun e he hb oj dj hoj hdj => ?_, fun k hk => ?_⟩
      · obtain ⟨v, hv, hvd⟩ := hM.new e.on oj hoj (hdp e he hb)
        rw [hvd dj hdj]
        exact hv
      · rw [hM.old k fun i o' ho' hd' => ?_]
        have := List.all_eq_true.1 hk o' (by simpa using Array.mem_of_getElem? ho')
        simp [hd'] at this
    refine Oper.wp_mono ?_ (hcon i o ho a w _ hM.world hu hM.closed hf)
    rintro a' w' ⟨v, rfl, hRv, hT', hs⟩
    exact ⟨v, rfl, hRv, hT', fun j u _ _ hY => hR j u w w' hs hY⟩
  · intro vs w hS hall
    exact hend vs w hS hall
end
end Go.Proofs.YtbbgibbpeibhiaaDoor.FreeG
