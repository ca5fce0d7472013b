/-
  Texts of one seat, joined: Vals, FreeK.
-/
import Derived.Test.YtohkllmhknjkoaaDoorJp1
import Derived.Test.YtohkllmhknjkoaaDoorJp7
import Derived.Test.YtohkllmhknjkoaaDoorJp5
/-
  The drawing functions l2Value and l1Count.
-/
namespace Go.Proofs.YtohkllmhknjkoaaDoor.Vals
open Go.RowKit Go.Proofs.YtohkllmhknjkoaaDoor.Plain Go.Proofs.YtohkllmhknjkoaaDoor.Rd Go.Proofs.YtohkllmhknjkoaaDoor.Rd2
set_option linter.unusedVariables false

set_option maxHeartbeats 1000000 in
theorem value_any {lo : Nat} (g p : Nat) (hp : p < 1000000) (w : World) (h : Rdr lo w g p) :
    Calls Tryd.prog 59 #[.pointer (some ⟨g, 0, none⟩)] w fun e w' => ∃ x : Int, e = .returned (.int .i64 x) ∧ -1 ≤ x ∧ x ≤ 2 ∧ Rdr lo w' g (p + 1) ∧ Apt g w w' := by
  have hgl := h.lt
  have hb := (Below.refl w.heap.size w).alloc (Nat.le_refl _) (.cells ([1, 0, 1, 0, 1, 0, 1, 0, 1, 0, 2, -1].map fun x : Int => Value.int .i64 x).toArray 3)
  have HN := Lib.hid (num_any g p (by omega) [1, 0, 1, 0, 1, 0, 1, 0, 1, 0, 2, -1] (by decide) (by decide) w.heap.size 12 (by omega) _ (h.later hb) (by simp) (fun j hj => cells_lit w 3 [1, 0, 1, 0, 1, 0, 1, 0, 1, 0, 2, -1] j hj))
  have HB := Lib.hid hb
  clear h hb
  go_enter Tryd.func59, Tryd.ntmps59
  go_wp2_with fail
  refine HN.out.mono ?_
  rintro e w2 ⟨x, rfl, hm, hr, ha⟩
  have HR := Lib.hid hr
  have HA := Lib.hid ((Apt.of_below HB.out).trans ha)
  have hx : -1 ≤ x ∧ x ≤ 2 := by
    simp at hm
    omega
  clear hr ha hm HN HB
  go_wp2_with fail
  go_ret
  exact ⟨x, rfl, hx.1, hx.2, HR.out, HA.out⟩

end Go.Proofs.YtohkllmhknjkoaaDoor.Vals

/-
  The law at a region that draws its order, told by relations to the slots and the world, which each operation keeps by itself.
-/
namespace Go.Proofs.YtohkllmhknjkoaaDoor.FreeK
open Go Go.RowKit Go.Proofs.YtohkllmhknjkoaaDoor.Free Go.Proofs.YtohkllmhknjkoaaDoor.FreeL
set_option linter.unusedVariables false

section
variable {P : Program} {ops : Array Oper}
/-- what an operation may know of the slots -/
def FactsA (ops : Array Oper) (a0 : Act) (R : Nat → Value → Act → World → Prop) (o : Oper) (a : Act) (w : World) : Prop :=
  (∀ e ∈ o.after, Region.binds .any e = true → ∀ (oj : Oper) (dj : Tmp), ops[e.on]? = some oj → oj.dst = some dj → R e.on (a.tmps[dj]?.getD undef) a w) ∧
  (∀ k, (ops.toList.all fun o => o.dst != some k) = true → a.tmps[k]?.getD undef = a0.tmps[k]?.getD undef)
/-- THE LAW -/
theorem wp_region_acts {id n : Nat} {a0 : Act} {w0 : World} {Q : Exit → Act → World → Prop} (R : Nat → Value → Act → World → Prop) (T : (Nat → Bool) → World → Prop)
    (hm : P.follows .mixedOrders = true) (hB : freeB ops n = true) (hn : a0.tmps.size = n) (hT0 : T (fun _ => false) { w0 with drawn := w0.drawn + 1 })
    (hcon : ∀ (i : Nat) (o : Oper), ops[i]? = some o → ∀ (a : Act) (w : World) (l : Nat → Bool), T l w → l i = false → (∀ (j : Nat) (oj : Oper), ops[j]? = some oj → l j = true → ∀ e ∈ oj.after, Region.binds .any e = true → l e.on = true) → (∀ e ∈ o.after, Region.binds .any e = true → l e.on = true) → FactsA ops a0 R o a w →
      o.wp P a w (fun a' w' => ∃ v, a' = a.put o.dst v ∧ R i v a' w' ∧ T (fun j => if j = i then true else l j) w' ∧ ∀ j u, j ≠ i → l j = true → R j u a w → R j u a' w') Q)
    (hend : ∀ (vs : Nat → Value) (w : World), T (fun i => decide (i < ops.size)) w → (∀ (i : Nat) (o : Oper), ops[i]? = some o → R i (vs i) (fill ops.toList vs 0 a0) w) → Q .normal (fill ops.toList vs 0 a0) w) :
    (Code.region id ops true).wp P Q a0 w0 := by
  refine wp_region_freeL (Y := R) (S := fun l w => T l w) hm hB hn hT0 ?_ hend
  intro i o ho listed a w hM hu hdp
  have hf : FactsA ops a0 R o a w := by
    refine ⟨fun e he hb oj dj hoj hdj => ?_, fun k hk => ?_⟩
    · obtain ⟨v, hv, hvd⟩ := hM.new e.on oj hoj (hdp e he hb)
      rw [hvd dj hdj]
      exact hv
    · rw [hM.old k fun i o' ho' hd' => ?_]
      have := List.all_eq_true.1 hk o' (by simpa using Array.mem_of_getElem? ho')
      simp [hd'] at this
  exact hcon i o ho a w _ hM.world hu hM.closed hdp hf
end
theorem put_other {a : Act} {d k : Nat} (v : Value) (h : d ≠ k) : (a.put (some d) v).tmps[k]? = a.tmps[k]? := by
  simp [Act.put, Array.getElem?_setIfInBounds_ne h]
end Go.Proofs.YtohkllmhknjkoaaDoor.FreeK

