/-
  The law at a region that draws its order and whose operations read through one reader, as often as they like: what they yield is told by a relation
  that stays true while other blocks lie as they lay. The order of the reads does not matter: of each number only its bounds are told.
-/
import Derived.Test.YtbccachkkflceaaFreeL
import Derived.Test.YtbccachkkflceaaRd2
namespace Go.Proofs.Ytbccachkkflceaa.FreeP
open Go Go.RowKit Go.Proofs.Ytbccachkkflceaa.Free Go.Proofs.Ytbccachkkflceaa.FreeL Go.Proofs.Ytbccachkkflceaa.Rd Go.Proofs.Ytbccachkkflceaa.Rd2
set_option linter.unusedVariables false

/-- how many have come up -/
def cnt (l : Nat → Bool) : Nat → Nat
  | 0 => 0
  | n + 1 => cnt l n + (l n).toNat
theorem cnt_le (l : Nat → Bool) : ∀ n, cnt l n ≤ n
  | 0 => Nat.le_refl _
  | n + 1 => by
    have := cnt_le l n
    rw [cnt]
    cases l n <;> simp <;> omega
theorem cnt_none (l : Nat → Bool) (h : ∀ i, l i = false) : ∀ n, cnt l n = 0
  | 0 => rfl
  | n + 1 => by rw [cnt, cnt_none l h n, h n]; rfl
theorem cnt_high (l : Nat → Bool) (i : Nat) : ∀ n, n ≤ i → cnt (fun j => if j = i then true else l j) n = cnt l n
  | 0, _ => rfl
  | n + 1, h => by
    rw [cnt, cnt, cnt_high l i n (by omega)]
    rw [if_neg (by omega)]
theorem cnt_set (l : Nat → Bool) (i : Nat) (hl : l i = false) : ∀ n, i < n → cnt (fun j => if j = i then true else l j) n = cnt l n + 1
  | 0, h => absurd h (by omega)
  | n + 1, h => by
    rw [cnt, cnt]
    by_cases e : n = i
    · subst e
      rw [cnt_high l n n (Nat.le_refl _), if_pos rfl, hl]
      rfl
    · rw [cnt_set l i hl n (by omega), if_neg e]
      omega
set_option maxRecDepth 20000 in
theorem count_up {p0 p p' c : Nat} (h2 : p ≤ p0 + 400 * c) (h4 : p' ≤ p + 400) : p' ≤ p0 + 400 * (c + 1) := by omega
set_option maxRecDepth 20000 in
theorem count_to {p0 p c n : Nat} (h2 : p ≤ p0 + 400 * c) (h4 : c ≤ n) : p ≤ p0 + 400 * n := by omega
theorem wp_enterP {P : Program} {o : Oper} {a : Act} {w : World} {K : Act → World → Prop} {Q : Exit → Act → World → Prop} (f : FuncId) (args : Array Value) (R : Value → World → Prop) (h : (execOp a.eval o).run P w = .ok (.enter f args) w)
    (hc : Calls P f args w fun e w' => ∃ v, e = .returned v ∧ R v w') (hK : ∀ v w', R v w' → K (a.put o.dst v) w') : o.wp P a w K Q := by
  unfold Oper.wp
  rw [h]
  refine Calls.mono hc ?_
  rintro e w' ⟨v, rfl, hR⟩
  exact hK v w' hR

section
variable {P : Program} {ops : Array Oper}
/-- what an operation may know of the slots -/
def FactsP (ops : Array Oper) (a0 : Act) (R : Nat → Value → World → Prop) (o : Oper) (a : Act) (w : World) : Prop :=
  (∀ e ∈ o.after, Region.binds .any e = true → ∀ (oj : Oper) (dj : Tmp), ops[e.on]? = some oj → oj.dst = some dj → R e.on (a.tmps[dj]?.getD undef) w) ∧
  (∀ k, (ops.toList.all fun o => o.dst != some k) = true → a.tmps[k]?.getD undef = a0.tmps[k]?.getD undef)

/-- THE LAW -/
theorem wp_region_draws {lo : Nat} {id n : Nat} {a0 : Act} {w0 : World} {Q : Exit → Act → World → Prop} (g p0 : Nat) (R : Nat → Value → World → Prop) (hR : ∀ (i : Nat) (v : Value) (w w' : World), Apt g w w' → R i v w → R i v w')
    (hm : P.follows .mixedOrders = true) (hB : freeB ops n = true) (hn : a0.tmps.size = n) (h0 : Rdr lo w0 g p0)
    (hcon : ∀ (i : Nat) (o : Oper), ops[i]? = some o → ∀ (a : Act) (w : World) (p : Nat), p0 ≤ p → p ≤ p0 + 400 * ops.size → Apt g w0 w → Rdr lo w g p → FactsP ops a0 R o a w →
      o.wp P a w (fun a' w' => ∃ v p', a' = a.put o.dst v ∧ R i v w' ∧ Apt g w w' ∧ Rdr lo w' g p' ∧ p ≤ p' ∧ p' ≤ p + 400) Q)
    (hend : ∀ (vs : Nat → Value) (w : World) (p : Nat), p0 ≤ p → p ≤ p0 + 400 * ops.size → Apt g w0 w → Rdr lo w g p → (∀ (i : Nat) (o : Oper), ops[i]? = some o → R i (vs i) w) → Q .normal (fill ops.toList vs 0 a0) w) :
    (Code.region id ops true).wp P Q a0 w0 := by
  refine wp_region_freeL (Y := fun i v a w => R i v w) (S := fun l w => Apt g w0 w ∧ ∃ p, Rdr lo w g p ∧ p0 ≤ p ∧ p ≤ p0 + 400 * cnt l ops.size) hm hB hn
    ⟨(Apt.refl g w0).drew, p0, h0.later (drawn_at w0 1), Nat.le_refl _, by omega⟩ ?_ ?_
  · intro i o ho listed a w hM hu hdp
    have hi : i < ops.size := (Array.getElem?_eq_some_iff.1 ho).1
    obtain ⟨ha, p, hr, hp1, hp2⟩ := hM.world
    have hc := cnt_set (fun j => listed.getD j false) i hu ops.size hi
    have hl := cnt_le (fun j => listed.getD j false) ops.size
    have hf : FactsP ops a0 R o a w := by
      refine ⟨fun e he hb oj dj hoj hdj => ?_, fun k hk => ?_⟩
      · obtain ⟨v, hv, hvd⟩ := hM.new e.on oj hoj (hdp e he hb)
        rw [hvd dj hdj]
        exact hv
      · rw [hM.old k fun i o' ho' hd' => ?_]
        have := List.all_eq_true.1 hk o' (by simpa using Array.mem_of_getElem? ho')
        simp [hd'] at this
    have hp3 : p ≤ p0 + 400 * ops.size := count_to hp2 hl
    refine Oper.wp_mono ?_ (hcon i o ho a w p hp1 hp3 ha hr hf)
    rintro a' w' ⟨v, p', rfl, hRv, ha', hr', h3, h4⟩
    have h5 : p' ≤ p0 + 400 * cnt (fun j => if j = i then true else listed.getD j false) ops.size := by
      rw [hc]
      exact count_up hp2 h4
    exact ⟨v, rfl, hRv, ⟨ha.trans ha', p', hr', Nat.le_trans hp1 h3, h5⟩, fun j u _ _ hY => hR j u w w' ha' hY⟩
  · intro vs w hS hall
    obtain ⟨ha, p, hr, hp1, hp2⟩ := hS
    have hl := cnt_le (fun i => decide (i < ops.size)) ops.size
    exact hend vs w p hp1 (count_to hp2 hl) ha hr hall
end
end Go.Proofs.Ytbccachkkflceaa.FreeP
