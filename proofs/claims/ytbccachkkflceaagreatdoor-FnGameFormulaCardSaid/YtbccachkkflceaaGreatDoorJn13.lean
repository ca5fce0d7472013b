/-
  Texts of one seat, joined: App, FreeT.
-/
import Derived.Test.YtbccachkkflceaaGreatDoorJn1
import Derived.Test.YtbccachkkflceaaGreatDoorRows
import Derived.Below
import Derived.WalkKit
import Derived.OwnWalk
import Derived.Laws.OwnMore
import Derived.Lib.Hide
import Derived.Test.YtbccachkkflceaaGreatDoorFreeL
/-
  What a function keeps of a slice that it builds by append: whatever the elements.
-/
namespace Go.Proofs.YtbccachkkflceaaGreatDoor.App
open Go.RowKit
set_option linter.unusedVariables false

/-- wr holds the slice v of n elements, laid since w0; what lay in w0 lies as it lay -/
structure Own (w0 wr : World) (e : TypeId) (k : Nat) (v : Value) (n : Nat) (xs : List Value) : Prop where
  row : wr.ownsRow w0.heap.size e k v n xs
  below : Below w0.heap.size w0 wr
theorem Own.later {w0 wr w2 : World} {e : TypeId} {k n : Nat} {v : Value} {xs : List Value} (h : Own w0 wr e k v n xs) (hb : Below wr.heap.size wr w2) : Own w0 w2 e k v n xs := by
  refine ⟨⟨h.row.1, ?_⟩, h.below.trans (hb.mono h.below.size)⟩
  rcases h.row.2 with h1 | ⟨g, cap, cur, h2, h3, h4, h5⟩
  · exact .inl h1
  · exact .inr ⟨g, cap, cur, h2, h3, (hb.block g (Array.getElem?_eq_some_iff.1 h4).1).trans h4, h5⟩
theorem Own.none (w0 : World) (e : TypeId) (k : Nat) : Own w0 w0 e k (.slice .none 0 0) 0 [] := ⟨⟨by simp, .inl ⟨rfl, rfl⟩⟩, Below.refl _ _⟩
theorem Own.lit (w0 : World) (e : TypeId) (k : Nat) : Own w0 (w0.alloc (.cells #[] e)) e k (.slice (some ⟨w0.heap.size, 0, .none⟩) 0 0) 0 [] :=
  ⟨World.ownsRow_lit w0 #[] 0 (Nat.le_refl _) (by unfold maxLen; omega) (by simp), (Below.refl _ _).alloc (Nat.le_refl _) _⟩
theorem Own.next {w0 w2 w3 : World} {e : TypeId} {k n m : Nat} {v v3 : Value} {xs ys : List Value} (h : Own w0 w2 e k v n xs) (o : Obj)
    (h3 : w3.ownsRow w0.heap.size e k v3 m ys) (hg : (w2.alloc o).grownBy w3 v.ownBlock) : Own w0 w3 e k v3 m ys :=
  ⟨h3, (h.below.alloc h.below.size o).grown hg (by have := h.below.size; simp at this ⊢; omega) fun j hj => (h.row.lt j hj).1⟩
theorem Own.slice {w0 wr : World} {e : TypeId} {k n : Nat} {v : Value} {xs : List Value} (h : Own w0 wr e k v n xs) : ∃ p c, v = .slice p n c := by
  rcases h.row.2 with ⟨rfl, rfl⟩ | ⟨g, cap, cur, rfl, _⟩
  · exact ⟨_, _, rfl⟩
  · exact ⟨_, _, rfl⟩
/-- the elements' cells -/
theorem Own.cell {w0 wr : World} {e : TypeId} {k n : Nat} {p : Option Addr} {c : Nat} {xs : List Value} (h : Own w0 wr e k (.slice p n c) n xs) (j : Nat) (hj : j < n * k) : ∃ g, p = some ⟨g, 0, .none⟩ ∧ w0.heap.size ≤ g ∧ g < wr.heap.size ∧ wr.cell? ⟨g, j, .none⟩ = xs[j]? := by
  rcases h.row.2 with ⟨e1, rfl⟩ | ⟨g, cap, cur, e1, h1, h2, h3⟩
  · simp at hj
  · injection e1 with e1 _ e3
    subst e1
    exact ⟨g, rfl, h1, (Array.getElem?_eq_some_iff.1 h2).1, World.ownsRow.cellAt (cap := cap) (by rw [← e3]; exact h.row) j hj⟩
end Go.Proofs.YtbccachkkflceaaGreatDoor.App

/-
  The law at operations that only make memory, one store behind them, and an assignment of a constant.
-/
namespace Go.Proofs.YtbccachkkflceaaGreatDoor.FreeT
open Go Go.RowKit Go.Proofs.YtbccachkkflceaaGreatDoor.Free Go.Proofs.YtbccachkkflceaaGreatDoor.FreeL
set_option linter.unusedVariables false

section
variable {P : Program} {ops : Array Oper}

/-- what an operation without a slot would bring is not asked -/
theorem fill_none : ∀ (l : List Oper) (vs us : Nat → Value) (b : Nat) (a : Act), (∀ (i : Nat) (o : Oper), l[i]? = some o → o.dst ≠ none → vs (b + i) = us (b + i)) → fill l vs b a = fill l us b a
  | [], _, _, _, _, _ => rfl
  | o :: l, vs, us, b, a, h => by
    rw [fill, fill]
    have e : a.put o.dst (vs b) = a.put o.dst (us b) := by
      cases hd : o.dst with
      | none => rfl
      | some d =>
        have h0 := h 0 o rfl (by rw [hd]; simp)
        rw [Nat.add_zero] at h0
        rw [h0]
    rw [e]
    refine fill_none l vs us (b + 1) _ fun i o' ho' hd' => ?_
    have := h (i + 1) o' (by simpa using ho') hd'
    rwa [show b + 1 + i = b + (i + 1) by omega]

/-- THE LAW AT OPERATIONS THAT ONLY MAKE MEMORY, ONE STORE BEHIND THEM, AND AN ASSIGNMENT OF A CONSTANT -/
theorem wp_region_last2 {id n : Nat} {a0 : Act} {w0 : World} {Q : Exit → Act → World → Prop} (con : Nat → Value) (last : Nat) (f : World → World) (os oz : Oper)
    (hm : P.follows .mixedOrders = true) (hB : freeB ops n = true) (hn : a0.tmps.size = n) (hs : ops[last]? = some os) (hsd : os.dst = none) (hsz : ops.size = last + 2) (hz : ops[last + 1]? = some oz)
    (hw : Region.sinkB .any ops last = true)
    (hcon : ∀ (i : Nat) (o : Oper), ops[i]? = some o → i < last → ∀ (a : Act) (w : World), Below w0.heap.size w0 w → FactsL ops a0 con o a →
      o.wp P a w (fun a' w' => a' = a.put o.dst (con i) ∧ Below w.heap.size w w') Q)
    (hst : ∀ (a : Act) (w : World), Below w0.heap.size w0 w → FactsL ops a0 con os a → os.wp P a w (fun a' w' => a' = a ∧ w' = f w) Q)
    (hzz : ∀ (a : Act) (w : World), oz.wp P a w (fun a' w' => a' = a.put oz.dst (con (last + 1)) ∧ w' = w) Q)
    (hend : ∀ w, Below w0.heap.size w0 w → Q .normal (fill ops.toList con 0 a0) (f w)) : (Code.region id ops true).wp P Q a0 w0 := by
  let Y : Nat → Value → Act → World → Prop := fun i v a w => i ≠ last → v = con i
  let S : (Nat → Bool) → World → Prop := fun g w => (g last = false → Below w0.heap.size w0 w) ∧ (g last = true → ∃ w1, Below w0.heap.size w0 w1 ∧ w = f w1)
  have facts : ∀ (listed : Array Bool) (o : Oper) (i : Nat) (a : Act) (w : World), ops[i]? = some o → MidL ops a0 Y S listed a w →
      (∀ e ∈ o.after, Region.binds .any e = true → listed.getD e.on false = true) → (∀ e ∈ o.after, Region.binds .any e = true → e.on ≠ last) → FactsL ops a0 con o a := by
    intro listed o i a w ho hM hdl hlt
    refine ⟨fun e he hb oj dj hoj hdj => ?_, fun k hk => ?_⟩
    · obtain ⟨v, hv, hvd⟩ := hM.new e.on oj hoj (hdl e he hb)
      rw [hvd dj hdj, ← hv (hlt e he hb)]
      rfl
    · rw [hM.old k fun i o' ho' hd' => ?_]
      have := List.all_eq_true.1 hk o' (by simpa using Array.mem_of_getElem? ho')
      simp [hd'] at this
  have hB2 := hB
  simp only [freeB, Bool.and_eq_true, decide_eq_true_eq] at hB2
  obtain ⟨⟨_, _⟩, h3⟩ := hB2
  have hac : ∀ (i : Nat) (o : Oper), ops[i]? = some o → ∀ e ∈ o.after, Region.binds .any e = true → e.on < i := fun i o ho e he hb => by
    have hi : i < ops.size := (Array.getElem?_eq_some_iff.1 ho).1
    have := List.all_eq_true.1 h3 i (List.mem_range.2 hi)
    rw [ho] at this
    have h5 : (o.after.all fun e => !Region.binds .any e || decide (e.on < i)) = true := this
    have := Array.all_eq_true_iff_forall_mem.1 h5 e he
    simpa [hb] using this
  refine wp_region_freeL (Y := Y) (S := S) hm hB hn ⟨fun _ => (Below.refl w0.heap.size w0).drew, fun h => (by cases h)⟩ ?_ ?_
  · intro i o ho listed a w hM hu hdl
    have hi : i < ops.size := (Array.getElem?_eq_some_iff.1 ho).1
    by_cases hil : i = last
    · subst hil
      obtain rfl : o = os := Option.some.inj (ho.symm.trans hs)
      have hw1 : Below w0.heap.size w0 w := hM.world.1 hu
      refine Oper.wp_mono ?_ (hst a w hw1 (facts listed o i a _ ho hM hdl (fun e he hb => Nat.ne_of_lt (hac i o ho e he hb))))
      rintro a' w' ⟨rfl, rfl⟩
      exact ⟨undef, by rw [hsd]; rfl, fun h => absurd rfl h, ⟨fun h => (by simp at h), fun _ => ⟨w, hw1, rfl⟩⟩, fun j u hj _ hY => hY⟩
    · by_cases hiz : i = last + 1
      · subst hiz
        obtain rfl : o = oz := Option.some.inj (ho.symm.trans hz)
        refine Oper.wp_mono ?_ (hzz a w)
        rintro a' w' ⟨rfl, rfl⟩
        refine ⟨con (last + 1), rfl, fun _ => rfl, ⟨fun h => hM.world.1 ?_, fun h => hM.world.2 ?_⟩, fun j u hj _ hY => hY⟩
        · dsimp only at h
          rwa [if_neg (by omega)] at h
        · dsimp only at h
          rwa [if_neg (by omega)] at h
      have hlt : i < last := by omega
      have hnl : listed.getD last false = false := by
        cases hl : listed.getD last false with
        | false => rfl
        | true =>
          exfalso
          have := sink_listed hw hM.closed hl (last - i) i (Nat.le_refl _) (by omega)
          rw [hu] at this
          cases this
      have hw1 : Below w0.heap.size w0 w := hM.world.1 hnl
      refine Oper.wp_mono ?_ (hcon i o ho hlt a w hw1 (facts listed o i a _ ho hM hdl (fun e he hb => Nat.ne_of_lt (Nat.lt_trans (hac i o ho e he hb) hlt))))
      rintro a' w' ⟨rfl, hb⟩
      refine ⟨con i, rfl, fun _ => rfl, ?_, fun j u hj _ hY => hY⟩
      refine ⟨fun _ => hw1.trans (hb.mono hw1.size), fun h => ?_⟩
      dsimp only at h
      rw [if_neg (Ne.symm hil), hnl] at h
      cases h
  · intro vs w hw1 hall
    obtain ⟨w1, hb1, rfl⟩ := hw1.2 (decide_eq_true (by omega))
    have hc : fill ops.toList vs 0 a0 = fill ops.toList con 0 a0 := by
      refine fill_none _ _ _ 0 a0 fun i o ho hd => ?_
      rw [Nat.zero_add]
      have ho2 : ops[i]? = some o := by simpa using ho
      refine hall i o ho2 fun e => ?_
      subst e
      obtain rfl : o = os := Option.some.inj (ho2.symm.trans hs)
      exact hd hsd
    rw [hc]
    exact hend w1 hb1
end
end Go.Proofs.YtbccachkkflceaaGreatDoor.FreeT

