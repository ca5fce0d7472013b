/-
  Texts of one seat, joined: FreeS, FreeR, Ints, Pick.
-/
import Derived.Test.YtffilggpimdikaaGreatDoorJ5
import Derived.Test.YtffilggpimdikaaGreatDoorJ12
import Derived.Deep.RegionWith
/-
  The law at a region that draws its order and whose operations only make memory, told by relations of what comes up to the world (a fresh slice).
-/
namespace Go.Proofs.YtffilggpimdikaaGreatDoor.FreeS
open Go Go.RowKit Go.Proofs.YtffilggpimdikaaGreatDoor.Free Go.Proofs.YtffilggpimdikaaGreatDoor.FreeL
set_option linter.unusedVariables false

section
variable {P : Program} {ops : Array Oper}
/-- what an operation may know of the slots -/
def FactsS (ops : Array Oper) (a0 : Act) (R : Nat → Value → World → Prop) (o : Oper) (a : Act) (w : World) : Prop :=
  (∀ e ∈ o.after, Region.binds .any e = true → ∀ (oj : Oper) (dj : Tmp), ops[e.on]? = some oj → oj.dst = some dj → R e.on (a.tmps[dj]?.getD undef) w) ∧
  (∀ k, (ops.toList.all fun o => o.dst != some k) = true → a.tmps[k]?.getD undef = a0.tmps[k]?.getD undef)
/-- THE LAW -/
theorem wp_region_rels {id n : Nat} {a0 : Act} {w0 : World} {Q : Exit → Act → World → Prop} (R : Nat → Value → World → Prop)
    (hR : ∀ (i : Nat) (v : Value) (w w' : World), Below w.heap.size w w' → R i v w → R i v w')
    (hm : P.follows .mixedOrders = true) (hB : freeB ops n = true) (hn : a0.tmps.size = n)
    (hcon : ∀ (i : Nat) (o : Oper), ops[i]? = some o → ∀ (a : Act) (w : World), Below w0.heap.size w0 w → FactsS ops a0 R o a w →
      o.wp P a w (fun a' w' => ∃ v, a' = a.put o.dst v ∧ R i v w' ∧ Below w.heap.size w w') Q)
    (hend : ∀ (vs : Nat → Value) (w : World), Below w0.heap.size w0 w → (∀ (i : Nat) (o : Oper), ops[i]? = some o → R i (vs i) w) → Q .normal (fill ops.toList vs 0 a0) w) :
    (Code.region id ops true).wp P Q a0 w0 := by
  refine wp_region_freeL (Y := fun i v a w => R i v w) (S := fun _ w => Below w0.heap.size w0 w) hm hB hn (Below.refl w0.heap.size w0).drew ?_ ?_
  · intro i o ho listed a w hM hu hdp
    have hf : FactsS ops a0 R o a w := by
      refine ⟨fun e he hb oj dj hoj hdj => ?_, fun k hk => ?_⟩
      · obtain ⟨v, hv, hvd⟩ := hM.new e.on oj hoj (hdp e he hb)
        rw [hvd dj hdj]
        exact hv
      · rw [hM.old k fun i o' ho' hd' => ?_]
        have := List.all_eq_true.1 hk o' (by simpa using Array.mem_of_getElem? ho')
        simp [hd'] at this
    refine Oper.wp_mono ?_ (hcon i o ho a w hM.world hf)
    rintro a' w' ⟨v, rfl, hRv, hb⟩
    exact ⟨v, rfl, hRv, hM.world.trans (hb.mono hM.world.size), fun j u _ _ hY => hR j u w w' hb hY⟩
  · intro vs w hS hall
    exact hend vs w hS hall
theorem wp_enterE {o : Oper} {a : Act} {w : World} {K : Act → World → Prop} {Q : Exit → Act → World → Prop} (f : FuncId) (args : Array Value) (R : Value → World → Prop) (h : (execOp a.eval o).run P w = .ok (.enter f args) w)
    (hc : Calls P f args w fun e w' => ∃ v, e = .returned v ∧ R v w') (hK : ∀ v w', R v w' → K (a.put o.dst v) w') : o.wp P a w K Q := by
  unfold Oper.wp
  rw [h]
  refine Calls.mono hc ?_
  rintro e w' ⟨v, rfl, hR⟩
  exact hK v w' hR
end
end Go.Proofs.YtffilggpimdikaaGreatDoor.FreeS

/-
  The law at operations that only make memory, what they yield told by a relation to the world, one store behind them, and a last assignment.
-/
namespace Go.Proofs.YtffilggpimdikaaGreatDoor.FreeR
open Go Go.RowKit Go.Proofs.YtffilggpimdikaaGreatDoor.Free Go.Proofs.YtffilggpimdikaaGreatDoor.FreeL
set_option linter.unusedVariables false

section
variable {P : Program} {ops : Array Oper}

/-- what an operation may know of the slots -/
def FactsR (ops : Array Oper) (a0 : Act) (R : Nat → Value → World → Prop) (o : Oper) (a : Act) (w : World) : Prop :=
  (∀ e ∈ o.after, Region.binds .any e = true → ∀ (oj : Oper) (dj : Tmp), ops[e.on]? = some oj → oj.dst = some dj → R e.on (a.tmps[dj]?.getD undef) w) ∧
  (∀ k, (ops.toList.all fun o => o.dst != some k) = true → a.tmps[k]?.getD undef = a0.tmps[k]?.getD undef)

/-- THE LAW -/
theorem wp_region_rel {id n : Nat} {a0 : Act} {w0 : World} {Q : Exit → Act → World → Prop} (R : Nat → Value → World → Prop) (last : Nat) (f : World → World) (os oz : Oper)
    (hm : P.follows .mixedOrders = true) (hB : freeB ops n = true) (hn : a0.tmps.size = n) (hs : ops[last]? = some os) (hsd : os.dst = none) (hsz : ops.size = last + 2) (hz : ops[last + 1]? = some oz)
    (hw : Region.sinkB .any ops last = true)
    (hR : ∀ i v w w', R i v w → Below w.heap.size w w' → R i v w') (hRf : ∀ i v w, Below w0.heap.size w0 w → i ≠ last → R i v w → R i v (f w))
    (hcon : ∀ (i : Nat) (o : Oper), ops[i]? = some o → i < last → ∀ (a : Act) (w : World), Below w0.heap.size w0 w → FactsR ops a0 R o a w →
      o.wp P a w (fun a' w' => ∃ v, a' = a.put o.dst v ∧ R i v w' ∧ Below w.heap.size w w') Q)
    (hst : ∀ (a : Act) (w : World), Below w0.heap.size w0 w → FactsR ops a0 R os a w → os.wp P a w (fun a' w' => a' = a ∧ w' = f w) Q)
    (hzz : ∀ (a : Act) (w : World), (∀ e ∈ oz.after, Region.binds .any e = true → e.on ≠ last → ∀ (oj : Oper) (dj : Tmp), ops[e.on]? = some oj → oj.dst = some dj → R e.on (a.tmps[dj]?.getD undef) w) →
      oz.wp P a w (fun a' w' => ∃ v, a' = a.put oz.dst v ∧ R (last + 1) v w' ∧ w' = w) Q)
    (hend : ∀ (vs : Nat → Value) (w : World), Below w0.heap.size w0 w → (∀ (i : Nat) (o : Oper), ops[i]? = some o → i ≠ last → R i (vs i) (f w)) → Q .normal (fill ops.toList vs 0 a0) (f w)) : (Code.region id ops true).wp P Q a0 w0 := by
  let Y : Nat → Value → Act → World → Prop := fun i v a w => i ≠ last → R i v w
  let S : (Nat → Bool) → World → Prop := fun g w => (g last = false → Below w0.heap.size w0 w) ∧ (g last = true → ∃ w1, Below w0.heap.size w0 w1 ∧ w = f w1)
  have facts : ∀ (listed : Array Bool) (o : Oper) (i : Nat) (a : Act) (w : World), ops[i]? = some o → MidL ops a0 Y S listed a w →
      (∀ e ∈ o.after, Region.binds .any e = true → listed.getD e.on false = true) → (∀ e ∈ o.after, Region.binds .any e = true → e.on ≠ last) → FactsR ops a0 R o a w := by
    intro listed o i a w ho hM hdl hlt
    refine ⟨fun e he hb oj dj hoj hdj => ?_, fun k hk => ?_⟩
    · obtain ⟨v, hv, hvd⟩ := hM.new e.on oj hoj (hdl e he hb)
      rw [hvd dj hdj]
      exact hv (hlt e he hb)
    · rw [hM.old k fun i o' ho' hd' => ?_]
      have := List.all_eq_true.1 hk o' (by simpa using Array.mem_of_getElem? ho')
      simp [hd'] at this
  have hB2 := hB
  simp only [freeB, Bool.and_eq_true, decide_eq_true_eq] at hB2
  obtain ⟨⟨_, _⟩, h3⟩ := hB2
  have hac : ∀ (i : Nat) (o : Oper), ops[i]? = some o → ∀ e ∈ o.after, Region.binds .any e = true → e.on < i := fun i o ho e he hb => by
    have hi : i < ops.size := (Array.getElem?_eq_some_iff.1 ho).1
    have := List.all_eq_true.1 h3 i (List.mem_range.2 hi)
    rw [ho] at this
    have h5 : (o.after.all fun e => !Region.binds .any e || decide (e.on < i)) = true := this
    have := Array.all_eq_true_iff_forall_mem.1 h5 e he
    simpa [hb] using this
  refine wp_region_freeL (Y := Y) (S := S) hm hB hn ⟨fun _ => (Below.refl w0.heap.size w0).drew, fun h => (by cases h)⟩ ?_ ?_
  · intro i o ho listed a w hM hu hdl
    have hi : i < ops.size := (Array.getElem?_eq_some_iff.1 ho).1
    by_cases hil : i = last
    · subst hil
      obtain rfl : o = os := Option.some.inj (ho.symm.trans hs)
      have hw1 : Below w0.heap.size w0 w := hM.world.1 hu
      refine Oper.wp_mono ?_ (hst a w hw1 (facts listed o i a _ ho hM hdl (fun e he hb => Nat.ne_of_lt (hac i o ho e he hb))))
      rintro a' w' ⟨rfl, rfl⟩
      exact ⟨undef, by rw [hsd]; rfl, fun h => absurd rfl h, ⟨fun h => (by simp at h), fun _ => ⟨w, hw1, rfl⟩⟩, fun j u hj _ hY hjl => hRf j u w hw1 hjl (hY hjl)⟩
    · by_cases hiz : i = last + 1
      · subst hiz
        obtain rfl : o = oz := Option.some.inj (ho.symm.trans hz)
        refine Oper.wp_mono ?_ (hzz a w fun e he hb hel oj dj hoj hdj => by
          obtain ⟨v, hv, hvd⟩ := hM.new e.on oj hoj (hdl e he hb)
          rw [hvd dj hdj]
          exact hv hel)
        rintro a' w' ⟨v, rfl, hv, rfl⟩
        refine ⟨v, rfl, fun _ => hv, ⟨fun h => hM.world.1 ?_, fun h => hM.world.2 ?_⟩, fun j u hj _ hY => hY⟩
        · dsimp only at h
          rwa [if_neg (by omega)] at h
        · dsimp only at h
          rwa [if_neg (by omega)] at h
      have hlt : i < last := by omega
      have hnl : listed.getD last false = false := by
        cases hl : listed.getD last false with
        | false => rfl
        | true =>
          exfalso
          have := sink_listed hw hM.closed hl (last - i) i (Nat.le_refl _) (by omega)
          rw [hu] at this
          cases this
      have hw1 : Below w0.heap.size w0 w := hM.world.1 hnl
      refine Oper.wp_mono ?_ (hcon i o ho hlt a w hw1 (facts listed o i a _ ho hM hdl (fun e he hb => Nat.ne_of_lt (Nat.lt_trans (hac i o ho e he hb) hlt))))
      rintro a' w' ⟨v, rfl, hv, hb⟩
      refine ⟨v, rfl, fun _ => hv, ?_, fun j u hj _ hY hjl => hR j u w w' (hY hjl) hb⟩
      refine ⟨fun _ => hw1.trans (hb.mono hw1.size), fun h => ?_⟩
      dsimp only at h
      rw [if_neg (Ne.symm hil), hnl] at h
      cases h
  · intro vs w hw1 hall
    obtain ⟨w1, hb1, rfl⟩ := hw1.2 (decide_eq_true (by omega))
    exact hend vs w1 hb1 fun i o ho hil => hall i o ho hil
end
end Go.Proofs.YtffilggpimdikaaGreatDoor.FreeR

/-
  Slices of numbers that are only read: areIndices, l1Numbers.
-/
namespace Go.Proofs.YtffilggpimdikaaGreatDoor.Ints
open Go.RowKit Go.Proofs.YtffilggpimdikaaGreatDoor.Plain Go.Proofs.YtffilggpimdikaaGreatDoor.Base Go.Proofs.YtffilggpimdikaaGreatDoor.Valid Go.Proofs.YtffilggpimdikaaGreatDoor.Law Go.Proofs.YtffilggpimdikaaGreatDoor.Entry
set_option linter.unusedVariables false

/-- a slice value reads as these numbers, in blocks below B -/
def IV (w : World) (B : Nat) (v : Value) (xs : List Int) : Prop :=
  xs.length ≤ 9223372036854775807 ∧ ((v = .slice none 0 0 ∧ xs = []) ∨ ∃ b off c, v = .slice (some ⟨b, off, none⟩) xs.length c ∧ b < B ∧ ∀ j (hj : j < xs.length), w.cell? ⟨b, off + j, none⟩ = some (.int .i64 xs[j]))
theorem IV.later {w w1 : World} {B : Nat} {v : Value} {xs : List Int} (h : IV w B v xs) (hB : B ≤ w.heap.size) (hb : Below w.heap.size w w1) : IV w1 B v xs := by
  refine ⟨h.1, ?_⟩
  rcases h.2 with h2 | ⟨b, off, c, rfl, hlt, hc⟩
  · exact .inl h2
  · exact .inr ⟨b, off, c, rfl, hlt, fun j hj => (hb.cell (p := ⟨b, off + j, none⟩) (by show b < _; omega)).trans (hc j hj)⟩
theorem IV.mono {w : World} {B B' : Nat} {v : Value} {xs : List Int} (h : IV w B v xs) (hB : B ≤ B') : IV w B' v xs := by
  refine ⟨h.1, ?_⟩
  rcases h.2 with h2 | ⟨b, off, c, rfl, hlt, hc⟩
  · exact .inl h2
  · exact .inr ⟨b, off, c, rfl, by omega, hc⟩

/-- all are from 0 to less than n -/
def okI (xs : List Int) (n : Int) : Bool := xs.all fun x => decide (0 ≤ x ∧ x < n)
theorem okI_true {xs : List Int} {n : Int} (h : ∀ j (hj : j < xs.length), 0 ≤ xs[j] ∧ xs[j] < n) : okI xs n = true := by
  unfold okI
  rw [List.all_eq_true]
  intro x hx
  obtain ⟨j, hj, rfl⟩ := List.getElem_of_mem hx
  exact decide_eq_true (h j hj)
theorem okI_false {xs : List Int} {n : Int} (j : Nat) (hj : j < xs.length) (h : ¬ (0 ≤ xs[j] ∧ xs[j] < n)) : okI xs n = false := by
  unfold okI
  rw [List.all_eq_false]
  exact ⟨xs[j], List.getElem_mem hj, by simpa using h⟩
theorem okI_get {xs : List Int} {n : Int} (h : okI xs n = true) (j : Nat) (hj : j < xs.length) : 0 ≤ xs[j] ∧ xs[j] < n := by
  unfold okI at h
  have := List.all_eq_true.1 h _ (List.getElem_mem hj)
  simpa using this




end Go.Proofs.YtffilggpimdikaaGreatDoor.Ints

/-
  The reference's l1Pick: rows and columns of a matrix by two lists of numbers.
-/
namespace Go.Proofs.YtffilggpimdikaaGreatDoor.Pick
open Go.RowKit Go.Proofs.YtffilggpimdikaaGreatDoor.Plain Go.Proofs.YtffilggpimdikaaGreatDoor.Base Go.Proofs.YtffilggpimdikaaGreatDoor.Valid Go.Proofs.YtffilggpimdikaaGreatDoor.Law Go.Proofs.YtffilggpimdikaaGreatDoor.GridPlain Go.Proofs.YtffilggpimdikaaGreatDoor.Grid Go.Proofs.YtffilggpimdikaaGreatDoor.Entry Go.Proofs.YtffilggpimdikaaGreatDoor.Ints
set_option linter.unusedVariables false

/-- the entries that are picked -/
def pickE (E : Nat → Nat → Bool) (xs ys : List Int) : Nat → Nat → Bool := fun x y => E (xs.getD x 0).toNat (ys.getD y 0).toNat

theorem cells3 {w : World} {g : Nat} {T : TypeId} {a b c : Value} (h : w.heap[g]? = some (.cells #[a, b, c] T (0, 0))) :
    w.cell? ⟨g, 0, none⟩ = some a ∧ w.cell? ⟨g, 1, none⟩ = some b ∧ w.cell? ⟨g, 2, none⟩ = some c :=
  ⟨cell_of_row _ _ 0 _ _ _ h, cell_of_row _ _ 1 _ _ _ h, cell_of_row _ _ 2 _ _ _ h⟩
theorem free3 {w : World} {g : Nat} {T : TypeId} {a b c : Value} (h : w.heap[g]? = some (.cells #[a, b, c] T (0, 0))) :
    w.frozen? ⟨g, 0, none⟩ = false ∧ w.frozen? ⟨g, 1, none⟩ = false ∧ w.frozen? ⟨g, 2, none⟩ = false :=
  ⟨frozen_of_row _ _ 0 _ _ h, frozen_of_row _ _ 1 _ _ h, frozen_of_row _ _ 2 _ _ h⟩

/-- what holds while l1Pick runs: out has these bytes -/
def PInv (w wr : World) (r c n m : Int) (s t : ByteArray) : Prop :=
  wr.heap[w.heap.size]? = some (.cells #[.int .i64 r, .int .i64 c, .string s] 24 (0, 0)) ∧ wr.heap[w.heap.size + 1]? = some (.cells #[.int .i64 0, .int .i64 0, .string ⟨#[]⟩] 24 (0, 0)) ∧
    wr.heap[w.heap.size + 1 + 1]? = some (.cells #[.int .i64 n, .int .i64 m, .string t] 24 (0, 0)) ∧ Below w.heap.size w wr ∧ w.heap.size + 3 ≤ wr.heap.size
theorem PInv.later {w wr w2 : World} {r c n m : Int} {s t : ByteArray} (h : PInv w wr r c n m s t) (hb : Below wr.heap.size wr w2) : PInv w w2 r c n m s t := by
  obtain ⟨h0, h1, h2, h3, h4⟩ := h
  exact ⟨(hb.block _ (by omega)).trans h0, (hb.block _ (by omega)).trans h1, (hb.block _ (by omega)).trans h2, bstep h3 hb, Nat.le_trans h4 hb.size⟩
theorem PInv.drew {w wr : World} {r c n m : Int} {s t : ByteArray} (h : PInv w wr r c n m s t) (q : Nat) : PInv w (wr.drewN q) r c n m s t :=
  ⟨h.1, h.2.1, h.2.2.1, ⟨h.2.2.2.1.os, h.2.2.2.1.tape, h.2.2.2.1.output, h.2.2.2.1.size, h.2.2.2.1.block⟩, h.2.2.2.2⟩
theorem PInv.set_ {w wr : World} {r c n m : Int} {s t : ByteArray} (h : PInv w wr r c n m s t) (u : ByteArray) : PInv w (wr.setCell ⟨w.heap.size + 1 + 1, 2, none⟩ (.string u)) r c n m s u := by
  obtain ⟨h0, h1, h2, h3, h4⟩ := h
  exact ⟨(heap_setCell_other _ _ _ _ (by simp; omega)).trans h0, (heap_setCell_other _ _ _ _ (by simp)).trans h1, (heap_setCell_same _ _ _ _ _ _ h2).trans rfl, h3.setCell (by simp; omega) _, by simpa using h4⟩

end Go.Proofs.YtffilggpimdikaaGreatDoor.Pick

