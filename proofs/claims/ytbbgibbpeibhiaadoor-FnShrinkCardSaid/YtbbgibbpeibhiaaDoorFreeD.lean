/-
  The law at a region with one draw: one operation reads a number of the reader, the others only make memory, and a store comes last; what they
  yield is told by a relation.
-/
import Derived.Test.YtbbgibbpeibhiaaDoorFreeL
import Derived.Test.YtbbgibbpeibhiaaDoorRd2
namespace Go.Proofs.YtbbgibbpeibhiaaDoor.FreeD
open Go Go.RowKit Go.Proofs.YtbbgibbpeibhiaaDoor.Free Go.Proofs.YtbbgibbpeibhiaaDoor.FreeL Go.Proofs.YtbbgibbpeibhiaaDoor.Rd Go.Proofs.YtbbgibbpeibhiaaDoor.Rd2
set_option linter.unusedVariables false

section
variable {ops : Array Oper}

/-- what an operation may know of the slots -/
def FactsV (ops : Array Oper) (a0 : Act) (R : Nat → Value → Prop) (o : Oper) (a : Act) : Prop :=
  (∀ e ∈ o.after, Region.binds .any e = true → ∀ (oj : Oper) (dj : Tmp), ops[e.on]? = some oj → oj.dst = some dj → R e.on (a.tmps[dj]?.getD undef)) ∧
  (∀ k, (ops.toList.all fun o => o.dst != some k) = true → a.tmps[k]?.getD undef = a0.tmps[k]?.getD undef)

/-- THE LAW -/
theorem wp_region_dr {lo : Nat} {id n : Nat} {a0 : Act} {w0 : World} {Q : Exit → Act → World → Prop} (g p : Nat) (R : Nat → Value → Prop) (dr last : Nat) (F : World → World → Prop) (os : Oper)
    (hm : Tryd.prog.follows .mixedOrders = true) (hB : freeB ops n = true) (hn : a0.tmps.size = n) (hs : ops[last]? = some os) (hsd : os.dst = none) (hsz : ops.size = last + 1) (hdl : dr < last)
    (hw : Region.sinkB .any ops last = true) (h0 : Rdr lo w0 g p)
    (hcon : ∀ (i : Nat) (o : Oper), ops[i]? = some o → i < last → i ≠ dr → ∀ (a : Act) (w : World), Apt g w0 w → FactsV ops a0 R o a →
      o.wp Tryd.prog a w (fun a' w' => ∃ v, a' = a.put o.dst v ∧ R i v ∧ Below w.heap.size w w') Q)
    (hdr : ∀ (o : Oper), ops[dr]? = some o → ∀ (a : Act) (w : World), Apt g w0 w → Rdr lo w g p → FactsV ops a0 R o a →
      o.wp Tryd.prog a w (fun a' w' => ∃ v, a' = a.put o.dst v ∧ R dr v ∧ Apt g w w' ∧ Rdr lo w' g (p + 1)) Q)
    (hst : ∀ (a : Act) (w : World), Apt g w0 w → Rdr lo w g (p + 1) → FactsV ops a0 R os a → os.wp Tryd.prog a w (fun a' w' => a' = a ∧ F w w') Q)
    (hend : ∀ (vs : Nat → Value) (w1 w : World), Apt g w0 w1 → Rdr lo w1 g (p + 1) → F w1 w → (∀ (i : Nat) (o : Oper), ops[i]? = some o → i ≠ last → R i (vs i)) → Q .normal (fill ops.toList vs 0 a0) w) :
    (Code.region id ops true).wp Tryd.prog Q a0 w0 := by
  let Y : Nat → Value → Act → World → Prop := fun i v a w => i ≠ last → R i v
  let S : (Nat → Bool) → World → Prop := fun l w => (l last = false → Apt g w0 w ∧ (l dr = false → Rdr lo w g p) ∧ (l dr = true → Rdr lo w g (p + 1))) ∧
    (l last = true → ∃ w1, Apt g w0 w1 ∧ Rdr lo w1 g (p + 1) ∧ F w1 w)
  have facts : ∀ (listed : Array Bool) (o : Oper) (i : Nat) (a : Act) (w : World), ops[i]? = some o → MidL ops a0 Y S listed a w →
      (∀ e ∈ o.after, Region.binds .any e = true → listed.getD e.on false = true) → (∀ e ∈ o.after, Region.binds .any e = true → e.on ≠ last) → FactsV ops a0 R o a := by
    intro listed o i a w ho hM hdl hlt
    refine ⟨fun e he hb oj dj hoj hdj => ?_, fun k hk => ?_⟩
    · obtain ⟨v, hv, hvd⟩ := hM.new e.on oj hoj (hdl e he hb)
      rw [hvd dj hdj]
      exact hv (hlt e he hb)
    · rw [hM.old k fun i o' ho' hd' => ?_]
      have := List.all_eq_true.1 hk o' (by simpa using Array.mem_of_getElem? ho')
      simp [hd'] at this
  have hB2 := hB
  simp only [freeB, Bool.and_eq_true, decide_eq_true_eq] at hB2
  obtain ⟨⟨_, _⟩, h3⟩ := hB2
  have hac : ∀ (i : Nat) (o : Oper), ops[i]? = some o → ∀ e ∈ o.after, Region.binds .any e = true → e.on < i := fun i o ho e he hb => by
    have hi : i < ops.size := (Array.getElem?_eq_some_iff.1 ho).1
    have := List.all_eq_true.1 h3 i (List.mem_range.2 hi)
    rw [ho] at this
    have h5 : (o.after.all fun e => !Region.binds .any e || decide (e.on < i)) = true := this
    have := Array.all_eq_true_iff_forall_mem.1 h5 e he
    simpa [hb] using this
  refine wp_region_freeL (Y := Y) (S := S) hm hB hn ⟨fun _ => ⟨(Apt.refl g w0).drew, fun _ => h0.later (drawn_at w0 1), fun h => (by cases h)⟩, fun h => (by cases h)⟩ ?_ ?_
  · intro i o ho listed a w hM hu hdp
    have hi : i < ops.size := (Array.getElem?_eq_some_iff.1 ho).1
    by_cases hil : i = last
    · subst hil
      obtain rfl : o = os := Option.some.inj (ho.symm.trans hs)
      have hdrl : listed.getD dr false = true := by
        have hd2 : ∃ j, ∃ oj, ops[j]? = some oj ∧ (∃ e ∈ o.after, Region.binds .any e = true ∧ e.on = j) ∧ True := by
          have h4 := List.all_eq_true.1 hw dr (List.mem_range.2 hdl)
          obtain ⟨j, hj, h5⟩ := List.any_eq_true.1 h4
          have hex : ∃ e ∈ o.after, Region.binds .any e = true := by
            have h6 := List.all_eq_true.1 hw (i - 1) (List.mem_range.2 (by omega))
            obtain ⟨j2, hj2, h7⟩ := List.any_eq_true.1 h6
            simp only [Bool.and_eq_true, decide_eq_true_eq] at h7
            have hj2l : j2 < i + 1 := List.mem_range.1 hj2
            obtain ⟨oj, hoj, e2, he2, hb2, hon⟩ := Region.waitsFor_spec h7.2
            have : j2 = i := by
              have := hac j2 oj hoj e2 he2 hb2
              omega
            subst this
            obtain rfl : o = oj := Option.some.inj (ho.symm.trans hoj)
            exact ⟨e2, he2, hb2⟩
          obtain ⟨e, he, hb⟩ := hex
          have hei := hac i o ho e he hb
          exact ⟨e.on, (ops[e.on]'(by omega)), Array.getElem?_eq_getElem (by omega), ⟨e, he, hb, rfl⟩, trivial⟩
        -- all that the store waits for has come; so has what these wait for
        have hcl : ∀ (d k : Nat), i - k ≤ d → k < i → listed.getD k false = true := by
          intro d
          induction d with
          | zero => intro k h1 h2; omega
          | succ d ih =>
            intro k h1 h2
            have h4 := List.all_eq_true.1 hw k (List.mem_range.2 h2)
            obtain ⟨j, hj, h5⟩ := List.any_eq_true.1 h4
            simp only [Bool.and_eq_true, decide_eq_true_eq] at h5
            have hjl : j < i + 1 := List.mem_range.1 hj
            obtain ⟨oj, hoj, e2, he2, hb2, hon⟩ := Region.waitsFor_spec h5.2
            by_cases hji : j = i
            · subst hji
              obtain rfl : o = oj := Option.some.inj (ho.symm.trans hoj)
              have := hdp e2 he2 hb2
              rwa [hon] at this
            · have := hM.closed j oj hoj (ih j (by omega) (by omega)) e2 he2 hb2
              rwa [hon] at this
        exact hcl (i - dr) dr (Nat.le_refl _) hdl
      obtain ⟨hw1, _, hw3⟩ := hM.world.1 hu
      refine Oper.wp_mono ?_ (hst a w hw1 (hw3 hdrl) (facts listed o i a _ ho hM hdp (fun e he hb => Nat.ne_of_lt (hac i o ho e he hb))))
      rintro a' w' ⟨rfl, hf⟩
      exact ⟨undef, by rw [hsd]; rfl, fun h => absurd rfl h, ⟨fun h => (by simp at h), fun _ => ⟨w, hw1, hw3 hdrl, hf⟩⟩, fun j u hj _ hY hjl => hY hjl⟩
    · have hlt : i < last := by omega
      have hnl : listed.getD last false = false := by
        cases hl : listed.getD last false with
        | false => rfl
        | true =>
          exfalso
          have := sink_listed hw hM.closed hl (last - i) i (Nat.le_refl _) (by omega)
          rw [hu] at this
          cases this
      obtain ⟨hw1, hw2, hw3⟩ := hM.world.1 hnl
      have hfc := facts listed o i a w ho hM hdp (fun e he hb => Nat.ne_of_lt (Nat.lt_trans (hac i o ho e he hb) hlt))
      by_cases hid : i = dr
      · subst hid
        refine Oper.wp_mono ?_ (hdr o ho a w hw1 (hw2 hu) hfc)
        rintro a' w' ⟨v, rfl, hv, hb, hr⟩
        refine ⟨v, rfl, fun _ => hv, ⟨fun _ => ⟨hw1.trans hb, fun h => (by simp at h), fun _ => hr⟩, fun h => ?_⟩, fun j u hj _ hY hjl => hY hjl⟩
        dsimp only at h
        rw [if_neg (Ne.symm hil), hnl] at h
        cases h
      · refine Oper.wp_mono ?_ (hcon i o ho hlt hid a w hw1 hfc)
        rintro a' w' ⟨v, rfl, hv, hb⟩
        refine ⟨v, rfl, fun _ => hv, ⟨fun _ => ⟨hw1.trans (Apt.of_below hb), fun h => ?_, fun h => ?_⟩, fun h => ?_⟩, fun j u hj _ hY hjl => hY hjl⟩
        · dsimp only at h
          rw [if_neg (Ne.symm hid)] at h
          exact (hw2 h).later hb
        · dsimp only at h
          rw [if_neg (Ne.symm hid)] at h
          exact (hw3 h).later hb
        · dsimp only at h
          rw [if_neg (Ne.symm hil), hnl] at h
          cases h
  · intro vs w hw1 hall
    obtain ⟨w1, hb1, hr1, hf⟩ := hw1.2 (decide_eq_true (by omega))
    exact hend vs w1 w hb1 hr1 hf fun i o ho hil => hall i o ho hil

/-- THE LAW WITHOUT A DRAW: all but the last only make memory -/
theorem wp_region_val {id n : Nat} {a0 : Act} {w0 : World} {Q : Exit → Act → World → Prop} (R : Nat → Value → Prop) (last : Nat) (F : World → World → Prop) (os : Oper)
    (hm : Tryd.prog.follows .mixedOrders = true) (hB : freeB ops n = true) (hn : a0.tmps.size = n) (hs : ops[last]? = some os) (hsd : os.dst = none) (hsz : ops.size = last + 1)
    (hw : Region.sinkB .any ops last = true)
    (hcon : ∀ (i : Nat) (o : Oper), ops[i]? = some o → i < last → ∀ (a : Act) (w : World), Below w0.heap.size w0 w → FactsV ops a0 R o a →
      o.wp Tryd.prog a w (fun a' w' => ∃ v, a' = a.put o.dst v ∧ R i v ∧ Below w.heap.size w w') Q)
    (hst : ∀ (a : Act) (w : World), Below w0.heap.size w0 w → FactsV ops a0 R os a → os.wp Tryd.prog a w (fun a' w' => a' = a ∧ F w w') Q)
    (hend : ∀ (vs : Nat → Value) (w1 w : World), Below w0.heap.size w0 w1 → F w1 w → (∀ (i : Nat) (o : Oper), ops[i]? = some o → i ≠ last → R i (vs i)) → Q .normal (fill ops.toList vs 0 a0) w) :
    (Code.region id ops true).wp Tryd.prog Q a0 w0 := by
  let Y : Nat → Value → Act → World → Prop := fun i v a w => i ≠ last → R i v
  let S : (Nat → Bool) → World → Prop := fun l w => (l last = false → Below w0.heap.size w0 w) ∧ (l last = true → ∃ w1, Below w0.heap.size w0 w1 ∧ F w1 w)
  have facts : ∀ (listed : Array Bool) (o : Oper) (i : Nat) (a : Act) (w : World), ops[i]? = some o → MidL ops a0 Y S listed a w →
      (∀ e ∈ o.after, Region.binds .any e = true → listed.getD e.on false = true) → (∀ e ∈ o.after, Region.binds .any e = true → e.on ≠ last) → FactsV ops a0 R o a := by
    intro listed o i a w ho hM hdl hlt
    refine ⟨fun e he hb oj dj hoj hdj => ?_, fun k hk => ?_⟩
    · obtain ⟨v, hv, hvd⟩ := hM.new e.on oj hoj (hdl e he hb)
      rw [hvd dj hdj]
      exact hv (hlt e he hb)
    · rw [hM.old k fun i o' ho' hd' => ?_]
      have := List.all_eq_true.1 hk o' (by simpa using Array.mem_of_getElem? ho')
      simp [hd'] at this
  have hB2 := hB
  simp only [freeB, Bool.and_eq_true, decide_eq_true_eq] at hB2
  obtain ⟨⟨_, _⟩, h3⟩ := hB2
  have hac : ∀ (i : Nat) (o : Oper), ops[i]? = some o → ∀ e ∈ o.after, Region.binds .any e = true → e.on < i := fun i o ho e he hb => by
    have hi : i < ops.size := (Array.getElem?_eq_some_iff.1 ho).1
    have := List.all_eq_true.1 h3 i (List.mem_range.2 hi)
    rw [ho] at this
    have h5 : (o.after.all fun e => !Region.binds .any e || decide (e.on < i)) = true := this
    have := Array.all_eq_true_iff_forall_mem.1 h5 e he
    simpa [hb] using this
  refine wp_region_freeL (Y := Y) (S := S) hm hB hn ⟨fun _ => (Below.refl w0.heap.size w0).drew, fun h => (by cases h)⟩ ?_ ?_
  · intro i o ho listed a w hM hu hdp
    have hi : i < ops.size := (Array.getElem?_eq_some_iff.1 ho).1
    by_cases hil : i = last
    · subst hil
      obtain rfl : o = os := Option.some.inj (ho.symm.trans hs)
      have hw1 := hM.world.1 hu
      refine Oper.wp_mono ?_ (hst a w hw1 (facts listed o i a _ ho hM hdp (fun e he hb => Nat.ne_of_lt (hac i o ho e he hb))))
      rintro a' w' ⟨rfl, hf⟩
      exact ⟨undef, by rw [hsd]; rfl, fun h => absurd rfl h, ⟨fun h => (by simp at h), fun _ => ⟨w, hw1, hf⟩⟩, fun j u hj _ hY hjl => hY hjl⟩
    · have hlt : i < last := by omega
      have hnl : listed.getD last false = false := by
        cases hl : listed.getD last false with
        | false => rfl
        | true =>
          exfalso
          have := sink_listed hw hM.closed hl (last - i) i (Nat.le_refl _) (by omega)
          rw [hu] at this
          cases this
      have hw1 := hM.world.1 hnl
      refine Oper.wp_mono ?_ (hcon i o ho hlt a w hw1 (facts listed o i a w ho hM hdp (fun e he hb => Nat.ne_of_lt (Nat.lt_trans (hac i o ho e he hb) hlt))))
      rintro a' w' ⟨v, rfl, hv, hb⟩
      refine ⟨v, rfl, fun _ => hv, ⟨fun _ => hw1.trans (hb.mono hw1.size), fun h => ?_⟩, fun j u hj _ hY hjl => hY hjl⟩
      dsimp only at h
      rw [if_neg (Ne.symm hil), hnl] at h
      cases h
  · intro vs w hw1 hall
    obtain ⟨w1, hb1, hf⟩ := hw1.2 (decide_eq_true (by omega))
    exact hend vs w1 w hb1 hf fun i o ho hil => hall i o ho hil
end
end Go.Proofs.YtbbgibbpeibhiaaDoor.FreeD
