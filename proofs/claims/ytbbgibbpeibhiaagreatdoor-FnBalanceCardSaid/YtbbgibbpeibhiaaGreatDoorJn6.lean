/-
  Texts of one seat, joined: FreeT, FreeW, FreeN, Split.
-/
import Derived.Test.YtbbgibbpeibhiaaGreatDoorJn5
import Derived.Test.YtbbgibbpeibhiaaGreatDoorJn4
import Derived.Test.YtbbgibbpeibhiaaGreatDoorJn3
import Derived.RegionTactic
import Derived.ChangeAlike
/-
  The law at operations that only make memory, one store behind them, and an assignment of a constant.
-/
namespace Go.Proofs.YtbbgibbpeibhiaaGreatDoor.FreeT
open Go Go.RowKit Go.Proofs.YtbbgibbpeibhiaaGreatDoor.Free Go.Proofs.YtbbgibbpeibhiaaGreatDoor.FreeL
set_option linter.unusedVariables false

section
variable {P : Program} {ops : Array Oper}

/-- what an operation without a slot would bring is not asked -/
theorem fill_none : ∀ (l : List Oper) (vs us : Nat → Value) (b : Nat) (a : Act), (∀ (i : Nat) (o : Oper), l[i]? = some o → o.dst ≠ none → vs (b + i) = us (b + i)) → fill l vs b a = fill l us b a
  | [], _, _, _, _, _ => rfl
  | o :: l, vs, us, b, a, h => by
    rw [fill, fill]
    have e : a.put o.dst (vs b) = a.put o.dst (us b) := by
      cases hd : o.dst with
      | none => rfl
      | some d =>
        have h0 := h 0 o rfl (by rw [hd]; simp)
        rw [Nat.add_zero] at h0
        rw [h0]
    rw [e]
    refine fill_none l vs us (b + 1) _ fun i o' ho' hd' => ?_
    have := h (i + 1) o' (by simpa using ho') hd'
    rwa [show b + 1 + i = b + (i + 1) by omega]

/-- THE LAW AT OPERATIONS THAT ONLY MAKE MEMORY, ONE STORE BEHIND THEM, AND AN ASSIGNMENT OF A CONSTANT -/
theorem wp_region_last2 {id n : Nat} {a0 : Act} {w0 : World} {Q : Exit → Act → World → Prop} (con : Nat → Value) (last : Nat) (f : World → World) (os oz : Oper)
    (hm : P.follows .mixedOrders = true) (hB : freeB ops n = true) (hn : a0.tmps.size = n) (hs : ops[last]? = some os) (hsd : os.dst = none) (hsz : ops.size = last + 2) (hz : ops[last + 1]? = some oz)
    (hw : Region.sinkB .any ops last = true)
    (hcon : ∀ (i : Nat) (o : Oper), ops[i]? = some o → i < last → ∀ (a : Act) (w : World), Below w0.heap.size w0 w → FactsL ops a0 con o a →
      o.wp P a w (fun a' w' => a' = a.put o.dst (con i) ∧ Below w.heap.size w w') Q)
    (hst : ∀ (a : Act) (w : World), Below w0.heap.size w0 w → FactsL ops a0 con os a → os.wp P a w (fun a' w' => a' = a ∧ w' = f w) Q)
    (hzz : ∀ (a : Act) (w : World), oz.wp P a w (fun a' w' => a' = a.put oz.dst (con (last + 1)) ∧ w' = w) Q)
    (hend : ∀ w, Below w0.heap.size w0 w → Q .normal (fill ops.toList con 0 a0) (f w)) : (Code.region id ops true).wp P Q a0 w0 := by
  let Y : Nat → Value → Act → World → Prop := fun i v a w => i ≠ last → v = con i
  let S : (Nat → Bool) → World → Prop := fun g w => (g last = false → Below w0.heap.size w0 w) ∧ (g last = true → ∃ w1, Below w0.heap.size w0 w1 ∧ w = f w1)
  have facts : ∀ (listed : Array Bool) (o : Oper) (i : Nat) (a : Act) (w : World), ops[i]? = some o → MidL ops a0 Y S listed a w →
      (∀ e ∈ o.after, Region.binds .any e = true → listed.getD e.on false = true) → (∀ e ∈ o.after, Region.binds .any e = true → e.on ≠ last) → FactsL ops a0 con o a := by
    intro listed o i a w ho hM hdl hlt
    refine ⟨fun e he hb oj dj hoj hdj => ?_, fun k hk => ?_⟩
    · obtain ⟨v, hv, hvd⟩ := hM.new e.on oj hoj (hdl e he hb)
      rw [hvd dj hdj, ← hv (hlt e he hb)]
      rfl
    · rw [hM.old k fun i o' ho' hd' => ?_]
      have := List.all_eq_true.1 hk o' (by simpa using Array.mem_of_getElem? ho')
      simp [hd'] at this
  have hB2 := hB
  simp only [freeB, Bool.and_eq_true, decide_eq_true_eq] at hB2
  obtain ⟨⟨_, _⟩, h3⟩ := hB2
  have hac : ∀ (i : Nat) (o : Oper), ops[i]? = some o → ∀ e ∈ o.after, Region.binds .any e = true → e.on < i := fun i o ho e he hb => by
    have hi : i < ops.size := (Array.getElem?_eq_some_iff.1 ho).1
    have := List.all_eq_true.1 h3 i (List.mem_range.2 hi)
    rw [ho] at this
    have h5 : (o.after.all fun e => !Region.binds .any e || decide (e.on < i)) = true := this
    have := Array.all_eq_true_iff_forall_mem.1 h5 e he
    simpa [hb] using this
  refine wp_region_freeL (Y := Y) (S := S) hm hB hn ⟨fun _ => (Below.refl w0.heap.size w0).drew, fun h => (by cases h)⟩ ?_ ?_
  · intro i o ho listed a w hM hu hdl
    have hi : i < ops.size := (Array.getElem?_eq_some_iff.1 ho).1
    by_cases hil : i = last
    · subst hil
      obtain rfl : o = os := Option.some.inj (ho.symm.trans hs)
      have hw1 : Below w0.heap.size w0 w := hM.world.1 hu
      refine Oper.wp_mono ?_ (hst a w hw1 (facts listed o i a _ ho hM hdl (fun e he hb => Nat.ne_of_lt (hac i o ho e he hb))))
      rintro a' w' ⟨rfl, rfl⟩
      exact ⟨undef, by rw [hsd]; rfl, fun h => absurd rfl h, ⟨fun h => (by simp at h), fun _ => ⟨w, hw1, rfl⟩⟩, fun j u hj _ hY => hY⟩
    · by_cases hiz : i = last + 1
      · subst hiz
        obtain rfl : o = oz := Option.some.inj (ho.symm.trans hz)
        refine Oper.wp_mono ?_ (hzz a w)
        rintro a' w' ⟨rfl, rfl⟩
        refine ⟨con (last + 1), rfl, fun _ => rfl, ⟨fun h => hM.world.1 ?_, fun h => hM.world.2 ?_⟩, fun j u hj _ hY => hY⟩
        · dsimp only at h
          rwa [if_neg (by omega)] at h
        · dsimp only at h
          rwa [if_neg (by omega)] at h
      have hlt : i < last := by omega
      have hnl : listed.getD last false = false := by
        cases hl : listed.getD last false with
        | false => rfl
        | true =>
          exfalso
          have := sink_listed hw hM.closed hl (last - i) i (Nat.le_refl _) (by omega)
          rw [hu] at this
          cases this
      have hw1 : Below w0.heap.size w0 w := hM.world.1 hnl
      refine Oper.wp_mono ?_ (hcon i o ho hlt a w hw1 (facts listed o i a _ ho hM hdl (fun e he hb => Nat.ne_of_lt (Nat.lt_trans (hac i o ho e he hb) hlt))))
      rintro a' w' ⟨rfl, hb⟩
      refine ⟨con i, rfl, fun _ => rfl, ?_, fun j u hj _ hY => hY⟩
      refine ⟨fun _ => hw1.trans (hb.mono hw1.size), fun h => ?_⟩
      dsimp only at h
      rw [if_neg (Ne.symm hil), hnl] at h
      cases h
  · intro vs w hw1 hall
    obtain ⟨w1, hb1, rfl⟩ := hw1.2 (decide_eq_true (by omega))
    have hc : fill ops.toList vs 0 a0 = fill ops.toList con 0 a0 := by
      refine fill_none _ _ _ 0 a0 fun i o ho hd => ?_
      rw [Nat.zero_add]
      have ho2 : ops[i]? = some o := by simpa using ho
      refine hall i o ho2 fun e => ?_
      subst e
      obtain rfl : o = os := Option.some.inj (ho2.symm.trans hs)
      exact hd hsd
    rw [hc]
    exact hend w1 hb1
end
end Go.Proofs.YtbbgibbpeibhiaaGreatDoor.FreeT

/-
  The same law, its invariant told of the slots, too; and the law at two new blocks and one store into each.
-/
namespace Go.Proofs.YtbbgibbpeibhiaaGreatDoor.FreeW
open Go Go.RowKit Go.Proofs.YtbbgibbpeibhiaaGreatDoor.Free Go.Proofs.YtbbgibbpeibhiaaGreatDoor.FreeT
set_option linter.unusedVariables false

section
variable {P : Program} {ops : Array Oper}

/-- what is known in the midst of the region; S: of the world, by what has come up -/
structure MidA (ops : Array Oper) (a0 : Act) (Y : Nat → Value → Act → World → Prop) (S : (Nat → Bool) → Act → World → Prop) (listed : Array Bool) (a : Act) (w : World) : Prop where
  defers : a.defers = a0.defers
  size : a.tmps.size = a0.tmps.size
  world : S (fun i => listed.getD i false) a w
  old : ∀ k, (∀ (i : Nat) (o : Oper), ops[i]? = some o → o.dst ≠ some k) → a.tmps[k]? = a0.tmps[k]?
  closed : ∀ (i : Nat) (o : Oper), ops[i]? = some o → listed.getD i false = true → ∀ e ∈ o.after, Region.binds .any e = true → listed.getD e.on false = true
  new : ∀ (i : Nat) (o : Oper), ops[i]? = some o → listed.getD i false = true → ∃ v, Y i v a w ∧ ∀ d, o.dst = some d → a.tmps[d]? = some v

theorem wpAnyA_mid {n : Nat} {a0 : Act} {Y : Nat → Value → Act → World → Prop} {S : (Nat → Bool) → Act → World → Prop} {Q : Exit → Act → World → Prop} (hB : freeB ops n = true) (hn : a0.tmps.size = n)
    (hstep : ∀ (i : Nat) (o : Oper), ops[i]? = some o → ∀ (listed : Array Bool) (a : Act) (w : World), MidA ops a0 Y S listed a w → listed.getD i false = false → (∀ e ∈ o.after, Region.binds .any e = true → listed.getD e.on false = true) →
      o.wp P a w (fun a' w' => ∃ v, a' = a.put o.dst v ∧ Y i v a' w' ∧ S (fun j => if j = i then true else listed.getD j false) a' w' ∧ ∀ j u, j ≠ i → listed.getD j false = true → Y j u a w → Y j u a' w') Q)
    (hend : ∀ a w, (∀ listed : Array Bool, (∀ i, listed.getD i false = decide (i < ops.size)) → MidA ops a0 Y S listed a w) → Q .normal a w) :
    ∀ (fuel : Nat) (listed : Array Bool) (a : Act) (w : World), listed.size = ops.size → left listed ops.size ≤ fuel → MidA ops a0 Y S listed a w → wpAny P .any ops Q fuel listed a w := by
  simp only [freeB, Bool.and_eq_true, decide_eq_true_eq] at hB
  obtain ⟨⟨h1, h2⟩, h3⟩ := hB
  have hg : ∀ (i : Nat) (o : Oper), ops[i]? = some o → o.guard = none := fun i o ho => by
    have := List.all_eq_true.1 h1 o (by simpa using Array.mem_of_getElem? ho)
    simp only [Bool.and_eq_true] at this
    simpa using this.1
  have hd : ∀ (i : Nat) (o : Oper) (d : Tmp), ops[i]? = some o → o.dst = some d → d < n := fun i o d ho hdst => by
    have := List.all_eq_true.1 h1 o (by simpa using Array.mem_of_getElem? ho)
    simp only [Bool.and_eq_true, hdst] at this
    simpa using this.2
  have hac : ∀ (i : Nat) (o : Oper), ops[i]? = some o → ∀ e ∈ o.after, Region.binds .any e = true → e.on < i := fun i o ho e he hb => by
    have hi : i < ops.size := (Array.getElem?_eq_some_iff.1 ho).1
    have := List.all_eq_true.1 h3 i (List.mem_range.2 hi)
    rw [ho] at this
    have h4 : ∀ e ∈ o.after, (!Region.binds .any e || decide (e.on < i)) = true := by
      have h5 : (o.after.all fun e => !Region.binds .any e || decide (e.on < i)) = true := this
      exact fun e he => Array.all_eq_true_iff_forall_mem.1 h5 e he
    have := h4 e he
    simpa [hb] using this
  have hdd : ∀ (i j : Nat) (oi oj : Oper) (d : Tmp), ops[i]? = some oi → ops[j]? = some oj → oi.dst = some d → oj.dst = some d → i = j := fun i j oi oj d hi hj di dj => by
    have hi' : ops.toList[i]? = some oi := by simpa using hi
    have hj' : ops.toList[j]? = some oj := by simpa using hj
    clear hd hac hg h1 h3 hstep hend hi hj
    generalize ops.toList = l at *
    induction l generalizing i j with
    | nil => simp at hi'
    | cons o l ih =>
      cases i with
      | zero =>
        cases j with
        | zero => rfl
        | succ j =>
          exfalso
          simp only [List.getElem?_cons_zero, Option.some.injEq] at hi'
          subst hi'
          simp only [List.getElem?_cons_succ] at hj'
          rw [List.filterMap_cons_some di, List.nodup_cons] at h2
          exact h2.1 (List.mem_filterMap.2 ⟨oj, List.mem_of_getElem? hj', dj⟩)
      | succ i =>
        cases j with
        | zero =>
          exfalso
          simp only [List.getElem?_cons_zero, Option.some.injEq] at hj'
          subst hj'
          simp only [List.getElem?_cons_succ] at hi'
          rw [List.filterMap_cons_some dj, List.nodup_cons] at h2
          exact h2.1 (List.mem_filterMap.2 ⟨oi, List.mem_of_getElem? hi', di⟩)
        | succ j =>
          simp only [List.getElem?_cons_succ] at hi' hj'
          have : (l.filterMap (·.dst)).Nodup := by
            cases hod : o.dst with
            | none => rwa [List.filterMap_cons_none hod] at h2
            | some x => rw [List.filterMap_cons_some hod, List.nodup_cons] at h2; exact h2.2
          rw [ih i j this hi' hj']
  have hall : ∀ (listed : Array Bool), listed.size = ops.size → Region.ready .any ops listed = [] → ∀ m, ∀ i, i < m → i < ops.size → listed.getD i false = true := by
    intro listed hsz hr m
    induction m with
    | zero => intro i hi; omega
    | succ m ih =>
      intro i hi hio
      by_cases e : i = m
      · subst e
        by_cases hl : listed.getD i false = true
        · exact hl
        · exfalso
          have hl2 : listed.getD i true = false := by
            have hlt : i < listed.size := by omega
            simp [hlt] at hl ⊢
            exact hl
          have : i ∈ Region.ready .any ops listed := by
            refine mem_ready.2 ⟨hl2, ops[i], by simp [hio], fun e he hb => ?_⟩
            have := hac i ops[i] (by simp [hio]) e he hb
            exact ih e.on this (by omega)
          rw [hr] at this
          cases this
      · exact ih i (by omega) hio
  intro fuel
  induction fuel with
  | zero =>
    intro listed a w hsz hc hM
    have hz := left_zero listed ops.size (by omega)
    have wEnd : ∀ l' : Array Bool, (∀ i, l'.getD i false = decide (i < ops.size)) → S (fun i => l'.getD i false) a w := fun l' hl' => by
      have e : (fun i => l'.getD i false) = fun i => listed.getD i false := funext fun i => by
        rw [hl']
        by_cases hi : i < ops.size
        · rw [hz i hi]; exact decide_eq_true hi
        · rw [decide_eq_false hi]; simp [Array.getD_eq_getD_getElem?, Array.getElem?_eq_none (show listed.size ≤ i by omega)]
      rw [e]; exact hM.world
    refine ⟨?_, hend a w fun l' hl' => ⟨hM.defers, hM.size, wEnd l' hl', hM.old, fun i o ho _ e he hb => by rw [hl']; exact decide_eq_true (Nat.lt_trans (hac i o ho e he hb) (Array.getElem?_eq_some_iff.1 ho).1), fun i o ho _ => hM.new i o ho (hz i (Array.getElem?_eq_some_iff.1 ho).1)⟩⟩
    cases hr : Region.ready .any ops listed with
    | nil => rfl
    | cons i l =>
      exfalso
      have hi : i ∈ Region.ready .any ops listed := by rw [hr]; exact List.mem_cons_self
      obtain ⟨hu, o, ho, _⟩ := mem_ready.1 hi
      have hio : i < ops.size := (Array.getElem?_eq_some_iff.1 ho).1
      have := hz i hio
      have hlt : i < listed.size := by omega
      simp [hlt] at hu this
      rw [hu] at this
      cases this
  | succ fuel ih =>
    intro listed a w hsz hc hM
    refine ⟨fun hr => hend a w fun l' hl' => ⟨hM.defers, hM.size, (by
      have e : (fun i => l'.getD i false) = fun i => listed.getD i false := funext fun i => by
        rw [hl']
        by_cases hi : i < ops.size
        · rw [hall listed hsz hr ops.size i hi hi]; exact decide_eq_true hi
        · rw [decide_eq_false hi]; simp [Array.getD_eq_getD_getElem?, Array.getElem?_eq_none (show listed.size ≤ i by omega)]
      rw [e]; exact hM.world), hM.old, fun i o ho _ e he hb => by rw [hl']; exact decide_eq_true (Nat.lt_trans (hac i o ho e he hb) (Array.getElem?_eq_some_iff.1 ho).1), fun i o ho _ => hM.new i o ho (hall listed hsz hr ops.size i (Array.getElem?_eq_some_iff.1 ho).1 (Array.getElem?_eq_some_iff.1 ho).1)⟩, fun i hi => ?_⟩
    obtain ⟨hu, o, ho, hdep⟩ := mem_ready.1 hi
    have hio : i < ops.size := (Array.getElem?_eq_some_iff.1 ho).1
    have hu2 : listed.getD i false = false := by
      have hlt : i < listed.size := by omega
      simp [hlt] at hu ⊢
      exact hu
    unfold wpOp
    simp only [ho]
    have hw : Region.wanted o (yielded ops a.tmps) = true := by simp [Region.wanted, hg i o ho]
    rw [if_pos hw]
    refine .inl (Oper.wp_mono ?_ (hstep i o ho listed a w hM hu2 hdep))
    rintro a' w' ⟨v, rfl, hY, hS, hst⟩
    refine ih _ _ _ (by simpa using hsz) (by have := left_set listed i (by omega) hu2 ops.size hio; omega) ⟨?_, ?_, ?_, ?_, ?_, ?_⟩
    · rw [← hM.defers]
      cases o.dst <;> rfl
    · rw [← hM.size]
      cases o.dst <;> simp [Act.put]
    · have e : (fun j => (listed.setIfInBounds i true).getD j false) = fun j => if j = i then true else listed.getD j false := funext fun j => by
        by_cases hj : j = i
        · subst hj
          have hlt : j < listed.size := by omega
          simp [Array.getD_eq_getD_getElem?, hlt]
        · simp [Array.getD_eq_getD_getElem?, Array.getElem?_setIfInBounds_ne (Ne.symm hj), hj]
      rw [e]; exact hS
    · intro k hk
      rw [← hM.old k hk]
      cases hod : o.dst with
      | none => rfl
      | some d =>
        have : d ≠ k := fun e => hk i o ho (by rw [hod, e])
        simp [Act.put, Array.getElem?_setIfInBounds_ne this]
    · intro j oj hoj hl e he hb
      have hl' : listed.getD e.on false = true := by
        by_cases e2 : j = i
        · subst e2
          obtain rfl : o = oj := Option.some.inj (ho.symm.trans hoj)
          exact hdep e he hb
        · have hl2 : listed.getD j false = true := by
            rw [← hl]
            simp [Array.getD_eq_getD_getElem?, Array.getElem?_setIfInBounds_ne (Ne.symm e2)]
          exact hM.closed j oj hoj hl2 e he hb
      exact getD_set_true hl'
    · intro j oj hoj hl
      by_cases e : j = i
      · subst e
        obtain rfl : o = oj := Option.some.inj (ho.symm.trans hoj)
        refine ⟨v, hY, fun d hdd' => ?_⟩
        have hdn := hd j o d ho hdd'
        rw [← hn, ← hM.size] at hdn
        simp [hdd', Act.put, hdn]
      · have hl2 : listed.getD j false = true := by
          rw [← hl]
          simp [Array.getD_eq_getD_getElem?, Array.getElem?_setIfInBounds_ne (Ne.symm e)]
        obtain ⟨u, hu', hd'⟩ := hM.new j oj hoj hl2
        refine ⟨u, hst j u e hl2 hu', fun d hdj => ?_⟩
        rw [← hd' d hdj]
        cases hod : o.dst with
        | none => rfl
        | some d2 =>
          have : d2 ≠ d := fun e2 => e (hdd j i oj o d hoj ho hdj (by rw [hod, e2]))
          simp [Act.put, Array.getElem?_setIfInBounds_ne this]

/-- THE LAW -/
theorem wp_region_freeA {id n : Nat} {a0 : Act} {w0 : World} {Y : Nat → Value → Act → World → Prop} {S : (Nat → Bool) → Act → World → Prop} {Q : Exit → Act → World → Prop} (hm : P.follows .mixedOrders = true) (hB : freeB ops n = true) (hn : a0.tmps.size = n)
    (hS : S (fun _ => false) a0 { w0 with drawn := w0.drawn + 1 })
    (hstep : ∀ (i : Nat) (o : Oper), ops[i]? = some o → ∀ (listed : Array Bool) (a : Act) (w : World), MidA ops a0 Y S listed a w → listed.getD i false = false → (∀ e ∈ o.after, Region.binds .any e = true → listed.getD e.on false = true) →
      o.wp P a w (fun a' w' => ∃ v, a' = a.put o.dst v ∧ Y i v a' w' ∧ S (fun j => if j = i then true else listed.getD j false) a' w' ∧ ∀ j u, j ≠ i → listed.getD j false = true → Y j u a w → Y j u a' w') Q)
    (hend : ∀ (vs : Nat → Value) (w : World), S (fun i => decide (i < ops.size)) (fill ops.toList vs 0 a0) w → (∀ (i : Nat) (o : Oper), ops[i]? = some o → Y i (vs i) (fill ops.toList vs 0 a0) w) → Q .normal (fill ops.toList vs 0 a0) w) : (Code.region id ops true).wp P Q a0 w0 := by
  refine wp_region_any hm ?_
  have hB2 := hB
  simp only [freeB, Bool.and_eq_true, decide_eq_true_eq] at hB2
  obtain ⟨⟨h1, h2⟩, _⟩ := hB2
  refine wpAnyA_mid hB hn hstep (fun a w hM => ?_) _ _ _ _ (by simp) ?_ ⟨rfl, rfl, (by
    have e : (fun i => (Array.replicate ops.size false).getD i false) = fun _ => false := funext fun i => by
      by_cases hi : i < ops.size <;> simp [Array.getD_eq_getD_getElem?, hi]
    rw [e]; exact hS), fun _ _ => rfl, fun i o _ hl => ?_, fun i o _ hl => ?_⟩
  · have M := hM (Array.replicate ops.size true) (fun i => by by_cases hi : i < ops.size <;> simp [Array.getD_eq_getD_getElem?, hi])
    have hl : ∀ (i : Nat) (o : Oper), ops[i]? = some o → (Array.replicate ops.size true).getD i false = true := fun i o ho => by
      have hi : i < ops.size := (Array.getElem?_eq_some_iff.1 ho).1
      simp [Array.getD_eq_getD_getElem?, hi]
    classical
    obtain ⟨vs, hvs⟩ : ∃ vs : Nat → Value, ∀ (i : Nat) (o : Oper), ops[i]? = some o → Y i (vs i) a w ∧ ∀ d, o.dst = some d → a.tmps[d]? = some (vs i) := by
      refine ⟨fun i => if h : ∃ v : Value, ∀ o : Oper, ops[i]? = some o → Y i v a w ∧ ∀ d, o.dst = some d → a.tmps[d]? = some v then h.choose else undef, fun i o ho => ?_⟩
      have hex : ∃ v : Value, ∀ o : Oper, ops[i]? = some o → Y i v a w ∧ ∀ d, o.dst = some d → a.tmps[d]? = some v := by
        obtain ⟨v, hv⟩ := M.new i o ho (hl i o ho)
        exact ⟨v, fun o' ho' => by obtain rfl : o = o' := Option.some.inj (ho.symm.trans ho'); exact hv⟩
      dsimp only
      rw [dif_pos hex]
      exact hex.choose_spec o ho
    have ha : a = fill ops.toList vs 0 a0 := by
      have ht : a.tmps = (fill ops.toList vs 0 a0).tmps := by
        apply Array.ext_getElem?
        intro k
        by_cases hk : ∃ (i : Nat) (o : Oper), ops[i]? = some o ∧ o.dst = some k
        · obtain ⟨i, o, ho, hd⟩ := hk
          have hkn : k < a0.tmps.size := by
            have := List.all_eq_true.1 h1 o (by simpa using Array.mem_of_getElem? ho)
            simp only [Bool.and_eq_true, hd] at this
            rw [hn]
            simpa using this.2
          rw [fill_at k ops.toList vs 0 a0 i o (by simpa using ho) hd h2 hkn, (hvs i o ho).2 k hd, Nat.zero_add]
        · have hk2 : ∀ (i : Nat) (o : Oper), ops[i]? = some o → o.dst ≠ some k := fun i o ho e => hk ⟨i, o, ho, e⟩
          rw [M.old k hk2, fill_not k ops.toList vs 0 a0]
          intro o ho e
          obtain ⟨i, hi, rfl⟩ := List.getElem_of_mem ho
          exact hk2 i _ (by simp at hi; simp [hi]) e
      have hdf := M.defers
      rw [← fill_defers ops.toList vs 0 a0] at hdf
      cases a
      cases hfl : fill ops.toList vs 0 a0
      rw [hfl] at ht hdf
      simp only at ht hdf
      rw [ht, hdf]
    rw [ha]
    refine hend vs w (by
      have e : (fun i => (Array.replicate ops.size true).getD i false) = fun i => decide (i < ops.size) := funext fun i => by
        by_cases hi : i < ops.size <;> simp [Array.getD_eq_getD_getElem?, hi]
      have M2 := M.world
      rw [e] at M2; rw [← ha]; exact M2) fun i o ho => ?_
    rw [← ha]
    exact (hvs i o ho).1
  · clear hstep hend
    have : ∀ n, left (Array.replicate ops.size false) n ≤ n := fun n => by
      induction n with
      | zero => simp [left]
      | succ n ih => rw [left]; split <;> omega
    exact this _
  all_goals
    exfalso
    simp [Array.getD_eq_getD_getElem?, Array.getElem?_replicate] at hl
    split at hl <;> simp at hl

/-- what an operation may know of the slots -/
def FactsA (ops : Array Oper) (a0 : Act) (con : Nat → Value) (kn : Nat → Bool) (o : Oper) (a : Act) : Prop :=
  (∀ e ∈ o.after, Region.binds .any e = true → ∀ (oj : Oper) (dj : Tmp), ops[e.on]? = some oj → oj.dst = some dj → kn e.on = true → a.tmps[dj]?.getD undef = con e.on) ∧
  (∀ k, (ops.toList.all fun o => o.dst != some k) = true → a.tmps[k]?.getD undef = a0.tmps[k]?.getD undef)

/-- a new block: not yet laid; laid, zero; stored into -/
def Laid (B : Nat) (d : Tmp) (T : TypeId) (zs cells : Array Value) (al st : Bool) (a : Act) (w : World) : Prop :=
  (al = false → a.tmps[d]? = some undef) ∧ (al = true → ∃ b, a.tmps[d]? = some (.pointer (some ⟨b, 0, none⟩)) ∧ B ≤ b ∧ w.heap[b]? = some (.cells (if st = true then cells else zs) T (0, 0)))
theorem Laid.on {B : Nat} {d : Tmp} {T : TypeId} {zs cells : Array Value} {al st : Bool} {a a' : Act} {w w' : World} (h : Laid B d T zs cells al st a w) (ht : a'.tmps[d]? = a.tmps[d]?) (hb : Below w.heap.size w w') : Laid B d T zs cells al st a' w' :=
  ⟨fun e => by rw [ht]; exact h.1 e, fun e => by
    obtain ⟨b, h1, h2, h3⟩ := h.2 e
    exact ⟨b, by rw [ht]; exact h1, h2, (hb.block b (Array.getElem?_eq_some_iff.1 h3).1).trans h3⟩⟩
theorem Laid.row {B : Nat} {d : Tmp} {T : TypeId} {zs cells : Array Value} {al st : Bool} {a : Act} {w : World} {g : Nat} {cs : Array Value} (h : Laid B d T zs cells al st a w) (hg : ∀ b, a.tmps[d]? = some (.pointer (some ⟨b, 0, none⟩)) → b ≠ g) : Laid B d T zs cells al st a (w.setRow g cs) :=
  ⟨h.1, fun e => by
    obtain ⟨b, h1, h2, h3⟩ := h.2 e
    exact ⟨b, h1, h2, (Go.Proofs.YtbbgibbpeibhiaaGreatDoor.Free.setRow_other (hg b h1) _).trans h3⟩⟩
theorem Laid.lt {B : Nat} {d : Tmp} {T : TypeId} {zs cells : Array Value} {al st : Bool} {a : Act} {w : World} (h : Laid B d T zs cells al st a w) {b : Nat} (hb : a.tmps[d]? = some (.pointer (some ⟨b, 0, none⟩))) : b < w.heap.size := by
  cases al with
  | false => have := h.1 rfl; rw [hb] at this; simp [undef] at this
  | true =>
    obtain ⟨b2, h1, h2, h3⟩ := h.2 rfl
    rw [hb] at h1
    simp at h1
    subst h1
    exact (Array.getElem?_eq_some_iff.1 h3).1
theorem put_other {a : Act} {o : Option Tmp} {v : Value} {d : Tmp} (h : o ≠ some d) : (a.put o v).tmps[d]? = a.tmps[d]? := by
  cases o with
  | none => rfl
  | some x =>
    have : x ≠ d := fun e => h (by rw [e])
    simp [Act.put, Array.getElem?_setIfInBounds_ne this]

set_option maxHeartbeats 1000000 in
/-- THE LAW AT TWO NEW BLOCKS AND A STORE INTO EACH -/
theorem wp_region_two {id n : Nat} {a0 : Act} {w0 : World} {Q : Exit → Act → World → Prop} (con : Nat → Value) (kn : Nat → Bool) (A1 A2 S1 S2 d1 d2 : Nat) (T : TypeId) (zs cells1 cells2 : Array Value) (oa1 oa2 os1 os2 : Oper)
    (hm : P.follows .mixedOrders = true) (hB : freeB ops n = true) (hn : a0.tmps.size = n)
    (ha1 : ops[A1]? = some oa1) (had1 : oa1.dst = some d1) (ha2 : ops[A2]? = some oa2) (had2 : oa2.dst = some d2) (hs1 : ops[S1]? = some os1) (hsd1 : os1.dst = none) (hs2 : ops[S2]? = some os2) (hsd2 : os2.dst = none)
    (hk : kn = fun i => !(i == A1) && !(i == A2) && !(i == S1) && !(i == S2)) (hne : [A1, A2, S1, S2].Nodup) (hd12 : d1 ≠ d2)
    (hdep1 : ∃ e ∈ os1.after, Region.binds .any e = true ∧ e.on = A1) (hdep2 : ∃ e ∈ os2.after, Region.binds .any e = true ∧ e.on = A2)
    (hoth : ∀ (i : Nat) (o : Oper), ops[i]? = some o → kn i = true → o.dst ≠ some d1 ∧ o.dst ≠ some d2)
    (hu1 : a0.tmps[d1]? = some undef) (hu2 : a0.tmps[d2]? = some undef)
    (hal1 : ∀ (a : Act) (w : World), (execOp a.eval oa1).run P w = .ok (.value (.pointer (some ⟨w.heap.size, 0, none⟩))) (w.alloc (.cells zs T)))
    (hal2 : ∀ (a : Act) (w : World), (execOp a.eval oa2).run P w = .ok (.value (.pointer (some ⟨w.heap.size, 0, none⟩))) (w.alloc (.cells zs T)))
    (hst1 : ∀ (a : Act) (w : World) (b : Nat) (old : Array Value), FactsA ops a0 con kn os1 a → a.tmps[d1]? = some (.pointer (some ⟨b, 0, none⟩)) → w.heap[b]? = some (.cells old T (0, 0)) → (old = zs ∨ old = cells1) →
      os1.wp P a w (fun a' w' => a' = a ∧ w' = w.setRow b cells1) Q)
    (hst2 : ∀ (a : Act) (w : World) (b : Nat) (old : Array Value), FactsA ops a0 con kn os2 a → a.tmps[d2]? = some (.pointer (some ⟨b, 0, none⟩)) → w.heap[b]? = some (.cells old T (0, 0)) → (old = zs ∨ old = cells2) →
      os2.wp P a w (fun a' w' => a' = a ∧ w' = w.setRow b cells2) Q)
    (hcon : ∀ (i : Nat) (o : Oper), ops[i]? = some o → kn i = true → ∀ (a : Act) (w : World), Below w0.heap.size w0 w → FactsA ops a0 con kn o a →
      o.wp P a w (fun a' w' => a' = a.put o.dst (con i) ∧ Below w.heap.size w w') Q)
    (hend : ∀ (b1 b2 : Nat) (w : World), Below w0.heap.size w0 w → w0.heap.size ≤ b1 → w0.heap.size ≤ b2 → w.heap[b1]? = some (.cells cells1 T (0, 0)) → w.heap[b2]? = some (.cells cells2 T (0, 0)) →
      Q .normal (fill ops.toList (fun i => if i = A1 then .pointer (some ⟨b1, 0, none⟩) else if i = A2 then .pointer (some ⟨b2, 0, none⟩) else con i) 0 a0) w) : (Code.region id ops true).wp P Q a0 w0 := by
  have hB2 := hB
  simp only [freeB, Bool.and_eq_true, decide_eq_true_eq] at hB2
  obtain ⟨⟨h1, h2⟩, _⟩ := hB2
  have hdn : ∀ (o : Oper) (k : Tmp), o ∈ ops.toList → o.dst = some k → k < n := fun o k ho hk => by
    have := List.all_eq_true.1 h1 o ho
    simp only [Bool.and_eq_true, hk] at this
    simpa using this.2
  have hd1n : d1 < n := hdn oa1 d1 (by simpa using Array.mem_of_getElem? ha1) had1
  have hd2n : d2 < n := hdn oa2 d2 (by simpa using Array.mem_of_getElem? ha2) had2
  obtain ⟨n12, n13, n14, n23, n24, n34⟩ : A1 ≠ A2 ∧ A1 ≠ S1 ∧ A1 ≠ S2 ∧ A2 ≠ S1 ∧ A2 ≠ S2 ∧ S1 ≠ S2 := by
    simp only [List.nodup_cons, List.mem_cons, List.not_mem_nil, or_false, not_or] at hne
    exact ⟨hne.1.1, hne.1.2.1, hne.1.2.2, hne.2.1.1, hne.2.1.2, hne.2.2.1⟩
  have hkt : ∀ i, kn i = true ↔ i ≠ A1 ∧ i ≠ A2 ∧ i ≠ S1 ∧ i ≠ S2 := fun i => by
    rw [hk]; simp [and_assoc]
  let Y : Nat → Value → Act → World → Prop := fun i v a w => kn i = true → v = con i
  let S : (Nat → Bool) → Act → World → Prop := fun g a w => Below w0.heap.size w0 w ∧ Laid w0.heap.size d1 T zs cells1 (g A1) (g S1) a w ∧ Laid w0.heap.size d2 T zs cells2 (g A2) (g S2) a w ∧
    ∀ b1 b2, a.tmps[d1]? = some (.pointer (some ⟨b1, 0, none⟩)) → a.tmps[d2]? = some (.pointer (some ⟨b2, 0, none⟩)) → b1 ≠ b2
  have facts : ∀ (listed : Array Bool) (o : Oper) (a : Act) (w : World), MidA ops a0 Y S listed a w → (∀ e ∈ o.after, Region.binds .any e = true → listed.getD e.on false = true) → FactsA ops a0 con kn o a := by
    intro listed o a w hM hdl
    refine ⟨fun e he hb oj dj hoj hdj hkn => ?_, fun k hk => ?_⟩
    · obtain ⟨v, hv, hvd⟩ := hM.new e.on oj hoj (hdl e he hb)
      rw [hvd dj hdj, ← hv hkn]
      rfl
    · rw [hM.old k fun i o' ho' hd' => ?_]
      have := List.all_eq_true.1 hk o' (by simpa using Array.mem_of_getElem? ho')
      simp [hd'] at this
  refine wp_region_freeA (Y := Y) (S := S) hm hB hn ⟨(Below.refl w0.heap.size w0).drew, ⟨fun _ => hu1, fun h => (by cases h)⟩, ⟨fun _ => hu2, fun h => (by cases h)⟩, fun b1 b2 e1 _ => (by rw [hu1] at e1; simp [undef] at e1)⟩ ?_ ?_
  · intro i o ho listed a w hM hu hdl
    obtain ⟨hBl, hL1, hL2, hap⟩ := hM.world
    have hsz : a.tmps.size = n := hM.size.trans hn
    by_cases h1a : i = A1
    · subst h1a
      obtain rfl : o = oa1 := Option.some.inj (ho.symm.trans ha1)
      unfold Oper.wp
      rw [hal1 a w]
      have hsu : listed.getD S1 false = false := by
        cases hl : listed.getD S1 false with
        | false => rfl
        | true =>
          exfalso
          obtain ⟨e, he, hb, heq⟩ := hdep1
          have := hM.closed S1 os1 hs1 hl e he hb
          rw [heq, hu] at this
          cases this
      have hnew : (a.put o.dst (.pointer (some ⟨w.heap.size, 0, none⟩))).tmps[d1]? = some (.pointer (some ⟨w.heap.size, 0, none⟩)) := by
        rw [had1]; simp [Act.put, hsz, hd1n]
      have hsame : (a.put o.dst (.pointer (some ⟨w.heap.size, 0, none⟩))).tmps[d2]? = a.tmps[d2]? := put_other (by rw [had1]; simp; omega)
      refine ⟨_, rfl, fun h => absurd rfl ((hkt _).1 h).1, ⟨hBl.alloc hBl.size _, ?_, ?_, ?_⟩, fun j u _ _ hY => hY⟩
      · refine ⟨fun h => (by simp at h), fun _ => ⟨w.heap.size, hnew, hBl.size, ?_⟩⟩
        simp only [if_neg (Ne.symm n13), hsu]
        exact heap_alloc_new w _
      · have := hL2.on hsame ((Below.refl w.heap.size w).alloc (Nat.le_refl _) (.cells zs T))
        simpa [Ne.symm n12, Ne.symm n14] using this
      · intro b1 b2 e1 e2
        rw [hnew] at e1
        rw [hsame] at e2
        have := hL2.lt e2
        simp at e1
        omega
    by_cases h2a : i = A2
    · subst h2a
      obtain rfl : o = oa2 := Option.some.inj (ho.symm.trans ha2)
      unfold Oper.wp
      rw [hal2 a w]
      have hsu : listed.getD S2 false = false := by
        cases hl : listed.getD S2 false with
        | false => rfl
        | true =>
          exfalso
          obtain ⟨e, he, hb, heq⟩ := hdep2
          have := hM.closed S2 os2 hs2 hl e he hb
          rw [heq, hu] at this
          cases this
      have hnew : (a.put o.dst (.pointer (some ⟨w.heap.size, 0, none⟩))).tmps[d2]? = some (.pointer (some ⟨w.heap.size, 0, none⟩)) := by
        rw [had2]; simp [Act.put, hsz, hd2n]
      have hsame : (a.put o.dst (.pointer (some ⟨w.heap.size, 0, none⟩))).tmps[d1]? = a.tmps[d1]? := put_other (by rw [had2]; simp; omega)
      refine ⟨_, rfl, fun h => absurd rfl ((hkt _).1 h).2.1, ⟨hBl.alloc hBl.size _, ?_, ?_, ?_⟩, fun j u _ _ hY => hY⟩
      · have := hL1.on hsame ((Below.refl w.heap.size w).alloc (Nat.le_refl _) (.cells zs T))
        simpa [n12, Ne.symm n23] using this
      · refine ⟨fun h => (by simp at h), fun _ => ⟨w.heap.size, hnew, hBl.size, ?_⟩⟩
        simp only [if_neg (Ne.symm n24), hsu]
        exact heap_alloc_new w _
      · intro b1 b2 e1 e2
        rw [hnew] at e2
        rw [hsame] at e1
        have := hL1.lt e1
        simp at e2
        omega
    by_cases h1s : i = S1
    · subst h1s
      obtain rfl : o = os1 := Option.some.inj (ho.symm.trans hs1)
      obtain ⟨e, he, hb, heq⟩ := hdep1
      have hl := hdl e he hb
      rw [heq] at hl
      obtain ⟨b, hp, hbw, hheap⟩ := hL1.2 hl
      refine Oper.wp_mono ?_ (hst1 a w b _ (facts listed o a w hM hdl) hp hheap (by split <;> simp))
      rintro a' w' ⟨rfl, rfl⟩
      refine ⟨undef, by rw [hsd1]; rfl, fun h => absurd rfl ((hkt _).1 h).2.2.1, ⟨setRow_below hBl hbw _, ?_, ?_, hap⟩, fun j u _ _ hY => hY⟩
      · refine ⟨fun h => (by simp [n13, hl] at h), fun _ => ⟨b, hp, hbw, ?_⟩⟩
        rw [if_pos (by simp)]
        exact setRow_kept hheap _
      · have := hL2.row (g := b) (cs := cells1) fun b2 e2 => (hap b b2 hp e2).symm
        simpa [n23, Ne.symm n34] using this
    by_cases h2s : i = S2
    · subst h2s
      obtain rfl : o = os2 := Option.some.inj (ho.symm.trans hs2)
      obtain ⟨e, he, hb, heq⟩ := hdep2
      have hl := hdl e he hb
      rw [heq] at hl
      obtain ⟨b, hp, hbw, hheap⟩ := hL2.2 hl
      refine Oper.wp_mono ?_ (hst2 a w b _ (facts listed o a w hM hdl) hp hheap (by split <;> simp))
      rintro a' w' ⟨rfl, rfl⟩
      refine ⟨undef, by rw [hsd2]; rfl, fun h => absurd rfl ((hkt _).1 h).2.2.2, ⟨setRow_below hBl hbw _, ?_, ?_, hap⟩, fun j u _ _ hY => hY⟩
      · have := hL1.row (g := b) (cs := cells2) fun b1 e1 => hap b1 b e1 hp
        simpa [n14, n34] using this
      · refine ⟨fun h => (by simp [n24, hl] at h), fun _ => ⟨b, hp, hbw, ?_⟩⟩
        rw [if_pos (by simp)]
        exact setRow_kept hheap _
    have hki : kn i = true := (hkt i).2 ⟨h1a, h2a, h1s, h2s⟩
    obtain ⟨e1, e2⟩ := hoth i o ho hki
    refine Oper.wp_mono ?_ (hcon i o ho hki a w hBl (facts listed o a w hM hdl))
    rintro a' w' ⟨rfl, hbl⟩
    refine ⟨con i, rfl, fun _ => rfl, ⟨hBl.trans (hbl.mono hBl.size), ?_, ?_, ?_⟩, fun j u _ _ hY => hY⟩
    · have := hL1.on (put_other (v := con i) e1) hbl
      simpa [Ne.symm h1a, Ne.symm h1s] using this
    · have := hL2.on (put_other (v := con i) e2) hbl
      simpa [Ne.symm h2a, Ne.symm h2s] using this
    · intro b1 b2 f1 f2
      rw [put_other e1] at f1
      rw [put_other e2] at f2
      exact hap b1 b2 f1 f2
  · intro vs w hS hall
    obtain ⟨hBl, hL1, hL2, hap⟩ := hS
    have l1 : A1 < ops.size := (Array.getElem?_eq_some_iff.1 ha1).1
    have l2 : A2 < ops.size := (Array.getElem?_eq_some_iff.1 ha2).1
    have l3 : S1 < ops.size := (Array.getElem?_eq_some_iff.1 hs1).1
    have l4 : S2 < ops.size := (Array.getElem?_eq_some_iff.1 hs2).1
    obtain ⟨b1, p1, c1, k1⟩ := hL1.2 (by simp [l1])
    obtain ⟨b2, p2, c2, k2⟩ := hL2.2 (by simp [l2])
    rw [if_pos (by simp [l3])] at k1
    rw [if_pos (by simp [l4])] at k2
    have f1 := fill_at d1 ops.toList vs 0 a0 A1 oa1 (by simpa using ha1) had1 h2 (by rw [hn]; exact hd1n)
    have f2 := fill_at d2 ops.toList vs 0 a0 A2 oa2 (by simpa using ha2) had2 h2 (by rw [hn]; exact hd2n)
    rw [p1, Nat.zero_add] at f1
    rw [p2, Nat.zero_add] at f2
    have hc : fill ops.toList vs 0 a0 = fill ops.toList (fun i => if i = A1 then .pointer (some ⟨b1, 0, none⟩) else if i = A2 then .pointer (some ⟨b2, 0, none⟩) else con i) 0 a0 := by
      refine fill_none _ _ _ 0 a0 fun i o ho hd => ?_
      rw [Nat.zero_add]
      have ho2 : ops[i]? = some o := by simpa using ho
      by_cases e1 : i = A1
      · subst e1; rw [if_pos rfl]; exact (Option.some.inj f1).symm
      by_cases e2 : i = A2
      · subst e2; rw [if_neg (Ne.symm n12), if_pos rfl]; exact (Option.some.inj f2).symm
      rw [if_neg e1, if_neg e2]
      refine hall i o ho2 ((hkt i).2 ⟨e1, e2, fun e => ?_, fun e => ?_⟩)
      · subst e
        obtain rfl : o = os1 := Option.some.inj (ho2.symm.trans hs1)
        exact hd hsd1
      · subst e
        obtain rfl : o = os2 := Option.some.inj (ho2.symm.trans hs2)
        exact hd hsd2
    rw [hc]
    exact hend b1 b2 w hBl c1 c2 k1 k2
end
end Go.Proofs.YtbbgibbpeibhiaaGreatDoor.FreeW

/-
  The law at two new blocks and one store into each, saying that the blocks are two.
-/
namespace Go.Proofs.YtbbgibbpeibhiaaGreatDoor.FreeN
open Go Go.RowKit Go.Proofs.YtbbgibbpeibhiaaGreatDoor.Free Go.Proofs.YtbbgibbpeibhiaaGreatDoor.FreeT Go.Proofs.YtbbgibbpeibhiaaGreatDoor.FreeW
set_option linter.unusedVariables false

section
variable {P : Program} {ops : Array Oper}

set_option maxHeartbeats 1000000 in
/-- THE LAW AT TWO NEW BLOCKS AND A STORE INTO EACH -/
theorem wp_region_apart {id n : Nat} {a0 : Act} {w0 : World} {Q : Exit → Act → World → Prop} (con : Nat → Value) (kn : Nat → Bool) (A1 A2 S1 S2 d1 d2 : Nat) (T : TypeId) (zs cells1 cells2 : Array Value) (oa1 oa2 os1 os2 : Oper)
    (hm : P.follows .mixedOrders = true) (hB : freeB ops n = true) (hn : a0.tmps.size = n)
    (ha1 : ops[A1]? = some oa1) (had1 : oa1.dst = some d1) (ha2 : ops[A2]? = some oa2) (had2 : oa2.dst = some d2) (hs1 : ops[S1]? = some os1) (hsd1 : os1.dst = none) (hs2 : ops[S2]? = some os2) (hsd2 : os2.dst = none)
    (hk : kn = fun i => !(i == A1) && !(i == A2) && !(i == S1) && !(i == S2)) (hne : [A1, A2, S1, S2].Nodup) (hd12 : d1 ≠ d2)
    (hdep1 : ∃ e ∈ os1.after, Region.binds .any e = true ∧ e.on = A1) (hdep2 : ∃ e ∈ os2.after, Region.binds .any e = true ∧ e.on = A2)
    (hoth : ∀ (i : Nat) (o : Oper), ops[i]? = some o → kn i = true → o.dst ≠ some d1 ∧ o.dst ≠ some d2)
    (hu1 : a0.tmps[d1]? = some undef) (hu2 : a0.tmps[d2]? = some undef)
    (hal1 : ∀ (a : Act) (w : World), (execOp a.eval oa1).run P w = .ok (.value (.pointer (some ⟨w.heap.size, 0, none⟩))) (w.alloc (.cells zs T)))
    (hal2 : ∀ (a : Act) (w : World), (execOp a.eval oa2).run P w = .ok (.value (.pointer (some ⟨w.heap.size, 0, none⟩))) (w.alloc (.cells zs T)))
    (hst1 : ∀ (a : Act) (w : World) (b : Nat) (old : Array Value), FactsA ops a0 con kn os1 a → a.tmps[d1]? = some (.pointer (some ⟨b, 0, none⟩)) → w.heap[b]? = some (.cells old T (0, 0)) → (old = zs ∨ old = cells1) →
      os1.wp P a w (fun a' w' => a' = a ∧ w' = w.setRow b cells1) Q)
    (hst2 : ∀ (a : Act) (w : World) (b : Nat) (old : Array Value), FactsA ops a0 con kn os2 a → a.tmps[d2]? = some (.pointer (some ⟨b, 0, none⟩)) → w.heap[b]? = some (.cells old T (0, 0)) → (old = zs ∨ old = cells2) →
      os2.wp P a w (fun a' w' => a' = a ∧ w' = w.setRow b cells2) Q)
    (hcon : ∀ (i : Nat) (o : Oper), ops[i]? = some o → kn i = true → ∀ (a : Act) (w : World), Below w0.heap.size w0 w → FactsA ops a0 con kn o a →
      o.wp P a w (fun a' w' => a' = a.put o.dst (con i) ∧ Below w.heap.size w w') Q)
    (hend : ∀ (b1 b2 : Nat) (w : World), Below w0.heap.size w0 w → w0.heap.size ≤ b1 → w0.heap.size ≤ b2 → w.heap[b1]? = some (.cells cells1 T (0, 0)) → w.heap[b2]? = some (.cells cells2 T (0, 0)) → b1 ≠ b2 →
      Q .normal (fill ops.toList (fun i => if i = A1 then .pointer (some ⟨b1, 0, none⟩) else if i = A2 then .pointer (some ⟨b2, 0, none⟩) else con i) 0 a0) w) : (Code.region id ops true).wp P Q a0 w0 := by
  have hB2 := hB
  simp only [freeB, Bool.and_eq_true, decide_eq_true_eq] at hB2
  obtain ⟨⟨h1, h2⟩, _⟩ := hB2
  have hdn : ∀ (o : Oper) (k : Tmp), o ∈ ops.toList → o.dst = some k → k < n := fun o k ho hk => by
    have := List.all_eq_true.1 h1 o ho
    simp only [Bool.and_eq_true, hk] at this
    simpa using this.2
  have hd1n : d1 < n := hdn oa1 d1 (by simpa using Array.mem_of_getElem? ha1) had1
  have hd2n : d2 < n := hdn oa2 d2 (by simpa using Array.mem_of_getElem? ha2) had2
  obtain ⟨n12, n13, n14, n23, n24, n34⟩ : A1 ≠ A2 ∧ A1 ≠ S1 ∧ A1 ≠ S2 ∧ A2 ≠ S1 ∧ A2 ≠ S2 ∧ S1 ≠ S2 := by
    simp only [List.nodup_cons, List.mem_cons, List.not_mem_nil, or_false, not_or] at hne
    exact ⟨hne.1.1, hne.1.2.1, hne.1.2.2, hne.2.1.1, hne.2.1.2, hne.2.2.1⟩
  have hkt : ∀ i, kn i = true ↔ i ≠ A1 ∧ i ≠ A2 ∧ i ≠ S1 ∧ i ≠ S2 := fun i => by
    rw [hk]; simp [and_assoc]
  let Y : Nat → Value → Act → World → Prop := fun i v a w => kn i = true → v = con i
  let S : (Nat → Bool) → Act → World → Prop := fun g a w => Below w0.heap.size w0 w ∧ Laid w0.heap.size d1 T zs cells1 (g A1) (g S1) a w ∧ Laid w0.heap.size d2 T zs cells2 (g A2) (g S2) a w ∧
    ∀ b1 b2, a.tmps[d1]? = some (.pointer (some ⟨b1, 0, none⟩)) → a.tmps[d2]? = some (.pointer (some ⟨b2, 0, none⟩)) → b1 ≠ b2
  have facts : ∀ (listed : Array Bool) (o : Oper) (a : Act) (w : World), MidA ops a0 Y S listed a w → (∀ e ∈ o.after, Region.binds .any e = true → listed.getD e.on false = true) → FactsA ops a0 con kn o a := by
    intro listed o a w hM hdl
    refine ⟨fun e he hb oj dj hoj hdj hkn => ?_, fun k hk => ?_⟩
    · obtain ⟨v, hv, hvd⟩ := hM.new e.on oj hoj (hdl e he hb)
      rw [hvd dj hdj, ← hv hkn]
      rfl
    · rw [hM.old k fun i o' ho' hd' => ?_]
      have := List.all_eq_true.1 hk o' (by simpa using Array.mem_of_getElem? ho')
      simp [hd'] at this
  refine wp_region_freeA (Y := Y) (S := S) hm hB hn ⟨(Below.refl w0.heap.size w0).drew, ⟨fun _ => hu1, fun h => (by cases h)⟩, ⟨fun _ => hu2, fun h => (by cases h)⟩, fun b1 b2 e1 _ => (by rw [hu1] at e1; simp [undef] at e1)⟩ ?_ ?_
  · intro i o ho listed a w hM hu hdl
    obtain ⟨hBl, hL1, hL2, hap⟩ := hM.world
    have hsz : a.tmps.size = n := hM.size.trans hn
    by_cases h1a : i = A1
    · subst h1a
      obtain rfl : o = oa1 := Option.some.inj (ho.symm.trans ha1)
      unfold Oper.wp
      rw [hal1 a w]
      have hsu : listed.getD S1 false = false := by
        cases hl : listed.getD S1 false with
        | false => rfl
        | true =>
          exfalso
          obtain ⟨e, he, hb, heq⟩ := hdep1
          have := hM.closed S1 os1 hs1 hl e he hb
          rw [heq, hu] at this
          cases this
      have hnew : (a.put o.dst (.pointer (some ⟨w.heap.size, 0, none⟩))).tmps[d1]? = some (.pointer (some ⟨w.heap.size, 0, none⟩)) := by
        rw [had1]; simp [Act.put, hsz, hd1n]
      have hsame : (a.put o.dst (.pointer (some ⟨w.heap.size, 0, none⟩))).tmps[d2]? = a.tmps[d2]? := put_other (by rw [had1]; simp; omega)
      refine ⟨_, rfl, fun h => absurd rfl ((hkt _).1 h).1, ⟨hBl.alloc hBl.size _, ?_, ?_, ?_⟩, fun j u _ _ hY => hY⟩
      · refine ⟨fun h => (by simp at h), fun _ => ⟨w.heap.size, hnew, hBl.size, ?_⟩⟩
        simp only [if_neg (Ne.symm n13), hsu]
        exact heap_alloc_new w _
      · have := hL2.on hsame ((Below.refl w.heap.size w).alloc (Nat.le_refl _) (.cells zs T))
        simpa [Ne.symm n12, Ne.symm n14] using this
      · intro b1 b2 e1 e2
        rw [hnew] at e1
        rw [hsame] at e2
        have := hL2.lt e2
        simp at e1
        omega
    by_cases h2a : i = A2
    · subst h2a
      obtain rfl : o = oa2 := Option.some.inj (ho.symm.trans ha2)
      unfold Oper.wp
      rw [hal2 a w]
      have hsu : listed.getD S2 false = false := by
        cases hl : listed.getD S2 false with
        | false => rfl
        | true =>
          exfalso
          obtain ⟨e, he, hb, heq⟩ := hdep2
          have := hM.closed S2 os2 hs2 hl e he hb
          rw [heq, hu] at this
          cases this
      have hnew : (a.put o.dst (.pointer (some ⟨w.heap.size, 0, none⟩))).tmps[d2]? = some (.pointer (some ⟨w.heap.size, 0, none⟩)) := by
        rw [had2]; simp [Act.put, hsz, hd2n]
      have hsame : (a.put o.dst (.pointer (some ⟨w.heap.size, 0, none⟩))).tmps[d1]? = a.tmps[d1]? := put_other (by rw [had2]; simp; omega)
      refine ⟨_, rfl, fun h => absurd rfl ((hkt _).1 h).2.1, ⟨hBl.alloc hBl.size _, ?_, ?_, ?_⟩, fun j u _ _ hY => hY⟩
      · have := hL1.on hsame ((Below.refl w.heap.size w).alloc (Nat.le_refl _) (.cells zs T))
        simpa [n12, Ne.symm n23] using this
      · refine ⟨fun h => (by simp at h), fun _ => ⟨w.heap.size, hnew, hBl.size, ?_⟩⟩
        simp only [if_neg (Ne.symm n24), hsu]
        exact heap_alloc_new w _
      · intro b1 b2 e1 e2
        rw [hnew] at e2
        rw [hsame] at e1
        have := hL1.lt e1
        simp at e2
        omega
    by_cases h1s : i = S1
    · subst h1s
      obtain rfl : o = os1 := Option.some.inj (ho.symm.trans hs1)
      obtain ⟨e, he, hb, heq⟩ := hdep1
      have hl := hdl e he hb
      rw [heq] at hl
      obtain ⟨b, hp, hbw, hheap⟩ := hL1.2 hl
      refine Oper.wp_mono ?_ (hst1 a w b _ (facts listed o a w hM hdl) hp hheap (by split <;> simp))
      rintro a' w' ⟨rfl, rfl⟩
      refine ⟨undef, by rw [hsd1]; rfl, fun h => absurd rfl ((hkt _).1 h).2.2.1, ⟨setRow_below hBl hbw _, ?_, ?_, hap⟩, fun j u _ _ hY => hY⟩
      · refine ⟨fun h => (by simp [n13, hl] at h), fun _ => ⟨b, hp, hbw, ?_⟩⟩
        rw [if_pos (by simp)]
        exact setRow_kept hheap _
      · have := hL2.row (g := b) (cs := cells1) fun b2 e2 => (hap b b2 hp e2).symm
        simpa [n23, Ne.symm n34] using this
    by_cases h2s : i = S2
    · subst h2s
      obtain rfl : o = os2 := Option.some.inj (ho.symm.trans hs2)
      obtain ⟨e, he, hb, heq⟩ := hdep2
      have hl := hdl e he hb
      rw [heq] at hl
      obtain ⟨b, hp, hbw, hheap⟩ := hL2.2 hl
      refine Oper.wp_mono ?_ (hst2 a w b _ (facts listed o a w hM hdl) hp hheap (by split <;> simp))
      rintro a' w' ⟨rfl, rfl⟩
      refine ⟨undef, by rw [hsd2]; rfl, fun h => absurd rfl ((hkt _).1 h).2.2.2, ⟨setRow_below hBl hbw _, ?_, ?_, hap⟩, fun j u _ _ hY => hY⟩
      · have := hL1.row (g := b) (cs := cells2) fun b1 e1 => hap b1 b e1 hp
        simpa [n14, n34] using this
      · refine ⟨fun h => (by simp [n24, hl] at h), fun _ => ⟨b, hp, hbw, ?_⟩⟩
        rw [if_pos (by simp)]
        exact setRow_kept hheap _
    have hki : kn i = true := (hkt i).2 ⟨h1a, h2a, h1s, h2s⟩
    obtain ⟨e1, e2⟩ := hoth i o ho hki
    refine Oper.wp_mono ?_ (hcon i o ho hki a w hBl (facts listed o a w hM hdl))
    rintro a' w' ⟨rfl, hbl⟩
    refine ⟨con i, rfl, fun _ => rfl, ⟨hBl.trans (hbl.mono hBl.size), ?_, ?_, ?_⟩, fun j u _ _ hY => hY⟩
    · have := hL1.on (put_other (v := con i) e1) hbl
      simpa [Ne.symm h1a, Ne.symm h1s] using this
    · have := hL2.on (put_other (v := con i) e2) hbl
      simpa [Ne.symm h2a, Ne.symm h2s] using this
    · intro b1 b2 f1 f2
      rw [put_other e1] at f1
      rw [put_other e2] at f2
      exact hap b1 b2 f1 f2
  · intro vs w hS hall
    obtain ⟨hBl, hL1, hL2, hap⟩ := hS
    have l1 : A1 < ops.size := (Array.getElem?_eq_some_iff.1 ha1).1
    have l2 : A2 < ops.size := (Array.getElem?_eq_some_iff.1 ha2).1
    have l3 : S1 < ops.size := (Array.getElem?_eq_some_iff.1 hs1).1
    have l4 : S2 < ops.size := (Array.getElem?_eq_some_iff.1 hs2).1
    obtain ⟨b1, p1, c1, k1⟩ := hL1.2 (by simp [l1])
    obtain ⟨b2, p2, c2, k2⟩ := hL2.2 (by simp [l2])
    rw [if_pos (by simp [l3])] at k1
    rw [if_pos (by simp [l4])] at k2
    have f1 := fill_at d1 ops.toList vs 0 a0 A1 oa1 (by simpa using ha1) had1 h2 (by rw [hn]; exact hd1n)
    have f2 := fill_at d2 ops.toList vs 0 a0 A2 oa2 (by simpa using ha2) had2 h2 (by rw [hn]; exact hd2n)
    rw [p1, Nat.zero_add] at f1
    rw [p2, Nat.zero_add] at f2
    have hc : fill ops.toList vs 0 a0 = fill ops.toList (fun i => if i = A1 then .pointer (some ⟨b1, 0, none⟩) else if i = A2 then .pointer (some ⟨b2, 0, none⟩) else con i) 0 a0 := by
      refine fill_none _ _ _ 0 a0 fun i o ho hd => ?_
      rw [Nat.zero_add]
      have ho2 : ops[i]? = some o := by simpa using ho
      by_cases e1 : i = A1
      · subst e1; rw [if_pos rfl]; exact (Option.some.inj f1).symm
      by_cases e2 : i = A2
      · subst e2; rw [if_neg (Ne.symm n12), if_pos rfl]; exact (Option.some.inj f2).symm
      rw [if_neg e1, if_neg e2]
      refine hall i o ho2 ((hkt i).2 ⟨e1, e2, fun e => ?_, fun e => ?_⟩)
      · subst e
        obtain rfl : o = os1 := Option.some.inj (ho2.symm.trans hs1)
        exact hd hsd1
      · subst e
        obtain rfl : o = os2 := Option.some.inj (ho2.symm.trans hs2)
        exact hd hsd2
    rw [hc]
    exact hend b1 b2 w hBl c1 c2 k1 k2 (hap b1 b2 p1 p2)
end
end Go.Proofs.YtbbgibbpeibhiaaGreatDoor.FreeN

/-
  The reference's rectangles behind both bits.
-/
namespace Go.Proofs.YtbbgibbpeibhiaaGreatDoor.Split
open Go.RowKit Go.Shelf Go.Proofs.YtbbgibbpeibhiaaGreatDoor.Plain Go.Proofs.YtbbgibbpeibhiaaGreatDoor.Tree Go.Proofs.YtbbgibbpeibhiaaGreatDoor.Hex Go.Proofs.YtbbgibbpeibhiaaGreatDoor.Read Go.Proofs.YtbbgibbpeibhiaaGreatDoor.Parts Go.Proofs.YtbbgibbpeibhiaaGreatDoor.SetW Go.Proofs.YtbbgibbpeibhiaaGreatDoor.TrimT Go.Proofs.YtbbgibbpeibhiaaGreatDoor.Rect Go.Proofs.YtbbgibbpeibhiaaGreatDoor.FreeL
open Go.Proofs.YtbbgibbpeibhiaaGreatDoor.Free (fill wp_value wp_enter wp_load_row freeB)
open Go.Proofs.YtbbgibbpeibhiaaGreatDoor.FreeN (wp_region_apart)
set_option linter.unusedVariables false
set_option linter.unusedSimpArgs false

theorem eval_get {a : Act} {d : Tmp} {v : Value} (h : a.tmps[d]?.getD undef = v) : a.eval (.tmp d) = v := by
  rw [← h]
  show a.tmps.getD d undef = _
  simp [Array.getD_eq_getD_getElem?]
theorem wp_skip {P : Program} {o : Oper} {a : Act} {w w' : World} {K : Act → World → Prop} {Q : Exit → Act → World → Prop} (h : (execOp a.eval o).run P w = .ok .skip w') (hK : K (a.put o.dst undef) w') : o.wp P a w K Q := by
  unfold Oper.wp
  rw [h]
  exact hK
def row (x y : Nat) : Array Value := #[.int .i64 (x : Int), .int .i64 (y : Int)]
theorem cells2 {w : World} {b : Nat} {c0 c1 : Value} {ty : TypeId} (h : w.heap[b]? = some (.cells #[c0, c1] ty (0, 0))) : w.cell? ⟨b, 0, none⟩ = some c0 ∧ w.cell? ⟨b, 1, none⟩ = some c1 ∧ w.frozen? ⟨b, 0, none⟩ = false ∧ w.frozen? ⟨b, 1, none⟩ = false :=
  ⟨cell_of_row _ _ 0 _ _ _ h, cell_of_row _ _ 1 _ _ _ h, frozen_of_row _ _ _ _ _ h, frozen_of_row _ _ _ _ _ h⟩
theorem info_rect (x y : Value) : (Tryz.prog.info? 45).map (·.size) = some (#[x, y] : Array Value).size := by kernel_rfl
theorem one_rect (x y : Int) : (#[.int .i64 x, .int .i64 y] : Array Value).all (·.oneCell') = true := by simp [Value.oneCell']
/-- the blocks of a call: the argument, both results, both rectangles -/
structure Sp (w wr : World) (B g1 g2 R C x1 x2 y1 y2 : Nat) : Prop where
  arg : wr.heap[B]? = some (.cells #[.int .i64 (R : Int), .int .i64 (C : Int)] 45 (0, 0))
  r1 : wr.heap[B + 1]? = some (.cells #[.int .i64 0, .int .i64 0] 45 (0, 0))
  r2 : wr.heap[B + 2]? = some (.cells #[.int .i64 0, .int .i64 0] 45 (0, 0))
  z : wr.heap[g1]? = some (.cells #[.int .i64 (x1 : Int), .int .i64 (x2 : Int)] 45 (0, 0))
  o : wr.heap[g2]? = some (.cells #[.int .i64 (y1 : Int), .int .i64 (y2 : Int)] 45 (0, 0))
  below : Below w.heap.size w wr
  apart : g1 ≠ g2 ∧ B + 3 ≤ g1 ∧ B + 3 ≤ g2 ∧ w.heap.size = B
theorem Sp.later {w wr w2 : World} {B g1 g2 R C x1 x2 y1 y2 : Nat} (h : Sp w wr B g1 g2 R C x1 x2 y1 y2) (hb : Below wr.heap.size wr w2) : Sp w w2 B g1 g2 R C x1 x2 y1 y2 :=
  have k : ∀ {g : Nat} {o : Obj}, wr.heap[g]? = some o → w2.heap[g]? = some o := fun e => (hb.block _ (Array.getElem?_eq_some_iff.1 e).1).trans e
  ⟨k h.arg, k h.r1, k h.r2, k h.z, k h.o, h.below.trans (hb.mono h.below.size), h.apart⟩
theorem set_other {w : World} {B k i : Nat} {v : Value} (h : k ≠ B) : (w.setCell ⟨B, i, none⟩ v).heap[k]? = w.heap[k]? := by
  simp only [World.setCell, Array.getElem?_modify]
  rw [if_neg (by omega)]
theorem set_row {w : World} {g : Nat} {c0 c1 v : Value} (i : Nat) (h : w.heap[g]? = some (.cells #[c0, c1] 45 (0, 0))) : (w.setCell ⟨g, i, none⟩ v).heap[g]? = some (.cells (#[c0, c1].setIfInBounds i v) 45 (0, 0)) := by
  simp [World.setCell, Array.getElem?_modify, h]
theorem set_below {b : Nat} {w w1 : World} {B i : Nat} {v : Value} (h : Below b w w1) (hB : b ≤ B) : Below b w (w1.setCell ⟨B, i, none⟩ v) :=
  h.trans ⟨rfl, rfl, rfl, by simp [World.setCell], fun k hk => set_other (by omega)⟩
theorem Sp.z0 {w wr : World} {B g1 g2 R C x1 x2 y1 y2 : Nat} (h : Sp w wr B g1 g2 R C x1 x2 y1 y2) (m : Nat) : Sp w (wr.setCell ⟨g1, 0, none⟩ (.int .i64 (m : Int))) B g1 g2 R C m x2 y1 y2 :=
  ⟨(set_other (by have := h.apart; omega)).trans h.arg, (set_other (by have := h.apart; omega)).trans h.r1, (set_other (by have := h.apart; omega)).trans h.r2, (set_row 0 h.z), ((set_other (Ne.symm h.apart.1)).trans h.o), set_below h.below (by have := h.apart; omega), h.apart⟩
theorem Sp.z1 {w wr : World} {B g1 g2 R C x1 x2 y1 y2 : Nat} (h : Sp w wr B g1 g2 R C x1 x2 y1 y2) (m : Nat) : Sp w (wr.setCell ⟨g1, 1, none⟩ (.int .i64 (m : Int))) B g1 g2 R C x1 m y1 y2 :=
  ⟨(set_other (by have := h.apart; omega)).trans h.arg, (set_other (by have := h.apart; omega)).trans h.r1, (set_other (by have := h.apart; omega)).trans h.r2, (set_row 1 h.z), ((set_other (Ne.symm h.apart.1)).trans h.o), set_below h.below (by have := h.apart; omega), h.apart⟩
theorem Sp.o0 {w wr : World} {B g1 g2 R C x1 x2 y1 y2 : Nat} (h : Sp w wr B g1 g2 R C x1 x2 y1 y2) (m : Nat) : Sp w (wr.setCell ⟨g2, 0, none⟩ (.int .i64 (m : Int))) B g1 g2 R C x1 x2 m y2 :=
  ⟨(set_other (by have := h.apart; omega)).trans h.arg, (set_other (by have := h.apart; omega)).trans h.r1, (set_other (by have := h.apart; omega)).trans h.r2, ((set_other h.apart.1).trans h.z), (set_row 0 h.o), set_below h.below (by have := h.apart; omega), h.apart⟩
theorem Sp.o1 {w wr : World} {B g1 g2 R C x1 x2 y1 y2 : Nat} (h : Sp w wr B g1 g2 R C x1 x2 y1 y2) (m : Nat) : Sp w (wr.setCell ⟨g2, 1, none⟩ (.int .i64 (m : Int))) B g1 g2 R C x1 x2 y1 m :=
  ⟨(set_other (by have := h.apart; omega)).trans h.arg, (set_other (by have := h.apart; omega)).trans h.r1, (set_other (by have := h.apart; omega)).trans h.r2, ((set_other h.apart.1).trans h.z), (set_row 1 h.o), set_below h.below (by have := h.apart; omega), h.apart⟩

set_option maxHeartbeats 8000000 in
set_option maxRecDepth 100000 in
theorem split_said (a : Bool) (v : Nat) (z o : T) (hv : v < 256) (st : ByteArray) (h : st.data.toList = text (.say a v z o)) (hs : st.size ≤ 1048576) (R C : Nat) (hR : R < 256) (hC : C < 256) (w : World) :
    Calls Tryz.prog 41 #[.string st, rect R C] w fun e w' => e = .returned (.tuple #[rect (outR a v R) (outC a v C), rect (inR a v R) (inC a v C)]) ∧ Below w.heap.size w w' := by
  have HS := Lib.hid (set_said a v z o hv st h hs)
  obtain ⟨hk, hx0⟩ := at_drop (s := st) (k := 0) (c := whoB a) (r := hexD (v / 16) :: hexD (v % 16) :: (text z ++ text o)) (by rw [List.drop_zero, h]; rfl)
  have hn : (st[0]'hk).toNat = (whoB a).toNat := by rw [hx0]
  have HN := Lib.hid hn
  obtain ⟨B, hB⟩ : ∃ B, w.heap.size = B := ⟨_, rfl⟩
  have HBB := Lib.hid hB
  have a1 := bit_minus R v hR
  have a2 := bit_and R v hR
  have a3 := bit_minus C v hC
  have a4 := bit_and C v hC
  have HA := Lib.hid (And.intro (And.intro a1 a2) (And.intro a3 a4))
  clear h hx0 hn a1 a2 a3 a4 hs hv
  go_enter Tryz.func41, Tryz.ntmps41
  go_wp2_with fail
  obtain ⟨W1, hW1⟩ : ∃ W1, ((w.alloc (.cells #[.int .i64 (R : Int), .int .i64 (C : Int)] 45)).alloc (.cells #[.int .i64 0, .int .i64 0] 45)).alloc (.cells #[.int .i64 0, .int .i64 0] 45) = W1 := ⟨_, rfl⟩
  rw [hW1]
  have H0 : Hid (W1.heap.size = B + 3 ∧ Below w.heap.size w W1 ∧ W1.heap[B]? = some (.cells #[.int .i64 (R : Int), .int .i64 (C : Int)] 45 (0, 0)) ∧ W1.heap[B + 1]? = some (.cells #[.int .i64 0, .int .i64 0] 45 (0, 0)) ∧ W1.heap[B + 2]? = some (.cells #[.int .i64 0, .int .i64 0] 45 (0, 0))) := by
    show _ ∧ _ ∧ _ ∧ _ ∧ _
    rw [← hW1, ← HBB.out]
    have b0 := Below.refl w.heap.size w
    have b1 := b0.alloc b0.size (.cells #[.int .i64 (R : Int), .int .i64 (C : Int)] 45)
    have b2 := b1.alloc b1.size (.cells #[.int .i64 0, .int .i64 0] 45)
    have b3 := b2.alloc b2.size (.cells #[.int .i64 0, .int .i64 0] 45)
    have n0 := heap_alloc_new w (.cells #[.int .i64 (R : Int), .int .i64 (C : Int)] 45)
    have n1 := heap_alloc_new (w.alloc (.cells #[.int .i64 (R : Int), .int .i64 (C : Int)] 45)) (.cells #[.int .i64 0, .int .i64 0] 45)
    have n2 := heap_alloc_new ((w.alloc (.cells #[.int .i64 (R : Int), .int .i64 (C : Int)] 45)).alloc (.cells #[.int .i64 0, .int .i64 0] 45)) (.cells #[.int .i64 0, .int .i64 0] 45)
    have m0 := (Array.getElem?_eq_some_iff.1 n0).1
    have k0 := (heap_alloc_old (w.alloc (.cells #[.int .i64 (R : Int), .int .i64 (C : Int)] 45)) (.cells #[.int .i64 0, .int .i64 0] 45) m0).trans n0
    have m0' := (Array.getElem?_eq_some_iff.1 k0).1
    have k0' := (heap_alloc_old ((w.alloc (.cells #[.int .i64 (R : Int), .int .i64 (C : Int)] 45)).alloc (.cells #[.int .i64 0, .int .i64 0] 45)) (.cells #[.int .i64 0, .int .i64 0] 45) m0').trans k0
    have m1 := (Array.getElem?_eq_some_iff.1 n1).1
    have k1 := (heap_alloc_old ((w.alloc (.cells #[.int .i64 (R : Int), .int .i64 (C : Int)] 45)).alloc (.cells #[.int .i64 0, .int .i64 0] 45)) (.cells #[.int .i64 0, .int .i64 0] 45) m1).trans n1
    rw [show (w.alloc (.cells #[.int .i64 (R : Int), .int .i64 (C : Int)] 45)).heap.size = w.heap.size + 1 by simp] at k1
    rw [show ((w.alloc (.cells #[.int .i64 (R : Int), .int .i64 (C : Int)] 45)).alloc (.cells #[.int .i64 0, .int .i64 0] 45)).heap.size = w.heap.size + 2 by simp] at n2
    exact ⟨by simp, b3, k0', k1, n2⟩
  clear hW1 hB
  have HM0 : Hid (∀ wx : World, Below W1.heap.size W1 wx → wx.heap[B]? = some (.cells #[.int .i64 (R : Int), .int .i64 (C : Int)] 45 (0, 0))) := fun wx h => (h.block _ (Array.getElem?_eq_some_iff.1 H0.out.2.2.1).1).trans H0.out.2.2.1
  refine wp_region_apart (fun | 0 => rect R C | 1 => rect R C | _ => undef) _ 2 3 4 5 6 7 45 #[.int .i64 0, .int .i64 0] #[.int .i64 (R : Int), .int .i64 (C : Int)] #[.int .i64 (R : Int), .int .i64 (C : Int)] _ _ _ _
    (by kernel_rfl) (by kernel_rfl) rfl rfl rfl rfl rfl rfl rfl rfl rfl rfl (by decide) (by decide) ⟨⟨2, .data⟩, (by simp), rfl, rfl⟩ ⟨⟨3, .data⟩, (by simp), rfl, rfl⟩ ?oth rfl rfl ?al1 ?al2 ?st1 ?st2 ?con ?en
  case oth =>
    intro i o ho hk
    match i, ho, hk with
    | 0, ho, _ => obtain rfl := Option.some.inj ho; exact ⟨by decide, by decide⟩
    | 1, ho, _ => obtain rfl := Option.some.inj ho; exact ⟨by decide, by decide⟩
    | 2, _, hk => exact absurd hk (by decide)
    | 3, _, hk => exact absurd hk (by decide)
    | 4, _, hk => exact absurd hk (by decide)
    | 5, _, hk => exact absurd hk (by decide)
    | q + 6, ho, _ => simp at ho
  case al1 =>
    intro a w
    unfold execOp
    go_simp
  case al2 =>
    intro a w
    unfold execOp
    go_simp
  case st1 =>
    intro a w1 b old hf hp hg ho
    have e8 : a.tmps[8]?.getD undef = rect R C := hf.1 ⟨0, .data⟩ (by simp) rfl _ 8 rfl rfl rfl
    exact wp_store_row 45 (.tmp 6) (.tmp 8) rfl b #[.int .i64 (R : Int), .int .i64 (C : Int)] (eval_get (by rw [hp]; rfl)) (eval_get e8) 45 old hg (info_rect _ _) (by rcases ho with rfl | rfl <;> rfl) (one_rect _ _) ⟨rfl, rfl⟩
  case st2 =>
    intro a w1 b old hf hp hg ho
    have e9 : a.tmps[9]?.getD undef = rect R C := hf.1 ⟨1, .data⟩ (by simp) rfl _ 9 rfl rfl rfl
    exact wp_store_row 45 (.tmp 7) (.tmp 9) rfl b #[.int .i64 (R : Int), .int .i64 (C : Int)] (eval_get (by rw [hp]; rfl)) (eval_get e9) 45 old hg (info_rect _ _) (by rcases ho with rfl | rfl <;> rfl) (one_rect _ _) ⟨rfl, rfl⟩
  case con =>
    intro i o ho hk a w2 hb2 hf
    match i, ho, hk with
    | 0, ho, _ =>
      obtain rfl := Option.some.inj ho
      have b3 : a.tmps[3]?.getD undef = .pointer (some ⟨B, 0, none⟩) := hf.2 3 (by kernel_rfl)
      exact wp_load_row 45 (.tmp 3) rfl B (eval_get b3) 45 _ (0, 0) _ (HM0.out w2 hb2) Tryz.underlying45 rfl (info_rect _ _) ⟨rfl, Below.refl _ _⟩
    | 1, ho, _ =>
      obtain rfl := Option.some.inj ho
      have b3 : a.tmps[3]?.getD undef = .pointer (some ⟨B, 0, none⟩) := hf.2 3 (by kernel_rfl)
      exact wp_load_row 45 (.tmp 3) rfl B (eval_get b3) 45 _ (0, 0) _ (HM0.out w2 hb2) Tryz.underlying45 rfl (info_rect _ _) ⟨rfl, Below.refl _ _⟩
    | 2, _, hk => exact absurd hk (by decide)
    | 3, _, hk => exact absurd hk (by decide)
    | 4, _, hk => exact absurd hk (by decide)
    | 5, _, hk => exact absurd hk (by decide)
    | q + 6, ho, _ => simp at ho
  intro g1 g2 w5 hb5 l1 l2 x1 x2 hap
  have HT : Hid (Sp w w5 B g1 g2 R C R C R C) := by
    obtain ⟨s0, s1, s2, s3, s4⟩ := H0.out
    have k : ∀ {g : Nat} {o : Obj}, W1.heap[g]? = some o → w5.heap[g]? = some o := fun e => (hb5.block _ (Array.getElem?_eq_some_iff.1 e).1).trans e
    exact ⟨k s2, k s3, k s4, x1, x2, s1.trans (hb5.mono s1.size), hap, by omega, by omega, HBB.out⟩
  clear hb5 l1 l2 x1 x2 hap HM0 H0
  simp only [fill, Act.put]
  go_simp
  cases a
  · have hn : (st[0]'hk).toNat = 66 := HN.out
    go_wp2_with fail
    refine wp_region_last (fun | 0 => .pointer (some ⟨B, 1, none⟩) | 1 => .int .i64 (C : Int) | 2 => .string st | 3 => .int .i64 (v : Int) | 4 => .int .i64 (minusN C v : Int) | 5 => .pointer (some ⟨g1, 1, none⟩) | _ => undef) 6 (fun wx => wx.setCell ⟨g1, 1, none⟩ (.int .i64 (minusN C v : Int))) _ (by kernel_rfl) (by kernel_rfl) rfl rfl rfl rfl (by kernel_rfl) ?confz ?stfz ?enfz
    case confz =>
      intro i o ho hlt a wx hb hf
      match i, ho with
      | 0, ho =>
        obtain rfl := Option.some.inj ho
        have b3 : a.tmps[3]?.getD undef = .pointer (some ⟨B, 0, none⟩) := hf.2 3 (by kernel_rfl)
        exact wp_value (.pointer (some ⟨B, 1, none⟩)) (by unfold execOp; go_simp) ⟨rfl, Below.refl _ _⟩
      | 1, ho =>
        obtain rfl := Option.some.inj ho
        have e25 : a.tmps[25]?.getD undef = .pointer (some ⟨B, 1, none⟩) := hf.1 ⟨0, .data⟩ (by simp) rfl _ 25 rfl rfl
        obtain ⟨c0, c1, c2, c3⟩ := cells2 (HT.out.later hb).arg
        exact wp_value (.int .i64 (C : Int)) (by unfold execOp; go_simp) ⟨rfl, Below.refl _ _⟩
      | 2, ho =>
        obtain rfl := Option.some.inj ho
        have b0 : a.tmps[0]?.getD undef = .string st := hf.2 0 (by kernel_rfl)
        exact wp_value (.string st) (by unfold execOp; go_simp) ⟨rfl, Below.refl _ _⟩
      | 3, ho =>
        obtain rfl := Option.some.inj ho
        have e27 : a.tmps[27]?.getD undef = .string st := hf.1 ⟨2, .data⟩ (by simp) rfl _ 27 rfl rfl
        exact wp_enter 53 #[.string st] (.int .i64 (v : Int)) _ (by unfold execOp; go_simp) (HS.out wx) (fun w' h => ⟨rfl, h⟩)
      | 4, ho =>
        obtain rfl := Option.some.inj ho
        have e26 : a.tmps[26]?.getD undef = .int .i64 (C : Int) := hf.1 ⟨1, .data⟩ (by simp) rfl _ 26 rfl rfl
        have e28 : a.tmps[28]?.getD undef = .int .i64 (v : Int) := hf.1 ⟨3, .data⟩ (by simp) rfl _ 28 rfl rfl
        have q1 := HA.out.1.1; have q2 := HA.out.1.2; have q3 := HA.out.2.1; have q4 := HA.out.2.2
        exact wp_value (.int .i64 (minusN C v : Int)) (by unfold execOp; go_simp) ⟨rfl, Below.refl _ _⟩
      | 5, ho =>
        obtain rfl := Option.some.inj ho
        have b6 : a.tmps[6]?.getD undef = .pointer (some ⟨g1, 0, none⟩) := hf.2 6 (by kernel_rfl)
        exact wp_value (.pointer (some ⟨g1, 1, none⟩)) (by unfold execOp; go_simp) ⟨rfl, Below.refl _ _⟩
      | 6, ho => exact absurd hlt (by omega)
      | q + 7, ho => simp at ho
    case stfz =>
      intro a wx hb hf
      have e29 : a.tmps[29]?.getD undef = .int .i64 (minusN C v : Int) := hf.1 ⟨4, .data⟩ (by simp) rfl _ 29 rfl rfl
      have e30 : a.tmps[30]?.getD undef = .pointer (some ⟨g1, 1, none⟩) := hf.1 ⟨5, .data⟩ (by simp) rfl _ 30 rfl rfl
      obtain ⟨c0, c1, c2, c3⟩ := cells2 (HT.out.later hb).z
      exact wp_skip (by unfold execOp; go_simp) ⟨rfl, rfl⟩
    intro w6 hb6
    have HT2 := Lib.hid ((HT.out.later hb6).z1 (minusN C v))
    clear hb6 HT
    simp only [fill, Act.put]
    go_simp
    generalize w6.setCell ⟨g1, 1, none⟩ (.int .i64 (minusN C v : Int)) = w7 at *
    have HT := Lib.hid HT2.out
    clear HT2
    go_wp2_with fail
    refine wp_region_last (fun | 0 => .pointer (some ⟨B, 1, none⟩) | 1 => .int .i64 (C : Int) | 2 => .string st | 3 => .int .i64 (v : Int) | 4 => .int .i64 (meetN C v : Int) | 5 => .pointer (some ⟨g2, 1, none⟩) | _ => undef) 6 (fun wx => wx.setCell ⟨g2, 1, none⟩ (.int .i64 (meetN C v : Int))) _ (by kernel_rfl) (by kernel_rfl) rfl rfl rfl rfl (by kernel_rfl) ?confo ?stfo ?enfo
    case confo =>
      intro i o ho hlt a wx hb hf
      match i, ho with
      | 0, ho =>
        obtain rfl := Option.some.inj ho
        have b3 : a.tmps[3]?.getD undef = .pointer (some ⟨B, 0, none⟩) := hf.2 3 (by kernel_rfl)
        exact wp_value (.pointer (some ⟨B, 1, none⟩)) (by unfold execOp; go_simp) ⟨rfl, Below.refl _ _⟩
      | 1, ho =>
        obtain rfl := Option.some.inj ho
        have e31 : a.tmps[31]?.getD undef = .pointer (some ⟨B, 1, none⟩) := hf.1 ⟨0, .data⟩ (by simp) rfl _ 31 rfl rfl
        obtain ⟨c0, c1, c2, c3⟩ := cells2 (HT.out.later hb).arg
        exact wp_value (.int .i64 (C : Int)) (by unfold execOp; go_simp) ⟨rfl, Below.refl _ _⟩
      | 2, ho =>
        obtain rfl := Option.some.inj ho
        have b0 : a.tmps[0]?.getD undef = .string st := hf.2 0 (by kernel_rfl)
        exact wp_value (.string st) (by unfold execOp; go_simp) ⟨rfl, Below.refl _ _⟩
      | 3, ho =>
        obtain rfl := Option.some.inj ho
        have e33 : a.tmps[33]?.getD undef = .string st := hf.1 ⟨2, .data⟩ (by simp) rfl _ 33 rfl rfl
        exact wp_enter 53 #[.string st] (.int .i64 (v : Int)) _ (by unfold execOp; go_simp) (HS.out wx) (fun w' h => ⟨rfl, h⟩)
      | 4, ho =>
        obtain rfl := Option.some.inj ho
        have e32 : a.tmps[32]?.getD undef = .int .i64 (C : Int) := hf.1 ⟨1, .data⟩ (by simp) rfl _ 32 rfl rfl
        have e34 : a.tmps[34]?.getD undef = .int .i64 (v : Int) := hf.1 ⟨3, .data⟩ (by simp) rfl _ 34 rfl rfl
        have q1 := HA.out.1.1; have q2 := HA.out.1.2; have q3 := HA.out.2.1; have q4 := HA.out.2.2
        exact wp_value (.int .i64 (meetN C v : Int)) (by unfold execOp; go_simp) ⟨rfl, Below.refl _ _⟩
      | 5, ho =>
        obtain rfl := Option.some.inj ho
        have b7 : a.tmps[7]?.getD undef = .pointer (some ⟨g2, 0, none⟩) := hf.2 7 (by kernel_rfl)
        exact wp_value (.pointer (some ⟨g2, 1, none⟩)) (by unfold execOp; go_simp) ⟨rfl, Below.refl _ _⟩
      | 6, ho => exact absurd hlt (by omega)
      | q + 7, ho => simp at ho
    case stfo =>
      intro a wx hb hf
      have e35 : a.tmps[35]?.getD undef = .int .i64 (meetN C v : Int) := hf.1 ⟨4, .data⟩ (by simp) rfl _ 35 rfl rfl
      have e36 : a.tmps[36]?.getD undef = .pointer (some ⟨g2, 1, none⟩) := hf.1 ⟨5, .data⟩ (by simp) rfl _ 36 rfl rfl
      obtain ⟨c0, c1, c2, c3⟩ := cells2 (HT.out.later hb).o
      exact wp_skip (by unfold execOp; go_simp) ⟨rfl, rfl⟩
    intro w6 hb6
    have HT2 := Lib.hid ((HT.out.later hb6).o1 (meetN C v))
    clear hb6 HT
    simp only [fill, Act.put]
    go_simp
    generalize w6.setCell ⟨g2, 1, none⟩ (.int .i64 (meetN C v : Int)) = w7 at *
    have HT := Lib.hid HT2.out
    clear HT2
    go_wp2_with fail
    have hap := HT.out.apart
    obtain ⟨z0, z1, z2, z3⟩ := cells2 HT.out.z
    obtain ⟨o0, o1, o2, o3⟩ := cells2 HT.out.o
    obtain ⟨p0, p1, p2, p3⟩ := cells2 HT.out.r1
    obtain ⟨q0, q1, q2, q3⟩ := cells2 HT.out.r2
    have hg1 : g1 ≠ B + 1 := by omega
    have hg2 : g2 ≠ B + 1 := by omega
    have hg3 : g1 ≠ B + 2 := by omega
    have hg4 : g2 ≠ B + 2 := by omega
    have HBL : Hid (Below w.heap.size w w7 ∧ w.heap.size = B) := ⟨HT.out.below, hap.2.2.2⟩
    have HR1 := Lib.hid HT.out.r1
    have HR2 : Hid (w7.heap[B + 1 + 1]? = some (.cells #[.int .i64 0, .int .i64 0] 45 (0, 0))) := HT.out.r2
    clear HT hap HS HA HN
    go_region
    obtain ⟨W8, hW8⟩ : ∃ W8, (((((w7.setCell ⟨B + 1, 0, none⟩ (.int .i64 (R : Nat))).setCell ⟨B + 1, 1, none⟩ (.int .i64 (minusN C v : Nat))).setCell ⟨B + 1 + 1, 0, none⟩ (.int .i64 (R : Nat))).setCell ⟨B + 1 + 1, 1, none⟩ (.int .i64 (meetN C v : Nat))).drew) = W8 := ⟨_, rfl⟩
    rw [hW8]
    have HF : Hid (Below w.heap.size w W8 ∧ W8.heap[B + 1]? = some (.cells #[.int .i64 (R : Nat), .int .i64 (minusN C v : Nat)] 45 (0, 0)) ∧ W8.heap[B + 1 + 1]? = some (.cells #[.int .i64 (R : Nat), .int .i64 (meetN C v : Nat)] 45 (0, 0))) := by
      show _ ∧ _ ∧ _
      rw [← hW8]
      obtain ⟨b0, bB⟩ := HBL.out
      have l1 : w.heap.size ≤ B + 1 := by omega
      have l2 : w.heap.size ≤ B + 1 + 1 := by omega
      refine ⟨Below.drew (set_below (set_below (set_below (set_below b0 l1) l1) l2) l2), ?_, ?_⟩
      · exact (set_other (by omega)).trans ((set_other (by omega)).trans (set_row 1 (set_row 0 HR1.out)))
      · exact set_row 1 (set_row 0 ((set_other (by omega)).trans ((set_other (by omega)).trans HR2.out)))
    clear hW8 HR1 HR2 HBL z0 z1 z2 z3 o0 o1 o2 o3 p0 p1 p2 p3 q0 q1 q2 q3
    obtain ⟨p0, p1, p2, p3⟩ := cells2 HF.out.2.1
    obtain ⟨q0, q1, q2, q3⟩ := cells2 HF.out.2.2
    go_wp2_with fail
    refine bodyPost_ret (v := .tuple #[rect (R : Nat) (minusN C v : Nat), rect (R : Nat) (meetN C v : Nat)]) (by simp [results, Tryz.results41, go_sem, p0, p1, q0, q1]) rfl ⟨rfl, HF.out.1⟩
  · have hn : (st[0]'hk).toNat = 65 := HN.out
    go_wp2_with fail
    refine wp_region_last (fun | 0 => .pointer (some ⟨B, 0, none⟩) | 1 => .int .i64 (R : Int) | 2 => .string st | 3 => .int .i64 (v : Int) | 4 => .int .i64 (minusN R v : Int) | 5 => .pointer (some ⟨g1, 0, none⟩) | _ => undef) 6 (fun wx => wx.setCell ⟨g1, 0, none⟩ (.int .i64 (minusN R v : Int))) _ (by kernel_rfl) (by kernel_rfl) rfl rfl rfl rfl (by kernel_rfl) ?contz ?sttz ?entz
    case contz =>
      intro i o ho hlt a wx hb hf
      match i, ho with
      | 0, ho =>
        obtain rfl := Option.some.inj ho
        have b3 : a.tmps[3]?.getD undef = .pointer (some ⟨B, 0, none⟩) := hf.2 3 (by kernel_rfl)
        exact wp_value (.pointer (some ⟨B, 0, none⟩)) (by unfold execOp; go_simp) ⟨rfl, Below.refl _ _⟩
      | 1, ho =>
        obtain rfl := Option.some.inj ho
        have e13 : a.tmps[13]?.getD undef = .pointer (some ⟨B, 0, none⟩) := hf.1 ⟨0, .data⟩ (by simp) rfl _ 13 rfl rfl
        obtain ⟨c0, c1, c2, c3⟩ := cells2 (HT.out.later hb).arg
        exact wp_value (.int .i64 (R : Int)) (by unfold execOp; go_simp) ⟨rfl, Below.refl _ _⟩
      | 2, ho =>
        obtain rfl := Option.some.inj ho
        have b0 : a.tmps[0]?.getD undef = .string st := hf.2 0 (by kernel_rfl)
        exact wp_value (.string st) (by unfold execOp; go_simp) ⟨rfl, Below.refl _ _⟩
      | 3, ho =>
        obtain rfl := Option.some.inj ho
        have e15 : a.tmps[15]?.getD undef = .string st := hf.1 ⟨2, .data⟩ (by simp) rfl _ 15 rfl rfl
        exact wp_enter 53 #[.string st] (.int .i64 (v : Int)) _ (by unfold execOp; go_simp) (HS.out wx) (fun w' h => ⟨rfl, h⟩)
      | 4, ho =>
        obtain rfl := Option.some.inj ho
        have e14 : a.tmps[14]?.getD undef = .int .i64 (R : Int) := hf.1 ⟨1, .data⟩ (by simp) rfl _ 14 rfl rfl
        have e16 : a.tmps[16]?.getD undef = .int .i64 (v : Int) := hf.1 ⟨3, .data⟩ (by simp) rfl _ 16 rfl rfl
        have q1 := HA.out.1.1; have q2 := HA.out.1.2; have q3 := HA.out.2.1; have q4 := HA.out.2.2
        exact wp_value (.int .i64 (minusN R v : Int)) (by unfold execOp; go_simp) ⟨rfl, Below.refl _ _⟩
      | 5, ho =>
        obtain rfl := Option.some.inj ho
        have b6 : a.tmps[6]?.getD undef = .pointer (some ⟨g1, 0, none⟩) := hf.2 6 (by kernel_rfl)
        exact wp_value (.pointer (some ⟨g1, 0, none⟩)) (by unfold execOp; go_simp) ⟨rfl, Below.refl _ _⟩
      | 6, ho => exact absurd hlt (by omega)
      | q + 7, ho => simp at ho
    case sttz =>
      intro a wx hb hf
      have e17 : a.tmps[17]?.getD undef = .int .i64 (minusN R v : Int) := hf.1 ⟨4, .data⟩ (by simp) rfl _ 17 rfl rfl
      have e18 : a.tmps[18]?.getD undef = .pointer (some ⟨g1, 0, none⟩) := hf.1 ⟨5, .data⟩ (by simp) rfl _ 18 rfl rfl
      obtain ⟨c0, c1, c2, c3⟩ := cells2 (HT.out.later hb).z
      exact wp_skip (by unfold execOp; go_simp) ⟨rfl, rfl⟩
    intro w6 hb6
    have HT2 := Lib.hid ((HT.out.later hb6).z0 (minusN R v))
    clear hb6 HT
    simp only [fill, Act.put]
    go_simp
    generalize w6.setCell ⟨g1, 0, none⟩ (.int .i64 (minusN R v : Int)) = w7 at *
    have HT := Lib.hid HT2.out
    clear HT2
    go_wp2_with fail
    refine wp_region_last (fun | 0 => .pointer (some ⟨B, 0, none⟩) | 1 => .int .i64 (R : Int) | 2 => .string st | 3 => .int .i64 (v : Int) | 4 => .int .i64 (meetN R v : Int) | 5 => .pointer (some ⟨g2, 0, none⟩) | _ => undef) 6 (fun wx => wx.setCell ⟨g2, 0, none⟩ (.int .i64 (meetN R v : Int))) _ (by kernel_rfl) (by kernel_rfl) rfl rfl rfl rfl (by kernel_rfl) ?conto ?stto ?ento
    case conto =>
      intro i o ho hlt a wx hb hf
      match i, ho with
      | 0, ho =>
        obtain rfl := Option.some.inj ho
        have b3 : a.tmps[3]?.getD undef = .pointer (some ⟨B, 0, none⟩) := hf.2 3 (by kernel_rfl)
        exact wp_value (.pointer (some ⟨B, 0, none⟩)) (by unfold execOp; go_simp) ⟨rfl, Below.refl _ _⟩
      | 1, ho =>
        obtain rfl := Option.some.inj ho
        have e19 : a.tmps[19]?.getD undef = .pointer (some ⟨B, 0, none⟩) := hf.1 ⟨0, .data⟩ (by simp) rfl _ 19 rfl rfl
        obtain ⟨c0, c1, c2, c3⟩ := cells2 (HT.out.later hb).arg
        exact wp_value (.int .i64 (R : Int)) (by unfold execOp; go_simp) ⟨rfl, Below.refl _ _⟩
      | 2, ho =>
        obtain rfl := Option.some.inj ho
        have b0 : a.tmps[0]?.getD undef = .string st := hf.2 0 (by kernel_rfl)
        exact wp_value (.string st) (by unfold execOp; go_simp) ⟨rfl, Below.refl _ _⟩
      | 3, ho =>
        obtain rfl := Option.some.inj ho
        have e21 : a.tmps[21]?.getD undef = .string st := hf.1 ⟨2, .data⟩ (by simp) rfl _ 21 rfl rfl
        exact wp_enter 53 #[.string st] (.int .i64 (v : Int)) _ (by unfold execOp; go_simp) (HS.out wx) (fun w' h => ⟨rfl, h⟩)
      | 4, ho =>
        obtain rfl := Option.some.inj ho
        have e20 : a.tmps[20]?.getD undef = .int .i64 (R : Int) := hf.1 ⟨1, .data⟩ (by simp) rfl _ 20 rfl rfl
        have e22 : a.tmps[22]?.getD undef = .int .i64 (v : Int) := hf.1 ⟨3, .data⟩ (by simp) rfl _ 22 rfl rfl
        have q1 := HA.out.1.1; have q2 := HA.out.1.2; have q3 := HA.out.2.1; have q4 := HA.out.2.2
        exact wp_value (.int .i64 (meetN R v : Int)) (by unfold execOp; go_simp) ⟨rfl, Below.refl _ _⟩
      | 5, ho =>
        obtain rfl := Option.some.inj ho
        have b7 : a.tmps[7]?.getD undef = .pointer (some ⟨g2, 0, none⟩) := hf.2 7 (by kernel_rfl)
        exact wp_value (.pointer (some ⟨g2, 0, none⟩)) (by unfold execOp; go_simp) ⟨rfl, Below.refl _ _⟩
      | 6, ho => exact absurd hlt (by omega)
      | q + 7, ho => simp at ho
    case stto =>
      intro a wx hb hf
      have e23 : a.tmps[23]?.getD undef = .int .i64 (meetN R v : Int) := hf.1 ⟨4, .data⟩ (by simp) rfl _ 23 rfl rfl
      have e24 : a.tmps[24]?.getD undef = .pointer (some ⟨g2, 0, none⟩) := hf.1 ⟨5, .data⟩ (by simp) rfl _ 24 rfl rfl
      obtain ⟨c0, c1, c2, c3⟩ := cells2 (HT.out.later hb).o
      exact wp_skip (by unfold execOp; go_simp) ⟨rfl, rfl⟩
    intro w6 hb6
    have HT2 := Lib.hid ((HT.out.later hb6).o0 (meetN R v))
    clear hb6 HT
    simp only [fill, Act.put]
    go_simp
    generalize w6.setCell ⟨g2, 0, none⟩ (.int .i64 (meetN R v : Int)) = w7 at *
    have HT := Lib.hid HT2.out
    clear HT2
    go_wp2_with fail
    have hap := HT.out.apart
    obtain ⟨z0, z1, z2, z3⟩ := cells2 HT.out.z
    obtain ⟨o0, o1, o2, o3⟩ := cells2 HT.out.o
    obtain ⟨p0, p1, p2, p3⟩ := cells2 HT.out.r1
    obtain ⟨q0, q1, q2, q3⟩ := cells2 HT.out.r2
    have hg1 : g1 ≠ B + 1 := by omega
    have hg2 : g2 ≠ B + 1 := by omega
    have hg3 : g1 ≠ B + 2 := by omega
    have hg4 : g2 ≠ B + 2 := by omega
    have HBL : Hid (Below w.heap.size w w7 ∧ w.heap.size = B) := ⟨HT.out.below, hap.2.2.2⟩
    have HR1 := Lib.hid HT.out.r1
    have HR2 : Hid (w7.heap[B + 1 + 1]? = some (.cells #[.int .i64 0, .int .i64 0] 45 (0, 0))) := HT.out.r2
    clear HT hap HS HA HN
    go_region
    obtain ⟨W8, hW8⟩ : ∃ W8, (((((w7.setCell ⟨B + 1, 0, none⟩ (.int .i64 (minusN R v : Nat))).setCell ⟨B + 1, 1, none⟩ (.int .i64 (C : Nat))).setCell ⟨B + 1 + 1, 0, none⟩ (.int .i64 (meetN R v : Nat))).setCell ⟨B + 1 + 1, 1, none⟩ (.int .i64 (C : Nat))).drew) = W8 := ⟨_, rfl⟩
    rw [hW8]
    have HF : Hid (Below w.heap.size w W8 ∧ W8.heap[B + 1]? = some (.cells #[.int .i64 (minusN R v : Nat), .int .i64 (C : Nat)] 45 (0, 0)) ∧ W8.heap[B + 1 + 1]? = some (.cells #[.int .i64 (meetN R v : Nat), .int .i64 (C : Nat)] 45 (0, 0))) := by
      show _ ∧ _ ∧ _
      rw [← hW8]
      obtain ⟨b0, bB⟩ := HBL.out
      have l1 : w.heap.size ≤ B + 1 := by omega
      have l2 : w.heap.size ≤ B + 1 + 1 := by omega
      refine ⟨Below.drew (set_below (set_below (set_below (set_below b0 l1) l1) l2) l2), ?_, ?_⟩
      · exact (set_other (by omega)).trans ((set_other (by omega)).trans (set_row 1 (set_row 0 HR1.out)))
      · exact set_row 1 (set_row 0 ((set_other (by omega)).trans ((set_other (by omega)).trans HR2.out)))
    clear hW8 HR1 HR2 HBL z0 z1 z2 z3 o0 o1 o2 o3 p0 p1 p2 p3 q0 q1 q2 q3
    obtain ⟨p0, p1, p2, p3⟩ := cells2 HF.out.2.1
    obtain ⟨q0, q1, q2, q3⟩ := cells2 HF.out.2.2
    go_wp2_with fail
    refine bodyPost_ret (v := .tuple #[rect (minusN R v : Nat) (C : Nat), rect (meetN R v : Nat) (C : Nat)]) (by simp [results, Tryz.results41, go_sem, p0, p1, q0, q1]) rfl ⟨rfl, HF.out.1⟩
end Go.Proofs.YtbbgibbpeibhiaaGreatDoor.Split

