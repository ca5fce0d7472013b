/-
  Texts of one seat, joined: FreeC4, LeavesI, LeafRectsI.
-/
import Derived.Test.YtgfhahlkffagaaaFreeW
import Derived.Test.YtgfhahlkffagaaaLeaf
import Derived.Test.YtgfhahlkffagaaaTrimI
import Derived.Test.YtgfhahlkffagaaaTreeIn
/-
  A region that draws its order, with four operations that come one after another (each takes what the one before gives, or is chained to it); the others read or only make memory: each walked once.
-/
namespace Go.Proofs.Ytgfhahlkffagaaa.FreeC4
open Go Go.RowKit Go.Proofs.Ytgfhahlkffagaaa.Free Go.Proofs.Ytgfhahlkffagaaa.FreeT Go.Proofs.Ytgfhahlkffagaaa.FreeW
set_option linter.unusedVariables false

section
variable {P : Program} {ops : Array Oper}

set_option maxHeartbeats 2000000 in
theorem wp_region_chain4 {id n : Nat} {a0 : Act} {w0 : World} {Q : Exit → Act → World → Prop} (con : Nat → Value) (kn : Nat → Bool) (s1 s2 s3 s4 d1 d2 d3 d4 : Nat) (o1 o2 o3 o4 : Oper)
    (I0 : World → Prop) (I1 : Value → World → Prop) (I2 : Value → Value → World → Prop) (I3 : Value → World → Prop) (I4 : Value → World → Prop) (J : World → Prop)
    (hm : P.follows .mixedOrders = true) (hB : freeB ops n = true) (hn : a0.tmps.size = n)
    (hs1 : ops[s1]? = some o1) (hd1 : o1.dst = some d1) (hs2 : ops[s2]? = some o2) (hd2 : o2.dst = some d2) (hs3 : ops[s3]? = some o3) (hd3 : o3.dst = some d3) (hs4 : ops[s4]? = some o4) (hd4 : o4.dst = some d4)
    (hk : kn = fun i => !(i == s1) && !(i == s2) && !(i == s3) && !(i == s4)) (hne : [s1, s2, s3, s4].Nodup) (hdd : [d1, d2, d3, d4].Nodup)
    (hdep12 : (∃ e ∈ o2.after, Region.binds .any e = true ∧ e.on = s1) ∨ ∃ (m : Nat) (om : Oper), ops[m]? = some om ∧ (∃ e ∈ o2.after, Region.binds .any e = true ∧ e.on = m) ∧ ∃ e ∈ om.after, Region.binds .any e = true ∧ e.on = s1) (hdep23 : ∃ e ∈ o3.after, Region.binds .any e = true ∧ e.on = s2) (hdep34 : ∃ e ∈ o4.after, Region.binds .any e = true ∧ e.on = s3)
    (hoth : ∀ (i : Nat) (o : Oper), ops[i]? = some o → kn i = true → o.dst ≠ some d1 ∧ o.dst ≠ some d2 ∧ o.dst ≠ some d3 ∧ o.dst ≠ some d4)
    (h0 : I0 { w0 with drawn := w0.drawn + 1 })
    (J0 : ∀ w, I0 w → J w) (J1 : ∀ v w, I1 v w → J w) (J2 : ∀ v u w, I2 v u w → J w) (J3 : ∀ t w, I3 t w → J w) (J4 : ∀ t w, I4 t w → J w)
    (L0 : ∀ w w', Below w.heap.size w w' → I0 w → I0 w') (L1 : ∀ v w w', Below w.heap.size w w' → I1 v w → I1 v w') (L2 : ∀ v u w w', Below w.heap.size w w' → I2 v u w → I2 v u w') (L3 : ∀ t w w', Below w.heap.size w w' → I3 t w → I3 t w') (L4 : ∀ t w w', Below w.heap.size w w' → I4 t w → I4 t w')
    (hcon : ∀ (i : Nat) (o : Oper), ops[i]? = some o → kn i = true → ∀ (a : Act) (w : World), J w → FactsA ops a0 con kn o a →
      o.wp P a w (fun a' w' => a' = a.put o.dst (con i) ∧ Below w.heap.size w w') Q)
    (h1 : ∀ (a : Act) (w : World), I0 w → FactsA ops a0 con kn o1 a → o1.wp P a w (fun a' w' => ∃ v, a' = a.put o1.dst v ∧ I1 v w') Q)
    (h2 : ∀ (a : Act) (w : World) (v : Value), I1 v w → a.tmps[d1]? = some v → FactsA ops a0 con kn o2 a → o2.wp P a w (fun a' w' => ∃ u, a' = a.put o2.dst u ∧ I2 v u w') Q)
    (h3 : ∀ (a : Act) (w : World) (v u : Value), I2 v u w → a.tmps[d1]? = some v → a.tmps[d2]? = some u → FactsA ops a0 con kn o3 a → o3.wp P a w (fun a' w' => ∃ t, a' = a.put o3.dst t ∧ I3 t w') Q)
    (h4 : ∀ (a : Act) (w : World) (t : Value), I3 t w → a.tmps[d3]? = some t → FactsA ops a0 con kn o4 a → o4.wp P a w (fun a' w' => ∃ x, a' = a.put o4.dst x ∧ I4 x w') Q)
    (hend : ∀ (v u t x : Value) (w : World), I4 x w → Q .normal (fill ops.toList (fun i => if i = s1 then v else if i = s2 then u else if i = s3 then t else if i = s4 then x else con i) 0 a0) w) : (Code.region id ops true).wp P Q a0 w0 := by
  have hB2 := hB
  simp only [freeB, Bool.and_eq_true, decide_eq_true_eq] at hB2
  obtain ⟨⟨q1, q2⟩, _⟩ := hB2
  have hdn : ∀ (o : Oper) (k : Tmp), o ∈ ops.toList → o.dst = some k → k < n := fun o k ho hk => by
    have := List.all_eq_true.1 q1 o ho
    simp only [Bool.and_eq_true, hk] at this
    simpa using this.2
  have hd1n : d1 < n := hdn o1 d1 (by simpa using Array.mem_of_getElem? hs1) hd1
  have hd2n : d2 < n := hdn o2 d2 (by simpa using Array.mem_of_getElem? hs2) hd2
  have hd3n : d3 < n := hdn o3 d3 (by simpa using Array.mem_of_getElem? hs3) hd3
  have hd4n : d4 < n := hdn o4 d4 (by simpa using Array.mem_of_getElem? hs4) hd4
  obtain ⟨n12, n13, n14, n23, n24, n34⟩ : s1 ≠ s2 ∧ s1 ≠ s3 ∧ s1 ≠ s4 ∧ s2 ≠ s3 ∧ s2 ≠ s4 ∧ s3 ≠ s4 := by
    simp only [List.nodup_cons, List.mem_cons, List.not_mem_nil, or_false, not_or] at hne
    exact ⟨hne.1.1, hne.1.2.1, hne.1.2.2, hne.2.1.1, hne.2.1.2, hne.2.2.1⟩
  obtain ⟨m12, m13, m14, m23, m24, m34⟩ : d1 ≠ d2 ∧ d1 ≠ d3 ∧ d1 ≠ d4 ∧ d2 ≠ d3 ∧ d2 ≠ d4 ∧ d3 ≠ d4 := by
    simp only [List.nodup_cons, List.mem_cons, List.not_mem_nil, or_false, not_or] at hdd
    exact ⟨hdd.1.1, hdd.1.2.1, hdd.1.2.2, hdd.2.1.1, hdd.2.1.2, hdd.2.2.1⟩
  have hkt : ∀ i, kn i = true ↔ i ≠ s1 ∧ i ≠ s2 ∧ i ≠ s3 ∧ i ≠ s4 := fun i => by
    rw [hk]; simp [and_assoc]
  let Y : Nat → Value → Act → World → Prop := fun i v a w => kn i = true → v = con i
  let S : (Nat → Bool) → Act → World → Prop := fun g a w =>
    (g s1 = false ∧ g s2 = false ∧ g s3 = false ∧ g s4 = false ∧ I0 w) ∨
    (g s1 = true ∧ g s2 = false ∧ g s3 = false ∧ g s4 = false ∧ ∃ v, a.tmps[d1]? = some v ∧ I1 v w) ∨
    (g s1 = true ∧ g s2 = true ∧ g s3 = false ∧ g s4 = false ∧ ∃ v u, a.tmps[d1]? = some v ∧ a.tmps[d2]? = some u ∧ I2 v u w) ∨
    (g s1 = true ∧ g s2 = true ∧ g s3 = true ∧ g s4 = false ∧ ∃ t, a.tmps[d3]? = some t ∧ I3 t w) ∨
    (g s1 = true ∧ g s2 = true ∧ g s3 = true ∧ g s4 = true ∧ ∃ x, a.tmps[d4]? = some x ∧ I4 x w)
  have facts : ∀ (listed : Array Bool) (o : Oper) (a : Act) (w : World), MidA ops a0 Y S listed a w → (∀ e ∈ o.after, Region.binds .any e = true → listed.getD e.on false = true) → FactsA ops a0 con kn o a := by
    intro listed o a w hM hdl
    refine ⟨fun e he hb oj dj hoj hdj hkn => ?_, fun k hk => ?_⟩
    · obtain ⟨v, hv, hvd⟩ := hM.new e.on oj hoj (hdl e he hb)
      rw [hvd dj hdj, ← hv hkn]
      rfl
    · rw [hM.old k fun i o' ho' hd' => ?_]
      have := List.all_eq_true.1 hk o' (by simpa using Array.mem_of_getElem? ho')
      simp [hd'] at this
  refine wp_region_freeA (Y := Y) (S := S) hm hB hn (.inl ⟨rfl, rfl, rfl, rfl, h0⟩) ?_ ?_
  · intro i o ho listed a w hM hu hdl
    have hF := facts listed o a w hM hdl
    have hW := hM.world
    have hsz : a.tmps.size = n := hM.size.trans hn
    have hput : ∀ (d : Nat) (v : Value), d < n → (a.put (some d) v).tmps[d]? = some v := fun d v hd => by simp [Act.put, hsz, hd]
    by_cases e1 : i = s1
    · subst e1
      obtain rfl : o = o1 := Option.some.inj (ho.symm.trans hs1)
      rcases hW with ⟨l1, l2, l3, l4, hI⟩ | ⟨l1, _⟩ | ⟨l1, _⟩ | ⟨l1, _⟩ | ⟨l1, _⟩
      · refine Oper.wp_mono ?_ (h1 a w hI hF)
        rintro a' w' ⟨v, rfl, hv⟩
        refine ⟨v, rfl, fun h => absurd rfl ((hkt _).1 h).1, .inr (.inl ⟨by simp, ?_, ?_, ?_, v, by rw [hd1]; exact hput d1 v hd1n, hv⟩), fun j u _ _ hY => hY⟩
        · show (if s2 = i then true else listed.getD s2 false) = false
          rw [if_neg (Ne.symm n12)]; exact l2
        · show (if s3 = i then true else listed.getD s3 false) = false
          rw [if_neg (Ne.symm n13)]; exact l3
        · show (if s4 = i then true else listed.getD s4 false) = false
          rw [if_neg (Ne.symm n14)]; exact l4
      all_goals
        have l1' : listed.getD i false = true := l1
        rw [hu] at l1'
        cases l1'
    by_cases e2 : i = s2
    · subst e2
      obtain rfl : o = o2 := Option.some.inj (ho.symm.trans hs2)
      have hl1 : listed.getD s1 false = true := by
        rcases hdep12 with ⟨e, he, hb, heq⟩ | ⟨m, om, hm', ⟨e, he, hb, heq⟩, e', he', hb', heq'⟩
        · have h := hdl e he hb
          rw [heq] at h
          exact h
        · have h := hdl e he hb
          rw [heq] at h
          have h' := hM.closed m om hm' h e' he' hb'
          rw [heq'] at h'
          exact h'
      rcases hW with ⟨l1, _⟩ | ⟨l1, l2, l3, l4, v, hv, hI⟩ | ⟨l1, l2, _⟩ | ⟨l1, l2, _⟩ | ⟨l1, l2, _⟩
      · have l1' : listed.getD s1 false = false := l1
        rw [hl1] at l1'
        cases l1'
      · refine Oper.wp_mono ?_ (h2 a w v hI hv hF)
        rintro a' w' ⟨u, rfl, hu'⟩
        refine ⟨u, rfl, fun h => absurd rfl ((hkt _).1 h).2.1, .inr (.inr (.inl ⟨?_, by simp, ?_, ?_, v, u, ?_, by rw [hd2]; exact hput d2 u hd2n, hu'⟩)), fun j u _ _ hY => hY⟩
        · show (if s1 = i then true else listed.getD s1 false) = true
          rw [if_neg n12]; exact hl1
        · show (if s3 = i then true else listed.getD s3 false) = false
          rw [if_neg (Ne.symm n23)]; exact l3
        · show (if s4 = i then true else listed.getD s4 false) = false
          rw [if_neg (Ne.symm n24)]; exact l4
        · rw [put_other (by rw [hd2]; simp; omega)]; exact hv
      all_goals
        have l2' : listed.getD i false = true := l2
        rw [hu] at l2'
        cases l2'
    by_cases e3 : i = s3
    · subst e3
      obtain rfl : o = o3 := Option.some.inj (ho.symm.trans hs3)
      obtain ⟨e, he, hb, heq⟩ := hdep23
      have hl2 := hdl e he hb
      rw [heq] at hl2
      rcases hW with ⟨l1, l2, _⟩ | ⟨l1, l2, _⟩ | ⟨l1, l2, l3, l4, v, u, hv, hu2, hI⟩ | ⟨l1, l2, l3, _⟩ | ⟨l1, l2, l3, _⟩
      · have l2' : listed.getD s2 false = false := l2
        rw [hl2] at l2'
        cases l2'
      · have l2' : listed.getD s2 false = false := l2
        rw [hl2] at l2'
        cases l2'
      · refine Oper.wp_mono ?_ (h3 a w v u hI hv hu2 hF)
        rintro a' w' ⟨t, rfl, ht⟩
        refine ⟨t, rfl, fun h => absurd rfl ((hkt _).1 h).2.2.1, .inr (.inr (.inr (.inl ⟨?_, ?_, by simp, ?_, t, by rw [hd3]; exact hput d3 t hd3n, ht⟩))), fun j u _ _ hY => hY⟩
        · show (if s1 = i then true else listed.getD s1 false) = true
          rw [if_neg n13]; exact l1
        · show (if s2 = i then true else listed.getD s2 false) = true
          rw [if_neg n23]; exact hl2
        · show (if s4 = i then true else listed.getD s4 false) = false
          rw [if_neg (Ne.symm n34)]; exact l4
      all_goals
        have l3' : listed.getD i false = true := l3
        rw [hu] at l3'
        cases l3'
    by_cases e4 : i = s4
    · subst e4
      obtain rfl : o = o4 := Option.some.inj (ho.symm.trans hs4)
      obtain ⟨e, he, hb, heq⟩ := hdep34
      have hl3 := hdl e he hb
      rw [heq] at hl3
      rcases hW with ⟨l1, l2, l3, _⟩ | ⟨l1, l2, l3, _⟩ | ⟨l1, l2, l3, _⟩ | ⟨l1, l2, l3, l4, t, ht, hI⟩ | ⟨l1, l2, l3, l4, _⟩
      · have l3' : listed.getD s3 false = false := l3
        rw [hl3] at l3'
        cases l3'
      · have l3' : listed.getD s3 false = false := l3
        rw [hl3] at l3'
        cases l3'
      · have l3' : listed.getD s3 false = false := l3
        rw [hl3] at l3'
        cases l3'
      · refine Oper.wp_mono ?_ (h4 a w t hI ht hF)
        rintro a' w' ⟨x, rfl, hx⟩
        refine ⟨x, rfl, fun h => absurd rfl ((hkt _).1 h).2.2.2, .inr (.inr (.inr (.inr ⟨?_, ?_, ?_, by simp, x, by rw [hd4]; exact hput d4 x hd4n, hx⟩))), fun j u _ _ hY => hY⟩
        · show (if s1 = i then true else listed.getD s1 false) = true
          rw [if_neg n14]; exact l1
        · show (if s2 = i then true else listed.getD s2 false) = true
          rw [if_neg n24]; exact l2
        · show (if s3 = i then true else listed.getD s3 false) = true
          rw [if_neg n34]; exact hl3
      · have l4' : listed.getD i false = true := l4
        rw [hu] at l4'
        cases l4'
    have hki : kn i = true := (hkt i).2 ⟨e1, e2, e3, e4⟩
    obtain ⟨x1, x2, x3, x4⟩ := hoth i o ho hki
    have hJ : J w := by
      rcases hW with ⟨_, _, _, _, hI⟩ | ⟨_, _, _, _, v, _, hI⟩ | ⟨_, _, _, _, v, u, _, _, hI⟩ | ⟨_, _, _, _, t, _, hI⟩ | ⟨_, _, _, _, t, _, hI⟩
      · exact J0 w hI
      · exact J1 v w hI
      · exact J2 v u w hI
      · exact J3 t w hI
      · exact J4 t w hI
    refine Oper.wp_mono ?_ (hcon i o ho hki a w hJ hF)
    rintro a' w' ⟨rfl, hbl⟩
    refine ⟨con i, rfl, fun _ => rfl, ?_, fun j u _ _ hY => hY⟩
    have g1 : (if s1 = i then true else listed.getD s1 false) = listed.getD s1 false := if_neg (Ne.symm e1)
    have g2 : (if s2 = i then true else listed.getD s2 false) = listed.getD s2 false := if_neg (Ne.symm e2)
    have g3 : (if s3 = i then true else listed.getD s3 false) = listed.getD s3 false := if_neg (Ne.symm e3)
    have g4 : (if s4 = i then true else listed.getD s4 false) = listed.getD s4 false := if_neg (Ne.symm e4)
    show ((if s1 = i then true else listed.getD s1 false) = false ∧ (if s2 = i then true else listed.getD s2 false) = false ∧ (if s3 = i then true else listed.getD s3 false) = false ∧ (if s4 = i then true else listed.getD s4 false) = false ∧ I0 w') ∨
      ((if s1 = i then true else listed.getD s1 false) = true ∧ (if s2 = i then true else listed.getD s2 false) = false ∧ (if s3 = i then true else listed.getD s3 false) = false ∧ (if s4 = i then true else listed.getD s4 false) = false ∧ ∃ v, (a.put o.dst (con i)).tmps[d1]? = some v ∧ I1 v w') ∨
      ((if s1 = i then true else listed.getD s1 false) = true ∧ (if s2 = i then true else listed.getD s2 false) = true ∧ (if s3 = i then true else listed.getD s3 false) = false ∧ (if s4 = i then true else listed.getD s4 false) = false ∧ ∃ v u, (a.put o.dst (con i)).tmps[d1]? = some v ∧ (a.put o.dst (con i)).tmps[d2]? = some u ∧ I2 v u w') ∨
      ((if s1 = i then true else listed.getD s1 false) = true ∧ (if s2 = i then true else listed.getD s2 false) = true ∧ (if s3 = i then true else listed.getD s3 false) = true ∧ (if s4 = i then true else listed.getD s4 false) = false ∧ ∃ t, (a.put o.dst (con i)).tmps[d3]? = some t ∧ I3 t w') ∨
      ((if s1 = i then true else listed.getD s1 false) = true ∧ (if s2 = i then true else listed.getD s2 false) = true ∧ (if s3 = i then true else listed.getD s3 false) = true ∧ (if s4 = i then true else listed.getD s4 false) = true ∧ ∃ x, (a.put o.dst (con i)).tmps[d4]? = some x ∧ I4 x w')
    rw [g1, g2, g3, g4, put_other x1, put_other x2, put_other x3, put_other x4]
    rcases hW with ⟨l1, l2, l3, l4, hI⟩ | ⟨l1, l2, l3, l4, v, hv, hI⟩ | ⟨l1, l2, l3, l4, v, u, hv, hu2, hI⟩ | ⟨l1, l2, l3, l4, t, ht, hI⟩ | ⟨l1, l2, l3, l4, t, ht, hI⟩
    · exact .inl ⟨l1, l2, l3, l4, L0 w w' hbl hI⟩
    · exact .inr (.inl ⟨l1, l2, l3, l4, v, hv, L1 v w w' hbl hI⟩)
    · exact .inr (.inr (.inl ⟨l1, l2, l3, l4, v, u, hv, hu2, L2 v u w w' hbl hI⟩))
    · exact .inr (.inr (.inr (.inl ⟨l1, l2, l3, l4, t, ht, L3 t w w' hbl hI⟩)))
    · exact .inr (.inr (.inr (.inr ⟨l1, l2, l3, l4, t, ht, L4 t w w' hbl hI⟩)))
  · intro vs w hS hall
    have hlt : ∀ (s : Nat) (o : Oper), ops[s]? = some o → decide (s < ops.size) = true := fun s o h => decide_eq_true (Array.getElem?_eq_some_iff.1 h).1
    have f4 : (fill ops.toList vs 0 a0).tmps[d4]? = some (vs s4) := by rw [fill_at d4 ops.toList vs 0 a0 s4 o4 (by simpa using hs4) hd4 q2 (by rw [hn]; exact hd4n), Nat.zero_add]
    rcases hS with ⟨l1, _⟩ | ⟨_, l2, _⟩ | ⟨_, _, l3, _⟩ | ⟨_, _, _, l4, _⟩ | ⟨_, _, _, _, x, hx, hI⟩
    · have l1' : decide (s1 < ops.size) = false := l1
      rw [hlt s1 o1 hs1] at l1'
      cases l1'
    · have l2' : decide (s2 < ops.size) = false := l2
      rw [hlt s2 o2 hs2] at l2'
      cases l2'
    · have l3' : decide (s3 < ops.size) = false := l3
      rw [hlt s3 o3 hs3] at l3'
      cases l3'
    · have l4' : decide (s4 < ops.size) = false := l4
      rw [hlt s4 o4 hs4] at l4'
      cases l4'
    · rw [f4] at hx
      obtain rfl := Option.some.inj hx
      have hc := hend (vs s1) (vs s2) (vs s3) (vs s4) w hI
      rw [fill_congr ops.toList vs (fun i => if i = s1 then vs s1 else if i = s2 then vs s2 else if i = s3 then vs s3 else if i = s4 then vs s4 else con i) 0 a0 (fun i hi => ?_)]
      · exact hc
      · rw [Nat.zero_add]
        show vs i = if i = s1 then vs s1 else if i = s2 then vs s2 else if i = s3 then vs s3 else if i = s4 then vs s4 else con i
        by_cases e1 : i = s1
        · rw [if_pos e1, e1]
        by_cases e2 : i = s2
        · rw [if_neg e1, if_pos e2, e2]
        by_cases e3 : i = s3
        · rw [if_neg e1, if_neg e2, if_pos e3, e3]
        by_cases e4 : i = s4
        · rw [if_neg e1, if_neg e2, if_neg e3, if_pos e4, e4]
        rw [if_neg e1, if_neg e2, if_neg e3, if_neg e4]
        have hi' : i < ops.size := by simpa using hi
        exact hall i ops[i] (by simp [hi']) ((hkt i).2 ⟨e1, e2, e3, e4⟩)
end
end Go.Proofs.Ytgfhahlkffagaaa.FreeC4

/-
  The ends that the inputs of a rectangle reach, of the program's trees.
-/
namespace Go.Proofs.Ytgfhahlkffagaaa.LeavesI
open Go.RowKit Go.Shelf Go.Proofs.Ytgfhahlkffagaaa.Plain Go.Proofs.Ytgfhahlkffagaaa.Tree Go.Proofs.Ytgfhahlkffagaaa.Read Go.Proofs.Ytgfhahlkffagaaa.Rect Go.Proofs.Ytgfhahlkffagaaa.TurnC Go.Proofs.Ytgfhahlkffagaaa.TrimT Go.Proofs.Ytgfhahlkffagaaa.PartC Go.Proofs.Ytgfhahlkffagaaa.App Go.Proofs.Ytgfhahlkffagaaa.Leaf
open Go.Proofs.Ytgfhahlkffagaaa.NodeH (eval_get)
open Go.Proofs.Ytgfhahlkffagaaa.TrimI (cells2 info_rect some_no some_yes)
open Go.Proofs.Ytgfhahlkffagaaa.Count (cells4)
open Go.Proofs.Ytgfhahlkffagaaa.Wq (drew_at)
open Go.Proofs.Ytgfhahlkffagaaa.Free (fill wp_value wp_enter wp_load_row freeB)
open Go.Proofs.Ytgfhahlkffagaaa.FreeC4 Go.Proofs.Ytgfhahlkffagaaa.FreeW
set_option linter.unusedVariables false
set_option maxRecDepth 100000
set_option linter.unusedSimpArgs false

theorem info_l : ∃ i, Try.prog.info? 69 = some i ∧ i.zero = some (.agg #[.int .i64 0, .int .i64 0, .int .i64 0]) ∧ i.size = 3 ∧ i.bytes = 24 := ⟨_, rfl, rfl, rfl, rfl⟩
theorem get_some {a : Act} {d : Tmp} {v : Value} (h : a.tmps[d]? = some v) : a.tmps[d]?.getD undef = v := by rw [h]; rfl
theorem wp_enterR {o : Oper} {a : Act} {w : World} {K : Act → World → Prop} {Q : Exit → Act → World → Prop} {R : Value → World → Prop} (f : FuncId) (args : Array Value) (h : (execOp a.eval o).run Try.prog w = .ok (.enter f args) w)
    (hc : Calls Try.prog f args w fun e w' => ∃ v, e = .returned v ∧ R v w') (hK : ∀ v w', R v w' → K (a.put o.dst v) w') : o.wp Try.prog a w K Q := by
  unfold Oper.wp
  rw [h]
  refine Calls.mono hc ?_
  rintro e w' ⟨v, rfl, hR⟩
  exact hK v w' hR
def LeavesC (t : T) (f : FuncId) (V : Value) : Prop := ∀ (R C : Nat) (W : World), R < 256 → C < 256 → Calls Try.prog f #[V, rect R C] W fun e w' => ∃ v, e = .returned v ∧ Own W w' 69 3 v (leavesT t R C).length (cellsL (leavesT t R C))

set_option maxHeartbeats 2000000 in
set_option maxRecDepth 100000 in
theorem end_leaves (b : Bool) : LeavesC (.leaf b) 89 (.int .i64 (bitI b)) := by
  intro R C w hR hC
  have hb0 := (Below.refl w.heap.size w).alloc (Nat.le_refl _) (.cells #[.int .i64 (R : Int), .int .i64 (C : Int)] 23)
  have HB0 := Lib.hid hb0
  clear hb0
  by_cases h0 : R = 0 ∨ C = 0
  · rw [leaves_none _ R C h0]
    go_enter Try.func89, Try.ntmps89
    go_wp2_with fail
    refine (rect_any _ _ _).mono ?_
    rintro e w1 ⟨rfl, hb1⟩
    rw [some_no h0]
    have HB1 := Lib.hid (HB0.out.trans (hb1.mono HB0.out.size))
    clear hb1 HB0
    go_wp2_with fail
    go_ret
    exact ⟨.slice none 0 0, rfl, ⟨⟨by simp [cellsL], .inl ⟨rfl, rfl⟩⟩, HB1.out⟩⟩
  · have hl : leavesT (.leaf b) R C = [(R, C, b)] := by simp only [leavesT]; rw [if_neg h0]
    rw [hl]
    go_enter Try.func89, Try.ntmps89
    go_wp2_with fail
    refine (rect_any _ _ _).mono ?_
    rintro e w1 ⟨rfl, hb1⟩
    rw [some_yes (by omega) hR (by omega) hC]
    have g0 := heap_alloc_new w (.cells #[.int .i64 (R : Int), .int .i64 (C : Int)] 23)
    have g1 : w1.heap[w.heap.size]? = some (.cells #[.int .i64 (R : Int), .int .i64 (C : Int)] 23 (0, 0)) := (hb1.block _ (Array.getElem?_eq_some_iff.1 g0).1).trans g0
    obtain ⟨c0, c1⟩ := cells2 g1
    have HB1 := Lib.hid (HB0.out.trans (hb1.mono HB0.out.size))
    have HOn : Hid (Own w (w1.alloc (.cells #[.int .i64 (R : Int), .int .i64 (C : Int), .int .i64 (bitI b)] 69)) 69 3 (.slice (some ⟨w1.heap.size, 0, none⟩) 1 1) 1 [.int .i64 (R : Int), .int .i64 (C : Int), .int .i64 (bitI b)]) := by
      have h1 := World.ownsRow_lit (base := w.heap.size) (e := 69) (size := 3) w1 #[.int .i64 (R : Int), .int .i64 (C : Int), .int .i64 (bitI b)] 1 HB1.out.size (by unfold maxLen; omega) rfl
      exact ⟨h1, HB1.out.alloc HB1.out.size _⟩
    clear hb1 HB0 g0 g1 HB1 hl h0
    go_wp2_with fail
    go_ret
    exact ⟨_, rfl, HOn.out⟩

set_option maxHeartbeats 8000000 in
set_option maxRecDepth 100000 in
theorem say_leaves (a : Bool) (s : Nat) (z o : T) (hl : (text (.say a s z o)).length ≤ 2000) (hZ : Go.Proofs.Ytgfhahlkffagaaa.Count.Node 89 96 z (LeavesC z)) (hO : Go.Proofs.Ytgfhahlkffagaaa.Count.Node 89 96 o (LeavesC o)) :
    LeavesC (.say a s z o) 96 (.agg #[.int .u8 ((whoB a).toNat : Int), .int .i64 (s : Int), tree z, tree o]) := by
  intro R C w hR hC
  obtain ⟨h1, h2, h3, h4⟩ := parts_lt a s hR hC
  have hlz : (text (.say a s z o)).length = (text z).length + (text o).length + 3 := by simp [text]
  unfold LeavesC Go.Proofs.Ytgfhahlkffagaaa.Count.Node at hZ hO
  have HPo := Lib.hid fun (t1 t2 : TypeId) (v1 v2 : Value) (W : World) => part_out a s R C hR hC t1 t2 v1 v2 W
  have HPi := Lib.hid fun (t1 t2 : TypeId) (v1 v2 : Value) (W : World) => part_in a s R C hR hC t1 t2 v1 v2 W
  have lz := Nat.le_trans (leaves_length z (outR a s R) (outC a s C)) (show _ ≤ 2000 by omega)
  have lo := Nat.le_trans (leaves_length o (inR a s R) (inC a s C)) (show _ ≤ 2000 by omega)
  have HRes : Hid (leavesT (.say a s z o) R C = leavesT z (outR a s R) (outC a s C) ++ leavesT o (inR a s R) (inC a s C)) := rfl
  have lm := cellsL_length (leavesT o (inR a s R) (inC a s C))
  have o1 := cellsL_one (leavesT o (inR a s R) (inC a s C))
  have hZ2 : (∃ V, tree z = .iface 67 V ∧ ∀ W : World, Calls Try.prog 89 #[V, rect (outR a s R) (outC a s C)] W fun e w' => ∃ v, e = .returned v ∧ Own W w' 69 3 v (leavesT z (outR a s R) (outC a s C)).length (cellsL (leavesT z (outR a s R) (outC a s C)))) ∨
      (∃ V, tree z = .iface 78 V ∧ ∀ W : World, Calls Try.prog 96 #[V, rect (outR a s R) (outC a s C)] W fun e w' => ∃ v, e = .returned v ∧ Own W w' 69 3 v (leavesT z (outR a s R) (outC a s C)).length (cellsL (leavesT z (outR a s R) (outC a s C)))) := by
    rcases hZ with ⟨V, e, h⟩ | ⟨V, e, h⟩
    · exact .inl ⟨V, e, fun W => h _ _ W h1 h2⟩
    · exact .inr ⟨V, e, fun W => h _ _ W h1 h2⟩
  have hO2 : (∃ V, tree o = .iface 67 V ∧ ∀ W : World, Calls Try.prog 89 #[V, rect (inR a s R) (inC a s C)] W fun e w' => ∃ v, e = .returned v ∧ Own W w' 69 3 v (leavesT o (inR a s R) (inC a s C)).length (cellsL (leavesT o (inR a s R) (inC a s C)))) ∨
      (∃ V, tree o = .iface 78 V ∧ ∀ W : World, Calls Try.prog 96 #[V, rect (inR a s R) (inC a s C)] W fun e w' => ∃ v, e = .returned v ∧ Own W w' 69 3 v (leavesT o (inR a s R) (inC a s C)).length (cellsL (leavesT o (inR a s R) (inC a s C)))) := by
    rcases hO with ⟨V, e, h⟩ | ⟨V, e, h⟩
    · exact .inl ⟨V, e, fun W => h _ _ W h3 h4⟩
    · exact .inr ⟨V, e, fun W => h _ _ W h3 h4⟩
  generalize leavesT (.say a s z o) R C = LA at *
  generalize leavesT z (outR a s R) (outC a s C) = LZ at *
  generalize leavesT o (inR a s R) (inC a s C) = LO at *
  generalize outR a s R = oR at *
  generalize outC a s C = oC at *
  generalize inR a s R = iR at *
  generalize inC a s C = iC at *
  generalize ((whoB a).toNat : Int) = wh at *
  obtain ⟨i0, hi, hz0, hz1, hz2⟩ := info_l
  have LM := Lib.hid lm
  have O1 := Lib.hid o1
  clear hl hlz hR hC hZ hO h1 h2 h3 h4 lm o1
  obtain ⟨B, hB⟩ : ∃ B, w.heap.size = B := ⟨_, rfl⟩
  have HBB := Lib.hid hB
  rcases hZ2 with ⟨V, ez, hz⟩ | ⟨V, ez, hz⟩ <;> rcases hO2 with ⟨U, eo, ho⟩ | ⟨U, eo, ho⟩
  · have HZ := Lib.hid hz
    have HO := Lib.hid ho
    rw [ez, eo]
    clear ez eo hz ho
    go_enter Try.func96, Try.ntmps96
    go_wp2_with fail
    obtain ⟨W1, hW1⟩ : ∃ W1, (w.alloc (.cells #[.int .u8 wh, .int .i64 (s : Int), .iface 67 V, .iface 67 U] 78)).alloc (.cells #[.int .i64 (R : Int), .int .i64 (C : Int)] 23) = W1 := ⟨_, rfl⟩
    rw [hW1]
    have HWW : Hid (Below w.heap.size w W1) := by
      have h0 : Below w.heap.size w (w.alloc (.cells #[.int .u8 wh, .int .i64 (s : Int), .iface 67 V, .iface 67 U] 78)) := (Below.refl _ _).alloc (Nat.le_refl _) _
      show Below _ _ _; rw [← hW1]; exact h0.alloc h0.size _
    have HM0 : Hid (∀ wx : World, Below W1.heap.size W1 wx → wx.heap[B]? = some (.cells #[.int .u8 wh, .int .i64 (s : Int), .iface 67 V, .iface 67 U] 78 (0, 0))) := fun wx h => by
      have h1 : (w.alloc (.cells #[.int .u8 wh, .int .i64 (s : Int), .iface 67 V, .iface 67 U] 78)).heap[w.heap.size]? = some (.cells #[.int .u8 wh, .int .i64 (s : Int), .iface 67 V, .iface 67 U] 78 (0, 0)) := heap_alloc_new w _
      have h0 : W1.heap[B]? = some (.cells #[.int .u8 wh, .int .i64 (s : Int), .iface 67 V, .iface 67 U] 78 (0, 0)) := by rw [← hW1, ← HBB.out]; rw [heap_alloc_old _ _ (Array.getElem?_eq_some_iff.1 h1).1]; exact h1
      exact (h.block _ (Array.getElem?_eq_some_iff.1 h0).1).trans h0
    have HN0 : Hid (∀ wx : World, Below W1.heap.size W1 wx → wx.heap[B + 1]? = some (.cells #[.int .i64 (R : Int), .int .i64 (C : Int)] 23 (0, 0))) := fun wx h => by
      have h0 : W1.heap[B + 1]? = some (.cells #[.int .i64 (R : Int), .int .i64 (C : Int)] 23 (0, 0)) := by
        rw [← hW1, ← HBB.out]
        have h2 := heap_alloc_new (w.alloc (.cells #[.int .u8 wh, .int .i64 (s : Int), .iface 67 V, .iface 67 U] 78)) (.cells #[.int .i64 (R : Int), .int .i64 (C : Int)] 23)
        rw [show (w.alloc (.cells #[.int .u8 wh, .int .i64 (s : Int), .iface 67 V, .iface 67 U] 78)).heap.size = w.heap.size + 1 by simp] at h2
        exact h2
      exact (h.block _ (Array.getElem?_eq_some_iff.1 h0).1).trans h0
    clear hW1 hB
    refine wp_region_chain4 (fun | 0 => .pointer (some ⟨B, 2, none⟩) | 1 => .pointer (some ⟨B, 2, none⟩) | 2 => .iface 67 V | 3 => .agg #[.int .u8 wh, .int .i64 (s : Int), .iface 67 V, .iface 67 U] | 4 => rect R C | 5 => rect oR oC | 6 => .iface 67 V | 7 => .iface 67 V | 9 => .pointer (some ⟨B, 2, none⟩) | 10 => .pointer (some ⟨B, 3, none⟩) | 11 => .iface 67 U | 12 => .agg #[.int .u8 wh, .int .i64 (s : Int), .iface 67 V, .iface 67 U] | 13 => rect R C | 14 => rect iR iC | 15 => .iface 67 U | 16 => .iface 67 U | _ => undef) (fun i => !(i == 8) && !(i == 17) && !(i == 18) && !(i == 19)) 8 17 18 19 13 22 23 4 _ _ _ _
      (fun w => Below W1.heap.size W1 w) (fun x w => Own W1 w 69 3 x LZ.length (cellsL LZ)) (fun x y w => Own W1 w 69 3 x LZ.length (cellsL LZ) ∧ Own W1 w 69 3 y LO.length (cellsL LO)) (fun y w => Own W1 w 69 3 y (LZ.length + LO.length) (cellsL LZ ++ cellsL LO)) (fun y w => Own W1 w 69 3 y (LZ.length + LO.length) (cellsL LZ ++ cellsL LO)) (fun w => Below W1.heap.size W1 w)
      (by kernel_rfl) (by kernel_rfl) rfl rfl rfl rfl rfl rfl rfl rfl rfl rfl (by decide) (by decide) (.inr ⟨14, _, rfl, ⟨⟨14, .chain⟩, (by simp), rfl, rfl⟩, ⟨8, .chain⟩, (by simp), rfl, rfl⟩) ⟨⟨17, .data⟩, (by simp), rfl, rfl⟩ ⟨⟨18, .data⟩, (by simp), rfl, rfl⟩ ?otLee ?h0Lee (fun w h => h) (fun v w h => h.below) (fun v u w h => h.1.below) (fun t w h => h.below) (fun t w h => h.below) (fun w w1 hb h => h.trans (hb.mono h.size)) (fun v w w1 hb h => h.later hb) (fun v u w w1 hb h => ⟨h.1.later hb, h.2.later hb⟩) (fun t w w1 hb h => h.later hb) (fun t w w1 hb h => h.later hb) ?conLee ?saLee ?sbLee ?scLee ?sdLee ?enLee
    case otLee =>
      intro i o ho hki
      match i, ho with
      | 0, ho =>
        obtain rfl := Option.some.inj ho
        exact ⟨by decide, by decide, by decide, by decide⟩
      | 1, ho =>
        obtain rfl := Option.some.inj ho
        exact ⟨by decide, by decide, by decide, by decide⟩
      | 2, ho =>
        obtain rfl := Option.some.inj ho
        exact ⟨by decide, by decide, by decide, by decide⟩
      | 3, ho =>
        obtain rfl := Option.some.inj ho
        exact ⟨by decide, by decide, by decide, by decide⟩
      | 4, ho =>
        obtain rfl := Option.some.inj ho
        exact ⟨by decide, by decide, by decide, by decide⟩
      | 5, ho =>
        obtain rfl := Option.some.inj ho
        exact ⟨by decide, by decide, by decide, by decide⟩
      | 6, ho =>
        obtain rfl := Option.some.inj ho
        exact ⟨by decide, by decide, by decide, by decide⟩
      | 7, ho =>
        obtain rfl := Option.some.inj ho
        exact ⟨by decide, by decide, by decide, by decide⟩
      | 8, ho => exact absurd hki (by decide)
      | 9, ho =>
        obtain rfl := Option.some.inj ho
        exact ⟨by decide, by decide, by decide, by decide⟩
      | 10, ho =>
        obtain rfl := Option.some.inj ho
        exact ⟨by decide, by decide, by decide, by decide⟩
      | 11, ho =>
        obtain rfl := Option.some.inj ho
        exact ⟨by decide, by decide, by decide, by decide⟩
      | 12, ho =>
        obtain rfl := Option.some.inj ho
        exact ⟨by decide, by decide, by decide, by decide⟩
      | 13, ho =>
        obtain rfl := Option.some.inj ho
        exact ⟨by decide, by decide, by decide, by decide⟩
      | 14, ho =>
        obtain rfl := Option.some.inj ho
        exact ⟨by decide, by decide, by decide, by decide⟩
      | 15, ho =>
        obtain rfl := Option.some.inj ho
        exact ⟨by decide, by decide, by decide, by decide⟩
      | 16, ho =>
        obtain rfl := Option.some.inj ho
        exact ⟨by decide, by decide, by decide, by decide⟩
      | 17, ho => exact absurd hki (by decide)
      | 18, ho => exact absurd hki (by decide)
      | 19, ho => exact absurd hki (by decide)
      | q + 20, ho => simp at ho
    case h0Lee => exact drew_at W1
    case conLee =>
      intro i o ho hki a wx hJ hf
      match i, ho with
      | 0, ho =>
        obtain rfl := Option.some.inj ho
        have b2 : a.tmps[2]?.getD undef = .pointer (some ⟨B, 0, none⟩) := hf.2 2 (by kernel_rfl)
        exact wp_value (.pointer (some ⟨B, 2, none⟩)) (by unfold execOp; go_simp) ⟨rfl, Below.refl _ _⟩
      | 1, ho =>
        obtain rfl := Option.some.inj ho
        have e5 : a.tmps[5]?.getD undef = .pointer (some ⟨B, 2, none⟩) := hf.1 ⟨0, .data⟩ (by simp) rfl _ 5 rfl rfl (by decide)
        exact wp_value (.pointer (some ⟨B, 2, none⟩)) (by unfold execOp; go_simp) ⟨rfl, Below.refl _ _⟩
      | 2, ho =>
        obtain rfl := Option.some.inj ho
        have e6 : a.tmps[6]?.getD undef = .pointer (some ⟨B, 2, none⟩) := hf.1 ⟨1, .data⟩ (by simp) rfl _ 6 rfl rfl (by decide)
        obtain ⟨c0, c1, c2, c3⟩ := cells4 (HM0.out wx hJ)
        exact wp_value (.iface 67 V) (by unfold execOp; go_simp) ⟨rfl, Below.refl _ _⟩
      | 3, ho =>
        obtain rfl := Option.some.inj ho
        have b2 : a.tmps[2]?.getD undef = .pointer (some ⟨B, 0, none⟩) := hf.2 2 (by kernel_rfl)
        exact wp_load_row 78 (.tmp 2) rfl (B) (eval_get b2) 78 _ (0, 0) _ (HM0.out wx hJ) Try.underlying78 rfl (info_say _ _ _ _) ⟨rfl, Below.refl _ _⟩
      | 4, ho =>
        obtain rfl := Option.some.inj ho
        have b3 : a.tmps[3]?.getD undef = .pointer (some ⟨B + 1, 0, none⟩) := hf.2 3 (by kernel_rfl)
        exact wp_load_row 23 (.tmp 3) rfl (B + 1) (eval_get b3) 23 _ (0, 0) _ (HN0.out wx hJ) Try.underlying23 rfl (info_rect _ _) ⟨rfl, Below.refl _ _⟩
      | 5, ho =>
        obtain rfl := Option.some.inj ho
        have e8 : a.tmps[8]?.getD undef = .agg #[.int .u8 wh, .int .i64 (s : Int), .iface 67 V, .iface 67 U] := hf.1 ⟨3, .data⟩ (by simp) rfl _ 8 rfl rfl (by decide)
        have e9 : a.tmps[9]?.getD undef = rect R C := hf.1 ⟨4, .data⟩ (by simp) rfl _ 9 rfl rfl (by decide)
        exact wp_enter 48 #[.agg #[.int .u8 wh, .int .i64 (s : Int), .iface 67 V, .iface 67 U], rect R C, .int .i64 0] (rect oR oC) _ (by unfold execOp; go_simp) (HPo.out _ _ _ _ wx) (fun w' h => ⟨rfl, h⟩)
      | 6, ho =>
        obtain rfl := Option.some.inj ho
        have e7 : a.tmps[7]?.getD undef = .iface 67 V := hf.1 ⟨2, .data⟩ (by simp) rfl _ 7 rfl rfl (by decide)
        exact wp_value (.iface 67 V) (by unfold execOp; go_simp) ⟨rfl, Below.refl _ _⟩
      | 7, ho =>
        obtain rfl := Option.some.inj ho
        have e7 : a.tmps[7]?.getD undef = .iface 67 V := hf.1 ⟨2, .data⟩ (by simp) rfl _ 7 rfl rfl (by decide)
        exact wp_value (.iface 67 V) (by unfold execOp; go_simp) ⟨rfl, Below.refl _ _⟩
      | 8, ho => exact absurd hki (by decide)
      | 9, ho =>
        obtain rfl := Option.some.inj ho
        have b2 : a.tmps[2]?.getD undef = .pointer (some ⟨B, 0, none⟩) := hf.2 2 (by kernel_rfl)
        exact wp_value (.pointer (some ⟨B, 2, none⟩)) (by unfold execOp; go_simp) ⟨rfl, Below.refl _ _⟩
      | 10, ho =>
        obtain rfl := Option.some.inj ho
        have e14 : a.tmps[14]?.getD undef = .pointer (some ⟨B, 2, none⟩) := hf.1 ⟨9, .data⟩ (by simp) rfl _ 14 rfl rfl (by decide)
        exact wp_value (.pointer (some ⟨B, 3, none⟩)) (by unfold execOp; go_simp) ⟨rfl, Below.refl _ _⟩
      | 11, ho =>
        obtain rfl := Option.some.inj ho
        have e15 : a.tmps[15]?.getD undef = .pointer (some ⟨B, 3, none⟩) := hf.1 ⟨10, .data⟩ (by simp) rfl _ 15 rfl rfl (by decide)
        obtain ⟨c0, c1, c2, c3⟩ := cells4 (HM0.out wx hJ)
        exact wp_value (.iface 67 U) (by unfold execOp; go_simp) ⟨rfl, Below.refl _ _⟩
      | 12, ho =>
        obtain rfl := Option.some.inj ho
        have b2 : a.tmps[2]?.getD undef = .pointer (some ⟨B, 0, none⟩) := hf.2 2 (by kernel_rfl)
        exact wp_load_row 78 (.tmp 2) rfl (B) (eval_get b2) 78 _ (0, 0) _ (HM0.out wx hJ) Try.underlying78 rfl (info_say _ _ _ _) ⟨rfl, Below.refl _ _⟩
      | 13, ho =>
        obtain rfl := Option.some.inj ho
        have b3 : a.tmps[3]?.getD undef = .pointer (some ⟨B + 1, 0, none⟩) := hf.2 3 (by kernel_rfl)
        exact wp_load_row 23 (.tmp 3) rfl (B + 1) (eval_get b3) 23 _ (0, 0) _ (HN0.out wx hJ) Try.underlying23 rfl (info_rect _ _) ⟨rfl, Below.refl _ _⟩
      | 14, ho =>
        obtain rfl := Option.some.inj ho
        have e17 : a.tmps[17]?.getD undef = .agg #[.int .u8 wh, .int .i64 (s : Int), .iface 67 V, .iface 67 U] := hf.1 ⟨12, .data⟩ (by simp) rfl _ 17 rfl rfl (by decide)
        have e18 : a.tmps[18]?.getD undef = rect R C := hf.1 ⟨13, .data⟩ (by simp) rfl _ 18 rfl rfl (by decide)
        exact wp_enter 48 #[.agg #[.int .u8 wh, .int .i64 (s : Int), .iface 67 V, .iface 67 U], rect R C, .int .i64 1] (rect iR iC) _ (by unfold execOp; go_simp) (HPi.out _ _ _ _ wx) (fun w' h => ⟨rfl, h⟩)
      | 15, ho =>
        obtain rfl := Option.some.inj ho
        have e16 : a.tmps[16]?.getD undef = .iface 67 U := hf.1 ⟨11, .data⟩ (by simp) rfl _ 16 rfl rfl (by decide)
        exact wp_value (.iface 67 U) (by unfold execOp; go_simp) ⟨rfl, Below.refl _ _⟩
      | 16, ho =>
        obtain rfl := Option.some.inj ho
        have e16 : a.tmps[16]?.getD undef = .iface 67 U := hf.1 ⟨11, .data⟩ (by simp) rfl _ 16 rfl rfl (by decide)
        exact wp_value (.iface 67 U) (by unfold execOp; go_simp) ⟨rfl, Below.refl _ _⟩
      | 17, ho => exact absurd hki (by decide)
      | 18, ho => exact absurd hki (by decide)
      | 19, ho => exact absurd hki (by decide)
      | q + 20, ho => simp at ho
    case saLee =>
      intro a wx hI hf
      have e12 : a.tmps[12]?.getD undef = .iface 67 V := hf.1 ⟨7, .data⟩ (by simp) rfl _ 12 rfl rfl (by decide)
      have e10 : a.tmps[10]?.getD undef = rect oR oC := hf.1 ⟨5, .data⟩ (by simp) rfl _ 10 rfl rfl (by decide)
      refine wp_enterR 89 #[V, rect oR oC] (by unfold execOp; go_simp; go_invoke; rfl) (HZ.out wx) ?_
      intro v' w' h1
      exact ⟨v', rfl, Leaf.Own.lower h1 hI⟩
    case sbLee =>
      intro a wx x hI hv hf
      have e21 : a.tmps[21]?.getD undef = .iface 67 U := hf.1 ⟨16, .data⟩ (by simp) rfl _ 21 rfl rfl (by decide)
      have e19 : a.tmps[19]?.getD undef = rect iR iC := hf.1 ⟨14, .data⟩ (by simp) rfl _ 19 rfl rfl (by decide)
      refine wp_enterR 89 #[U, rect iR iC] (by unfold execOp; go_simp; go_invoke; rfl) (HO.out wx) ?_
      intro v' w' h1
      exact ⟨v', rfl, hI.later h1.below, Leaf.Own.lower h1 hI.below⟩
    case scLee =>
      intro a wx x y hI hv hu hf
      refine wp_append_two (w0 := W1) (.tmp 13) (.tmp 22) 65 rfl 69 i0 (.agg #[.int .i64 0, .int .i64 0, .int .i64 0]) 3 24 Try.underlying65 hi hz0 hz1 hz2 rfl (by decide) x y LZ.length LO.length (cellsL LZ) (cellsL LO) (eval_get (get_some hv)) hI.1 (eval_get (get_some hu)) hI.2 LM.out O1.out (by omega) (by decide) ?_
      intro v' w' h1
      exact ⟨v', rfl, h1⟩
    case sdLee =>
      intro a wx y hI hv hf
      have e23 := get_some hv
      exact wp_value y (by unfold execOp; go_simp) ⟨y, rfl, hI⟩
    intro k1 k2 k3 res w9 hI
    have HF : Hid (Own w w9 69 3 res (LZ.length + LO.length) (cellsL LZ ++ cellsL LO)) := Leaf.Own.lower hI HWW.out
    clear hI HM0 HN0 HWW
    simp only [fill, Act.put]
    go_simp
    go_wp2_with fail
    go_ret
    exact ⟨res, rfl, by rw [HRes.out, List.length_append, cellsL_append]; exact HF.out⟩
  · have HZ := Lib.hid hz
    have HO := Lib.hid ho
    rw [ez, eo]
    clear ez eo hz ho
    go_enter Try.func96, Try.ntmps96
    go_wp2_with fail
    obtain ⟨W1, hW1⟩ : ∃ W1, (w.alloc (.cells #[.int .u8 wh, .int .i64 (s : Int), .iface 67 V, .iface 78 U] 78)).alloc (.cells #[.int .i64 (R : Int), .int .i64 (C : Int)] 23) = W1 := ⟨_, rfl⟩
    rw [hW1]
    have HWW : Hid (Below w.heap.size w W1) := by
      have h0 : Below w.heap.size w (w.alloc (.cells #[.int .u8 wh, .int .i64 (s : Int), .iface 67 V, .iface 78 U] 78)) := (Below.refl _ _).alloc (Nat.le_refl _) _
      show Below _ _ _; rw [← hW1]; exact h0.alloc h0.size _
    have HM0 : Hid (∀ wx : World, Below W1.heap.size W1 wx → wx.heap[B]? = some (.cells #[.int .u8 wh, .int .i64 (s : Int), .iface 67 V, .iface 78 U] 78 (0, 0))) := fun wx h => by
      have h1 : (w.alloc (.cells #[.int .u8 wh, .int .i64 (s : Int), .iface 67 V, .iface 78 U] 78)).heap[w.heap.size]? = some (.cells #[.int .u8 wh, .int .i64 (s : Int), .iface 67 V, .iface 78 U] 78 (0, 0)) := heap_alloc_new w _
      have h0 : W1.heap[B]? = some (.cells #[.int .u8 wh, .int .i64 (s : Int), .iface 67 V, .iface 78 U] 78 (0, 0)) := by rw [← hW1, ← HBB.out]; rw [heap_alloc_old _ _ (Array.getElem?_eq_some_iff.1 h1).1]; exact h1
      exact (h.block _ (Array.getElem?_eq_some_iff.1 h0).1).trans h0
    have HN0 : Hid (∀ wx : World, Below W1.heap.size W1 wx → wx.heap[B + 1]? = some (.cells #[.int .i64 (R : Int), .int .i64 (C : Int)] 23 (0, 0))) := fun wx h => by
      have h0 : W1.heap[B + 1]? = some (.cells #[.int .i64 (R : Int), .int .i64 (C : Int)] 23 (0, 0)) := by
        rw [← hW1, ← HBB.out]
        have h2 := heap_alloc_new (w.alloc (.cells #[.int .u8 wh, .int .i64 (s : Int), .iface 67 V, .iface 78 U] 78)) (.cells #[.int .i64 (R : Int), .int .i64 (C : Int)] 23)
        rw [show (w.alloc (.cells #[.int .u8 wh, .int .i64 (s : Int), .iface 67 V, .iface 78 U] 78)).heap.size = w.heap.size + 1 by simp] at h2
        exact h2
      exact (h.block _ (Array.getElem?_eq_some_iff.1 h0).1).trans h0
    clear hW1 hB
    refine wp_region_chain4 (fun | 0 => .pointer (some ⟨B, 2, none⟩) | 1 => .pointer (some ⟨B, 2, none⟩) | 2 => .iface 67 V | 3 => .agg #[.int .u8 wh, .int .i64 (s : Int), .iface 67 V, .iface 78 U] | 4 => rect R C | 5 => rect oR oC | 6 => .iface 67 V | 7 => .iface 67 V | 9 => .pointer (some ⟨B, 2, none⟩) | 10 => .pointer (some ⟨B, 3, none⟩) | 11 => .iface 78 U | 12 => .agg #[.int .u8 wh, .int .i64 (s : Int), .iface 67 V, .iface 78 U] | 13 => rect R C | 14 => rect iR iC | 15 => .iface 78 U | 16 => .iface 78 U | _ => undef) (fun i => !(i == 8) && !(i == 17) && !(i == 18) && !(i == 19)) 8 17 18 19 13 22 23 4 _ _ _ _
      (fun w => Below W1.heap.size W1 w) (fun x w => Own W1 w 69 3 x LZ.length (cellsL LZ)) (fun x y w => Own W1 w 69 3 x LZ.length (cellsL LZ) ∧ Own W1 w 69 3 y LO.length (cellsL LO)) (fun y w => Own W1 w 69 3 y (LZ.length + LO.length) (cellsL LZ ++ cellsL LO)) (fun y w => Own W1 w 69 3 y (LZ.length + LO.length) (cellsL LZ ++ cellsL LO)) (fun w => Below W1.heap.size W1 w)
      (by kernel_rfl) (by kernel_rfl) rfl rfl rfl rfl rfl rfl rfl rfl rfl rfl (by decide) (by decide) (.inr ⟨14, _, rfl, ⟨⟨14, .chain⟩, (by simp), rfl, rfl⟩, ⟨8, .chain⟩, (by simp), rfl, rfl⟩) ⟨⟨17, .data⟩, (by simp), rfl, rfl⟩ ⟨⟨18, .data⟩, (by simp), rfl, rfl⟩ ?otLes ?h0Les (fun w h => h) (fun v w h => h.below) (fun v u w h => h.1.below) (fun t w h => h.below) (fun t w h => h.below) (fun w w1 hb h => h.trans (hb.mono h.size)) (fun v w w1 hb h => h.later hb) (fun v u w w1 hb h => ⟨h.1.later hb, h.2.later hb⟩) (fun t w w1 hb h => h.later hb) (fun t w w1 hb h => h.later hb) ?conLes ?saLes ?sbLes ?scLes ?sdLes ?enLes
    case otLes =>
      intro i o ho hki
      match i, ho with
      | 0, ho =>
        obtain rfl := Option.some.inj ho
        exact ⟨by decide, by decide, by decide, by decide⟩
      | 1, ho =>
        obtain rfl := Option.some.inj ho
        exact ⟨by decide, by decide, by decide, by decide⟩
      | 2, ho =>
        obtain rfl := Option.some.inj ho
        exact ⟨by decide, by decide, by decide, by decide⟩
      | 3, ho =>
        obtain rfl := Option.some.inj ho
        exact ⟨by decide, by decide, by decide, by decide⟩
      | 4, ho =>
        obtain rfl := Option.some.inj ho
        exact ⟨by decide, by decide, by decide, by decide⟩
      | 5, ho =>
        obtain rfl := Option.some.inj ho
        exact ⟨by decide, by decide, by decide, by decide⟩
      | 6, ho =>
        obtain rfl := Option.some.inj ho
        exact ⟨by decide, by decide, by decide, by decide⟩
      | 7, ho =>
        obtain rfl := Option.some.inj ho
        exact ⟨by decide, by decide, by decide, by decide⟩
      | 8, ho => exact absurd hki (by decide)
      | 9, ho =>
        obtain rfl := Option.some.inj ho
        exact ⟨by decide, by decide, by decide, by decide⟩
      | 10, ho =>
        obtain rfl := Option.some.inj ho
        exact ⟨by decide, by decide, by decide, by decide⟩
      | 11, ho =>
        obtain rfl := Option.some.inj ho
        exact ⟨by decide, by decide, by decide, by decide⟩
      | 12, ho =>
        obtain rfl := Option.some.inj ho
        exact ⟨by decide, by decide, by decide, by decide⟩
      | 13, ho =>
        obtain rfl := Option.some.inj ho
        exact ⟨by decide, by decide, by decide, by decide⟩
      | 14, ho =>
        obtain rfl := Option.some.inj ho
        exact ⟨by decide, by decide, by decide, by decide⟩
      | 15, ho =>
        obtain rfl := Option.some.inj ho
        exact ⟨by decide, by decide, by decide, by decide⟩
      | 16, ho =>
        obtain rfl := Option.some.inj ho
        exact ⟨by decide, by decide, by decide, by decide⟩
      | 17, ho => exact absurd hki (by decide)
      | 18, ho => exact absurd hki (by decide)
      | 19, ho => exact absurd hki (by decide)
      | q + 20, ho => simp at ho
    case h0Les => exact drew_at W1
    case conLes =>
      intro i o ho hki a wx hJ hf
      match i, ho with
      | 0, ho =>
        obtain rfl := Option.some.inj ho
        have b2 : a.tmps[2]?.getD undef = .pointer (some ⟨B, 0, none⟩) := hf.2 2 (by kernel_rfl)
        exact wp_value (.pointer (some ⟨B, 2, none⟩)) (by unfold execOp; go_simp) ⟨rfl, Below.refl _ _⟩
      | 1, ho =>
        obtain rfl := Option.some.inj ho
        have e5 : a.tmps[5]?.getD undef = .pointer (some ⟨B, 2, none⟩) := hf.1 ⟨0, .data⟩ (by simp) rfl _ 5 rfl rfl (by decide)
        exact wp_value (.pointer (some ⟨B, 2, none⟩)) (by unfold execOp; go_simp) ⟨rfl, Below.refl _ _⟩
      | 2, ho =>
        obtain rfl := Option.some.inj ho
        have e6 : a.tmps[6]?.getD undef = .pointer (some ⟨B, 2, none⟩) := hf.1 ⟨1, .data⟩ (by simp) rfl _ 6 rfl rfl (by decide)
        obtain ⟨c0, c1, c2, c3⟩ := cells4 (HM0.out wx hJ)
        exact wp_value (.iface 67 V) (by unfold execOp; go_simp) ⟨rfl, Below.refl _ _⟩
      | 3, ho =>
        obtain rfl := Option.some.inj ho
        have b2 : a.tmps[2]?.getD undef = .pointer (some ⟨B, 0, none⟩) := hf.2 2 (by kernel_rfl)
        exact wp_load_row 78 (.tmp 2) rfl (B) (eval_get b2) 78 _ (0, 0) _ (HM0.out wx hJ) Try.underlying78 rfl (info_say _ _ _ _) ⟨rfl, Below.refl _ _⟩
      | 4, ho =>
        obtain rfl := Option.some.inj ho
        have b3 : a.tmps[3]?.getD undef = .pointer (some ⟨B + 1, 0, none⟩) := hf.2 3 (by kernel_rfl)
        exact wp_load_row 23 (.tmp 3) rfl (B + 1) (eval_get b3) 23 _ (0, 0) _ (HN0.out wx hJ) Try.underlying23 rfl (info_rect _ _) ⟨rfl, Below.refl _ _⟩
      | 5, ho =>
        obtain rfl := Option.some.inj ho
        have e8 : a.tmps[8]?.getD undef = .agg #[.int .u8 wh, .int .i64 (s : Int), .iface 67 V, .iface 78 U] := hf.1 ⟨3, .data⟩ (by simp) rfl _ 8 rfl rfl (by decide)
        have e9 : a.tmps[9]?.getD undef = rect R C := hf.1 ⟨4, .data⟩ (by simp) rfl _ 9 rfl rfl (by decide)
        exact wp_enter 48 #[.agg #[.int .u8 wh, .int .i64 (s : Int), .iface 67 V, .iface 78 U], rect R C, .int .i64 0] (rect oR oC) _ (by unfold execOp; go_simp) (HPo.out _ _ _ _ wx) (fun w' h => ⟨rfl, h⟩)
      | 6, ho =>
        obtain rfl := Option.some.inj ho
        have e7 : a.tmps[7]?.getD undef = .iface 67 V := hf.1 ⟨2, .data⟩ (by simp) rfl _ 7 rfl rfl (by decide)
        exact wp_value (.iface 67 V) (by unfold execOp; go_simp) ⟨rfl, Below.refl _ _⟩
      | 7, ho =>
        obtain rfl := Option.some.inj ho
        have e7 : a.tmps[7]?.getD undef = .iface 67 V := hf.1 ⟨2, .data⟩ (by simp) rfl _ 7 rfl rfl (by decide)
        exact wp_value (.iface 67 V) (by unfold execOp; go_simp) ⟨rfl, Below.refl _ _⟩
      | 8, ho => exact absurd hki (by decide)
      | 9, ho =>
        obtain rfl := Option.some.inj ho
        have b2 : a.tmps[2]?.getD undef = .pointer (some ⟨B, 0, none⟩) := hf.2 2 (by kernel_rfl)
        exact wp_value (.pointer (some ⟨B, 2, none⟩)) (by unfold execOp; go_simp) ⟨rfl, Below.refl _ _⟩
      | 10, ho =>
        obtain rfl := Option.some.inj ho
        have e14 : a.tmps[14]?.getD undef = .pointer (some ⟨B, 2, none⟩) := hf.1 ⟨9, .data⟩ (by simp) rfl _ 14 rfl rfl (by decide)
        exact wp_value (.pointer (some ⟨B, 3, none⟩)) (by unfold execOp; go_simp) ⟨rfl, Below.refl _ _⟩
      | 11, ho =>
        obtain rfl := Option.some.inj ho
        have e15 : a.tmps[15]?.getD undef = .pointer (some ⟨B, 3, none⟩) := hf.1 ⟨10, .data⟩ (by simp) rfl _ 15 rfl rfl (by decide)
        obtain ⟨c0, c1, c2, c3⟩ := cells4 (HM0.out wx hJ)
        exact wp_value (.iface 78 U) (by unfold execOp; go_simp) ⟨rfl, Below.refl _ _⟩
      | 12, ho =>
        obtain rfl := Option.some.inj ho
        have b2 : a.tmps[2]?.getD undef = .pointer (some ⟨B, 0, none⟩) := hf.2 2 (by kernel_rfl)
        exact wp_load_row 78 (.tmp 2) rfl (B) (eval_get b2) 78 _ (0, 0) _ (HM0.out wx hJ) Try.underlying78 rfl (info_say _ _ _ _) ⟨rfl, Below.refl _ _⟩
      | 13, ho =>
        obtain rfl := Option.some.inj ho
        have b3 : a.tmps[3]?.getD undef = .pointer (some ⟨B + 1, 0, none⟩) := hf.2 3 (by kernel_rfl)
        exact wp_load_row 23 (.tmp 3) rfl (B + 1) (eval_get b3) 23 _ (0, 0) _ (HN0.out wx hJ) Try.underlying23 rfl (info_rect _ _) ⟨rfl, Below.refl _ _⟩
      | 14, ho =>
        obtain rfl := Option.some.inj ho
        have e17 : a.tmps[17]?.getD undef = .agg #[.int .u8 wh, .int .i64 (s : Int), .iface 67 V, .iface 78 U] := hf.1 ⟨12, .data⟩ (by simp) rfl _ 17 rfl rfl (by decide)
        have e18 : a.tmps[18]?.getD undef = rect R C := hf.1 ⟨13, .data⟩ (by simp) rfl _ 18 rfl rfl (by decide)
        exact wp_enter 48 #[.agg #[.int .u8 wh, .int .i64 (s : Int), .iface 67 V, .iface 78 U], rect R C, .int .i64 1] (rect iR iC) _ (by unfold execOp; go_simp) (HPi.out _ _ _ _ wx) (fun w' h => ⟨rfl, h⟩)
      | 15, ho =>
        obtain rfl := Option.some.inj ho
        have e16 : a.tmps[16]?.getD undef = .iface 78 U := hf.1 ⟨11, .data⟩ (by simp) rfl _ 16 rfl rfl (by decide)
        exact wp_value (.iface 78 U) (by unfold execOp; go_simp) ⟨rfl, Below.refl _ _⟩
      | 16, ho =>
        obtain rfl := Option.some.inj ho
        have e16 : a.tmps[16]?.getD undef = .iface 78 U := hf.1 ⟨11, .data⟩ (by simp) rfl _ 16 rfl rfl (by decide)
        exact wp_value (.iface 78 U) (by unfold execOp; go_simp) ⟨rfl, Below.refl _ _⟩
      | 17, ho => exact absurd hki (by decide)
      | 18, ho => exact absurd hki (by decide)
      | 19, ho => exact absurd hki (by decide)
      | q + 20, ho => simp at ho
    case saLes =>
      intro a wx hI hf
      have e12 : a.tmps[12]?.getD undef = .iface 67 V := hf.1 ⟨7, .data⟩ (by simp) rfl _ 12 rfl rfl (by decide)
      have e10 : a.tmps[10]?.getD undef = rect oR oC := hf.1 ⟨5, .data⟩ (by simp) rfl _ 10 rfl rfl (by decide)
      refine wp_enterR 89 #[V, rect oR oC] (by unfold execOp; go_simp; go_invoke; rfl) (HZ.out wx) ?_
      intro v' w' h1
      exact ⟨v', rfl, Leaf.Own.lower h1 hI⟩
    case sbLes =>
      intro a wx x hI hv hf
      have e21 : a.tmps[21]?.getD undef = .iface 78 U := hf.1 ⟨16, .data⟩ (by simp) rfl _ 21 rfl rfl (by decide)
      have e19 : a.tmps[19]?.getD undef = rect iR iC := hf.1 ⟨14, .data⟩ (by simp) rfl _ 19 rfl rfl (by decide)
      refine wp_enterR 96 #[U, rect iR iC] (by unfold execOp; go_simp; go_invoke; rfl) (HO.out wx) ?_
      intro v' w' h1
      exact ⟨v', rfl, hI.later h1.below, Leaf.Own.lower h1 hI.below⟩
    case scLes =>
      intro a wx x y hI hv hu hf
      refine wp_append_two (w0 := W1) (.tmp 13) (.tmp 22) 65 rfl 69 i0 (.agg #[.int .i64 0, .int .i64 0, .int .i64 0]) 3 24 Try.underlying65 hi hz0 hz1 hz2 rfl (by decide) x y LZ.length LO.length (cellsL LZ) (cellsL LO) (eval_get (get_some hv)) hI.1 (eval_get (get_some hu)) hI.2 LM.out O1.out (by omega) (by decide) ?_
      intro v' w' h1
      exact ⟨v', rfl, h1⟩
    case sdLes =>
      intro a wx y hI hv hf
      have e23 := get_some hv
      exact wp_value y (by unfold execOp; go_simp) ⟨y, rfl, hI⟩
    intro k1 k2 k3 res w9 hI
    have HF : Hid (Own w w9 69 3 res (LZ.length + LO.length) (cellsL LZ ++ cellsL LO)) := Leaf.Own.lower hI HWW.out
    clear hI HM0 HN0 HWW
    simp only [fill, Act.put]
    go_simp
    go_wp2_with fail
    go_ret
    exact ⟨res, rfl, by rw [HRes.out, List.length_append, cellsL_append]; exact HF.out⟩
  · have HZ := Lib.hid hz
    have HO := Lib.hid ho
    rw [ez, eo]
    clear ez eo hz ho
    go_enter Try.func96, Try.ntmps96
    go_wp2_with fail
    obtain ⟨W1, hW1⟩ : ∃ W1, (w.alloc (.cells #[.int .u8 wh, .int .i64 (s : Int), .iface 78 V, .iface 67 U] 78)).alloc (.cells #[.int .i64 (R : Int), .int .i64 (C : Int)] 23) = W1 := ⟨_, rfl⟩
    rw [hW1]
    have HWW : Hid (Below w.heap.size w W1) := by
      have h0 : Below w.heap.size w (w.alloc (.cells #[.int .u8 wh, .int .i64 (s : Int), .iface 78 V, .iface 67 U] 78)) := (Below.refl _ _).alloc (Nat.le_refl _) _
      show Below _ _ _; rw [← hW1]; exact h0.alloc h0.size _
    have HM0 : Hid (∀ wx : World, Below W1.heap.size W1 wx → wx.heap[B]? = some (.cells #[.int .u8 wh, .int .i64 (s : Int), .iface 78 V, .iface 67 U] 78 (0, 0))) := fun wx h => by
      have h1 : (w.alloc (.cells #[.int .u8 wh, .int .i64 (s : Int), .iface 78 V, .iface 67 U] 78)).heap[w.heap.size]? = some (.cells #[.int .u8 wh, .int .i64 (s : Int), .iface 78 V, .iface 67 U] 78 (0, 0)) := heap_alloc_new w _
      have h0 : W1.heap[B]? = some (.cells #[.int .u8 wh, .int .i64 (s : Int), .iface 78 V, .iface 67 U] 78 (0, 0)) := by rw [← hW1, ← HBB.out]; rw [heap_alloc_old _ _ (Array.getElem?_eq_some_iff.1 h1).1]; exact h1
      exact (h.block _ (Array.getElem?_eq_some_iff.1 h0).1).trans h0
    have HN0 : Hid (∀ wx : World, Below W1.heap.size W1 wx → wx.heap[B + 1]? = some (.cells #[.int .i64 (R : Int), .int .i64 (C : Int)] 23 (0, 0))) := fun wx h => by
      have h0 : W1.heap[B + 1]? = some (.cells #[.int .i64 (R : Int), .int .i64 (C : Int)] 23 (0, 0)) := by
        rw [← hW1, ← HBB.out]
        have h2 := heap_alloc_new (w.alloc (.cells #[.int .u8 wh, .int .i64 (s : Int), .iface 78 V, .iface 67 U] 78)) (.cells #[.int .i64 (R : Int), .int .i64 (C : Int)] 23)
        rw [show (w.alloc (.cells #[.int .u8 wh, .int .i64 (s : Int), .iface 78 V, .iface 67 U] 78)).heap.size = w.heap.size + 1 by simp] at h2
        exact h2
      exact (h.block _ (Array.getElem?_eq_some_iff.1 h0).1).trans h0
    clear hW1 hB
    refine wp_region_chain4 (fun | 0 => .pointer (some ⟨B, 2, none⟩) | 1 => .pointer (some ⟨B, 2, none⟩) | 2 => .iface 78 V | 3 => .agg #[.int .u8 wh, .int .i64 (s : Int), .iface 78 V, .iface 67 U] | 4 => rect R C | 5 => rect oR oC | 6 => .iface 78 V | 7 => .iface 78 V | 9 => .pointer (some ⟨B, 2, none⟩) | 10 => .pointer (some ⟨B, 3, none⟩) | 11 => .iface 67 U | 12 => .agg #[.int .u8 wh, .int .i64 (s : Int), .iface 78 V, .iface 67 U] | 13 => rect R C | 14 => rect iR iC | 15 => .iface 67 U | 16 => .iface 67 U | _ => undef) (fun i => !(i == 8) && !(i == 17) && !(i == 18) && !(i == 19)) 8 17 18 19 13 22 23 4 _ _ _ _
      (fun w => Below W1.heap.size W1 w) (fun x w => Own W1 w 69 3 x LZ.length (cellsL LZ)) (fun x y w => Own W1 w 69 3 x LZ.length (cellsL LZ) ∧ Own W1 w 69 3 y LO.length (cellsL LO)) (fun y w => Own W1 w 69 3 y (LZ.length + LO.length) (cellsL LZ ++ cellsL LO)) (fun y w => Own W1 w 69 3 y (LZ.length + LO.length) (cellsL LZ ++ cellsL LO)) (fun w => Below W1.heap.size W1 w)
      (by kernel_rfl) (by kernel_rfl) rfl rfl rfl rfl rfl rfl rfl rfl rfl rfl (by decide) (by decide) (.inr ⟨14, _, rfl, ⟨⟨14, .chain⟩, (by simp), rfl, rfl⟩, ⟨8, .chain⟩, (by simp), rfl, rfl⟩) ⟨⟨17, .data⟩, (by simp), rfl, rfl⟩ ⟨⟨18, .data⟩, (by simp), rfl, rfl⟩ ?otLse ?h0Lse (fun w h => h) (fun v w h => h.below) (fun v u w h => h.1.below) (fun t w h => h.below) (fun t w h => h.below) (fun w w1 hb h => h.trans (hb.mono h.size)) (fun v w w1 hb h => h.later hb) (fun v u w w1 hb h => ⟨h.1.later hb, h.2.later hb⟩) (fun t w w1 hb h => h.later hb) (fun t w w1 hb h => h.later hb) ?conLse ?saLse ?sbLse ?scLse ?sdLse ?enLse
    case otLse =>
      intro i o ho hki
      match i, ho with
      | 0, ho =>
        obtain rfl := Option.some.inj ho
        exact ⟨by decide, by decide, by decide, by decide⟩
      | 1, ho =>
        obtain rfl := Option.some.inj ho
        exact ⟨by decide, by decide, by decide, by decide⟩
      | 2, ho =>
        obtain rfl := Option.some.inj ho
        exact ⟨by decide, by decide, by decide, by decide⟩
      | 3, ho =>
        obtain rfl := Option.some.inj ho
        exact ⟨by decide, by decide, by decide, by decide⟩
      | 4, ho =>
        obtain rfl := Option.some.inj ho
        exact ⟨by decide, by decide, by decide, by decide⟩
      | 5, ho =>
        obtain rfl := Option.some.inj ho
        exact ⟨by decide, by decide, by decide, by decide⟩
      | 6, ho =>
        obtain rfl := Option.some.inj ho
        exact ⟨by decide, by decide, by decide, by decide⟩
      | 7, ho =>
        obtain rfl := Option.some.inj ho
        exact ⟨by decide, by decide, by decide, by decide⟩
      | 8, ho => exact absurd hki (by decide)
      | 9, ho =>
        obtain rfl := Option.some.inj ho
        exact ⟨by decide, by decide, by decide, by decide⟩
      | 10, ho =>
        obtain rfl := Option.some.inj ho
        exact ⟨by decide, by decide, by decide, by decide⟩
      | 11, ho =>
        obtain rfl := Option.some.inj ho
        exact ⟨by decide, by decide, by decide, by decide⟩
      | 12, ho =>
        obtain rfl := Option.some.inj ho
        exact ⟨by decide, by decide, by decide, by decide⟩
      | 13, ho =>
        obtain rfl := Option.some.inj ho
        exact ⟨by decide, by decide, by decide, by decide⟩
      | 14, ho =>
        obtain rfl := Option.some.inj ho
        exact ⟨by decide, by decide, by decide, by decide⟩
      | 15, ho =>
        obtain rfl := Option.some.inj ho
        exact ⟨by decide, by decide, by decide, by decide⟩
      | 16, ho =>
        obtain rfl := Option.some.inj ho
        exact ⟨by decide, by decide, by decide, by decide⟩
      | 17, ho => exact absurd hki (by decide)
      | 18, ho => exact absurd hki (by decide)
      | 19, ho => exact absurd hki (by decide)
      | q + 20, ho => simp at ho
    case h0Lse => exact drew_at W1
    case conLse =>
      intro i o ho hki a wx hJ hf
      match i, ho with
      | 0, ho =>
        obtain rfl := Option.some.inj ho
        have b2 : a.tmps[2]?.getD undef = .pointer (some ⟨B, 0, none⟩) := hf.2 2 (by kernel_rfl)
        exact wp_value (.pointer (some ⟨B, 2, none⟩)) (by unfold execOp; go_simp) ⟨rfl, Below.refl _ _⟩
      | 1, ho =>
        obtain rfl := Option.some.inj ho
        have e5 : a.tmps[5]?.getD undef = .pointer (some ⟨B, 2, none⟩) := hf.1 ⟨0, .data⟩ (by simp) rfl _ 5 rfl rfl (by decide)
        exact wp_value (.pointer (some ⟨B, 2, none⟩)) (by unfold execOp; go_simp) ⟨rfl, Below.refl _ _⟩
      | 2, ho =>
        obtain rfl := Option.some.inj ho
        have e6 : a.tmps[6]?.getD undef = .pointer (some ⟨B, 2, none⟩) := hf.1 ⟨1, .data⟩ (by simp) rfl _ 6 rfl rfl (by decide)
        obtain ⟨c0, c1, c2, c3⟩ := cells4 (HM0.out wx hJ)
        exact wp_value (.iface 78 V) (by unfold execOp; go_simp) ⟨rfl, Below.refl _ _⟩
      | 3, ho =>
        obtain rfl := Option.some.inj ho
        have b2 : a.tmps[2]?.getD undef = .pointer (some ⟨B, 0, none⟩) := hf.2 2 (by kernel_rfl)
        exact wp_load_row 78 (.tmp 2) rfl (B) (eval_get b2) 78 _ (0, 0) _ (HM0.out wx hJ) Try.underlying78 rfl (info_say _ _ _ _) ⟨rfl, Below.refl _ _⟩
      | 4, ho =>
        obtain rfl := Option.some.inj ho
        have b3 : a.tmps[3]?.getD undef = .pointer (some ⟨B + 1, 0, none⟩) := hf.2 3 (by kernel_rfl)
        exact wp_load_row 23 (.tmp 3) rfl (B + 1) (eval_get b3) 23 _ (0, 0) _ (HN0.out wx hJ) Try.underlying23 rfl (info_rect _ _) ⟨rfl, Below.refl _ _⟩
      | 5, ho =>
        obtain rfl := Option.some.inj ho
        have e8 : a.tmps[8]?.getD undef = .agg #[.int .u8 wh, .int .i64 (s : Int), .iface 78 V, .iface 67 U] := hf.1 ⟨3, .data⟩ (by simp) rfl _ 8 rfl rfl (by decide)
        have e9 : a.tmps[9]?.getD undef = rect R C := hf.1 ⟨4, .data⟩ (by simp) rfl _ 9 rfl rfl (by decide)
        exact wp_enter 48 #[.agg #[.int .u8 wh, .int .i64 (s : Int), .iface 78 V, .iface 67 U], rect R C, .int .i64 0] (rect oR oC) _ (by unfold execOp; go_simp) (HPo.out _ _ _ _ wx) (fun w' h => ⟨rfl, h⟩)
      | 6, ho =>
        obtain rfl := Option.some.inj ho
        have e7 : a.tmps[7]?.getD undef = .iface 78 V := hf.1 ⟨2, .data⟩ (by simp) rfl _ 7 rfl rfl (by decide)
        exact wp_value (.iface 78 V) (by unfold execOp; go_simp) ⟨rfl, Below.refl _ _⟩
      | 7, ho =>
        obtain rfl := Option.some.inj ho
        have e7 : a.tmps[7]?.getD undef = .iface 78 V := hf.1 ⟨2, .data⟩ (by simp) rfl _ 7 rfl rfl (by decide)
        exact wp_value (.iface 78 V) (by unfold execOp; go_simp) ⟨rfl, Below.refl _ _⟩
      | 8, ho => exact absurd hki (by decide)
      | 9, ho =>
        obtain rfl := Option.some.inj ho
        have b2 : a.tmps[2]?.getD undef = .pointer (some ⟨B, 0, none⟩) := hf.2 2 (by kernel_rfl)
        exact wp_value (.pointer (some ⟨B, 2, none⟩)) (by unfold execOp; go_simp) ⟨rfl, Below.refl _ _⟩
      | 10, ho =>
        obtain rfl := Option.some.inj ho
        have e14 : a.tmps[14]?.getD undef = .pointer (some ⟨B, 2, none⟩) := hf.1 ⟨9, .data⟩ (by simp) rfl _ 14 rfl rfl (by decide)
        exact wp_value (.pointer (some ⟨B, 3, none⟩)) (by unfold execOp; go_simp) ⟨rfl, Below.refl _ _⟩
      | 11, ho =>
        obtain rfl := Option.some.inj ho
        have e15 : a.tmps[15]?.getD undef = .pointer (some ⟨B, 3, none⟩) := hf.1 ⟨10, .data⟩ (by simp) rfl _ 15 rfl rfl (by decide)
        obtain ⟨c0, c1, c2, c3⟩ := cells4 (HM0.out wx hJ)
        exact wp_value (.iface 67 U) (by unfold execOp; go_simp) ⟨rfl, Below.refl _ _⟩
      | 12, ho =>
        obtain rfl := Option.some.inj ho
        have b2 : a.tmps[2]?.getD undef = .pointer (some ⟨B, 0, none⟩) := hf.2 2 (by kernel_rfl)
        exact wp_load_row 78 (.tmp 2) rfl (B) (eval_get b2) 78 _ (0, 0) _ (HM0.out wx hJ) Try.underlying78 rfl (info_say _ _ _ _) ⟨rfl, Below.refl _ _⟩
      | 13, ho =>
        obtain rfl := Option.some.inj ho
        have b3 : a.tmps[3]?.getD undef = .pointer (some ⟨B + 1, 0, none⟩) := hf.2 3 (by kernel_rfl)
        exact wp_load_row 23 (.tmp 3) rfl (B + 1) (eval_get b3) 23 _ (0, 0) _ (HN0.out wx hJ) Try.underlying23 rfl (info_rect _ _) ⟨rfl, Below.refl _ _⟩
      | 14, ho =>
        obtain rfl := Option.some.inj ho
        have e17 : a.tmps[17]?.getD undef = .agg #[.int .u8 wh, .int .i64 (s : Int), .iface 78 V, .iface 67 U] := hf.1 ⟨12, .data⟩ (by simp) rfl _ 17 rfl rfl (by decide)
        have e18 : a.tmps[18]?.getD undef = rect R C := hf.1 ⟨13, .data⟩ (by simp) rfl _ 18 rfl rfl (by decide)
        exact wp_enter 48 #[.agg #[.int .u8 wh, .int .i64 (s : Int), .iface 78 V, .iface 67 U], rect R C, .int .i64 1] (rect iR iC) _ (by unfold execOp; go_simp) (HPi.out _ _ _ _ wx) (fun w' h => ⟨rfl, h⟩)
      | 15, ho =>
        obtain rfl := Option.some.inj ho
        have e16 : a.tmps[16]?.getD undef = .iface 67 U := hf.1 ⟨11, .data⟩ (by simp) rfl _ 16 rfl rfl (by decide)
        exact wp_value (.iface 67 U) (by unfold execOp; go_simp) ⟨rfl, Below.refl _ _⟩
      | 16, ho =>
        obtain rfl := Option.some.inj ho
        have e16 : a.tmps[16]?.getD undef = .iface 67 U := hf.1 ⟨11, .data⟩ (by simp) rfl _ 16 rfl rfl (by decide)
        exact wp_value (.iface 67 U) (by unfold execOp; go_simp) ⟨rfl, Below.refl _ _⟩
      | 17, ho => exact absurd hki (by decide)
      | 18, ho => exact absurd hki (by decide)
      | 19, ho => exact absurd hki (by decide)
      | q + 20, ho => simp at ho
    case saLse =>
      intro a wx hI hf
      have e12 : a.tmps[12]?.getD undef = .iface 78 V := hf.1 ⟨7, .data⟩ (by simp) rfl _ 12 rfl rfl (by decide)
      have e10 : a.tmps[10]?.getD undef = rect oR oC := hf.1 ⟨5, .data⟩ (by simp) rfl _ 10 rfl rfl (by decide)
      refine wp_enterR 96 #[V, rect oR oC] (by unfold execOp; go_simp; go_invoke; rfl) (HZ.out wx) ?_
      intro v' w' h1
      exact ⟨v', rfl, Leaf.Own.lower h1 hI⟩
    case sbLse =>
      intro a wx x hI hv hf
      have e21 : a.tmps[21]?.getD undef = .iface 67 U := hf.1 ⟨16, .data⟩ (by simp) rfl _ 21 rfl rfl (by decide)
      have e19 : a.tmps[19]?.getD undef = rect iR iC := hf.1 ⟨14, .data⟩ (by simp) rfl _ 19 rfl rfl (by decide)
      refine wp_enterR 89 #[U, rect iR iC] (by unfold execOp; go_simp; go_invoke; rfl) (HO.out wx) ?_
      intro v' w' h1
      exact ⟨v', rfl, hI.later h1.below, Leaf.Own.lower h1 hI.below⟩
    case scLse =>
      intro a wx x y hI hv hu hf
      refine wp_append_two (w0 := W1) (.tmp 13) (.tmp 22) 65 rfl 69 i0 (.agg #[.int .i64 0, .int .i64 0, .int .i64 0]) 3 24 Try.underlying65 hi hz0 hz1 hz2 rfl (by decide) x y LZ.length LO.length (cellsL LZ) (cellsL LO) (eval_get (get_some hv)) hI.1 (eval_get (get_some hu)) hI.2 LM.out O1.out (by omega) (by decide) ?_
      intro v' w' h1
      exact ⟨v', rfl, h1⟩
    case sdLse =>
      intro a wx y hI hv hf
      have e23 := get_some hv
      exact wp_value y (by unfold execOp; go_simp) ⟨y, rfl, hI⟩
    intro k1 k2 k3 res w9 hI
    have HF : Hid (Own w w9 69 3 res (LZ.length + LO.length) (cellsL LZ ++ cellsL LO)) := Leaf.Own.lower hI HWW.out
    clear hI HM0 HN0 HWW
    simp only [fill, Act.put]
    go_simp
    go_wp2_with fail
    go_ret
    exact ⟨res, rfl, by rw [HRes.out, List.length_append, cellsL_append]; exact HF.out⟩
  · have HZ := Lib.hid hz
    have HO := Lib.hid ho
    rw [ez, eo]
    clear ez eo hz ho
    go_enter Try.func96, Try.ntmps96
    go_wp2_with fail
    obtain ⟨W1, hW1⟩ : ∃ W1, (w.alloc (.cells #[.int .u8 wh, .int .i64 (s : Int), .iface 78 V, .iface 78 U] 78)).alloc (.cells #[.int .i64 (R : Int), .int .i64 (C : Int)] 23) = W1 := ⟨_, rfl⟩
    rw [hW1]
    have HWW : Hid (Below w.heap.size w W1) := by
      have h0 : Below w.heap.size w (w.alloc (.cells #[.int .u8 wh, .int .i64 (s : Int), .iface 78 V, .iface 78 U] 78)) := (Below.refl _ _).alloc (Nat.le_refl _) _
      show Below _ _ _; rw [← hW1]; exact h0.alloc h0.size _
    have HM0 : Hid (∀ wx : World, Below W1.heap.size W1 wx → wx.heap[B]? = some (.cells #[.int .u8 wh, .int .i64 (s : Int), .iface 78 V, .iface 78 U] 78 (0, 0))) := fun wx h => by
      have h1 : (w.alloc (.cells #[.int .u8 wh, .int .i64 (s : Int), .iface 78 V, .iface 78 U] 78)).heap[w.heap.size]? = some (.cells #[.int .u8 wh, .int .i64 (s : Int), .iface 78 V, .iface 78 U] 78 (0, 0)) := heap_alloc_new w _
      have h0 : W1.heap[B]? = some (.cells #[.int .u8 wh, .int .i64 (s : Int), .iface 78 V, .iface 78 U] 78 (0, 0)) := by rw [← hW1, ← HBB.out]; rw [heap_alloc_old _ _ (Array.getElem?_eq_some_iff.1 h1).1]; exact h1
      exact (h.block _ (Array.getElem?_eq_some_iff.1 h0).1).trans h0
    have HN0 : Hid (∀ wx : World, Below W1.heap.size W1 wx → wx.heap[B + 1]? = some (.cells #[.int .i64 (R : Int), .int .i64 (C : Int)] 23 (0, 0))) := fun wx h => by
      have h0 : W1.heap[B + 1]? = some (.cells #[.int .i64 (R : Int), .int .i64 (C : Int)] 23 (0, 0)) := by
        rw [← hW1, ← HBB.out]
        have h2 := heap_alloc_new (w.alloc (.cells #[.int .u8 wh, .int .i64 (s : Int), .iface 78 V, .iface 78 U] 78)) (.cells #[.int .i64 (R : Int), .int .i64 (C : Int)] 23)
        rw [show (w.alloc (.cells #[.int .u8 wh, .int .i64 (s : Int), .iface 78 V, .iface 78 U] 78)).heap.size = w.heap.size + 1 by simp] at h2
        exact h2
      exact (h.block _ (Array.getElem?_eq_some_iff.1 h0).1).trans h0
    clear hW1 hB
    refine wp_region_chain4 (fun | 0 => .pointer (some ⟨B, 2, none⟩) | 1 => .pointer (some ⟨B, 2, none⟩) | 2 => .iface 78 V | 3 => .agg #[.int .u8 wh, .int .i64 (s : Int), .iface 78 V, .iface 78 U] | 4 => rect R C | 5 => rect oR oC | 6 => .iface 78 V | 7 => .iface 78 V | 9 => .pointer (some ⟨B, 2, none⟩) | 10 => .pointer (some ⟨B, 3, none⟩) | 11 => .iface 78 U | 12 => .agg #[.int .u8 wh, .int .i64 (s : Int), .iface 78 V, .iface 78 U] | 13 => rect R C | 14 => rect iR iC | 15 => .iface 78 U | 16 => .iface 78 U | _ => undef) (fun i => !(i == 8) && !(i == 17) && !(i == 18) && !(i == 19)) 8 17 18 19 13 22 23 4 _ _ _ _
      (fun w => Below W1.heap.size W1 w) (fun x w => Own W1 w 69 3 x LZ.length (cellsL LZ)) (fun x y w => Own W1 w 69 3 x LZ.length (cellsL LZ) ∧ Own W1 w 69 3 y LO.length (cellsL LO)) (fun y w => Own W1 w 69 3 y (LZ.length + LO.length) (cellsL LZ ++ cellsL LO)) (fun y w => Own W1 w 69 3 y (LZ.length + LO.length) (cellsL LZ ++ cellsL LO)) (fun w => Below W1.heap.size W1 w)
      (by kernel_rfl) (by kernel_rfl) rfl rfl rfl rfl rfl rfl rfl rfl rfl rfl (by decide) (by decide) (.inr ⟨14, _, rfl, ⟨⟨14, .chain⟩, (by simp), rfl, rfl⟩, ⟨8, .chain⟩, (by simp), rfl, rfl⟩) ⟨⟨17, .data⟩, (by simp), rfl, rfl⟩ ⟨⟨18, .data⟩, (by simp), rfl, rfl⟩ ?otLss ?h0Lss (fun w h => h) (fun v w h => h.below) (fun v u w h => h.1.below) (fun t w h => h.below) (fun t w h => h.below) (fun w w1 hb h => h.trans (hb.mono h.size)) (fun v w w1 hb h => h.later hb) (fun v u w w1 hb h => ⟨h.1.later hb, h.2.later hb⟩) (fun t w w1 hb h => h.later hb) (fun t w w1 hb h => h.later hb) ?conLss ?saLss ?sbLss ?scLss ?sdLss ?enLss
    case otLss =>
      intro i o ho hki
      match i, ho with
      | 0, ho =>
        obtain rfl := Option.some.inj ho
        exact ⟨by decide, by decide, by decide, by decide⟩
      | 1, ho =>
        obtain rfl := Option.some.inj ho
        exact ⟨by decide, by decide, by decide, by decide⟩
      | 2, ho =>
        obtain rfl := Option.some.inj ho
        exact ⟨by decide, by decide, by decide, by decide⟩
      | 3, ho =>
        obtain rfl := Option.some.inj ho
        exact ⟨by decide, by decide, by decide, by decide⟩
      | 4, ho =>
        obtain rfl := Option.some.inj ho
        exact ⟨by decide, by decide, by decide, by decide⟩
      | 5, ho =>
        obtain rfl := Option.some.inj ho
        exact ⟨by decide, by decide, by decide, by decide⟩
      | 6, ho =>
        obtain rfl := Option.some.inj ho
        exact ⟨by decide, by decide, by decide, by decide⟩
      | 7, ho =>
        obtain rfl := Option.some.inj ho
        exact ⟨by decide, by decide, by decide, by decide⟩
      | 8, ho => exact absurd hki (by decide)
      | 9, ho =>
        obtain rfl := Option.some.inj ho
        exact ⟨by decide, by decide, by decide, by decide⟩
      | 10, ho =>
        obtain rfl := Option.some.inj ho
        exact ⟨by decide, by decide, by decide, by decide⟩
      | 11, ho =>
        obtain rfl := Option.some.inj ho
        exact ⟨by decide, by decide, by decide, by decide⟩
      | 12, ho =>
        obtain rfl := Option.some.inj ho
        exact ⟨by decide, by decide, by decide, by decide⟩
      | 13, ho =>
        obtain rfl := Option.some.inj ho
        exact ⟨by decide, by decide, by decide, by decide⟩
      | 14, ho =>
        obtain rfl := Option.some.inj ho
        exact ⟨by decide, by decide, by decide, by decide⟩
      | 15, ho =>
        obtain rfl := Option.some.inj ho
        exact ⟨by decide, by decide, by decide, by decide⟩
      | 16, ho =>
        obtain rfl := Option.some.inj ho
        exact ⟨by decide, by decide, by decide, by decide⟩
      | 17, ho => exact absurd hki (by decide)
      | 18, ho => exact absurd hki (by decide)
      | 19, ho => exact absurd hki (by decide)
      | q + 20, ho => simp at ho
    case h0Lss => exact drew_at W1
    case conLss =>
      intro i o ho hki a wx hJ hf
      match i, ho with
      | 0, ho =>
        obtain rfl := Option.some.inj ho
        have b2 : a.tmps[2]?.getD undef = .pointer (some ⟨B, 0, none⟩) := hf.2 2 (by kernel_rfl)
        exact wp_value (.pointer (some ⟨B, 2, none⟩)) (by unfold execOp; go_simp) ⟨rfl, Below.refl _ _⟩
      | 1, ho =>
        obtain rfl := Option.some.inj ho
        have e5 : a.tmps[5]?.getD undef = .pointer (some ⟨B, 2, none⟩) := hf.1 ⟨0, .data⟩ (by simp) rfl _ 5 rfl rfl (by decide)
        exact wp_value (.pointer (some ⟨B, 2, none⟩)) (by unfold execOp; go_simp) ⟨rfl, Below.refl _ _⟩
      | 2, ho =>
        obtain rfl := Option.some.inj ho
        have e6 : a.tmps[6]?.getD undef = .pointer (some ⟨B, 2, none⟩) := hf.1 ⟨1, .data⟩ (by simp) rfl _ 6 rfl rfl (by decide)
        obtain ⟨c0, c1, c2, c3⟩ := cells4 (HM0.out wx hJ)
        exact wp_value (.iface 78 V) (by unfold execOp; go_simp) ⟨rfl, Below.refl _ _⟩
      | 3, ho =>
        obtain rfl := Option.some.inj ho
        have b2 : a.tmps[2]?.getD undef = .pointer (some ⟨B, 0, none⟩) := hf.2 2 (by kernel_rfl)
        exact wp_load_row 78 (.tmp 2) rfl (B) (eval_get b2) 78 _ (0, 0) _ (HM0.out wx hJ) Try.underlying78 rfl (info_say _ _ _ _) ⟨rfl, Below.refl _ _⟩
      | 4, ho =>
        obtain rfl := Option.some.inj ho
        have b3 : a.tmps[3]?.getD undef = .pointer (some ⟨B + 1, 0, none⟩) := hf.2 3 (by kernel_rfl)
        exact wp_load_row 23 (.tmp 3) rfl (B + 1) (eval_get b3) 23 _ (0, 0) _ (HN0.out wx hJ) Try.underlying23 rfl (info_rect _ _) ⟨rfl, Below.refl _ _⟩
      | 5, ho =>
        obtain rfl := Option.some.inj ho
        have e8 : a.tmps[8]?.getD undef = .agg #[.int .u8 wh, .int .i64 (s : Int), .iface 78 V, .iface 78 U] := hf.1 ⟨3, .data⟩ (by simp) rfl _ 8 rfl rfl (by decide)
        have e9 : a.tmps[9]?.getD undef = rect R C := hf.1 ⟨4, .data⟩ (by simp) rfl _ 9 rfl rfl (by decide)
        exact wp_enter 48 #[.agg #[.int .u8 wh, .int .i64 (s : Int), .iface 78 V, .iface 78 U], rect R C, .int .i64 0] (rect oR oC) _ (by unfold execOp; go_simp) (HPo.out _ _ _ _ wx) (fun w' h => ⟨rfl, h⟩)
      | 6, ho =>
        obtain rfl := Option.some.inj ho
        have e7 : a.tmps[7]?.getD undef = .iface 78 V := hf.1 ⟨2, .data⟩ (by simp) rfl _ 7 rfl rfl (by decide)
        exact wp_value (.iface 78 V) (by unfold execOp; go_simp) ⟨rfl, Below.refl _ _⟩
      | 7, ho =>
        obtain rfl := Option.some.inj ho
        have e7 : a.tmps[7]?.getD undef = .iface 78 V := hf.1 ⟨2, .data⟩ (by simp) rfl _ 7 rfl rfl (by decide)
        exact wp_value (.iface 78 V) (by unfold execOp; go_simp) ⟨rfl, Below.refl _ _⟩
      | 8, ho => exact absurd hki (by decide)
      | 9, ho =>
        obtain rfl := Option.some.inj ho
        have b2 : a.tmps[2]?.getD undef = .pointer (some ⟨B, 0, none⟩) := hf.2 2 (by kernel_rfl)
        exact wp_value (.pointer (some ⟨B, 2, none⟩)) (by unfold execOp; go_simp) ⟨rfl, Below.refl _ _⟩
      | 10, ho =>
        obtain rfl := Option.some.inj ho
        have e14 : a.tmps[14]?.getD undef = .pointer (some ⟨B, 2, none⟩) := hf.1 ⟨9, .data⟩ (by simp) rfl _ 14 rfl rfl (by decide)
        exact wp_value (.pointer (some ⟨B, 3, none⟩)) (by unfold execOp; go_simp) ⟨rfl, Below.refl _ _⟩
      | 11, ho =>
        obtain rfl := Option.some.inj ho
        have e15 : a.tmps[15]?.getD undef = .pointer (some ⟨B, 3, none⟩) := hf.1 ⟨10, .data⟩ (by simp) rfl _ 15 rfl rfl (by decide)
        obtain ⟨c0, c1, c2, c3⟩ := cells4 (HM0.out wx hJ)
        exact wp_value (.iface 78 U) (by unfold execOp; go_simp) ⟨rfl, Below.refl _ _⟩
      | 12, ho =>
        obtain rfl := Option.some.inj ho
        have b2 : a.tmps[2]?.getD undef = .pointer (some ⟨B, 0, none⟩) := hf.2 2 (by kernel_rfl)
        exact wp_load_row 78 (.tmp 2) rfl (B) (eval_get b2) 78 _ (0, 0) _ (HM0.out wx hJ) Try.underlying78 rfl (info_say _ _ _ _) ⟨rfl, Below.refl _ _⟩
      | 13, ho =>
        obtain rfl := Option.some.inj ho
        have b3 : a.tmps[3]?.getD undef = .pointer (some ⟨B + 1, 0, none⟩) := hf.2 3 (by kernel_rfl)
        exact wp_load_row 23 (.tmp 3) rfl (B + 1) (eval_get b3) 23 _ (0, 0) _ (HN0.out wx hJ) Try.underlying23 rfl (info_rect _ _) ⟨rfl, Below.refl _ _⟩
      | 14, ho =>
        obtain rfl := Option.some.inj ho
        have e17 : a.tmps[17]?.getD undef = .agg #[.int .u8 wh, .int .i64 (s : Int), .iface 78 V, .iface 78 U] := hf.1 ⟨12, .data⟩ (by simp) rfl _ 17 rfl rfl (by decide)
        have e18 : a.tmps[18]?.getD undef = rect R C := hf.1 ⟨13, .data⟩ (by simp) rfl _ 18 rfl rfl (by decide)
        exact wp_enter 48 #[.agg #[.int .u8 wh, .int .i64 (s : Int), .iface 78 V, .iface 78 U], rect R C, .int .i64 1] (rect iR iC) _ (by unfold execOp; go_simp) (HPi.out _ _ _ _ wx) (fun w' h => ⟨rfl, h⟩)
      | 15, ho =>
        obtain rfl := Option.some.inj ho
        have e16 : a.tmps[16]?.getD undef = .iface 78 U := hf.1 ⟨11, .data⟩ (by simp) rfl _ 16 rfl rfl (by decide)
        exact wp_value (.iface 78 U) (by unfold execOp; go_simp) ⟨rfl, Below.refl _ _⟩
      | 16, ho =>
        obtain rfl := Option.some.inj ho
        have e16 : a.tmps[16]?.getD undef = .iface 78 U := hf.1 ⟨11, .data⟩ (by simp) rfl _ 16 rfl rfl (by decide)
        exact wp_value (.iface 78 U) (by unfold execOp; go_simp) ⟨rfl, Below.refl _ _⟩
      | 17, ho => exact absurd hki (by decide)
      | 18, ho => exact absurd hki (by decide)
      | 19, ho => exact absurd hki (by decide)
      | q + 20, ho => simp at ho
    case saLss =>
      intro a wx hI hf
      have e12 : a.tmps[12]?.getD undef = .iface 78 V := hf.1 ⟨7, .data⟩ (by simp) rfl _ 12 rfl rfl (by decide)
      have e10 : a.tmps[10]?.getD undef = rect oR oC := hf.1 ⟨5, .data⟩ (by simp) rfl _ 10 rfl rfl (by decide)
      refine wp_enterR 96 #[V, rect oR oC] (by unfold execOp; go_simp; go_invoke; rfl) (HZ.out wx) ?_
      intro v' w' h1
      exact ⟨v', rfl, Leaf.Own.lower h1 hI⟩
    case sbLss =>
      intro a wx x hI hv hf
      have e21 : a.tmps[21]?.getD undef = .iface 78 U := hf.1 ⟨16, .data⟩ (by simp) rfl _ 21 rfl rfl (by decide)
      have e19 : a.tmps[19]?.getD undef = rect iR iC := hf.1 ⟨14, .data⟩ (by simp) rfl _ 19 rfl rfl (by decide)
      refine wp_enterR 96 #[U, rect iR iC] (by unfold execOp; go_simp; go_invoke; rfl) (HO.out wx) ?_
      intro v' w' h1
      exact ⟨v', rfl, hI.later h1.below, Leaf.Own.lower h1 hI.below⟩
    case scLss =>
      intro a wx x y hI hv hu hf
      refine wp_append_two (w0 := W1) (.tmp 13) (.tmp 22) 65 rfl 69 i0 (.agg #[.int .i64 0, .int .i64 0, .int .i64 0]) 3 24 Try.underlying65 hi hz0 hz1 hz2 rfl (by decide) x y LZ.length LO.length (cellsL LZ) (cellsL LO) (eval_get (get_some hv)) hI.1 (eval_get (get_some hu)) hI.2 LM.out O1.out (by omega) (by decide) ?_
      intro v' w' h1
      exact ⟨v', rfl, h1⟩
    case sdLss =>
      intro a wx y hI hv hf
      have e23 := get_some hv
      exact wp_value y (by unfold execOp; go_simp) ⟨y, rfl, hI⟩
    intro k1 k2 k3 res w9 hI
    have HF : Hid (Own w w9 69 3 res (LZ.length + LO.length) (cellsL LZ ++ cellsL LO)) := Leaf.Own.lower hI HWW.out
    clear hI HM0 HN0 HWW
    simp only [fill, Act.put]
    go_simp
    go_wp2_with fail
    go_ret
    exact ⟨res, rfl, by rw [HRes.out, List.length_append, cellsL_append]; exact HF.out⟩

theorem leaves_to (t : T) : (text t).length ≤ 2000 → Go.Proofs.Ytgfhahlkffagaaa.Count.Node 89 96 t (LeavesC t) := by
  induction t with
  | leaf b => intro _; exact .inl ⟨_, rfl, end_leaves b⟩
  | say a s z o ihz iho =>
    intro hl
    have hlz : (text (.say a s z o)).length = (text z).length + (text o).length + 3 := by simp [text]
    exact .inr ⟨_, rfl, say_leaves a s z o hl (ihz (by omega)) (iho (by omega))⟩
end Go.Proofs.Ytgfhahlkffagaaa.LeavesI

/-
  The program's rectangles of the ends.
-/
namespace Go.Proofs.Ytgfhahlkffagaaa.LeafRectsI
open Go.RowKit Go.Shelf Go.Proofs.Ytgfhahlkffagaaa.Plain Go.Proofs.Ytgfhahlkffagaaa.Tree Go.Proofs.Ytgfhahlkffagaaa.Read Go.Proofs.Ytgfhahlkffagaaa.Rect Go.Proofs.Ytgfhahlkffagaaa.TreeOf Go.Proofs.Ytgfhahlkffagaaa.TreeIn Go.Proofs.Ytgfhahlkffagaaa.App Go.Proofs.Ytgfhahlkffagaaa.Leaf Go.Proofs.Ytgfhahlkffagaaa.LeavesI
set_option linter.unusedVariables false
set_option maxRecDepth 100000
set_option linter.unusedSimpArgs false
theorem info_r : ∃ i, Try.prog.info? 23 = some i ∧ i.zero = some (.agg #[.int .i64 0, .int .i64 0]) ∧ i.size = 2 ∧ i.bytes = 16 := ⟨_, rfl, rfl, rfl, rfl⟩

theorem cellsL_get : ∀ (l : List (Nat × Nat × Bool)) (k : Nat) (h : k < l.length), (cellsL l)[k * 3]? = some (.int .i64 (l[k].1 : Int)) ∧ (cellsL l)[k * 3 + 1]? = some (.int .i64 (l[k].2.1 : Int)) ∧ (cellsL l)[k * 3 + 2]? = some (.int .i64 (bitI l[k].2.2))
  | [], k, h => by simp at h
  | p :: l, 0, h => by simp [cellsL]
  | p :: l, k + 1, h => by
    have ih := cellsL_get l k (by simpa using h)
    have e : cellsL (p :: l) = .int .i64 (p.1 : Int) :: .int .i64 (p.2.1 : Int) :: .int .i64 (bitI p.2.2) :: cellsL l := by simp [cellsL]
    have e0 : (k + 1) * 3 = k * 3 + 3 := by omega
    rw [e, e0]
    simpa using ih
theorem cellsR_take (l : List (Nat × Nat × Bool)) (k : Nat) (h : k < l.length) : cellsR (l.take (k + 1)) = cellsR (l.take k) ++ [.int .i64 (l[k].1 : Int), .int .i64 (l[k].2.1 : Int)] := by
  rw [List.take_succ_eq_append_getElem h, cellsR_append]
  simp [cellsR]
theorem cells_list {w : World} (cs : List Value) (ty : TypeId) : ∀ j u, cs[j]? = some u → (w.alloc (.cells cs.toArray ty)).cell? ((⟨w.heap.size, 0, none⟩ : Addr).add j) = some u := by
  intro j u hj
  have h := cell_of_row (w.alloc (.cells cs.toArray ty)) w.heap.size j cs.toArray ty (0, 0) (heap_alloc_new w _)
  have e : ((⟨w.heap.size, 0, none⟩ : Addr).add j) = ⟨w.heap.size, j, none⟩ := by
    simp [Addr.add]
    try exact fun h => h.symm
  rw [e, h]
  simpa using hj
theorem cells_list' {w : World} {n : Nat} (hn : w.heap.size = n) (cs : List Value) (ty : TypeId) : ∀ j u, cs[j]? = some u → (w.alloc (.cells cs.toArray ty)).cell? ((⟨n, 0, none⟩ : Addr).add j) = some u := by
  subst hn
  exact cells_list cs ty

set_option maxHeartbeats 4000000 in
set_option maxRecDepth 100000 in
theorem impl_nil (s : ByteArray) (r c : Int) (M N : Nat) (hI : ∀ W : World, Calls Try.prog 41 #[.string s, .int .i64 r, .int .i64 c] W fun e w' => e = .returned (.tuple #[.nilIface, rect M N]) ∧ Below W.heap.size W w') (w : World) :
    Calls Try.prog 20 #[.string s, .int .i64 r, .int .i64 c] w fun e w' => ∃ v, e = .returned v ∧ Own w w' 23 2 v 0 [] := by
  have HI := Lib.hid hI
  clear hI
  go_enter Try.func20, Try.ntmps20
  go_wp2_with fail
  refine (HI.out _).mono ?_
  rintro e w1 ⟨rfl, hb1⟩
  have HB1 := Lib.hid (hb1.alloc hb1.size (.cells #[.int .i64 (M : Int), .int .i64 (N : Int)] 23))
  clear hb1
  go_wp2_with fail
  go_ret
  exact ⟨.slice none 0 0, rfl, ⟨⟨by simp, .inl ⟨rfl, rfl⟩⟩, HB1.out⟩⟩

set_option maxHeartbeats 8000000 in
set_option maxRecDepth 100000 in
theorem impl_yes (s : ByteArray) (t : T) (hw : wf t) (h : s.data.toList = text t) (hs : s.size ≤ 2000) (r c : Nat) (hr : 1 ≤ r ∧ r ≤ 8) (hc : 1 ≤ c ∧ c ≤ 8) (w : World) :
    Calls Try.prog 20 #[.string s, .int .i64 (r : Int), .int .i64 (c : Int)] w fun e w' => ∃ v, e = .returned v ∧ Own w w' 23 2 v (leavesT t (allN r) (allN c)).length (cellsR (leavesT t (allN r) (allN c))) := by
  obtain ⟨_, p2, p3⟩ := pow_facts r hr
  obtain ⟨_, q2, q3⟩ := pow_facts c hc
  have hl : (text t).length = s.size := by rw [← h]; simp
  have hll := Nat.le_trans (leaves_length t (allN r) (allN c)) (show _ ≤ 2000 by omega)
  have HI := Lib.hid (in_yes s (tree t) (tree_yes s t hw h hs) r c hr hc)
  have hC := leaves_to t (by omega)
  unfold Go.Proofs.Ytgfhahlkffagaaa.Count.Node LeavesC at hC
  obtain ⟨i0, hi, hz0, hz1, hz2⟩ := info_r
  clear h hl hw
  rcases hC with ⟨V, ev, hv⟩ | ⟨V, ev, hv⟩
  · have HC := Lib.hid (fun W => hv (allN r) (allN c) W p3 q3)
    rw [ev] at HI
    clear ev hv
    generalize leavesT t (allN r) (allN c) = LA at *
    generalize allN r = M at *
    generalize allN c = N at *
    go_enter Try.func20, Try.ntmps20
    go_wp2_with fail
    refine (HI.out _).mono ?_
    rintro e w1 ⟨rfl, hb1⟩
    have HB1 := Lib.hid (hb1.alloc hb1.size (.cells #[.int .i64 (M : Int), .int .i64 (N : Int)] 23))
    clear hb1
    go_wp2_with fail
    refine (HC.out _).mono ?_
    rintro e w2 ⟨v, rfl, hO⟩
    have HB2 := Lib.hid (HB1.out.trans (hO.below.mono HB1.out.size))
    obtain ⟨p, cc, rfl⟩ := hO.slice
    have HCE : Hid (∀ k (hk : k < LA.length), ∃ g, p = some ⟨g, 0, none⟩ ∧ g < w2.heap.size ∧ w2.cell? ⟨g, k * 3, none⟩ = some (.int .i64 (LA[k].1 : Int)) ∧ w2.cell? ⟨g, k * 3 + 1, none⟩ = some (.int .i64 (LA[k].2.1 : Int)) ∧ w2.cell? ⟨g, k * 3 + 2, none⟩ = some (.int .i64 (bitI LA[k].2.2))) := fun k hk => by
      obtain ⟨g, hp, _, hg, h0⟩ := hO.cell (k * 3) (by omega)
      obtain ⟨g1, hp1, _, _, h1⟩ := hO.cell (k * 3 + 1) (by omega)
      obtain ⟨g2, hp2, _, _, h2⟩ := hO.cell (k * 3 + 2) (by omega)
      rw [hp] at hp1 hp2
      simp only [Option.some.injEq, Addr.mk.injEq, and_true] at hp1 hp2
      subst hp1 hp2
      obtain ⟨x0, x1, x2⟩ := cellsL_get LA k hk
      exact ⟨g, hp, hg, by rw [h0, x0], by rw [h1, x1], by rw [h2, x2]⟩
    clear hO HB1
    go_wp2_with fail
    go_loopw [9, 25] (fun l i wr => ∃ k : Nat, k ≤ LA.length ∧ i = .int .i64 (k : Int) ∧ Hid (Own w2 wr 23 2 l k (cellsR (LA.take k)))) (fun _ i _ => LA.length - (intOf i).toNat)
    case atStart => exact ⟨0, Nat.zero_le _, rfl, (Own.none w2 23 2 : Own w2 _ 23 2 _ 0 [])⟩
    case round =>
      obtain ⟨k, hk, rfl, HO⟩ := hrel
      by_cases hlt : k < LA.length
      · obtain ⟨g, hp, hg, y0, y1, y2⟩ := HCE.out k hlt
        subst hp
        have HN : Hid (cellsR (LA.take (k + 1)) = cellsR (LA.take k) ++ [.int .i64 (LA[k].1 : Int), .int .i64 (LA[k].2.1 : Int)]) := cellsR_take LA k hlt
        have hbw := HO.out.below
        have x0 := (hbw.cell (p := ⟨g, k * 3, none⟩) hg).trans y0
        have x1 := (hbw.cell (p := ⟨g, k * 3 + 1, none⟩) hg).trans y1
        have x2 := (hbw.cell (p := ⟨g, k * 3 + 2, none⟩) hg).trans y2
        generalize (LA[k].1 : Int) = R1 at *
        generalize (LA[k].2.1 : Int) = C1 at *
        generalize bitI LA[k].2.2 = b1 at *
        have HO2 := Lib.hid (HO.out.later ((Below.refl wr.heap.size wr).alloc (Nat.le_refl _) (.cells #[.int .i64 R1, .int .i64 C1, .int .i64 b1] 69)))
        obtain ⟨lp, lc, hlv⟩ := HO.out.slice
        subst hlv
        clear HO y0 y1 y2 hbw
        go_wp2_with (at_builtin; have HH := HO2.out; refine wpList_append_own _ rfl (.tmp 29) (.tmp 32) 38 rfl w2.heap.size 23 i0 (.agg #[.int .i64 0, .int .i64 0]) 2 16 Try.underlying38 hi hz0 hz1 hz2 rfl (by decide) _ _ _ rfl (HH.row.alloc _) ⟨wr.heap.size + 1, 0, none⟩ 1 1 [.int .i64 R1, .int .i64 C1] rfl rfl ?c11 ?c12 ?c13 ?c14 ?c15 ?c16; go_must (case c11 => exact (cells_list' (by simp) [.int .i64 R1, .int .i64 C1] _)); go_must (case c12 => simp [Value.oneCell']); go_must (case c13 => (unfold maxLen; omega)); go_must (case c14 => omega); go_must (case c15 => (have := HH.below.size; simp at this ⊢; omega)); go_must (clear HH; intro v3 w3 hown3 hgrow3 _; have H3 := Lib.hid (Own.next HO2.out _ hown3 hgrow3); clear HO2 hown3 hgrow3))
        go_wp2_with fail
        go_roundw
        case rel => exact ⟨k + 1, by omega, by go_num, by show Own _ _ _ _ _ _ _; rw [HN.out]; exact H3.out⟩
        case measure => simp [intOf]; omega
      · obtain rfl : k = LA.length := by omega
        have h := HO.out
        rw [List.take_length] at h
        have HF := Lib.hid (Leaf.Own.lower h HB2.out)
        clear h
        obtain ⟨lp, lc, hlv⟩ := HO.out.slice
        clear HO HCE
        go_wp2_with fail
        go_ret
        exact ⟨_, rfl, HF.out⟩
  · have HC := Lib.hid (fun W => hv (allN r) (allN c) W p3 q3)
    rw [ev] at HI
    clear ev hv
    generalize leavesT t (allN r) (allN c) = LA at *
    generalize allN r = M at *
    generalize allN c = N at *
    go_enter Try.func20, Try.ntmps20
    go_wp2_with fail
    refine (HI.out _).mono ?_
    rintro e w1 ⟨rfl, hb1⟩
    have HB1 := Lib.hid (hb1.alloc hb1.size (.cells #[.int .i64 (M : Int), .int .i64 (N : Int)] 23))
    clear hb1
    go_wp2_with fail
    refine (HC.out _).mono ?_
    rintro e w2 ⟨v, rfl, hO⟩
    have HB2 := Lib.hid (HB1.out.trans (hO.below.mono HB1.out.size))
    obtain ⟨p, cc, rfl⟩ := hO.slice
    have HCE : Hid (∀ k (hk : k < LA.length), ∃ g, p = some ⟨g, 0, none⟩ ∧ g < w2.heap.size ∧ w2.cell? ⟨g, k * 3, none⟩ = some (.int .i64 (LA[k].1 : Int)) ∧ w2.cell? ⟨g, k * 3 + 1, none⟩ = some (.int .i64 (LA[k].2.1 : Int)) ∧ w2.cell? ⟨g, k * 3 + 2, none⟩ = some (.int .i64 (bitI LA[k].2.2))) := fun k hk => by
      obtain ⟨g, hp, _, hg, h0⟩ := hO.cell (k * 3) (by omega)
      obtain ⟨g1, hp1, _, _, h1⟩ := hO.cell (k * 3 + 1) (by omega)
      obtain ⟨g2, hp2, _, _, h2⟩ := hO.cell (k * 3 + 2) (by omega)
      rw [hp] at hp1 hp2
      simp only [Option.some.injEq, Addr.mk.injEq, and_true] at hp1 hp2
      subst hp1 hp2
      obtain ⟨x0, x1, x2⟩ := cellsL_get LA k hk
      exact ⟨g, hp, hg, by rw [h0, x0], by rw [h1, x1], by rw [h2, x2]⟩
    clear hO HB1
    go_wp2_with fail
    go_loopw [9, 25] (fun l i wr => ∃ k : Nat, k ≤ LA.length ∧ i = .int .i64 (k : Int) ∧ Hid (Own w2 wr 23 2 l k (cellsR (LA.take k)))) (fun _ i _ => LA.length - (intOf i).toNat)
    case atStart => exact ⟨0, Nat.zero_le _, rfl, (Own.none w2 23 2 : Own w2 _ 23 2 _ 0 [])⟩
    case round =>
      obtain ⟨k, hk, rfl, HO⟩ := hrel
      by_cases hlt : k < LA.length
      · obtain ⟨g, hp, hg, y0, y1, y2⟩ := HCE.out k hlt
        subst hp
        have HN : Hid (cellsR (LA.take (k + 1)) = cellsR (LA.take k) ++ [.int .i64 (LA[k].1 : Int), .int .i64 (LA[k].2.1 : Int)]) := cellsR_take LA k hlt
        have hbw := HO.out.below
        have x0 := (hbw.cell (p := ⟨g, k * 3, none⟩) hg).trans y0
        have x1 := (hbw.cell (p := ⟨g, k * 3 + 1, none⟩) hg).trans y1
        have x2 := (hbw.cell (p := ⟨g, k * 3 + 2, none⟩) hg).trans y2
        generalize (LA[k].1 : Int) = R1 at *
        generalize (LA[k].2.1 : Int) = C1 at *
        generalize bitI LA[k].2.2 = b1 at *
        have HO2 := Lib.hid (HO.out.later ((Below.refl wr.heap.size wr).alloc (Nat.le_refl _) (.cells #[.int .i64 R1, .int .i64 C1, .int .i64 b1] 69)))
        obtain ⟨lp, lc, hlv⟩ := HO.out.slice
        subst hlv
        clear HO y0 y1 y2 hbw
        go_wp2_with (at_builtin; have HH := HO2.out; refine wpList_append_own _ rfl (.tmp 29) (.tmp 32) 38 rfl w2.heap.size 23 i0 (.agg #[.int .i64 0, .int .i64 0]) 2 16 Try.underlying38 hi hz0 hz1 hz2 rfl (by decide) _ _ _ rfl (HH.row.alloc _) ⟨wr.heap.size + 1, 0, none⟩ 1 1 [.int .i64 R1, .int .i64 C1] rfl rfl ?c21 ?c22 ?c23 ?c24 ?c25 ?c26; go_must (case c21 => exact (cells_list' (by simp) [.int .i64 R1, .int .i64 C1] _)); go_must (case c22 => simp [Value.oneCell']); go_must (case c23 => (unfold maxLen; omega)); go_must (case c24 => omega); go_must (case c25 => (have := HH.below.size; simp at this ⊢; omega)); go_must (clear HH; intro v3 w3 hown3 hgrow3 _; have H3 := Lib.hid (Own.next HO2.out _ hown3 hgrow3); clear HO2 hown3 hgrow3))
        go_wp2_with fail
        go_roundw
        case rel => exact ⟨k + 1, by omega, by go_num, by show Own _ _ _ _ _ _ _; rw [HN.out]; exact H3.out⟩
        case measure => simp [intOf]; omega
      · obtain rfl : k = LA.length := by omega
        have h := HO.out
        rw [List.take_length] at h
        have HF := Lib.hid (Leaf.Own.lower h HB2.out)
        clear h
        obtain ⟨lp, lc, hlv⟩ := HO.out.slice
        clear HO HCE
        go_wp2_with fail
        go_ret
        exact ⟨_, rfl, HF.out⟩
end Go.Proofs.Ytgfhahlkffagaaa.LeafRectsI

