/-
  A region that draws its order, with four operations that come one after another (each takes what the one before gives, or is chained to it); the others read or only make memory: each walked once.
-/
import Derived.Test.YtbccachkkflceaaDoorFreeW
namespace Go.Proofs.YtbccachkkflceaaDoor.FreeC4
open Go Go.RowKit Go.Proofs.YtbccachkkflceaaDoor.Free Go.Proofs.YtbccachkkflceaaDoor.FreeT Go.Proofs.YtbccachkkflceaaDoor.FreeW
set_option linter.unusedVariables false

section
variable {P : Program} {ops : Array Oper}

set_option maxHeartbeats 2000000 in
theorem wp_region_chain4 {id n : Nat} {a0 : Act} {w0 : World} {Q : Exit → Act → World → Prop} (con : Nat → Value) (kn : Nat → Bool) (s1 s2 s3 s4 d1 d2 d3 d4 : Nat) (o1 o2 o3 o4 : Oper)
    (I0 : World → Prop) (I1 : Value → World → Prop) (I2 : Value → Value → World → Prop) (I3 : Value → World → Prop) (I4 : Value → World → Prop) (J : World → Prop)
    (hm : P.follows .mixedOrders = true) (hB : freeB ops n = true) (hn : a0.tmps.size = n)
    (hs1 : ops[s1]? = some o1) (hd1 : o1.dst = some d1) (hs2 : ops[s2]? = some o2) (hd2 : o2.dst = some d2) (hs3 : ops[s3]? = some o3) (hd3 : o3.dst = some d3) (hs4 : ops[s4]? = some o4) (hd4 : o4.dst = some d4)
    (hk : kn = fun i => !(i == s1) && !(i == s2) && !(i == s3) && !(i == s4)) (hne : [s1, s2, s3, s4].Nodup) (hdd : [d1, d2, d3, d4].Nodup)
    (hdep12 : (∃ e ∈ o2.after, Region.binds .any e = true ∧ e.on = s1) ∨ ∃ (m : Nat) (om : Oper), ops[m]? = some om ∧ (∃ e ∈ o2.after, Region.binds .any e = true ∧ e.on = m) ∧ ∃ e ∈ om.after, Region.binds .any e = true ∧ e.on = s1) (hdep23 : ∃ e ∈ o3.after, Region.binds .any e = true ∧ e.on = s2) (hdep34 : ∃ e ∈ o4.after, Region.binds .any e = true ∧ e.on = s3)
    (hoth : ∀ (i : Nat) (o : Oper), ops[i]? = some o → kn i = true → o.dst ≠ some d1 ∧ o.dst ≠ some d2 ∧ o.dst ≠ some d3 ∧ o.dst ≠ some d4)
    (h0 : I0 { w0 with drawn := w0.drawn + 1 })
    (J0 : ∀ w, I0 w → J w) (J1 : ∀ v w, I1 v w → J w) (J2 : ∀ v u w, I2 v u w → J w) (J3 : ∀ t w, I3 t w → J w) (J4 : ∀ t w, I4 t w → J w)
    (L0 : ∀ w w', Below w.heap.size w w' → I0 w → I0 w') (L1 : ∀ v w w', Below w.heap.size w w' → I1 v w → I1 v w') (L2 : ∀ v u w w', Below w.heap.size w w' → I2 v u w → I2 v u w') (L3 : ∀ t w w', Below w.heap.size w w' → I3 t w → I3 t w') (L4 : ∀ t w w', Below w.heap.size w w' → I4 t w → I4 t w')
    (hcon : ∀ (i : Nat) (o : Oper), ops[i]? = some o → kn i = true → ∀ (a : Act) (w : World), J w → FactsA ops a0 con kn o a →
      o.wp P a w (fun a' w' => a' = a.put o.dst (con i) ∧ Below w.heap.size w w') Q)
    (h1 : ∀ (a : Act) (w : World), I0 w → FactsA ops a0 con kn o1 a → o1.wp P a w (fun a' w' => ∃ v, a' = a.put o1.dst v ∧ I1 v w') Q)
    (h2 : ∀ (a : Act) (w : World) (v : Value), I1 v w → a.tmps[d1]? = some v → FactsA ops a0 con kn o2 a → o2.wp P a w (fun a' w' => ∃ u, a' = a.put o2.dst u ∧ I2 v u w') Q)
    (h3 : ∀ (a : Act) (w : World) (v u : Value), I2 v u w → a.tmps[d1]? = some v → a.tmps[d2]? = some u → FactsA ops a0 con kn o3 a → o3.wp P a w (fun a' w' => ∃ t, a' = a.put o3.dst t ∧ I3 t w') Q)
    (h4 : ∀ (a : Act) (w : World) (t : Value), I3 t w → a.tmps[d3]? = some t → FactsA ops a0 con kn o4 a → o4.wp P a w (fun a' w' => ∃ x, a' = a.put o4.dst x ∧ I4 x w') Q)
    (hend : ∀ (v u t x : Value) (w : World), I4 x w → Q .normal (fill ops.toList (fun i => if i = s1 then v else if i = s2 then u else if i = s3 then t else if i = s4 then x else con i) 0 a0) w) : (Code.region id ops true).wp P Q a0 w0 := by
  have hB2 := hB
  simp only [freeB, Bool.and_eq_true, decide_eq_true_eq] at hB2
  obtain ⟨⟨q1, q2⟩, _⟩ := hB2
  have hdn : ∀ (o : Oper) (k : Tmp), o ∈ ops.toList → o.dst = some k → k < n := fun o k ho hk => by
    have := List.all_eq_true.1 q1 o ho
    simp only [Bool.and_eq_true, hk] at this
    simpa using this.2
  have hd1n : d1 < n := hdn o1 d1 (by simpa using Array.mem_of_getElem? hs1) hd1
  have hd2n : d2 < n := hdn o2 d2 (by simpa using Array.mem_of_getElem? hs2) hd2
  have hd3n : d3 < n := hdn o3 d3 (by simpa using Array.mem_of_getElem? hs3) hd3
  have hd4n : d4 < n := hdn o4 d4 (by simpa using Array.mem_of_getElem? hs4) hd4
  obtain ⟨n12, n13, n14, n23, n24, n34⟩ : s1 ≠ s2 ∧ s1 ≠ s3 ∧ s1 ≠ s4 ∧ s2 ≠ s3 ∧ s2 ≠ s4 ∧ s3 ≠ s4 := by
    simp only [List.nodup_cons, List.mem_cons, List.not_mem_nil, or_false, not_or] at hne
    exact ⟨hne.1.1, hne.1.2.1, hne.1.2.2, hne.2.1.1, hne.2.1.2, hne.2.2.1⟩
  obtain ⟨m12, m13, m14, m23, m24, m34⟩ : d1 ≠ d2 ∧ d1 ≠ d3 ∧ d1 ≠ d4 ∧ d2 ≠ d3 ∧ d2 ≠ d4 ∧ d3 ≠ d4 := by
    simp only [List.nodup_cons, List.mem_cons, List.not_mem_nil, or_false, not_or] at hdd
    exact ⟨hdd.1.1, hdd.1.2.1, hdd.1.2.2, hdd.2.1.1, hdd.2.1.2, hdd.2.2.1⟩
  have hkt : ∀ i, kn i = true ↔ i ≠ s1 ∧ i ≠ s2 ∧ i ≠ s3 ∧ i ≠ s4 := fun i => by
    rw [hk]; simp [and_assoc]
  let Y : Nat → Value → Act → World → Prop := fun i v a w => kn i = true → v = con i
  let S : (Nat → Bool) → Act → World → Prop := fun g a w =>
    (g s1 = false ∧ g s2 = false ∧ g s3 = false ∧ g s4 = false ∧ I0 w) ∨
    (g s1 = true ∧ g s2 = false ∧ g s3 = false ∧ g s4 = false ∧ ∃ v, a.tmps[d1]? = some v ∧ I1 v w) ∨
    (g s1 = true ∧ g s2 = true ∧ g s3 = false ∧ g s4 = false ∧ ∃ v u, a.tmps[d1]? = some v ∧ a.tmps[d2]? = some u ∧ I2 v u w) ∨
    (g s1 = true ∧ g s2 = true ∧ g s3 = true ∧ g s4 = false ∧ ∃ t, a.tmps[d3]? = some t ∧ I3 t w) ∨
    (g s1 = true ∧ g s2 = true ∧ g s3 = true ∧ g s4 = true ∧ ∃ x, a.tmps[d4]? = some x ∧ I4 x w)
  have facts : ∀ (listed : Array Bool) (o : Oper) (a : Act) (w : World), MidA ops a0 Y S listed a w → (∀ e ∈ o.after, Region.binds .any e = true → listed.getD e.on false = true) → FactsA ops a0 con kn o a := by
    intro listed o a w hM hdl
    refine ⟨fun e he hb oj dj hoj hdj hkn => ?_, fun k hk => ?_⟩
    · obtain ⟨v, hv, hvd⟩ := hM.new e.on oj hoj (hdl e he hb)
      rw [hvd dj hdj, ← hv hkn]
      rfl
    · rw [hM.old k fun i o' ho' hd' => ?_]
      have := List.all_eq_true.1 hk o' (by simpa using Array.mem_of_getElem? ho')
      simp [hd'] at this
  refine wp_region_freeA (Y := Y) (S := S) hm hB hn (.inl ⟨rfl, rfl, rfl, rfl, h0⟩) ?_ ?_
  · intro i o ho listed a w hM hu hdl
    have hF := facts listed o a w hM hdl
    have hW := hM.world
    have hsz : a.tmps.size = n := hM.size.trans hn
    have hput : ∀ (d : Nat) (v : Value), d < n → (a.put (some d) v).tmps[d]? = some v := fun d v hd => by simp [Act.put, hsz, hd]
    by_cases e1 : i = s1
    · subst e1
      obtain rfl : o = o1 := Option.some.inj (ho.symm.trans hs1)
      rcases hW with ⟨l1, l2, l3, l4, hI⟩ | ⟨l1, _⟩ | ⟨l1, _⟩ | ⟨l1, _⟩ | ⟨l1, _⟩
      · refine Oper.wp_mono ?_ (h1 a w hI hF)
        rintro a' w' ⟨v, rfl, hv⟩
        refine ⟨v, rfl, fun h => absurd rfl ((hkt _).1 h).1, .inr (.inl ⟨by simp, ?_, ?_, ?_, v, by rw [hd1]; exact hput d1 v hd1n, hv⟩), fun j u _ _ hY => hY⟩
        · show (if s2 = i then true else listed.getD s2 false) = false
          rw [if_neg (Ne.symm n12)]; exact l2
        · show (if s3 = i then true else listed.getD s3 false) = false
          rw [if_neg (Ne.symm n13)]; exact l3
        · show (if s4 = i then true else listed.getD s4 false) = false
          rw [if_neg (Ne.symm n14)]; exact l4
      all_goals
        have l1' : listed.getD i false = true := l1
        rw [hu] at l1'
        cases l1'
    by_cases e2 : i = s2
    · subst e2
      obtain rfl : o = o2 := Option.some.inj (ho.symm.trans hs2)
      have hl1 : listed.getD s1 false = true := by
        rcases hdep12 with ⟨e, he, hb, heq⟩ | ⟨m, om, hm', ⟨e, he, hb, heq⟩, e', he', hb', heq'⟩
        · have h := hdl e he hb
          rw [heq] at h
          exact h
        · have h := hdl e he hb
          rw [heq] at h
          have h' := hM.closed m om hm' h e' he' hb'
          rw [heq'] at h'
          exact h'
      rcases hW with ⟨l1, _⟩ | ⟨l1, l2, l3, l4, v, hv, hI⟩ | ⟨l1, l2, _⟩ | ⟨l1, l2, _⟩ | ⟨l1, l2, _⟩
      · have l1' : listed.getD s1 false = false := l1
        rw [hl1] at l1'
        cases l1'
      · refine Oper.wp_mono ?_ (h2 a w v hI hv hF)
        rintro a' w' ⟨u, rfl, hu'⟩
        refine ⟨u, rfl, fun h => absurd rfl ((hkt _).1 h).2.1, .inr (.inr (.inl ⟨?_, by simp, ?_, ?_, v, u, ?_, by rw [hd2]; exact hput d2 u hd2n, hu'⟩)), fun j u _ _ hY => hY⟩
        · show (if s1 = i then true else listed.getD s1 false) = true
          rw [if_neg n12]; exact hl1
        · show (if s3 = i then true else listed.getD s3 false) = false
          rw [if_neg (Ne.symm n23)]; exact l3
        · show (if s4 = i then true else listed.getD s4 false) = false
          rw [if_neg (Ne.symm n24)]; exact l4
        · rw [put_other (by rw [hd2]; simp; omega)]; exact hv
      all_goals
        have l2' : listed.getD i false = true := l2
        rw [hu] at l2'
        cases l2'
    by_cases e3 : i = s3
    · subst e3
      obtain rfl : o = o3 := Option.some.inj (ho.symm.trans hs3)
      obtain ⟨e, he, hb, heq⟩ := hdep23
      have hl2 := hdl e he hb
      rw [heq] at hl2
      rcases hW with ⟨l1, l2, _⟩ | ⟨l1, l2, _⟩ | ⟨l1, l2, l3, l4, v, u, hv, hu2, hI⟩ | ⟨l1, l2, l3, _⟩ | ⟨l1, l2, l3, _⟩
      · have l2' : listed.getD s2 false = false := l2
        rw [hl2] at l2'
        cases l2'
      · have l2' : listed.getD s2 false = false := l2
        rw [hl2] at l2'
        cases l2'
      · refine Oper.wp_mono ?_ (h3 a w v u hI hv hu2 hF)
        rintro a' w' ⟨t, rfl, ht⟩
        refine ⟨t, rfl, fun h => absurd rfl ((hkt _).1 h).2.2.1, .inr (.inr (.inr (.inl ⟨?_, ?_, by simp, ?_, t, by rw [hd3]; exact hput d3 t hd3n, ht⟩))), fun j u _ _ hY => hY⟩
        · show (if s1 = i then true else listed.getD s1 false) = true
          rw [if_neg n13]; exact l1
        · show (if s2 = i then true else listed.getD s2 false) = true
          rw [if_neg n23]; exact hl2
        · show (if s4 = i then true else listed.getD s4 false) = false
          rw [if_neg (Ne.symm n34)]; exact l4
      all_goals
        have l3' : listed.getD i false = true := l3
        rw [hu] at l3'
        cases l3'
    by_cases e4 : i = s4
    · subst e4
      obtain rfl : o = o4 := Option.some.inj (ho.symm.trans hs4)
      obtain ⟨e, he, hb, heq⟩ := hdep34
      have hl3 := hdl e he hb
      rw [heq] at hl3
      rcases hW with ⟨l1, l2, l3, _⟩ | ⟨l1, l2, l3, _⟩ | ⟨l1, l2, l3, _⟩ | ⟨l1, l2, l3, l4, t, ht, hI⟩ | ⟨l1, l2, l3, l4, _⟩
      · have l3' : listed.getD s3 false = false := l3
        rw [hl3] at l3'
        cases l3'
      · have l3' : listed.getD s3 false = false := l3
        rw [hl3] at l3'
        cases l3'
      · have l3' : listed.getD s3 false = false := l3
        rw [hl3] at l3'
        cases l3'
      · refine Oper.wp_mono ?_ (h4 a w t hI ht hF)
        rintro a' w' ⟨x, rfl, hx⟩
        refine ⟨x, rfl, fun h => absurd rfl ((hkt _).1 h).2.2.2, .inr (.inr (.inr (.inr ⟨?_, ?_, ?_, by simp, x, by rw [hd4]; exact hput d4 x hd4n, hx⟩))), fun j u _ _ hY => hY⟩
        · show (if s1 = i then true else listed.getD s1 false) = true
          rw [if_neg n14]; exact l1
        · show (if s2 = i then true else listed.getD s2 false) = true
          rw [if_neg n24]; exact l2
        · show (if s3 = i then true else listed.getD s3 false) = true
          rw [if_neg n34]; exact hl3
      · have l4' : listed.getD i false = true := l4
        rw [hu] at l4'
        cases l4'
    have hki : kn i = true := (hkt i).2 ⟨e1, e2, e3, e4⟩
    obtain ⟨x1, x2, x3, x4⟩ := hoth i o ho hki
    have hJ : J w := by
      rcases hW with ⟨_, _, _, _, hI⟩ | ⟨_, _, _, _, v, _, hI⟩ | ⟨_, _, _, _, v, u, _, _, hI⟩ | ⟨_, _, _, _, t, _, hI⟩ | ⟨_, _, _, _, t, _, hI⟩
      · exact J0 w hI
      · exact J1 v w hI
      · exact J2 v u w hI
      · exact J3 t w hI
      · exact J4 t w hI
    refine Oper.wp_mono ?_ (hcon i o ho hki a w hJ hF)
    rintro a' w' ⟨rfl, hbl⟩
    refine ⟨con i, rfl, fun _ => rfl, ?_, fun j u _ _ hY => hY⟩
    have g1 : (if s1 = i then true else listed.getD s1 false) = listed.getD s1 false := if_neg (Ne.symm e1)
    have g2 : (if s2 = i then true else listed.getD s2 false) = listed.getD s2 false := if_neg (Ne.symm e2)
    have g3 : (if s3 = i then true else listed.getD s3 false) = listed.getD s3 false := if_neg (Ne.symm e3)
    have g4 : (if s4 = i then true else listed.getD s4 false) = listed.getD s4 false := if_neg (Ne.symm e4)
    show ((if s1 = i then true else listed.getD s1 false) = false ∧ (if s2 = i then true else listed.getD s2 false) = false ∧ (if s3 = i then true else listed.getD s3 false) = false ∧ (if s4 = i then true else listed.getD s4 false) = false ∧ I0 w') ∨
      ((if s1 = i then true else listed.getD s1 false) = true ∧ (if s2 = i then true else listed.getD s2 false) = false ∧ (if s3 = i then true else listed.getD s3 false) = false ∧ (if s4 = i then true else listed.getD s4 false) = false ∧ ∃ v, (a.put o.dst (con i)).tmps[d1]? = some v ∧ I1 v w') ∨
      ((if s1 = i then true else listed.getD s1 false) = true ∧ (if s2 = i then true else listed.getD s2 false) = true ∧ (if s3 = i then true else listed.getD s3 false) = false ∧ (if s4 = i then true else listed.getD s4 false) = false ∧ ∃ v u, (a.put o.dst (con i)).tmps[d1]? = some v ∧ (a.put o.dst (con i)).tmps[d2]? = some u ∧ I2 v u w') ∨
      ((if s1 = i then true else listed.getD s1 false) = true ∧ (if s2 = i then true else listed.getD s2 false) = true ∧ (if s3 = i then true else listed.getD s3 false) = true ∧ (if s4 = i then true else listed.getD s4 false) = false ∧ ∃ t, (a.put o.dst (con i)).tmps[d3]? = some t ∧ I3 t w') ∨
      ((if s1 = i then true else listed.getD s1 false) = true ∧ (if s2 = i then true else listed.getD s2 false) = true ∧ (if s3 = i then true else listed.getD s3 false) = true ∧ (if s4 = i then true else listed.getD s4 false) = true ∧ ∃ x, (a.put o.dst (con i)).tmps[d4]? = some x ∧ I4 x w')
    rw [g1, g2, g3, g4, put_other x1, put_other x2, put_other x3, put_other x4]
    rcases hW with ⟨l1, l2, l3, l4, hI⟩ | ⟨l1, l2, l3, l4, v, hv, hI⟩ | ⟨l1, l2, l3, l4, v, u, hv, hu2, hI⟩ | ⟨l1, l2, l3, l4, t, ht, hI⟩ | ⟨l1, l2, l3, l4, t, ht, hI⟩
    · exact .inl ⟨l1, l2, l3, l4, L0 w w' hbl hI⟩
    · exact .inr (.inl ⟨l1, l2, l3, l4, v, hv, L1 v w w' hbl hI⟩)
    · exact .inr (.inr (.inl ⟨l1, l2, l3, l4, v, u, hv, hu2, L2 v u w w' hbl hI⟩))
    · exact .inr (.inr (.inr (.inl ⟨l1, l2, l3, l4, t, ht, L3 t w w' hbl hI⟩)))
    · exact .inr (.inr (.inr (.inr ⟨l1, l2, l3, l4, t, ht, L4 t w w' hbl hI⟩)))
  · intro vs w hS hall
    have hlt : ∀ (s : Nat) (o : Oper), ops[s]? = some o → decide (s < ops.size) = true := fun s o h => decide_eq_true (Array.getElem?_eq_some_iff.1 h).1
    have f4 : (fill ops.toList vs 0 a0).tmps[d4]? = some (vs s4) := by rw [fill_at d4 ops.toList vs 0 a0 s4 o4 (by simpa using hs4) hd4 q2 (by rw [hn]; exact hd4n), Nat.zero_add]
    rcases hS with ⟨l1, _⟩ | ⟨_, l2, _⟩ | ⟨_, _, l3, _⟩ | ⟨_, _, _, l4, _⟩ | ⟨_, _, _, _, x, hx, hI⟩
    · have l1' : decide (s1 < ops.size) = false := l1
      rw [hlt s1 o1 hs1] at l1'
      cases l1'
    · have l2' : decide (s2 < ops.size) = false := l2
      rw [hlt s2 o2 hs2] at l2'
      cases l2'
    · have l3' : decide (s3 < ops.size) = false := l3
      rw [hlt s3 o3 hs3] at l3'
      cases l3'
    · have l4' : decide (s4 < ops.size) = false := l4
      rw [hlt s4 o4 hs4] at l4'
      cases l4'
    · rw [f4] at hx
      obtain rfl := Option.some.inj hx
      have hc := hend (vs s1) (vs s2) (vs s3) (vs s4) w hI
      rw [fill_congr ops.toList vs (fun i => if i = s1 then vs s1 else if i = s2 then vs s2 else if i = s3 then vs s3 else if i = s4 then vs s4 else con i) 0 a0 (fun i hi => ?_)]
      · exact hc
      · rw [Nat.zero_add]
        show vs i = if i = s1 then vs s1 else if i = s2 then vs s2 else if i = s3 then vs s3 else if i = s4 then vs s4 else con i
        by_cases e1 : i = s1
        · rw [if_pos e1, e1]
        by_cases e2 : i = s2
        · rw [if_neg e1, if_pos e2, e2]
        by_cases e3 : i = s3
        · rw [if_neg e1, if_neg e2, if_pos e3, e3]
        by_cases e4 : i = s4
        · rw [if_neg e1, if_neg e2, if_neg e3, if_pos e4, e4]
        rw [if_neg e1, if_neg e2, if_neg e3, if_neg e4]
        have hi' : i < ops.size := by simpa using hi
        exact hall i ops[i] (by simp [hi']) ((hkt i).2 ⟨e1, e2, e3, e4⟩)
end
end Go.Proofs.YtbccachkkflceaaDoor.FreeC4
