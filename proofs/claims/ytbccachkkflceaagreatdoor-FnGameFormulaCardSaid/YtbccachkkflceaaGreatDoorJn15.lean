/-
  Texts of one seat, joined: FreeC4, FmApp.
-/
import Derived.Test.YtbccachkkflceaaGreatDoorJn1
import Derived.Test.YtbccachkkflceaaGreatDoorJn14
import Derived.Test.YtbccachkkflceaaGreatDoorJn10
import Derived.Test.YtbccachkkflceaaGreatDoorJn13
/-
  A region that draws its order, with four operations that come one after another (each takes what the one before gives, or is chained to it); the others read or only make memory: each walked once.
-/
namespace Go.Proofs.YtbccachkkflceaaGreatDoor.FreeC4
open Go Go.RowKit Go.Proofs.YtbccachkkflceaaGreatDoor.Free Go.Proofs.YtbccachkkflceaaGreatDoor.FreeT Go.Proofs.YtbccachkkflceaaGreatDoor.FreeW
set_option linter.unusedVariables false

section
variable {P : Program} {ops : Array Oper}

set_option maxHeartbeats 2000000 in
theorem wp_region_chain4 {id n : Nat} {a0 : Act} {w0 : World} {Q : Exit → Act → World → Prop} (con : Nat → Value) (kn : Nat → Bool) (s1 s2 s3 s4 d1 d2 d3 d4 : Nat) (o1 o2 o3 o4 : Oper)
    (I0 : World → Prop) (I1 : Value → World → Prop) (I2 : Value → Value → World → Prop) (I3 : Value → World → Prop) (I4 : Value → World → Prop) (J : World → Prop)
    (hm : P.follows .mixedOrders = true) (hB : freeB ops n = true) (hn : a0.tmps.size = n)
    (hs1 : ops[s1]? = some o1) (hd1 : o1.dst = some d1) (hs2 : ops[s2]? = some o2) (hd2 : o2.dst = some d2) (hs3 : ops[s3]? = some o3) (hd3 : o3.dst = some d3) (hs4 : ops[s4]? = some o4) (hd4 : o4.dst = some d4)
    (hk : kn = fun i => !(i == s1) && !(i == s2) && !(i == s3) && !(i == s4)) (hne : [s1, s2, s3, s4].Nodup) (hdd : [d1, d2, d3, d4].Nodup)
    (hdep12 : (∃ e ∈ o2.after, Region.binds .any e = true ∧ e.on = s1) ∨ ∃ (m : Nat) (om : Oper), ops[m]? = some om ∧ (∃ e ∈ o2.after, Region.binds .any e = true ∧ e.on = m) ∧ ∃ e ∈ om.after, Region.binds .any e = true ∧ e.on = s1) (hdep23 : ∃ e ∈ o3.after, Region.binds .any e = true ∧ e.on = s2) (hdep34 : ∃ e ∈ o4.after, Region.binds .any e = true ∧ e.on = s3)
    (hoth : ∀ (i : Nat) (o : Oper), ops[i]? = some o → kn i = true → o.dst ≠ some d1 ∧ o.dst ≠ some d2 ∧ o.dst ≠ some d3 ∧ o.dst ≠ some d4)
    (h0 : I0 { w0 with drawn := w0.drawn + 1 })
    (J0 : ∀ w, I0 w → J w) (J1 : ∀ v w, I1 v w → J w) (J2 : ∀ v u w, I2 v u w → J w) (J3 : ∀ t w, I3 t w → J w) (J4 : ∀ t w, I4 t w → J w)
    (L0 : ∀ w w', Below w.heap.size w w' → I0 w → I0 w') (L1 : ∀ v w w', Below w.heap.size w w' → I1 v w → I1 v w') (L2 : ∀ v u w w', Below w.heap.size w w' → I2 v u w → I2 v u w') (L3 : ∀ t w w', Below w.heap.size w w' → I3 t w → I3 t w') (L4 : ∀ t w w', Below w.heap.size w w' → I4 t w → I4 t w')
    (hcon : ∀ (i : Nat) (o : Oper), ops[i]? = some o → kn i = true → ∀ (a : Act) (w : World), J w → FactsA ops a0 con kn o a →
      o.wp P a w (fun a' w' => a' = a.put o.dst (con i) ∧ Below w.heap.size w w') Q)
    (h1 : ∀ (a : Act) (w : World), I0 w → FactsA ops a0 con kn o1 a → o1.wp P a w (fun a' w' => ∃ v, a' = a.put o1.dst v ∧ I1 v w') Q)
    (h2 : ∀ (a : Act) (w : World) (v : Value), I1 v w → a.tmps[d1]? = some v → FactsA ops a0 con kn o2 a → o2.wp P a w (fun a' w' => ∃ u, a' = a.put o2.dst u ∧ I2 v u w') Q)
    (h3 : ∀ (a : Act) (w : World) (v u : Value), I2 v u w → a.tmps[d1]? = some v → a.tmps[d2]? = some u → FactsA ops a0 con kn o3 a → o3.wp P a w (fun a' w' => ∃ t, a' = a.put o3.dst t ∧ I3 t w') Q)
    (h4 : ∀ (a : Act) (w : World) (t : Value), I3 t w → a.tmps[d3]? = some t → FactsA ops a0 con kn o4 a → o4.wp P a w (fun a' w' => ∃ x, a' = a.put o4.dst x ∧ I4 x w') Q)
    (hend : ∀ (v u t x : Value) (w : World), I4 x w → Q .normal (fill ops.toList (fun i => if i = s1 then v else if i = s2 then u else if i = s3 then t else if i = s4 then x else con i) 0 a0) w) : (Code.region id ops true).wp P Q a0 w0 := by
  have hB2 := hB
  simp only [freeB, Bool.and_eq_true, decide_eq_true_eq] at hB2
  obtain ⟨⟨q1, q2⟩, _⟩ := hB2
  have hdn : ∀ (o : Oper) (k : Tmp), o ∈ ops.toList → o.dst = some k → k < n := fun o k ho hk => by
    have := List.all_eq_true.1 q1 o ho
    simp only [Bool.and_eq_true, hk] at this
    simpa using this.2
  have hd1n : d1 < n := hdn o1 d1 (by simpa using Array.mem_of_getElem? hs1) hd1
  have hd2n : d2 < n := hdn o2 d2 (by simpa using Array.mem_of_getElem? hs2) hd2
  have hd3n : d3 < n := hdn o3 d3 (by simpa using Array.mem_of_getElem? hs3) hd3
  have hd4n : d4 < n := hdn o4 d4 (by simpa using Array.mem_of_getElem? hs4) hd4
  obtain ⟨n12, n13, n14, n23, n24, n34⟩ : s1 ≠ s2 ∧ s1 ≠ s3 ∧ s1 ≠ s4 ∧ s2 ≠ s3 ∧ s2 ≠ s4 ∧ s3 ≠ s4 := by
    simp only [List.nodup_cons, List.mem_cons, List.not_mem_nil, or_false, not_or] at hne
    exact ⟨hne.1.1, hne.1.2.1, hne.1.2.2, hne.2.1.1, hne.2.1.2, hne.2.2.1⟩
  obtain ⟨m12, m13, m14, m23, m24, m34⟩ : d1 ≠ d2 ∧ d1 ≠ d3 ∧ d1 ≠ d4 ∧ d2 ≠ d3 ∧ d2 ≠ d4 ∧ d3 ≠ d4 := by
    simp only [List.nodup_cons, List.mem_cons, List.not_mem_nil, or_false, not_or] at hdd
    exact ⟨hdd.1.1, hdd.1.2.1, hdd.1.2.2, hdd.2.1.1, hdd.2.1.2, hdd.2.2.1⟩
  have hkt : ∀ i, kn i = true ↔ i ≠ s1 ∧ i ≠ s2 ∧ i ≠ s3 ∧ i ≠ s4 := fun i => by
    rw [hk]; simp [and_assoc]
  let Y : Nat → Value → Act → World → Prop := fun i v a w => kn i = true → v = con i
  let S : (Nat → Bool) → Act → World → Prop := fun g a w =>
    (g s1 = false ∧ g s2 = false ∧ g s3 = false ∧ g s4 = false ∧ I0 w) ∨
    (g s1 = true ∧ g s2 = false ∧ g s3 = false ∧ g s4 = false ∧ ∃ v, a.tmps[d1]? = some v ∧ I1 v w) ∨
    (g s1 = true ∧ g s2 = true ∧ g s3 = false ∧ g s4 = false ∧ ∃ v u, a.tmps[d1]? = some v ∧ a.tmps[d2]? = some u ∧ I2 v u w) ∨
    (g s1 = true ∧ g s2 = true ∧ g s3 = true ∧ g s4 = false ∧ ∃ t, a.tmps[d3]? = some t ∧ I3 t w) ∨
    (g s1 = true ∧ g s2 = true ∧ g s3 = true ∧ g s4 = true ∧ ∃ x, a.tmps[d4]? = some x ∧ I4 x w)
  have facts : ∀ (listed : Array Bool) (o : Oper) (a : Act) (w : World), MidA ops a0 Y S listed a w → (∀ e ∈ o.after, Region.binds .any e = true → listed.getD e.on false = true) → FactsA ops a0 con kn o a := by
    intro listed o a w hM hdl
    refine ⟨fun e he hb oj dj hoj hdj hkn => ?_, fun k hk => ?_⟩
    · obtain ⟨v, hv, hvd⟩ := hM.new e.on oj hoj (hdl e he hb)
      rw [hvd dj hdj, ← hv hkn]
      rfl
    · rw [hM.old k fun i o' ho' hd' => ?_]
      have := List.all_eq_true.1 hk o' (by simpa using Array.mem_of_getElem? ho')
      simp [hd'] at this
  refine wp_region_freeA (Y := Y) (S := S) hm hB hn (.inl ⟨rfl, rfl, rfl, rfl, h0⟩) ?_ ?_
  · intro i o ho listed a w hM hu hdl
    have hF := facts listed o a w hM hdl
    have hW := hM.world
    have hsz : a.tmps.size = n := hM.size.trans hn
    have hput : ∀ (d : Nat) (v : Value), d < n → (a.put (some d) v).tmps[d]? = some v := fun d v hd => by simp [Act.put, hsz, hd]
    by_cases e1 : i = s1
    · subst e1
      obtain rfl : o = o1 := Option.some.inj (ho.symm.trans hs1)
      rcases hW with ⟨l1, l2, l3, l4, hI⟩ | ⟨l1, _⟩ | ⟨l1, _⟩ | ⟨l1, _⟩ | ⟨l1, _⟩
      · refine Oper.wp_mono ?_ (h1 a w hI hF)
        rintro a' w' ⟨v, rfl, hv⟩
        refine ⟨v, rfl, fun h => absurd rfl ((hkt _).1 h).1, .inr (.inl ⟨by simp, ?_, ?_, ?_, v, by rw [hd1]; exact hput d1 v hd1n, hv⟩), fun j u _ _ hY => hY⟩
        · show (if s2 = i then true else listed.getD s2 false) = false
          rw [if_neg (Ne.symm n12)]; exact l2
        · show (if s3 = i then true else listed.getD s3 false) = false
          rw [if_neg (Ne.symm n13)]; exact l3
        · show (if s4 = i then true else listed.getD s4 false) = false
          rw [if_neg (Ne.symm n14)]; exact l4
      all_goals
        have l1' : listed.getD i false = true := l1
        rw [hu] at l1'
        cases l1'
    by_cases e2 : i = s2
    · subst e2
      obtain rfl : o = o2 := Option.some.inj (ho.symm.trans hs2)
      have hl1 : listed.getD s1 false = true := by
        rcases hdep12 with ⟨e, he, hb, heq⟩ | ⟨m, om, hm', ⟨e, he, hb, heq⟩, e', he', hb', heq'⟩
        · have h := hdl e he hb
          rw [heq] at h
          exact h
        · have h := hdl e he hb
          rw [heq] at h
          have h' := hM.closed m om hm' h e' he' hb'
          rw [heq'] at h'
          exact h'
      rcases hW with ⟨l1, _⟩ | ⟨l1, l2, l3, l4, v, hv, hI⟩ | ⟨l1, l2, _⟩ | ⟨l1, l2, _⟩ | ⟨l1, l2, _⟩
      · have l1' : listed.getD s1 false = false := l1
        rw [hl1] at l1'
        cases l1'
      · refine Oper.wp_mono ?_ (h2 a w v hI hv hF)
        rintro a' w' ⟨u, rfl, hu'⟩
        refine ⟨u, rfl, fun h => absurd rfl ((hkt _).1 h).2.1, .inr (.inr (.inl ⟨?_, by simp, ?_, ?_, v, u, ?_, by rw [hd2]; exact hput d2 u hd2n, hu'⟩)), fun j u _ _ hY => hY⟩
        · show (if s1 = i then true else listed.getD s1 false) = true
          rw [if_neg n12]; exact hl1
        · show (if s3 = i then true else listed.getD s3 false) = false
          rw [if_neg (Ne.symm n23)]; exact l3
        · show (if s4 = i then true else listed.getD s4 false) = false
          rw [if_neg (Ne.symm n24)]; exact l4
        · rw [put_other (by rw [hd2]; simp; omega)]; exact hv
      all_goals
        have l2' : listed.getD i false = true := l2
        rw [hu] at l2'
        cases l2'
    by_cases e3 : i = s3
    · subst e3
      obtain rfl : o = o3 := Option.some.inj (ho.symm.trans hs3)
      obtain ⟨e, he, hb, heq⟩ := hdep23
      have hl2 := hdl e he hb
      rw [heq] at hl2
      rcases hW with ⟨l1, l2, _⟩ | ⟨l1, l2, _⟩ | ⟨l1, l2, l3, l4, v, u, hv, hu2, hI⟩ | ⟨l1, l2, l3, _⟩ | ⟨l1, l2, l3, _⟩
      · have l2' : listed.getD s2 false = false := l2
        rw [hl2] at l2'
        cases l2'
      · have l2' : listed.getD s2 false = false := l2
        rw [hl2] at l2'
        cases l2'
      · refine Oper.wp_mono ?_ (h3 a w v u hI hv hu2 hF)
        rintro a' w' ⟨t, rfl, ht⟩
        refine ⟨t, rfl, fun h => absurd rfl ((hkt _).1 h).2.2.1, .inr (.inr (.inr (.inl ⟨?_, ?_, by simp, ?_, t, by rw [hd3]; exact hput d3 t hd3n, ht⟩))), fun j u _ _ hY => hY⟩
        · show (if s1 = i then true else listed.getD s1 false) = true
          rw [if_neg n13]; exact l1
        · show (if s2 = i then true else listed.getD s2 false) = true
          rw [if_neg n23]; exact hl2
        · show (if s4 = i then true else listed.getD s4 false) = false
          rw [if_neg (Ne.symm n34)]; exact l4
      all_goals
        have l3' : listed.getD i false = true := l3
        rw [hu] at l3'
        cases l3'
    by_cases e4 : i = s4
    · subst e4
      obtain rfl : o = o4 := Option.some.inj (ho.symm.trans hs4)
      obtain ⟨e, he, hb, heq⟩ := hdep34
      have hl3 := hdl e he hb
      rw [heq] at hl3
      rcases hW with ⟨l1, l2, l3, _⟩ | ⟨l1, l2, l3, _⟩ | ⟨l1, l2, l3, _⟩ | ⟨l1, l2, l3, l4, t, ht, hI⟩ | ⟨l1, l2, l3, l4, _⟩
      · have l3' : listed.getD s3 false = false := l3
        rw [hl3] at l3'
        cases l3'
      · have l3' : listed.getD s3 false = false := l3
        rw [hl3] at l3'
        cases l3'
      · have l3' : listed.getD s3 false = false := l3
        rw [hl3] at l3'
        cases l3'
      · refine Oper.wp_mono ?_ (h4 a w t hI ht hF)
        rintro a' w' ⟨x, rfl, hx⟩
        refine ⟨x, rfl, fun h => absurd rfl ((hkt _).1 h).2.2.2, .inr (.inr (.inr (.inr ⟨?_, ?_, ?_, by simp, x, by rw [hd4]; exact hput d4 x hd4n, hx⟩))), fun j u _ _ hY => hY⟩
        · show (if s1 = i then true else listed.getD s1 false) = true
          rw [if_neg n14]; exact l1
        · show (if s2 = i then true else listed.getD s2 false) = true
          rw [if_neg n24]; exact l2
        · show (if s3 = i then true else listed.getD s3 false) = true
          rw [if_neg n34]; exact hl3
      · have l4' : listed.getD i false = true := l4
        rw [hu] at l4'
        cases l4'
    have hki : kn i = true := (hkt i).2 ⟨e1, e2, e3, e4⟩
    obtain ⟨x1, x2, x3, x4⟩ := hoth i o ho hki
    have hJ : J w := by
      rcases hW with ⟨_, _, _, _, hI⟩ | ⟨_, _, _, _, v, _, hI⟩ | ⟨_, _, _, _, v, u, _, _, hI⟩ | ⟨_, _, _, _, t, _, hI⟩ | ⟨_, _, _, _, t, _, hI⟩
      · exact J0 w hI
      · exact J1 v w hI
      · exact J2 v u w hI
      · exact J3 t w hI
      · exact J4 t w hI
    refine Oper.wp_mono ?_ (hcon i o ho hki a w hJ hF)
    rintro a' w' ⟨rfl, hbl⟩
    refine ⟨con i, rfl, fun _ => rfl, ?_, fun j u _ _ hY => hY⟩
    have g1 : (if s1 = i then true else listed.getD s1 false) = listed.getD s1 false := if_neg (Ne.symm e1)
    have g2 : (if s2 = i then true else listed.getD s2 false) = listed.getD s2 false := if_neg (Ne.symm e2)
    have g3 : (if s3 = i then true else listed.getD s3 false) = listed.getD s3 false := if_neg (Ne.symm e3)
    have g4 : (if s4 = i then true else listed.getD s4 false) = listed.getD s4 false := if_neg (Ne.symm e4)
    show ((if s1 = i then true else listed.getD s1 false) = false ∧ (if s2 = i then true else listed.getD s2 false) = false ∧ (if s3 = i then true else listed.getD s3 false) = false ∧ (if s4 = i then true else listed.getD s4 false) = false ∧ I0 w') ∨
      ((if s1 = i then true else listed.getD s1 false) = true ∧ (if s2 = i then true else listed.getD s2 false) = false ∧ (if s3 = i then true else listed.getD s3 false) = false ∧ (if s4 = i then true else listed.getD s4 false) = false ∧ ∃ v, (a.put o.dst (con i)).tmps[d1]? = some v ∧ I1 v w') ∨
      ((if s1 = i then true else listed.getD s1 false) = true ∧ (if s2 = i then true else listed.getD s2 false) = true ∧ (if s3 = i then true else listed.getD s3 false) = false ∧ (if s4 = i then true else listed.getD s4 false) = false ∧ ∃ v u, (a.put o.dst (con i)).tmps[d1]? = some v ∧ (a.put o.dst (con i)).tmps[d2]? = some u ∧ I2 v u w') ∨
      ((if s1 = i then true else listed.getD s1 false) = true ∧ (if s2 = i then true else listed.getD s2 false) = true ∧ (if s3 = i then true else listed.getD s3 false) = true ∧ (if s4 = i then true else listed.getD s4 false) = false ∧ ∃ t, (a.put o.dst (con i)).tmps[d3]? = some t ∧ I3 t w') ∨
      ((if s1 = i then true else listed.getD s1 false) = true ∧ (if s2 = i then true else listed.getD s2 false) = true ∧ (if s3 = i then true else listed.getD s3 false) = true ∧ (if s4 = i then true else listed.getD s4 false) = true ∧ ∃ x, (a.put o.dst (con i)).tmps[d4]? = some x ∧ I4 x w')
    rw [g1, g2, g3, g4, put_other x1, put_other x2, put_other x3, put_other x4]
    rcases hW with ⟨l1, l2, l3, l4, hI⟩ | ⟨l1, l2, l3, l4, v, hv, hI⟩ | ⟨l1, l2, l3, l4, v, u, hv, hu2, hI⟩ | ⟨l1, l2, l3, l4, t, ht, hI⟩ | ⟨l1, l2, l3, l4, t, ht, hI⟩
    · exact .inl ⟨l1, l2, l3, l4, L0 w w' hbl hI⟩
    · exact .inr (.inl ⟨l1, l2, l3, l4, v, hv, L1 v w w' hbl hI⟩)
    · exact .inr (.inr (.inl ⟨l1, l2, l3, l4, v, u, hv, hu2, L2 v u w w' hbl hI⟩))
    · exact .inr (.inr (.inr (.inl ⟨l1, l2, l3, l4, t, ht, L3 t w w' hbl hI⟩)))
    · exact .inr (.inr (.inr (.inr ⟨l1, l2, l3, l4, t, ht, L4 t w w' hbl hI⟩)))
  · intro vs w hS hall
    have hlt : ∀ (s : Nat) (o : Oper), ops[s]? = some o → decide (s < ops.size) = true := fun s o h => decide_eq_true (Array.getElem?_eq_some_iff.1 h).1
    have f4 : (fill ops.toList vs 0 a0).tmps[d4]? = some (vs s4) := by rw [fill_at d4 ops.toList vs 0 a0 s4 o4 (by simpa using hs4) hd4 q2 (by rw [hn]; exact hd4n), Nat.zero_add]
    rcases hS with ⟨l1, _⟩ | ⟨_, l2, _⟩ | ⟨_, _, l3, _⟩ | ⟨_, _, _, l4, _⟩ | ⟨_, _, _, _, x, hx, hI⟩
    · have l1' : decide (s1 < ops.size) = false := l1
      rw [hlt s1 o1 hs1] at l1'
      cases l1'
    · have l2' : decide (s2 < ops.size) = false := l2
      rw [hlt s2 o2 hs2] at l2'
      cases l2'
    · have l3' : decide (s3 < ops.size) = false := l3
      rw [hlt s3 o3 hs3] at l3'
      cases l3'
    · have l4' : decide (s4 < ops.size) = false := l4
      rw [hlt s4 o4 hs4] at l4'
      cases l4'
    · rw [f4] at hx
      obtain rfl := Option.some.inj hx
      have hc := hend (vs s1) (vs s2) (vs s3) (vs s4) w hI
      rw [fill_congr ops.toList vs (fun i => if i = s1 then vs s1 else if i = s2 then vs s2 else if i = s3 then vs s3 else if i = s4 then vs s4 else con i) 0 a0 (fun i hi => ?_)]
      · exact hc
      · rw [Nat.zero_add]
        show vs i = if i = s1 then vs s1 else if i = s2 then vs s2 else if i = s3 then vs s3 else if i = s4 then vs s4 else con i
        by_cases e1 : i = s1
        · rw [if_pos e1, e1]
        by_cases e2 : i = s2
        · rw [if_neg e1, if_pos e2, e2]
        by_cases e3 : i = s3
        · rw [if_neg e1, if_neg e2, if_pos e3, e3]
        by_cases e4 : i = s4
        · rw [if_neg e1, if_neg e2, if_neg e3, if_pos e4, e4]
        rw [if_neg e1, if_neg e2, if_neg e3, if_neg e4]
        have hi' : i < ops.size := by simpa using hi
        exact hall i ops[i] (by simp [hi']) ((hkt i).2 ⟨e1, e2, e3, e4⟩)
end
end Go.Proofs.YtbccachkkflceaaGreatDoor.FreeC4

/-
  The text of the program's formulas: each method appends to a slice that grows.
-/
namespace Go.Proofs.YtbccachkkflceaaGreatDoor.FmApp
open Go.RowKit Go.Shelf Go.Proofs.YtbccachkkflceaaGreatDoor.Plain Go.Proofs.YtbccachkkflceaaGreatDoor.Fm Go.Proofs.YtbccachkkflceaaGreatDoor.FmRead Go.Proofs.YtbccachkkflceaaGreatDoor.App
open Go.Proofs.YtbccachkkflceaaGreatDoor.FmMeth (cells3 cells2)
open Go.Proofs.YtbccachkkflceaaGreatDoor.Wq (drew_at)
open Go.Proofs.YtbccachkkflceaaGreatDoor.Free (fill wp_value wp_enter wp_load_row freeB)
open Go.Proofs.YtbccachkkflceaaGreatDoor.FreeC Go.Proofs.YtbccachkkflceaaGreatDoor.FreeC4 Go.Proofs.YtbccachkkflceaaGreatDoor.FreeW
set_option linter.unusedVariables false
set_option linter.unusedSimpArgs false

/-- bytes as cells -/
def cellsU (l : List UInt8) : List Value := l.map fun u => .int .u8 (u.toNat : Int)
theorem cellsU_append (l m : List UInt8) : cellsU (l ++ m) = cellsU l ++ cellsU m := by simp [cellsU]
/-- blocks that are no rows of bytes stay as they are -/
def KeepsU (w w' : World) : Prop := w.heap.size ≤ w'.heap.size ∧ ∀ k, k < w.heap.size → (∀ cur fr, w.heap[k]? ≠ some (.cells cur 5 fr)) → w'.heap[k]? = w.heap[k]?
theorem KeepsU.refl (w : World) : KeepsU w w := ⟨Nat.le_refl _, fun _ _ _ => rfl⟩
theorem KeepsU.trans {a b c : World} (h : KeepsU a b) (g : KeepsU b c) : KeepsU a c :=
  ⟨Nat.le_trans h.1 g.1, fun k hk hn => (g.2 k (Nat.lt_of_lt_of_le hk h.1) (by rw [h.2 k hk hn]; exact hn)).trans (h.2 k hk hn)⟩
theorem KeepsU.of_below {w w' : World} (h : Below w.heap.size w w') : KeepsU w w' := ⟨h.size, fun k hk _ => h.block k hk⟩
theorem KeepsU.of_grown {w w' : World} {v : Value} {base n : Nat} {xs : List Value} (ho : w.ownsRow base 5 1 v n xs) (h : w.grownBy w' v.ownBlock) : KeepsU w w' := by
  refine ⟨h.size, fun k hk hn => h.block k hk fun e => ?_⟩
  rcases ho.2 with ⟨rfl, _⟩ | ⟨g, cap, cur, rfl, _, h2, _⟩
  · simp [Value.ownBlock] at e
  · simp [Value.ownBlock] at e
    subst e
    exact hn _ _ h2
theorem KeepsU.rowP {w w' : World} (h : KeepsU w w') {B : Nat} {cs : Array Value} (hB : w.heap[B]? = some (.cells cs 67 (0, 0))) : w'.heap[B]? = some (.cells cs 67 (0, 0)) := by
  rw [h.2 B (Array.getElem?_eq_some_iff.1 hB).1 (fun cur fr e => by rw [hB] at e; cases e)]
  exact hB
theorem KeepsU.rowG {w w' : World} (h : KeepsU w w') {B : Nat} {cs : Array Value} (hB : w.heap[B]? = some (.cells cs 69 (0, 0))) : w'.heap[B]? = some (.cells cs 69 (0, 0)) := by
  rw [h.2 B (Array.getElem?_eq_some_iff.1 hB).1 (fun cur fr e => by rw [hB] at e; cases e)]
  exact hB
theorem wp_enterR {o : Oper} {a : Act} {w : World} {K : Act → World → Prop} {Q : Exit → Act → World → Prop} {R : Value → World → Prop} (f : FuncId) (args : Array Value) (h : (execOp a.eval o).run Tryz.prog w = .ok (.enter f args) w)
    (hc : Calls Tryz.prog f args w fun e w' => ∃ v, e = .returned v ∧ R v w') (hK : ∀ v w', R v w' → K (a.put o.dst v) w') : o.wp Tryz.prog a w K Q := by
  unfold Oper.wp
  rw [h]
  refine Calls.mono hc ?_
  rintro e w' ⟨v, rfl, hR⟩
  exact hK v w' hR
theorem get_some {a : Act} {d : Tmp} {v : Value} (h : a.tmps[d]? = some v) : a.tmps[d]?.getD undef = v := by rw [h]; rfl
theorem wp_valueW {o : Oper} {a : Act} {w : World} {K : Act → World → Prop} {Q : Exit → Act → World → Prop} (v : Value) (w' : World) (h : (execOp a.eval o).run Tryz.prog w = .ok (.value v) w') (hK : K (a.put o.dst v) w') : o.wp Tryz.prog a w K Q := by
  unfold Oper.wp
  rw [h]
  exact hK
theorem eval_get {a : Act} {d : Tmp} {v : Value} (h : a.tmps[d]?.getD undef = v) : a.eval (.tmp d) = v := by
  rw [← h]
  show a.tmps.getD d undef = _
  simp [Array.getD_eq_getD_getElem?]
theorem eval_some {a : Act} {d : Tmp} {v : Value} (h : a.tmps[d]? = some v) : a.eval (.tmp d) = v := eval_get (by rw [h]; rfl)
def AppC (t : F) (f : FuncId) (V : Value) : Prop := ∀ (w0 W : World) (v : Value) (n : Nat) (xs : List Value), Own w0 W 5 1 v n xs → n + (text t).length ≤ 8000000 →
  Calls Tryz.prog f #[V, v] W fun e w' => ∃ v', e = .returned v' ∧ Own w0 w' 5 1 v' (n + (text t).length) (xs ++ cellsU (text t)) ∧ KeepsU W w'

theorem cells_list {w : World} (cs : List Value) (ty : TypeId) : ∀ j u, cs[j]? = some u → (w.alloc (.cells cs.toArray ty)).cell? ((⟨w.heap.size, 0, none⟩ : Addr).add j) = some u := by
  intro j u hj
  have h := cell_of_row (w.alloc (.cells cs.toArray ty)) w.heap.size j cs.toArray ty (0, 0) (heap_alloc_new w _)
  have e : ((⟨w.heap.size, 0, none⟩ : Addr).add j) = ⟨w.heap.size, j, none⟩ := by
    simp [Addr.add]
    try exact fun h => h.symm
  rw [e, h]
  simpa using hj
set_option maxRecDepth 100000 in
theorem info_u8 : ∃ i, Tryz.prog.info? 5 = some i ∧ i.zero = some (.int .u8 0) ∧ i.size = 1 ∧ i.bytes = 1 := ⟨_, rfl, rfl, rfl, rfl⟩
theorem Own.drew {w0 w : World} {e : TypeId} {k n : Nat} {v : Value} {xs : List Value} (h : Own w0 w e k v n xs) : Own w0 w.drew e k v n xs := h.later (drew_at w)

theorem add_block (g j : Nat) : ((⟨g, 0, none⟩ : Addr).add j).block = g := by
  simp only [Addr.add]
  split <;> rfl
theorem cells_list1 (w : World) (o : Obj) (cs : List Value) (ty : TypeId) (arr : Array Value) (ha : arr = cs.toArray) : ∀ j u, cs[j]? = some u → ((w.alloc o).alloc (.cells arr ty)).cell? ((⟨w.heap.size + 1, 0, none⟩ : Addr).add j) = some u := by
  subst ha
  have h := cells_list (w := w.alloc o) cs ty
  rw [World.size_alloc] at h
  exact h
set_option maxHeartbeats 2000000 in
set_option maxRecDepth 100000 in
theorem lit_app_00 : AppC (.lit 0 false) 131 (.agg #[.int .i64 0, .int .i64 0]) := by
  intro w0 W v n xs hO hn
  have hn2 : n ≤ 8000000 := by omega
  obtain ⟨i0, hi, hz0, hz1, hz2⟩ := info_u8
  have HO := Lib.hid hO
  clear hn hO
  go_enter Tryz.func131, Tryz.ntmps131
  go_wp2_with (at_builtin; have HH := HO.out; refine wpList_append_own _ rfl (.tmp 5) (.tmp 13) 22 rfl w0.heap.size 5 i0 (.int .u8 0) 1 1 Tryz.underlying22 hi hz0 hz1 hz2 rfl (by decide) _ _ _ rfl ((HH.row.alloc _).alloc _) ⟨W.heap.size + 1, 0, none⟩ 1 1 [.int .u8 88] rfl rfl ?c1 ?c2 ?c3 ?c4 ?c5 ?c6; go_must (case c1 => exact (cells_list1 _ _ _ _ _ rfl)); go_must (case c2 => simp [Value.oneCell']); go_must (case c3 => (unfold maxLen; omega)); go_must (case c4 => omega); go_must (case c5 => (have := HH.below.size; simp at this ⊢; omega)); go_must (clear HH; intro v3 w3 hown3 hgrow3 _; have HK := Lib.hid ((KeepsU.of_below (((Below.refl _ _).alloc (Nat.le_refl _) _).alloc (by simp) _)).trans (KeepsU.of_grown ((HO.out.row.alloc _).alloc _) hgrow3)); have H3 := Lib.hid (Own.next (HO.out.later ((Below.refl _ _).alloc (Nat.le_refl _) _)) _ hown3 hgrow3); clear HO hown3 hgrow3))
  go_wp2_with fail
  go_ret
  exact ⟨v3, rfl, H3.out, HK.out⟩
set_option maxHeartbeats 2000000 in
set_option maxRecDepth 100000 in
theorem lit_app_01 : AppC (.lit 0 true) 131 (.agg #[.int .i64 0, .int .i64 1]) := by
  intro w0 W v n xs hO hn
  have hn2 : n ≤ 8000000 := by omega
  obtain ⟨i0, hi, hz0, hz1, hz2⟩ := info_u8
  have HO := Lib.hid hO
  clear hn hO
  go_enter Tryz.func131, Tryz.ntmps131
  go_wp2_with (at_builtin; have HH := HO.out; refine wpList_append_own _ rfl (.tmp 5) (.tmp 13) 22 rfl w0.heap.size 5 i0 (.int .u8 0) 1 1 Tryz.underlying22 hi hz0 hz1 hz2 rfl (by decide) _ _ _ rfl ((HH.row.alloc _).alloc _) ⟨W.heap.size + 1, 0, none⟩ 1 1 [.int .u8 120] rfl rfl ?c1 ?c2 ?c3 ?c4 ?c5 ?c6; go_must (case c1 => exact (cells_list1 _ _ _ _ _ rfl)); go_must (case c2 => simp [Value.oneCell']); go_must (case c3 => (unfold maxLen; omega)); go_must (case c4 => omega); go_must (case c5 => (have := HH.below.size; simp at this ⊢; omega)); go_must (clear HH; intro v3 w3 hown3 hgrow3 _; have HK := Lib.hid ((KeepsU.of_below (((Below.refl _ _).alloc (Nat.le_refl _) _).alloc (by simp) _)).trans (KeepsU.of_grown ((HO.out.row.alloc _).alloc _) hgrow3)); have H3 := Lib.hid (Own.next (HO.out.later ((Below.refl _ _).alloc (Nat.le_refl _) _)) _ hown3 hgrow3); clear HO hown3 hgrow3))
  go_wp2_with fail
  go_ret
  exact ⟨v3, rfl, H3.out, HK.out⟩
set_option maxHeartbeats 2000000 in
set_option maxRecDepth 100000 in
theorem lit_app_10 : AppC (.lit 1 false) 131 (.agg #[.int .i64 1, .int .i64 0]) := by
  intro w0 W v n xs hO hn
  have hn2 : n ≤ 8000000 := by omega
  obtain ⟨i0, hi, hz0, hz1, hz2⟩ := info_u8
  have HO := Lib.hid hO
  clear hn hO
  go_enter Tryz.func131, Tryz.ntmps131
  go_wp2_with (at_builtin; have HH := HO.out; refine wpList_append_own _ rfl (.tmp 5) (.tmp 13) 22 rfl w0.heap.size 5 i0 (.int .u8 0) 1 1 Tryz.underlying22 hi hz0 hz1 hz2 rfl (by decide) _ _ _ rfl ((HH.row.alloc _).alloc _) ⟨W.heap.size + 1, 0, none⟩ 1 1 [.int .u8 89] rfl rfl ?c1 ?c2 ?c3 ?c4 ?c5 ?c6; go_must (case c1 => exact (cells_list1 _ _ _ _ _ rfl)); go_must (case c2 => simp [Value.oneCell']); go_must (case c3 => (unfold maxLen; omega)); go_must (case c4 => omega); go_must (case c5 => (have := HH.below.size; simp at this ⊢; omega)); go_must (clear HH; intro v3 w3 hown3 hgrow3 _; have HK := Lib.hid ((KeepsU.of_below (((Below.refl _ _).alloc (Nat.le_refl _) _).alloc (by simp) _)).trans (KeepsU.of_grown ((HO.out.row.alloc _).alloc _) hgrow3)); have H3 := Lib.hid (Own.next (HO.out.later ((Below.refl _ _).alloc (Nat.le_refl _) _)) _ hown3 hgrow3); clear HO hown3 hgrow3))
  go_wp2_with fail
  go_ret
  exact ⟨v3, rfl, H3.out, HK.out⟩
set_option maxHeartbeats 2000000 in
set_option maxRecDepth 100000 in
theorem lit_app_11 : AppC (.lit 1 true) 131 (.agg #[.int .i64 1, .int .i64 1]) := by
  intro w0 W v n xs hO hn
  have hn2 : n ≤ 8000000 := by omega
  obtain ⟨i0, hi, hz0, hz1, hz2⟩ := info_u8
  have HO := Lib.hid hO
  clear hn hO
  go_enter Tryz.func131, Tryz.ntmps131
  go_wp2_with (at_builtin; have HH := HO.out; refine wpList_append_own _ rfl (.tmp 5) (.tmp 13) 22 rfl w0.heap.size 5 i0 (.int .u8 0) 1 1 Tryz.underlying22 hi hz0 hz1 hz2 rfl (by decide) _ _ _ rfl ((HH.row.alloc _).alloc _) ⟨W.heap.size + 1, 0, none⟩ 1 1 [.int .u8 121] rfl rfl ?c1 ?c2 ?c3 ?c4 ?c5 ?c6; go_must (case c1 => exact (cells_list1 _ _ _ _ _ rfl)); go_must (case c2 => simp [Value.oneCell']); go_must (case c3 => (unfold maxLen; omega)); go_must (case c4 => omega); go_must (case c5 => (have := HH.below.size; simp at this ⊢; omega)); go_must (clear HH; intro v3 w3 hown3 hgrow3 _; have HK := Lib.hid ((KeepsU.of_below (((Below.refl _ _).alloc (Nat.le_refl _) _).alloc (by simp) _)).trans (KeepsU.of_grown ((HO.out.row.alloc _).alloc _) hgrow3)); have H3 := Lib.hid (Own.next (HO.out.later ((Below.refl _ _).alloc (Nat.le_refl _) _)) _ hown3 hgrow3); clear HO hown3 hgrow3))
  go_wp2_with fail
  go_ret
  exact ⟨v3, rfl, H3.out, HK.out⟩
set_option maxHeartbeats 2000000 in
set_option maxRecDepth 100000 in
theorem lit_app_20 : AppC (.lit 2 false) 131 (.agg #[.int .i64 2, .int .i64 0]) := by
  intro w0 W v n xs hO hn
  have hn2 : n ≤ 8000000 := by omega
  obtain ⟨i0, hi, hz0, hz1, hz2⟩ := info_u8
  have HO := Lib.hid hO
  clear hn hO
  go_enter Tryz.func131, Tryz.ntmps131
  go_wp2_with (at_builtin; have HH := HO.out; refine wpList_append_own _ rfl (.tmp 5) (.tmp 13) 22 rfl w0.heap.size 5 i0 (.int .u8 0) 1 1 Tryz.underlying22 hi hz0 hz1 hz2 rfl (by decide) _ _ _ rfl ((HH.row.alloc _).alloc _) ⟨W.heap.size + 1, 0, none⟩ 1 1 [.int .u8 90] rfl rfl ?c1 ?c2 ?c3 ?c4 ?c5 ?c6; go_must (case c1 => exact (cells_list1 _ _ _ _ _ rfl)); go_must (case c2 => simp [Value.oneCell']); go_must (case c3 => (unfold maxLen; omega)); go_must (case c4 => omega); go_must (case c5 => (have := HH.below.size; simp at this ⊢; omega)); go_must (clear HH; intro v3 w3 hown3 hgrow3 _; have HK := Lib.hid ((KeepsU.of_below (((Below.refl _ _).alloc (Nat.le_refl _) _).alloc (by simp) _)).trans (KeepsU.of_grown ((HO.out.row.alloc _).alloc _) hgrow3)); have H3 := Lib.hid (Own.next (HO.out.later ((Below.refl _ _).alloc (Nat.le_refl _) _)) _ hown3 hgrow3); clear HO hown3 hgrow3))
  go_wp2_with fail
  go_ret
  exact ⟨v3, rfl, H3.out, HK.out⟩
set_option maxHeartbeats 2000000 in
set_option maxRecDepth 100000 in
theorem lit_app_21 : AppC (.lit 2 true) 131 (.agg #[.int .i64 2, .int .i64 1]) := by
  intro w0 W v n xs hO hn
  have hn2 : n ≤ 8000000 := by omega
  obtain ⟨i0, hi, hz0, hz1, hz2⟩ := info_u8
  have HO := Lib.hid hO
  clear hn hO
  go_enter Tryz.func131, Tryz.ntmps131
  go_wp2_with (at_builtin; have HH := HO.out; refine wpList_append_own _ rfl (.tmp 5) (.tmp 13) 22 rfl w0.heap.size 5 i0 (.int .u8 0) 1 1 Tryz.underlying22 hi hz0 hz1 hz2 rfl (by decide) _ _ _ rfl ((HH.row.alloc _).alloc _) ⟨W.heap.size + 1, 0, none⟩ 1 1 [.int .u8 122] rfl rfl ?c1 ?c2 ?c3 ?c4 ?c5 ?c6; go_must (case c1 => exact (cells_list1 _ _ _ _ _ rfl)); go_must (case c2 => simp [Value.oneCell']); go_must (case c3 => (unfold maxLen; omega)); go_must (case c4 => omega); go_must (case c5 => (have := HH.below.size; simp at this ⊢; omega)); go_must (clear HH; intro v3 w3 hown3 hgrow3 _; have HK := Lib.hid ((KeepsU.of_below (((Below.refl _ _).alloc (Nat.le_refl _) _).alloc (by simp) _)).trans (KeepsU.of_grown ((HO.out.row.alloc _).alloc _) hgrow3)); have H3 := Lib.hid (Own.next (HO.out.later ((Below.refl _ _).alloc (Nat.le_refl _) _)) _ hown3 hgrow3); clear HO hown3 hgrow3))
  go_wp2_with fail
  go_ret
  exact ⟨v3, rfl, H3.out, HK.out⟩
theorem lit_app (k : Nat) (v : Bool) (hk : k < 3) : AppC (.lit k v) 131 (litV (k : Int) v) := by
  have h : k = 0 ∨ k = 1 ∨ k = 2 := by omega
  rcases h with rfl | rfl | rfl <;> cases v
  · exact lit_app_00
  · exact lit_app_01
  · exact lit_app_10
  · exact lit_app_11
  · exact lit_app_20
  · exact lit_app_21

/-- what parts append -/
def PartC (f g : F) : Prop := ∀ (w0 W : World) (v : Value) (n : Nat) (xs : List Value), Own w0 W 5 1 v n xs → n + (text f).length + (text g).length ≤ 8000000 →
  Calls Tryz.prog 141 #[.agg #[tree f, tree g], v] W fun e w' => ∃ v', e = .returned v' ∧ Own w0 w' 5 1 v' (n + (text f).length + (text g).length) (xs ++ cellsU (text f) ++ cellsU (text g)) ∧ KeepsU W w'

set_option maxHeartbeats 4000000 in
set_option maxRecDepth 100000 in
theorem part_app (f g : F) (hZ : Go.Proofs.YtbccachkkflceaaGreatDoor.FmMeth.Node 131 143 f (AppC f)) (hO : Go.Proofs.YtbccachkkflceaaGreatDoor.FmMeth.Node 131 143 g (AppC g)) : PartC f g := by
  intro w0 W v n xs hO0 hn
  have hn2 : n ≤ 8000000 := by omega
  have hn3 : n + (text f).length ≤ 8000000 := by omega
  unfold AppC at hZ hO
  generalize (text f).length = lz at *
  generalize (text g).length = lo at *
  generalize cellsU (text f) = cz at *
  generalize cellsU (text g) = co at *
  have HO0 := Lib.hid hO0
  clear hO0
  obtain ⟨B, hB⟩ : ∃ B, W.heap.size = B := ⟨_, rfl⟩
  have HBB := Lib.hid hB
  rcases hZ with ⟨V, ez, hz⟩ | ⟨V, ez, hz⟩ <;> rcases hO with ⟨U, eo, ho⟩ | ⟨U, eo, ho⟩
  · have HZ := Lib.hid hz
    have HO := Lib.hid ho
    rw [ez, eo]
    clear ez eo hz ho
    go_enter Tryz.func141, Tryz.ntmps141
    go_wp2_with fail
    obtain ⟨W1, hW1⟩ : ∃ W1, W.alloc (.cells #[.iface 64 V, .iface 64 U] 67) = W1 := ⟨_, rfl⟩
    rw [hW1]
    have HM0 : Hid (W1.heap[B]? = some (.cells #[.iface 64 V, .iface 64 U] 67 (0, 0))) := by show _ = _; rw [← hW1, ← HBB.out]; exact heap_alloc_new W _
    have HO1 : Hid (Own w0 W1 5 1 v n xs) := by show Own _ _ _ _ _ _ _; rw [← hW1]; exact HO0.out.later ((Below.refl _ _).alloc (Nat.le_refl _) _)
    have HKW : Hid (KeepsU W W1) := by show KeepsU _ _; rw [← hW1]; exact KeepsU.of_below ((Below.refl _ _).alloc (Nat.le_refl _) _)
    clear hW1 HO0
    have hcell := fun (w2 : World) (h : w2.heap[B]? = some (.cells #[.iface 64 V, .iface 64 U] 67 (0, 0))) => cells2 h
    refine wp_region_chain3 (fun | 0 => .pointer (some ⟨B, 1, none⟩) | 1 => .iface 64 U | 2 => .pointer (some ⟨B, 0, none⟩) | 3 => .iface 64 V | 4 => v | 6 => .iface 64 U | 7 => .iface 64 U | _ => undef) (fun i => !(i == 5) && !(i == 8) && !(i == 9)) 5 8 9 10 13 4 _ _ _
      (fun w => KeepsU W1 w ∧ Own w0 w 5 1 v n xs) (fun x w => KeepsU W1 w ∧ Own w0 w 5 1 x (n + lz) (xs ++ cz)) (fun _ u w => KeepsU W1 w ∧ Own w0 w 5 1 u (n + lz + lo) (xs ++ cz ++ co)) (fun _ u z w => z = u ∧ KeepsU W1 w ∧ Own w0 w 5 1 u (n + lz + lo) (xs ++ cz ++ co)) (fun w => w.heap[B]? = some (.cells #[.iface 64 V, .iface 64 U] 67 (0, 0)))
      (by kernel_rfl) (by kernel_rfl) rfl rfl rfl rfl rfl rfl rfl rfl (by decide) (by decide) ⟨⟨5, .data⟩, (by simp), rfl, rfl⟩ ⟨⟨8, .data⟩, (by simp), rfl, rfl⟩ ?otBee ?h0Bee ?j0Bee ?j1Bee ?j2Bee ?j3Bee ?conBee ?saBee ?sbBee ?scBee ?enBee
    case otBee =>
      intro i o ho hki
      match i, ho with
      | 0, ho =>
        obtain rfl := Option.some.inj ho
        exact ⟨by decide, by decide, by decide⟩
      | 1, ho =>
        obtain rfl := Option.some.inj ho
        exact ⟨by decide, by decide, by decide⟩
      | 2, ho =>
        obtain rfl := Option.some.inj ho
        exact ⟨by decide, by decide, by decide⟩
      | 3, ho =>
        obtain rfl := Option.some.inj ho
        exact ⟨by decide, by decide, by decide⟩
      | 4, ho =>
        obtain rfl := Option.some.inj ho
        exact ⟨by decide, by decide, by decide⟩
      | 5, ho => exact absurd hki (by decide)
      | 6, ho =>
        obtain rfl := Option.some.inj ho
        exact ⟨by decide, by decide, by decide⟩
      | 7, ho =>
        obtain rfl := Option.some.inj ho
        exact ⟨by decide, by decide, by decide⟩
      | 8, ho => exact absurd hki (by decide)
      | 9, ho => exact absurd hki (by decide)
      | q + 10, ho => simp at ho
    case h0Bee => exact ⟨KeepsU.of_below (drew_at W1), HO1.out.later (drew_at W1)⟩
    case j0Bee => exact fun w h => h.1.rowP HM0.out
    case j1Bee => exact fun x w h => h.1.rowP HM0.out
    case j2Bee => exact fun x u w h => h.1.rowP HM0.out
    case j3Bee => exact fun x u z w h => h.2.1.rowP HM0.out
    case conBee =>
      intro i o ho hki a a_w hJ hf hold
      match i, ho with
      | 0, ho =>
        obtain rfl := Option.some.inj ho
        have b2 : a.tmps[2]?.getD undef = .pointer (some ⟨B, 0, none⟩) := hf.2 2 (by kernel_rfl)
        exact wp_value (.pointer (some ⟨B, 1, none⟩)) (by unfold execOp; go_simp) ⟨rfl, rfl⟩
      | 1, ho =>
        obtain rfl := Option.some.inj ho
        have e5 : a.tmps[5]?.getD undef = .pointer (some ⟨B, 1, none⟩) := hf.1 ⟨0, .data⟩ (by simp) rfl _ 5 rfl rfl (by decide)
        obtain ⟨c0, c1⟩ := hcell _ hJ
        exact wp_value (.iface 64 U) (by unfold execOp; go_simp) ⟨rfl, rfl⟩
      | 2, ho =>
        obtain rfl := Option.some.inj ho
        have b2 : a.tmps[2]?.getD undef = .pointer (some ⟨B, 0, none⟩) := hf.2 2 (by kernel_rfl)
        exact wp_value (.pointer (some ⟨B, 0, none⟩)) (by unfold execOp; go_simp) ⟨rfl, rfl⟩
      | 3, ho =>
        obtain rfl := Option.some.inj ho
        have e7 : a.tmps[7]?.getD undef = .pointer (some ⟨B, 0, none⟩) := hf.1 ⟨2, .data⟩ (by simp) rfl _ 7 rfl rfl (by decide)
        obtain ⟨c0, c1⟩ := hcell _ hJ
        exact wp_value (.iface 64 V) (by unfold execOp; go_simp) ⟨rfl, rfl⟩
      | 4, ho =>
        obtain rfl := Option.some.inj ho
        have b1 : a.tmps[1]?.getD undef = v := hf.2 1 (by kernel_rfl)
        exact wp_value (v) (by unfold execOp; go_simp) ⟨rfl, rfl⟩
      | 5, ho => exact absurd hki (by decide)
      | 6, ho =>
        obtain rfl := Option.some.inj ho
        have e6 : a.tmps[6]?.getD undef = .iface 64 U := hf.1 ⟨1, .data⟩ (by simp) rfl _ 6 rfl rfl (by decide)
        exact wp_value (.iface 64 U) (by unfold execOp; go_simp) ⟨rfl, rfl⟩
      | 7, ho =>
        obtain rfl := Option.some.inj ho
        have e6 : a.tmps[6]?.getD undef = .iface 64 U := hf.1 ⟨1, .data⟩ (by simp) rfl _ 6 rfl rfl (by decide)
        exact wp_value (.iface 64 U) (by unfold execOp; go_simp) ⟨rfl, rfl⟩
      | 8, ho => exact absurd hki (by decide)
      | 9, ho => exact absurd hki (by decide)
      | q + 10, ho => simp at ho
    case saBee =>
      intro a a_w hI hf
      have e8 : a.tmps[8]?.getD undef = .iface 64 V := hf.1 ⟨3, .data⟩ (by simp) rfl _ 8 rfl rfl (by decide)
      have e9 : a.tmps[9]?.getD undef = v := hf.1 ⟨4, .data⟩ (by simp) rfl _ 9 rfl rfl (by decide)
      obtain ⟨hk, ho⟩ := hI
      refine wp_enterR 131 #[V, v] (by unfold execOp; go_simp; go_invoke; rfl) (HZ.out w0 a_w v n _ ho (by omega)) ?_
      rintro v' w' ⟨h1, h2⟩
      exact ⟨v', rfl, hk.trans h2, h1⟩
    case sbBee =>
      intro a a_w x hI hv hf
      have e12 : a.tmps[12]?.getD undef = .iface 64 U := hf.1 ⟨7, .data⟩ (by simp) rfl _ 12 rfl rfl (by decide)
      obtain ⟨hk, ho⟩ := hI
      have e10 := get_some hv
      refine wp_enterR 131 #[U, x] (by unfold execOp; go_simp; go_invoke; rfl) (HO.out w0 a_w x (n + lz) _ ho (by omega)) ?_
      rintro v' w' ⟨h1, h2⟩
      exact ⟨v', rfl, hk.trans h2, h1⟩
    case scBee =>
      intro a a_w x y' hI hv hu hf
      obtain ⟨hk, ho⟩ := hI
      have e13 := get_some hu
      exact wp_value y' (by unfold execOp; go_simp) ⟨y', rfl, rfl, hk, ho⟩
    intro x u zz2 w5 hI
    obtain ⟨rfl, hk, ho⟩ := hI
    have HK3 := Lib.hid (HKW.out.trans hk)
    have HO3 := Lib.hid ho
    clear hk ho
    simp only [fill, Act.put]
    go_simp
    go_wp2_with fail
    go_ret
    exact ⟨zz2, rfl, HO3.out, HK3.out⟩
  · have HZ := Lib.hid hz
    have HO := Lib.hid ho
    rw [ez, eo]
    clear ez eo hz ho
    go_enter Tryz.func141, Tryz.ntmps141
    go_wp2_with fail
    obtain ⟨W1, hW1⟩ : ∃ W1, W.alloc (.cells #[.iface 64 V, .iface 69 U] 67) = W1 := ⟨_, rfl⟩
    rw [hW1]
    have HM0 : Hid (W1.heap[B]? = some (.cells #[.iface 64 V, .iface 69 U] 67 (0, 0))) := by show _ = _; rw [← hW1, ← HBB.out]; exact heap_alloc_new W _
    have HO1 : Hid (Own w0 W1 5 1 v n xs) := by show Own _ _ _ _ _ _ _; rw [← hW1]; exact HO0.out.later ((Below.refl _ _).alloc (Nat.le_refl _) _)
    have HKW : Hid (KeepsU W W1) := by show KeepsU _ _; rw [← hW1]; exact KeepsU.of_below ((Below.refl _ _).alloc (Nat.le_refl _) _)
    clear hW1 HO0
    have hcell := fun (w2 : World) (h : w2.heap[B]? = some (.cells #[.iface 64 V, .iface 69 U] 67 (0, 0))) => cells2 h
    refine wp_region_chain3 (fun | 0 => .pointer (some ⟨B, 1, none⟩) | 1 => .iface 69 U | 2 => .pointer (some ⟨B, 0, none⟩) | 3 => .iface 64 V | 4 => v | 6 => .iface 69 U | 7 => .iface 69 U | _ => undef) (fun i => !(i == 5) && !(i == 8) && !(i == 9)) 5 8 9 10 13 4 _ _ _
      (fun w => KeepsU W1 w ∧ Own w0 w 5 1 v n xs) (fun x w => KeepsU W1 w ∧ Own w0 w 5 1 x (n + lz) (xs ++ cz)) (fun _ u w => KeepsU W1 w ∧ Own w0 w 5 1 u (n + lz + lo) (xs ++ cz ++ co)) (fun _ u z w => z = u ∧ KeepsU W1 w ∧ Own w0 w 5 1 u (n + lz + lo) (xs ++ cz ++ co)) (fun w => w.heap[B]? = some (.cells #[.iface 64 V, .iface 69 U] 67 (0, 0)))
      (by kernel_rfl) (by kernel_rfl) rfl rfl rfl rfl rfl rfl rfl rfl (by decide) (by decide) ⟨⟨5, .data⟩, (by simp), rfl, rfl⟩ ⟨⟨8, .data⟩, (by simp), rfl, rfl⟩ ?otBes ?h0Bes ?j0Bes ?j1Bes ?j2Bes ?j3Bes ?conBes ?saBes ?sbBes ?scBes ?enBes
    case otBes =>
      intro i o ho hki
      match i, ho with
      | 0, ho =>
        obtain rfl := Option.some.inj ho
        exact ⟨by decide, by decide, by decide⟩
      | 1, ho =>
        obtain rfl := Option.some.inj ho
        exact ⟨by decide, by decide, by decide⟩
      | 2, ho =>
        obtain rfl := Option.some.inj ho
        exact ⟨by decide, by decide, by decide⟩
      | 3, ho =>
        obtain rfl := Option.some.inj ho
        exact ⟨by decide, by decide, by decide⟩
      | 4, ho =>
        obtain rfl := Option.some.inj ho
        exact ⟨by decide, by decide, by decide⟩
      | 5, ho => exact absurd hki (by decide)
      | 6, ho =>
        obtain rfl := Option.some.inj ho
        exact ⟨by decide, by decide, by decide⟩
      | 7, ho =>
        obtain rfl := Option.some.inj ho
        exact ⟨by decide, by decide, by decide⟩
      | 8, ho => exact absurd hki (by decide)
      | 9, ho => exact absurd hki (by decide)
      | q + 10, ho => simp at ho
    case h0Bes => exact ⟨KeepsU.of_below (drew_at W1), HO1.out.later (drew_at W1)⟩
    case j0Bes => exact fun w h => h.1.rowP HM0.out
    case j1Bes => exact fun x w h => h.1.rowP HM0.out
    case j2Bes => exact fun x u w h => h.1.rowP HM0.out
    case j3Bes => exact fun x u z w h => h.2.1.rowP HM0.out
    case conBes =>
      intro i o ho hki a a_w hJ hf hold
      match i, ho with
      | 0, ho =>
        obtain rfl := Option.some.inj ho
        have b2 : a.tmps[2]?.getD undef = .pointer (some ⟨B, 0, none⟩) := hf.2 2 (by kernel_rfl)
        exact wp_value (.pointer (some ⟨B, 1, none⟩)) (by unfold execOp; go_simp) ⟨rfl, rfl⟩
      | 1, ho =>
        obtain rfl := Option.some.inj ho
        have e5 : a.tmps[5]?.getD undef = .pointer (some ⟨B, 1, none⟩) := hf.1 ⟨0, .data⟩ (by simp) rfl _ 5 rfl rfl (by decide)
        obtain ⟨c0, c1⟩ := hcell _ hJ
        exact wp_value (.iface 69 U) (by unfold execOp; go_simp) ⟨rfl, rfl⟩
      | 2, ho =>
        obtain rfl := Option.some.inj ho
        have b2 : a.tmps[2]?.getD undef = .pointer (some ⟨B, 0, none⟩) := hf.2 2 (by kernel_rfl)
        exact wp_value (.pointer (some ⟨B, 0, none⟩)) (by unfold execOp; go_simp) ⟨rfl, rfl⟩
      | 3, ho =>
        obtain rfl := Option.some.inj ho
        have e7 : a.tmps[7]?.getD undef = .pointer (some ⟨B, 0, none⟩) := hf.1 ⟨2, .data⟩ (by simp) rfl _ 7 rfl rfl (by decide)
        obtain ⟨c0, c1⟩ := hcell _ hJ
        exact wp_value (.iface 64 V) (by unfold execOp; go_simp) ⟨rfl, rfl⟩
      | 4, ho =>
        obtain rfl := Option.some.inj ho
        have b1 : a.tmps[1]?.getD undef = v := hf.2 1 (by kernel_rfl)
        exact wp_value (v) (by unfold execOp; go_simp) ⟨rfl, rfl⟩
      | 5, ho => exact absurd hki (by decide)
      | 6, ho =>
        obtain rfl := Option.some.inj ho
        have e6 : a.tmps[6]?.getD undef = .iface 69 U := hf.1 ⟨1, .data⟩ (by simp) rfl _ 6 rfl rfl (by decide)
        exact wp_value (.iface 69 U) (by unfold execOp; go_simp) ⟨rfl, rfl⟩
      | 7, ho =>
        obtain rfl := Option.some.inj ho
        have e6 : a.tmps[6]?.getD undef = .iface 69 U := hf.1 ⟨1, .data⟩ (by simp) rfl _ 6 rfl rfl (by decide)
        exact wp_value (.iface 69 U) (by unfold execOp; go_simp) ⟨rfl, rfl⟩
      | 8, ho => exact absurd hki (by decide)
      | 9, ho => exact absurd hki (by decide)
      | q + 10, ho => simp at ho
    case saBes =>
      intro a a_w hI hf
      have e8 : a.tmps[8]?.getD undef = .iface 64 V := hf.1 ⟨3, .data⟩ (by simp) rfl _ 8 rfl rfl (by decide)
      have e9 : a.tmps[9]?.getD undef = v := hf.1 ⟨4, .data⟩ (by simp) rfl _ 9 rfl rfl (by decide)
      obtain ⟨hk, ho⟩ := hI
      refine wp_enterR 131 #[V, v] (by unfold execOp; go_simp; go_invoke; rfl) (HZ.out w0 a_w v n _ ho (by omega)) ?_
      rintro v' w' ⟨h1, h2⟩
      exact ⟨v', rfl, hk.trans h2, h1⟩
    case sbBes =>
      intro a a_w x hI hv hf
      have e12 : a.tmps[12]?.getD undef = .iface 69 U := hf.1 ⟨7, .data⟩ (by simp) rfl _ 12 rfl rfl (by decide)
      obtain ⟨hk, ho⟩ := hI
      have e10 := get_some hv
      refine wp_enterR 143 #[U, x] (by unfold execOp; go_simp; go_invoke; rfl) (HO.out w0 a_w x (n + lz) _ ho (by omega)) ?_
      rintro v' w' ⟨h1, h2⟩
      exact ⟨v', rfl, hk.trans h2, h1⟩
    case scBes =>
      intro a a_w x y' hI hv hu hf
      obtain ⟨hk, ho⟩ := hI
      have e13 := get_some hu
      exact wp_value y' (by unfold execOp; go_simp) ⟨y', rfl, rfl, hk, ho⟩
    intro x u zz2 w5 hI
    obtain ⟨rfl, hk, ho⟩ := hI
    have HK3 := Lib.hid (HKW.out.trans hk)
    have HO3 := Lib.hid ho
    clear hk ho
    simp only [fill, Act.put]
    go_simp
    go_wp2_with fail
    go_ret
    exact ⟨zz2, rfl, HO3.out, HK3.out⟩
  · have HZ := Lib.hid hz
    have HO := Lib.hid ho
    rw [ez, eo]
    clear ez eo hz ho
    go_enter Tryz.func141, Tryz.ntmps141
    go_wp2_with fail
    obtain ⟨W1, hW1⟩ : ∃ W1, W.alloc (.cells #[.iface 69 V, .iface 64 U] 67) = W1 := ⟨_, rfl⟩
    rw [hW1]
    have HM0 : Hid (W1.heap[B]? = some (.cells #[.iface 69 V, .iface 64 U] 67 (0, 0))) := by show _ = _; rw [← hW1, ← HBB.out]; exact heap_alloc_new W _
    have HO1 : Hid (Own w0 W1 5 1 v n xs) := by show Own _ _ _ _ _ _ _; rw [← hW1]; exact HO0.out.later ((Below.refl _ _).alloc (Nat.le_refl _) _)
    have HKW : Hid (KeepsU W W1) := by show KeepsU _ _; rw [← hW1]; exact KeepsU.of_below ((Below.refl _ _).alloc (Nat.le_refl _) _)
    clear hW1 HO0
    have hcell := fun (w2 : World) (h : w2.heap[B]? = some (.cells #[.iface 69 V, .iface 64 U] 67 (0, 0))) => cells2 h
    refine wp_region_chain3 (fun | 0 => .pointer (some ⟨B, 1, none⟩) | 1 => .iface 64 U | 2 => .pointer (some ⟨B, 0, none⟩) | 3 => .iface 69 V | 4 => v | 6 => .iface 64 U | 7 => .iface 64 U | _ => undef) (fun i => !(i == 5) && !(i == 8) && !(i == 9)) 5 8 9 10 13 4 _ _ _
      (fun w => KeepsU W1 w ∧ Own w0 w 5 1 v n xs) (fun x w => KeepsU W1 w ∧ Own w0 w 5 1 x (n + lz) (xs ++ cz)) (fun _ u w => KeepsU W1 w ∧ Own w0 w 5 1 u (n + lz + lo) (xs ++ cz ++ co)) (fun _ u z w => z = u ∧ KeepsU W1 w ∧ Own w0 w 5 1 u (n + lz + lo) (xs ++ cz ++ co)) (fun w => w.heap[B]? = some (.cells #[.iface 69 V, .iface 64 U] 67 (0, 0)))
      (by kernel_rfl) (by kernel_rfl) rfl rfl rfl rfl rfl rfl rfl rfl (by decide) (by decide) ⟨⟨5, .data⟩, (by simp), rfl, rfl⟩ ⟨⟨8, .data⟩, (by simp), rfl, rfl⟩ ?otBse ?h0Bse ?j0Bse ?j1Bse ?j2Bse ?j3Bse ?conBse ?saBse ?sbBse ?scBse ?enBse
    case otBse =>
      intro i o ho hki
      match i, ho with
      | 0, ho =>
        obtain rfl := Option.some.inj ho
        exact ⟨by decide, by decide, by decide⟩
      | 1, ho =>
        obtain rfl := Option.some.inj ho
        exact ⟨by decide, by decide, by decide⟩
      | 2, ho =>
        obtain rfl := Option.some.inj ho
        exact ⟨by decide, by decide, by decide⟩
      | 3, ho =>
        obtain rfl := Option.some.inj ho
        exact ⟨by decide, by decide, by decide⟩
      | 4, ho =>
        obtain rfl := Option.some.inj ho
        exact ⟨by decide, by decide, by decide⟩
      | 5, ho => exact absurd hki (by decide)
      | 6, ho =>
        obtain rfl := Option.some.inj ho
        exact ⟨by decide, by decide, by decide⟩
      | 7, ho =>
        obtain rfl := Option.some.inj ho
        exact ⟨by decide, by decide, by decide⟩
      | 8, ho => exact absurd hki (by decide)
      | 9, ho => exact absurd hki (by decide)
      | q + 10, ho => simp at ho
    case h0Bse => exact ⟨KeepsU.of_below (drew_at W1), HO1.out.later (drew_at W1)⟩
    case j0Bse => exact fun w h => h.1.rowP HM0.out
    case j1Bse => exact fun x w h => h.1.rowP HM0.out
    case j2Bse => exact fun x u w h => h.1.rowP HM0.out
    case j3Bse => exact fun x u z w h => h.2.1.rowP HM0.out
    case conBse =>
      intro i o ho hki a a_w hJ hf hold
      match i, ho with
      | 0, ho =>
        obtain rfl := Option.some.inj ho
        have b2 : a.tmps[2]?.getD undef = .pointer (some ⟨B, 0, none⟩) := hf.2 2 (by kernel_rfl)
        exact wp_value (.pointer (some ⟨B, 1, none⟩)) (by unfold execOp; go_simp) ⟨rfl, rfl⟩
      | 1, ho =>
        obtain rfl := Option.some.inj ho
        have e5 : a.tmps[5]?.getD undef = .pointer (some ⟨B, 1, none⟩) := hf.1 ⟨0, .data⟩ (by simp) rfl _ 5 rfl rfl (by decide)
        obtain ⟨c0, c1⟩ := hcell _ hJ
        exact wp_value (.iface 64 U) (by unfold execOp; go_simp) ⟨rfl, rfl⟩
      | 2, ho =>
        obtain rfl := Option.some.inj ho
        have b2 : a.tmps[2]?.getD undef = .pointer (some ⟨B, 0, none⟩) := hf.2 2 (by kernel_rfl)
        exact wp_value (.pointer (some ⟨B, 0, none⟩)) (by unfold execOp; go_simp) ⟨rfl, rfl⟩
      | 3, ho =>
        obtain rfl := Option.some.inj ho
        have e7 : a.tmps[7]?.getD undef = .pointer (some ⟨B, 0, none⟩) := hf.1 ⟨2, .data⟩ (by simp) rfl _ 7 rfl rfl (by decide)
        obtain ⟨c0, c1⟩ := hcell _ hJ
        exact wp_value (.iface 69 V) (by unfold execOp; go_simp) ⟨rfl, rfl⟩
      | 4, ho =>
        obtain rfl := Option.some.inj ho
        have b1 : a.tmps[1]?.getD undef = v := hf.2 1 (by kernel_rfl)
        exact wp_value (v) (by unfold execOp; go_simp) ⟨rfl, rfl⟩
      | 5, ho => exact absurd hki (by decide)
      | 6, ho =>
        obtain rfl := Option.some.inj ho
        have e6 : a.tmps[6]?.getD undef = .iface 64 U := hf.1 ⟨1, .data⟩ (by simp) rfl _ 6 rfl rfl (by decide)
        exact wp_value (.iface 64 U) (by unfold execOp; go_simp) ⟨rfl, rfl⟩
      | 7, ho =>
        obtain rfl := Option.some.inj ho
        have e6 : a.tmps[6]?.getD undef = .iface 64 U := hf.1 ⟨1, .data⟩ (by simp) rfl _ 6 rfl rfl (by decide)
        exact wp_value (.iface 64 U) (by unfold execOp; go_simp) ⟨rfl, rfl⟩
      | 8, ho => exact absurd hki (by decide)
      | 9, ho => exact absurd hki (by decide)
      | q + 10, ho => simp at ho
    case saBse =>
      intro a a_w hI hf
      have e8 : a.tmps[8]?.getD undef = .iface 69 V := hf.1 ⟨3, .data⟩ (by simp) rfl _ 8 rfl rfl (by decide)
      have e9 : a.tmps[9]?.getD undef = v := hf.1 ⟨4, .data⟩ (by simp) rfl _ 9 rfl rfl (by decide)
      obtain ⟨hk, ho⟩ := hI
      refine wp_enterR 143 #[V, v] (by unfold execOp; go_simp; go_invoke; rfl) (HZ.out w0 a_w v n _ ho (by omega)) ?_
      rintro v' w' ⟨h1, h2⟩
      exact ⟨v', rfl, hk.trans h2, h1⟩
    case sbBse =>
      intro a a_w x hI hv hf
      have e12 : a.tmps[12]?.getD undef = .iface 64 U := hf.1 ⟨7, .data⟩ (by simp) rfl _ 12 rfl rfl (by decide)
      obtain ⟨hk, ho⟩ := hI
      have e10 := get_some hv
      refine wp_enterR 131 #[U, x] (by unfold execOp; go_simp; go_invoke; rfl) (HO.out w0 a_w x (n + lz) _ ho (by omega)) ?_
      rintro v' w' ⟨h1, h2⟩
      exact ⟨v', rfl, hk.trans h2, h1⟩
    case scBse =>
      intro a a_w x y' hI hv hu hf
      obtain ⟨hk, ho⟩ := hI
      have e13 := get_some hu
      exact wp_value y' (by unfold execOp; go_simp) ⟨y', rfl, rfl, hk, ho⟩
    intro x u zz2 w5 hI
    obtain ⟨rfl, hk, ho⟩ := hI
    have HK3 := Lib.hid (HKW.out.trans hk)
    have HO3 := Lib.hid ho
    clear hk ho
    simp only [fill, Act.put]
    go_simp
    go_wp2_with fail
    go_ret
    exact ⟨zz2, rfl, HO3.out, HK3.out⟩
  · have HZ := Lib.hid hz
    have HO := Lib.hid ho
    rw [ez, eo]
    clear ez eo hz ho
    go_enter Tryz.func141, Tryz.ntmps141
    go_wp2_with fail
    obtain ⟨W1, hW1⟩ : ∃ W1, W.alloc (.cells #[.iface 69 V, .iface 69 U] 67) = W1 := ⟨_, rfl⟩
    rw [hW1]
    have HM0 : Hid (W1.heap[B]? = some (.cells #[.iface 69 V, .iface 69 U] 67 (0, 0))) := by show _ = _; rw [← hW1, ← HBB.out]; exact heap_alloc_new W _
    have HO1 : Hid (Own w0 W1 5 1 v n xs) := by show Own _ _ _ _ _ _ _; rw [← hW1]; exact HO0.out.later ((Below.refl _ _).alloc (Nat.le_refl _) _)
    have HKW : Hid (KeepsU W W1) := by show KeepsU _ _; rw [← hW1]; exact KeepsU.of_below ((Below.refl _ _).alloc (Nat.le_refl _) _)
    clear hW1 HO0
    have hcell := fun (w2 : World) (h : w2.heap[B]? = some (.cells #[.iface 69 V, .iface 69 U] 67 (0, 0))) => cells2 h
    refine wp_region_chain3 (fun | 0 => .pointer (some ⟨B, 1, none⟩) | 1 => .iface 69 U | 2 => .pointer (some ⟨B, 0, none⟩) | 3 => .iface 69 V | 4 => v | 6 => .iface 69 U | 7 => .iface 69 U | _ => undef) (fun i => !(i == 5) && !(i == 8) && !(i == 9)) 5 8 9 10 13 4 _ _ _
      (fun w => KeepsU W1 w ∧ Own w0 w 5 1 v n xs) (fun x w => KeepsU W1 w ∧ Own w0 w 5 1 x (n + lz) (xs ++ cz)) (fun _ u w => KeepsU W1 w ∧ Own w0 w 5 1 u (n + lz + lo) (xs ++ cz ++ co)) (fun _ u z w => z = u ∧ KeepsU W1 w ∧ Own w0 w 5 1 u (n + lz + lo) (xs ++ cz ++ co)) (fun w => w.heap[B]? = some (.cells #[.iface 69 V, .iface 69 U] 67 (0, 0)))
      (by kernel_rfl) (by kernel_rfl) rfl rfl rfl rfl rfl rfl rfl rfl (by decide) (by decide) ⟨⟨5, .data⟩, (by simp), rfl, rfl⟩ ⟨⟨8, .data⟩, (by simp), rfl, rfl⟩ ?otBss ?h0Bss ?j0Bss ?j1Bss ?j2Bss ?j3Bss ?conBss ?saBss ?sbBss ?scBss ?enBss
    case otBss =>
      intro i o ho hki
      match i, ho with
      | 0, ho =>
        obtain rfl := Option.some.inj ho
        exact ⟨by decide, by decide, by decide⟩
      | 1, ho =>
        obtain rfl := Option.some.inj ho
        exact ⟨by decide, by decide, by decide⟩
      | 2, ho =>
        obtain rfl := Option.some.inj ho
        exact ⟨by decide, by decide, by decide⟩
      | 3, ho =>
        obtain rfl := Option.some.inj ho
        exact ⟨by decide, by decide, by decide⟩
      | 4, ho =>
        obtain rfl := Option.some.inj ho
        exact ⟨by decide, by decide, by decide⟩
      | 5, ho => exact absurd hki (by decide)
      | 6, ho =>
        obtain rfl := Option.some.inj ho
        exact ⟨by decide, by decide, by decide⟩
      | 7, ho =>
        obtain rfl := Option.some.inj ho
        exact ⟨by decide, by decide, by decide⟩
      | 8, ho => exact absurd hki (by decide)
      | 9, ho => exact absurd hki (by decide)
      | q + 10, ho => simp at ho
    case h0Bss => exact ⟨KeepsU.of_below (drew_at W1), HO1.out.later (drew_at W1)⟩
    case j0Bss => exact fun w h => h.1.rowP HM0.out
    case j1Bss => exact fun x w h => h.1.rowP HM0.out
    case j2Bss => exact fun x u w h => h.1.rowP HM0.out
    case j3Bss => exact fun x u z w h => h.2.1.rowP HM0.out
    case conBss =>
      intro i o ho hki a a_w hJ hf hold
      match i, ho with
      | 0, ho =>
        obtain rfl := Option.some.inj ho
        have b2 : a.tmps[2]?.getD undef = .pointer (some ⟨B, 0, none⟩) := hf.2 2 (by kernel_rfl)
        exact wp_value (.pointer (some ⟨B, 1, none⟩)) (by unfold execOp; go_simp) ⟨rfl, rfl⟩
      | 1, ho =>
        obtain rfl := Option.some.inj ho
        have e5 : a.tmps[5]?.getD undef = .pointer (some ⟨B, 1, none⟩) := hf.1 ⟨0, .data⟩ (by simp) rfl _ 5 rfl rfl (by decide)
        obtain ⟨c0, c1⟩ := hcell _ hJ
        exact wp_value (.iface 69 U) (by unfold execOp; go_simp) ⟨rfl, rfl⟩
      | 2, ho =>
        obtain rfl := Option.some.inj ho
        have b2 : a.tmps[2]?.getD undef = .pointer (some ⟨B, 0, none⟩) := hf.2 2 (by kernel_rfl)
        exact wp_value (.pointer (some ⟨B, 0, none⟩)) (by unfold execOp; go_simp) ⟨rfl, rfl⟩
      | 3, ho =>
        obtain rfl := Option.some.inj ho
        have e7 : a.tmps[7]?.getD undef = .pointer (some ⟨B, 0, none⟩) := hf.1 ⟨2, .data⟩ (by simp) rfl _ 7 rfl rfl (by decide)
        obtain ⟨c0, c1⟩ := hcell _ hJ
        exact wp_value (.iface 69 V) (by unfold execOp; go_simp) ⟨rfl, rfl⟩
      | 4, ho =>
        obtain rfl := Option.some.inj ho
        have b1 : a.tmps[1]?.getD undef = v := hf.2 1 (by kernel_rfl)
        exact wp_value (v) (by unfold execOp; go_simp) ⟨rfl, rfl⟩
      | 5, ho => exact absurd hki (by decide)
      | 6, ho =>
        obtain rfl := Option.some.inj ho
        have e6 : a.tmps[6]?.getD undef = .iface 69 U := hf.1 ⟨1, .data⟩ (by simp) rfl _ 6 rfl rfl (by decide)
        exact wp_value (.iface 69 U) (by unfold execOp; go_simp) ⟨rfl, rfl⟩
      | 7, ho =>
        obtain rfl := Option.some.inj ho
        have e6 : a.tmps[6]?.getD undef = .iface 69 U := hf.1 ⟨1, .data⟩ (by simp) rfl _ 6 rfl rfl (by decide)
        exact wp_value (.iface 69 U) (by unfold execOp; go_simp) ⟨rfl, rfl⟩
      | 8, ho => exact absurd hki (by decide)
      | 9, ho => exact absurd hki (by decide)
      | q + 10, ho => simp at ho
    case saBss =>
      intro a a_w hI hf
      have e8 : a.tmps[8]?.getD undef = .iface 69 V := hf.1 ⟨3, .data⟩ (by simp) rfl _ 8 rfl rfl (by decide)
      have e9 : a.tmps[9]?.getD undef = v := hf.1 ⟨4, .data⟩ (by simp) rfl _ 9 rfl rfl (by decide)
      obtain ⟨hk, ho⟩ := hI
      refine wp_enterR 143 #[V, v] (by unfold execOp; go_simp; go_invoke; rfl) (HZ.out w0 a_w v n _ ho (by omega)) ?_
      rintro v' w' ⟨h1, h2⟩
      exact ⟨v', rfl, hk.trans h2, h1⟩
    case sbBss =>
      intro a a_w x hI hv hf
      have e12 : a.tmps[12]?.getD undef = .iface 69 U := hf.1 ⟨7, .data⟩ (by simp) rfl _ 12 rfl rfl (by decide)
      obtain ⟨hk, ho⟩ := hI
      have e10 := get_some hv
      refine wp_enterR 143 #[U, x] (by unfold execOp; go_simp; go_invoke; rfl) (HO.out w0 a_w x (n + lz) _ ho (by omega)) ?_
      rintro v' w' ⟨h1, h2⟩
      exact ⟨v', rfl, hk.trans h2, h1⟩
    case scBss =>
      intro a a_w x y' hI hv hu hf
      obtain ⟨hk, ho⟩ := hI
      have e13 := get_some hu
      exact wp_value y' (by unfold execOp; go_simp) ⟨y', rfl, rfl, hk, ho⟩
    intro x u zz2 w5 hI
    obtain ⟨rfl, hk, ho⟩ := hI
    have HK3 := Lib.hid (HKW.out.trans hk)
    have HO3 := Lib.hid ho
    clear hk ho
    simp only [fill, Act.put]
    go_simp
    go_wp2_with fail
    go_ret
    exact ⟨zz2, rfl, HO3.out, HK3.out⟩
set_option maxHeartbeats 4000000 in
set_option maxRecDepth 100000 in
theorem gate_app (a : Bool) (f g : F) (hP : PartC f g) : AppC (.gate a f g) 143 (gateV a (tree f) (tree g)) := by
  intro w0 W v n xs hO0 hn
  have hlz : (text (.gate a f g)).length = (text f).length + (text g).length + 1 := by simp [text]
  have hz3 : cellsU (text (.gate a f g)) = [.int .u8 ((sgn a).toNat : Int)] ++ cellsU (text f) ++ cellsU (text g) := by simp [text, cellsU]
  unfold gateV
  have H3C := Lib.hid hz3
  have HLN := Lib.hid hlz
  have hn2 : n ≤ 8000000 := by omega
  have hn3 : n + 1 ≤ 8000000 := by omega
  have hn4 : n + 1 + (text f).length + (text g).length ≤ 8000000 := by omega
  obtain ⟨i0, hi, hz0, hz1, hz2⟩ := info_u8
  obtain ⟨t1, v1, e1⟩ := tree_iface f
  obtain ⟨t2, v2, e2⟩ := tree_iface g
  unfold PartC at hP
  rw [e1, e2] at hP
  rw [e1, e2]
  have HP := Lib.hid hP
  have HO0 := Lib.hid hO0
  generalize ((sgn a).toNat : Int) = c at *
  generalize (text f).length = lz at *
  generalize (text g).length = lo at *
  generalize cellsU (text f) = cz at *
  generalize cellsU (text g) = co at *
  generalize (text (.gate a f g)).length = ls at *
  generalize cellsU (text (.gate a f g)) = cs at *
  clear hn hO0 hz3 hlz hP e1 e2
  obtain ⟨B, hB⟩ : ∃ B, W.heap.size = B := ⟨_, rfl⟩
  have HBB := Lib.hid hB
  go_enter Tryz.func143, Tryz.ntmps143
  go_wp2_with fail
  obtain ⟨W1, hW1⟩ : ∃ W1, W.alloc (.cells #[.iface t1 v1, .iface t2 v2, .int .u8 c] 69) = W1 := ⟨_, rfl⟩
  rw [hW1]
  have HM0 : Hid (W1.heap[B]? = some (.cells #[.iface t1 v1, .iface t2 v2, .int .u8 c] 69 (0, 0))) := by show _ = _; rw [← hW1, ← HBB.out]; exact heap_alloc_new W _
  have HO1 : Hid (Own w0 W1 5 1 v n xs) := by show Own _ _ _ _ _ _ _; rw [← hW1]; exact HO0.out.later ((Below.refl _ _).alloc (Nat.le_refl _) _)
  have HKW : Hid (KeepsU W W1) := by show KeepsU _ _; rw [← hW1]; exact KeepsU.of_below ((Below.refl _ _).alloc (Nat.le_refl _) _)
  clear hW1 HO0
  have hcell := fun (w2 : World) (h : w2.heap[B]? = some (.cells #[.iface t1 v1, .iface t2 v2, .int .u8 c] 69 (0, 0))) => cells3 h
  refine wp_region_chain4 (fun | 0 => .pointer (some ⟨B, 0, none⟩) | 1 => .agg #[.iface t1 v1, .iface t2 v2] | 2 => v | 3 => .pointer (some ⟨B, 2, none⟩) | 4 => .int .u8 c | _ => undef) (fun i => !(i == 5) && !(i == 6) && !(i == 7) && !(i == 8)) 5 6 7 8 10 11 12 4 _ _ _ _
    (fun w => w.heap[B]? = some (.cells #[.iface t1 v1, .iface t2 v2, .int .u8 c] 69 (0, 0)) ∧ KeepsU W1 w ∧ Own w0 w 5 1 v n xs) (fun x w => ∃ g, x = .slice (some ⟨g, 0, none⟩) 1 1 ∧ w.heap[B]? = some (.cells #[.iface t1 v1, .iface t2 v2, .int .u8 c] 69 (0, 0)) ∧ KeepsU W1 w ∧ Own w0 w 5 1 v n xs ∧ g < w.heap.size ∧ ∀ j u, ([.int .u8 c] : List Value)[j]? = some u → w.cell? ((⟨g, 0, none⟩ : Addr).add j) = some u) (fun _ y w => w.heap[B]? = some (.cells #[.iface t1 v1, .iface t2 v2, .int .u8 c] 69 (0, 0)) ∧ KeepsU W1 w ∧ Own w0 w 5 1 y (n + 1) (xs ++ [.int .u8 c])) (fun y w => w.heap[B]? = some (.cells #[.iface t1 v1, .iface t2 v2, .int .u8 c] 69 (0, 0)) ∧ KeepsU W1 w ∧ Own w0 w 5 1 y (n + 1 + lz + lo) (xs ++ [.int .u8 c] ++ cz ++ co)) (fun y w => w.heap[B]? = some (.cells #[.iface t1 v1, .iface t2 v2, .int .u8 c] 69 (0, 0)) ∧ KeepsU W1 w ∧ Own w0 w 5 1 y (n + 1 + lz + lo) (xs ++ [.int .u8 c] ++ cz ++ co)) (fun w => w.heap[B]? = some (.cells #[.iface t1 v1, .iface t2 v2, .int .u8 c] 69 (0, 0)))
    (by kernel_rfl) (by kernel_rfl) rfl rfl rfl rfl rfl rfl rfl rfl rfl rfl (by decide) (by decide) (.inl ⟨⟨5, .data⟩, (by simp), rfl, rfl⟩) ⟨⟨6, .data⟩, (by simp), rfl, rfl⟩ ⟨⟨7, .data⟩, (by simp), rfl, rfl⟩ ?otG ?h0G (fun w h => h.1) (fun x w h => (by obtain ⟨g, _, h2, _⟩ := h; exact h2)) (fun x y w h => h.1) (fun y w h => h.1) (fun y w h => h.1) (fun w w' hb h => ⟨(hb.block B (Array.getElem?_eq_some_iff.1 h.1).1).trans h.1, h.2.1.trans (KeepsU.of_below hb), h.2.2.later hb⟩) (fun x w w' hb h => by obtain ⟨g, rfl, hr, hk, ho, hg, hc⟩ := h; exact ⟨g, rfl, (hb.block B (Array.getElem?_eq_some_iff.1 hr).1).trans hr, hk.trans (KeepsU.of_below hb), ho.later hb, Nat.lt_of_lt_of_le hg hb.size, fun j u hj => (hb.cell (p := (⟨g, 0, none⟩ : Addr).add j) (by rw [add_block]; exact hg)).trans (hc j u hj)⟩) (fun x y w w' hb h => ⟨(hb.block B (Array.getElem?_eq_some_iff.1 h.1).1).trans h.1, h.2.1.trans (KeepsU.of_below hb), h.2.2.later hb⟩) (fun y w w' hb h => ⟨(hb.block B (Array.getElem?_eq_some_iff.1 h.1).1).trans h.1, h.2.1.trans (KeepsU.of_below hb), h.2.2.later hb⟩) (fun y w w' hb h => ⟨(hb.block B (Array.getElem?_eq_some_iff.1 h.1).1).trans h.1, h.2.1.trans (KeepsU.of_below hb), h.2.2.later hb⟩) ?conG ?saG ?sbG ?scG ?sdG ?enG
  case otG =>
    intro i o ho hki
    match i, ho with
    | 0, ho =>
      obtain rfl := Option.some.inj ho
      exact ⟨by decide, by decide, by decide, by decide⟩
    | 1, ho =>
      obtain rfl := Option.some.inj ho
      exact ⟨by decide, by decide, by decide, by decide⟩
    | 2, ho =>
      obtain rfl := Option.some.inj ho
      exact ⟨by decide, by decide, by decide, by decide⟩
    | 3, ho =>
      obtain rfl := Option.some.inj ho
      exact ⟨by decide, by decide, by decide, by decide⟩
    | 4, ho =>
      obtain rfl := Option.some.inj ho
      exact ⟨by decide, by decide, by decide, by decide⟩
    | 5, ho => exact absurd hki (by decide)
    | 6, ho => exact absurd hki (by decide)
    | 7, ho => exact absurd hki (by decide)
    | 8, ho => exact absurd hki (by decide)
    | q + 9, ho => simp at ho
  case h0G => exact ⟨HM0.out, KeepsU.of_below (drew_at W1), HO1.out.later (drew_at W1)⟩
  case conG =>
    intro i o ho hki a wx hJ hf
    match i, ho with
    | 0, ho =>
      obtain rfl := Option.some.inj ho
      have b2 : a.tmps[2]?.getD undef = .pointer (some ⟨B, 0, none⟩) := hf.2 2 (by kernel_rfl)
      exact wp_value (.pointer (some ⟨B, 0, none⟩)) (by unfold execOp; go_simp) ⟨rfl, Below.refl _ _⟩
    | 1, ho =>
      obtain rfl := Option.some.inj ho
      have e5 : a.tmps[5]?.getD undef = .pointer (some ⟨B, 0, none⟩) := hf.1 ⟨0, .data⟩ (by simp) rfl _ 5 rfl rfl (by decide)
      obtain ⟨c0, c1, c2⟩ := hcell _ hJ
      exact wp_value (.agg #[.iface t1 v1, .iface t2 v2]) (by unfold execOp; go_simp) ⟨rfl, Below.refl _ _⟩
    | 2, ho =>
      obtain rfl := Option.some.inj ho
      have b1 : a.tmps[1]?.getD undef = v := hf.2 1 (by kernel_rfl)
      exact wp_value (v) (by unfold execOp; go_simp) ⟨rfl, Below.refl _ _⟩
    | 3, ho =>
      obtain rfl := Option.some.inj ho
      have b2 : a.tmps[2]?.getD undef = .pointer (some ⟨B, 0, none⟩) := hf.2 2 (by kernel_rfl)
      exact wp_value (.pointer (some ⟨B, 2, none⟩)) (by unfold execOp; go_simp) ⟨rfl, Below.refl _ _⟩
    | 4, ho =>
      obtain rfl := Option.some.inj ho
      have e8 : a.tmps[8]?.getD undef = .pointer (some ⟨B, 2, none⟩) := hf.1 ⟨3, .data⟩ (by simp) rfl _ 8 rfl rfl (by decide)
      obtain ⟨c0, c1, c2⟩ := hcell _ hJ
      exact wp_value (.int .u8 c) (by unfold execOp; go_simp) ⟨rfl, Below.refl _ _⟩
    | 5, ho => exact absurd hki (by decide)
    | 6, ho => exact absurd hki (by decide)
    | 7, ho => exact absurd hki (by decide)
    | 8, ho => exact absurd hki (by decide)
    | q + 9, ho => simp at ho
  case saG =>
    intro a wx hI hf
    have e9 : a.tmps[9]?.getD undef = .int .u8 c := hf.1 ⟨4, .data⟩ (by simp) rfl _ 9 rfl rfl (by decide)
    obtain ⟨hr, hk, ho⟩ := hI
    have hbl : Below wx.heap.size wx (wx.alloc (.cells ([.int .u8 c] : List Value).toArray 5)) := (Below.refl _ _).alloc (Nat.le_refl _) _
    exact wp_valueW (.slice (some ⟨wx.heap.size, 0, none⟩) 1 1) (wx.alloc (.cells ([.int .u8 c] : List Value).toArray 5)) (by unfold execOp; go_simp) ⟨_, rfl, wx.heap.size, rfl, (hbl.block B (Array.getElem?_eq_some_iff.1 hr).1).trans hr, hk.trans (KeepsU.of_below hbl), ho.later hbl, by simp, cells_list _ _⟩
  case sbG =>
    intro a wx x hI hv hf
    have e7 : a.tmps[7]?.getD undef = v := hf.1 ⟨2, .data⟩ (by simp) rfl _ 7 rfl rfl (by decide)
    obtain ⟨g, rfl, hr, hk, ho, hg, hc⟩ := hI
    refine wp_append_own wx (.tmp 7) (.tmp 10) 22 rfl w0.heap.size 5 i0 (.int .u8 0) 1 1 Tryz.underlying22 hi hz0 hz1 hz2 rfl (by decide) v n xs (eval_get e7) ho.row ⟨g, 0, none⟩ 1 1 [.int .u8 c] (eval_some hv) rfl hc (by simp [Value.oneCell']) (by unfold maxLen; omega) (by omega) ho.below.size ?_
    intro v3 w3 hown3 hgrow3 _
    have hk3 := KeepsU.of_grown ho.row hgrow3
    exact ⟨v3, rfl, hk3.rowG hr, hk.trans hk3, ⟨hown3, ho.below.grown hgrow3 ho.below.size fun j hj => (ho.row.lt j hj).1⟩⟩
  case scG =>
    intro a wx x y hI hv hu hf
    have e6 : a.tmps[6]?.getD undef = .agg #[.iface t1 v1, .iface t2 v2] := hf.1 ⟨1, .data⟩ (by simp) rfl _ 6 rfl rfl (by decide)
    obtain ⟨hr, hk, ho⟩ := hI
    have e11 := get_some hu
    refine wp_enterR 141 #[.agg #[.iface t1 v1, .iface t2 v2], y] (by unfold execOp; go_simp) (HP.out w0 wx y (n + 1) _ ho (by omega)) ?_
    rintro v' w' ⟨h1, h2⟩
    exact ⟨v', rfl, h2.rowG hr, hk.trans h2, h1⟩
  case sdG =>
    intro a wx y hI hv hf
    obtain ⟨hr, hk, ho⟩ := hI
    have e12 := get_some hv
    exact wp_value y (by unfold execOp; go_simp) ⟨y, rfl, hr, hk, ho⟩
  intro k1 k2 k3 res w9 hI
  obtain ⟨hr, hk, ho⟩ := hI
  have HK3 := Lib.hid (HKW.out.trans hk)
  have HO3 := Lib.hid ho
  clear hr hk ho
  simp only [fill, Act.put]
  go_simp
  go_wp2_with fail
  go_ret
  exact ⟨res, rfl, by rw [HLN.out, H3C.out, show n + (lz + lo + 1) = n + 1 + lz + lo by omega]; have h := HO3.out; simp only [List.append_assoc] at h ⊢; exact h, HK3.out⟩

theorem app_to (t : F) (hw : wf 3 t) : Go.Proofs.YtbccachkkflceaaGreatDoor.FmMeth.Node 131 143 t (AppC t) := by
  induction t with
  | lit k v => exact .inl ⟨_, rfl, lit_app k v hw⟩
  | gate a f g ihz iho => exact .inr ⟨_, rfl, gate_app a f g (part_app f g (ihz hw.1) (iho hw.2))⟩
end Go.Proofs.YtbccachkkflceaaGreatDoor.FmApp

