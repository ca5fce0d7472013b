/-
  A region that draws its order, with three operations that turn the world and come one after another (each takes what the one before gives), and others that only read: each walked once.
-/
import Derived.Test.YtbccachkkflceaaDoorFreeW
namespace Go.Proofs.YtbccachkkflceaaDoor.FreeC
open Go Go.RowKit Go.Proofs.YtbccachkkflceaaDoor.Free Go.Proofs.YtbccachkkflceaaDoor.FreeT Go.Proofs.YtbccachkkflceaaDoor.FreeW
set_option linter.unusedVariables false

section
variable {P : Program} {ops : Array Oper}

set_option maxHeartbeats 1000000 in
theorem wp_region_chain3 {id n : Nat} {a0 : Act} {w0 : World} {Q : Exit → Act → World → Prop} (con : Nat → Value) (kn : Nat → Bool) (s1 s2 s3 d1 d2 d3 : Nat) (o1 o2 o3 : Oper)
    (I0 : World → Prop) (I1 : Value → World → Prop) (I2 : Value → Value → World → Prop) (I3 : Value → Value → Value → World → Prop) (J : World → Prop)
    (hm : P.follows .mixedOrders = true) (hB : freeB ops n = true) (hn : a0.tmps.size = n)
    (hs1 : ops[s1]? = some o1) (hd1 : o1.dst = some d1) (hs2 : ops[s2]? = some o2) (hd2 : o2.dst = some d2) (hs3 : ops[s3]? = some o3) (hd3 : o3.dst = some d3)
    (hk : kn = fun i => !(i == s1) && !(i == s2) && !(i == s3)) (hne : [s1, s2, s3].Nodup) (hdd : [d1, d2, d3].Nodup)
    (hdep12 : ∃ e ∈ o2.after, Region.binds .any e = true ∧ e.on = s1) (hdep23 : ∃ e ∈ o3.after, Region.binds .any e = true ∧ e.on = s2)
    (hoth : ∀ (i : Nat) (o : Oper), ops[i]? = some o → kn i = true → o.dst ≠ some d1 ∧ o.dst ≠ some d2 ∧ o.dst ≠ some d3)
    (h0 : I0 { w0 with drawn := w0.drawn + 1 })
    (J0 : ∀ w, I0 w → J w) (J1 : ∀ v w, I1 v w → J w) (J2 : ∀ v u w, I2 v u w → J w) (J3 : ∀ v u t w, I3 v u t w → J w)
    (hcon : ∀ (i : Nat) (o : Oper), ops[i]? = some o → kn i = true → ∀ (a : Act) (w : World), J w → FactsA ops a0 con kn o a → ((∃ e ∈ o3.after, Region.binds .any e = true ∧ e.on = i) → a.tmps[d3]?.getD undef = a0.tmps[d3]?.getD undef) →
      o.wp P a w (fun a' w' => a' = a.put o.dst (con i) ∧ w' = w) Q)
    (h1 : ∀ (a : Act) (w : World), I0 w → FactsA ops a0 con kn o1 a → o1.wp P a w (fun a' w' => ∃ v, a' = a.put o1.dst v ∧ I1 v w') Q)
    (h2 : ∀ (a : Act) (w : World) (v : Value), I1 v w → a.tmps[d1]? = some v → FactsA ops a0 con kn o2 a → o2.wp P a w (fun a' w' => ∃ u, a' = a.put o2.dst u ∧ I2 v u w') Q)
    (h3 : ∀ (a : Act) (w : World) (v u : Value), I2 v u w → a.tmps[d1]? = some v → a.tmps[d2]? = some u → FactsA ops a0 con kn o3 a → o3.wp P a w (fun a' w' => ∃ t, a' = a.put o3.dst t ∧ I3 v u t w') Q)
    (hend : ∀ (v u t : Value) (w : World), I3 v u t w → Q .normal (fill ops.toList (fun i => if i = s1 then v else if i = s2 then u else if i = s3 then t else con i) 0 a0) w) : (Code.region id ops true).wp P Q a0 w0 := by
  have hB2 := hB
  simp only [freeB, Bool.and_eq_true, decide_eq_true_eq] at hB2
  obtain ⟨⟨q1, q2⟩, _⟩ := hB2
  have hdn : ∀ (o : Oper) (k : Tmp), o ∈ ops.toList → o.dst = some k → k < n := fun o k ho hk => by
    have := List.all_eq_true.1 q1 o ho
    simp only [Bool.and_eq_true, hk] at this
    simpa using this.2
  have hd1n : d1 < n := hdn o1 d1 (by simpa using Array.mem_of_getElem? hs1) hd1
  have hd2n : d2 < n := hdn o2 d2 (by simpa using Array.mem_of_getElem? hs2) hd2
  have hd3n : d3 < n := hdn o3 d3 (by simpa using Array.mem_of_getElem? hs3) hd3
  obtain ⟨n12, n13, n23⟩ : s1 ≠ s2 ∧ s1 ≠ s3 ∧ s2 ≠ s3 := by
    simp only [List.nodup_cons, List.mem_cons, List.not_mem_nil, or_false, not_or] at hne
    exact ⟨hne.1.1, hne.1.2, hne.2.1⟩
  obtain ⟨m12, m13, m23⟩ : d1 ≠ d2 ∧ d1 ≠ d3 ∧ d2 ≠ d3 := by
    simp only [List.nodup_cons, List.mem_cons, List.not_mem_nil, or_false, not_or] at hdd
    exact ⟨hdd.1.1, hdd.1.2, hdd.2.1⟩
  have hkt : ∀ i, kn i = true ↔ i ≠ s1 ∧ i ≠ s2 ∧ i ≠ s3 := fun i => by
    rw [hk]; simp [and_assoc]
  let Y : Nat → Value → Act → World → Prop := fun i v a w => kn i = true → v = con i
  let S : (Nat → Bool) → Act → World → Prop := fun g a w =>
    (g s3 = false → a.tmps[d3]? = a0.tmps[d3]?) ∧ (
    (g s1 = false ∧ g s2 = false ∧ g s3 = false ∧ I0 w) ∨
    (g s1 = true ∧ g s2 = false ∧ g s3 = false ∧ ∃ v, a.tmps[d1]? = some v ∧ I1 v w) ∨
    (g s1 = true ∧ g s2 = true ∧ g s3 = false ∧ ∃ v u, a.tmps[d1]? = some v ∧ a.tmps[d2]? = some u ∧ I2 v u w) ∨
    (g s1 = true ∧ g s2 = true ∧ g s3 = true ∧ ∃ v u t, a.tmps[d1]? = some v ∧ a.tmps[d2]? = some u ∧ a.tmps[d3]? = some t ∧ I3 v u t w))
  have facts : ∀ (listed : Array Bool) (o : Oper) (a : Act) (w : World), MidA ops a0 Y S listed a w → (∀ e ∈ o.after, Region.binds .any e = true → listed.getD e.on false = true) → FactsA ops a0 con kn o a := by
    intro listed o a w hM hdl
    refine ⟨fun e he hb oj dj hoj hdj hkn => ?_, fun k hk => ?_⟩
    · obtain ⟨v, hv, hvd⟩ := hM.new e.on oj hoj (hdl e he hb)
      rw [hvd dj hdj, ← hv hkn]
      rfl
    · rw [hM.old k fun i o' ho' hd' => ?_]
      have := List.all_eq_true.1 hk o' (by simpa using Array.mem_of_getElem? ho')
      simp [hd'] at this
  refine wp_region_freeA (Y := Y) (S := S) hm hB hn ⟨fun _ => rfl, .inl ⟨rfl, rfl, rfl, h0⟩⟩ ?_ ?_
  · intro i o ho listed a w hM hu hdl
    have hF := facts listed o a w hM hdl
    obtain ⟨hOld, hW⟩ := hM.world
    have hsz : a.tmps.size = n := hM.size.trans hn
    have hput : ∀ (d : Nat) (v : Value), d < n → (a.put (some d) v).tmps[d]? = some v := fun d v hd => by simp [Act.put, hsz, hd]
    by_cases e1 : i = s1
    · subst e1
      obtain rfl : o = o1 := Option.some.inj (ho.symm.trans hs1)
      rcases hW with ⟨l1, l2, l3, hI⟩ | ⟨l1, _⟩ | ⟨l1, _⟩ | ⟨l1, _⟩
      · refine Oper.wp_mono ?_ (h1 a w hI hF)
        rintro a' w' ⟨v, rfl, hv⟩
        refine ⟨v, rfl, fun h => absurd rfl ((hkt _).1 h).1, ⟨fun _ => ?_, .inr (.inl ⟨by simp, ?_, ?_, v, by rw [hd1]; exact hput d1 v hd1n, hv⟩)⟩, fun j u _ _ hY => hY⟩
        · rw [put_other (by rw [hd1]; simp; omega)]; exact hOld l3
        · show (if s2 = i then true else listed.getD s2 false) = false
          rw [if_neg (Ne.symm n12)]; exact l2
        · show (if s3 = i then true else listed.getD s3 false) = false
          rw [if_neg (Ne.symm n13)]; exact l3
      all_goals
        have l1' : listed.getD i false = true := l1
        rw [hu] at l1'
        cases l1'
    by_cases e2 : i = s2
    · subst e2
      obtain rfl : o = o2 := Option.some.inj (ho.symm.trans hs2)
      obtain ⟨e, he, hb, heq⟩ := hdep12
      have hl1 := hdl e he hb
      rw [heq] at hl1
      rcases hW with ⟨l1, l2, l3, hI⟩ | ⟨l1, l2, l3, v, hv, hI⟩ | ⟨l1, l2, _⟩ | ⟨l1, l2, _⟩
      · have l1' : listed.getD s1 false = false := l1
        rw [hl1] at l1'
        cases l1'
      · refine Oper.wp_mono ?_ (h2 a w v hI hv hF)
        rintro a' w' ⟨u, rfl, hu'⟩
        refine ⟨u, rfl, fun h => absurd rfl ((hkt _).1 h).2.1, ⟨fun _ => ?_, .inr (.inr (.inl ⟨?_, by simp, ?_, v, u, ?_, by rw [hd2]; exact hput d2 u hd2n, hu'⟩))⟩, fun j u _ _ hY => hY⟩
        · rw [put_other (by rw [hd2]; simp; omega)]; exact hOld l3
        · show (if s1 = i then true else listed.getD s1 false) = true
          rw [if_neg n12]; exact hl1
        · show (if s3 = i then true else listed.getD s3 false) = false
          rw [if_neg (Ne.symm n23)]; exact l3
        · rw [put_other (by rw [hd2]; simp; omega)]; exact hv
      all_goals
        have l2' : listed.getD i false = true := l2
        rw [hu] at l2'
        cases l2'
    by_cases e3 : i = s3
    · subst e3
      obtain rfl : o = o3 := Option.some.inj (ho.symm.trans hs3)
      obtain ⟨e, he, hb, heq⟩ := hdep23
      have hl2 := hdl e he hb
      rw [heq] at hl2
      rcases hW with ⟨l1, l2, l3, hI⟩ | ⟨l1, l2, l3, v, hv, hI⟩ | ⟨l1, l2, l3, v, u, hv, hu2, hI⟩ | ⟨l1, l2, l3, _⟩
      · have l2' : listed.getD s2 false = false := l2
        rw [hl2] at l2'
        cases l2'
      · have l2' : listed.getD s2 false = false := l2
        rw [hl2] at l2'
        cases l2'
      · refine Oper.wp_mono ?_ (h3 a w v u hI hv hu2 hF)
        rintro a' w' ⟨t, rfl, ht⟩
        refine ⟨t, rfl, fun h => absurd rfl ((hkt _).1 h).2.2, ⟨fun h => ?_, .inr (.inr (.inr ⟨?_, ?_, by simp, v, u, t, ?_, ?_, by rw [hd3]; exact hput d3 t hd3n, ht⟩))⟩, fun j u _ _ hY => hY⟩
        · simp at h
        · show (if s1 = i then true else listed.getD s1 false) = true
          rw [if_neg n13]; exact l1
        · show (if s2 = i then true else listed.getD s2 false) = true
          rw [if_neg n23]; exact hl2
        · rw [put_other (by rw [hd3]; simp; omega)]; exact hv
        · rw [put_other (by rw [hd3]; simp; omega)]; exact hu2
      · have l3' : listed.getD i false = true := l3
        rw [hu] at l3'
        cases l3'
    have hki : kn i = true := (hkt i).2 ⟨e1, e2, e3⟩
    obtain ⟨x1, x2, x3⟩ := hoth i o ho hki
    have hJ : J w := by
      rcases hW with ⟨_, _, _, hI⟩ | ⟨_, _, _, v, _, hI⟩ | ⟨_, _, _, v, u, _, _, hI⟩ | ⟨_, _, _, v, u, t, _, _, _, hI⟩
      · exact J0 w hI
      · exact J1 v w hI
      · exact J2 v u w hI
      · exact J3 v u t w hI
    have hKeep : (∃ e ∈ o3.after, Region.binds .any e = true ∧ e.on = i) → a.tmps[d3]?.getD undef = a0.tmps[d3]?.getD undef := by
      rintro ⟨e, he, hb, heq⟩
      have hl3 : listed.getD s3 false = false := by
        cases hl : listed.getD s3 false with
        | false => rfl
        | true =>
          exfalso
          have := hM.closed s3 o3 hs3 hl e he hb
          rw [heq, hu] at this
          cases this
      rw [hOld hl3]
    refine Oper.wp_mono ?_ (hcon i o ho hki a w hJ hF hKeep)
    rintro a' w' ⟨rfl, rfl⟩
    refine ⟨con i, rfl, fun _ => rfl, ?_, fun j u _ _ hY => hY⟩
    have g1 : (if s1 = i then true else listed.getD s1 false) = listed.getD s1 false := if_neg (Ne.symm e1)
    have g2 : (if s2 = i then true else listed.getD s2 false) = listed.getD s2 false := if_neg (Ne.symm e2)
    have g3 : (if s3 = i then true else listed.getD s3 false) = listed.getD s3 false := if_neg (Ne.symm e3)
    show ((if s3 = i then true else listed.getD s3 false) = false → (a.put o.dst (con i)).tmps[d3]? = a0.tmps[d3]?) ∧ (((if s1 = i then true else listed.getD s1 false) = false ∧ (if s2 = i then true else listed.getD s2 false) = false ∧ (if s3 = i then true else listed.getD s3 false) = false ∧ I0 w') ∨
      ((if s1 = i then true else listed.getD s1 false) = true ∧ (if s2 = i then true else listed.getD s2 false) = false ∧ (if s3 = i then true else listed.getD s3 false) = false ∧ ∃ v, (a.put o.dst (con i)).tmps[d1]? = some v ∧ I1 v w') ∨
      ((if s1 = i then true else listed.getD s1 false) = true ∧ (if s2 = i then true else listed.getD s2 false) = true ∧ (if s3 = i then true else listed.getD s3 false) = false ∧ ∃ v u, (a.put o.dst (con i)).tmps[d1]? = some v ∧ (a.put o.dst (con i)).tmps[d2]? = some u ∧ I2 v u w') ∨
      ((if s1 = i then true else listed.getD s1 false) = true ∧ (if s2 = i then true else listed.getD s2 false) = true ∧ (if s3 = i then true else listed.getD s3 false) = true ∧ ∃ v u t, (a.put o.dst (con i)).tmps[d1]? = some v ∧ (a.put o.dst (con i)).tmps[d2]? = some u ∧ (a.put o.dst (con i)).tmps[d3]? = some t ∧ I3 v u t w'))
    rw [g1, g2, g3, put_other x1, put_other x2, put_other x3]
    exact ⟨hOld, hW⟩
  · intro vs w hS hall
    have hlt : ∀ (s : Nat) (o : Oper), ops[s]? = some o → decide (s < ops.size) = true := fun s o h => decide_eq_true (Array.getElem?_eq_some_iff.1 h).1
    have f1 : (fill ops.toList vs 0 a0).tmps[d1]? = some (vs s1) := by rw [fill_at d1 ops.toList vs 0 a0 s1 o1 (by simpa using hs1) hd1 q2 (by rw [hn]; exact hd1n), Nat.zero_add]
    have f2 : (fill ops.toList vs 0 a0).tmps[d2]? = some (vs s2) := by rw [fill_at d2 ops.toList vs 0 a0 s2 o2 (by simpa using hs2) hd2 q2 (by rw [hn]; exact hd2n), Nat.zero_add]
    have f3 : (fill ops.toList vs 0 a0).tmps[d3]? = some (vs s3) := by rw [fill_at d3 ops.toList vs 0 a0 s3 o3 (by simpa using hs3) hd3 q2 (by rw [hn]; exact hd3n), Nat.zero_add]
    rcases hS.2 with ⟨l1, _⟩ | ⟨_, l2, _⟩ | ⟨_, _, l3, _⟩ | ⟨_, _, _, v, u, t, hv, hu, ht, hI⟩
    · have l1' : decide (s1 < ops.size) = false := l1
      rw [hlt s1 o1 hs1] at l1'
      cases l1'
    · have l2' : decide (s2 < ops.size) = false := l2
      rw [hlt s2 o2 hs2] at l2'
      cases l2'
    · have l3' : decide (s3 < ops.size) = false := l3
      rw [hlt s3 o3 hs3] at l3'
      cases l3'
    · rw [f1] at hv
      rw [f2] at hu
      rw [f3] at ht
      obtain rfl := Option.some.inj hv
      obtain rfl := Option.some.inj hu
      obtain rfl := Option.some.inj ht
      have hc := hend (vs s1) (vs s2) (vs s3) w hI
      rw [fill_congr ops.toList vs (fun i => if i = s1 then vs s1 else if i = s2 then vs s2 else if i = s3 then vs s3 else con i) 0 a0 (fun i hi => ?_)]
      · exact hc
      · rw [Nat.zero_add]
        show vs i = if i = s1 then vs s1 else if i = s2 then vs s2 else if i = s3 then vs s3 else con i
        by_cases e1 : i = s1
        · rw [if_pos e1, e1]
        by_cases e2 : i = s2
        · rw [if_neg e1, if_pos e2, e2]
        by_cases e3 : i = s3
        · rw [if_neg e1, if_neg e2, if_pos e3, e3]
        rw [if_neg e1, if_neg e2, if_neg e3]
        have hi' : i < ops.size := by simpa using hi
        exact hall i ops[i] (by simp [hi']) ((hkt i).2 ⟨e1, e2, e3⟩)
end
end Go.Proofs.YtbccachkkflceaaDoor.FreeC
