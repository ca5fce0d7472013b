/-
  The law at two new blocks and one store into each, saying that the blocks are two.
-/
import Derived.Test.YtbccachkkflceaaDoorFreeW
namespace Go.Proofs.YtbccachkkflceaaDoor.FreeN
open Go Go.RowKit Go.Proofs.YtbccachkkflceaaDoor.Free Go.Proofs.YtbccachkkflceaaDoor.FreeT Go.Proofs.YtbccachkkflceaaDoor.FreeW
set_option linter.unusedVariables false

section
variable {P : Program} {ops : Array Oper}

set_option maxHeartbeats 1000000 in
/-- THE LAW AT TWO NEW BLOCKS AND A STORE INTO EACH -/
theorem wp_region_apart {id n : Nat} {a0 : Act} {w0 : World} {Q : Exit → Act → World → Prop} (con : Nat → Value) (kn : Nat → Bool) (A1 A2 S1 S2 d1 d2 : Nat) (T : TypeId) (zs cells1 cells2 : Array Value) (oa1 oa2 os1 os2 : Oper)
    (hm : P.follows .mixedOrders = true) (hB : freeB ops n = true) (hn : a0.tmps.size = n)
    (ha1 : ops[A1]? = some oa1) (had1 : oa1.dst = some d1) (ha2 : ops[A2]? = some oa2) (had2 : oa2.dst = some d2) (hs1 : ops[S1]? = some os1) (hsd1 : os1.dst = none) (hs2 : ops[S2]? = some os2) (hsd2 : os2.dst = none)
    (hk : kn = fun i => !(i == A1) && !(i == A2) && !(i == S1) && !(i == S2)) (hne : [A1, A2, S1, S2].Nodup) (hd12 : d1 ≠ d2)
    (hdep1 : ∃ e ∈ os1.after, Region.binds .any e = true ∧ e.on = A1) (hdep2 : ∃ e ∈ os2.after, Region.binds .any e = true ∧ e.on = A2)
    (hoth : ∀ (i : Nat) (o : Oper), ops[i]? = some o → kn i = true → o.dst ≠ some d1 ∧ o.dst ≠ some d2)
    (hu1 : a0.tmps[d1]? = some undef) (hu2 : a0.tmps[d2]? = some undef)
    (hal1 : ∀ (a : Act) (w : World), (execOp a.eval oa1).run P w = .ok (.value (.pointer (some ⟨w.heap.size, 0, none⟩))) (w.alloc (.cells zs T)))
    (hal2 : ∀ (a : Act) (w : World), (execOp a.eval oa2).run P w = .ok (.value (.pointer (some ⟨w.heap.size, 0, none⟩))) (w.alloc (.cells zs T)))
    (hst1 : ∀ (a : Act) (w : World) (b : Nat) (old : Array Value), FactsA ops a0 con kn os1 a → a.tmps[d1]? = some (.pointer (some ⟨b, 0, none⟩)) → w.heap[b]? = some (.cells old T (0, 0)) → (old = zs ∨ old = cells1) →
      os1.wp P a w (fun a' w' => a' = a ∧ w' = w.setRow b cells1) Q)
    (hst2 : ∀ (a : Act) (w : World) (b : Nat) (old : Array Value), FactsA ops a0 con kn os2 a → a.tmps[d2]? = some (.pointer (some ⟨b, 0, none⟩)) → w.heap[b]? = some (.cells old T (0, 0)) → (old = zs ∨ old = cells2) →
      os2.wp P a w (fun a' w' => a' = a ∧ w' = w.setRow b cells2) Q)
    (hcon : ∀ (i : Nat) (o : Oper), ops[i]? = some o → kn i = true → ∀ (a : Act) (w : World), Below w0.heap.size w0 w → FactsA ops a0 con kn o a →
      o.wp P a w (fun a' w' => a' = a.put o.dst (con i) ∧ Below w.heap.size w w') Q)
    (hend : ∀ (b1 b2 : Nat) (w : World), Below w0.heap.size w0 w → w0.heap.size ≤ b1 → w0.heap.size ≤ b2 → w.heap[b1]? = some (.cells cells1 T (0, 0)) → w.heap[b2]? = some (.cells cells2 T (0, 0)) → b1 ≠ b2 →
      Q .normal (fill ops.toList (fun i => if i = A1 then .pointer (some ⟨b1, 0, none⟩) else if i = A2 then .pointer (some ⟨b2, 0, none⟩) else con i) 0 a0) w) : (Code.region id ops true).wp P Q a0 w0 := by
  have hB2 := hB
  simp only [freeB, Bool.and_eq_true, decide_eq_true_eq] at hB2
  obtain ⟨⟨h1, h2⟩, _⟩ := hB2
  have hdn : ∀ (o : Oper) (k : Tmp), o ∈ ops.toList → o.dst = some k → k < n := fun o k ho hk => by
    have := List.all_eq_true.1 h1 o ho
    simp only [Bool.and_eq_true, hk] at this
    simpa using this.2
  have hd1n : d1 < n := hdn oa1 d1 (by simpa using Array.mem_of_getElem? ha1) had1
  have hd2n : d2 < n := hdn oa2 d2 (by simpa using Array.mem_of_getElem? ha2) had2
  obtain ⟨n12, n13, n14, n23, n24, n34⟩ : A1 ≠ A2 ∧ A1 ≠ S1 ∧ A1 ≠ S2 ∧ A2 ≠ S1 ∧ A2 ≠ S2 ∧ S1 ≠ S2 := by
    simp only [List.nodup_cons, List.mem_cons, List.not_mem_nil, or_false, not_or] at hne
    exact ⟨hne.1.1, hne.1.2.1, hne.1.2.2, hne.2.1.1, hne.2.1.2, hne.2.2.1⟩
  have hkt : ∀ i, kn i = true ↔ i ≠ A1 ∧ i ≠ A2 ∧ i ≠ S1 ∧ i ≠ S2 := fun i => by
    rw [hk]; simp [and_assoc]
  let Y : Nat → Value → Act → World → Prop := fun i v a w => kn i = true → v = con i
  let S : (Nat → Bool) → Act → World → Prop := fun g a w => Below w0.heap.size w0 w ∧ Laid w0.heap.size d1 T zs cells1 (g A1) (g S1) a w ∧ Laid w0.heap.size d2 T zs cells2 (g A2) (g S2) a w ∧
    ∀ b1 b2, a.tmps[d1]? = some (.pointer (some ⟨b1, 0, none⟩)) → a.tmps[d2]? = some (.pointer (some ⟨b2, 0, none⟩)) → b1 ≠ b2
  have facts : ∀ (listed : Array Bool) (o : Oper) (a : Act) (w : World), MidA ops a0 Y S listed a w → (∀ e ∈ o.after, Region.binds .any e = true → listed.getD e.on false = true) → FactsA ops a0 con kn o a := by
    intro listed o a w hM hdl
    refine ⟨fun e he hb oj dj hoj hdj hkn => ?_, fun k hk => ?_⟩
    · obtain ⟨v, hv, hvd⟩ := hM.new e.on oj hoj (hdl e he hb)
      rw [hvd dj hdj, ← hv hkn]
      rfl
    · rw [hM.old k fun i o' ho' hd' => ?_]
      have := List.all_eq_true.1 hk o' (by simpa using Array.mem_of_getElem? ho')
      simp [hd'] at this
  refine wp_region_freeA (Y := Y) (S := S) hm hB hn ⟨(Below.refl w0.heap.size w0).drew, ⟨fun _ => hu1, fun h => (by cases h)⟩, ⟨fun _ => hu2, fun h => (by cases h)⟩, fun b1 b2 e1 _ => (by rw [hu1] at e1; simp [undef] at e1)⟩ ?_ ?_
  · intro i o ho listed a w hM hu hdl
    obtain ⟨hBl, hL1, hL2, hap⟩ := hM.world
    have hsz : a.tmps.size = n := hM.size.trans hn
    by_cases h1a : i = A1
    · subst h1a
      obtain rfl : o = oa1 := Option.some.inj (ho.symm.trans ha1)
      unfold Oper.wp
      rw [hal1 a w]
      have hsu : listed.getD S1 false = false := by
        cases hl : listed.getD S1 false with
        | false => rfl
        | true =>
          exfalso
          obtain ⟨e, he, hb, heq⟩ := hdep1
          have := hM.closed S1 os1 hs1 hl e he hb
          rw [heq, hu] at this
          cases this
      have hnew : (a.put o.dst (.pointer (some ⟨w.heap.size, 0, none⟩))).tmps[d1]? = some (.pointer (some ⟨w.heap.size, 0, none⟩)) := by
        rw [had1]; simp [Act.put, hsz, hd1n]
      have hsame : (a.put o.dst (.pointer (some ⟨w.heap.size, 0, none⟩))).tmps[d2]? = a.tmps[d2]? := put_other (by rw [had1]; simp; omega)
      refine ⟨_, rfl, fun h => absurd rfl ((hkt _).1 h).1, ⟨hBl.alloc hBl.size _, ?_, ?_, ?_⟩, fun j u _ _ hY => hY⟩
      · refine ⟨fun h => (by simp at h), fun _ => ⟨w.heap.size, hnew, hBl.size, ?_⟩⟩
        simp only [if_neg (Ne.symm n13), hsu]
        exact heap_alloc_new w _
      · have := hL2.on hsame ((Below.refl w.heap.size w).alloc (Nat.le_refl _) (.cells zs T))
        simpa [Ne.symm n12, Ne.symm n14] using this
      · intro b1 b2 e1 e2
        rw [hnew] at e1
        rw [hsame] at e2
        have := hL2.lt e2
        simp at e1
        omega
    by_cases h2a : i = A2
    · subst h2a
      obtain rfl : o = oa2 := Option.some.inj (ho.symm.trans ha2)
      unfold Oper.wp
      rw [hal2 a w]
      have hsu : listed.getD S2 false = false := by
        cases hl : listed.getD S2 false with
        | false => rfl
        | true =>
          exfalso
          obtain ⟨e, he, hb, heq⟩ := hdep2
          have := hM.closed S2 os2 hs2 hl e he hb
          rw [heq, hu] at this
          cases this
      have hnew : (a.put o.dst (.pointer (some ⟨w.heap.size, 0, none⟩))).tmps[d2]? = some (.pointer (some ⟨w.heap.size, 0, none⟩)) := by
        rw [had2]; simp [Act.put, hsz, hd2n]
      have hsame : (a.put o.dst (.pointer (some ⟨w.heap.size, 0, none⟩))).tmps[d1]? = a.tmps[d1]? := put_other (by rw [had2]; simp; omega)
      refine ⟨_, rfl, fun h => absurd rfl ((hkt _).1 h).2.1, ⟨hBl.alloc hBl.size _, ?_, ?_, ?_⟩, fun j u _ _ hY => hY⟩
      · have := hL1.on hsame ((Below.refl w.heap.size w).alloc (Nat.le_refl _) (.cells zs T))
        simpa [n12, Ne.symm n23] using this
      · refine ⟨fun h => (by simp at h), fun _ => ⟨w.heap.size, hnew, hBl.size, ?_⟩⟩
        simp only [if_neg (Ne.symm n24), hsu]
        exact heap_alloc_new w _
      · intro b1 b2 e1 e2
        rw [hnew] at e2
        rw [hsame] at e1
        have := hL1.lt e1
        simp at e2
        omega
    by_cases h1s : i = S1
    · subst h1s
      obtain rfl : o = os1 := Option.some.inj (ho.symm.trans hs1)
      obtain ⟨e, he, hb, heq⟩ := hdep1
      have hl := hdl e he hb
      rw [heq] at hl
      obtain ⟨b, hp, hbw, hheap⟩ := hL1.2 hl
      refine Oper.wp_mono ?_ (hst1 a w b _ (facts listed o a w hM hdl) hp hheap (by split <;> simp))
      rintro a' w' ⟨rfl, rfl⟩
      refine ⟨undef, by rw [hsd1]; rfl, fun h => absurd rfl ((hkt _).1 h).2.2.1, ⟨setRow_below hBl hbw _, ?_, ?_, hap⟩, fun j u _ _ hY => hY⟩
      · refine ⟨fun h => (by simp [n13, hl] at h), fun _ => ⟨b, hp, hbw, ?_⟩⟩
        rw [if_pos (by simp)]
        exact setRow_kept hheap _
      · have := hL2.row (g := b) (cs := cells1) fun b2 e2 => (hap b b2 hp e2).symm
        simpa [n23, Ne.symm n34] using this
    by_cases h2s : i = S2
    · subst h2s
      obtain rfl : o = os2 := Option.some.inj (ho.symm.trans hs2)
      obtain ⟨e, he, hb, heq⟩ := hdep2
      have hl := hdl e he hb
      rw [heq] at hl
      obtain ⟨b, hp, hbw, hheap⟩ := hL2.2 hl
      refine Oper.wp_mono ?_ (hst2 a w b _ (facts listed o a w hM hdl) hp hheap (by split <;> simp))
      rintro a' w' ⟨rfl, rfl⟩
      refine ⟨undef, by rw [hsd2]; rfl, fun h => absurd rfl ((hkt _).1 h).2.2.2, ⟨setRow_below hBl hbw _, ?_, ?_, hap⟩, fun j u _ _ hY => hY⟩
      · have := hL1.row (g := b) (cs := cells2) fun b1 e1 => hap b1 b e1 hp
        simpa [n14, n34] using this
      · refine ⟨fun h => (by simp [n24, hl] at h), fun _ => ⟨b, hp, hbw, ?_⟩⟩
        rw [if_pos (by simp)]
        exact setRow_kept hheap _
    have hki : kn i = true := (hkt i).2 ⟨h1a, h2a, h1s, h2s⟩
    obtain ⟨e1, e2⟩ := hoth i o ho hki
    refine Oper.wp_mono ?_ (hcon i o ho hki a w hBl (facts listed o a w hM hdl))
    rintro a' w' ⟨rfl, hbl⟩
    refine ⟨con i, rfl, fun _ => rfl, ⟨hBl.trans (hbl.mono hBl.size), ?_, ?_, ?_⟩, fun j u _ _ hY => hY⟩
    · have := hL1.on (put_other (v := con i) e1) hbl
      simpa [Ne.symm h1a, Ne.symm h1s] using this
    · have := hL2.on (put_other (v := con i) e2) hbl
      simpa [Ne.symm h2a, Ne.symm h2s] using this
    · intro b1 b2 f1 f2
      rw [put_other e1] at f1
      rw [put_other e2] at f2
      exact hap b1 b2 f1 f2
  · intro vs w hS hall
    obtain ⟨hBl, hL1, hL2, hap⟩ := hS
    have l1 : A1 < ops.size := (Array.getElem?_eq_some_iff.1 ha1).1
    have l2 : A2 < ops.size := (Array.getElem?_eq_some_iff.1 ha2).1
    have l3 : S1 < ops.size := (Array.getElem?_eq_some_iff.1 hs1).1
    have l4 : S2 < ops.size := (Array.getElem?_eq_some_iff.1 hs2).1
    obtain ⟨b1, p1, c1, k1⟩ := hL1.2 (by simp [l1])
    obtain ⟨b2, p2, c2, k2⟩ := hL2.2 (by simp [l2])
    rw [if_pos (by simp [l3])] at k1
    rw [if_pos (by simp [l4])] at k2
    have f1 := fill_at d1 ops.toList vs 0 a0 A1 oa1 (by simpa using ha1) had1 h2 (by rw [hn]; exact hd1n)
    have f2 := fill_at d2 ops.toList vs 0 a0 A2 oa2 (by simpa using ha2) had2 h2 (by rw [hn]; exact hd2n)
    rw [p1, Nat.zero_add] at f1
    rw [p2, Nat.zero_add] at f2
    have hc : fill ops.toList vs 0 a0 = fill ops.toList (fun i => if i = A1 then .pointer (some ⟨b1, 0, none⟩) else if i = A2 then .pointer (some ⟨b2, 0, none⟩) else con i) 0 a0 := by
      refine fill_none _ _ _ 0 a0 fun i o ho hd => ?_
      rw [Nat.zero_add]
      have ho2 : ops[i]? = some o := by simpa using ho
      by_cases e1 : i = A1
      · subst e1; rw [if_pos rfl]; exact (Option.some.inj f1).symm
      by_cases e2 : i = A2
      · subst e2; rw [if_neg (Ne.symm n12), if_pos rfl]; exact (Option.some.inj f2).symm
      rw [if_neg e1, if_neg e2]
      refine hall i o ho2 ((hkt i).2 ⟨e1, e2, fun e => ?_, fun e => ?_⟩)
      · subst e
        obtain rfl : o = os1 := Option.some.inj (ho2.symm.trans hs1)
        exact hd hsd1
      · subst e
        obtain rfl : o = os2 := Option.some.inj (ho2.symm.trans hs2)
        exact hd hsd2
    rw [hc]
    exact hend b1 b2 w hBl c1 c2 k1 k2 (hap b1 b2 p1 p2)
end
end Go.Proofs.YtbccachkkflceaaDoor.FreeN
