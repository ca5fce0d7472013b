/-
  Texts of one seat, joined: FreeW, FreeC.
-/
import Derived.Test.YtbccachkkflceaaGreatDoorJn1
import Derived.Test.YtbccachkkflceaaGreatDoorJn13
/-
  The same law, its invariant told of the slots, too; and the law at two new blocks and one store into each.
-/
namespace Go.Proofs.YtbccachkkflceaaGreatDoor.FreeW
open Go Go.RowKit Go.Proofs.YtbccachkkflceaaGreatDoor.Free Go.Proofs.YtbccachkkflceaaGreatDoor.FreeT
set_option linter.unusedVariables false

section
variable {P : Program} {ops : Array Oper}

/-- what is known in the midst of the region; S: of the world, by what has come up -/
structure MidA (ops : Array Oper) (a0 : Act) (Y : Nat → Value → Act → World → Prop) (S : (Nat → Bool) → Act → World → Prop) (listed : Array Bool) (a : Act) (w : World) : Prop where
  defers : a.defers = a0.defers
  size : a.tmps.size = a0.tmps.size
  world : S (fun i => listed.getD i false) a w
  old : ∀ k, (∀ (i : Nat) (o : Oper), ops[i]? = some o → o.dst ≠ some k) → a.tmps[k]? = a0.tmps[k]?
  closed : ∀ (i : Nat) (o : Oper), ops[i]? = some o → listed.getD i false = true → ∀ e ∈ o.after, Region.binds .any e = true → listed.getD e.on false = true
  new : ∀ (i : Nat) (o : Oper), ops[i]? = some o → listed.getD i false = true → ∃ v, Y i v a w ∧ ∀ d, o.dst = some d → a.tmps[d]? = some v

theorem wpAnyA_mid {n : Nat} {a0 : Act} {Y : Nat → Value → Act → World → Prop} {S : (Nat → Bool) → Act → World → Prop} {Q : Exit → Act → World → Prop} (hB : freeB ops n = true) (hn : a0.tmps.size = n)
    (hstep : ∀ (i : Nat) (o : Oper), ops[i]? = some o → ∀ (listed : Array Bool) (a : Act) (w : World), MidA ops a0 Y S listed a w → listed.getD i false = false → (∀ e ∈ o.after, Region.binds .any e = true → listed.getD e.on false = true) →
      o.wp P a w (fun a' w' => ∃ v, a' = a.put o.dst v ∧ Y i v a' w' ∧ S (fun j => if j = i then true else listed.getD j false) a' w' ∧ ∀ j u, j ≠ i → listed.getD j false = true → Y j u a w → Y j u a' w') Q)
    (hend : ∀ a w, (∀ listed : Array Bool, (∀ i, listed.getD i false = decide (i < ops.size)) → MidA ops a0 Y S listed a w) → Q .normal a w) :
    ∀ (fuel : Nat) (listed : Array Bool) (a : Act) (w : World), listed.size = ops.size → left listed ops.size ≤ fuel → MidA ops a0 Y S listed a w → wpAny P .any ops Q fuel listed a w := by
  simp only [freeB, Bool.and_eq_true, decide_eq_true_eq] at hB
  obtain ⟨⟨h1, h2⟩, h3⟩ := hB
  have hg : ∀ (i : Nat) (o : Oper), ops[i]? = some o → o.guard = none := fun i o ho => by
    have := List.all_eq_true.1 h1 o (by simpa using Array.mem_of_getElem? ho)
    simp only [Bool.and_eq_true] at this
    simpa using this.1
  have hd : ∀ (i : Nat) (o : Oper) (d : Tmp), ops[i]? = some o → o.dst = some d → d < n := fun i o d ho hdst => by
    have := List.all_eq_true.1 h1 o (by simpa using Array.mem_of_getElem? ho)
    simp only [Bool.and_eq_true, hdst] at this
    simpa using this.2
  have hac : ∀ (i : Nat) (o : Oper), ops[i]? = some o → ∀ e ∈ o.after, Region.binds .any e = true → e.on < i := fun i o ho e he hb => by
    have hi : i < ops.size := (Array.getElem?_eq_some_iff.1 ho).1
    have := List.all_eq_true.1 h3 i (List.mem_range.2 hi)
    rw [ho] at this
    have h4 : ∀ e ∈ o.after, (!Region.binds .any e || decide (e.on < i)) = true := by
      have h5 : (o.after.all fun e => !Region.binds .any e || decide (e.on < i)) = true := this
      exact fun e he => Array.all_eq_true_iff_forall_mem.1 h5 e he
    have := h4 e he
    simpa [hb] using this
  have hdd : ∀ (i j : Nat) (oi oj : Oper) (d : Tmp), ops[i]? = some oi → ops[j]? = some oj → oi.dst = some d → oj.dst = some d → i = j := fun i j oi oj d hi hj di dj => by
    have hi' : ops.toList[i]? = some oi := by simpa using hi
    have hj' : ops.toList[j]? = some oj := by simpa using hj
    clear hd hac hg h1 h3 hstep hend hi hj
    generalize ops.toList = l at *
    induction l generalizing i j with
    | nil => simp at hi'
    | cons o l ih =>
      cases i with
      | zero =>
        cases j with
        | zero => rfl
        | succ j =>
          exfalso
          simp only [List.getElem?_cons_zero, Option.some.injEq] at hi'
          subst hi'
          simp only [List.getElem?_cons_succ] at hj'
          rw [List.filterMap_cons_some di, List.nodup_cons] at h2
          exact h2.1 (List.mem_filterMap.2 ⟨oj, List.mem_of_getElem? hj', dj⟩)
      | succ i =>
        cases j with
        | zero =>
          exfalso
          simp only [List.getElem?_cons_zero, Option.some.injEq] at hj'
          subst hj'
          simp only [List.getElem?_cons_succ] at hi'
          rw [List.filterMap_cons_some dj, List.nodup_cons] at h2
          exact h2.1 (List.mem_filterMap.2 ⟨oi, List.mem_of_getElem? hi', di⟩)
        | succ j =>
          simp only [List.getElem?_cons_succ] at hi' hj'
          have : (l.filterMap (·.dst)).Nodup := by
            cases hod : o.dst with
            | none => rwa [List.filterMap_cons_none hod] at h2
            | some x => rw [List.filterMap_cons_some hod, List.nodup_cons] at h2; exact h2.2
          rw [ih i j this hi' hj']
  have hall : ∀ (listed : Array Bool), listed.size = ops.size → Region.ready .any ops listed = [] → ∀ m, ∀ i, i < m → i < ops.size → listed.getD i false = true := by
    intro listed hsz hr m
    induction m with
    | zero => intro i hi; omega
    | succ m ih =>
      intro i hi hio
      by_cases e : i = m
      · subst e
        by_cases hl : listed.getD i false = true
        · exact hl
        · exfalso
          have hl2 : listed.getD i true = false := by
            have hlt : i < listed.size := by omega
            simp [hlt] at hl ⊢
            exact hl
          have : i ∈ Region.ready .any ops listed := by
            refine mem_ready.2 ⟨hl2, ops[i], by simp [hio], fun e he hb => ?_⟩
            have := hac i ops[i] (by simp [hio]) e he hb
            exact ih e.on this (by omega)
          rw [hr] at this
          cases this
      · exact ih i (by omega) hio
  intro fuel
  induction fuel with
  | zero =>
    intro listed a w hsz hc hM
    have hz := left_zero listed ops.size (by omega)
    have wEnd : ∀ l' : Array Bool, (∀ i, l'.getD i false = decide (i < ops.size)) → S (fun i => l'.getD i false) a w := fun l' hl' => by
      have e : (fun i => l'.getD i false) = fun i => listed.getD i false := funext fun i => by
        rw [hl']
        by_cases hi : i < ops.size
        · rw [hz i hi]; exact decide_eq_true hi
        · rw [decide_eq_false hi]; simp [Array.getD_eq_getD_getElem?, Array.getElem?_eq_none (show listed.size ≤ i by omega)]
      rw [e]; exact hM.world
    refine ⟨?_, hend a w fun l' hl' => ⟨hM.defers, hM.size, wEnd l' hl', hM.old, fun i o ho _ e he hb => by rw [hl']; exact decide_eq_true (Nat.lt_trans (hac i o ho e he hb) (Array.getElem?_eq_some_iff.1 ho).1), fun i o ho _ => hM.new i o ho (hz i (Array.getElem?_eq_some_iff.1 ho).1)⟩⟩
    cases hr : Region.ready .any ops listed with
    | nil => rfl
    | cons i l =>
      exfalso
      have hi : i ∈ Region.ready .any ops listed := by rw [hr]; exact List.mem_cons_self
      obtain ⟨hu, o, ho, _⟩ := mem_ready.1 hi
      have hio : i < ops.size := (Array.getElem?_eq_some_iff.1 ho).1
      have := hz i hio
      have hlt : i < listed.size := by omega
      simp [hlt] at hu this
      rw [hu] at this
      cases this
  | succ fuel ih =>
    intro listed a w hsz hc hM
    refine ⟨fun hr => hend a w fun l' hl' => ⟨hM.defers, hM.size, (by
      have e : (fun i => l'.getD i false) = fun i => listed.getD i false := funext fun i => by
        rw [hl']
        by_cases hi : i < ops.size
        · rw [hall listed hsz hr ops.size i hi hi]; exact decide_eq_true hi
        · rw [decide_eq_false hi]; simp [Array.getD_eq_getD_getElem?, Array.getElem?_eq_none (show listed.size ≤ i by omega)]
      rw [e]; exact hM.world), hM.old, fun i o ho _ e he hb => by rw [hl']; exact decide_eq_true (Nat.lt_trans (hac i o ho e he hb) (Array.getElem?_eq_some_iff.1 ho).1), fun i o ho _ => hM.new i o ho (hall listed hsz hr ops.size i (Array.getElem?_eq_some_iff.1 ho).1 (Array.getElem?_eq_some_iff.1 ho).1)⟩, fun i hi => ?_⟩
    obtain ⟨hu, o, ho, hdep⟩ := mem_ready.1 hi
    have hio : i < ops.size := (Array.getElem?_eq_some_iff.1 ho).1
    have hu2 : listed.getD i false = false := by
      have hlt : i < listed.size := by omega
      simp [hlt] at hu ⊢
      exact hu
    unfold wpOp
    simp only [ho]
    have hw : Region.wanted o (yielded ops a.tmps) = true := by simp [Region.wanted, hg i o ho]
    rw [if_pos hw]
    refine .inl (Oper.wp_mono ?_ (hstep i o ho listed a w hM hu2 hdep))
    rintro a' w' ⟨v, rfl, hY, hS, hst⟩
    refine ih _ _ _ (by simpa using hsz) (by have := left_set listed i (by omega) hu2 ops.size hio; omega) ⟨?_, ?_, ?_, ?_, ?_, ?_⟩
    · rw [← hM.defers]
      cases o.dst <;> rfl
    · rw [← hM.size]
      cases o.dst <;> simp [Act.put]
    · have e : (fun j => (listed.setIfInBounds i true).getD j false) = fun j => if j = i then true else listed.getD j false := funext fun j => by
        by_cases hj : j = i
        · subst hj
          have hlt : j < listed.size := by omega
          simp [Array.getD_eq_getD_getElem?, hlt]
        · simp [Array.getD_eq_getD_getElem?, Array.getElem?_setIfInBounds_ne (Ne.symm hj), hj]
      rw [e]; exact hS
    · intro k hk
      rw [← hM.old k hk]
      cases hod : o.dst with
      | none => rfl
      | some d =>
        have : d ≠ k := fun e => hk i o ho (by rw [hod, e])
        simp [Act.put, Array.getElem?_setIfInBounds_ne this]
    · intro j oj hoj hl e he hb
      have hl' : listed.getD e.on false = true := by
        by_cases e2 : j = i
        · subst e2
          obtain rfl : o = oj := Option.some.inj (ho.symm.trans hoj)
          exact hdep e he hb
        · have hl2 : listed.getD j false = true := by
            rw [← hl]
            simp [Array.getD_eq_getD_getElem?, Array.getElem?_setIfInBounds_ne (Ne.symm e2)]
          exact hM.closed j oj hoj hl2 e he hb
      exact getD_set_true hl'
    · intro j oj hoj hl
      by_cases e : j = i
      · subst e
        obtain rfl : o = oj := Option.some.inj (ho.symm.trans hoj)
        refine ⟨v, hY, fun d hdd' => ?_⟩
        have hdn := hd j o d ho hdd'
        rw [← hn, ← hM.size] at hdn
        simp [hdd', Act.put, hdn]
      · have hl2 : listed.getD j false = true := by
          rw [← hl]
          simp [Array.getD_eq_getD_getElem?, Array.getElem?_setIfInBounds_ne (Ne.symm e)]
        obtain ⟨u, hu', hd'⟩ := hM.new j oj hoj hl2
        refine ⟨u, hst j u e hl2 hu', fun d hdj => ?_⟩
        rw [← hd' d hdj]
        cases hod : o.dst with
        | none => rfl
        | some d2 =>
          have : d2 ≠ d := fun e2 => e (hdd j i oj o d hoj ho hdj (by rw [hod, e2]))
          simp [Act.put, Array.getElem?_setIfInBounds_ne this]

/-- THE LAW -/
theorem wp_region_freeA {id n : Nat} {a0 : Act} {w0 : World} {Y : Nat → Value → Act → World → Prop} {S : (Nat → Bool) → Act → World → Prop} {Q : Exit → Act → World → Prop} (hm : P.follows .mixedOrders = true) (hB : freeB ops n = true) (hn : a0.tmps.size = n)
    (hS : S (fun _ => false) a0 { w0 with drawn := w0.drawn + 1 })
    (hstep : ∀ (i : Nat) (o : Oper), ops[i]? = some o → ∀ (listed : Array Bool) (a : Act) (w : World), MidA ops a0 Y S listed a w → listed.getD i false = false → (∀ e ∈ o.after, Region.binds .any e = true → listed.getD e.on false = true) →
      o.wp P a w (fun a' w' => ∃ v, a' = a.put o.dst v ∧ Y i v a' w' ∧ S (fun j => if j = i then true else listed.getD j false) a' w' ∧ ∀ j u, j ≠ i → listed.getD j false = true → Y j u a w → Y j u a' w') Q)
    (hend : ∀ (vs : Nat → Value) (w : World), S (fun i => decide (i < ops.size)) (fill ops.toList vs 0 a0) w → (∀ (i : Nat) (o : Oper), ops[i]? = some o → Y i (vs i) (fill ops.toList vs 0 a0) w) → Q .normal (fill ops.toList vs 0 a0) w) : (Code.region id ops true).wp P Q a0 w0 := by
  refine wp_region_any hm ?_
  have hB2 := hB
  simp only [freeB, Bool.and_eq_true, decide_eq_true_eq] at hB2
  obtain ⟨⟨h1, h2⟩, _⟩ := hB2
  refine wpAnyA_mid hB hn hstep (fun a w hM => ?_) _ _ _ _ (by simp) ?_ ⟨rfl, rfl, (by
    have e : (fun i => (Array.replicate ops.size false).getD i false) = fun _ => false := funext fun i => by
      by_cases hi : i < ops.size <;> simp [Array.getD_eq_getD_getElem?, hi]
    rw [e]; exact hS), fun _ _ => rfl, fun i o _ hl => ?_, fun i o _ hl => ?_⟩
  · have M := hM (Array.replicate ops.size true) (fun i => by by_cases hi : i < ops.size <;> simp [Array.getD_eq_getD_getElem?, hi])
    have hl : ∀ (i : Nat) (o : Oper), ops[i]? = some o → (Array.replicate ops.size true).getD i false = true := fun i o ho => by
      have hi : i < ops.size := (Array.getElem?_eq_some_iff.1 ho).1
      simp [Array.getD_eq_getD_getElem?, hi]
    classical
    obtain ⟨vs, hvs⟩ : ∃ vs : Nat → Value, ∀ (i : Nat) (o : Oper), ops[i]? = some o → Y i (vs i) a w ∧ ∀ d, o.dst = some d → a.tmps[d]? = some (vs i) := by
      refine ⟨fun i => if h : ∃ v : Value, ∀ o : Oper, ops[i]? = some o → Y i v a w ∧ ∀ d, o.dst = some d → a.tmps[d]? = some v then h.choose else undef, fun i o ho => ?_⟩
      have hex : ∃ v : Value, ∀ o : Oper, ops[i]? = some o → Y i v a w ∧ ∀ d, o.dst = some d → a.tmps[d]? = some v := by
        obtain ⟨v, hv⟩ := M.new i o ho (hl i o ho)
        exact ⟨v, fun o' ho' => by obtain rfl : o = o' := Option.some.inj (ho.symm.trans ho'); exact hv⟩
      dsimp only
      rw [dif_pos hex]
      exact hex.choose_spec o ho
    have ha : a = fill ops.toList vs 0 a0 := by
      have ht : a.tmps = (fill ops.toList vs 0 a0).tmps := by
        apply Array.ext_getElem?
        intro k
        by_cases hk : ∃ (i : Nat) (o : Oper), ops[i]? = some o ∧ o.dst = some k
        · obtain ⟨i, o, ho, hd⟩ := hk
          have hkn : k < a0.tmps.size := by
            have := List.all_eq_true.1 h1 o (by simpa using Array.mem_of_getElem? ho)
            simp only [Bool.and_eq_true, hd] at this
            rw [hn]
            simpa using this.2
          rw [fill_at k ops.toList vs 0 a0 i o (by simpa using ho) hd h2 hkn, (hvs i o ho).2 k hd, Nat.zero_add]
        · have hk2 : ∀ (i : Nat) (o : Oper), ops[i]? = some o → o.dst ≠ some k := fun i o ho e => hk ⟨i, o, ho, e⟩
          rw [M.old k hk2, fill_not k ops.toList vs 0 a0]
          intro o ho e
          obtain ⟨i, hi, rfl⟩ := List.getElem_of_mem ho
          exact hk2 i _ (by simp at hi; simp [hi]) e
      have hdf := M.defers
      rw [← fill_defers ops.toList vs 0 a0] at hdf
      cases a
      cases hfl : fill ops.toList vs 0 a0
      rw [hfl] at ht hdf
      simp only at ht hdf
      rw [ht, hdf]
    rw [ha]
    refine hend vs w (by
      have e : (fun i => (Array.replicate ops.size true).getD i false) = fun i => decide (i < ops.size) := funext fun i => by
        by_cases hi : i < ops.size <;> simp [Array.getD_eq_getD_getElem?, hi]
      have M2 := M.world
      rw [e] at M2; rw [← ha]; exact M2) fun i o ho => ?_
    rw [← ha]
    exact (hvs i o ho).1
  · clear hstep hend
    have : ∀ n, left (Array.replicate ops.size false) n ≤ n := fun n => by
      induction n with
      | zero => simp [left]
      | succ n ih => rw [left]; split <;> omega
    exact this _
  all_goals
    exfalso
    simp [Array.getD_eq_getD_getElem?, Array.getElem?_replicate] at hl
    split at hl <;> simp at hl

/-- what an operation may know of the slots -/
def FactsA (ops : Array Oper) (a0 : Act) (con : Nat → Value) (kn : Nat → Bool) (o : Oper) (a : Act) : Prop :=
  (∀ e ∈ o.after, Region.binds .any e = true → ∀ (oj : Oper) (dj : Tmp), ops[e.on]? = some oj → oj.dst = some dj → kn e.on = true → a.tmps[dj]?.getD undef = con e.on) ∧
  (∀ k, (ops.toList.all fun o => o.dst != some k) = true → a.tmps[k]?.getD undef = a0.tmps[k]?.getD undef)

/-- a new block: not yet laid; laid, zero; stored into -/
def Laid (B : Nat) (d : Tmp) (T : TypeId) (zs cells : Array Value) (al st : Bool) (a : Act) (w : World) : Prop :=
  (al = false → a.tmps[d]? = some undef) ∧ (al = true → ∃ b, a.tmps[d]? = some (.pointer (some ⟨b, 0, none⟩)) ∧ B ≤ b ∧ w.heap[b]? = some (.cells (if st = true then cells else zs) T (0, 0)))
theorem Laid.on {B : Nat} {d : Tmp} {T : TypeId} {zs cells : Array Value} {al st : Bool} {a a' : Act} {w w' : World} (h : Laid B d T zs cells al st a w) (ht : a'.tmps[d]? = a.tmps[d]?) (hb : Below w.heap.size w w') : Laid B d T zs cells al st a' w' :=
  ⟨fun e => by rw [ht]; exact h.1 e, fun e => by
    obtain ⟨b, h1, h2, h3⟩ := h.2 e
    exact ⟨b, by rw [ht]; exact h1, h2, (hb.block b (Array.getElem?_eq_some_iff.1 h3).1).trans h3⟩⟩
theorem Laid.row {B : Nat} {d : Tmp} {T : TypeId} {zs cells : Array Value} {al st : Bool} {a : Act} {w : World} {g : Nat} {cs : Array Value} (h : Laid B d T zs cells al st a w) (hg : ∀ b, a.tmps[d]? = some (.pointer (some ⟨b, 0, none⟩)) → b ≠ g) : Laid B d T zs cells al st a (w.setRow g cs) :=
  ⟨h.1, fun e => by
    obtain ⟨b, h1, h2, h3⟩ := h.2 e
    exact ⟨b, h1, h2, (Go.Proofs.YtbccachkkflceaaGreatDoor.Free.setRow_other (hg b h1) _).trans h3⟩⟩
theorem Laid.lt {B : Nat} {d : Tmp} {T : TypeId} {zs cells : Array Value} {al st : Bool} {a : Act} {w : World} (h : Laid B d T zs cells al st a w) {b : Nat} (hb : a.tmps[d]? = some (.pointer (some ⟨b, 0, none⟩))) : b < w.heap.size := by
  cases al with
  | false => have := h.1 rfl; rw [hb] at this; simp [undef] at this
  | true =>
    obtain ⟨b2, h1, h2, h3⟩ := h.2 rfl
    rw [hb] at h1
    simp at h1
    subst h1
    exact (Array.getElem?_eq_some_iff.1 h3).1
theorem put_other {a : Act} {o : Option Tmp} {v : Value} {d : Tmp} (h : o ≠ some d) : (a.put o v).tmps[d]? = a.tmps[d]? := by
  cases o with
  | none => rfl
  | some x =>
    have : x ≠ d := fun e => h (by rw [e])
    simp [Act.put, Array.getElem?_setIfInBounds_ne this]

set_option maxHeartbeats 1000000 in
/-- THE LAW AT TWO NEW BLOCKS AND A STORE INTO EACH -/
theorem wp_region_two {id n : Nat} {a0 : Act} {w0 : World} {Q : Exit → Act → World → Prop} (con : Nat → Value) (kn : Nat → Bool) (A1 A2 S1 S2 d1 d2 : Nat) (T : TypeId) (zs cells1 cells2 : Array Value) (oa1 oa2 os1 os2 : Oper)
    (hm : P.follows .mixedOrders = true) (hB : freeB ops n = true) (hn : a0.tmps.size = n)
    (ha1 : ops[A1]? = some oa1) (had1 : oa1.dst = some d1) (ha2 : ops[A2]? = some oa2) (had2 : oa2.dst = some d2) (hs1 : ops[S1]? = some os1) (hsd1 : os1.dst = none) (hs2 : ops[S2]? = some os2) (hsd2 : os2.dst = none)
    (hk : kn = fun i => !(i == A1) && !(i == A2) && !(i == S1) && !(i == S2)) (hne : [A1, A2, S1, S2].Nodup) (hd12 : d1 ≠ d2)
    (hdep1 : ∃ e ∈ os1.after, Region.binds .any e = true ∧ e.on = A1) (hdep2 : ∃ e ∈ os2.after, Region.binds .any e = true ∧ e.on = A2)
    (hoth : ∀ (i : Nat) (o : Oper), ops[i]? = some o → kn i = true → o.dst ≠ some d1 ∧ o.dst ≠ some d2)
    (hu1 : a0.tmps[d1]? = some undef) (hu2 : a0.tmps[d2]? = some undef)
    (hal1 : ∀ (a : Act) (w : World), (execOp a.eval oa1).run P w = .ok (.value (.pointer (some ⟨w.heap.size, 0, none⟩))) (w.alloc (.cells zs T)))
    (hal2 : ∀ (a : Act) (w : World), (execOp a.eval oa2).run P w = .ok (.value (.pointer (some ⟨w.heap.size, 0, none⟩))) (w.alloc (.cells zs T)))
    (hst1 : ∀ (a : Act) (w : World) (b : Nat) (old : Array Value), FactsA ops a0 con kn os1 a → a.tmps[d1]? = some (.pointer (some ⟨b, 0, none⟩)) → w.heap[b]? = some (.cells old T (0, 0)) → (old = zs ∨ old = cells1) →
      os1.wp P a w (fun a' w' => a' = a ∧ w' = w.setRow b cells1) Q)
    (hst2 : ∀ (a : Act) (w : World) (b : Nat) (old : Array Value), FactsA ops a0 con kn os2 a → a.tmps[d2]? = some (.pointer (some ⟨b, 0, none⟩)) → w.heap[b]? = some (.cells old T (0, 0)) → (old = zs ∨ old = cells2) →
      os2.wp P a w (fun a' w' => a' = a ∧ w' = w.setRow b cells2) Q)
    (hcon : ∀ (i : Nat) (o : Oper), ops[i]? = some o → kn i = true → ∀ (a : Act) (w : World), Below w0.heap.size w0 w → FactsA ops a0 con kn o a →
      o.wp P a w (fun a' w' => a' = a.put o.dst (con i) ∧ Below w.heap.size w w') Q)
    (hend : ∀ (b1 b2 : Nat) (w : World), Below w0.heap.size w0 w → w0.heap.size ≤ b1 → w0.heap.size ≤ b2 → w.heap[b1]? = some (.cells cells1 T (0, 0)) → w.heap[b2]? = some (.cells cells2 T (0, 0)) →
      Q .normal (fill ops.toList (fun i => if i = A1 then .pointer (some ⟨b1, 0, none⟩) else if i = A2 then .pointer (some ⟨b2, 0, none⟩) else con i) 0 a0) w) : (Code.region id ops true).wp P Q a0 w0 := by
  have hB2 := hB
  simp only [freeB, Bool.and_eq_true, decide_eq_true_eq] at hB2
  obtain ⟨⟨h1, h2⟩, _⟩ := hB2
  have hdn : ∀ (o : Oper) (k : Tmp), o ∈ ops.toList → o.dst = some k → k < n := fun o k ho hk => by
    have := List.all_eq_true.1 h1 o ho
    simp only [Bool.and_eq_true, hk] at this
    simpa using this.2
  have hd1n : d1 < n := hdn oa1 d1 (by simpa using Array.mem_of_getElem? ha1) had1
  have hd2n : d2 < n := hdn oa2 d2 (by simpa using Array.mem_of_getElem? ha2) had2
  obtain ⟨n12, n13, n14, n23, n24, n34⟩ : A1 ≠ A2 ∧ A1 ≠ S1 ∧ A1 ≠ S2 ∧ A2 ≠ S1 ∧ A2 ≠ S2 ∧ S1 ≠ S2 := by
    simp only [List.nodup_cons, List.mem_cons, List.not_mem_nil, or_false, not_or] at hne
    exact ⟨hne.1.1, hne.1.2.1, hne.1.2.2, hne.2.1.1, hne.2.1.2, hne.2.2.1⟩
  have hkt : ∀ i, kn i = true ↔ i ≠ A1 ∧ i ≠ A2 ∧ i ≠ S1 ∧ i ≠ S2 := fun i => by
    rw [hk]; simp [and_assoc]
  let Y : Nat → Value → Act → World → Prop := fun i v a w => kn i = true → v = con i
  let S : (Nat → Bool) → Act → World → Prop := fun g a w => Below w0.heap.size w0 w ∧ Laid w0.heap.size d1 T zs cells1 (g A1) (g S1) a w ∧ Laid w0.heap.size d2 T zs cells2 (g A2) (g S2) a w ∧
    ∀ b1 b2, a.tmps[d1]? = some (.pointer (some ⟨b1, 0, none⟩)) → a.tmps[d2]? = some (.pointer (some ⟨b2, 0, none⟩)) → b1 ≠ b2
  have facts : ∀ (listed : Array Bool) (o : Oper) (a : Act) (w : World), MidA ops a0 Y S listed a w → (∀ e ∈ o.after, Region.binds .any e = true → listed.getD e.on false = true) → FactsA ops a0 con kn o a := by
    intro listed o a w hM hdl
    refine ⟨fun e he hb oj dj hoj hdj hkn => ?_, fun k hk => ?_⟩
    · obtain ⟨v, hv, hvd⟩ := hM.new e.on oj hoj (hdl e he hb)
      rw [hvd dj hdj, ← hv hkn]
      rfl
    · rw [hM.old k fun i o' ho' hd' => ?_]
      have := List.all_eq_true.1 hk o' (by simpa using Array.mem_of_getElem? ho')
      simp [hd'] at this
  refine wp_region_freeA (Y := Y) (S := S) hm hB hn ⟨(Below.refl w0.heap.size w0).drew, ⟨fun _ => hu1, fun h => (by cases h)⟩, ⟨fun _ => hu2, fun h => (by cases h)⟩, fun b1 b2 e1 _ => (by rw [hu1] at e1; simp [undef] at e1)⟩ ?_ ?_
  · intro i o ho listed a w hM hu hdl
    obtain ⟨hBl, hL1, hL2, hap⟩ := hM.world
    have hsz : a.tmps.size = n := hM.size.trans hn
    by_cases h1a : i = A1
    · subst h1a
      obtain rfl : o = oa1 := Option.some.inj (ho.symm.trans ha1)
      unfold Oper.wp
      rw [hal1 a w]
      have hsu : listed.getD S1 false = false := by
        cases hl : listed.getD S1 false with
        | false => rfl
        | true =>
          exfalso
          obtain ⟨e, he, hb, heq⟩ := hdep1
          have := hM.closed S1 os1 hs1 hl e he hb
          rw [heq, hu] at this
          cases this
      have hnew : (a.put o.dst (.pointer (some ⟨w.heap.size, 0, none⟩))).tmps[d1]? = some (.pointer (some ⟨w.heap.size, 0, none⟩)) := by
        rw [had1]; simp [Act.put, hsz, hd1n]
      have hsame : (a.put o.dst (.pointer (some ⟨w.heap.size, 0, none⟩))).tmps[d2]? = a.tmps[d2]? := put_other (by rw [had1]; simp; omega)
      refine ⟨_, rfl, fun h => absurd rfl ((hkt _).1 h).1, ⟨hBl.alloc hBl.size _, ?_, ?_, ?_⟩, fun j u _ _ hY => hY⟩
      · refine ⟨fun h => (by simp at h), fun _ => ⟨w.heap.size, hnew, hBl.size, ?_⟩⟩
        simp only [if_neg (Ne.symm n13), hsu]
        exact heap_alloc_new w _
      · have := hL2.on hsame ((Below.refl w.heap.size w).alloc (Nat.le_refl _) (.cells zs T))
        simpa [Ne.symm n12, Ne.symm n14] using this
      · intro b1 b2 e1 e2
        rw [hnew] at e1
        rw [hsame] at e2
        have := hL2.lt e2
        simp at e1
        omega
    by_cases h2a : i = A2
    · subst h2a
      obtain rfl : o = oa2 := Option.some.inj (ho.symm.trans ha2)
      unfold Oper.wp
      rw [hal2 a w]
      have hsu : listed.getD S2 false = false := by
        cases hl : listed.getD S2 false with
        | false => rfl
        | true =>
          exfalso
          obtain ⟨e, he, hb, heq⟩ := hdep2
          have := hM.closed S2 os2 hs2 hl e he hb
          rw [heq, hu] at this
          cases this
      have hnew : (a.put o.dst (.pointer (some ⟨w.heap.size, 0, none⟩))).tmps[d2]? = some (.pointer (some ⟨w.heap.size, 0, none⟩)) := by
        rw [had2]; simp [Act.put, hsz, hd2n]
      have hsame : (a.put o.dst (.pointer (some ⟨w.heap.size, 0, none⟩))).tmps[d1]? = a.tmps[d1]? := put_other (by rw [had2]; simp; omega)
      refine ⟨_, rfl, fun h => absurd rfl ((hkt _).1 h).2.1, ⟨hBl.alloc hBl.size _, ?_, ?_, ?_⟩, fun j u _ _ hY => hY⟩
      · have := hL1.on hsame ((Below.refl w.heap.size w).alloc (Nat.le_refl _) (.cells zs T))
        simpa [n12, Ne.symm n23] using this
      · refine ⟨fun h => (by simp at h), fun _ => ⟨w.heap.size, hnew, hBl.size, ?_⟩⟩
        simp only [if_neg (Ne.symm n24), hsu]
        exact heap_alloc_new w _
      · intro b1 b2 e1 e2
        rw [hnew] at e2
        rw [hsame] at e1
        have := hL1.lt e1
        simp at e2
        omega
    by_cases h1s : i = S1
    · subst h1s
      obtain rfl : o = os1 := Option.some.inj (ho.symm.trans hs1)
      obtain ⟨e, he, hb, heq⟩ := hdep1
      have hl := hdl e he hb
      rw [heq] at hl
      obtain ⟨b, hp, hbw, hheap⟩ := hL1.2 hl
      refine Oper.wp_mono ?_ (hst1 a w b _ (facts listed o a w hM hdl) hp hheap (by split <;> simp))
      rintro a' w' ⟨rfl, rfl⟩
      refine ⟨undef, by rw [hsd1]; rfl, fun h => absurd rfl ((hkt _).1 h).2.2.1, ⟨setRow_below hBl hbw _, ?_, ?_, hap⟩, fun j u _ _ hY => hY⟩
      · refine ⟨fun h => (by simp [n13, hl] at h), fun _ => ⟨b, hp, hbw, ?_⟩⟩
        rw [if_pos (by simp)]
        exact setRow_kept hheap _
      · have := hL2.row (g := b) (cs := cells1) fun b2 e2 => (hap b b2 hp e2).symm
        simpa [n23, Ne.symm n34] using this
    by_cases h2s : i = S2
    · subst h2s
      obtain rfl : o = os2 := Option.some.inj (ho.symm.trans hs2)
      obtain ⟨e, he, hb, heq⟩ := hdep2
      have hl := hdl e he hb
      rw [heq] at hl
      obtain ⟨b, hp, hbw, hheap⟩ := hL2.2 hl
      refine Oper.wp_mono ?_ (hst2 a w b _ (facts listed o a w hM hdl) hp hheap (by split <;> simp))
      rintro a' w' ⟨rfl, rfl⟩
      refine ⟨undef, by rw [hsd2]; rfl, fun h => absurd rfl ((hkt _).1 h).2.2.2, ⟨setRow_below hBl hbw _, ?_, ?_, hap⟩, fun j u _ _ hY => hY⟩
      · have := hL1.row (g := b) (cs := cells2) fun b1 e1 => hap b1 b e1 hp
        simpa [n14, n34] using this
      · refine ⟨fun h => (by simp [n24, hl] at h), fun _ => ⟨b, hp, hbw, ?_⟩⟩
        rw [if_pos (by simp)]
        exact setRow_kept hheap _
    have hki : kn i = true := (hkt i).2 ⟨h1a, h2a, h1s, h2s⟩
    obtain ⟨e1, e2⟩ := hoth i o ho hki
    refine Oper.wp_mono ?_ (hcon i o ho hki a w hBl (facts listed o a w hM hdl))
    rintro a' w' ⟨rfl, hbl⟩
    refine ⟨con i, rfl, fun _ => rfl, ⟨hBl.trans (hbl.mono hBl.size), ?_, ?_, ?_⟩, fun j u _ _ hY => hY⟩
    · have := hL1.on (put_other (v := con i) e1) hbl
      simpa [Ne.symm h1a, Ne.symm h1s] using this
    · have := hL2.on (put_other (v := con i) e2) hbl
      simpa [Ne.symm h2a, Ne.symm h2s] using this
    · intro b1 b2 f1 f2
      rw [put_other e1] at f1
      rw [put_other e2] at f2
      exact hap b1 b2 f1 f2
  · intro vs w hS hall
    obtain ⟨hBl, hL1, hL2, hap⟩ := hS
    have l1 : A1 < ops.size := (Array.getElem?_eq_some_iff.1 ha1).1
    have l2 : A2 < ops.size := (Array.getElem?_eq_some_iff.1 ha2).1
    have l3 : S1 < ops.size := (Array.getElem?_eq_some_iff.1 hs1).1
    have l4 : S2 < ops.size := (Array.getElem?_eq_some_iff.1 hs2).1
    obtain ⟨b1, p1, c1, k1⟩ := hL1.2 (by simp [l1])
    obtain ⟨b2, p2, c2, k2⟩ := hL2.2 (by simp [l2])
    rw [if_pos (by simp [l3])] at k1
    rw [if_pos (by simp [l4])] at k2
    have f1 := fill_at d1 ops.toList vs 0 a0 A1 oa1 (by simpa using ha1) had1 h2 (by rw [hn]; exact hd1n)
    have f2 := fill_at d2 ops.toList vs 0 a0 A2 oa2 (by simpa using ha2) had2 h2 (by rw [hn]; exact hd2n)
    rw [p1, Nat.zero_add] at f1
    rw [p2, Nat.zero_add] at f2
    have hc : fill ops.toList vs 0 a0 = fill ops.toList (fun i => if i = A1 then .pointer (some ⟨b1, 0, none⟩) else if i = A2 then .pointer (some ⟨b2, 0, none⟩) else con i) 0 a0 := by
      refine fill_none _ _ _ 0 a0 fun i o ho hd => ?_
      rw [Nat.zero_add]
      have ho2 : ops[i]? = some o := by simpa using ho
      by_cases e1 : i = A1
      · subst e1; rw [if_pos rfl]; exact (Option.some.inj f1).symm
      by_cases e2 : i = A2
      · subst e2; rw [if_neg (Ne.symm n12), if_pos rfl]; exact (Option.some.inj f2).symm
      rw [if_neg e1, if_neg e2]
      refine hall i o ho2 ((hkt i).2 ⟨e1, e2, fun e => ?_, fun e => ?_⟩)
      · subst e
        obtain rfl : o = os1 := Option.some.inj (ho2.symm.trans hs1)
        exact hd hsd1
      · subst e
        obtain rfl : o = os2 := Option.some.inj (ho2.symm.trans hs2)
        exact hd hsd2
    rw [hc]
    exact hend b1 b2 w hBl c1 c2 k1 k2
end
end Go.Proofs.YtbccachkkflceaaGreatDoor.FreeW

/-
  A region that draws its order, with three operations that turn the world and come one after another (each takes what the one before gives), and others that only read: each walked once.
-/
namespace Go.Proofs.YtbccachkkflceaaGreatDoor.FreeC
open Go Go.RowKit Go.Proofs.YtbccachkkflceaaGreatDoor.Free Go.Proofs.YtbccachkkflceaaGreatDoor.FreeT Go.Proofs.YtbccachkkflceaaGreatDoor.FreeW
set_option linter.unusedVariables false

section
variable {P : Program} {ops : Array Oper}

set_option maxHeartbeats 1000000 in
theorem wp_region_chain3 {id n : Nat} {a0 : Act} {w0 : World} {Q : Exit → Act → World → Prop} (con : Nat → Value) (kn : Nat → Bool) (s1 s2 s3 d1 d2 d3 : Nat) (o1 o2 o3 : Oper)
    (I0 : World → Prop) (I1 : Value → World → Prop) (I2 : Value → Value → World → Prop) (I3 : Value → Value → Value → World → Prop) (J : World → Prop)
    (hm : P.follows .mixedOrders = true) (hB : freeB ops n = true) (hn : a0.tmps.size = n)
    (hs1 : ops[s1]? = some o1) (hd1 : o1.dst = some d1) (hs2 : ops[s2]? = some o2) (hd2 : o2.dst = some d2) (hs3 : ops[s3]? = some o3) (hd3 : o3.dst = some d3)
    (hk : kn = fun i => !(i == s1) && !(i == s2) && !(i == s3)) (hne : [s1, s2, s3].Nodup) (hdd : [d1, d2, d3].Nodup)
    (hdep12 : ∃ e ∈ o2.after, Region.binds .any e = true ∧ e.on = s1) (hdep23 : ∃ e ∈ o3.after, Region.binds .any e = true ∧ e.on = s2)
    (hoth : ∀ (i : Nat) (o : Oper), ops[i]? = some o → kn i = true → o.dst ≠ some d1 ∧ o.dst ≠ some d2 ∧ o.dst ≠ some d3)
    (h0 : I0 { w0 with drawn := w0.drawn + 1 })
    (J0 : ∀ w, I0 w → J w) (J1 : ∀ v w, I1 v w → J w) (J2 : ∀ v u w, I2 v u w → J w) (J3 : ∀ v u t w, I3 v u t w → J w)
    (hcon : ∀ (i : Nat) (o : Oper), ops[i]? = some o → kn i = true → ∀ (a : Act) (w : World), J w → FactsA ops a0 con kn o a → ((∃ e ∈ o3.after, Region.binds .any e = true ∧ e.on = i) → a.tmps[d3]?.getD undef = a0.tmps[d3]?.getD undef) →
      o.wp P a w (fun a' w' => a' = a.put o.dst (con i) ∧ w' = w) Q)
    (h1 : ∀ (a : Act) (w : World), I0 w → FactsA ops a0 con kn o1 a → o1.wp P a w (fun a' w' => ∃ v, a' = a.put o1.dst v ∧ I1 v w') Q)
    (h2 : ∀ (a : Act) (w : World) (v : Value), I1 v w → a.tmps[d1]? = some v → FactsA ops a0 con kn o2 a → o2.wp P a w (fun a' w' => ∃ u, a' = a.put o2.dst u ∧ I2 v u w') Q)
    (h3 : ∀ (a : Act) (w : World) (v u : Value), I2 v u w → a.tmps[d1]? = some v → a.tmps[d2]? = some u → FactsA ops a0 con kn o3 a → o3.wp P a w (fun a' w' => ∃ t, a' = a.put o3.dst t ∧ I3 v u t w') Q)
    (hend : ∀ (v u t : Value) (w : World), I3 v u t w → Q .normal (fill ops.toList (fun i => if i = s1 then v else if i = s2 then u else if i = s3 then t else con i) 0 a0) w) : (Code.region id ops true).wp P Q a0 w0 := by
  have hB2 := hB
  simp only [freeB, Bool.and_eq_true, decide_eq_true_eq] at hB2
  obtain ⟨⟨q1, q2⟩, _⟩ := hB2
  have hdn : ∀ (o : Oper) (k : Tmp), o ∈ ops.toList → o.dst = some k → k < n := fun o k ho hk => by
    have := List.all_eq_true.1 q1 o ho
    simp only [Bool.and_eq_true, hk] at this
    simpa using this.2
  have hd1n : d1 < n := hdn o1 d1 (by simpa using Array.mem_of_getElem? hs1) hd1
  have hd2n : d2 < n := hdn o2 d2 (by simpa using Array.mem_of_getElem? hs2) hd2
  have hd3n : d3 < n := hdn o3 d3 (by simpa using Array.mem_of_getElem? hs3) hd3
  obtain ⟨n12, n13, n23⟩ : s1 ≠ s2 ∧ s1 ≠ s3 ∧ s2 ≠ s3 := by
    simp only [List.nodup_cons, List.mem_cons, List.not_mem_nil, or_false, not_or] at hne
    exact ⟨hne.1.1, hne.1.2, hne.2.1⟩
  obtain ⟨m12, m13, m23⟩ : d1 ≠ d2 ∧ d1 ≠ d3 ∧ d2 ≠ d3 := by
    simp only [List.nodup_cons, List.mem_cons, List.not_mem_nil, or_false, not_or] at hdd
    exact ⟨hdd.1.1, hdd.1.2, hdd.2.1⟩
  have hkt : ∀ i, kn i = true ↔ i ≠ s1 ∧ i ≠ s2 ∧ i ≠ s3 := fun i => by
    rw [hk]; simp [and_assoc]
  let Y : Nat → Value → Act → World → Prop := fun i v a w => kn i = true → v = con i
  let S : (Nat → Bool) → Act → World → Prop := fun g a w =>
    (g s3 = false → a.tmps[d3]? = a0.tmps[d3]?) ∧ (
    (g s1 = false ∧ g s2 = false ∧ g s3 = false ∧ I0 w) ∨
    (g s1 = true ∧ g s2 = false ∧ g s3 = false ∧ ∃ v, a.tmps[d1]? = some v ∧ I1 v w) ∨
    (g s1 = true ∧ g s2 = true ∧ g s3 = false ∧ ∃ v u, a.tmps[d1]? = some v ∧ a.tmps[d2]? = some u ∧ I2 v u w) ∨
    (g s1 = true ∧ g s2 = true ∧ g s3 = true ∧ ∃ v u t, a.tmps[d1]? = some v ∧ a.tmps[d2]? = some u ∧ a.tmps[d3]? = some t ∧ I3 v u t w))
  have facts : ∀ (listed : Array Bool) (o : Oper) (a : Act) (w : World), MidA ops a0 Y S listed a w → (∀ e ∈ o.after, Region.binds .any e = true → listed.getD e.on false = true) → FactsA ops a0 con kn o a := by
    intro listed o a w hM hdl
    refine ⟨fun e he hb oj dj hoj hdj hkn => ?_, fun k hk => ?_⟩
    · obtain ⟨v, hv, hvd⟩ := hM.new e.on oj hoj (hdl e he hb)
      rw [hvd dj hdj, ← hv hkn]
      rfl
    · rw [hM.old k fun i o' ho' hd' => ?_]
      have := List.all_eq_true.1 hk o' (by simpa using Array.mem_of_getElem? ho')
      simp [hd'] at this
  refine wp_region_freeA (Y := Y) (S := S) hm hB hn ⟨fun _ => rfl, .inl ⟨rfl, rfl, rfl, h0⟩⟩ ?_ ?_
  · intro i o ho listed a w hM hu hdl
    have hF := facts listed o a w hM hdl
    obtain ⟨hOld, hW⟩ := hM.world
    have hsz : a.tmps.size = n := hM.size.trans hn
    have hput : ∀ (d : Nat) (v : Value), d < n → (a.put (some d) v).tmps[d]? = some v := fun d v hd => by simp [Act.put, hsz, hd]
    by_cases e1 : i = s1
    · subst e1
      obtain rfl : o = o1 := Option.some.inj (ho.symm.trans hs1)
      rcases hW with ⟨l1, l2, l3, hI⟩ | ⟨l1, _⟩ | ⟨l1, _⟩ | ⟨l1, _⟩
      · refine Oper.wp_mono ?_ (h1 a w hI hF)
        rintro a' w' ⟨v, rfl, hv⟩
        refine ⟨v, rfl, fun h => absurd rfl ((hkt _).1 h).1, ⟨fun _ => ?_, .inr (.inl ⟨by simp, ?_, ?_, v, by rw [hd1]; exact hput d1 v hd1n, hv⟩)⟩, fun j u _ _ hY => hY⟩
        · rw [put_other (by rw [hd1]; simp; omega)]; exact hOld l3
        · show (if s2 = i then true else listed.getD s2 false) = false
          rw [if_neg (Ne.symm n12)]; exact l2
        · show (if s3 = i then true else listed.getD s3 false) = false
          rw [if_neg (Ne.symm n13)]; exact l3
      all_goals
        have l1' : listed.getD i false = true := l1
        rw [hu] at l1'
        cases l1'
    by_cases e2 : i = s2
    · subst e2
      obtain rfl : o = o2 := Option.some.inj (ho.symm.trans hs2)
      obtain ⟨e, he, hb, heq⟩ := hdep12
      have hl1 := hdl e he hb
      rw [heq] at hl1
      rcases hW with ⟨l1, l2, l3, hI⟩ | ⟨l1, l2, l3, v, hv, hI⟩ | ⟨l1, l2, _⟩ | ⟨l1, l2, _⟩
      · have l1' : listed.getD s1 false = false := l1
        rw [hl1] at l1'
        cases l1'
      · refine Oper.wp_mono ?_ (h2 a w v hI hv hF)
        rintro a' w' ⟨u, rfl, hu'⟩
        refine ⟨u, rfl, fun h => absurd rfl ((hkt _).1 h).2.1, ⟨fun _ => ?_, .inr (.inr (.inl ⟨?_, by simp, ?_, v, u, ?_, by rw [hd2]; exact hput d2 u hd2n, hu'⟩))⟩, fun j u _ _ hY => hY⟩
        · rw [put_other (by rw [hd2]; simp; omega)]; exact hOld l3
        · show (if s1 = i then true else listed.getD s1 false) = true
          rw [if_neg n12]; exact hl1
        · show (if s3 = i then true else listed.getD s3 false) = false
          rw [if_neg (Ne.symm n23)]; exact l3
        · rw [put_other (by rw [hd2]; simp; omega)]; exact hv
      all_goals
        have l2' : listed.getD i false = true := l2
        rw [hu] at l2'
        cases l2'
    by_cases e3 : i = s3
    · subst e3
      obtain rfl : o = o3 := Option.some.inj (ho.symm.trans hs3)
      obtain ⟨e, he, hb, heq⟩ := hdep23
      have hl2 := hdl e he hb
      rw [heq] at hl2
      rcases hW with ⟨l1, l2, l3, hI⟩ | ⟨l1, l2, l3, v, hv, hI⟩ | ⟨l1, l2, l3, v, u, hv, hu2, hI⟩ | ⟨l1, l2, l3, _⟩
      · have l2' : listed.getD s2 false = false := l2
        rw [hl2] at l2'
        cases l2'
      · have l2' : listed.getD s2 false = false := l2
        rw [hl2] at l2'
        cases l2'
      · refine Oper.wp_mono ?_ (h3 a w v u hI hv hu2 hF)
        rintro a' w' ⟨t, rfl, ht⟩
        refine ⟨t, rfl, fun h => absurd rfl ((hkt _).1 h).2.2, ⟨fun h => ?_, .inr (.inr (.inr ⟨?_, ?_, by simp, v, u, t, ?_, ?_, by rw [hd3]; exact hput d3 t hd3n, ht⟩))⟩, fun j u _ _ hY => hY⟩
        · simp at h
        · show (if s1 = i then true else listed.getD s1 false) = true
          rw [if_neg n13]; exact l1
        · show (if s2 = i then true else listed.getD s2 false) = true
          rw [if_neg n23]; exact hl2
        · rw [put_other (by rw [hd3]; simp; omega)]; exact hv
        · rw [put_other (by rw [hd3]; simp; omega)]; exact hu2
      · have l3' : listed.getD i false = true := l3
        rw [hu] at l3'
        cases l3'
    have hki : kn i = true := (hkt i).2 ⟨e1, e2, e3⟩
    obtain ⟨x1, x2, x3⟩ := hoth i o ho hki
    have hJ : J w := by
      rcases hW with ⟨_, _, _, hI⟩ | ⟨_, _, _, v, _, hI⟩ | ⟨_, _, _, v, u, _, _, hI⟩ | ⟨_, _, _, v, u, t, _, _, _, hI⟩
      · exact J0 w hI
      · exact J1 v w hI
      · exact J2 v u w hI
      · exact J3 v u t w hI
    have hKeep : (∃ e ∈ o3.after, Region.binds .any e = true ∧ e.on = i) → a.tmps[d3]?.getD undef = a0.tmps[d3]?.getD undef := by
      rintro ⟨e, he, hb, heq⟩
      have hl3 : listed.getD s3 false = false := by
        cases hl : listed.getD s3 false with
        | false => rfl
        | true =>
          exfalso
          have := hM.closed s3 o3 hs3 hl e he hb
          rw [heq, hu] at this
          cases this
      rw [hOld hl3]
    refine Oper.wp_mono ?_ (hcon i o ho hki a w hJ hF hKeep)
    rintro a' w' ⟨rfl, rfl⟩
    refine ⟨con i, rfl, fun _ => rfl, ?_, fun j u _ _ hY => hY⟩
    have g1 : (if s1 = i then true else listed.getD s1 false) = listed.getD s1 false := if_neg (Ne.symm e1)
    have g2 : (if s2 = i then true else listed.getD s2 false) = listed.getD s2 false := if_neg (Ne.symm e2)
    have g3 : (if s3 = i then true else listed.getD s3 false) = listed.getD s3 false := if_neg (Ne.symm e3)
    show ((if s3 = i then true else listed.getD s3 false) = false → (a.put o.dst (con i)).tmps[d3]? = a0.tmps[d3]?) ∧ (((if s1 = i then true else listed.getD s1 false) = false ∧ (if s2 = i then true else listed.getD s2 false) = false ∧ (if s3 = i then true else listed.getD s3 false) = false ∧ I0 w') ∨
      ((if s1 = i then true else listed.getD s1 false) = true ∧ (if s2 = i then true else listed.getD s2 false) = false ∧ (if s3 = i then true else listed.getD s3 false) = false ∧ ∃ v, (a.put o.dst (con i)).tmps[d1]? = some v ∧ I1 v w') ∨
      ((if s1 = i then true else listed.getD s1 false) = true ∧ (if s2 = i then true else listed.getD s2 false) = true ∧ (if s3 = i then true else listed.getD s3 false) = false ∧ ∃ v u, (a.put o.dst (con i)).tmps[d1]? = some v ∧ (a.put o.dst (con i)).tmps[d2]? = some u ∧ I2 v u w') ∨
      ((if s1 = i then true else listed.getD s1 false) = true ∧ (if s2 = i then true else listed.getD s2 false) = true ∧ (if s3 = i then true else listed.getD s3 false) = true ∧ ∃ v u t, (a.put o.dst (con i)).tmps[d1]? = some v ∧ (a.put o.dst (con i)).tmps[d2]? = some u ∧ (a.put o.dst (con i)).tmps[d3]? = some t ∧ I3 v u t w'))
    rw [g1, g2, g3, put_other x1, put_other x2, put_other x3]
    exact ⟨hOld, hW⟩
  · intro vs w hS hall
    have hlt : ∀ (s : Nat) (o : Oper), ops[s]? = some o → decide (s < ops.size) = true := fun s o h => decide_eq_true (Array.getElem?_eq_some_iff.1 h).1
    have f1 : (fill ops.toList vs 0 a0).tmps[d1]? = some (vs s1) := by rw [fill_at d1 ops.toList vs 0 a0 s1 o1 (by simpa using hs1) hd1 q2 (by rw [hn]; exact hd1n), Nat.zero_add]
    have f2 : (fill ops.toList vs 0 a0).tmps[d2]? = some (vs s2) := by rw [fill_at d2 ops.toList vs 0 a0 s2 o2 (by simpa using hs2) hd2 q2 (by rw [hn]; exact hd2n), Nat.zero_add]
    have f3 : (fill ops.toList vs 0 a0).tmps[d3]? = some (vs s3) := by rw [fill_at d3 ops.toList vs 0 a0 s3 o3 (by simpa using hs3) hd3 q2 (by rw [hn]; exact hd3n), Nat.zero_add]
    rcases hS.2 with ⟨l1, _⟩ | ⟨_, l2, _⟩ | ⟨_, _, l3, _⟩ | ⟨_, _, _, v, u, t, hv, hu, ht, hI⟩
    · have l1' : decide (s1 < ops.size) = false := l1
      rw [hlt s1 o1 hs1] at l1'
      cases l1'
    · have l2' : decide (s2 < ops.size) = false := l2
      rw [hlt s2 o2 hs2] at l2'
      cases l2'
    · have l3' : decide (s3 < ops.size) = false := l3
      rw [hlt s3 o3 hs3] at l3'
      cases l3'
    · rw [f1] at hv
      rw [f2] at hu
      rw [f3] at ht
      obtain rfl := Option.some.inj hv
      obtain rfl := Option.some.inj hu
      obtain rfl := Option.some.inj ht
      have hc := hend (vs s1) (vs s2) (vs s3) w hI
      rw [fill_congr ops.toList vs (fun i => if i = s1 then vs s1 else if i = s2 then vs s2 else if i = s3 then vs s3 else con i) 0 a0 (fun i hi => ?_)]
      · exact hc
      · rw [Nat.zero_add]
        show vs i = if i = s1 then vs s1 else if i = s2 then vs s2 else if i = s3 then vs s3 else con i
        by_cases e1 : i = s1
        · rw [if_pos e1, e1]
        by_cases e2 : i = s2
        · rw [if_neg e1, if_pos e2, e2]
        by_cases e3 : i = s3
        · rw [if_neg e1, if_neg e2, if_pos e3, e3]
        rw [if_neg e1, if_neg e2, if_neg e3]
        have hi' : i < ops.size := by simpa using hi
        exact hall i ops[i] (by simp [hi']) ((hkt i).2 ⟨e1, e2, e3⟩)
end
end Go.Proofs.YtbccachkkflceaaGreatDoor.FreeC

