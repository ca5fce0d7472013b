/-
  Texts of one seat, joined: DrawT, FreeM, Meet.
-/
import Derived.Test.YtohkllmhknjkoaaDoorJp1
import Derived.Test.YtohkllmhknjkoaaDoorJp7
import Derived.Test.YtohkllmhknjkoaaDoorJp5
import Derived.OrdersIn
import Derived.Still
import Derived.StillTail
import Derived.WalkKit
import Derived.Laws.Rows
import Derived.Laws.Tables
import Derived.Test.YtohkllmhknjkoaaDoorJp4
/-
  The drawing functions: an element of a list of strings; a rectangle of a valid matrix.
-/
namespace Go.Proofs.YtohkllmhknjkoaaDoor.DrawT
open Go.RowKit Go.Proofs.YtohkllmhknjkoaaDoor.Plain Go.Proofs.YtohkllmhknjkoaaDoor.Rd Go.Proofs.YtohkllmhknjkoaaDoor.Rd2 Go.Proofs.YtohkllmhknjkoaaDoor.Rd3
set_option linter.unusedVariables false

theorem shift_le (n : Nat) (h : n ≤ 8) : wrap64 (wrap64 (2 ^ n) - 1) ≤ 255 := by
  have h2 : ∀ k : Fin 9, wrap64 (wrap64 (2 ^ k.val) - 1) ≤ 255 := by decide +kernel
  exact h2 ⟨n, by omega⟩
set_option maxHeartbeats 1000000 in
theorem draw_rect8 {lo : Nat} (g p : Nat) (hp : p < 1048000) (r c : Int) (hr1 : 1 ≤ r) (hr8 : r ≤ 8) (hc1 : 1 ≤ c) (hc8 : c ≤ 8) (s : ByteArray) (w : World) (h : Rdr lo w g p) :
    Calls Tryd.prog 83 #[.pointer (some ⟨g, 0, none⟩), .agg #[.int .i64 r, .int .i64 c, .string s]] w fun e w' => ∃ x y : Int, e = .returned (.agg #[.int .i64 x, .int .i64 y]) ∧ (1 ≤ x ∧ x ≤ 255) ∧ (1 ≤ y ∧ y ≤ 255) ∧ Rdr lo w' g (p + 2) ∧ Apt g w w' := by
  have hg := h.lt
  have h0 := h.later (two_start_below w (.cells #[.int .i64 r, .int .i64 c, .string s] 26) (.cells #[.int .i64 0, .int .i64 0] 39))
  have hT := Two.start g w 26 39 #[.int .i64 r, .int .i64 c, .string s] #[.int .i64 0, .int .i64 0]
  go_enter Tryd.func83, Tryd.ntmps83
  have HP := Lib.hid (fun m => pick_r g p (by omega) m _ h0)
  clear h0
  go_wp2_with fail
  all_goals
    refine (HP.out _).mono ?_
    rintro e w1 ⟨x, rfl, ⟨hx0, hxm⟩, hx2, hr, ha⟩
    have hx3 : x ≤ 254 := by
      have := shift_le r.toNat (by omega)
      have e : max (min r 8) 1 = r := by omega
      try rw [e] at hxm
      try rw [e] at hx2
      omega
    have hT1 := Lib.hid (hT.later hg ha)
    have HQ := Lib.hid (fun m => pick_r g (p + 1) (by omega) m _ hr)
    clear hT hr ha HP hx2 hxm
    go_wp2_with fail
    refine (HQ.out _).mono ?_
    rintro e w2 ⟨y, rfl, ⟨hy0, hym⟩, hy2, hr, ha⟩
    have hy3 : y ≤ 254 := by
      have := shift_le c.toNat (by omega)
      have e : max (min c 8) 1 = c := by omega
      try rw [e] at hym
      try rw [e] at hy2
      omega
    have hT2 := hT1.out.later hg ha
    have o0 : w2.cell? ⟨w.heap.size + 1, 0, none⟩ = some (.int .i64 0) := cell_of_row _ _ 0 _ _ _ hT2.two
    have o1 : w2.cell? ⟨w.heap.size + 1, 1, none⟩ = some (.int .i64 0) := cell_of_row _ _ 1 _ _ _ hT2.two
    have f0 : w2.frozen? ⟨w.heap.size + 1, 0, none⟩ = false := frozen_of_row _ _ 0 _ _ hT2.two
    have f1 : w2.frozen? ⟨w.heap.size + 1, 1, none⟩ = false := frozen_of_row _ _ 1 _ _ hT2.two
    have HR := Lib.hid hr
    have HA := Lib.hid hT2.apt
    clear hT1 hT2 hr ha HQ hy2 hym
    go_wp2_with fail
    refine bodyPost_ret (v := .agg #[.int .i64 (1 + x), .int .i64 (1 + y)]) (by simp [results, Tryd.results83, go_sem, o0, o1]) rfl ⟨_, _, rfl, ⟨by omega, by omega⟩, ⟨by omega, by omega⟩, ?_, ?_⟩
    · exact rdr_set (rdr_set HR.out _ _ _ (by omega)) _ _ _ (by omega)
    · exact apt_set (apt_set HA.out _ _ (by omega) _) _ _ (by omega) _
end Go.Proofs.YtohkllmhknjkoaaDoor.DrawT

/-
  The law of FreeL, which says more of the slots: one that no operation that has come up has written is as it was.
-/
namespace Go.Proofs.YtohkllmhknjkoaaDoor.FreeM
open Go Go.RowKit Go.Proofs.YtohkllmhknjkoaaDoor.Free
set_option linter.unusedVariables false

section
variable {P : Program} {ops : Array Oper}

/-- what is known in the midst of the region; S: of the world, by what has come up -/
structure MidL (ops : Array Oper) (a0 : Act) (Y : Nat → Value → Act → World → Prop) (S : (Nat → Bool) → World → Prop) (listed : Array Bool) (a : Act) (w : World) : Prop where
  defers : a.defers = a0.defers
  size : a.tmps.size = a0.tmps.size
  world : S (fun i => listed.getD i false) w
  old : ∀ k, (∀ (i : Nat) (o : Oper), ops[i]? = some o → listed.getD i false = true → o.dst ≠ some k) → a.tmps[k]? = a0.tmps[k]?
  closed : ∀ (i : Nat) (o : Oper), ops[i]? = some o → listed.getD i false = true → ∀ e ∈ o.after, Region.binds .any e = true → listed.getD e.on false = true
  new : ∀ (i : Nat) (o : Oper), ops[i]? = some o → listed.getD i false = true → ∃ v, Y i v a w ∧ ∀ d, o.dst = some d → a.tmps[d]? = some v

theorem wpAnyL_mid {n : Nat} {a0 : Act} {Y : Nat → Value → Act → World → Prop} {S : (Nat → Bool) → World → Prop} {Q : Exit → Act → World → Prop} (hB : freeB ops n = true) (hn : a0.tmps.size = n)
    (hstep : ∀ (i : Nat) (o : Oper), ops[i]? = some o → ∀ (listed : Array Bool) (a : Act) (w : World), MidL ops a0 Y S listed a w → listed.getD i false = false → (∀ e ∈ o.after, Region.binds .any e = true → listed.getD e.on false = true) →
      o.wp P a w (fun a' w' => ∃ v, a' = a.put o.dst v ∧ Y i v a' w' ∧ S (fun j => if j = i then true else listed.getD j false) w' ∧ ∀ j u, j ≠ i → listed.getD j false = true → Y j u a w → Y j u a' w') Q)
    (hend : ∀ a w, (∀ listed : Array Bool, (∀ i, listed.getD i false = decide (i < ops.size)) → MidL ops a0 Y S listed a w) → Q .normal a w) :
    ∀ (fuel : Nat) (listed : Array Bool) (a : Act) (w : World), listed.size = ops.size → left listed ops.size ≤ fuel → MidL ops a0 Y S listed a w → wpAny P .any ops Q fuel listed a w := by
  simp only [freeB, Bool.and_eq_true, decide_eq_true_eq] at hB
  obtain ⟨⟨h1, h2⟩, h3⟩ := hB
  have hg : ∀ (i : Nat) (o : Oper), ops[i]? = some o → o.guard = none := fun i o ho => by
    have := List.all_eq_true.1 h1 o (by simpa using Array.mem_of_getElem? ho)
    simp only [Bool.and_eq_true] at this
    simpa using this.1
  have hd : ∀ (i : Nat) (o : Oper) (d : Tmp), ops[i]? = some o → o.dst = some d → d < n := fun i o d ho hdst => by
    have := List.all_eq_true.1 h1 o (by simpa using Array.mem_of_getElem? ho)
    simp only [Bool.and_eq_true, hdst] at this
    simpa using this.2
  have hac : ∀ (i : Nat) (o : Oper), ops[i]? = some o → ∀ e ∈ o.after, Region.binds .any e = true → e.on < i := fun i o ho e he hb => by
    have hi : i < ops.size := (Array.getElem?_eq_some_iff.1 ho).1
    have := List.all_eq_true.1 h3 i (List.mem_range.2 hi)
    rw [ho] at this
    have h4 : ∀ e ∈ o.after, (!Region.binds .any e || decide (e.on < i)) = true := by
      have h5 : (o.after.all fun e => !Region.binds .any e || decide (e.on < i)) = true := this
      exact fun e he => Array.all_eq_true_iff_forall_mem.1 h5 e he
    have := h4 e he
    simpa [hb] using this
  have hdd : ∀ (i j : Nat) (oi oj : Oper) (d : Tmp), ops[i]? = some oi → ops[j]? = some oj → oi.dst = some d → oj.dst = some d → i = j := fun i j oi oj d hi hj di dj => by
    have hi' : ops.toList[i]? = some oi := by simpa using hi
    have hj' : ops.toList[j]? = some oj := by simpa using hj
    clear hd hac hg h1 h3 hstep hend hi hj
    generalize ops.toList = l at *
    induction l generalizing i j with
    | nil => simp at hi'
    | cons o l ih =>
      cases i with
      | zero =>
        cases j with
        | zero => rfl
        | succ j =>
          exfalso
          simp only [List.getElem?_cons_zero, Option.some.injEq] at hi'
          subst hi'
          simp only [List.getElem?_cons_succ] at hj'
          rw [List.filterMap_cons_some di, List.nodup_cons] at h2
          exact h2.1 (List.mem_filterMap.2 ⟨oj, List.mem_of_getElem? hj', dj⟩)
      | succ i =>
        cases j with
        | zero =>
          exfalso
          simp only [List.getElem?_cons_zero, Option.some.injEq] at hj'
          subst hj'
          simp only [List.getElem?_cons_succ] at hi'
          rw [List.filterMap_cons_some dj, List.nodup_cons] at h2
          exact h2.1 (List.mem_filterMap.2 ⟨oi, List.mem_of_getElem? hi', di⟩)
        | succ j =>
          simp only [List.getElem?_cons_succ] at hi' hj'
          have : (l.filterMap (·.dst)).Nodup := by
            cases hod : o.dst with
            | none => rwa [List.filterMap_cons_none hod] at h2
            | some x => rw [List.filterMap_cons_some hod, List.nodup_cons] at h2; exact h2.2
          rw [ih i j this hi' hj']
  have hall : ∀ (listed : Array Bool), listed.size = ops.size → Region.ready .any ops listed = [] → ∀ m, ∀ i, i < m → i < ops.size → listed.getD i false = true := by
    intro listed hsz hr m
    induction m with
    | zero => intro i hi; omega
    | succ m ih =>
      intro i hi hio
      by_cases e : i = m
      · subst e
        by_cases hl : listed.getD i false = true
        · exact hl
        · exfalso
          have hl2 : listed.getD i true = false := by
            have hlt : i < listed.size := by omega
            simp [hlt] at hl ⊢
            exact hl
          have : i ∈ Region.ready .any ops listed := by
            refine mem_ready.2 ⟨hl2, ops[i], by simp [hio], fun e he hb => ?_⟩
            have := hac i ops[i] (by simp [hio]) e he hb
            exact ih e.on this (by omega)
          rw [hr] at this
          cases this
      · exact ih i (by omega) hio
  intro fuel
  induction fuel with
  | zero =>
    intro listed a w hsz hc hM
    have hz := left_zero listed ops.size (by omega)
    have wEnd : ∀ l' : Array Bool, (∀ i, l'.getD i false = decide (i < ops.size)) → S (fun i => l'.getD i false) w := fun l' hl' => by
      have e : (fun i => l'.getD i false) = fun i => listed.getD i false := funext fun i => by
        rw [hl']
        by_cases hi : i < ops.size
        · rw [hz i hi]; exact decide_eq_true hi
        · rw [decide_eq_false hi]; simp [Array.getD_eq_getD_getElem?, Array.getElem?_eq_none (show listed.size ≤ i by omega)]
      rw [e]; exact hM.world
    refine ⟨?_, hend a w fun l' hl' => ⟨hM.defers, hM.size, wEnd l' hl', (fun k hk => hM.old k fun i o ho _ => hk i o ho (by rw [hl']; exact decide_eq_true (Array.getElem?_eq_some_iff.1 ho).1)), fun i o ho _ e he hb => by rw [hl']; exact decide_eq_true (Nat.lt_trans (hac i o ho e he hb) (Array.getElem?_eq_some_iff.1 ho).1), fun i o ho _ => hM.new i o ho (hz i (Array.getElem?_eq_some_iff.1 ho).1)⟩⟩
    cases hr : Region.ready .any ops listed with
    | nil => rfl
    | cons i l =>
      exfalso
      have hi : i ∈ Region.ready .any ops listed := by rw [hr]; exact List.mem_cons_self
      obtain ⟨hu, o, ho, _⟩ := mem_ready.1 hi
      have hio : i < ops.size := (Array.getElem?_eq_some_iff.1 ho).1
      have := hz i hio
      have hlt : i < listed.size := by omega
      simp [hlt] at hu this
      rw [hu] at this
      cases this
  | succ fuel ih =>
    intro listed a w hsz hc hM
    refine ⟨fun hr => hend a w fun l' hl' => ⟨hM.defers, hM.size, (by
      have e : (fun i => l'.getD i false) = fun i => listed.getD i false := funext fun i => by
        rw [hl']
        by_cases hi : i < ops.size
        · rw [hall listed hsz hr ops.size i hi hi]; exact decide_eq_true hi
        · rw [decide_eq_false hi]; simp [Array.getD_eq_getD_getElem?, Array.getElem?_eq_none (show listed.size ≤ i by omega)]
      rw [e]; exact hM.world), (fun k hk => hM.old k fun i o ho _ => hk i o ho (by rw [hl']; exact decide_eq_true (Array.getElem?_eq_some_iff.1 ho).1)), fun i o ho _ e he hb => by rw [hl']; exact decide_eq_true (Nat.lt_trans (hac i o ho e he hb) (Array.getElem?_eq_some_iff.1 ho).1), fun i o ho _ => hM.new i o ho (hall listed hsz hr ops.size i (Array.getElem?_eq_some_iff.1 ho).1 (Array.getElem?_eq_some_iff.1 ho).1)⟩, fun i hi => ?_⟩
    obtain ⟨hu, o, ho, hdep⟩ := mem_ready.1 hi
    have hio : i < ops.size := (Array.getElem?_eq_some_iff.1 ho).1
    have hu2 : listed.getD i false = false := by
      have hlt : i < listed.size := by omega
      simp [hlt] at hu ⊢
      exact hu
    unfold wpOp
    simp only [ho]
    have hw : Region.wanted o (yielded ops a.tmps) = true := by simp [Region.wanted, hg i o ho]
    rw [if_pos hw]
    refine .inl (Oper.wp_mono ?_ (hstep i o ho listed a w hM hu2 hdep))
    rintro a' w' ⟨v, rfl, hY, hS, hst⟩
    refine ih _ _ _ (by simpa using hsz) (by have := left_set listed i (by omega) hu2 ops.size hio; omega) ⟨?_, ?_, ?_, ?_, ?_, ?_⟩
    · rw [← hM.defers]
      cases o.dst <;> rfl
    · rw [← hM.size]
      cases o.dst <;> simp [Act.put]
    · have e : (fun j => (listed.setIfInBounds i true).getD j false) = fun j => if j = i then true else listed.getD j false := funext fun j => by
        by_cases hj : j = i
        · subst hj
          have hlt : j < listed.size := by omega
          simp [Array.getD_eq_getD_getElem?, hlt]
        · simp [Array.getD_eq_getD_getElem?, Array.getElem?_setIfInBounds_ne (Ne.symm hj), hj]
      rw [e]; exact hS
    · intro k hk
      rw [← hM.old k fun i' o' ho' hl' => hk i' o' ho' (getD_set_true hl')]
      cases hod : o.dst with
      | none => rfl
      | some d =>
        have : d ≠ k := fun e => hk i o ho (by simp [Array.getD_eq_getD_getElem?, hsz, hio]) (by rw [hod, e])
        simp [Act.put, Array.getElem?_setIfInBounds_ne this]
    · intro j oj hoj hl e he hb
      have hl' : listed.getD e.on false = true := by
        by_cases e2 : j = i
        · subst e2
          obtain rfl : o = oj := Option.some.inj (ho.symm.trans hoj)
          exact hdep e he hb
        · have hl2 : listed.getD j false = true := by
            rw [← hl]
            simp [Array.getD_eq_getD_getElem?, Array.getElem?_setIfInBounds_ne (Ne.symm e2)]
          exact hM.closed j oj hoj hl2 e he hb
      exact getD_set_true hl'
    · intro j oj hoj hl
      by_cases e : j = i
      · subst e
        obtain rfl : o = oj := Option.some.inj (ho.symm.trans hoj)
        refine ⟨v, hY, fun d hdd' => ?_⟩
        have hdn := hd j o d ho hdd'
        rw [← hn, ← hM.size] at hdn
        simp [hdd', Act.put, hdn]
      · have hl2 : listed.getD j false = true := by
          rw [← hl]
          simp [Array.getD_eq_getD_getElem?, Array.getElem?_setIfInBounds_ne (Ne.symm e)]
        obtain ⟨u, hu', hd'⟩ := hM.new j oj hoj hl2
        refine ⟨u, hst j u e hl2 hu', fun d hdj => ?_⟩
        rw [← hd' d hdj]
        cases hod : o.dst with
        | none => rfl
        | some d2 =>
          have : d2 ≠ d := fun e2 => e (hdd j i oj o d hoj ho hdj (by rw [hod, e2]))
          simp [Act.put, Array.getElem?_setIfInBounds_ne this]

/-- THE LAW -/
theorem wp_region_freeL {id n : Nat} {a0 : Act} {w0 : World} {Y : Nat → Value → Act → World → Prop} {S : (Nat → Bool) → World → Prop} {Q : Exit → Act → World → Prop} (hm : P.follows .mixedOrders = true) (hB : freeB ops n = true) (hn : a0.tmps.size = n)
    (hS : S (fun _ => false) { w0 with drawn := w0.drawn + 1 })
    (hstep : ∀ (i : Nat) (o : Oper), ops[i]? = some o → ∀ (listed : Array Bool) (a : Act) (w : World), MidL ops a0 Y S listed a w → listed.getD i false = false → (∀ e ∈ o.after, Region.binds .any e = true → listed.getD e.on false = true) →
      o.wp P a w (fun a' w' => ∃ v, a' = a.put o.dst v ∧ Y i v a' w' ∧ S (fun j => if j = i then true else listed.getD j false) w' ∧ ∀ j u, j ≠ i → listed.getD j false = true → Y j u a w → Y j u a' w') Q)
    (hend : ∀ (vs : Nat → Value) (w : World), S (fun i => decide (i < ops.size)) w → (∀ (i : Nat) (o : Oper), ops[i]? = some o → Y i (vs i) (fill ops.toList vs 0 a0) w) → Q .normal (fill ops.toList vs 0 a0) w) : (Code.region id ops true).wp P Q a0 w0 := by
  refine wp_region_any hm ?_
  have hB2 := hB
  simp only [freeB, Bool.and_eq_true, decide_eq_true_eq] at hB2
  obtain ⟨⟨h1, h2⟩, _⟩ := hB2
  refine wpAnyL_mid hB hn hstep (fun a w hM => ?_) _ _ _ _ (by simp) ?_ ⟨rfl, rfl, (by
    have e : (fun i => (Array.replicate ops.size false).getD i false) = fun _ => false := funext fun i => by
      by_cases hi : i < ops.size <;> simp [Array.getD_eq_getD_getElem?, hi]
    rw [e]; exact hS), fun _ _ => rfl, fun i o _ hl => ?_, fun i o _ hl => ?_⟩
  · have M := hM (Array.replicate ops.size true) (fun i => by by_cases hi : i < ops.size <;> simp [Array.getD_eq_getD_getElem?, hi])
    have hl : ∀ (i : Nat) (o : Oper), ops[i]? = some o → (Array.replicate ops.size true).getD i false = true := fun i o ho => by
      have hi : i < ops.size := (Array.getElem?_eq_some_iff.1 ho).1
      simp [Array.getD_eq_getD_getElem?, hi]
    classical
    obtain ⟨vs, hvs⟩ : ∃ vs : Nat → Value, ∀ (i : Nat) (o : Oper), ops[i]? = some o → Y i (vs i) a w ∧ ∀ d, o.dst = some d → a.tmps[d]? = some (vs i) := by
      refine ⟨fun i => if h : ∃ v : Value, ∀ o : Oper, ops[i]? = some o → Y i v a w ∧ ∀ d, o.dst = some d → a.tmps[d]? = some v then h.choose else undef, fun i o ho => ?_⟩
      have hex : ∃ v : Value, ∀ o : Oper, ops[i]? = some o → Y i v a w ∧ ∀ d, o.dst = some d → a.tmps[d]? = some v := by
        obtain ⟨v, hv⟩ := M.new i o ho (hl i o ho)
        exact ⟨v, fun o' ho' => by obtain rfl : o = o' := Option.some.inj (ho.symm.trans ho'); exact hv⟩
      dsimp only
      rw [dif_pos hex]
      exact hex.choose_spec o ho
    have ha : a = fill ops.toList vs 0 a0 := by
      have ht : a.tmps = (fill ops.toList vs 0 a0).tmps := by
        apply Array.ext_getElem?
        intro k
        by_cases hk : ∃ (i : Nat) (o : Oper), ops[i]? = some o ∧ o.dst = some k
        · obtain ⟨i, o, ho, hd⟩ := hk
          have hkn : k < a0.tmps.size := by
            have := List.all_eq_true.1 h1 o (by simpa using Array.mem_of_getElem? ho)
            simp only [Bool.and_eq_true, hd] at this
            rw [hn]
            simpa using this.2
          rw [fill_at k ops.toList vs 0 a0 i o (by simpa using ho) hd h2 hkn, (hvs i o ho).2 k hd, Nat.zero_add]
        · have hk2 : ∀ (i : Nat) (o : Oper), ops[i]? = some o → o.dst ≠ some k := fun i o ho e => hk ⟨i, o, ho, e⟩
          rw [M.old k (fun i o ho _ => hk2 i o ho), fill_not k ops.toList vs 0 a0]
          intro o ho e
          obtain ⟨i, hi, rfl⟩ := List.getElem_of_mem ho
          exact hk2 i _ (by simp at hi; simp [hi]) e
      have hdf := M.defers
      rw [← fill_defers ops.toList vs 0 a0] at hdf
      cases a
      cases hfl : fill ops.toList vs 0 a0
      rw [hfl] at ht hdf
      simp only at ht hdf
      rw [ht, hdf]
    rw [ha]
    refine hend vs w (by
      have e : (fun i => (Array.replicate ops.size true).getD i false) = fun i => decide (i < ops.size) := funext fun i => by
        by_cases hi : i < ops.size <;> simp [Array.getD_eq_getD_getElem?, hi]
      have M2 := M.world
      rw [e] at M2; exact M2) fun i o ho => ?_
    rw [← ha]
    exact (hvs i o ho).1
  · clear hstep hend
    have : ∀ n, left (Array.replicate ops.size false) n ≤ n := fun n => by
      induction n with
      | zero => simp [left]
      | succ n ih => rw [left]; split <;> omega
    exact this _
  all_goals
    exfalso
    simp [Array.getD_eq_getD_getElem?, Array.getElem?_replicate] at hl
    split at hl <;> simp at hl
/-- what an operation may know of the slots -/
def FactsL (ops : Array Oper) (a0 : Act) (con : Nat → Value) (o : Oper) (a : Act) : Prop :=
  (∀ e ∈ o.after, Region.binds .any e = true → ∀ (oj : Oper) (dj : Tmp), ops[e.on]? = some oj → oj.dst = some dj → a.tmps[dj]?.getD undef = con e.on) ∧
  (∀ k, (ops.toList.all fun o => o.dst != some k) = true → a.tmps[k]?.getD undef = a0.tmps[k]?.getD undef)
/-- what an operation may know of the slots -/
def FactsB (ops : Array Oper) (a0 : Act) (R : Nat → Value → Act → World → Prop) (l : Nat → Bool) (o : Oper) (a : Act) (w : World) : Prop :=
  (∀ e ∈ o.after, Region.binds .any e = true → ∀ (oj : Oper) (dj : Tmp), ops[e.on]? = some oj → oj.dst = some dj → R e.on (a.tmps[dj]?.getD undef) a w) ∧
  (∀ k, (∀ (i : Nat) (o : Oper), ops[i]? = some o → l i = true → o.dst ≠ some k) → a.tmps[k]?.getD undef = a0.tmps[k]?.getD undef)
/-- THE LAW, as FreeK has it -/
theorem wp_region_acts {id n : Nat} {a0 : Act} {w0 : World} {Q : Exit → Act → World → Prop} (R : Nat → Value → Act → World → Prop) (T : (Nat → Bool) → World → Prop)
    (hm : P.follows .mixedOrders = true) (hB : freeB ops n = true) (hn : a0.tmps.size = n) (hT0 : T (fun _ => false) { w0 with drawn := w0.drawn + 1 })
    (hcon : ∀ (i : Nat) (o : Oper), ops[i]? = some o → ∀ (a : Act) (w : World) (l : Nat → Bool), T l w → l i = false → (∀ (j : Nat) (oj : Oper), ops[j]? = some oj → l j = true → ∀ e ∈ oj.after, Region.binds .any e = true → l e.on = true) → (∀ e ∈ o.after, Region.binds .any e = true → l e.on = true) → FactsB ops a0 R l o a w →
      o.wp P a w (fun a' w' => ∃ v, a' = a.put o.dst v ∧ R i v a' w' ∧ T (fun j => if j = i then true else l j) w' ∧ ∀ j u, j ≠ i → l j = true → R j u a w → R j u a' w') Q)
    (hend : ∀ (vs : Nat → Value) (w : World), T (fun i => decide (i < ops.size)) w → (∀ (i : Nat) (o : Oper), ops[i]? = some o → R i (vs i) (fill ops.toList vs 0 a0) w) → Q .normal (fill ops.toList vs 0 a0) w) :
    (Code.region id ops true).wp P Q a0 w0 := by
  refine wp_region_freeL (Y := R) (S := fun l w => T l w) hm hB hn hT0 ?_ hend
  intro i o ho listed a w hM hu hdp
  refine hcon i o ho a w _ hM.world hu hM.closed hdp ⟨fun e he hb oj dj hoj hdj => ?_, fun k hk => ?_⟩
  · obtain ⟨v, hv, hvd⟩ := hM.new e.on oj hoj (hdp e he hb)
    rw [hvd dj hdj]
    exact hv
  · rw [hM.old k hk]
end
end Go.Proofs.YtohkllmhknjkoaaDoor.FreeM

/-
  Contracts of MeetRects and HullRects, of the reference and of the program.
-/
namespace Go.Proofs.YtohkllmhknjkoaaDoor.Meet
open Go.RowKit Go.Proofs.YtohkllmhknjkoaaDoor.Plain Go.Proofs.YtohkllmhknjkoaaDoor.Pat Go.Proofs.YtohkllmhknjkoaaDoor.Rect
set_option linter.unusedVariables false

theorem three2 {w w1 : World} {a0 a1 b0 b1 c0 c1 : Value} {T0 T1 T2 : TypeId}
    (hb : Below (((w.alloc (.cells #[a0, a1] T0)).alloc (.cells #[b0, b1] T1)).alloc (.cells #[c0, c1] T2)).heap.size (((w.alloc (.cells #[a0, a1] T0)).alloc (.cells #[b0, b1] T1)).alloc (.cells #[c0, c1] T2)) w1) :
    (w1.cell? ⟨w.heap.size, 0, none⟩ = some a0 ∧ w1.cell? ⟨w.heap.size, 1, none⟩ = some a1) ∧ (w1.cell? ⟨w.heap.size + 1, 0, none⟩ = some b0 ∧ w1.cell? ⟨w.heap.size + 1, 1, none⟩ = some b1) ∧
      (w1.cell? ⟨w.heap.size + 1 + 1, 0, none⟩ = some c0 ∧ w1.cell? ⟨w.heap.size + 1 + 1, 1, none⟩ = some c1) ∧
      (w1.frozen? ⟨w.heap.size + 1 + 1, 0, none⟩ = false ∧ w1.frozen? ⟨w.heap.size + 1 + 1, 1, none⟩ = false) ∧ w.heap.size + 3 ≤ w1.heap.size ∧ Hid (Below w.heap.size w w1) := by
  have hs : (((w.alloc (.cells #[a0, a1] T0)).alloc (.cells #[b0, b1] T1)).alloc (.cells #[c0, c1] T2)).heap.size = w.heap.size + 3 := by simp
  have e0 : w1.heap[w.heap.size]? = some (.cells #[a0, a1] T0 (0, 0)) := (hb.block _ (by omega)).trans ((Below.heap_alloc _ _ _ (by simp; omega)).trans ((Below.heap_alloc _ _ _ (by simp)).trans (heap_alloc_new w _)))
  have e1 : w1.heap[w.heap.size + 1]? = some (.cells #[b0, b1] T1 (0, 0)) := (hb.block _ (by omega)).trans ((Below.heap_alloc _ _ _ (by simp)).trans (by have := heap_alloc_new (w.alloc (.cells #[a0, a1] T0)) (.cells #[b0, b1] T1); rwa [World.size_alloc] at this))
  have e2 : w1.heap[w.heap.size + 1 + 1]? = some (.cells #[c0, c1] T2 (0, 0)) := (hb.block _ (by omega)).trans (by have := heap_alloc_new ((w.alloc (.cells #[a0, a1] T0)).alloc (.cells #[b0, b1] T1)) (.cells #[c0, c1] T2); rwa [World.size_alloc, World.size_alloc] at this)
  exact ⟨⟨cell_of_row _ _ 0 _ _ _ e0, cell_of_row _ _ 1 _ _ _ e0⟩, ⟨cell_of_row _ _ 0 _ _ _ e1, cell_of_row _ _ 1 _ _ _ e1⟩, ⟨cell_of_row _ _ 0 _ _ _ e2, cell_of_row _ _ 1 _ _ _ e2⟩, ⟨frozen_of_row _ _ 0 _ _ e2, frozen_of_row _ _ 1 _ _ e2⟩,
    by have := hb.size; omega, ((((Below.refl w.heap.size w).alloc (Nat.le_refl _) _).alloc (by simp) _).alloc (by simp; omega) _).trans (hb.mono (by omega))⟩
theorem four2 {w w1 : World} {a0 a1 b0 b1 c0 c1 d0 d1 : Value} {T0 T1 T2 T3 : TypeId}
    (hb : Below ((((w.alloc (.cells #[a0, a1] T0)).alloc (.cells #[b0, b1] T1)).alloc (.cells #[c0, c1] T2)).alloc (.cells #[d0, d1] T3)).heap.size ((((w.alloc (.cells #[a0, a1] T0)).alloc (.cells #[b0, b1] T1)).alloc (.cells #[c0, c1] T2)).alloc (.cells #[d0, d1] T3)) w1) :
    ((w1.cell? ⟨w.heap.size, 0, none⟩ = some a0 ∧ w1.cell? ⟨w.heap.size, 1, none⟩ = some a1) ∧ (w1.cell? ⟨w.heap.size + 1, 0, none⟩ = some b0 ∧ w1.cell? ⟨w.heap.size + 1, 1, none⟩ = some b1) ∧
      (w1.cell? ⟨w.heap.size + 1 + 1, 0, none⟩ = some c0 ∧ w1.cell? ⟨w.heap.size + 1 + 1, 1, none⟩ = some c1) ∧
      (w1.frozen? ⟨w.heap.size + 1 + 1, 0, none⟩ = false ∧ w1.frozen? ⟨w.heap.size + 1 + 1, 1, none⟩ = false)) ∧ (w1.cell? ⟨w.heap.size + 1 + 1 + 1, 0, none⟩ = some d0 ∧ w1.cell? ⟨w.heap.size + 1 + 1 + 1, 1, none⟩ = some d1) ∧
      w.heap.size + 4 ≤ w1.heap.size ∧ Hid (Below w.heap.size w w1) := by
  have hs : (((w.alloc (.cells #[a0, a1] T0)).alloc (.cells #[b0, b1] T1)).alloc (.cells #[c0, c1] T2)).heap.size = w.heap.size + 3 := by simp
  have hs4 : ((((w.alloc (.cells #[a0, a1] T0)).alloc (.cells #[b0, b1] T1)).alloc (.cells #[c0, c1] T2)).alloc (.cells #[d0, d1] T3)).heap.size = w.heap.size + 4 := by simp
  obtain ⟨k1, k2, k3, k4, _, HB⟩ := three2 (w := w) (a0 := a0) (a1 := a1) (b0 := b0) (b1 := b1) (c0 := c0) (c1 := c1) (T0 := T0) (T1 := T1) (T2 := T2) (w1 := w1) (((Below.refl _ _).alloc (Nat.le_refl _) _).trans (hb.mono (by simp)))
  have e3 : w1.heap[w.heap.size + 1 + 1 + 1]? = some (.cells #[d0, d1] T3 (0, 0)) := (hb.block _ (by omega)).trans (by have := heap_alloc_new (((w.alloc (.cells #[a0, a1] T0)).alloc (.cells #[b0, b1] T1)).alloc (.cells #[c0, c1] T2)) (.cells #[d0, d1] T3); rwa [World.size_alloc, World.size_alloc, World.size_alloc] at this)
  exact ⟨⟨k1, k2, k3, k4⟩, ⟨cell_of_row _ _ 0 _ _ _ e3, cell_of_row _ _ 1 _ _ _ e3⟩, by have := hb.size; omega, HB⟩
/-- later on -/
theorem cells_on {w1 w2 : World} (hb : Below w1.heap.size w1 w2) {g : Nat} {a b : Value} (hg : g < w1.heap.size) (h : w1.cell? ⟨g, 0, none⟩ = some a ∧ w1.cell? ⟨g, 1, none⟩ = some b) : w2.cell? ⟨g, 0, none⟩ = some a ∧ w2.cell? ⟨g, 1, none⟩ = some b :=
  two_on hb hg h.1 h.2
theorem frozen_on {w1 w2 : World} (hb : Below w1.heap.size w1 w2) {g : Nat} (hg : g < w1.heap.size) (h : w1.frozen? ⟨g, 0, none⟩ = false ∧ w1.frozen? ⟨g, 1, none⟩ = false) : w2.frozen? ⟨g, 0, none⟩ = false ∧ w2.frozen? ⟨g, 1, none⟩ = false :=
  ⟨(hb.frozen (p := ⟨g, 0, none⟩) hg).trans h.1, (hb.frozen (p := ⟨g, 1, none⟩) hg).trans h.2⟩

/-- the rectangle if both numbers make one -/
def orZero (b : Bool) (r c : Int) : Value := if b then rect r c else rect 0 0

set_option maxHeartbeats 1000000 in
theorem spec_meetA (r c r2 c2 : Int) (h1 : someB r c = false) (w : World) :
    Calls Tryd.prog 85 #[rect r c, rect r2 c2] w fun e w' => e = .returned (.tuple #[rect 0 0, .bool false]) ∧ Below w.heap.size w w' := by
  have H1 := Lib.hid h1
  clear h1
  go_enter Tryd.func85, Tryd.ntmps85
  go_wp2_with fail
  refine (some_any _ _ _).mono ?_
  rintro e w1 ⟨rfl, hb1⟩
  rw [H1.out]
  obtain ⟨⟨⟨k00, k01⟩, ⟨k10, k11⟩, ⟨k20, k21⟩, ⟨f0, f1⟩⟩, ⟨k30, k31⟩, hz, HB⟩ := four2 hb1
  clear hb1
  go_wp2_with fail
  refine bodyPost_ret (v := .tuple #[rect 0 0, .bool false]) (by simp [results, Tryd.results85, go_sem, k20, k21]) rfl ⟨rfl, ?_⟩
  exact (HB.out.setCell (by simp; omega) _).setCell (by simp; omega) _

set_option maxHeartbeats 1000000 in
theorem spec_meetB (r c r2 c2 : Int) (h1 : someB r c = true) (h2 : someB r2 c2 = false) (w : World) :
    Calls Tryd.prog 85 #[rect r c, rect r2 c2] w fun e w' => e = .returned (.tuple #[rect 0 0, .bool false]) ∧ Below w.heap.size w w' := by
  have H1 := Lib.hid h1
  clear h1
  have H2 := Lib.hid h2
  clear h2
  go_enter Tryd.func85, Tryd.ntmps85
  go_wp2_with fail
  refine (some_any _ _ _).mono ?_
  rintro e w1 ⟨rfl, hb1⟩
  rw [H1.out]
  obtain ⟨⟨⟨k00, k01⟩, ⟨k10, k11⟩, ⟨k20, k21⟩, ⟨f0, f1⟩⟩, ⟨k30, k31⟩, hz, HB⟩ := four2 hb1
  clear hb1
  go_wp2_with fail
  refine (some_any _ _ _).mono ?_
  rintro e w2 ⟨rfl, hb2⟩
  rw [H2.out]
  obtain ⟨k20, k21⟩ := cells_on hb2 (by omega) ⟨k20, k21⟩
  obtain ⟨k30, k31⟩ := cells_on hb2 (by omega) ⟨k30, k31⟩
  obtain ⟨f0, f1⟩ := frozen_on hb2 (by omega) ⟨f0, f1⟩
  have hz2 : w.heap.size + 4 ≤ w2.heap.size := Nat.le_trans hz hb2.size
  have HB2 := Lib.hid (rstep HB.out hb2)
  clear hb2 HB k00 k01 k10 k11 hz
  go_wp2_with fail
  refine bodyPost_ret (v := .tuple #[rect 0 0, .bool false]) (by simp [results, Tryd.results85, go_sem, k20, k21]) rfl ⟨rfl, ?_⟩
  exact (HB2.out.setCell (by simp; omega) _).setCell (by simp; omega) _

set_option maxHeartbeats 1000000 in
theorem spec_meetC (r c r2 c2 : Int) (h1 : someB r c = true) (h2 : someB r2 c2 = true) (w : World) :
    Calls Tryd.prog 85 #[rect r c, rect r2 c2] w fun e w' => e = .returned (.tuple #[orZero (someB (Go.bits .and .i64 r r2) (Go.bits .and .i64 c c2)) (Go.bits .and .i64 r r2) (Go.bits .and .i64 c c2), .bool (someB (Go.bits .and .i64 r r2) (Go.bits .and .i64 c c2))]) ∧ Below w.heap.size w w' := by
  have H1 := Lib.hid h1
  clear h1
  have H2 := Lib.hid h2
  clear h2
  obtain ⟨b, hb⟩ : ∃ b, someB (Go.bits .and .i64 r r2) (Go.bits .and .i64 c c2) = b := ⟨_, rfl⟩
  rw [hb]
  have H3 := Lib.hid hb
  clear hb
  go_enter Tryd.func85, Tryd.ntmps85
  go_wp2_with fail
  refine (some_any _ _ _).mono ?_
  rintro e w1 ⟨rfl, hb1⟩
  rw [H1.out]
  obtain ⟨⟨⟨k00, k01⟩, ⟨k10, k11⟩, ⟨k20, k21⟩, ⟨f0, f1⟩⟩, ⟨k30, k31⟩, hz, HB⟩ := four2 hb1
  clear hb1
  go_wp2_with fail
  refine (some_any _ _ _).mono ?_
  rintro e w2 ⟨rfl, hb2⟩
  rw [H2.out]
  obtain ⟨k20, k21⟩ := cells_on hb2 (by omega) ⟨k20, k21⟩
  obtain ⟨k30, k31⟩ := cells_on hb2 (by omega) ⟨k30, k31⟩
  obtain ⟨f0, f1⟩ := frozen_on hb2 (by omega) ⟨f0, f1⟩
  have hz2 : w.heap.size + 4 ≤ w2.heap.size := Nat.le_trans hz hb2.size
  have HB2 := Lib.hid (rstep HB.out hb2)
  clear hb2 HB k00 k01 k10 k11 hz
  go_wp2_with fail
  refine (some_any _ _ _).mono ?_
  rintro e w3 ⟨rfl, hb3⟩
  rw [H3.out]
  obtain ⟨k20, k21⟩ := cells_on hb3 (by omega) ⟨k20, k21⟩
  obtain ⟨k30, k31⟩ := cells_on hb3 (by omega) ⟨k30, k31⟩
  obtain ⟨f0, f1⟩ := frozen_on hb3 (by omega) ⟨f0, f1⟩
  have HB3 := Lib.hid (rstep HB2.out hb3)
  clear hb3 HB2 hz2
  cases b
  · go_wp2_with fail
    refine bodyPost_ret (v := .tuple #[rect 0 0, .bool false]) (by simp [results, Tryd.results85, go_sem, k20, k21]) rfl ⟨rfl, ?_⟩
    exact (HB3.out.setCell (by simp; omega) _).setCell (by simp; omega) _
  · go_wp2_with fail
    refine bodyPost_ret (v := .tuple #[rect _ _, .bool true]) (by simp [results, Tryd.results85, go_sem, k20, k21]) rfl ⟨rfl, ?_⟩
    exact (HB3.out.setCell (by simp; omega) _).setCell (by simp; omega) _

set_option maxHeartbeats 1000000 in
theorem impl_hullA (r c r2 c2 : Int) (h1 : someB r c = false) (w : World) :
    Calls Tryd.prog 159 #[rect r c, rect r2 c2] w fun e w' => e = .returned (.tuple #[rect 0 0, .bool false]) ∧ Below w.heap.size w w' := by
  have H1 := Lib.hid h1
  clear h1
  go_enter Tryd.func159, Tryd.ntmps159
  go_wp2_with fail
  refine (rect_any _ _ _).mono ?_
  rintro e w1 ⟨rfl, hb1⟩
  rw [H1.out]
  obtain ⟨⟨k00, k01⟩, ⟨k10, k11⟩, ⟨k20, k21⟩, ⟨f0, f1⟩, hz, HB⟩ := three2 hb1
  clear hb1
  go_wp2_with fail
  refine bodyPost_ret (v := .tuple #[rect 0 0, .bool false]) (by simp [results, Tryd.results159, go_sem, k20, k21]) rfl ⟨rfl, ?_⟩
  exact (HB.out.setCell (by simp; omega) _).setCell (by simp; omega) _

set_option maxHeartbeats 1000000 in
theorem impl_hullB (r c r2 c2 : Int) (h1 : someB r c = true) (h2 : someB r2 c2 = false) (w : World) :
    Calls Tryd.prog 159 #[rect r c, rect r2 c2] w fun e w' => e = .returned (.tuple #[rect 0 0, .bool false]) ∧ Below w.heap.size w w' := by
  have H1 := Lib.hid h1
  clear h1
  have H2 := Lib.hid h2
  clear h2
  go_enter Tryd.func159, Tryd.ntmps159
  go_wp2_with fail
  refine (rect_any _ _ _).mono ?_
  rintro e w1 ⟨rfl, hb1⟩
  rw [H1.out]
  obtain ⟨⟨k00, k01⟩, ⟨k10, k11⟩, ⟨k20, k21⟩, ⟨f0, f1⟩, hz, HB⟩ := three2 hb1
  clear hb1
  go_wp2_with fail
  refine (rect_any _ _ _).mono ?_
  rintro e w2 ⟨rfl, hb2⟩
  rw [H2.out]
  obtain ⟨k00, k01⟩ := cells_on hb2 (by omega) ⟨k00, k01⟩
  obtain ⟨k10, k11⟩ := cells_on hb2 (by omega) ⟨k10, k11⟩
  obtain ⟨k20, k21⟩ := cells_on hb2 (by omega) ⟨k20, k21⟩
  obtain ⟨f0, f1⟩ := frozen_on hb2 (by omega) ⟨f0, f1⟩
  have hz2 : w.heap.size + 3 ≤ w2.heap.size := Nat.le_trans hz hb2.size
  have HB2 := Lib.hid (rstep HB.out hb2)
  clear hb2 HB hz
  go_wp2_with fail
  refine bodyPost_ret (v := .tuple #[rect 0 0, .bool false]) (by simp [results, Tryd.results159, go_sem, k20, k21]) rfl ⟨rfl, ?_⟩
  exact (HB2.out.setCell (by simp; omega) _).setCell (by simp; omega) _

set_option maxHeartbeats 1000000 in
theorem impl_hullC (r c r2 c2 : Int) (h1 : someB r c = true) (h2 : someB r2 c2 = true) (w : World) :
    Calls Tryd.prog 159 #[rect r c, rect r2 c2] w fun e w' => e = .returned (.tuple #[orZero (someB (Go.bits .or .i64 r r2) (Go.bits .or .i64 c c2)) (Go.bits .or .i64 r r2) (Go.bits .or .i64 c c2), .bool (someB (Go.bits .or .i64 r r2) (Go.bits .or .i64 c c2))]) ∧ Below w.heap.size w w' := by
  have H1 := Lib.hid h1
  clear h1
  have H2 := Lib.hid h2
  clear h2
  obtain ⟨b, hb⟩ : ∃ b, someB (Go.bits .or .i64 r r2) (Go.bits .or .i64 c c2) = b := ⟨_, rfl⟩
  rw [hb]
  have H3 := Lib.hid hb
  clear hb
  go_enter Tryd.func159, Tryd.ntmps159
  go_wp2_with fail
  refine (rect_any _ _ _).mono ?_
  rintro e w1 ⟨rfl, hb1⟩
  rw [H1.out]
  obtain ⟨⟨k00, k01⟩, ⟨k10, k11⟩, ⟨k20, k21⟩, ⟨f0, f1⟩, hz, HB⟩ := three2 hb1
  clear hb1
  go_wp2_with fail
  refine (rect_any _ _ _).mono ?_
  rintro e w2 ⟨rfl, hb2⟩
  rw [H2.out]
  obtain ⟨k00, k01⟩ := cells_on hb2 (by omega) ⟨k00, k01⟩
  obtain ⟨k10, k11⟩ := cells_on hb2 (by omega) ⟨k10, k11⟩
  obtain ⟨k20, k21⟩ := cells_on hb2 (by omega) ⟨k20, k21⟩
  obtain ⟨f0, f1⟩ := frozen_on hb2 (by omega) ⟨f0, f1⟩
  have hz2 : w.heap.size + 3 ≤ w2.heap.size := Nat.le_trans hz hb2.size
  have HB2 := Lib.hid (rstep HB.out hb2)
  clear hb2 HB hz
  go_wp2_with fail
  refine (from_rect _ _ _).mono ?_
  rintro e w3 ⟨rfl, hb3⟩
  rw [H3.out]
  obtain ⟨k20, k21⟩ := cells_on hb3 (by omega) ⟨k20, k21⟩
  obtain ⟨f0, f1⟩ := frozen_on hb3 (by omega) ⟨f0, f1⟩
  have HB3 := Lib.hid (rstep HB2.out hb3)
  clear hb3 HB2 hz2
  cases b
  · rw [if_neg (by decide)]
    go_wp2_with fail
    refine bodyPost_ret (v := .tuple #[rect 0 0, .bool false]) (by simp [results, Tryd.results159, go_sem, k20, k21]) rfl ⟨rfl, ?_⟩
    exact (HB3.out.setCell (by simp; omega) _).setCell (by simp; omega) _
  · rw [if_pos rfl]
    go_wp2_with fail
    refine bodyPost_ret (v := .tuple #[rect _ _, .bool true]) (by simp [results, Tryd.results159, go_sem, k20, k21]) rfl ⟨rfl, ?_⟩
    exact (HB3.out.setCell (by simp; omega) _).setCell (by simp; omega) _

end Go.Proofs.YtohkllmhknjkoaaDoor.Meet

