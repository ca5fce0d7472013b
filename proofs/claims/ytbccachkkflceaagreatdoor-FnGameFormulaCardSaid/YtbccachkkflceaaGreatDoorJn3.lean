/-
  Texts of one seat, joined: DrawT, Free.
-/
import Derived.Test.YtbccachkkflceaaGreatDoorJn1
import Derived.Test.YtbccachkkflceaaGreatDoorJn2
import Derived.Orders
import Derived.Still
import Derived.WalkKit
import Derived.Laws.Rows
import Derived.Laws.Tables
/-
  The drawing functions: an element of a list of strings; a rectangle of a valid matrix.
-/
namespace Go.Proofs.YtbccachkkflceaaGreatDoor.DrawT
open Go.RowKit Go.Proofs.YtbccachkkflceaaGreatDoor.Plain Go.Proofs.YtbccachkkflceaaGreatDoor.Rd Go.Proofs.YtbccachkkflceaaGreatDoor.Rd2 Go.Proofs.YtbccachkkflceaaGreatDoor.Rd3
set_option linter.unusedVariables false

set_option maxHeartbeats 1000000 in
theorem of_any {lo : Nat} (g p : Nat) (hp : p < 1048576) (xs : List ByteArray) (h1 : 1 ≤ xs.length) (h8 : xs.length ≤ 1000) (b c : Nat) (hbg : b ≠ g) (w : World) (h : Rdr lo w g p) (hbl : b < w.heap.size)
    (hc : ∀ j (hj : j < xs.length), w.cell? ⟨b, j, none⟩ = some (.string xs[j])) :
    Calls Tryz.prog 93 #[.pointer (some ⟨g, 0, none⟩), .slice (some ⟨b, 0, none⟩) xs.length c] w fun e w' => ∃ x : ByteArray, e = .returned (.string x) ∧ x ∈ xs ∧ Rdr lo w' g (p + 1) ∧ Apt g w w' := by
  have HC := Lib.hid hc
  have HP := Lib.hid (pick_r g p hp (xs.length : Int) w h)
  clear hc h
  go_enter Tryz.func93, Tryz.ntmps93
  go_wp2_with fail
  refine HP.out.mono ?_
  rintro e w1 ⟨x, rfl, ⟨hx0, hxm⟩, hx1, hr, ha⟩
  obtain ⟨k, rfl⟩ := Int.eq_ofNat_of_zero_le hx0
  have hk : k < xs.length := by omega
  have hkl : (k : Int) < (xs.length : Int) := by omega
  have hcell : w1.cell? ⟨b, k, none⟩ = some (.string xs[k]) := (ha.cell (p := ⟨b, k, none⟩) hbl hbg).trans (HC.out k hk)
  have HM : Hid (xs[k] ∈ xs) := List.getElem_mem hk
  have HR := Lib.hid hr
  have HA := Lib.hid ha
  generalize xs[k] = y at hcell HM
  clear hr ha hx1
  go_wp2_with fail
  go_ret
  exact ⟨y, rfl, HM.out, HR.out, HA.out⟩

theorem shift_le (n : Nat) (h : n ≤ 8) : wrap64 (wrap64 (2 ^ n) - 1) ≤ 255 := by
  have h2 : ∀ k : Fin 9, wrap64 (wrap64 (2 ^ k.val) - 1) ≤ 255 := by decide +kernel
  exact h2 ⟨n, by omega⟩
end Go.Proofs.YtbccachkkflceaaGreatDoor.DrawT

/-
  A region that draws its order, whose operations call functions that make memory, lay a block, store into it: each operation is walked ONCE, at whatever time it comes up, under an invariant that names the value of each operation that has come up.
-/
namespace Go.Proofs.YtbccachkkflceaaGreatDoor.Free
open Go Go.RowKit
set_option linter.unusedVariables false

section
variable {P : Program} {ops : Array Oper}

/-- what is known in the midst of the region -/
structure Mid (ops : Array Oper) (a0 : Act) (Y : Nat → Value → Act → World → Prop) (S : World → Prop) (listed : Array Bool) (a : Act) (w : World) : Prop where
  defers : a.defers = a0.defers
  size : a.tmps.size = a0.tmps.size
  world : S w
  old : ∀ k, (∀ (i : Nat) (o : Oper), ops[i]? = some o → o.dst ≠ some k) → a.tmps[k]? = a0.tmps[k]?
  closed : ∀ (i : Nat) (o : Oper), ops[i]? = some o → listed.getD i false = true → ∀ e ∈ o.after, Region.binds .any e = true → listed.getD e.on false = true
  new : ∀ (i : Nat) (o : Oper), ops[i]? = some o → listed.getD i false = true → ∃ v, Y i v a w ∧ ∀ d, o.dst = some d → a.tmps[d]? = some v

/-- no guard; each slot written once, and there; no edge forward -/
def freeB (ops : Array Oper) (n : Nat) : Bool :=
  (ops.toList.all fun o => o.guard.isNone && (match o.dst with | some d => decide (d < n) | none => true)) &&
  decide (ops.toList.filterMap (·.dst)).Nodup &&
  (List.range ops.size).all fun i => (ops[i]?).all fun o => o.after.all fun e => !Region.binds .any e || decide (e.on < i)

/-- how many of the first n have not come up -/
def left (listed : Array Bool) : Nat → Nat
  | 0 => 0
  | n + 1 => left listed n + (if listed.getD n false then 0 else 1)
theorem left_high (listed : Array Bool) (i : Nat) : ∀ n, n ≤ i → left (listed.setIfInBounds i true) n = left listed n
  | 0, _ => rfl
  | n + 1, h => by
    rw [left, left, left_high listed i n (by omega)]
    have : (listed.setIfInBounds i true).getD n false = listed.getD n false := by
      simp [Array.getD_eq_getD_getElem?, Array.getElem?_setIfInBounds_ne (show i ≠ n by omega)]
    rw [this]
theorem left_set (listed : Array Bool) (i : Nat) (hi : i < listed.size) (hu : listed.getD i false = false) : ∀ n, i < n → left (listed.setIfInBounds i true) n + 1 = left listed n
  | 0, h => absurd h (by omega)
  | n + 1, h => by
    rw [left, left]
    by_cases e : i = n
    · subst e
      rw [left_high listed i i (Nat.le_refl _), hu]
      have : (listed.setIfInBounds i true).getD i false = true := by
        simp [Array.getD_eq_getD_getElem?, hi]
      rw [this]
      simp
    · have h2 := left_set listed i hi hu n (by omega)
      have : (listed.setIfInBounds i true).getD n false = listed.getD n false := by
        simp [Array.getD_eq_getD_getElem?, Array.getElem?_setIfInBounds_ne e]
      rw [this]
      omega
theorem left_zero (listed : Array Bool) : ∀ n, left listed n = 0 → ∀ i, i < n → listed.getD i false = true
  | 0, _, i, hi => absurd hi (by omega)
  | n + 1, h, i, hi => by
    rw [left] at h
    by_cases e : i = n
    · subst e
      by_cases hl : listed.getD i false = true
      · exact hl
      · rw [if_neg hl] at h
        omega
    · exact left_zero listed n (by omega) i (by omega)

theorem wpAny_mid {n : Nat} {a0 : Act} {Y : Nat → Value → Act → World → Prop} {S : World → Prop} {Q : Exit → Act → World → Prop} (hB : freeB ops n = true) (hn : a0.tmps.size = n)
    (hstep : ∀ (i : Nat) (o : Oper), ops[i]? = some o → ∀ (listed : Array Bool) (a : Act) (w : World), Mid ops a0 Y S listed a w → listed.getD i false = false → (∀ e ∈ o.after, Region.binds .any e = true → listed.getD e.on false = true) →
      o.wp P a w (fun a' w' => ∃ v, a' = a.put o.dst v ∧ Y i v a' w' ∧ S w' ∧ ∀ j u, j ≠ i → listed.getD j false = true → Y j u a w → Y j u a' w') Q)
    (hend : ∀ a w, (∀ listed : Array Bool, (∀ i, listed.getD i false = decide (i < ops.size)) → Mid ops a0 Y S listed a w) → Q .normal a w) :
    ∀ (fuel : Nat) (listed : Array Bool) (a : Act) (w : World), listed.size = ops.size → left listed ops.size ≤ fuel → Mid ops a0 Y S listed a w → wpAny P .any ops Q fuel listed a w := by
  simp only [freeB, Bool.and_eq_true, decide_eq_true_eq] at hB
  obtain ⟨⟨h1, h2⟩, h3⟩ := hB
  have hg : ∀ (i : Nat) (o : Oper), ops[i]? = some o → o.guard = none := fun i o ho => by
    have := List.all_eq_true.1 h1 o (by simpa using Array.mem_of_getElem? ho)
    simp only [Bool.and_eq_true] at this
    simpa using this.1
  have hd : ∀ (i : Nat) (o : Oper) (d : Tmp), ops[i]? = some o → o.dst = some d → d < n := fun i o d ho hdst => by
    have := List.all_eq_true.1 h1 o (by simpa using Array.mem_of_getElem? ho)
    simp only [Bool.and_eq_true, hdst] at this
    simpa using this.2
  have hac : ∀ (i : Nat) (o : Oper), ops[i]? = some o → ∀ e ∈ o.after, Region.binds .any e = true → e.on < i := fun i o ho e he hb => by
    have hi : i < ops.size := (Array.getElem?_eq_some_iff.1 ho).1
    have := List.all_eq_true.1 h3 i (List.mem_range.2 hi)
    rw [ho] at this
    have h4 : ∀ e ∈ o.after, (!Region.binds .any e || decide (e.on < i)) = true := by
      have h5 : (o.after.all fun e => !Region.binds .any e || decide (e.on < i)) = true := this
      exact fun e he => Array.all_eq_true_iff_forall_mem.1 h5 e he
    have := h4 e he
    simpa [hb] using this
  have hdd : ∀ (i j : Nat) (oi oj : Oper) (d : Tmp), ops[i]? = some oi → ops[j]? = some oj → oi.dst = some d → oj.dst = some d → i = j := fun i j oi oj d hi hj di dj => by
    have hi' : ops.toList[i]? = some oi := by simpa using hi
    have hj' : ops.toList[j]? = some oj := by simpa using hj
    clear hd hac hg h1 h3 hstep hend hi hj
    generalize ops.toList = l at *
    induction l generalizing i j with
    | nil => simp at hi'
    | cons o l ih =>
      cases i with
      | zero =>
        cases j with
        | zero => rfl
        | succ j =>
          exfalso
          simp only [List.getElem?_cons_zero, Option.some.injEq] at hi'
          subst hi'
          simp only [List.getElem?_cons_succ] at hj'
          rw [List.filterMap_cons_some di, List.nodup_cons] at h2
          exact h2.1 (List.mem_filterMap.2 ⟨oj, List.mem_of_getElem? hj', dj⟩)
      | succ i =>
        cases j with
        | zero =>
          exfalso
          simp only [List.getElem?_cons_zero, Option.some.injEq] at hj'
          subst hj'
          simp only [List.getElem?_cons_succ] at hi'
          rw [List.filterMap_cons_some dj, List.nodup_cons] at h2
          exact h2.1 (List.mem_filterMap.2 ⟨oi, List.mem_of_getElem? hi', di⟩)
        | succ j =>
          simp only [List.getElem?_cons_succ] at hi' hj'
          have : (l.filterMap (·.dst)).Nodup := by
            cases hod : o.dst with
            | none => rwa [List.filterMap_cons_none hod] at h2
            | some x => rw [List.filterMap_cons_some hod, List.nodup_cons] at h2; exact h2.2
          rw [ih i j this hi' hj']
  have hall : ∀ (listed : Array Bool), listed.size = ops.size → Region.ready .any ops listed = [] → ∀ m, ∀ i, i < m → i < ops.size → listed.getD i false = true := by
    intro listed hsz hr m
    induction m with
    | zero => intro i hi; omega
    | succ m ih =>
      intro i hi hio
      by_cases e : i = m
      · subst e
        by_cases hl : listed.getD i false = true
        · exact hl
        · exfalso
          have hl2 : listed.getD i true = false := by
            have hlt : i < listed.size := by omega
            simp [hlt] at hl ⊢
            exact hl
          have : i ∈ Region.ready .any ops listed := by
            refine mem_ready.2 ⟨hl2, ops[i], by simp [hio], fun e he hb => ?_⟩
            have := hac i ops[i] (by simp [hio]) e he hb
            exact ih e.on this (by omega)
          rw [hr] at this
          cases this
      · exact ih i (by omega) hio
  intro fuel
  induction fuel with
  | zero =>
    intro listed a w hsz hc hM
    have hz := left_zero listed ops.size (by omega)
    refine ⟨?_, hend a w fun l' hl' => ⟨hM.defers, hM.size, hM.world, hM.old, fun i o ho _ e he hb => by rw [hl']; exact decide_eq_true (Nat.lt_trans (hac i o ho e he hb) (Array.getElem?_eq_some_iff.1 ho).1), fun i o ho _ => hM.new i o ho (hz i (Array.getElem?_eq_some_iff.1 ho).1)⟩⟩
    cases hr : Region.ready .any ops listed with
    | nil => rfl
    | cons i l =>
      exfalso
      have hi : i ∈ Region.ready .any ops listed := by rw [hr]; exact List.mem_cons_self
      obtain ⟨hu, o, ho, _⟩ := mem_ready.1 hi
      have hio : i < ops.size := (Array.getElem?_eq_some_iff.1 ho).1
      have := hz i hio
      have hlt : i < listed.size := by omega
      simp [hlt] at hu this
      rw [hu] at this
      cases this
  | succ fuel ih =>
    intro listed a w hsz hc hM
    refine ⟨fun hr => hend a w fun l' hl' => ⟨hM.defers, hM.size, hM.world, hM.old, fun i o ho _ e he hb => by rw [hl']; exact decide_eq_true (Nat.lt_trans (hac i o ho e he hb) (Array.getElem?_eq_some_iff.1 ho).1), fun i o ho _ => hM.new i o ho (hall listed hsz hr ops.size i (Array.getElem?_eq_some_iff.1 ho).1 (Array.getElem?_eq_some_iff.1 ho).1)⟩, fun i hi => ?_⟩
    obtain ⟨hu, o, ho, hdep⟩ := mem_ready.1 hi
    have hio : i < ops.size := (Array.getElem?_eq_some_iff.1 ho).1
    have hu2 : listed.getD i false = false := by
      have hlt : i < listed.size := by omega
      simp [hlt] at hu ⊢
      exact hu
    unfold wpOp
    simp only [ho]
    have hw : Region.wanted o (yielded ops a.tmps) = true := by simp [Region.wanted, hg i o ho]
    rw [if_pos hw]
    refine .inl (Oper.wp_mono ?_ (hstep i o ho listed a w hM hu2 hdep))
    rintro a' w' ⟨v, rfl, hY, hS, hst⟩
    refine ih _ _ _ (by simpa using hsz) (by have := left_set listed i (by omega) hu2 ops.size hio; omega) ⟨?_, ?_, hS, ?_, ?_, ?_⟩
    · rw [← hM.defers]
      cases o.dst <;> rfl
    · rw [← hM.size]
      cases o.dst <;> simp [Act.put]
    · intro k hk
      rw [← hM.old k hk]
      cases hod : o.dst with
      | none => rfl
      | some d =>
        have : d ≠ k := fun e => hk i o ho (by rw [hod, e])
        simp [Act.put, Array.getElem?_setIfInBounds_ne this]
    · intro j oj hoj hl e he hb
      have hl' : listed.getD e.on false = true := by
        by_cases e2 : j = i
        · subst e2
          obtain rfl : o = oj := Option.some.inj (ho.symm.trans hoj)
          exact hdep e he hb
        · have hl2 : listed.getD j false = true := by
            rw [← hl]
            simp [Array.getD_eq_getD_getElem?, Array.getElem?_setIfInBounds_ne (Ne.symm e2)]
          exact hM.closed j oj hoj hl2 e he hb
      exact getD_set_true hl'
    · intro j oj hoj hl
      by_cases e : j = i
      · subst e
        obtain rfl : o = oj := Option.some.inj (ho.symm.trans hoj)
        refine ⟨v, hY, fun d hdd' => ?_⟩
        have hdn := hd j o d ho hdd'
        rw [← hn, ← hM.size] at hdn
        simp [hdd', Act.put, hdn]
      · have hl2 : listed.getD j false = true := by
          rw [← hl]
          simp [Array.getD_eq_getD_getElem?, Array.getElem?_setIfInBounds_ne (Ne.symm e)]
        obtain ⟨u, hu', hd'⟩ := hM.new j oj hoj hl2
        refine ⟨u, hst j u e hl2 hu', fun d hdj => ?_⟩
        rw [← hd' d hdj]
        cases hod : o.dst with
        | none => rfl
        | some d2 =>
          have : d2 ≠ d := fun e2 => e (hdd j i oj o d hoj ho hdj (by rw [hod, e2]))
          simp [Act.put, Array.getElem?_setIfInBounds_ne this]

/-- the lexical filling of the slots -/
def fill : List Oper → (Nat → Value) → Nat → Act → Act
  | [], _, _, a => a
  | o :: l, vs, b, a => fill l vs (b + 1) (a.put o.dst (vs b))
theorem put_size (a : Act) (d : Option Tmp) (v : Value) : (a.put d v).tmps.size = a.tmps.size := by cases d <;> simp [Act.put]
theorem put_defers (a : Act) (d : Option Tmp) (v : Value) : (a.put d v).defers = a.defers := by cases d <;> rfl
theorem fill_size : ∀ (l : List Oper) (vs : Nat → Value) (b : Nat) (a : Act), (fill l vs b a).tmps.size = a.tmps.size
  | [], _, _, _ => rfl
  | o :: l, vs, b, a => by rw [fill, fill_size l, put_size]
theorem fill_defers : ∀ (l : List Oper) (vs : Nat → Value) (b : Nat) (a : Act), (fill l vs b a).defers = a.defers
  | [], _, _, _ => rfl
  | o :: l, vs, b, a => by rw [fill, fill_defers l, put_defers]
theorem fill_not (k : Nat) : ∀ (l : List Oper) (vs : Nat → Value) (b : Nat) (a : Act), (∀ o ∈ l, o.dst ≠ some k) → (fill l vs b a).tmps[k]? = a.tmps[k]?
  | [], _, _, _, _ => rfl
  | o :: l, vs, b, a, h => by
    rw [fill, fill_not k l vs (b + 1) _ (fun o' ho' => h o' (List.mem_cons_of_mem _ ho'))]
    have := h o List.mem_cons_self
    cases hod : o.dst with
    | none => rfl
    | some d =>
      have : d ≠ k := fun e => this (by rw [hod, e])
      simp [Act.put, Array.getElem?_setIfInBounds_ne this]
theorem fill_at (k : Nat) : ∀ (l : List Oper) (vs : Nat → Value) (b : Nat) (a : Act) (i : Nat) (o : Oper), l[i]? = some o → o.dst = some k → (l.filterMap (·.dst)).Nodup → k < a.tmps.size → (fill l vs b a).tmps[k]? = some (vs (b + i))
  | [], _, _, _, i, o, h, _, _, _ => by simp at h
  | o' :: l, vs, b, a, i, o, h, hd, hn, hk => by
    rw [fill]
    cases i with
    | zero =>
      simp only [List.getElem?_cons_zero, Option.some.injEq] at h
      subst h
      rw [List.filterMap_cons_some hd, List.nodup_cons] at hn
      rw [fill_not k l vs (b + 1) _ (fun o2 ho2 e => hn.1 (List.mem_filterMap.2 ⟨o2, ho2, e⟩)), hd]
      simp [Act.put, hk]
    | succ i =>
      simp only [List.getElem?_cons_succ] at h
      have hn2 : (l.filterMap (·.dst)).Nodup := by
        cases hod : o'.dst with
        | none => rwa [List.filterMap_cons_none hod] at hn
        | some x => rw [List.filterMap_cons_some hod, List.nodup_cons] at hn; exact hn.2
      rw [fill_at k l vs (b + 1) _ i o h hd hn2 (by rw [put_size]; exact hk)]
      congr 2
      omega

/-- THE LAW -/
theorem wp_region_free {id n : Nat} {a0 : Act} {w0 : World} {Y : Nat → Value → Act → World → Prop} {S : World → Prop} {Q : Exit → Act → World → Prop} (hm : P.follows .mixedOrders = true) (hB : freeB ops n = true) (hn : a0.tmps.size = n)
    (hS : S { w0 with drawn := w0.drawn + 1 })
    (hstep : ∀ (i : Nat) (o : Oper), ops[i]? = some o → ∀ (listed : Array Bool) (a : Act) (w : World), Mid ops a0 Y S listed a w → listed.getD i false = false → (∀ e ∈ o.after, Region.binds .any e = true → listed.getD e.on false = true) →
      o.wp P a w (fun a' w' => ∃ v, a' = a.put o.dst v ∧ Y i v a' w' ∧ S w' ∧ ∀ j u, j ≠ i → listed.getD j false = true → Y j u a w → Y j u a' w') Q)
    (hend : ∀ (vs : Nat → Value) (w : World), S w → (∀ (i : Nat) (o : Oper), ops[i]? = some o → Y i (vs i) (fill ops.toList vs 0 a0) w) → Q .normal (fill ops.toList vs 0 a0) w) : (Code.region id ops true).wp P Q a0 w0 := by
  refine wp_region_any hm ?_
  have hB2 := hB
  simp only [freeB, Bool.and_eq_true, decide_eq_true_eq] at hB2
  obtain ⟨⟨h1, h2⟩, _⟩ := hB2
  refine wpAny_mid hB hn hstep (fun a w hM => ?_) _ _ _ _ (by simp) ?_ ⟨rfl, rfl, hS, fun _ _ => rfl, fun i o _ hl => ?_, fun i o _ hl => ?_⟩
  · have M := hM (Array.replicate ops.size true) (fun i => by by_cases hi : i < ops.size <;> simp [Array.getD_eq_getD_getElem?, hi])
    have hl : ∀ (i : Nat) (o : Oper), ops[i]? = some o → (Array.replicate ops.size true).getD i false = true := fun i o ho => by
      have hi : i < ops.size := (Array.getElem?_eq_some_iff.1 ho).1
      simp [Array.getD_eq_getD_getElem?, hi]
    classical
    obtain ⟨vs, hvs⟩ : ∃ vs : Nat → Value, ∀ (i : Nat) (o : Oper), ops[i]? = some o → Y i (vs i) a w ∧ ∀ d, o.dst = some d → a.tmps[d]? = some (vs i) := by
      refine ⟨fun i => if h : ∃ v : Value, ∀ o : Oper, ops[i]? = some o → Y i v a w ∧ ∀ d, o.dst = some d → a.tmps[d]? = some v then h.choose else undef, fun i o ho => ?_⟩
      have hex : ∃ v : Value, ∀ o : Oper, ops[i]? = some o → Y i v a w ∧ ∀ d, o.dst = some d → a.tmps[d]? = some v := by
        obtain ⟨v, hv⟩ := M.new i o ho (hl i o ho)
        exact ⟨v, fun o' ho' => by obtain rfl : o = o' := Option.some.inj (ho.symm.trans ho'); exact hv⟩
      dsimp only
      rw [dif_pos hex]
      exact hex.choose_spec o ho
    have ha : a = fill ops.toList vs 0 a0 := by
      have ht : a.tmps = (fill ops.toList vs 0 a0).tmps := by
        apply Array.ext_getElem?
        intro k
        by_cases hk : ∃ (i : Nat) (o : Oper), ops[i]? = some o ∧ o.dst = some k
        · obtain ⟨i, o, ho, hd⟩ := hk
          have hkn : k < a0.tmps.size := by
            have := List.all_eq_true.1 h1 o (by simpa using Array.mem_of_getElem? ho)
            simp only [Bool.and_eq_true, hd] at this
            rw [hn]
            simpa using this.2
          rw [fill_at k ops.toList vs 0 a0 i o (by simpa using ho) hd h2 hkn, (hvs i o ho).2 k hd, Nat.zero_add]
        · have hk2 : ∀ (i : Nat) (o : Oper), ops[i]? = some o → o.dst ≠ some k := fun i o ho e => hk ⟨i, o, ho, e⟩
          rw [M.old k hk2, fill_not k ops.toList vs 0 a0]
          intro o ho e
          obtain ⟨i, hi, rfl⟩ := List.getElem_of_mem ho
          exact hk2 i _ (by simp at hi; simp [hi]) e
      have hdf := M.defers
      rw [← fill_defers ops.toList vs 0 a0] at hdf
      cases a
      cases hfl : fill ops.toList vs 0 a0
      rw [hfl] at ht hdf
      simp only at ht hdf
      rw [ht, hdf]
    rw [ha]
    refine hend vs w M.world fun i o ho => ?_
    rw [← ha]
    exact (hvs i o ho).1
  · clear hstep hend
    have : ∀ n, left (Array.replicate ops.size false) n ≤ n := fun n => by
      induction n with
      | zero => simp [left]
      | succ n ih => rw [left]; split <;> omega
    exact this _
  all_goals
    exfalso
    simp [Array.getD_eq_getD_getElem?, Array.getElem?_replicate] at hl
    split at hl <;> simp at hl
/-! ### one operation at a time -/
theorem wp_value {o : Oper} {a : Act} {w : World} {K : Act → World → Prop} {Q : Exit → Act → World → Prop} (v : Value) (h : (execOp a.eval o).run P w = .ok (.value v) w) (hK : K (a.put o.dst v) w) : o.wp P a w K Q := by
  unfold Oper.wp
  rw [h]
  exact hK
theorem wp_enter {o : Oper} {a : Act} {w : World} {K : Act → World → Prop} {Q : Exit → Act → World → Prop} (f : FuncId) (args : Array Value) (v : Value) (R : World → Prop) (h : (execOp a.eval o).run P w = .ok (.enter f args) w)
    (hc : Calls P f args w fun e w' => e = .returned v ∧ R w') (hK : ∀ w', R w' → K (a.put o.dst v) w') : o.wp P a w K Q := by
  unfold Oper.wp
  rw [h]
  refine Calls.mono hc ?_
  rintro e w' ⟨rfl, hR⟩
  exact hK w' hR
theorem wp_load_row {o : Oper} {a : Act} {w : World} {K : Act → World → Prop} {Q : Exit → Act → World → Prop} (ty : TypeId) (x : Operand) (ho : o.op = .load ty x)
    (g : Nat) (hx : a.eval x = .pointer (some ⟨g, 0, none⟩)) (t : TypeId) (cs : Array Value) (fr : Nat × Nat) (d : TypeDesc) (hg : w.heap[g]? = some (.cells cs t fr))
    (hu : P.underlying ty = some d) (hd : (match d with | .struct _ | .array _ _ => true | _ => false) = true) (hi : (P.info? ty).map (·.size) = some cs.size) (hK : K (a.put o.dst (.agg cs)) w) : o.wp P a w K Q := by
  refine wp_value (.agg cs) ?_ hK
  unfold execOp
  simp only [ho, hx, Instr.loadAt, Instr.sureAddr, Sem.run_bind, Sem.run_pure, Result.andThen_ok, run_loadVar_row w g t ty cs fr d hg hu hd hi]

theorem setRow_kept {w : World} {g : Nat} {t : TypeId} {cs : Array Value} (h : w.heap[g]? = some (.cells cs t (0, 0))) (cs' : Array Value) : (w.setRow g cs').heap[g]? = some (.cells cs' t (0, 0)) := by
  simp [World.setRow, Array.getElem?_modify, h]
theorem setRow_below {B : Nat} {w w1 : World} {g : Nat} (h : Below B w w1) (hg : B ≤ g) (cs : Array Value) : Below B w (w1.setRow g cs) :=
  h.trans ⟨rfl, rfl, rfl, by simp, fun k hk => by simp only [World.setRow, Array.getElem?_modify]; rw [if_neg (by omega)]⟩
theorem setRow_other {w : World} {g k : Nat} (h : k ≠ g) (cs : Array Value) : (w.setRow g cs).heap[k]? = w.heap[k]? := by
  simp only [World.setRow, Array.getElem?_modify]
  rw [if_neg (by omega)]

theorem fill_congr : ∀ (l : List Oper) (vs us : Nat → Value) (b : Nat) (a : Act), (∀ i, i < l.length → vs (b + i) = us (b + i)) → fill l vs b a = fill l us b a
  | [], _, _, _, _, _ => rfl
  | o :: l, vs, us, b, a, h => by
    rw [fill, fill]
    have h0 := h 0 (by simp)
    rw [Nat.add_zero] at h0
    rw [h0]
    exact fill_congr l vs us (b + 1) _ fun i hi => by
      have := h (i + 1) (by simp; omega)
      rwa [show b + (i + 1) = b + 1 + i by omega] at this

/-- what an operation may know of the slots -/
def Facts (ops : Array Oper) (a0 : Act) (con : Nat → Value) (ia is : Nat) (o : Oper) (a : Act) : Prop :=
  (∀ e ∈ o.after, Region.binds .any e = true → ∀ (oj : Oper) (dj : Tmp), ops[e.on]? = some oj → oj.dst = some dj → e.on ≠ ia → e.on ≠ is → a.eval (.tmp dj) = con e.on) ∧
  (∀ k, (ops.toList.all fun o => o.dst != some k) = true → a.eval (.tmp k) = a0.eval (.tmp k))
theorem eval_of {a : Act} {d : Tmp} {v : Value} (h : a.tmps[d]? = some v) : a.eval (.tmp d) = v := by
  show a.tmps.getD d undef = v
  simp [Array.getD_eq_getD_getElem?, h]
theorem get_of {a : Act} {d : Tmp} {v : Value} (h : a.eval (.tmp d) = v) : a.tmps[d]?.getD undef = v := by
  rw [← h]
  show _ = a.tmps.getD d undef
  simp [Array.getD_eq_getD_getElem?]
theorem eval_same {a b : Act} {d : Tmp} (h : a.tmps[d]? = b.tmps[d]?) : a.eval (.tmp d) = b.eval (.tmp d) := by
  show a.tmps.getD d undef = b.tmps.getD d undef
  simp [Array.getD_eq_getD_getElem?, h]

/-- THE LAW AT ONE NEW BLOCK AND ONE STORE INTO IT: all else yields a value that is known ahead -/
theorem wp_region_one {id n : Nat} {a0 : Act} {w0 : World} {Q : Exit → Act → World → Prop} (con : Nat → Value) (ia is d : Nat) (T : TypeId) (zs cells : Array Value) (oa os : Oper)
    (hm : P.follows .mixedOrders = true) (hB : freeB ops n = true) (hn : a0.tmps.size = n)
    (ha : ops[ia]? = some oa) (had : oa.dst = some d) (hs : ops[is]? = some os) (hsd : os.dst = none) (hne : ia ≠ is)
    (hdep : ∃ e ∈ os.after, Region.binds .any e = true ∧ e.on = ia) (hz : zs.size = cells.size)
    (hal : ∀ (a : Act) (w : World), (execOp a.eval oa).run P w = .ok (.value (.pointer (some ⟨w.heap.size, 0, none⟩))) (w.alloc (.cells zs T)))
    (hst : ∀ (a : Act) (w : World) (b : Nat) (old : Array Value), Facts ops a0 con ia is os a → a.eval (.tmp d) = .pointer (some ⟨b, 0, none⟩) → w.heap[b]? = some (.cells old T (0, 0)) → old.size = cells.size →
      os.wp P a w (fun a' w' => a' = a ∧ w' = w.setRow b cells) Q)
    (hcon : ∀ (i : Nat) (o : Oper), ops[i]? = some o → i ≠ ia → i ≠ is → ∀ (a : Act) (w : World), Below w0.heap.size w0 w → Facts ops a0 con ia is o a →
      o.wp P a w (fun a' w' => a' = a.put o.dst (con i) ∧ Below w.heap.size w w') Q)
    (hend : ∀ (b : Nat) (w : World), Below w0.heap.size w0 w → w0.heap.size ≤ b → w.heap[b]? = some (.cells cells T (0, 0)) →
      Q .normal (fill ops.toList (fun i => if i = ia then .pointer (some ⟨b, 0, none⟩) else if i = is then undef else con i) 0 a0) w) : (Code.region id ops true).wp P Q a0 w0 := by
  have hB2 := hB
  simp only [freeB, Bool.and_eq_true, decide_eq_true_eq] at hB2
  obtain ⟨⟨h1, h2⟩, _⟩ := hB2
  have hdn : ∀ (o : Oper) (k : Tmp), o ∈ ops.toList → o.dst = some k → k < n := fun o k ho hk => by
    have := List.all_eq_true.1 h1 o ho
    simp only [Bool.and_eq_true, hk] at this
    simpa using this.2
  let Y : Nat → Value → Act → World → Prop := fun i v a w =>
    if i = ia then ∃ b, v = .pointer (some ⟨b, 0, none⟩) ∧ w0.heap.size ≤ b ∧ ∃ old, w.heap[b]? = some (.cells old T (0, 0)) ∧ old.size = cells.size
    else if i = is then v = undef ∧ ∃ b, a.tmps[d]? = some (.pointer (some ⟨b, 0, none⟩)) ∧ w.heap[b]? = some (.cells cells T (0, 0))
    else v = con i
  have facts : ∀ (listed : Array Bool) (o : Oper) (a : Act) (w : World), Mid ops a0 Y (fun w => Below w0.heap.size w0 w) listed a w → (∀ e ∈ o.after, Region.binds .any e = true → listed.getD e.on false = true) → Facts ops a0 con ia is o a := by
    intro listed o a w hM hdl
    refine ⟨fun e he hb oj dj hoj hdj n1 n2 => ?_, fun k hk => eval_same (hM.old k fun i o' ho' hd' => ?_)⟩
    · obtain ⟨v, hv, hvd⟩ := hM.new e.on oj hoj (hdl e he hb)
      simp only [Y, if_neg n1, if_neg n2] at hv
      rw [← hv]
      exact eval_of (hvd dj hdj)
    · have := List.all_eq_true.1 hk o' (by simpa using Array.mem_of_getElem? ho')
      simp [hd'] at this
  have stay : ∀ (w w' : World) (b : Nat) (old : Array Value), Below w.heap.size w w' → w.heap[b]? = some (.cells old T (0, 0)) → w'.heap[b]? = some (.cells old T (0, 0)) := fun w w' b old hb h =>
    (hb.block b (Array.getElem?_eq_some_iff.1 h).1).trans h
  refine wp_region_free (Y := Y) (S := fun w => Below w0.heap.size w0 w) hm hB hn (Below.refl w0.heap.size w0).drew ?_ ?_
  · intro i o ho listed a w hM hu hdl
    by_cases hia : i = ia
    · subst hia
      obtain rfl : o = oa := Option.some.inj (ho.symm.trans ha)
      unfold Oper.wp
      rw [hal a w]
      refine ⟨_, rfl, ?_, hM.world.alloc hM.world.size _, ?_⟩
      · simp only [Y, if_true]
        exact ⟨_, rfl, hM.world.size, zs, heap_alloc_new w _, hz⟩
      · intro j u hj hl hY
        simp only [Y, if_neg hj] at hY ⊢
        by_cases hjs : j = is
        · subst hjs
          exfalso
          obtain ⟨e, he, hb, heq⟩ := hdep
          have := hM.closed j os hs hl e he hb
          rw [heq, hu] at this
          cases this
        · rw [if_neg hjs] at hY ⊢
          exact hY
    · by_cases his : i = is
      · subst his
        obtain rfl : o = os := Option.some.inj (ho.symm.trans hs)
        obtain ⟨e, he, hb, heq⟩ := hdep
        have hl := hdl e he hb
        rw [heq] at hl
        obtain ⟨v, hv, hvd⟩ := hM.new ia oa ha hl
        simp only [Y, if_true] at hv
        obtain ⟨b, rfl, hbw, old, hold, hosz⟩ := hv
        refine Oper.wp_mono ?_ (hst a w b old (facts listed o a w hM hdl) (eval_of (hvd d had)) hold hosz)
        rintro a' w' ⟨rfl, rfl⟩
        refine ⟨undef, by rw [hsd]; rfl, ?_, setRow_below hM.world hbw _, ?_⟩
        · simp only [Y, if_neg (Ne.symm hne), if_true]
          exact ⟨trivial, b, hvd d had, setRow_kept hold _⟩
        · intro j u hj hlj hY
          by_cases hja : j = ia
          · subst hja
            simp only [Y, if_true] at hY ⊢
            obtain ⟨b2, rfl, hb2, old2, ho2, hs2⟩ := hY
            refine ⟨b2, rfl, hb2, ?_⟩
            by_cases e2 : b2 = b
            · subst e2
              exact ⟨cells, setRow_kept hold _, rfl⟩
            · exact ⟨old2, (setRow_other e2 _).trans ho2, hs2⟩
          · simp only [Y, if_neg hja, if_neg hj] at hY ⊢
            exact hY
      · refine Oper.wp_mono ?_ (hcon i o ho hia his a w hM.world (facts listed o a w hM hdl))
        rintro a' w' ⟨rfl, hbl⟩
        refine ⟨con i, rfl, ?_, hM.world.trans (hbl.mono hM.world.size), ?_⟩
        · simp only [Y, if_neg hia, if_neg his]
        · intro j u hj hlj hY
          by_cases hja : j = ia
          · subst hja
            simp only [Y, if_true] at hY ⊢
            obtain ⟨b2, rfl, hb2, old2, ho2, hs2⟩ := hY
            exact ⟨b2, rfl, hb2, old2, stay w w' b2 old2 hbl ho2, hs2⟩
          · by_cases hjs : j = is
            · subst hjs
              simp only [Y, if_neg hja, if_true] at hY ⊢
              obtain ⟨rfl, b2, ht, ho2⟩ := hY
              refine ⟨rfl, b2, ?_, stay w w' b2 cells hbl ho2⟩
              rw [← ht]
              have hnd : o.dst ≠ some d := fun e => by
                have hi' : ops.toList[i]? = some o := by simpa using ho
                have ha' : ops.toList[ia]? = some oa := by simpa using ha
                have hf1 := fill_at d ops.toList (fun k => .int .i64 k) 0 a0 i o hi' e h2 (by rw [hn]; exact hdn o d (by simpa using Array.mem_of_getElem? ho) e)
                have hf2 := fill_at d ops.toList (fun k => .int .i64 k) 0 a0 ia oa ha' had h2 (by rw [hn]; exact hdn o d (by simpa using Array.mem_of_getElem? ho) e)
                rw [hf1] at hf2
                simp only [Option.some.injEq, Value.int.injEq, true_and] at hf2
                omega
              cases hod : o.dst with
              | none => rfl
              | some x =>
                have : x ≠ d := fun e2 => hnd (by rw [hod, e2])
                simp [Act.put, Array.getElem?_setIfInBounds_ne this]
            · simp only [Y, if_neg hja, if_neg hjs] at hY ⊢
              exact hY
  · intro vs w hS hall
    have hYa := hall ia oa ha
    simp only [Y, if_true] at hYa
    obtain ⟨b, hvb, hbw, _⟩ := hYa
    have hYs := hall is os hs
    simp only [Y, if_neg (Ne.symm hne), if_true] at hYs
    obtain ⟨hvs, b2, ht, hcells⟩ := hYs
    have ha' : ops.toList[ia]? = some oa := by simpa using ha
    have hf := fill_at d ops.toList vs 0 a0 ia oa ha' had h2 (by rw [hn]; exact hdn oa d (by simpa using Array.mem_of_getElem? ha) had)
    rw [Nat.zero_add, hvb, ht] at hf
    obtain rfl : b2 = b := by simpa using hf
    have hc := fill_congr ops.toList vs (fun i => if i = ia then .pointer (some ⟨b2, 0, none⟩) else if i = is then undef else con i) 0 a0 (fun i hi => by
      simp only [Nat.zero_add]
      by_cases hia : i = ia
      · subst hia; rw [if_pos rfl]; exact hvb
      · by_cases his : i = is
        · subst his; rw [if_neg hia, if_pos rfl]; exact hvs
        · rw [if_neg hia, if_neg his]
          have hio : i < ops.size := by simpa using hi
          have := hall i ops[i] (by simp [hio])
          simp only [Y, if_neg hia, if_neg his] at this
          exact this)
    rw [hc]
    exact hend b2 w hS hbw hcells
end
end Go.Proofs.YtbccachkkflceaaGreatDoor.Free

