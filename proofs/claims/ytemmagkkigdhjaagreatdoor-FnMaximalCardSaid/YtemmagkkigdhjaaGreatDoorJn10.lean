/-
  Texts of one seat, joined: Entry, FreeIn, Vals.
-/
import Derived.Test.YtemmagkkigdhjaaGreatDoorJn1
import Derived.Test.YtemmagkkigdhjaaGreatDoorJn9
import Derived.Test.YtemmagkkigdhjaaGreatDoorJn3
import Derived.OrdersIn
import Derived.Still
import Derived.StillTail
import Derived.WalkKit
import Derived.Laws.Rows
import Derived.Laws.Tables
/-
  Contracts of the grid's methods and of the reference's l1At.
-/
namespace Go.Proofs.YtemmagkkigdhjaaGreatDoor.Entry
open Go.RowKit Go.Proofs.YtemmagkkigdhjaaGreatDoor.Plain Go.Proofs.YtemmagkkigdhjaaGreatDoor.Base Go.Proofs.YtemmagkkigdhjaaGreatDoor.Valid Go.Proofs.YtemmagkkigdhjaaGreatDoor.Law Go.Proofs.YtemmagkkigdhjaaGreatDoor.GridPlain Go.Proofs.YtemmagkkigdhjaaGreatDoor.Grid
set_option linter.unusedVariables false

set_option maxHeartbeats 400000 in
theorem index_true (i n : Int) (h1 : 0 ≤ i) (h2 : i < n) (w : World) :
    Calls Tryz.prog 105 #[.int .i64 i, .int .i64 n] w fun e w' => e = .returned (.bool true) ∧ w = w' := by
  go_enter Tryz.func105, Tryz.ntmps105
  go_wp2
  go_ret
  exact ⟨rfl, rfl⟩
set_option maxHeartbeats 400000 in
theorem index_false (i n : Int) (h : i < 0 ∨ n ≤ i) (w : World) :
    Calls Tryz.prog 105 #[.int .i64 i, .int .i64 n] w fun e w' => e = .returned (.bool false) ∧ w = w' := by
  by_cases h0 : 0 ≤ i
  · have h2 : n ≤ i := by omega
    clear h
    go_enter Tryz.func105, Tryz.ntmps105
    go_wp2
    go_ret
    exact ⟨by simp; omega, rfl⟩
  · have h2 : i < 0 := by omega
    clear h h0
    go_enter Tryz.func105, Tryz.ntmps105
    go_wp2
    go_ret
    exact ⟨rfl, rfl⟩

/-- a grid's value -/
abbrev gval (r c : Int) (f : Nat → Int) : Value := .agg (gcells r c f)

set_option maxHeartbeats 1000000 in
theorem entry_any (r c : Int) (f : Nat → Int) (x y : Nat) (hx : x < 8) (hy : y < 8) (w : World) :
    Calls Tryz.prog 41 #[gval r c f, .int .i64 (x : Int), .int .i64 (y : Int)] w fun e w' => e = .returned (.int .i64 (f (8 * x + y))) ∧ Below w.heap.size w w' := by
  have hx' : (x : Int) < 8 := by omega
  have hy' : (y : Int) < 8 := by omega
  have cg : (w.alloc (.cells (gcells r c f) 71)).cell? ⟨w.heap.size, 2 + x * 8 + y, none⟩ = some (.int .i64 (f (8 * x + y))) := by
    rw [Nat.mul_comm 8 x]
    exact (cell_of_row _ _ _ _ _ _ (heap_alloc_new w _)).trans (gat _ _ _ _ _ hx hy)
  go_enter Tryz.func41, Tryz.ntmps41
  go_wp2_with fail
  go_ret
  exact ⟨rfl, by go_grown⟩


theorem byte_xy (E : Nat → Nat → Bool) (r c x y : Nat) (s : ByteArray) (h : s = str (rowsB E r c)) (hx : x < r) (hy : y < c) (hlt : x * c + y < s.size) : s[x * c + y].toNat = if E x y then 49 else 48 := by
  have hk : x * c + y < r * c := by
    have : (x + 1) * c ≤ r * c := Nat.mul_le_mul_right c hx
    rw [Nat.succ_mul] at this
    omega
  have h1 : (x * c + y) / c = x := by rw [Nat.mul_comm, Nat.mul_add_div (by omega), Nat.div_eq_of_lt hy, Nat.add_zero]
  have h2 : (x * c + y) % c = y := by rw [Nat.mul_comm, Nat.mul_add_mod, Nat.mod_eq_of_lt hy]
  have h3 := Grid.byte_at E r c (x * c + y) s h hk hlt
  rwa [h1, h2] at h3
theorem size_xy {r c x y : Nat} (hx : x < r) (hy : y < c) : x * c + y < r * c := by
  have : (x + 1) * c ≤ r * c := Nat.mul_le_mul_right c hx
  rw [Nat.succ_mul] at this
  omega

set_option maxHeartbeats 1000000 in
theorem at_any (E : Nat → Nat → Bool) (r c : Nat) (hr8 : r ≤ 8) (hc8 : c ≤ 8) (x y : Nat) (hx : x < r) (hy : y < c) (w : World) :
    Calls Tryz.prog 83 #[mat r c (str (rowsB E r c)), .int .i64 (x : Int), .int .i64 (y : Int)] w fun e w' => e = .returned (.bool (E x y)) ∧ Below w.heap.size w w' := by
  obtain ⟨s, hs⟩ : ∃ s, str (rowsB E r c) = s := ⟨_, rfl⟩
  rw [hs]
  have HS := Lib.hid hs
  have hz : s.size = r * c := by rw [← hs, str_size, rowsB_length]
  have hlt := size_xy hx hy
  rw [← hz] at hlt
  have h64 : s.size ≤ 64 := by rw [hz]; exact prod_le hr8 hc8
  have hby := byte_xy E r c x y s hs.symm hx hy hlt
  have HB : Hid (((s[x * c + y].toNat : Int) == 49) = E x y) := by
    unfold Hid
    rw [hby]
    cases E x y <;> rfl
  have hmul := wrap_prod x c (by omega) hc8
  have HM := Lib.hid hmul
  have hxc : x * c ≤ 64 := by omega
  clear hs hz HS hby hmul
  go_enter Tryz.func83, Tryz.ntmps83
  go_wp2_with fail
  go_ret
  exact ⟨congrArg (fun b => Ending.returned (.bool b)) HB.out, by go_grown⟩

/-- a valid matrix is told by its entries -/
theorem valid_form {r c : Int} {s : ByteArray} (h : validB r c s = true) : ∃ (R C : Nat) (E : Nat → Nat → Bool), r = (R : Int) ∧ c = (C : Int) ∧ 1 ≤ R ∧ R ≤ 8 ∧ 1 ≤ C ∧ C ≤ 8 ∧ s = str (rowsB E R C) := by
  unfold validB at h
  simp only [Bool.and_eq_true, decide_eq_true_eq, beq_iff_eq] at h
  obtain ⟨⟨h1, h2, h3, h4⟩, hok, hsz⟩ := h
  obtain ⟨R, rfl⟩ := Int.eq_ofNat_of_zero_le (show 0 ≤ r by omega)
  obtain ⟨C, rfl⟩ := Int.eq_ofNat_of_zero_le (show 0 ≤ c by omega)
  have hsz' : s.size = R * C := by
    have : ((s.size : Nat) : Int) = ((R * C : Nat) : Int) := by rw [hsz, Int.natCast_mul]
    omega
  refine ⟨R, C, fun x y => decide (s.data.toList[x * C + y]? = some 49), rfl, rfl, by omega, by omega, by omega, by omega, ?_⟩
  have hl : s.data.toList = rowsB (fun x y => decide (s.data.toList[x * C + y]? = some 49)) R C := by
    apply List.ext_getElem?
    intro k
    by_cases hk : k < R * C
    · rw [rowsB_get _ _ _ _ hk]
      have he : k / C * C + k % C = k := by rw [Nat.mul_comm]; exact Nat.div_add_mod k C
      have hk2 : k < s.data.toList.length := by rw [Array.length_toList]; show k < s.size; omega
      simp only [he]
      rw [List.getElem?_eq_getElem hk2]
      have hb := List.all_eq_true.1 hok _ (List.getElem_mem hk2)
      unfold isBit at hb
      unfold dig
      by_cases h49 : s.data.toList[k] = 49
      · rw [h49]; simp
      · have h48 : s.data.toList[k] = 48 := by
          simp only [Bool.or_eq_true, beq_iff_eq] at hb
          exact hb.resolve_right h49
        rw [h48]; simp
    · rw [List.getElem?_eq_none (by rw [Array.length_toList]; show s.size ≤ k; omega), List.getElem?_eq_none (by rw [rowsB_length]; omega)]
  rw [← hl]
  apply ByteArray.ext
  simp [str]
end Go.Proofs.YtemmagkkigdhjaaGreatDoor.Entry

/-
  The same law in a round of a range over a function: a region that draws its order, whose operations call functions that make memory, lay a block, store into it: each operation is walked ONCE, at whatever time it comes up, under an invariant that names the value of each operation that has come up.
-/
namespace Go.Proofs.YtemmagkkigdhjaaGreatDoor.FreeIn
open Go Go.RowKit Go.Proofs.YtemmagkkigdhjaaGreatDoor.Free
set_option linter.unusedVariables false

section
variable {P : Program} {ops : Array Oper}

/-- what is known in the midst of the region; S: of the world, by what has come up -/
structure MidIn (ops : Array Oper) (a0 : Act) (Y : Nat → Value → Act → World → Prop) (S : (Nat → Bool) → World → Prop) (listed : Array Bool) (a : Act) (w : World) : Prop where
  defers : a.defers = a0.defers
  size : a.tmps.size = a0.tmps.size
  world : S (fun i => listed.getD i false) w
  old : ∀ k, (∀ (i : Nat) (o : Oper), ops[i]? = some o → o.dst ≠ some k) → a.tmps[k]? = a0.tmps[k]?
  closed : ∀ (i : Nat) (o : Oper), ops[i]? = some o → listed.getD i false = true → ∀ e ∈ o.after, Region.binds .any e = true → listed.getD e.on false = true
  new : ∀ (i : Nat) (o : Oper), ops[i]? = some o → listed.getD i false = true → ∃ v, Y i v a w ∧ ∀ d, o.dst = some d → a.tmps[d]? = some v

theorem wpAnyIn_mid {F : Fence} {m n : Nat} {a0 : Act} {Y : Nat → Value → Act → World → Prop} {S : (Nat → Bool) → World → Prop} {Q : Exit → Act → World → Prop} (hB : freeB ops n = true) (hn : a0.tmps.size = n)
    (hstep : ∀ (i : Nat) (o : Oper), ops[i]? = some o → ∀ (listed : Array Bool) (a : Act) (w : World), MidIn ops a0 Y S listed a w → listed.getD i false = false → (∀ e ∈ o.after, Region.binds .any e = true → listed.getD e.on false = true) →
      o.wpIn F m P a w (fun a' w' => ∃ v, a' = a.put o.dst v ∧ Y i v a' w' ∧ S (fun j => if j = i then true else listed.getD j false) w' ∧ ∀ j u, j ≠ i → listed.getD j false = true → Y j u a w → Y j u a' w') Q)
    (hend : ∀ a w, (∀ listed : Array Bool, (∀ i, listed.getD i false = decide (i < ops.size)) → MidIn ops a0 Y S listed a w) → Q .normal a w) :
    ∀ (fuel : Nat) (listed : Array Bool) (a : Act) (w : World), listed.size = ops.size → left listed ops.size ≤ fuel → MidIn ops a0 Y S listed a w → wpAnyIn F m P .any ops Q fuel listed a w := by
  simp only [freeB, Bool.and_eq_true, decide_eq_true_eq] at hB
  obtain ⟨⟨h1, h2⟩, h3⟩ := hB
  have hg : ∀ (i : Nat) (o : Oper), ops[i]? = some o → o.guard = none := fun i o ho => by
    have := List.all_eq_true.1 h1 o (by simpa using Array.mem_of_getElem? ho)
    simp only [Bool.and_eq_true] at this
    simpa using this.1
  have hd : ∀ (i : Nat) (o : Oper) (d : Tmp), ops[i]? = some o → o.dst = some d → d < n := fun i o d ho hdst => by
    have := List.all_eq_true.1 h1 o (by simpa using Array.mem_of_getElem? ho)
    simp only [Bool.and_eq_true, hdst] at this
    simpa using this.2
  have hac : ∀ (i : Nat) (o : Oper), ops[i]? = some o → ∀ e ∈ o.after, Region.binds .any e = true → e.on < i := fun i o ho e he hb => by
    have hi : i < ops.size := (Array.getElem?_eq_some_iff.1 ho).1
    have := List.all_eq_true.1 h3 i (List.mem_range.2 hi)
    rw [ho] at this
    have h4 : ∀ e ∈ o.after, (!Region.binds .any e || decide (e.on < i)) = true := by
      have h5 : (o.after.all fun e => !Region.binds .any e || decide (e.on < i)) = true := this
      exact fun e he => Array.all_eq_true_iff_forall_mem.1 h5 e he
    have := h4 e he
    simpa [hb] using this
  have hdd : ∀ (i j : Nat) (oi oj : Oper) (d : Tmp), ops[i]? = some oi → ops[j]? = some oj → oi.dst = some d → oj.dst = some d → i = j := fun i j oi oj d hi hj di dj => by
    have hi' : ops.toList[i]? = some oi := by simpa using hi
    have hj' : ops.toList[j]? = some oj := by simpa using hj
    clear hd hac hg h1 h3 hstep hend hi hj
    generalize ops.toList = l at *
    induction l generalizing i j with
    | nil => simp at hi'
    | cons o l ih =>
      cases i with
      | zero =>
        cases j with
        | zero => rfl
        | succ j =>
          exfalso
          simp only [List.getElem?_cons_zero, Option.some.injEq] at hi'
          subst hi'
          simp only [List.getElem?_cons_succ] at hj'
          rw [List.filterMap_cons_some di, List.nodup_cons] at h2
          exact h2.1 (List.mem_filterMap.2 ⟨oj, List.mem_of_getElem? hj', dj⟩)
      | succ i =>
        cases j with
        | zero =>
          exfalso
          simp only [List.getElem?_cons_zero, Option.some.injEq] at hj'
          subst hj'
          simp only [List.getElem?_cons_succ] at hi'
          rw [List.filterMap_cons_some dj, List.nodup_cons] at h2
          exact h2.1 (List.mem_filterMap.2 ⟨oi, List.mem_of_getElem? hi', di⟩)
        | succ j =>
          simp only [List.getElem?_cons_succ] at hi' hj'
          have : (l.filterMap (·.dst)).Nodup := by
            cases hod : o.dst with
            | none => rwa [List.filterMap_cons_none hod] at h2
            | some x => rw [List.filterMap_cons_some hod, List.nodup_cons] at h2; exact h2.2
          rw [ih i j this hi' hj']
  have hall : ∀ (listed : Array Bool), listed.size = ops.size → Region.ready .any ops listed = [] → ∀ m, ∀ i, i < m → i < ops.size → listed.getD i false = true := by
    intro listed hsz hr m
    induction m with
    | zero => intro i hi; omega
    | succ m ih =>
      intro i hi hio
      by_cases e : i = m
      · subst e
        by_cases hl : listed.getD i false = true
        · exact hl
        · exfalso
          have hl2 : listed.getD i true = false := by
            have hlt : i < listed.size := by omega
            simp [hlt] at hl ⊢
            exact hl
          have : i ∈ Region.ready .any ops listed := by
            refine mem_ready.2 ⟨hl2, ops[i], by simp [hio], fun e he hb => ?_⟩
            have := hac i ops[i] (by simp [hio]) e he hb
            exact ih e.on this (by omega)
          rw [hr] at this
          cases this
      · exact ih i (by omega) hio
  intro fuel
  induction fuel with
  | zero =>
    intro listed a w hsz hc hM
    have hz := left_zero listed ops.size (by omega)
    have wEnd : ∀ l' : Array Bool, (∀ i, l'.getD i false = decide (i < ops.size)) → S (fun i => l'.getD i false) w := fun l' hl' => by
      have e : (fun i => l'.getD i false) = fun i => listed.getD i false := funext fun i => by
        rw [hl']
        by_cases hi : i < ops.size
        · rw [hz i hi]; exact decide_eq_true hi
        · rw [decide_eq_false hi]; simp [Array.getD_eq_getD_getElem?, Array.getElem?_eq_none (show listed.size ≤ i by omega)]
      rw [e]; exact hM.world
    refine ⟨?_, hend a w fun l' hl' => ⟨hM.defers, hM.size, wEnd l' hl', hM.old, fun i o ho _ e he hb => by rw [hl']; exact decide_eq_true (Nat.lt_trans (hac i o ho e he hb) (Array.getElem?_eq_some_iff.1 ho).1), fun i o ho _ => hM.new i o ho (hz i (Array.getElem?_eq_some_iff.1 ho).1)⟩⟩
    cases hr : Region.ready .any ops listed with
    | nil => rfl
    | cons i l =>
      exfalso
      have hi : i ∈ Region.ready .any ops listed := by rw [hr]; exact List.mem_cons_self
      obtain ⟨hu, o, ho, _⟩ := mem_ready.1 hi
      have hio : i < ops.size := (Array.getElem?_eq_some_iff.1 ho).1
      have := hz i hio
      have hlt : i < listed.size := by omega
      simp [hlt] at hu this
      rw [hu] at this
      cases this
  | succ fuel ih =>
    intro listed a w hsz hc hM
    refine ⟨fun hr => hend a w fun l' hl' => ⟨hM.defers, hM.size, (by
      have e : (fun i => l'.getD i false) = fun i => listed.getD i false := funext fun i => by
        rw [hl']
        by_cases hi : i < ops.size
        · rw [hall listed hsz hr ops.size i hi hi]; exact decide_eq_true hi
        · rw [decide_eq_false hi]; simp [Array.getD_eq_getD_getElem?, Array.getElem?_eq_none (show listed.size ≤ i by omega)]
      rw [e]; exact hM.world), hM.old, fun i o ho _ e he hb => by rw [hl']; exact decide_eq_true (Nat.lt_trans (hac i o ho e he hb) (Array.getElem?_eq_some_iff.1 ho).1), fun i o ho _ => hM.new i o ho (hall listed hsz hr ops.size i (Array.getElem?_eq_some_iff.1 ho).1 (Array.getElem?_eq_some_iff.1 ho).1)⟩, fun i hi => ?_⟩
    obtain ⟨hu, o, ho, hdep⟩ := mem_ready.1 hi
    have hio : i < ops.size := (Array.getElem?_eq_some_iff.1 ho).1
    have hu2 : listed.getD i false = false := by
      have hlt : i < listed.size := by omega
      simp [hlt] at hu ⊢
      exact hu
    unfold wpOpIn
    simp only [ho]
    have hw : Region.wanted o (yielded ops a.tmps) = true := by simp [Region.wanted, hg i o ho]
    rw [if_pos hw]
    refine Oper.wpIn_mono ?_ (hstep i o ho listed a w hM hu2 hdep)
    rintro a' w' ⟨v, rfl, hY, hS, hst⟩
    refine ih _ _ _ (by simpa using hsz) (by have := left_set listed i (by omega) hu2 ops.size hio; omega) ⟨?_, ?_, ?_, ?_, ?_, ?_⟩
    · rw [← hM.defers]
      cases o.dst <;> rfl
    · rw [← hM.size]
      cases o.dst <;> simp [Act.put]
    · have e : (fun j => (listed.setIfInBounds i true).getD j false) = fun j => if j = i then true else listed.getD j false := funext fun j => by
        by_cases hj : j = i
        · subst hj
          have hlt : j < listed.size := by omega
          simp [Array.getD_eq_getD_getElem?, hlt]
        · simp [Array.getD_eq_getD_getElem?, Array.getElem?_setIfInBounds_ne (Ne.symm hj), hj]
      rw [e]; exact hS
    · intro k hk
      rw [← hM.old k hk]
      cases hod : o.dst with
      | none => rfl
      | some d =>
        have : d ≠ k := fun e => hk i o ho (by rw [hod, e])
        simp [Act.put, Array.getElem?_setIfInBounds_ne this]
    · intro j oj hoj hl e he hb
      have hl' : listed.getD e.on false = true := by
        by_cases e2 : j = i
        · subst e2
          obtain rfl : o = oj := Option.some.inj (ho.symm.trans hoj)
          exact hdep e he hb
        · have hl2 : listed.getD j false = true := by
            rw [← hl]
            simp [Array.getD_eq_getD_getElem?, Array.getElem?_setIfInBounds_ne (Ne.symm e2)]
          exact hM.closed j oj hoj hl2 e he hb
      exact getD_set_true hl'
    · intro j oj hoj hl
      by_cases e : j = i
      · subst e
        obtain rfl : o = oj := Option.some.inj (ho.symm.trans hoj)
        refine ⟨v, hY, fun d hdd' => ?_⟩
        have hdn := hd j o d ho hdd'
        rw [← hn, ← hM.size] at hdn
        simp [hdd', Act.put, hdn]
      · have hl2 : listed.getD j false = true := by
          rw [← hl]
          simp [Array.getD_eq_getD_getElem?, Array.getElem?_setIfInBounds_ne (Ne.symm e)]
        obtain ⟨u, hu', hd'⟩ := hM.new j oj hoj hl2
        refine ⟨u, hst j u e hl2 hu', fun d hdj => ?_⟩
        rw [← hd' d hdj]
        cases hod : o.dst with
        | none => rfl
        | some d2 =>
          have : d2 ≠ d := fun e2 => e (hdd j i oj o d hoj ho hdj (by rw [hod, e2]))
          simp [Act.put, Array.getElem?_setIfInBounds_ne this]

/-- THE LAW -/
theorem wpIn_region_free {F : Fence} {m id n : Nat} {a0 : Act} {w0 : World} {Y : Nat → Value → Act → World → Prop} {S : (Nat → Bool) → World → Prop} {Q : Exit → Act → World → Prop} (hm : P.follows .mixedOrders = true) (hB : freeB ops n = true) (hn : a0.tmps.size = n)
    (hS : S (fun _ => false) { w0 with drawn := w0.drawn + 1 })
    (hstep : ∀ (i : Nat) (o : Oper), ops[i]? = some o → ∀ (listed : Array Bool) (a : Act) (w : World), MidIn ops a0 Y S listed a w → listed.getD i false = false → (∀ e ∈ o.after, Region.binds .any e = true → listed.getD e.on false = true) →
      o.wpIn F m P a w (fun a' w' => ∃ v, a' = a.put o.dst v ∧ Y i v a' w' ∧ S (fun j => if j = i then true else listed.getD j false) w' ∧ ∀ j u, j ≠ i → listed.getD j false = true → Y j u a w → Y j u a' w') Q)
    (hend : ∀ (vs : Nat → Value) (w : World), S (fun i => decide (i < ops.size)) w → (∀ (i : Nat) (o : Oper), ops[i]? = some o → Y i (vs i) (fill ops.toList vs 0 a0) w) → Q .normal (fill ops.toList vs 0 a0) w) : (Code.region id ops true).wpIn F m P Q a0 w0 := by
  refine wpIn_region_any hm ?_
  have hB2 := hB
  simp only [freeB, Bool.and_eq_true, decide_eq_true_eq] at hB2
  obtain ⟨⟨h1, h2⟩, _⟩ := hB2
  refine wpAnyIn_mid hB hn hstep (fun a w hM => ?_) _ _ _ _ (by simp) ?_ ⟨rfl, rfl, (by
    have e : (fun i => (Array.replicate ops.size false).getD i false) = fun _ => false := funext fun i => by
      by_cases hi : i < ops.size <;> simp [Array.getD_eq_getD_getElem?, hi]
    rw [e]; exact hS), fun _ _ => rfl, fun i o _ hl => ?_, fun i o _ hl => ?_⟩
  · have M := hM (Array.replicate ops.size true) (fun i => by by_cases hi : i < ops.size <;> simp [Array.getD_eq_getD_getElem?, hi])
    have hl : ∀ (i : Nat) (o : Oper), ops[i]? = some o → (Array.replicate ops.size true).getD i false = true := fun i o ho => by
      have hi : i < ops.size := (Array.getElem?_eq_some_iff.1 ho).1
      simp [Array.getD_eq_getD_getElem?, hi]
    classical
    obtain ⟨vs, hvs⟩ : ∃ vs : Nat → Value, ∀ (i : Nat) (o : Oper), ops[i]? = some o → Y i (vs i) a w ∧ ∀ d, o.dst = some d → a.tmps[d]? = some (vs i) := by
      refine ⟨fun i => if h : ∃ v : Value, ∀ o : Oper, ops[i]? = some o → Y i v a w ∧ ∀ d, o.dst = some d → a.tmps[d]? = some v then h.choose else undef, fun i o ho => ?_⟩
      have hex : ∃ v : Value, ∀ o : Oper, ops[i]? = some o → Y i v a w ∧ ∀ d, o.dst = some d → a.tmps[d]? = some v := by
        obtain ⟨v, hv⟩ := M.new i o ho (hl i o ho)
        exact ⟨v, fun o' ho' => by obtain rfl : o = o' := Option.some.inj (ho.symm.trans ho'); exact hv⟩
      dsimp only
      rw [dif_pos hex]
      exact hex.choose_spec o ho
    have ha : a = fill ops.toList vs 0 a0 := by
      have ht : a.tmps = (fill ops.toList vs 0 a0).tmps := by
        apply Array.ext_getElem?
        intro k
        by_cases hk : ∃ (i : Nat) (o : Oper), ops[i]? = some o ∧ o.dst = some k
        · obtain ⟨i, o, ho, hd⟩ := hk
          have hkn : k < a0.tmps.size := by
            have := List.all_eq_true.1 h1 o (by simpa using Array.mem_of_getElem? ho)
            simp only [Bool.and_eq_true, hd] at this
            rw [hn]
            simpa using this.2
          rw [fill_at k ops.toList vs 0 a0 i o (by simpa using ho) hd h2 hkn, (hvs i o ho).2 k hd, Nat.zero_add]
        · have hk2 : ∀ (i : Nat) (o : Oper), ops[i]? = some o → o.dst ≠ some k := fun i o ho e => hk ⟨i, o, ho, e⟩
          rw [M.old k hk2, fill_not k ops.toList vs 0 a0]
          intro o ho e
          obtain ⟨i, hi, rfl⟩ := List.getElem_of_mem ho
          exact hk2 i _ (by simp at hi; simp [hi]) e
      have hdf := M.defers
      rw [← fill_defers ops.toList vs 0 a0] at hdf
      cases a
      cases hfl : fill ops.toList vs 0 a0
      rw [hfl] at ht hdf
      simp only at ht hdf
      rw [ht, hdf]
    rw [ha]
    refine hend vs w (by
      have e : (fun i => (Array.replicate ops.size true).getD i false) = fun i => decide (i < ops.size) := funext fun i => by
        by_cases hi : i < ops.size <;> simp [Array.getD_eq_getD_getElem?, hi]
      have M2 := M.world
      rw [e] at M2; exact M2) fun i o ho => ?_
    rw [← ha]
    exact (hvs i o ho).1
  · clear hstep hend
    have : ∀ n, left (Array.replicate ops.size false) n ≤ n := fun n => by
      induction n with
      | zero => simp [left]
      | succ n ih => rw [left]; split <;> omega
    exact this _
  all_goals
    exfalso
    simp [Array.getD_eq_getD_getElem?, Array.getElem?_replicate] at hl
    split at hl <;> simp at hl
/-! ### one operation at a time -/
theorem wpIn_value {F : Fence} {m : Nat} {o : Oper} {a : Act} {w : World} {K : Act → World → Prop} {Q : Exit → Act → World → Prop} (v : Value) (ha : o.about P w a.eval = none) (h : (o.semAt F.round a.eval).run P w = .ok (.value v) w) (hK : K (a.put o.dst v) w) : o.wpIn F m P a w K Q := by
  unfold Oper.wpIn
  refine ⟨fun f hf => (by rw [ha] at hf; cases hf), ?_⟩
  rw [h]
  exact hK
theorem wpIn_store {F : Fence} {m : Nat} {o : Oper} {a : Act} {w w' : World} {K : Act → World → Prop} {Q : Exit → Act → World → Prop} (ha : o.about P w a.eval = none) (h : (o.semAt F.round a.eval).run P w = .ok .skip w') (hK : K (a.put o.dst undef) w') : o.wpIn F m P a w K Q := by
  unfold Oper.wpIn
  refine ⟨fun f hf => (by rw [ha] at hf; cases hf), ?_⟩
  rw [h]
  exact hK
/-- what an operation may know of the slots -/
def FactsIn (ops : Array Oper) (a0 : Act) (con : Nat → Value) (o : Oper) (a : Act) : Prop :=
  (∀ e ∈ o.after, Region.binds .any e = true → ∀ (oj : Oper) (dj : Tmp), ops[e.on]? = some oj → oj.dst = some dj → a.tmps[dj]?.getD undef = con e.on) ∧
  (∀ k, (ops.toList.all fun o => o.dst != some k) = true → a.tmps[k]?.getD undef = a0.tmps[k]?.getD undef)

/-- what has come up has come behind all that it waits for, and so on -/
theorem sink_listed {last : Nat} {listed : Array Bool} (hw : Region.sinkB .any ops last = true)
    (hc : ∀ (i : Nat) (o : Oper), ops[i]? = some o → listed.getD i false = true → ∀ e ∈ o.after, Region.binds .any e = true → listed.getD e.on false = true)
    (hl : listed.getD last false = true) : ∀ (d i : Nat), last - i ≤ d → i ≤ last → listed.getD i false = true
  | 0, i, h1, h2 => by
    obtain rfl : i = last := by omega
    exact hl
  | d + 1, i, h1, h2 => by
    by_cases e : i = last
    · subst e; exact hl
    · have h3 := List.all_eq_true.1 hw i (List.mem_range.2 (by omega))
      obtain ⟨j, hj, h4⟩ := List.any_eq_true.1 h3
      simp only [Bool.and_eq_true, decide_eq_true_eq] at h4
      have hjl : j < last + 1 := List.mem_range.1 hj
      obtain ⟨oj, hoj, e2, he2, hb2, hon⟩ := Region.waitsFor_spec h4.2
      have := hc j oj hoj (sink_listed hw hc hl d j (by omega) (by omega)) e2 he2 hb2
      rwa [hon] at this

/-- THE LAW AT READS AND ONE STORE THAT COMES LAST -/
theorem wpIn_region_last {F : Fence} {m id n : Nat} {a0 : Act} {w0 : World} {Q : Exit → Act → World → Prop} (con : Nat → Value) (last : Nat) (W2 : World) (os : Oper)
    (hm : P.follows .mixedOrders = true) (hB : freeB ops n = true) (hn : a0.tmps.size = n) (hs : ops[last]? = some os) (hsd : os.dst = none) (hsz : ops.size = last + 1)
    (hw : Region.sinkB .any ops last = true)
    (hcon : ∀ (i : Nat) (o : Oper), ops[i]? = some o → i < last → ∀ (a : Act), FactsIn ops a0 con o a →
      o.wpIn F m P a { w0 with drawn := w0.drawn + 1 } (fun a' w' => a' = a.put o.dst (con i) ∧ w' = { w0 with drawn := w0.drawn + 1 }) Q)
    (hst : ∀ (a : Act), FactsIn ops a0 con os a → os.wpIn F m P a { w0 with drawn := w0.drawn + 1 } (fun a' w' => a' = a ∧ w' = W2) Q)
    (hend : Q .normal (fill ops.toList con 0 a0) W2) : (Code.region id ops true).wpIn F m P Q a0 w0 := by
  let Y : Nat → Value → Act → World → Prop := fun i v a w => i < last → v = con i
  have facts : ∀ (listed : Array Bool) (o : Oper) (i : Nat) (a : Act) (w : World), ops[i]? = some o → MidIn ops a0 Y (fun f w => w = cond (f last) W2 { w0 with drawn := w0.drawn + 1 }) listed a w →
      (∀ e ∈ o.after, Region.binds .any e = true → listed.getD e.on false = true) → (∀ e ∈ o.after, Region.binds .any e = true → e.on < last) → FactsIn ops a0 con o a := by
    intro listed o i a w ho hM hdl hlt
    refine ⟨fun e he hb oj dj hoj hdj => ?_, fun k hk => ?_⟩
    · obtain ⟨v, hv, hvd⟩ := hM.new e.on oj hoj (hdl e he hb)
      rw [hvd dj hdj, ← hv (hlt e he hb)]
      rfl
    · rw [hM.old k fun i o' ho' hd' => ?_]
      have := List.all_eq_true.1 hk o' (by simpa using Array.mem_of_getElem? ho')
      simp [hd'] at this
  have hB2 := hB
  simp only [freeB, Bool.and_eq_true, decide_eq_true_eq] at hB2
  obtain ⟨⟨_, _⟩, h3⟩ := hB2
  have hac : ∀ (i : Nat) (o : Oper), ops[i]? = some o → ∀ e ∈ o.after, Region.binds .any e = true → e.on < i := fun i o ho e he hb => by
    have hi : i < ops.size := (Array.getElem?_eq_some_iff.1 ho).1
    have := List.all_eq_true.1 h3 i (List.mem_range.2 hi)
    rw [ho] at this
    have h5 : (o.after.all fun e => !Region.binds .any e || decide (e.on < i)) = true := this
    have := Array.all_eq_true_iff_forall_mem.1 h5 e he
    simpa [hb] using this
  refine wpIn_region_free (Y := Y) (S := fun f w => w = cond (f last) W2 { w0 with drawn := w0.drawn + 1 }) hm hB hn rfl ?_ ?_
  · intro i o ho listed a w hM hu hdl
    have hi : i < ops.size := (Array.getElem?_eq_some_iff.1 ho).1
    by_cases hil : i = last
    · subst hil
      obtain rfl : o = os := Option.some.inj (ho.symm.trans hs)
      have hw1 := hM.world
      simp only [hu, cond_false] at hw1
      subst hw1
      refine Oper.wpIn_mono ?_ (hst a (facts listed o i a _ ho hM hdl (hac i o ho)))
      rintro a' w' ⟨rfl, rfl⟩
      exact ⟨undef, by rw [hsd]; rfl, fun h => absurd h (by omega), by simp, fun j u hj _ hY => hY⟩
    · have hlt : i < last := by omega
      have hnl : listed.getD last false = false := by
        cases hl : listed.getD last false with
        | false => rfl
        | true =>
          exfalso
          have := sink_listed hw hM.closed hl (last - i) i (Nat.le_refl _) (by omega)
          rw [hu] at this
          cases this
      have hw1 := hM.world
      simp only [hnl, cond_false] at hw1
      subst hw1
      refine Oper.wpIn_mono ?_ (hcon i o ho hlt a (facts listed o i a _ ho hM hdl (fun e he hb => Nat.lt_trans (hac i o ho e he hb) hlt)))
      rintro a' w' ⟨rfl, rfl⟩
      refine ⟨con i, rfl, fun _ => rfl, ?_, fun j u hj _ hY => hY⟩
      dsimp only
      rw [if_neg (Ne.symm hil), hnl]
      rfl
  · intro vs w hw1 hall
    have : (decide (last < ops.size)) = true := decide_eq_true (by omega)
    dsimp only at hw1
    rw [this] at hw1
    replace hw1 : w = W2 := hw1
    subst hw1
    have hc : fill ops.toList vs 0 a0 = fill ops.toList con 0 a0 := by
      have hl : ops.toList = ops.toList.take last ++ [os] := by
        have h1 : ops.toList[last]? = some os := by simpa using hs
        have h2 : ops.toList.length = last + 1 := by simpa using hsz
        apply List.ext_getElem?
        intro k
        by_cases hk : k < last
        · rw [List.getElem?_append_left (by simp; omega), List.getElem?_take, if_pos hk]
        · by_cases hk2 : k = last
          · subst hk2
            rw [h1, List.getElem?_append_right (by simp; omega)]
            simp [show min k (k + 1) = k by omega, hsz]
          · rw [List.getElem?_eq_none (by omega), List.getElem?_eq_none (by simp; omega)]
      have hf : ∀ (l : List Oper) (us : Nat → Value) (b : Nat) (a : Act), fill (l ++ [os]) us b a = fill l us b a := by
        intro l
        induction l with
        | nil => intro us b a; simp [fill, hsd, Act.put]
        | cons o l ih => intro us b a; rw [List.cons_append, fill, fill, ih]
      rw [hl, hf, hf]
      refine fill_congr _ _ _ 0 a0 fun i hi => ?_
      simp only [Nat.zero_add]
      have hil : i < last := by simp at hi; omega
      have hio : i < ops.size := by omega
      exact hall i ops[i] (by simp [hio]) hil
    rw [hc]
    exact hend
end
end Go.Proofs.YtemmagkkigdhjaaGreatDoor.FreeIn

/-
  The drawing functions l2Value and l1Count.
-/
namespace Go.Proofs.YtemmagkkigdhjaaGreatDoor.Vals
open Go.RowKit Go.Proofs.YtemmagkkigdhjaaGreatDoor.Plain Go.Proofs.YtemmagkkigdhjaaGreatDoor.Rd Go.Proofs.YtemmagkkigdhjaaGreatDoor.Rd2
set_option linter.unusedVariables false

set_option maxHeartbeats 1000000 in
theorem value_any {lo : Nat} (g p : Nat) (hp : p < 1000000) (w : World) (h : Rdr lo w g p) :
    Calls Tryz.prog 18 #[.pointer (some ⟨g, 0, none⟩)] w fun e w' => ∃ x : Int, e = .returned (.int .i64 x) ∧ -1 ≤ x ∧ x ≤ 2 ∧ Rdr lo w' g (p + 1) ∧ Apt g w w' := by
  have hgl := h.lt
  have hb := (Below.refl w.heap.size w).alloc (Nat.le_refl _) (.cells ([1, 0, 1, 0, 1, 0, 1, 0, 1, 0, 2, -1].map fun x : Int => Value.int .i64 x).toArray 3)
  have HN := Lib.hid (num_any g p (by omega) [1, 0, 1, 0, 1, 0, 1, 0, 1, 0, 2, -1] (by decide) (by decide) w.heap.size 12 (by omega) _ (h.later hb) (by simp) (fun j hj => cells_lit w 3 [1, 0, 1, 0, 1, 0, 1, 0, 1, 0, 2, -1] j hj))
  have HB := Lib.hid hb
  clear h hb
  go_enter Tryz.func18, Tryz.ntmps18
  go_wp2_with fail
  refine HN.out.mono ?_
  rintro e w2 ⟨x, rfl, hm, hr, ha⟩
  have HR := Lib.hid hr
  have HA := Lib.hid ((Apt.of_below HB.out).trans ha)
  have hx : -1 ≤ x ∧ x ≤ 2 := by
    simp at hm
    omega
  clear hr ha hm HN HB
  go_wp2_with fail
  go_ret
  exact ⟨x, rfl, hx.1, hx.2, HR.out, HA.out⟩

end Go.Proofs.YtemmagkkigdhjaaGreatDoor.Vals

