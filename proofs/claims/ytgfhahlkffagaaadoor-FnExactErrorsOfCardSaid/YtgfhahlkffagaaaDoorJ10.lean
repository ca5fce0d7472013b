/-
  Texts of one seat, joined: Each, FreeIn, Patch.
-/
import Derived.RangeFuncNested
import Derived.RangeFuncBound
import Derived.RangeFuncCalls
import Derived.RangeFuncLeaves
import Derived.Shelf.Abstract
import Derived.Shelf.RegionOpen
import Derived.WalkKit
import Derived.OwnWalkIn
import Derived.TacticsInMore
import Derived.LoopNIn
import Derived.LoopIn
import Derived.Test.YtgfhahlkffagaaaDoorJ3
import Derived.Deep.RegionHeld
import Derived.Test.YtgfhahlkffagaaaDoorJ6
import Derived.OrdersIn
import Derived.Still
import Derived.StillTail
import Derived.Laws.Rows
import Derived.Laws.Tables
/-
  The program's iterator over the members of a set: eachMember. Its contract: whatever loop's body.
-/
namespace Go.Proofs.YtgfhahlkffagaaaDoor.Each
open Go.RowKit Go.Shelf Go.Proofs.YtgfhahlkffagaaaDoor.Plain Go.Proofs.YtgfhahlkffagaaaDoor.Pat Go.Proofs.YtgfhahlkffagaaaDoor.Rect
set_option linter.unusedVariables false
attribute [local go_sem] Oper.semAt_some

/-- the members below k, in ascending order -/
def upto (S : Nat) : Nat → List (Fin 8)
  | 0 => []
  | k + 1 => upto S k ++ (if h : k < 8 then (if S.testBit k = true then [⟨k, h⟩] else []) else [])
theorem upto_yes (S k : Nat) (h : k < 8) (hb : S.testBit k = true) : upto S (k + 1) = upto S k ++ [⟨k, h⟩] := by
  rw [upto, dif_pos h, if_pos hb]
theorem upto_no (S k : Nat) (hb : S.testBit k = false) : upto S (k + 1) = upto S k := by
  rw [upto]
  split
  · rw [if_neg (by rw [hb]; decide), List.append_nil]
  · rw [List.append_nil]
theorem upto_len (S : Nat) : ∀ k, (upto S k).length ≤ k
  | 0 => Nat.le_refl _
  | k + 1 => by
    have := upto_len S k
    rw [upto, List.length_append]
    split
    · split <;> simp <;> omega
    · simp; omega

/-- the box of the set lies as it lay -/
def KeepC (Bn : Nat) (A B : World) : Prop := ∀ v, A.cell? ⟨Bn, 0, none⟩ = some v → B.cell? ⟨Bn, 0, none⟩ = some v
theorem keepC_t {Bn : Nat} {A B C : World} (h : KeepC Bn A B) (k : KeepC Bn B C) : KeepC Bn A C := fun v hv => k v (h v hv)
theorem keepC_b {Bn n : Nat} (W : World) (l : Nat) (o o' : Obj) (_ : n ≤ l) (h : W.heap[l]? = some o) (hc : o.isCells = false) (_ : o.isWalk = false) : KeepC Bn W (W.putObj l o') := fun v hv =>
  cell_kept hv (grownBy_putObj' W l o') (fun r e => by cases e; exact ⟨o, h, hc⟩)
theorem KeepC.of_below {Bn n : Nat} {A B : World} (hlt : Bn < n) (h : Below n A B) : KeepC Bn A B := fun v hv => (h.cell (p := ⟨Bn, 0, none⟩) hlt).trans hv
theorem KeepC.set {Bn : Nat} {A B : World} (h : KeepC Bn A B) (p : Addr) (v : Value) (hp : p.block ≠ Bn) : KeepC Bn A (B.setCell p v) := fun u hu => (World.cell?_setCell_far B p ⟨Bn, 0, none⟩ v hp).trans (h u hu)
theorem KeepC.refl (Bn : Nat) (A : World) : KeepC Bn A A := fun _ h => h

/-- a member as yield's argument -/
abbrev encF (x : Fin 8) : Array Value := #[.int .i64 (x.val : Int)]

set_option maxHeartbeats 1000000 in
theorem each_any (S : Int) (w : World) :
    Calls Tryd.prog 96 #[.int .i64 S] w fun e w' => e = .returned (.func (.func 123) #[] #[.pointer (some ⟨w.heap.size, 0, none⟩)]) ∧ w' = w.alloc (.cells #[.int .i64 S] 3) := by
  go_enter Tryd.func96, Tryd.ntmps96
  go_wp2_with fail
  go_ret
  exact ⟨rfl, rfl⟩

set_option maxRecDepth 100000 in
set_option maxHeartbeats 1000000 in
theorem mem_in (n : Nat) (hn : 1 ≤ n) (l Bn S : Nat) (hS : S < 256) (J Jx : List (Fin 8) → World → Prop)
    (hY : ∀ pre x W, J pre W → pre.length < 8 → YieldAt Fence.wide (n - 1) Tryd.prog l (encF x) W fun e W' =>
      (e = .returned (.bool true) ∧ J (pre ++ [x]) W' ∧ KeepC Bn W W') ∨ (e = .returned (.bool false) ∧ Jx (pre ++ [x]) W'))
    (W : World) (hBn : W.cell? ⟨Bn, 0, none⟩ = some (.int .i64 (S : Int))) (h0 : J [] W) :
    CallsIn Fence.wide n Tryd.prog 123 #[.func (.yield l) #[] #[], .pointer (some ⟨Bn, 0, none⟩)] W fun e W' => (∃ v, e = .returned v) ∧
      ((∃ ys, ys = upto S 8 ∧ J ys W') ∨ (∃ pre, True ∧ Jx pre W')) := by
  refine callsIn_of_wp Tryd.func123 rfl trivial ?_ rfl
  simp only [Tryd.ntmps123, List.size_toArray, List.length_cons, List.length_nil, Nat.reduceAdd, Nat.reduceSub, Array.replicate_succ, Array.replicate_zero, List.push_toArray, List.append_toArray, List.nil_append, List.cons_append]
  gi_wp2
  gi_loopw [4] (fun p wr => ∃ k : Nat, k ≤ 8 ∧ p = .int .i64 (k : Int) ∧ wr.cell? ⟨Bn, 0, none⟩ = some (.int .i64 (S : Int)) ∧ J (upto S k) wr) (fun p _ => 8 - (intOf p).toNat)
  case atStart => exact ⟨0, Nat.zero_le _, rfl, hBn, h0⟩
  case round =>
    obtain ⟨k, hk, rfl, hc, hJs⟩ := hrel
    by_cases hk8 : k < 8
    · obtain ⟨b, hb⟩ : ∃ b, S.testBit k = b := ⟨_, rfl⟩
      have HB := Lib.hid hb
      have HI := Lib.hid (inSet_yes S k hS hk8)
      cases b
      · rw [← upto_no S k hb] at hJs
        clear hb
        gi_wp2_with (refine ⟨trivial, ?_⟩; gi_at_call 124; refine (callsIn_wide.2 (HI.out _)).mono ?_; rintro e w' ⟨rfl, rfl⟩; rw [HB.out])
        refine ⟨fun _ h => (by cases h), ?_⟩
        gi_wp2
        go_roundw
        case rel => exact ⟨k + 1, by omega, by go_num, hc, hJs⟩
        case measure => simp [intOf]; omega
      · obtain ⟨fn, tmps, assign, body, hy, hR⟩ := hY (upto S k) ⟨k, hk8⟩ wr hJs (by have := upto_len S k; omega)
        have HU := Lib.hid (upto_yes S k hk8 hb)
        clear hb
        gi_wp2_with (refine ⟨trivial, ?_⟩; gi_at_call 124; refine (callsIn_wide.2 (HI.out _)).mono ?_; rintro e w' ⟨rfl, rfl⟩; rw [HB.out])
        refine hR.mono ?_
        rintro e W3 (⟨rfl, hJ3, hk3⟩ | ⟨rfl, hJx3⟩)
        · have hc3 : W3.cell? ⟨Bn, 0, none⟩ = some (.int .i64 (S : Int)) := hk3 _ hc
          gi_wp2
          go_roundw
          case rel => exact ⟨k + 1, by omega, by go_num, hc3, by rw [HU.out]; exact hJ3⟩
          case measure => simp [intOf]; omega
        · gi_wp2
          refine bodyPost_ret (results_none rfl _ _ _) rfl ?_
          exact ⟨⟨_, rfl⟩, .inr ⟨_, trivial, hJx3⟩⟩
    · obtain rfl : k = 8 := by omega
      gi_wp2
      go_end0
      exact ⟨⟨_, rfl⟩, .inl ⟨_, rfl, hJs⟩⟩

theorem mem_stops (n : Nat) (hn : 1 ≤ n) (Bn S : Nat) (hS : S < 256) (w : World) (hlt : Bn < w.heap.size) (hc : w.cell? ⟨Bn, 0, none⟩ = some (.int .i64 (S : Int))) :
    SeqStopsK Fence.wide n Tryd.prog 123 #[.pointer (some ⟨Bn, 0, none⟩)] encF (KeepC Bn) (fun ys => ys = upto S 8) (fun _ => True) 8 w := fun l J Jx W hW _ _ hY h0 =>
  mem_in n hn l Bn S hS J Jx hY W ((hW.cell (p := ⟨Bn, 0, none⟩) hlt).trans hc) h0
end Go.Proofs.YtgfhahlkffagaaaDoor.Each

/-
  The same law in a round of a range over a function: a region that draws its order, whose operations call functions that make memory, lay a block, store into it: each operation is walked ONCE, at whatever time it comes up, under an invariant that names the value of each operation that has come up.
-/
namespace Go.Proofs.YtgfhahlkffagaaaDoor.FreeIn
open Go Go.RowKit Go.Proofs.YtgfhahlkffagaaaDoor.Free
set_option linter.unusedVariables false

section
variable {P : Program} {ops : Array Oper}

/-- what is known in the midst of the region; S: of the world, by what has come up -/
structure MidIn (ops : Array Oper) (a0 : Act) (Y : Nat → Value → Act → World → Prop) (S : (Nat → Bool) → World → Prop) (listed : Array Bool) (a : Act) (w : World) : Prop where
  defers : a.defers = a0.defers
  size : a.tmps.size = a0.tmps.size
  world : S (fun i => listed.getD i false) w
  old : ∀ k, (∀ (i : Nat) (o : Oper), ops[i]? = some o → o.dst ≠ some k) → a.tmps[k]? = a0.tmps[k]?
  closed : ∀ (i : Nat) (o : Oper), ops[i]? = some o → listed.getD i false = true → ∀ e ∈ o.after, Region.binds .any e = true → listed.getD e.on false = true
  new : ∀ (i : Nat) (o : Oper), ops[i]? = some o → listed.getD i false = true → ∃ v, Y i v a w ∧ ∀ d, o.dst = some d → a.tmps[d]? = some v

theorem wpAnyIn_mid {F : Fence} {m n : Nat} {a0 : Act} {Y : Nat → Value → Act → World → Prop} {S : (Nat → Bool) → World → Prop} {Q : Exit → Act → World → Prop} (hB : freeB ops n = true) (hn : a0.tmps.size = n)
    (hstep : ∀ (i : Nat) (o : Oper), ops[i]? = some o → ∀ (listed : Array Bool) (a : Act) (w : World), MidIn ops a0 Y S listed a w → listed.getD i false = false → (∀ e ∈ o.after, Region.binds .any e = true → listed.getD e.on false = true) →
      o.wpIn F m P a w (fun a' w' => ∃ v, a' = a.put o.dst v ∧ Y i v a' w' ∧ S (fun j => if j = i then true else listed.getD j false) w' ∧ ∀ j u, j ≠ i → listed.getD j false = true → Y j u a w → Y j u a' w') Q)
    (hend : ∀ a w, (∀ listed : Array Bool, (∀ i, listed.getD i false = decide (i < ops.size)) → MidIn ops a0 Y S listed a w) → Q .normal a w) :
    ∀ (fuel : Nat) (listed : Array Bool) (a : Act) (w : World), listed.size = ops.size → left listed ops.size ≤ fuel → MidIn ops a0 Y S listed a w → wpAnyIn F m P .any ops Q fuel listed a w := by
  simp only [freeB, Bool.and_eq_true, decide_eq_true_eq] at hB
  obtain ⟨⟨h1, h2⟩, h3⟩ := hB
  have hg : ∀ (i : Nat) (o : Oper), ops[i]? = some o → o.guard = none := fun i o ho => by
    have := List.all_eq_true.1 h1 o (by simpa using Array.mem_of_getElem? ho)
    simp only [Bool.and_eq_true] at this
    simpa using this.1
  have hd : ∀ (i : Nat) (o : Oper) (d : Tmp), ops[i]? = some o → o.dst = some d → d < n := fun i o d ho hdst => by
    have := List.all_eq_true.1 h1 o (by simpa using Array.mem_of_getElem? ho)
    simp only [Bool.and_eq_true, hdst] at this
    simpa using this.2
  have hac : ∀ (i : Nat) (o : Oper), ops[i]? = some o → ∀ e ∈ o.after, Region.binds .any e = true → e.on < i := fun i o ho e he hb => by
    have hi : i < ops.size := (Array.getElem?_eq_some_iff.1 ho).1
    have := List.all_eq_true.1 h3 i (List.mem_range.2 hi)
    rw [ho] at this
    have h4 : ∀ e ∈ o.after, (!Region.binds .any e || decide (e.on < i)) = true := by
      have h5 : (o.after.all fun e => !Region.binds .any e || decide (e.on < i)) = true := this
      exact fun e he => Array.all_eq_true_iff_forall_mem.1 h5 e he
    have := h4 e he
    simpa [hb] using this
  have hdd : ∀ (i j : Nat) (oi oj : Oper) (d : Tmp), ops[i]? = some oi → ops[j]? = some oj → oi.dst = some d → oj.dst = some d → i = j := fun i j oi oj d hi hj di dj => by
    have hi' : ops.toList[i]? = some oi := by simpa using hi
    have hj' : ops.toList[j]? = some oj := by simpa using hj
    clear hd hac hg h1 h3 hstep hend hi hj
    generalize ops.toList = l at *
    induction l generalizing i j with
    | nil => simp at hi'
    | cons o l ih =>
      cases i with
      | zero =>
        cases j with
        | zero => rfl
        | succ j =>
          exfalso
          simp only [List.getElem?_cons_zero, Option.some.injEq] at hi'
          subst hi'
          simp only [List.getElem?_cons_succ] at hj'
          rw [List.filterMap_cons_some di, List.nodup_cons] at h2
          exact h2.1 (List.mem_filterMap.2 ⟨oj, List.mem_of_getElem? hj', dj⟩)
      | succ i =>
        cases j with
        | zero =>
          exfalso
          simp only [List.getElem?_cons_zero, Option.some.injEq] at hj'
          subst hj'
          simp only [List.getElem?_cons_succ] at hi'
          rw [List.filterMap_cons_some dj, List.nodup_cons] at h2
          exact h2.1 (List.mem_filterMap.2 ⟨oi, List.mem_of_getElem? hi', di⟩)
        | succ j =>
          simp only [List.getElem?_cons_succ] at hi' hj'
          have : (l.filterMap (·.dst)).Nodup := by
            cases hod : o.dst with
            | none => rwa [List.filterMap_cons_none hod] at h2
            | some x => rw [List.filterMap_cons_some hod, List.nodup_cons] at h2; exact h2.2
          rw [ih i j this hi' hj']
  have hall : ∀ (listed : Array Bool), listed.size = ops.size → Region.ready .any ops listed = [] → ∀ m, ∀ i, i < m → i < ops.size → listed.getD i false = true := by
    intro listed hsz hr m
    induction m with
    | zero => intro i hi; omega
    | succ m ih =>
      intro i hi hio
      by_cases e : i = m
      · subst e
        by_cases hl : listed.getD i false = true
        · exact hl
        · exfalso
          have hl2 : listed.getD i true = false := by
            have hlt : i < listed.size := by omega
            simp [hlt] at hl ⊢
            exact hl
          have : i ∈ Region.ready .any ops listed := by
            refine mem_ready.2 ⟨hl2, ops[i], by simp [hio], fun e he hb => ?_⟩
            have := hac i ops[i] (by simp [hio]) e he hb
            exact ih e.on this (by omega)
          rw [hr] at this
          cases this
      · exact ih i (by omega) hio
  intro fuel
  induction fuel with
  | zero =>
    intro listed a w hsz hc hM
    have hz := left_zero listed ops.size (by omega)
    have wEnd : ∀ l' : Array Bool, (∀ i, l'.getD i false = decide (i < ops.size)) → S (fun i => l'.getD i false) w := fun l' hl' => by
      have e : (fun i => l'.getD i false) = fun i => listed.getD i false := funext fun i => by
        rw [hl']
        by_cases hi : i < ops.size
        · rw [hz i hi]; exact decide_eq_true hi
        · rw [decide_eq_false hi]; simp [Array.getD_eq_getD_getElem?, Array.getElem?_eq_none (show listed.size ≤ i by omega)]
      rw [e]; exact hM.world
    refine ⟨?_, hend a w fun l' hl' => ⟨hM.defers, hM.size, wEnd l' hl', hM.old, fun i o ho _ e he hb => by rw [hl']; exact decide_eq_true (Nat.lt_trans (hac i o ho e he hb) (Array.getElem?_eq_some_iff.1 ho).1), fun i o ho _ => hM.new i o ho (hz i (Array.getElem?_eq_some_iff.1 ho).1)⟩⟩
    cases hr : Region.ready .any ops listed with
    | nil => rfl
    | cons i l =>
      exfalso
      have hi : i ∈ Region.ready .any ops listed := by rw [hr]; exact List.mem_cons_self
      obtain ⟨hu, o, ho, _⟩ := mem_ready.1 hi
      have hio : i < ops.size := (Array.getElem?_eq_some_iff.1 ho).1
      have := hz i hio
      have hlt : i < listed.size := by omega
      simp [hlt] at hu this
      rw [hu] at this
      cases this
  | succ fuel ih =>
    intro listed a w hsz hc hM
    refine ⟨fun hr => hend a w fun l' hl' => ⟨hM.defers, hM.size, (by
      have e : (fun i => l'.getD i false) = fun i => listed.getD i false := funext fun i => by
        rw [hl']
        by_cases hi : i < ops.size
        · rw [hall listed hsz hr ops.size i hi hi]; exact decide_eq_true hi
        · rw [decide_eq_false hi]; simp [Array.getD_eq_getD_getElem?, Array.getElem?_eq_none (show listed.size ≤ i by omega)]
      rw [e]; exact hM.world), hM.old, fun i o ho _ e he hb => by rw [hl']; exact decide_eq_true (Nat.lt_trans (hac i o ho e he hb) (Array.getElem?_eq_some_iff.1 ho).1), fun i o ho _ => hM.new i o ho (hall listed hsz hr ops.size i (Array.getElem?_eq_some_iff.1 ho).1 (Array.getElem?_eq_some_iff.1 ho).1)⟩, fun i hi => ?_⟩
    obtain ⟨hu, o, ho, hdep⟩ := mem_ready.1 hi
    have hio : i < ops.size := (Array.getElem?_eq_some_iff.1 ho).1
    have hu2 : listed.getD i false = false := by
      have hlt : i < listed.size := by omega
      simp [hlt] at hu ⊢
      exact hu
    unfold wpOpIn
    simp only [ho]
    have hw : Region.wanted o (yielded ops a.tmps) = true := by simp [Region.wanted, hg i o ho]
    rw [if_pos hw]
    refine Oper.wpIn_mono ?_ (hstep i o ho listed a w hM hu2 hdep)
    rintro a' w' ⟨v, rfl, hY, hS, hst⟩
    refine ih _ _ _ (by simpa using hsz) (by have := left_set listed i (by omega) hu2 ops.size hio; omega) ⟨?_, ?_, ?_, ?_, ?_, ?_⟩
    · rw [← hM.defers]
      cases o.dst <;> rfl
    · rw [← hM.size]
      cases o.dst <;> simp [Act.put]
    · have e : (fun j => (listed.setIfInBounds i true).getD j false) = fun j => if j = i then true else listed.getD j false := funext fun j => by
        by_cases hj : j = i
        · subst hj
          have hlt : j < listed.size := by omega
          simp [Array.getD_eq_getD_getElem?, hlt]
        · simp [Array.getD_eq_getD_getElem?, Array.getElem?_setIfInBounds_ne (Ne.symm hj), hj]
      rw [e]; exact hS
    · intro k hk
      rw [← hM.old k hk]
      cases hod : o.dst with
      | none => rfl
      | some d =>
        have : d ≠ k := fun e => hk i o ho (by rw [hod, e])
        simp [Act.put, Array.getElem?_setIfInBounds_ne this]
    · intro j oj hoj hl e he hb
      have hl' : listed.getD e.on false = true := by
        by_cases e2 : j = i
        · subst e2
          obtain rfl : o = oj := Option.some.inj (ho.symm.trans hoj)
          exact hdep e he hb
        · have hl2 : listed.getD j false = true := by
            rw [← hl]
            simp [Array.getD_eq_getD_getElem?, Array.getElem?_setIfInBounds_ne (Ne.symm e2)]
          exact hM.closed j oj hoj hl2 e he hb
      exact getD_set_true hl'
    · intro j oj hoj hl
      by_cases e : j = i
      · subst e
        obtain rfl : o = oj := Option.some.inj (ho.symm.trans hoj)
        refine ⟨v, hY, fun d hdd' => ?_⟩
        have hdn := hd j o d ho hdd'
        rw [← hn, ← hM.size] at hdn
        simp [hdd', Act.put, hdn]
      · have hl2 : listed.getD j false = true := by
          rw [← hl]
          simp [Array.getD_eq_getD_getElem?, Array.getElem?_setIfInBounds_ne (Ne.symm e)]
        obtain ⟨u, hu', hd'⟩ := hM.new j oj hoj hl2
        refine ⟨u, hst j u e hl2 hu', fun d hdj => ?_⟩
        rw [← hd' d hdj]
        cases hod : o.dst with
        | none => rfl
        | some d2 =>
          have : d2 ≠ d := fun e2 => e (hdd j i oj o d hoj ho hdj (by rw [hod, e2]))
          simp [Act.put, Array.getElem?_setIfInBounds_ne this]

/-- THE LAW -/
theorem wpIn_region_free {F : Fence} {m id n : Nat} {a0 : Act} {w0 : World} {Y : Nat → Value → Act → World → Prop} {S : (Nat → Bool) → World → Prop} {Q : Exit → Act → World → Prop} (hm : P.follows .mixedOrders = true) (hB : freeB ops n = true) (hn : a0.tmps.size = n)
    (hS : S (fun _ => false) { w0 with drawn := w0.drawn + 1 })
    (hstep : ∀ (i : Nat) (o : Oper), ops[i]? = some o → ∀ (listed : Array Bool) (a : Act) (w : World), MidIn ops a0 Y S listed a w → listed.getD i false = false → (∀ e ∈ o.after, Region.binds .any e = true → listed.getD e.on false = true) →
      o.wpIn F m P a w (fun a' w' => ∃ v, a' = a.put o.dst v ∧ Y i v a' w' ∧ S (fun j => if j = i then true else listed.getD j false) w' ∧ ∀ j u, j ≠ i → listed.getD j false = true → Y j u a w → Y j u a' w') Q)
    (hend : ∀ (vs : Nat → Value) (w : World), S (fun i => decide (i < ops.size)) w → (∀ (i : Nat) (o : Oper), ops[i]? = some o → Y i (vs i) (fill ops.toList vs 0 a0) w) → Q .normal (fill ops.toList vs 0 a0) w) : (Code.region id ops true).wpIn F m P Q a0 w0 := by
  refine wpIn_region_any hm ?_
  have hB2 := hB
  simp only [freeB, Bool.and_eq_true, decide_eq_true_eq] at hB2
  obtain ⟨⟨h1, h2⟩, _⟩ := hB2
  refine wpAnyIn_mid hB hn hstep (fun a w hM => ?_) _ _ _ _ (by simp) ?_ ⟨rfl, rfl, (by
    have e : (fun i => (Array.replicate ops.size false).getD i false) = fun _ => false := funext fun i => by
      by_cases hi : i < ops.size <;> simp [Array.getD_eq_getD_getElem?, hi]
    rw [e]; exact hS), fun _ _ => rfl, fun i o _ hl => ?_, fun i o _ hl => ?_⟩
  · have M := hM (Array.replicate ops.size true) (fun i => by by_cases hi : i < ops.size <;> simp [Array.getD_eq_getD_getElem?, hi])
    have hl : ∀ (i : Nat) (o : Oper), ops[i]? = some o → (Array.replicate ops.size true).getD i false = true := fun i o ho => by
      have hi : i < ops.size := (Array.getElem?_eq_some_iff.1 ho).1
      simp [Array.getD_eq_getD_getElem?, hi]
    classical
    obtain ⟨vs, hvs⟩ : ∃ vs : Nat → Value, ∀ (i : Nat) (o : Oper), ops[i]? = some o → Y i (vs i) a w ∧ ∀ d, o.dst = some d → a.tmps[d]? = some (vs i) := by
      refine ⟨fun i => if h : ∃ v : Value, ∀ o : Oper, ops[i]? = some o → Y i v a w ∧ ∀ d, o.dst = some d → a.tmps[d]? = some v then h.choose else undef, fun i o ho => ?_⟩
      have hex : ∃ v : Value, ∀ o : Oper, ops[i]? = some o → Y i v a w ∧ ∀ d, o.dst = some d → a.tmps[d]? = some v := by
        obtain ⟨v, hv⟩ := M.new i o ho (hl i o ho)
        exact ⟨v, fun o' ho' => by obtain rfl : o = o' := Option.some.inj (ho.symm.trans ho'); exact hv⟩
      dsimp only
      rw [dif_pos hex]
      exact hex.choose_spec o ho
    have ha : a = fill ops.toList vs 0 a0 := by
      have ht : a.tmps = (fill ops.toList vs 0 a0).tmps := by
        apply Array.ext_getElem?
        intro k
        by_cases hk : ∃ (i : Nat) (o : Oper), ops[i]? = some o ∧ o.dst = some k
        · obtain ⟨i, o, ho, hd⟩ := hk
          have hkn : k < a0.tmps.size := by
            have := List.all_eq_true.1 h1 o (by simpa using Array.mem_of_getElem? ho)
            simp only [Bool.and_eq_true, hd] at this
            rw [hn]
            simpa using this.2
          rw [fill_at k ops.toList vs 0 a0 i o (by simpa using ho) hd h2 hkn, (hvs i o ho).2 k hd, Nat.zero_add]
        · have hk2 : ∀ (i : Nat) (o : Oper), ops[i]? = some o → o.dst ≠ some k := fun i o ho e => hk ⟨i, o, ho, e⟩
          rw [M.old k hk2, fill_not k ops.toList vs 0 a0]
          intro o ho e
          obtain ⟨i, hi, rfl⟩ := List.getElem_of_mem ho
          exact hk2 i _ (by simp at hi; simp [hi]) e
      have hdf := M.defers
      rw [← fill_defers ops.toList vs 0 a0] at hdf
      cases a
      cases hfl : fill ops.toList vs 0 a0
      rw [hfl] at ht hdf
      simp only at ht hdf
      rw [ht, hdf]
    rw [ha]
    refine hend vs w (by
      have e : (fun i => (Array.replicate ops.size true).getD i false) = fun i => decide (i < ops.size) := funext fun i => by
        by_cases hi : i < ops.size <;> simp [Array.getD_eq_getD_getElem?, hi]
      have M2 := M.world
      rw [e] at M2; exact M2) fun i o ho => ?_
    rw [← ha]
    exact (hvs i o ho).1
  · clear hstep hend
    have : ∀ n, left (Array.replicate ops.size false) n ≤ n := fun n => by
      induction n with
      | zero => simp [left]
      | succ n ih => rw [left]; split <;> omega
    exact this _
  all_goals
    exfalso
    simp [Array.getD_eq_getD_getElem?, Array.getElem?_replicate] at hl
    split at hl <;> simp at hl
/-! ### one operation at a time -/
theorem wpIn_value {F : Fence} {m : Nat} {o : Oper} {a : Act} {w : World} {K : Act → World → Prop} {Q : Exit → Act → World → Prop} (v : Value) (ha : o.about P w a.eval = none) (h : (o.semAt F.round a.eval).run P w = .ok (.value v) w) (hK : K (a.put o.dst v) w) : o.wpIn F m P a w K Q := by
  unfold Oper.wpIn
  refine ⟨fun f hf => (by rw [ha] at hf; cases hf), ?_⟩
  rw [h]
  exact hK
theorem wpIn_store {F : Fence} {m : Nat} {o : Oper} {a : Act} {w w' : World} {K : Act → World → Prop} {Q : Exit → Act → World → Prop} (ha : o.about P w a.eval = none) (h : (o.semAt F.round a.eval).run P w = .ok .skip w') (hK : K (a.put o.dst undef) w') : o.wpIn F m P a w K Q := by
  unfold Oper.wpIn
  refine ⟨fun f hf => (by rw [ha] at hf; cases hf), ?_⟩
  rw [h]
  exact hK
/-- what an operation may know of the slots -/
def FactsIn (ops : Array Oper) (a0 : Act) (con : Nat → Value) (o : Oper) (a : Act) : Prop :=
  (∀ e ∈ o.after, Region.binds .any e = true → ∀ (oj : Oper) (dj : Tmp), ops[e.on]? = some oj → oj.dst = some dj → a.tmps[dj]?.getD undef = con e.on) ∧
  (∀ k, (ops.toList.all fun o => o.dst != some k) = true → a.tmps[k]?.getD undef = a0.tmps[k]?.getD undef)

/-- what has come up has come behind all that it waits for, and so on -/
theorem sink_listed {last : Nat} {listed : Array Bool} (hw : Region.sinkB .any ops last = true)
    (hc : ∀ (i : Nat) (o : Oper), ops[i]? = some o → listed.getD i false = true → ∀ e ∈ o.after, Region.binds .any e = true → listed.getD e.on false = true)
    (hl : listed.getD last false = true) : ∀ (d i : Nat), last - i ≤ d → i ≤ last → listed.getD i false = true
  | 0, i, h1, h2 => by
    obtain rfl : i = last := by omega
    exact hl
  | d + 1, i, h1, h2 => by
    by_cases e : i = last
    · subst e; exact hl
    · have h3 := List.all_eq_true.1 hw i (List.mem_range.2 (by omega))
      obtain ⟨j, hj, h4⟩ := List.any_eq_true.1 h3
      simp only [Bool.and_eq_true, decide_eq_true_eq] at h4
      have hjl : j < last + 1 := List.mem_range.1 hj
      obtain ⟨oj, hoj, e2, he2, hb2, hon⟩ := Region.waitsFor_spec h4.2
      have := hc j oj hoj (sink_listed hw hc hl d j (by omega) (by omega)) e2 he2 hb2
      rwa [hon] at this

/-- THE LAW AT READS AND ONE STORE THAT COMES LAST -/
theorem wpIn_region_last {F : Fence} {m id n : Nat} {a0 : Act} {w0 : World} {Q : Exit → Act → World → Prop} (con : Nat → Value) (last : Nat) (W2 : World) (os : Oper)
    (hm : P.follows .mixedOrders = true) (hB : freeB ops n = true) (hn : a0.tmps.size = n) (hs : ops[last]? = some os) (hsd : os.dst = none) (hsz : ops.size = last + 1)
    (hw : Region.sinkB .any ops last = true)
    (hcon : ∀ (i : Nat) (o : Oper), ops[i]? = some o → i < last → ∀ (a : Act), FactsIn ops a0 con o a →
      o.wpIn F m P a { w0 with drawn := w0.drawn + 1 } (fun a' w' => a' = a.put o.dst (con i) ∧ w' = { w0 with drawn := w0.drawn + 1 }) Q)
    (hst : ∀ (a : Act), FactsIn ops a0 con os a → os.wpIn F m P a { w0 with drawn := w0.drawn + 1 } (fun a' w' => a' = a ∧ w' = W2) Q)
    (hend : Q .normal (fill ops.toList con 0 a0) W2) : (Code.region id ops true).wpIn F m P Q a0 w0 := by
  let Y : Nat → Value → Act → World → Prop := fun i v a w => i < last → v = con i
  have facts : ∀ (listed : Array Bool) (o : Oper) (i : Nat) (a : Act) (w : World), ops[i]? = some o → MidIn ops a0 Y (fun f w => w = cond (f last) W2 { w0 with drawn := w0.drawn + 1 }) listed a w →
      (∀ e ∈ o.after, Region.binds .any e = true → listed.getD e.on false = true) → (∀ e ∈ o.after, Region.binds .any e = true → e.on < last) → FactsIn ops a0 con o a := by
    intro listed o i a w ho hM hdl hlt
    refine ⟨fun e he hb oj dj hoj hdj => ?_, fun k hk => ?_⟩
    · obtain ⟨v, hv, hvd⟩ := hM.new e.on oj hoj (hdl e he hb)
      rw [hvd dj hdj, ← hv (hlt e he hb)]
      rfl
    · rw [hM.old k fun i o' ho' hd' => ?_]
      have := List.all_eq_true.1 hk o' (by simpa using Array.mem_of_getElem? ho')
      simp [hd'] at this
  have hB2 := hB
  simp only [freeB, Bool.and_eq_true, decide_eq_true_eq] at hB2
  obtain ⟨⟨_, _⟩, h3⟩ := hB2
  have hac : ∀ (i : Nat) (o : Oper), ops[i]? = some o → ∀ e ∈ o.after, Region.binds .any e = true → e.on < i := fun i o ho e he hb => by
    have hi : i < ops.size := (Array.getElem?_eq_some_iff.1 ho).1
    have := List.all_eq_true.1 h3 i (List.mem_range.2 hi)
    rw [ho] at this
    have h5 : (o.after.all fun e => !Region.binds .any e || decide (e.on < i)) = true := this
    have := Array.all_eq_true_iff_forall_mem.1 h5 e he
    simpa [hb] using this
  refine wpIn_region_free (Y := Y) (S := fun f w => w = cond (f last) W2 { w0 with drawn := w0.drawn + 1 }) hm hB hn rfl ?_ ?_
  · intro i o ho listed a w hM hu hdl
    have hi : i < ops.size := (Array.getElem?_eq_some_iff.1 ho).1
    by_cases hil : i = last
    · subst hil
      obtain rfl : o = os := Option.some.inj (ho.symm.trans hs)
      have hw1 := hM.world
      simp only [hu, cond_false] at hw1
      subst hw1
      refine Oper.wpIn_mono ?_ (hst a (facts listed o i a _ ho hM hdl (hac i o ho)))
      rintro a' w' ⟨rfl, rfl⟩
      exact ⟨undef, by rw [hsd]; rfl, fun h => absurd h (by omega), by simp, fun j u hj _ hY => hY⟩
    · have hlt : i < last := by omega
      have hnl : listed.getD last false = false := by
        cases hl : listed.getD last false with
        | false => rfl
        | true =>
          exfalso
          have := sink_listed hw hM.closed hl (last - i) i (Nat.le_refl _) (by omega)
          rw [hu] at this
          cases this
      have hw1 := hM.world
      simp only [hnl, cond_false] at hw1
      subst hw1
      refine Oper.wpIn_mono ?_ (hcon i o ho hlt a (facts listed o i a _ ho hM hdl (fun e he hb => Nat.lt_trans (hac i o ho e he hb) hlt)))
      rintro a' w' ⟨rfl, rfl⟩
      refine ⟨con i, rfl, fun _ => rfl, ?_, fun j u hj _ hY => hY⟩
      dsimp only
      rw [if_neg (Ne.symm hil), hnl]
      rfl
  · intro vs w hw1 hall
    have : (decide (last < ops.size)) = true := decide_eq_true (by omega)
    dsimp only at hw1
    rw [this] at hw1
    replace hw1 : w = W2 := hw1
    subst hw1
    have hc : fill ops.toList vs 0 a0 = fill ops.toList con 0 a0 := by
      have hl : ops.toList = ops.toList.take last ++ [os] := by
        have h1 : ops.toList[last]? = some os := by simpa using hs
        have h2 : ops.toList.length = last + 1 := by simpa using hsz
        apply List.ext_getElem?
        intro k
        by_cases hk : k < last
        · rw [List.getElem?_append_left (by simp; omega), List.getElem?_take, if_pos hk]
        · by_cases hk2 : k = last
          · subst hk2
            rw [h1, List.getElem?_append_right (by simp; omega)]
            simp [show min k (k + 1) = k by omega, hsz]
          · rw [List.getElem?_eq_none (by omega), List.getElem?_eq_none (by simp; omega)]
      have hf : ∀ (l : List Oper) (us : Nat → Value) (b : Nat) (a : Act), fill (l ++ [os]) us b a = fill l us b a := by
        intro l
        induction l with
        | nil => intro us b a; simp [fill, hsd, Act.put]
        | cons o l ih => intro us b a; rw [List.cons_append, fill, fill, ih]
      rw [hl, hf, hf]
      refine fill_congr _ _ _ 0 a0 fun i hi => ?_
      simp only [Nat.zero_add]
      have hil : i < last := by simp at hi; omega
      have hio : i < ops.size := by omega
      exact hall i ops[i] (by simp [hio]) hil
    rw [hc]
    exact hend
end
end Go.Proofs.YtgfhahlkffagaaaDoor.FreeIn

/-
  The program's set of the entries of a rectangle: patchOf; and the number of its entries: size.
-/
namespace Go.Proofs.YtgfhahlkffagaaaDoor.Patch
open Go.RowKit Go.Shelf Go.Proofs.YtgfhahlkffagaaaDoor.Plain Go.Proofs.YtgfhahlkffagaaaDoor.Pat Go.Proofs.YtgfhahlkffagaaaDoor.Rect Go.Proofs.YtgfhahlkffagaaaDoor.Each Go.Proofs.YtgfhahlkffagaaaDoor.Free Go.Proofs.YtgfhahlkffagaaaDoor.FreeIn
set_option linter.unusedVariables false
attribute [local go_sem] Oper.semAt_some

/-- the bytes of a rectangle -/
def rectB (R C : Nat) : Nat → Nat := fun j => if R.testBit j then C else 0
theorem rectB_lt (R C : Nat) (hC : C < 256) (x : Nat) : rectB R C x < 256 := by
  unfold rectB
  split <;> omega
/-- the bytes when so many rows have come -/
def partB (pre : List (Fin 8)) (C : Nat) : Nat → Nat := fun j => if pre.any (fun x => x.val == j) then C else 0
theorem partB_lt (pre : List (Fin 8)) (C : Nat) (hC : C < 256) (x : Nat) : partB pre C x < 256 := by
  unfold partB
  split <;> omega
theorem partB_nil (C : Nat) : pat (partB [] C) 8 = 0 := (pat_zero 8 _).2 fun x _ => by simp [partB]
theorem partB_next (pre : List (Fin 8)) (x : Fin 8) (C : Nat) (hC : C < 256) : pat (partB pre C) 8 ||| C * 2 ^ (x.val * 8) = pat (partB (pre ++ [x]) C) 8 := by
  rw [← pat_one x.val C x.isLt, pat_or 8 _ _ (partB_lt pre C hC) (fun j => by show (if j = x.val then C else 0) < 256; split <;> omega)]
  apply pat_congr
  intro j hj
  unfold partB
  rw [List.any_append]
  by_cases h : (pre.any fun x => x.val == j) = true
  · rw [h, if_pos rfl, Bool.true_or, if_pos rfl]
    split <;> simp
  · rw [Bool.not_eq_true] at h
    rw [h, Bool.false_or]
    by_cases e : j = x.val
    · subst e; simp
    · have : ¬ (x.val = j) := fun h => e h.symm
      simp [e, this]
theorem shl_fits (x : Fin 8) (C : Nat) (hC : C < 256) : C * 2 ^ (x.val * 8) < 18446744073709551616 := by
  have h : 2 ^ (x.val * 8) ≤ 2 ^ (7 * 8) := Nat.pow_le_pow_right (by decide) (by omega)
  have h2 : C * 2 ^ (x.val * 8) ≤ 255 * 2 ^ (7 * 8) := Nat.mul_le_mul (by omega) h
  omega
theorem any_upto (S j : Nat) : ∀ k, k ≤ 8 → ((upto S k).any fun x => x.val == j) = (decide (j < k) && S.testBit j)
  | 0, _ => by simp [upto]
  | k + 1, h => by
    obtain ⟨b, hb⟩ : ∃ b, S.testBit k = b := ⟨_, rfl⟩
    cases b
    · rw [upto_no S k hb, any_upto S j k (by omega)]
      by_cases e : j = k
      · subst e; simp [hb]
      · congr 1
        rw [decide_eq_decide]
        omega
    · rw [upto_yes S k (by omega) hb, List.any_append, any_upto S j k (by omega)]
      by_cases e : j = k
      · subst e; simp [hb]
      · have : (k == j) = false := beq_eq_false_iff_ne.2 fun h => e h.symm
        rw [List.any_cons, List.any_nil]
        dsimp only
        rw [this, Bool.false_or, Bool.or_false]
        congr 1
        rw [decide_eq_decide]
        omega
theorem partB_all (R C : Nat) : pat (partB (upto R 8) C) 8 = pat (rectB R C) 8 := by
  apply pat_congr
  intro j hj
  unfold partB rectB
  rw [any_upto R j 8 (Nat.le_refl _), decide_eq_true hj, Bool.true_and]

theorem cell_of_box {W : World} {B : Nat} {v : Value} {t : TypeId} (h : W.heap[B]? = some (.cells #[v] t (0, 0))) : W.cell? ⟨B, 0, none⟩ = some v ∧ W.frozen? ⟨B, 0, none⟩ = false := by
  constructor <;> simp [World.cell?, World.frozen?, h]
theorem cell_alloc {W : World} {a : Addr} {v : Value} (o : Obj) (h : W.cell? a = some v) : (W.alloc o).cell? a = some v := cell_kept h (World.grownBy_alloc W o none) (fun r e => by cases e)
theorem frozen_alloc {W : World} {a : Addr} {v : Value} (o : Obj) (h : W.cell? a = some v) (hf : W.frozen? a = false) : (W.alloc o).frozen? a = false := (frozen_kept h (World.grownBy_alloc W o none) (fun r e => by cases e)).trans hf

set_option maxRecDepth 100000 in
set_option maxHeartbeats 4000000 in
theorem patch_in (n : Nat) (hn : 3 ≤ n) (R C : Nat) (hR : R < 256) (hC : C < 256) (w : World) :
    CallsIn Fence.wide n Tryd.prog 69 #[rect R C] w fun e W' => e = .returned (.int .u64 (pat (rectB R C) 8 : Nat)) ∧ Below w.heap.size w W' := by
  have h1 : 1 ≤ n := by omega
  refine callsIn_of_wp_marks Tryd.func69 rfl trivial ?_ rfl
  simp only [Tryd.ntmps69, List.size_toArray, List.length_cons, List.length_nil, Nat.reduceAdd, Nat.reduceSub, Array.replicate_succ, Array.replicate_zero, List.push_toArray, List.append_toArray, List.nil_append, List.cons_append]
  gi_wp2_with (refine ⟨trivial, ?_⟩; gi_at_call 96; refine (callsIn_wide.2 (each_any _ _)).mono ?_; rintro e w' ⟨rfl, rfl⟩)
  obtain ⟨W0, hW0⟩ : ∃ W0, ((w.alloc (.cells #[.int .i64 (R : Int), .int .i64 (C : Int)] 60)).alloc (.cells #[.int .u64 0] 94)).alloc (.cells #[.int .i64 (R : Int)] 3) = W0 := ⟨_, rfl⟩
  rw [hW0]
  have hsz : W0.heap.size = w.heap.size + 3 := by rw [← hW0]; simp
  have e0 : W0.heap[w.heap.size]? = some (.cells #[.int .i64 (R : Int), .int .i64 (C : Int)] 60 (0, 0)) := by
    rw [← hW0]; exact (Below.heap_alloc _ _ _ (by simp; omega)).trans ((Below.heap_alloc _ _ _ (by simp)).trans (heap_alloc_new w _))
  have e1 : W0.heap[w.heap.size + 1]? = some (.cells #[.int .u64 0] 94 (0, 0)) := by
    rw [← hW0]; exact (Below.heap_alloc _ _ _ (by simp)).trans (by have := heap_alloc_new (w.alloc (.cells #[.int .i64 (R : Int), .int .i64 (C : Int)] 60)) (.cells #[.int .u64 0] 94); rwa [World.size_alloc] at this)
  have e2 : W0.heap[w.heap.size + 1 + 1]? = some (.cells #[.int .i64 (R : Int)] 3 (0, 0)) := by
    rw [← hW0]; have := heap_alloc_new ((w.alloc (.cells #[.int .i64 (R : Int), .int .i64 (C : Int)] 60)).alloc (.cells #[.int .u64 0] 94)) (.cells #[.int .i64 (R : Int)] 3); rwa [World.size_alloc, World.size_alloc] at this
  have hB0 : Below w.heap.size w W0 := by rw [← hW0]; exact (((Below.refl _ w).alloc (Nat.le_refl _) _).alloc (by simp) _).alloc (by simp; omega) _
  clear hW0
  refine wpIn_rangeFunc_ownF rfl h1 (gf := 123) (lb := #[.pointer (some ⟨w.heap.size + 1 + 1, 0, none⟩)]) rfl trivial (enters_of Tryd.func123 (by kernel_rfl) rfl)
    (mem_stops (n - 1) (by omega) (w.heap.size + 1 + 1) R hR W0 (by omega) (cell_of_box e2).1) keepC_t keepC_b (Below.refl _ _) (fun _ => rfl)
    (fun pre W => ((W.cell? ⟨w.heap.size + 1, 0, none⟩ = some (.int .u64 (pat (partB pre C) 8 : Nat)) ∧ W.frozen? ⟨w.heap.size + 1, 0, none⟩ = false) ∧ W.cell? ⟨w.heap.size, 1, none⟩ = some (.int .i64 (C : Int))) ∧ Below w.heap.size w W)
    (fun _ _ _ => False)
    (OwnFrom.and (Own.from (fun s A B row hs hg hr => ⟨⟨cell_kept hs.1.1 hg hr, (frozen_kept hs.1.1 hg hr).trans hs.1.2⟩, cell_kept hs.2 hg hr⟩) _) (ownFrom_below (Nat.le_refl _) (by omega)))
    (fun _ _ _ _ _ hs _ _ => hs)
    ⟨⟨⟨by rw [partB_nil]; exact (cell_of_box e1).1, (cell_of_box e1).2⟩, cell_of_row _ _ 1 _ _ _ e0⟩, hB0⟩
    (fun x => { tmps := #[rect (R : Int) (C : Int), .pointer (some ⟨w.heap.size, 0, none⟩), .int .u64 0, .pointer (some ⟨w.heap.size + 1, 0, none⟩), .int .i64 (x.val : Int), .pointer (some ⟨w.heap.size, 0, none⟩), .int .i64 (R : Int), .func (.func 123) #[] #[.pointer (some ⟨w.heap.size + 1 + 1, 0, none⟩)], .int .i64 (x.val : Int), undef, undef, undef, undef, undef, undef, undef, undef, undef], defers := [] }) ?assign ?body ?done ?stop
  case assign =>
    intro l x W K hK
    gi_wp2
    exact hK
  case body =>
    rintro l pre x W ⟨⟨⟨hc, hf0⟩, hC1⟩, hB⟩ _
    have hx8 := x.isLt
    have HN := Lib.hid (partB_next pre x C hC)
    have hlt := pat64 (partB pre C) (partB_lt pre C hC)
    have hsh := shl_fits x C hC
    have HO := Lib.hid (u64_or_nat (pat (partB pre C) 8) (C * 2 ^ (x.val * 8)) hlt hsh)
    have HT : Hid ((C : Int) * 2 ^ (x.val * 8) = ((C * 2 ^ (x.val * 8) : Nat) : Int)) := by unfold Hid; simp
    generalize pat (partB pre C) 8 = p at *
    gi_wp2
    have hcd : ({ W with drawn := W.drawn + 1 } : World).cell? ⟨w.heap.size + 1, 0, none⟩ = some (.int .u64 (p : Int)) := hc
    have hfd : ({ W with drawn := W.drawn + 1 } : World).frozen? ⟨w.heap.size + 1, 0, none⟩ = false := hf0
    have hC1d : ({ W with drawn := W.drawn + 1 } : World).cell? ⟨w.heap.size, 1, none⟩ = some (.int .i64 (C : Int)) := hC1
    refine wpIn_region_last (fun | 0 => .int .u64 (p : Int) | 1 => .pointer (some ⟨w.heap.size, 1, none⟩) | 2 => .int .i64 (C : Int) | 3 => .int .u64 (C : Int) | 4 => .int .i64 (x.val : Int) | 5 => .int .i64 ((x.val * 8 : Nat) : Int) | 6 => .int .u64 ((C * 2 ^ (x.val * 8) : Nat) : Int) | 7 => .int .u64 ((p ||| C * 2 ^ (x.val * 8) : Nat) : Int) | _ => undef) 8 (({ W with drawn := W.drawn + 1 } : World).setCell ⟨w.heap.size + 1, 0, none⟩ (.int .u64 ((p ||| C * 2 ^ (x.val * 8) : Nat) : Int))) _ (by kernel_rfl) (by kernel_rfl) rfl rfl rfl rfl (by kernel_rfl) ?con ?st ?en
    case con =>
      intro i o ho hi a hf
      match i, ho with
      | 0, ho =>
        obtain rfl := Option.some.inj ho
        have b3 : a.tmps[3]?.getD undef = .pointer (some ⟨w.heap.size + 1, 0, none⟩) := hf.2 3 (by kernel_rfl)
        exact wpIn_value (.int .u64 (p : Int)) rfl (by go_simp) ⟨rfl, rfl⟩
      | 1, ho =>
        obtain rfl := Option.some.inj ho
        have b1 : a.tmps[1]?.getD undef = .pointer (some ⟨w.heap.size, 0, none⟩) := hf.2 1 (by kernel_rfl)
        exact wpIn_value (.pointer (some ⟨w.heap.size, 1, none⟩)) rfl (by go_simp) ⟨rfl, rfl⟩
      | 2, ho =>
        obtain rfl := Option.some.inj ho
        have e10 : a.tmps[10]?.getD undef = .pointer (some ⟨w.heap.size, 1, none⟩) := hf.1 ⟨1, .data⟩ (by simp) rfl _ 10 rfl rfl
        exact wpIn_value (.int .i64 (C : Int)) rfl (by go_simp) ⟨rfl, rfl⟩
      | 3, ho =>
        obtain rfl := Option.some.inj ho
        have e11 : a.tmps[11]?.getD undef = .int .i64 (C : Int) := hf.1 ⟨2, .data⟩ (by simp) rfl _ 11 rfl rfl
        exact wpIn_value (.int .u64 (C : Int)) rfl (by go_simp; rw [IntKind.wrap_u64]; omega) ⟨rfl, rfl⟩
      | 4, ho =>
        obtain rfl := Option.some.inj ho
        have b4 : a.tmps[4]?.getD undef = .int .i64 (x.val : Int) := hf.2 4 (by kernel_rfl)
        exact wpIn_value (.int .i64 (x.val : Int)) rfl (by go_simp) ⟨rfl, rfl⟩
      | 5, ho =>
        obtain rfl := Option.some.inj ho
        have e13 : a.tmps[13]?.getD undef = .int .i64 (x.val : Int) := hf.1 ⟨4, .data⟩ (by simp) rfl _ 13 rfl rfl
        exact wpIn_value (.int .i64 ((x.val * 8 : Nat) : Int)) rfl (by go_simp; rw [IntKind.wrap_i64]; omega) ⟨rfl, rfl⟩
      | 6, ho =>
        obtain rfl := Option.some.inj ho
        have e12 : a.tmps[12]?.getD undef = .int .u64 (C : Int) := hf.1 ⟨3, .data⟩ (by simp) rfl _ 12 rfl rfl
        have e14 : a.tmps[14]?.getD undef = .int .i64 ((x.val * 8 : Nat) : Int) := hf.1 ⟨5, .data⟩ (by simp) rfl _ 14 rfl rfl
        have hto : ((x.val : Int) * 8).toNat = x.val * 8 := by omega
        exact wpIn_value (.int .u64 ((C * 2 ^ (x.val * 8) : Nat) : Int)) rfl (by go_simp; rw [HT.out, IntKind.wrap_u64]; omega) ⟨rfl, rfl⟩
      | 7, ho =>
        obtain rfl := Option.some.inj ho
        have e9 : a.tmps[9]?.getD undef = .int .u64 (p : Int) := hf.1 ⟨0, .data⟩ (by simp) rfl _ 9 rfl rfl
        have e15 : a.tmps[15]?.getD undef = .int .u64 ((C * 2 ^ (x.val * 8) : Nat) : Int) := hf.1 ⟨6, .data⟩ (by simp) rfl _ 15 rfl rfl
        exact wpIn_value (.int .u64 ((p ||| C * 2 ^ (x.val * 8) : Nat) : Int)) rfl (by go_simp; rw [HT.out]; exact HO.out) ⟨rfl, rfl⟩
      | n + 8, ho => exact absurd hi (by omega)
    case st =>
      intro a hf
      have e16 : a.tmps[16]?.getD undef = .int .u64 ((p ||| C * 2 ^ (x.val * 8) : Nat) : Int) := hf.1 ⟨7, .data⟩ (by simp) rfl _ 16 rfl rfl
      have b3 : a.tmps[3]?.getD undef = .pointer (some ⟨w.heap.size + 1, 0, none⟩) := hf.2 3 (by kernel_rfl)
      exact wpIn_store rfl (by go_simp) ⟨rfl, rfl⟩
    case en =>
      simp only [fill, Act.put]
      go_simp
      exact ⟨(KeepsOthers.setCell W _ _).trans (KeepsOthers.drew _), KeepC.set (B := W) (KeepC.refl _ W) ⟨w.heap.size + 1, 0, none⟩ _ (by show w.heap.size + 1 ≠ w.heap.size + 1 + 1; omega),
        ⟨⟨by rw [← HN.out]; exact World.cell?_setCell_same' W _ _ (by rw [hc]; rfl), (World.frozen?_setCell W _ _ _).trans hf0⟩, (World.cell?_setCell_far W _ _ _ (by simp)).trans hC1⟩, (hB.setCell (p := ⟨w.heap.size + 1, 0, none⟩) (by show w.heap.size ≤ w.heap.size + 1; omega) _).drew⟩
  case done =>
    rintro D ys W hD rfl ⟨⟨⟨hc, _⟩, _⟩, hB⟩ hK
    gi_wp2
    refine ⟨by simp, .inl ⟨_, _, rfl, run_takeDeferred hK, ?_⟩⟩
    exact ⟨_, results_tmp rfl _ _ _, (by rw [← partB_all]; rfl), hB.trans (belowK_b (w := w) (Nat.le_refl _) W D _ _ (by omega) hK rfl rfl)⟩
  case stop =>
    rintro D c pre W _ _ h _
    exact h.elim
/-- the program's set of the entries of a rectangle -/
theorem patch_any (R C : Nat) (hR : R < 256) (hC : C < 256) (w : World) :
    Calls Tryd.prog 69 #[rect R C] w fun e W' => e = .returned (.int .u64 (pat (rectB R C) 8 : Nat)) ∧ Below w.heap.size w W' :=
  callsIn_wide.1 (patch_in 3 (by omega) R C hR hC w)

theorem and127 (y : Nat) (h : y < 9223372036854775808) : Go.bits .and .i64 (y : Int) 127 = ((y % 128 : Nat) : Int) := by
  have hp : (2 : Int) ^ 63 = 9223372036854775808 := by decide
  have hq : (2 : Nat) ^ 63 = 9223372036854775808 := by decide
  have hk : ∀ n : Int, 0 ≤ n → n < 2 ^ 63 → IntKind.i64.wrap n = n := fun n h0 h1 => by
    rw [hp] at h1
    rw [IntKind.wrap_i64]
    omega
  have h2 := (bits_nat .i64 63 (by decide) hk y 127 (by rw [hq]; exact h) (by rw [hq]; decide)).1
  rw [nat_mask7] at h2
  exact h2
theorem wrap_fits (n : Nat) (h : n < 18446744073709551616) : IntKind.u64.wrap (n : Int) = (n : Int) := by
  rw [IntKind.wrap_u64]
  omega
/-- a rectangle has as many entries as rows times columns -/
theorem area_pop (R C : Nat) (hR : R < 256) : sumN (fun x => pop8 (rectB R C x)) 8 = pop8 R * pop8 C := by
  have h : ∀ k, sumN (fun x => pop8 (rectB R C x)) k = sumN (fun i => (R.testBit i).toNat) k * pop8 C := fun k => by
    induction k with
    | zero => simp [sumN]
    | succ k ih =>
      rw [sumN, sumN, ih, Nat.add_mul]
      congr 1
      unfold rectB
      cases R.testBit k <;> simp [pop8]
  rw [h 8, ← pop8_bits R hR]
end Go.Proofs.YtgfhahlkffagaaaDoor.Patch

