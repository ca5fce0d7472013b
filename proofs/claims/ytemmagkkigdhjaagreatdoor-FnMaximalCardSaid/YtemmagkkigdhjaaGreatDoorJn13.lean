/-
  Texts of one seat, joined: FreeT, ColM, EntWalk.
-/
import Derived.Test.YtemmagkkigdhjaaGreatDoorJn4
import Derived.Test.YtemmagkkigdhjaaGreatDoorJn11
import Derived.Test.YtemmagkkigdhjaaGreatDoorJn10
import Derived.Deep.WholeRow
/-
  The law at operations that only make memory, one store behind them, and an assignment of a constant.
-/
namespace Go.Proofs.YtemmagkkigdhjaaGreatDoor.FreeT
open Go Go.RowKit Go.Proofs.YtemmagkkigdhjaaGreatDoor.Free Go.Proofs.YtemmagkkigdhjaaGreatDoor.FreeL
set_option linter.unusedVariables false

section
variable {P : Program} {ops : Array Oper}

/-- what an operation without a slot would bring is not asked -/
theorem fill_none : ∀ (l : List Oper) (vs us : Nat → Value) (b : Nat) (a : Act), (∀ (i : Nat) (o : Oper), l[i]? = some o → o.dst ≠ none → vs (b + i) = us (b + i)) → fill l vs b a = fill l us b a
  | [], _, _, _, _, _ => rfl
  | o :: l, vs, us, b, a, h => by
    rw [fill, fill]
    have e : a.put o.dst (vs b) = a.put o.dst (us b) := by
      cases hd : o.dst with
      | none => rfl
      | some d =>
        have h0 := h 0 o rfl (by rw [hd]; simp)
        rw [Nat.add_zero] at h0
        rw [h0]
    rw [e]
    refine fill_none l vs us (b + 1) _ fun i o' ho' hd' => ?_
    have := h (i + 1) o' (by simpa using ho') hd'
    rwa [show b + 1 + i = b + (i + 1) by omega]

/-- THE LAW AT OPERATIONS THAT ONLY MAKE MEMORY, ONE STORE BEHIND THEM, AND AN ASSIGNMENT OF A CONSTANT -/
theorem wp_region_last2 {id n : Nat} {a0 : Act} {w0 : World} {Q : Exit → Act → World → Prop} (con : Nat → Value) (last : Nat) (f : World → World) (os oz : Oper)
    (hm : P.follows .mixedOrders = true) (hB : freeB ops n = true) (hn : a0.tmps.size = n) (hs : ops[last]? = some os) (hsd : os.dst = none) (hsz : ops.size = last + 2) (hz : ops[last + 1]? = some oz)
    (hw : Region.sinkB .any ops last = true)
    (hcon : ∀ (i : Nat) (o : Oper), ops[i]? = some o → i < last → ∀ (a : Act) (w : World), Below w0.heap.size w0 w → FactsL ops a0 con o a →
      o.wp P a w (fun a' w' => a' = a.put o.dst (con i) ∧ Below w.heap.size w w') Q)
    (hst : ∀ (a : Act) (w : World), Below w0.heap.size w0 w → FactsL ops a0 con os a → os.wp P a w (fun a' w' => a' = a ∧ w' = f w) Q)
    (hzz : ∀ (a : Act) (w : World), oz.wp P a w (fun a' w' => a' = a.put oz.dst (con (last + 1)) ∧ w' = w) Q)
    (hend : ∀ w, Below w0.heap.size w0 w → Q .normal (fill ops.toList con 0 a0) (f w)) : (Code.region id ops true).wp P Q a0 w0 := by
  let Y : Nat → Value → Act → World → Prop := fun i v a w => i ≠ last → v = con i
  let S : (Nat → Bool) → World → Prop := fun g w => (g last = false → Below w0.heap.size w0 w) ∧ (g last = true → ∃ w1, Below w0.heap.size w0 w1 ∧ w = f w1)
  have facts : ∀ (listed : Array Bool) (o : Oper) (i : Nat) (a : Act) (w : World), ops[i]? = some o → MidL ops a0 Y S listed a w →
      (∀ e ∈ o.after, Region.binds .any e = true → listed.getD e.on false = true) → (∀ e ∈ o.after, Region.binds .any e = true → e.on ≠ last) → FactsL ops a0 con o a := by
    intro listed o i a w ho hM hdl hlt
    refine ⟨fun e he hb oj dj hoj hdj => ?_, fun k hk => ?_⟩
    · obtain ⟨v, hv, hvd⟩ := hM.new e.on oj hoj (hdl e he hb)
      rw [hvd dj hdj, ← hv (hlt e he hb)]
      rfl
    · rw [hM.old k fun i o' ho' hd' => ?_]
      have := List.all_eq_true.1 hk o' (by simpa using Array.mem_of_getElem? ho')
      simp [hd'] at this
  have hB2 := hB
  simp only [freeB, Bool.and_eq_true, decide_eq_true_eq] at hB2
  obtain ⟨⟨_, _⟩, h3⟩ := hB2
  have hac : ∀ (i : Nat) (o : Oper), ops[i]? = some o → ∀ e ∈ o.after, Region.binds .any e = true → e.on < i := fun i o ho e he hb => by
    have hi : i < ops.size := (Array.getElem?_eq_some_iff.1 ho).1
    have := List.all_eq_true.1 h3 i (List.mem_range.2 hi)
    rw [ho] at this
    have h5 : (o.after.all fun e => !Region.binds .any e || decide (e.on < i)) = true := this
    have := Array.all_eq_true_iff_forall_mem.1 h5 e he
    simpa [hb] using this
  refine wp_region_freeL (Y := Y) (S := S) hm hB hn ⟨fun _ => (Below.refl w0.heap.size w0).drew, fun h => (by cases h)⟩ ?_ ?_
  · intro i o ho listed a w hM hu hdl
    have hi : i < ops.size := (Array.getElem?_eq_some_iff.1 ho).1
    by_cases hil : i = last
    · subst hil
      obtain rfl : o = os := Option.some.inj (ho.symm.trans hs)
      have hw1 : Below w0.heap.size w0 w := hM.world.1 hu
      refine Oper.wp_mono ?_ (hst a w hw1 (facts listed o i a _ ho hM hdl (fun e he hb => Nat.ne_of_lt (hac i o ho e he hb))))
      rintro a' w' ⟨rfl, rfl⟩
      exact ⟨undef, by rw [hsd]; rfl, fun h => absurd rfl h, ⟨fun h => (by simp at h), fun _ => ⟨w, hw1, rfl⟩⟩, fun j u hj _ hY => hY⟩
    · by_cases hiz : i = last + 1
      · subst hiz
        obtain rfl : o = oz := Option.some.inj (ho.symm.trans hz)
        refine Oper.wp_mono ?_ (hzz a w)
        rintro a' w' ⟨rfl, rfl⟩
        refine ⟨con (last + 1), rfl, fun _ => rfl, ⟨fun h => hM.world.1 ?_, fun h => hM.world.2 ?_⟩, fun j u hj _ hY => hY⟩
        · dsimp only at h
          rwa [if_neg (by omega)] at h
        · dsimp only at h
          rwa [if_neg (by omega)] at h
      have hlt : i < last := by omega
      have hnl : listed.getD last false = false := by
        cases hl : listed.getD last false with
        | false => rfl
        | true =>
          exfalso
          have := sink_listed hw hM.closed hl (last - i) i (Nat.le_refl _) (by omega)
          rw [hu] at this
          cases this
      have hw1 : Below w0.heap.size w0 w := hM.world.1 hnl
      refine Oper.wp_mono ?_ (hcon i o ho hlt a w hw1 (facts listed o i a _ ho hM hdl (fun e he hb => Nat.ne_of_lt (Nat.lt_trans (hac i o ho e he hb) hlt))))
      rintro a' w' ⟨rfl, hb⟩
      refine ⟨con i, rfl, fun _ => rfl, ?_, fun j u hj _ hY => hY⟩
      refine ⟨fun _ => hw1.trans (hb.mono hw1.size), fun h => ?_⟩
      dsimp only at h
      rw [if_neg (Ne.symm hil), hnl] at h
      cases h
  · intro vs w hw1 hall
    obtain ⟨w1, hb1, rfl⟩ := hw1.2 (decide_eq_true (by omega))
    have hc : fill ops.toList vs 0 a0 = fill ops.toList con 0 a0 := by
      refine fill_none _ _ _ 0 a0 fun i o ho hd => ?_
      rw [Nat.zero_add]
      have ho2 : ops[i]? = some o := by simpa using ho
      refine hall i o ho2 fun e => ?_
      subst e
      obtain rfl : o = os := Option.some.inj (ho2.symm.trans hs)
      exact hd hsd
    rw [hc]
    exact hend w1 hb1
end
end Go.Proofs.YtemmagkkigdhjaaGreatDoor.FreeT

/-
  Plain facts: the ones and the zeros of a rectangle, counted one by one. Nothing of the program.
-/
namespace Go.Proofs.YtemmagkkigdhjaaGreatDoor.ColM
open Go.RowKit Go.Proofs.YtemmagkkigdhjaaGreatDoor.Plain Go.Proofs.YtemmagkkigdhjaaGreatDoor.Pat Go.Proofs.YtemmagkkigdhjaaGreatDoor.Bal

/-- the entries of a rectangle with a value, in so many columns of a row -/
def rowC (E : Nat → Nat → Bool) (v : Bool) (RS CS x k : Nat) : Nat := sumN (fun y => ((RS.testBit x && CS.testBit y) && (E x y == v)).toNat) k
/-- in so many rows -/
def allC (E : Nat → Nat → Bool) (v : Bool) (RS CS c i : Nat) : Nat := sumN (fun x => rowC E v RS CS x c) i
theorem row_next (E : Nat → Nat → Bool) (v : Bool) (RS CS x k : Nat) : rowC E v RS CS x (k + 1) = rowC E v RS CS x k + ((RS.testBit x && CS.testBit k) && (E x k == v)).toNat := rfl
theorem all_next (E : Nat → Nat → Bool) (v : Bool) (RS CS c i : Nat) : allC E v RS CS c (i + 1) = allC E v RS CS c i + rowC E v RS CS i c := rfl
theorem row_le (E : Nat → Nat → Bool) (v : Bool) (RS CS x k : Nat) : rowC E v RS CS x k ≤ k := by
  have := sumN_le (fun y => ((RS.testBit x && CS.testBit y) && (E x y == v)).toNat) 1 (fun y => by cases ((RS.testBit x && CS.testBit y) && (E x y == v)) <;> simp) k
  unfold rowC
  omega
theorem all_le (E : Nat → Nat → Bool) (v : Bool) (RS CS c i : Nat) : allC E v RS CS c i ≤ i * c := sumN_le _ c (fun x => row_le E v RS CS x c) i
theorem all_le8 (E : Nat → Nat → Bool) (v : Bool) (RS CS c i : Nat) (hc : c ≤ 8) (hi : i ≤ 8) : allC E v RS CS c i ≤ 64 := by
  have h1 := all_le E v RS CS c i
  have h2 : i * c ≤ 8 * 8 := Nat.mul_le_mul hi hc
  omega
theorem sumI_add (f g : Nat → Int) : ∀ n, sumI f n + sumI g n = sumI (fun x => f x + g x) n
  | 0 => rfl
  | n + 1 => by
    rw [sumI, sumI, sumI, ← sumI_add f g n]
    omega
theorem all_bal (E : Nat → Nat → Bool) (RS CS r c : Nat) : ((allC E true RS CS c r : Nat) : Int) - ((allC E false RS CS c r : Nat) : Int) = bal E RS CS r c := by
  unfold allC bal
  rw [sumI_cast, sumI_cast, sumI_sub]
  apply sumI_congr
  intro x _
  unfold rowC
  rw [sumI_cast, sumI_cast, sumI_sub]
  apply sumI_congr
  intro y _
  unfold term
  cases (RS.testBit x && CS.testBit y) <;> cases E x y <;> rfl
theorem all_area (E : Nat → Nat → Bool) (RS CS r c : Nat) (hr : r ≤ 8) (hc : c ≤ 8) (hRS : RS < 2 ^ r) (hCS : CS < 2 ^ c) : ((allC E true RS CS c r : Nat) : Int) + ((allC E false RS CS c r : Nat) : Int) = ((pop8 RS * pop8 CS : Nat) : Int) := by
  rw [area_sum RS CS r c hr hc hRS hCS]
  unfold allC
  rw [sumI_cast, sumI_cast, sumI_add]
  apply sumI_congr
  intro x _
  unfold rowC
  rw [sumI_cast, sumI_cast, sumI_add]
  apply sumI_congr
  intro y _
  unfold one
  cases (RS.testBit x && CS.testBit y) <;> cases E x y <;> rfl
end Go.Proofs.YtemmagkkigdhjaaGreatDoor.ColM

/-
  The walk of the law on EntryOf.
-/
namespace Go.Proofs.YtemmagkkigdhjaaGreatDoor.fnExactEntryOf
open Go.RowKit Go.Proofs.YtemmagkkigdhjaaGreatDoor.Plain Go.Proofs.YtemmagkkigdhjaaGreatDoor.Base Go.Proofs.YtemmagkkigdhjaaGreatDoor.Valid Go.Proofs.YtemmagkkigdhjaaGreatDoor.Law Go.Proofs.YtemmagkkigdhjaaGreatDoor.GridPlain Go.Proofs.YtemmagkkigdhjaaGreatDoor.Grid Go.Proofs.YtemmagkkigdhjaaGreatDoor.Entry
set_option linter.unusedVariables false

/-- m's box later on -/
theorem box3 {w w1 : World} {a b c : Value} {T : TypeId} (hb : Below (w.alloc (.cells #[a, b, c] T)).heap.size (w.alloc (.cells #[a, b, c] T)) w1) :
    w1.cell? ⟨w.heap.size, 0, none⟩ = some a ∧ w1.cell? ⟨w.heap.size, 1, none⟩ = some b ∧ w1.cell? ⟨w.heap.size, 2, none⟩ = some c ∧ w.heap.size < w1.heap.size ∧ Hid (Below w.heap.size w w1) := by
  obtain ⟨h0, h1, h2⟩ := three_of hb
  exact ⟨h0, h1, h2, by have := hb.size; simp at this; omega, bstep ((Below.refl w.heap.size w).alloc (Nat.le_refl _) _) hb⟩

set_option maxHeartbeats 400000 in
theorem int_any (b : Bool) (w : World) :
    Calls Tryz.prog 82 #[.bool b] w fun e w' => e = .returned (.int .i64 (bitI b)) ∧ w = w' := by
  cases b
  all_goals
    go_enter Tryz.func82, Tryz.ntmps82
    go_wp2
    go_ret
    exact ⟨rfl, rfl⟩

end Go.Proofs.YtemmagkkigdhjaaGreatDoor.fnExactEntryOf

