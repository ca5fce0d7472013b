/-
  Texts of one seat, joined: DiscF, Door.
-/
import Derived.Test.YtgmhddceeomjbaaGreatDoorJ20
import Derived.Test.YtgmhddceeomjbaaGreatDoorJ22
import Derived.Test.YtgmhddceeomjbaaGreatDoorJ31
import Derived.Test.YtgmhddceeomjbaaGreatDoorJ35
import Derived.Test.YtgmhddceeomjbaaGreatDoorRows
import Derived.Test.YtgmhddceeomjbaaGreatDoorJ4
import Derived.WalkKit
import Derived.ProofKit
import Derived.OpenShut
import Derived.Lib.SmallJoins
import Derived.Deep.DeepHandedRow
import GoSem.PinnedTables
/-
  What the functions of a valid matrix answer that the law on discrepancy asks: the discrepancy, balances, the largest plain rectangle.
-/
namespace Go.Proofs.YtgmhddceeomjbaaGreatDoor.DiscF
open Go.RowKit Go.Proofs.YtgmhddceeomjbaaGreatDoor.Plain Go.Proofs.YtgmhddceeomjbaaGreatDoor.Base Go.Proofs.YtgmhddceeomjbaaGreatDoor.Valid Go.Proofs.YtgmhddceeomjbaaGreatDoor.Law Go.Proofs.YtgmhddceeomjbaaGreatDoor.GridPlain Go.Proofs.YtgmhddceeomjbaaGreatDoor.Grid Go.Proofs.YtgmhddceeomjbaaGreatDoor.Entry Go.Proofs.YtgmhddceeomjbaaGreatDoor.Pat Go.Proofs.YtgmhddceeomjbaaGreatDoor.Rect Go.Proofs.YtgmhddceeomjbaaGreatDoor.Patch Go.Proofs.YtgmhddceeomjbaaGreatDoor.Board Go.Proofs.YtgmhddceeomjbaaGreatDoor.BoardM Go.Proofs.YtgmhddceeomjbaaGreatDoor.RValid Go.Proofs.YtgmhddceeomjbaaGreatDoor.Bal Go.Proofs.YtgmhddceeomjbaaGreatDoor.Colour Go.Proofs.YtgmhddceeomjbaaGreatDoor.MaxM Go.Proofs.YtgmhddceeomjbaaGreatDoor.MaxC Go.Proofs.YtgmhddceeomjbaaGreatDoor.Largest Go.Proofs.YtgmhddceeomjbaaGreatDoor.DiscT Go.Proofs.YtgmhddceeomjbaaGreatDoor.ColF
open Go.Proofs.YtgmhddceeomjbaaGreatDoor.KeysI (flat)
open Go.Proofs.YtgmhddceeomjbaaGreatDoor.Disc (foldTo fold_eq spec_disc)
open Go.Proofs.YtgmhddceeomjbaaGreatDoor.fnExactDiscrepancyOf (impl_all spec_dOf)
set_option linter.unusedVariables false
set_option linter.unusedSectionVars false

section
variable (E : Nat → Nat → Bool) (R C : Nat) (h1 : 1 ≤ R) (h2 : R ≤ 8) (h3 : 1 ≤ C) (h4 : C ≤ 8)
include h1 h2 h3 h4
theorem disc_spec (w : World) : Calls Tryz.prog 22 #[mat R C (str (rowsB E R C))] w fun e w' => e = .returned (.int .i64 (disc E R C)) ∧ Below w.heap.size w w' := by
  have hp : 2 ≤ 2 ^ R := by
    have := Nat.pow_le_pow_right (n := 2) (by decide) h1
    omega
  unfold disc
  rw [← fold_eq E R C h2 h4 _ (by omega)]
  exact spec_dOf R C _ _ (rows_max E R C h2 h4) true (valid_rows E R C h1 h2 h3 h4) (fun _ W => spec_disc E R C h1 h2 h3 h4 W) w
theorem disc_impl (w : World) : Calls Tryz.prog 21 #[mat R C (str (rowsB E R C))] w fun e w' => e = .returned (.int .i64 (disc E R C)) ∧ Below w.heap.size w w' :=
  impl_all E R C h2 h4 _ _ _ (fun W => board_yes R C E h1 h2 h3 h4 (rows_max E R C h2 h4) (valid_rows E R C h1 h2 h3 h4) W) w
theorem max_impl (b : Bool) (w : World) : Calls Tryz.prog 19 #[mat R C (str (rowsB E R C)), .int .i64 (bitI b)] w fun e w' => ∃ v, e = .returned v ∧ w'.ownsRow w.heap.size 34 2 v (mx E b R C (2 ^ R - 1)).length (flat (mx E b R C (2 ^ R - 1))) ∧ Below w.heap.size w w' := by
  have hbd := fun W => board_yes R C E h1 h2 h3 h4 (rows_max E R C h2 h4) (valid_rows E R C h1 h2 h3 h4) W
  have z64 := pat64 (onB (fun x y => !E x y) R C) (onB_lt _ R C h4)
  have o64 := pat64 (onB E R C) (onB_lt _ R C h4)
  cases b
  · exact MaxB.impl_one E (fun x y => !E x y) false (fun x y => by cases E x y <;> rfl) R C h2 h4 _ _ z64 o64 (.inl ⟨rfl, rfl⟩) R C _ hbd w
  · exact MaxB.impl_one E E true (fun x y => by cases E x y <;> rfl) R C h2 h4 _ _ z64 o64 (.inr ⟨rfl, rfl⟩) R C _ hbd w
theorem max_len (b : Bool) : (mx E b R C (2 ^ R - 1)).length ≤ 1000 := by
  have hl := mx_len E b R C (2 ^ R - 1)
  have h5 := Nat.pow_le_pow_right (n := 2) (by decide) h2
  omega
theorem max_some (b : Bool) : ∀ p ∈ mx E b R C (2 ^ R - 1), someB p.1 p.2 = true := fun p hp => (someB_iff _ _).2 (by
  have := mx_wf E b R C _ h4 p hp
  have h5 := Nat.pow_le_pow_right (n := 2) (by decide) h2
  have hp1 := Nat.one_le_two_pow (n := R)
  omega)
/-- the largest one with a value -/
def best (E : Nat → Nat → Bool) (R C : Nat) (b : Bool) : Int × Int := bestTo (mx E b R C (2 ^ R - 1)) (mx E b R C (2 ^ R - 1)).length
def has (E : Nat → Nat → Bool) (R C : Nat) (b : Bool) : Bool := decide (0 < (mx E b R C (2 ^ R - 1)).length)
theorem large_impl (b : Bool) (w : World) : Calls Tryz.prog 25 #[mat R C (str (rowsB E R C)), .int .i64 (bitI b)] w fun e w' => e = .returned (.tuple #[rect (best E R C b).1 (best E R C b).2, .bool (has E R C b)]) ∧ Below w.heap.size w w' :=
  impl_largest R C _ (bitI b) (mx E b R C (2 ^ R - 1)) (max_len E R C h1 h2 h3 h4 b) (max_some E R C h1 h2 h3 h4 b) (fun W => max_impl E R C h1 h2 h3 h4 b W) w
end
theorem bal_impl (E : Nat → Nat → Bool) (R C : Nat) (h1 : 1 ≤ R) (h2 : R ≤ 8) (h3 : 1 ≤ C) (h4 : C ≤ 8) (RS CS : Nat) (k1 : 1 ≤ RS) (k2 : RS < 2 ^ R) (k3 : 1 ≤ CS) (k4 : CS < 2 ^ C) (k5 : RS < 256) (k6 : CS < 256) (w : World) :
    Calls Tryz.prog 24 #[mat R C (str (rowsB E R C)), rect RS CS] w fun e w' => e = .returned (.tuple #[.int .i64 (bal E RS CS R C), .bool true]) ∧ Below w.heap.size w w' := by
  have hbd := fun W => board_yes R C E h1 h2 h3 h4 (rows_max E R C h2 h4) (valid_rows E R C h1 h2 h3 h4) W
  have ht := rv_yes R C h2 h4 RS CS k1 k2 k3 k4
  refine impl_balOf_yes R C h2 h4 _ _ _ _ _ RS CS _ hbd ht (fun W => ?_) w
  have hb := balance_any (R : Int) (C : Int) (onB (fun x y => !E x y) R C) (onB E R C) (onB_lt _ R C h4) (onB_lt _ R C h4) RS CS k5 k6 W
  rw [show (((sumN (fun x => pop8 (rectB RS CS x &&& onB E R C x)) 8 : Nat) : Int) - ((sumN (fun x => pop8 (rectB RS CS x &&& onB (fun x y => !E x y) R C x)) 8 : Nat) : Int)) = bal E RS CS R C from bal_count E RS CS R C h2 h4 k6] at hb
  exact hb
/-- the best one is one of the list -/
theorem best_mem (ts : List (Int × Int)) (h : ∀ p ∈ ts, someB p.1 p.2 = true) : ∀ k, 1 ≤ k → k ≤ ts.length → bestTo ts k ∈ ts
  | 0, h1, _ => absurd h1 (by omega)
  | k + 1, _, hk => by
    have hm : ts[k]! ∈ ts := by rw [getElem!_pos ts k (by omega)]; exact List.getElem_mem _
    rw [bestTo]
    split
    · exact hm
    · rename_i hlt
      rcases Nat.eq_zero_or_pos k with rfl | hk0
      · exfalso
        apply hlt
        rw [bestTo, ar_zero]
        have := ar_pos _ (h _ hm)
        omega
      · exact best_mem ts h k hk0 (by omega)
/-- a plain rectangle's area is at most the discrepancy -/
theorem area_disc (E : Nat → Nat → Bool) (b : Bool) (R C : Nat) (h1 : 1 ≤ R) (h2 : R ≤ 8) (h3 : 1 ≤ C) (h4 : C ≤ 8) (p : Int × Int) (hp : p ∈ mx E b R C (2 ^ R - 1)) : 0 ≤ ar p ∧ ar p ≤ disc E R C := by
  have hsome := max_some E R C h1 h2 h3 h4 b p hp
  refine ⟨ar_pos p hsome, ?_⟩
  obtain ⟨S, s1, s2, c1, hrS, rfl⟩ := (mx_mem E b R C p _).1 hp
  have hpR := Nat.one_le_two_pow (n := R)
  have hSR : S < 2 ^ R := by omega
  have hCC := cS_lt E b R C S
  unfold ar
  rw [if_pos hsome]
  show ((pop8 S * pop8 (cS E b R C S) : Nat) : Int) ≤ _
  have hup := disc_up E R C S (cS E b R C S) s1 hSR
  have hin : ∀ x y, S.testBit x = true → (cS E b R C S).testBit y = true → E x y = b := fun x y hx hy => by
    have hxR : x < R := by
      rcases Nat.lt_or_ge x R with h | h
      · exact h
      · rw [bit_beyond S x R hSR h] at hx; cases hx
    exact ((cS_bit ..).1 hy).2 x hxR hx
  cases b with
  | true => 
    have := (bal_area E S (cS E true R C S) R C h2 h4 hSR hCC).2 hin
    omega
  | false =>
    have := (bal_area (fun x y => !E x y) S (cS E false R C S) R C h2 h4 hSR hCC).2 (fun x y hx hy => by rw [hin x y hx hy]; rfl)
    rw [← bal_not] at this
    omega
theorem best_area (E : Nat → Nat → Bool) (b : Bool) (R C : Nat) (h1 : 1 ≤ R) (h2 : R ≤ 8) (h3 : 1 ≤ C) (h4 : C ≤ 8) (h : has E R C b = true) : 0 ≤ ar (best E R C b) ∧ ar (best E R C b) ≤ disc E R C := by
  unfold has at h
  rw [decide_eq_true_iff] at h
  exact area_disc E b R C h1 h2 h3 h4 _ (best_mem _ (max_some E R C h1 h2 h3 h4 b) _ h (Nat.le_refl _))
/-- what is no matrix -/
theorem disc_no (a b : Int) (t : ByteArray) (hs : t.size ≤ maxLen) (hv' : validB a b t = false) :
    (∀ w, Calls Tryz.prog 22 #[mat a b t] w fun e w' => e = .returned (.int .i64 (-1)) ∧ Below w.heap.size w w') ∧
    (∀ w, Calls Tryz.prog 21 #[mat a b t] w fun e w' => e = .returned (.int .i64 (-1)) ∧ Below w.heap.size w w') :=
  ⟨fun w => spec_dOf a b 0 t hs false hv' (fun h => by cases h) w, fun w => impl_all (fun _ _ => false) 0 0 (by omega) (by omega) a b t (fun W => board_no a b t hs hv' W) w⟩
end Go.Proofs.YtgmhddceeomjbaaGreatDoor.DiscF

/-
  What each law of this seat shares: the witness's world, a matrix read as data, and the last part of a statement.
-/
namespace Go.Proofs.YtgmhddceeomjbaaGreatDoor.Door
open Go.ChangeShapes Go.WideShapes Go.ChangeAt Go.RowKit Go.Joins
set_option linter.unusedVariables false

theorem own : ownKnob Tryz.prog.godebug = none := by kernel_rfl
theorem cellsM : Tryz.prog.cellsOf 23 = 3 := by kernel_rfl

/-- the numbers of the table that is read as data -/
def ranges : List Nat := [128, 191, 160, 191, 128, 159, 144, 191, 128, 143, 0, 0, 0, 0, 0, 0, 0, 0, 0, 0, 0, 0, 0, 0, 0, 0, 0, 0, 0, 0, 0, 0]
/-- a block of cells that holds other numbers -/
def relaid (l : List Nat) : Obj → Obj
  | .cells _ t frozen => .cells (l.map fun (n : Nat) => Value.int .u8 (n : Int)).toArray t frozen
  | o => o
/-- a world for the witness: the settled one, both tables as their texts lay them -/
noncomputable def laidWorld (os : Os) : World :=
  { World.holding Tryz.prog os ⟨#[], #[], []⟩ with heap := ((World.holding Tryz.prog os ⟨#[], #[], []⟩).heap.modify 1 (relaid ranges)).modify 0 (relaid Go.Pinned.utf8FirstZ) }

section
variable {H : Type} {enc : TypeId × Value → H}
/-- a matrix read as data in whatever world -/
theorem shutM (W' : World) (sp : Nat → Bool) (r c : Int) (s : ByteArray) (wr : (Lit.int .i64 r).wf = true) (wc : (Lit.int .i64 c).wf = true) (hs : s.size ≤ maxLen) :
    DataW.Trod enc Tryz.prog W' 0 sp true 23 (.agg #[.int .i64 r, .int .i64 c, .string s]) (.agg [.lit (.int .i64 r), .lit (.int .i64 c), .lit (.string s.data.toList)]) [] :=
  shut_agg3 (y0 := (.lit (.int .i64 r), [])) (y1 := (.lit (.int .i64 c), [])) (y2 := (.lit (.string s.data.toList), [])) Tryz.underlying23 (by kernel_rfl) cellsM
    ⟨1, by simp [DataW.trod, Tryz.underlying3, wr]⟩ ⟨1, by simp [DataW.trod, Tryz.underlying3, wc]⟩ ⟨1, by simp [DataW.trod, Tryz.underlying9, hs]⟩

/-- what a call that only makes memory leaves of the statement's last part -/
theorem post_below {P : Program} {f : Func} {s : ChangeSpec} {apart fresh handsOn again : Bool} {W W' : World} {args : Array Value} {v : Value} {ds gs : List (DataW H)} {before : List MemPlace}
    (hW : DataW.Whole enc P f.params.toList s.vars apart W args.toList ds gs before) (hb : Below W.heap.size W W')
    (hres : ∀ (b : Nat) (sp : Nat → Bool) (hd : Bool), DataW.TrodAll enc P W' b sp hd f.resultTypes.toList (v.resultList f.resultTypes.size) (s.fn H (ds ++ gs)).results [])
    (hargs : ∀ sp : Nat → Bool, (∀ p ∈ before, sp p.block = true) → DataW.TrodAll enc P W' 0 sp true f.params.toList args.toList (s.fn H (ds ++ gs)).args before)
    (hvars : ∀ sp : Nat → Bool, (∀ p ∈ before, sp p.block = true) → DataW.TrodVars enc P W' sp s.vars (s.fn H (ds ++ gs)).vars [])
    (hok : ∀ (j : Nat) (t : TypeId) (r : Value), f.resultTypes[j]? = some t → (v.resultList f.resultTypes.size)[j]? = some r → Value.okWide P W' .any 0 t r) :
    s.post enc P f apart fresh handsOn again W args v W' := by
  have hlt := hW.lt
  have hold : ∀ p ∈ before, (fun b => decide (b < W.heap.size)) p.block = true := fun p hp => by simpa using hlt p hp
  refine ⟨ds, gs, before, [], before, [], hW, hres _ _ _, hargs _ hold, hvars _ hold, hb.frame _, fun _ => ?_⟩
  obtain ⟨_, _, _, _, _, hz, hn⟩ := hW
  refine ⟨hok, _, _, ([] ++ before) ++ [], ⟨[] ++ before, [], trodAll_append (hargs _ (fun _ _ => rfl)) (hres _ _ _), hvars _ (fun _ _ => rfl), rfl, ?_, ?_⟩, ?_⟩
  · intro b off hp
    have hp' : MemPlace.cell b off ∈ before := by simpa using hp
    rw [hb.frozen (p := ⟨b, off, none⟩) (hlt _ hp')]
    exact hz b off hp'
  · intro ha
    simpa using hn ha
  · intro p hp _
    simpa using hp
end
end Go.Proofs.YtgmhddceeomjbaaGreatDoor.Door

