/-
  Texts of one seat, joined: Kept, Door, DoorB.
-/
import Derived.Test.YtohkllmhknjkoaaDoorJp1
import Derived.Test.YtohkllmhknjkoaaDoorJp8
import Derived.Test.YtohkllmhknjkoaaDoorJp5
import Derived.Deep.Quiet
import Derived.Deep.WholeRow
import Derived.Test.YtohkllmhknjkoaaDoorRows
import Derived.WalkKit
import Derived.ProofKit
import Derived.OpenShut
import Derived.Lib.SmallJoins
import Derived.Deep.DeepHandedRow
import GoSem.PinnedTables
import Derived.Test.YtohkllmhknjkoaaDoorJp7
import Derived.Carry
import Derived.WideKeyArgs
import Derived.ChangeSlices
/-
  Blocks that are kept while calls only make memory; a drawn region walked once in the class of the worlds that keep them.
-/
namespace Go.Proofs.YtohkllmhknjkoaaDoor.Kept
open Go.RowKit Go.Proofs.YtohkllmhknjkoaaDoor.Plain Go.Proofs.YtohkllmhknjkoaaDoor.Rd
set_option linter.unusedVariables false

/-- these blocks lie so, and what lay before w lies as it lay -/
structure Kp (w wr : World) (l : List (Nat × Obj)) : Prop where
  all : ∀ p ∈ l, wr.heap[p.1]? = some p.2
  below : Below w.heap.size w wr
theorem kp_step {B : Nat} {w w1 w2 : World} (h : Below B w w1) (hB : B ≤ w1.heap.size) (h2 : Below w1.heap.size w1 w2) : Below B w w2 := h.trans (h2.mono hB)
theorem Kp.nil (w : World) : Kp w w [] := ⟨fun p hp => (by cases hp), Below.refl _ _⟩
theorem Kp.later {w wr w2 : World} {l : List (Nat × Obj)} (h : Kp w wr l) (hb : Below wr.heap.size wr w2) : Kp w w2 l :=
  ⟨fun p hp => (hb.block _ (Array.getElem?_eq_some_iff.1 (h.all p hp)).1).trans (h.all p hp), kp_step h.below h.below.size hb⟩
theorem Kp.drew {w wr : World} {l : List (Nat × Obj)} (h : Kp w wr l) : Kp w { wr with drawn := wr.drawn + 1 } l := ⟨h.all, ⟨h.below.os, h.below.tape, h.below.output, h.below.size, h.below.block⟩⟩
theorem Kp.put {w wr : World} {l : List (Nat × Obj)} (h : Kp w wr l) (o : Obj) {b : Nat} (hb : wr.heap.size = b) : Kp w (wr.alloc o) ((b, o) :: l) := by
  have h2 := h.later ((Below.refl wr.heap.size wr).alloc (Nat.le_refl _) o)
  refine ⟨fun p hp => ?_, h2.below⟩
  rcases List.mem_cons.1 hp with rfl | hp
  · subst hb
    exact heap_alloc_new wr o
  · exact h2.all p hp
theorem Kp.at {w wr : World} {l : List (Nat × Obj)} (h : Kp w wr l) (i : Nat) {p : Nat × Obj} (hi : l[i]? = some p) : wr.heap[p.1]? = some p.2 := h.all p (List.mem_of_getElem? hi)
theorem Kp.sub {w wr : World} {l m : List (Nat × Obj)} (h : Kp w wr l) (hs : ∀ p ∈ m, p ∈ l) : Kp w wr m := ⟨fun p hp => h.all p (hs p hp), h.below⟩

section
variable {P : Program} {ops : Array Oper} {C : World → Prop}
theorem quiet_gen {Q : Act → Prop} {a : Act} {o : Oper} {rest : List Oper} (hw : Region.wanted o (yielded ops a.tmps) = true) (v : Value) (h : ∀ w, C w → o.quietAt P a C w v) (hn : wpQuiet P ops C Q rest (a.put o.dst v)) :
    wpQuiet P ops C Q (o :: rest) a := by
  refine wpQuiet_step fun K hK => ?_
  rw [if_pos hw]
  exact ⟨v, h, hK _ hn⟩
theorem quiet_skip {Q : Act → Prop} {a : Act} {o : Oper} {rest : List Oper} (hw : Region.wanted o (yielded ops a.tmps) = false) (hn : wpQuiet P ops C Q rest (a.put o.dst undef)) :
    wpQuiet P ops C Q (o :: rest) a := by
  refine wpQuiet_step fun K hK => ?_
  rw [if_neg (by rw [hw]; decide)]
  exact hK _ hn
/-- a value, in each world of the class -/
theorem quiet_value {a : Act} {o : Oper} {w : World} {v : Value} (h : (execOp a.eval o).run P w = .ok (.value v) w) : o.quietAt P a C w v := by
  unfold Oper.quietAt
  rw [h]
  exact ⟨rfl, rfl⟩
/-- a call, in each world of the class -/
theorem quiet_enter {a : Act} {o : Oper} {w : World} {v : Value} (f : FuncId) (args : Array Value) (h : (execOp a.eval o).run P w = .ok (.enter f args) w) (hc : Calls P f args w fun e w' => e = .returned v ∧ C w') : o.quietAt P a C w v := by
  unfold Oper.quietAt
  rw [h]
  exact ⟨rfl, hc⟩
end
/-- the walk of the order of the text, closed: a plain wpQuiet over a list that is written out unfolds by itself where a guard skips operations -/
structure WQ (P : Program) (ops : Array Oper) (C : World → Prop) (Q : Act → Prop) (l : List Oper) (a : Act) : Prop where
  out : wpQuiet P ops C Q l a
theorem wq_step {P : Program} {ops : Array Oper} {C : World → Prop} {Q : Act → Prop} {a : Act} {o : Oper} {rest : List Oper}
    (h : ∀ K : Act → Prop, (∀ a, WQ P ops C Q rest a → K a) → if Region.wanted o (yielded ops a.tmps) then o.quiet P a C K else K (a.put o.dst undef)) : WQ P ops C Q (o :: rest) a :=
  ⟨wpQuiet_step fun K hK => h K fun a h2 => hK a h2.out⟩
theorem wq_nil {P : Program} {ops : Array Oper} {C : World → Prop} {Q : Act → Prop} {a : Act} (h : Q a) : WQ P ops C Q [] a := ⟨wpQuiet_nil h⟩
/-- a region that draws its order and whose callees only make memory: one walk of the order of the text -/
theorem region_kept {P : Program} {C : World → Prop} {id : Nat} {Q : Exit → Act → World → Prop} {a : Act} {w : World} {l : List Oper} (hC : C { w with drawn := w.drawn + 1 }) (hm : P.follows .mixedOrders = true) (hB : Region.lexB .any l.toArray = true)
    (h : WQ P l.toArray C (fun a' => ∀ w', C w' → Q .normal a' w') l a) : (Code.region id l.toArray true).wp P Q a w :=
  wp_region_quiet (C := C) hm hB hC (by simpa using h.out)
/-- a callee that only makes memory, met in a world that keeps some blocks -/
theorem Kp.call {P : Program} {f : FuncId} {args : Array Value} {w wx : World} {v : Value} {l : List (Nat × Obj)} (hC : Kp w wx l) (h : Calls P f args wx fun e w' => e = .returned v ∧ Below wx.heap.size wx w') :
    Calls P f args wx fun e w' => e = .returned v ∧ Kp w w' l := h.mono fun e w' ⟨he, hb⟩ => ⟨he, hC.later hb⟩
end Go.Proofs.YtohkllmhknjkoaaDoor.Kept

/-
  What each law of this seat shares: the witness's world, a matrix read as data, and the last part of a statement.
-/
namespace Go.Proofs.YtohkllmhknjkoaaDoor.Door
open Go.ChangeShapes Go.WideShapes Go.ChangeAt Go.RowKit Go.Joins
set_option linter.unusedVariables false

theorem own : ownKnob Tryd.prog.godebug = none := by kernel_rfl
theorem cellsM : Tryd.prog.cellsOf 23 = 3 := by kernel_rfl

/-- the numbers of the table that is read as data -/
def ranges : List Nat := [128, 191, 160, 191, 128, 159, 144, 191, 128, 143, 0, 0, 0, 0, 0, 0, 0, 0, 0, 0, 0, 0, 0, 0, 0, 0, 0, 0, 0, 0, 0, 0]
/-- a block of cells that holds other numbers -/
def relaid (l : List Nat) : Obj → Obj
  | .cells _ t frozen => .cells (l.map fun (n : Nat) => Value.int .u8 (n : Int)).toArray t frozen
  | o => o
/-- a world for the witness: the settled one, both tables as their texts lay them -/
noncomputable def laidWorld (os : Os) : World :=
  { World.holding Tryd.prog os ⟨#[], #[], []⟩ with heap := ((World.holding Tryd.prog os ⟨#[], #[], []⟩).heap.modify 2 (relaid ranges)).modify 1 (relaid Go.Pinned.utf8FirstZ) }

section
variable {H : Type} {enc : TypeId × Value → H}
/-- a matrix read as data in whatever world -/
theorem shutM (W' : World) (sp : Nat → Bool) (r c : Int) (s : ByteArray) (wr : (Lit.int .i64 r).wf = true) (wc : (Lit.int .i64 c).wf = true) (hs : s.size ≤ maxLen) :
    DataW.Trod enc Tryd.prog W' 0 sp true 23 (.agg #[.int .i64 r, .int .i64 c, .string s]) (.agg [.lit (.int .i64 r), .lit (.int .i64 c), .lit (.string s.data.toList)]) [] :=
  shut_agg3 (y0 := (.lit (.int .i64 r), [])) (y1 := (.lit (.int .i64 c), [])) (y2 := (.lit (.string s.data.toList), [])) Tryd.underlying23 (by kernel_rfl) cellsM
    ⟨1, by simp [DataW.trod, Tryd.underlying3, wr]⟩ ⟨1, by simp [DataW.trod, Tryd.underlying3, wc]⟩ ⟨1, by simp [DataW.trod, Tryd.underlying9, hs]⟩

/-- what a call that only makes memory leaves of the statement's last part -/
theorem post_below {P : Program} {f : Func} {s : ChangeSpec} {apart fresh handsOn again : Bool} {W W' : World} {args : Array Value} {v : Value} {ds gs : List (DataW H)} {before : List MemPlace}
    (hW : DataW.Whole enc P f.params.toList s.vars apart W args.toList ds gs before) (hb : Below W.heap.size W W')
    (hres : ∀ (b : Nat) (sp : Nat → Bool) (hd : Bool), DataW.TrodAll enc P W' b sp hd f.resultTypes.toList (v.resultList f.resultTypes.size) (s.fn H (ds ++ gs)).results [])
    (hargs : ∀ sp : Nat → Bool, (∀ p ∈ before, sp p.block = true) → DataW.TrodAll enc P W' 0 sp true f.params.toList args.toList (s.fn H (ds ++ gs)).args before)
    (hvars : ∀ sp : Nat → Bool, (∀ p ∈ before, sp p.block = true) → DataW.TrodVars enc P W' sp s.vars (s.fn H (ds ++ gs)).vars [])
    (hok : ∀ (j : Nat) (t : TypeId) (r : Value), f.resultTypes[j]? = some t → (v.resultList f.resultTypes.size)[j]? = some r → Value.okWide P W' .any 0 t r) :
    s.post enc P f apart fresh handsOn again W args v W' := by
  have hlt := hW.lt
  have hold : ∀ p ∈ before, (fun b => decide (b < W.heap.size)) p.block = true := fun p hp => by simpa using hlt p hp
  refine ⟨ds, gs, before, [], before, [], hW, hres _ _ _, hargs _ hold, hvars _ hold, hb.frame _, fun _ => ?_⟩
  obtain ⟨_, _, _, _, _, hz, hn⟩ := hW
  refine ⟨hok, _, _, ([] ++ before) ++ [], ⟨[] ++ before, [], trodAll_append (hargs _ (fun _ _ => rfl)) (hres _ _ _), hvars _ (fun _ _ => rfl), rfl, ?_, ?_⟩, ?_⟩
  · intro b off hp
    have hp' : MemPlace.cell b off ∈ before := by simpa using hp
    rw [hb.frozen (p := ⟨b, off, none⟩) (hlt _ hp')]
    exact hz b off hp'
  · intro ha
    simpa using hn ha
  · intro p hp _
    simpa using hp
end
end Go.Proofs.YtohkllmhknjkoaaDoor.Door

/-
  A slice of bytes as an argument: opened, and read again.
-/
namespace Go.Proofs.YtohkllmhknjkoaaDoor.DoorB
open Go.ChangeShapes Go.WideShapes Go.ChangeAt Go.RowKit Go.Joins Go.Proofs.YtohkllmhknjkoaaDoor.Plain Go.Proofs.YtohkllmhknjkoaaDoor.Rd
set_option linter.unusedVariables false
set_option maxRecDepth 100000

theorem laidOut : laidOutB Tryd.prog = true := by kernel_rfl
theorem cellsB : Tryd.prog.cellsOf 5 = 1 := by kernel_rfl

section
variable {H : Type} {enc : TypeId × Value → H}
theorem slice_at {W : World} {base : Nat} {a : Addr} {len cap : Nat} (hv : Value.okWide Tryd.prog W .any base 31 (.slice (some a) len cap)) : a.spot = none ∧ a.block < W.heap.size := by
  simp only [Value.okWide, Tryd.underlying31, Cell.okWide, Cell.ok] at hv
  obtain ⟨_, _, _, hs, row, cells, hsh, _⟩ := hv
  refine ⟨hs, ?_⟩
  unfold World.shape? at hsh
  by_cases h : a.block < W.heap.size
  · exact h
  · rw [Array.getElem?_eq_none (by omega)] at hsh
    simp at hsh

/-- opened -/
theorem opened {W : World} {base : Nat} {v : Value} {d : DataW H} {p : List MemPlace} (hv : Value.okWide Tryd.prog W .any base 31 v)
    (h0 : DataW.Trod enc Tryd.prog W 0 (fun _ => true) true 31 v d p) : ∃ n : Nat, ByteArg W v n := by
  obtain ⟨a0, len, cap, rfl⟩ := okWide_slice Tryd.underlying31 hv
  obtain ⟨fuel, hf⟩ := h0
  rcases open_ints Tryd.underlying31 Tryd.underlying5 cellsB hf with ⟨hcs, hx⟩ | ⟨a, len', cap', zs, hcs, _, hl, hm, hz, hx, hcell, hwz⟩
  · simp [Value.cells] at hcs
    obtain ⟨rfl, rfl, rfl⟩ := hcs
    exact ⟨0, by omega, none, 0, rfl, Nat.le_refl _, .inl rfl⟩
  · simp [Value.cells] at hcs
    obtain ⟨rfl, rfl, rfl⟩ := hcs
    simp only [if_true] at hz
    obtain ⟨hs, hb⟩ := slice_at hv
    obtain ⟨b, off, spot⟩ := a
    obtain rfl : spot = none := hs
    refine ⟨len, by unfold maxLen at hm; omega, some ⟨b, off, none⟩, cap, rfl, by omega, .inr ⟨b, off, rfl, hb, fun j hj => ?_⟩⟩
    have hc := hcell j (by omega)
    rw [add_plain] at hc
    have hw := hwz _ (List.getElem_mem (show j < zs.length by omega))
    have e : zs.getD j 0 = zs[j]'(by omega) := by simp [List.getD, show j < zs.length by omega]
    rw [e] at hc
    refine ⟨zs[j]'(by omega), ?_, ?_, hc⟩
    · simp [Lit.wf, IntKind.min, IntKind.max, IntKind.bits, IntKind.signed] at hw
      omega
    · simp [Lit.wf, IntKind.min, IntKind.max, IntKind.bits, IntKind.signed] at hw
      omega

/-- read again, in whatever world that only made memory -/
theorem again {W W' : World} {v : Value} {d : DataW H} {p before : List MemPlace} (h0 : DataW.Trod enc Tryd.prog W 0 (fun _ => true) true 31 v d p) (hb : Below W.heap.size W W')
    (hlt : ∀ x ∈ before, x.block < W.heap.size) (hin : ∀ x ∈ p, x ∈ before) (sp : Nat → Bool) (hp : ∀ x ∈ before, sp x.block = true) : DataW.Trod enc Tryd.prog W' 0 sp true 31 v d p :=
  WideElems.Trod_stays laidOut (by kernel_rfl) (of_decide_eq_true (by kernel_rfl)) h0 (fun x hx => hb.same (hlt x (hin x hx))) (fun x hx => hp x (hin x hx))
end
end Go.Proofs.YtohkllmhknjkoaaDoor.DoorB

