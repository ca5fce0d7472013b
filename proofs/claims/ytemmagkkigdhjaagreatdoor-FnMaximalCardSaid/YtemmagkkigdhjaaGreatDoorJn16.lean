/-
  Texts of one seat, joined: Kept, CountWalk, TurnWalk.
-/
import Derived.Test.YtemmagkkigdhjaaGreatDoorJn2
import Derived.Test.YtemmagkkigdhjaaGreatDoorJn4
import Derived.Deep.Quiet
import Derived.Deep.WholeRow
import Derived.Test.YtemmagkkigdhjaaGreatDoorJn9
import Derived.Shelf.Strings.Count
import Derived.Test.YtemmagkkigdhjaaGreatDoorJn14
/-
  Blocks that are kept while calls only make memory; a drawn region walked once in the class of the worlds that keep them.
-/
namespace Go.Proofs.YtemmagkkigdhjaaGreatDoor.Kept
open Go.RowKit Go.Proofs.YtemmagkkigdhjaaGreatDoor.Plain Go.Proofs.YtemmagkkigdhjaaGreatDoor.Rd
set_option linter.unusedVariables false

/-- these blocks lie so, and what lay before w lies as it lay -/
structure Kp (w wr : World) (l : List (Nat × Obj)) : Prop where
  all : ∀ p ∈ l, wr.heap[p.1]? = some p.2
  below : Below w.heap.size w wr
theorem kp_step {B : Nat} {w w1 w2 : World} (h : Below B w w1) (hB : B ≤ w1.heap.size) (h2 : Below w1.heap.size w1 w2) : Below B w w2 := h.trans (h2.mono hB)
theorem Kp.nil (w : World) : Kp w w [] := ⟨fun p hp => (by cases hp), Below.refl _ _⟩
theorem Kp.later {w wr w2 : World} {l : List (Nat × Obj)} (h : Kp w wr l) (hb : Below wr.heap.size wr w2) : Kp w w2 l :=
  ⟨fun p hp => (hb.block _ (Array.getElem?_eq_some_iff.1 (h.all p hp)).1).trans (h.all p hp), kp_step h.below h.below.size hb⟩
theorem Kp.drew {w wr : World} {l : List (Nat × Obj)} (h : Kp w wr l) : Kp w { wr with drawn := wr.drawn + 1 } l := ⟨h.all, ⟨h.below.os, h.below.tape, h.below.output, h.below.size, h.below.block⟩⟩
theorem Kp.put {w wr : World} {l : List (Nat × Obj)} (h : Kp w wr l) (o : Obj) {b : Nat} (hb : wr.heap.size = b) : Kp w (wr.alloc o) ((b, o) :: l) := by
  have h2 := h.later ((Below.refl wr.heap.size wr).alloc (Nat.le_refl _) o)
  refine ⟨fun p hp => ?_, h2.below⟩
  rcases List.mem_cons.1 hp with rfl | hp
  · subst hb
    exact heap_alloc_new wr o
  · exact h2.all p hp
theorem Kp.at {w wr : World} {l : List (Nat × Obj)} (h : Kp w wr l) (i : Nat) {p : Nat × Obj} (hi : l[i]? = some p) : wr.heap[p.1]? = some p.2 := h.all p (List.mem_of_getElem? hi)
theorem Kp.sub {w wr : World} {l m : List (Nat × Obj)} (h : Kp w wr l) (hs : ∀ p ∈ m, p ∈ l) : Kp w wr m := ⟨fun p hp => h.all p (hs p hp), h.below⟩

section
variable {P : Program} {ops : Array Oper} {C : World → Prop}
theorem quiet_gen {Q : Act → Prop} {a : Act} {o : Oper} {rest : List Oper} (hw : Region.wanted o (yielded ops a.tmps) = true) (v : Value) (h : ∀ w, C w → o.quietAt P a C w v) (hn : wpQuiet P ops C Q rest (a.put o.dst v)) :
    wpQuiet P ops C Q (o :: rest) a := by
  refine wpQuiet_step fun K hK => ?_
  rw [if_pos hw]
  exact ⟨v, h, hK _ hn⟩
theorem quiet_skip {Q : Act → Prop} {a : Act} {o : Oper} {rest : List Oper} (hw : Region.wanted o (yielded ops a.tmps) = false) (hn : wpQuiet P ops C Q rest (a.put o.dst undef)) :
    wpQuiet P ops C Q (o :: rest) a := by
  refine wpQuiet_step fun K hK => ?_
  rw [if_neg (by rw [hw]; decide)]
  exact hK _ hn
/-- a value, in each world of the class -/
theorem quiet_value {a : Act} {o : Oper} {w : World} {v : Value} (h : (execOp a.eval o).run P w = .ok (.value v) w) : o.quietAt P a C w v := by
  unfold Oper.quietAt
  rw [h]
  exact ⟨rfl, rfl⟩
/-- a call, in each world of the class -/
theorem quiet_enter {a : Act} {o : Oper} {w : World} {v : Value} (f : FuncId) (args : Array Value) (h : (execOp a.eval o).run P w = .ok (.enter f args) w) (hc : Calls P f args w fun e w' => e = .returned v ∧ C w') : o.quietAt P a C w v := by
  unfold Oper.quietAt
  rw [h]
  exact ⟨rfl, hc⟩
end
/-- the walk of the order of the text, closed: a plain wpQuiet over a list that is written out unfolds by itself where a guard skips operations -/
structure WQ (P : Program) (ops : Array Oper) (C : World → Prop) (Q : Act → Prop) (l : List Oper) (a : Act) : Prop where
  out : wpQuiet P ops C Q l a
theorem wq_step {P : Program} {ops : Array Oper} {C : World → Prop} {Q : Act → Prop} {a : Act} {o : Oper} {rest : List Oper}
    (h : ∀ K : Act → Prop, (∀ a, WQ P ops C Q rest a → K a) → if Region.wanted o (yielded ops a.tmps) then o.quiet P a C K else K (a.put o.dst undef)) : WQ P ops C Q (o :: rest) a :=
  ⟨wpQuiet_step fun K hK => h K fun a h2 => hK a h2.out⟩
theorem wq_nil {P : Program} {ops : Array Oper} {C : World → Prop} {Q : Act → Prop} {a : Act} (h : Q a) : WQ P ops C Q [] a := ⟨wpQuiet_nil h⟩
/-- a region that draws its order and whose callees only make memory: one walk of the order of the text -/
theorem region_kept {P : Program} {C : World → Prop} {id : Nat} {Q : Exit → Act → World → Prop} {a : Act} {w : World} {l : List Oper} (hC : C { w with drawn := w.drawn + 1 }) (hm : P.follows .mixedOrders = true) (hB : Region.lexB .any l.toArray = true)
    (h : WQ P l.toArray C (fun a' => ∀ w', C w' → Q .normal a' w') l a) : (Code.region id l.toArray true).wp P Q a w :=
  wp_region_quiet (C := C) hm hB hC (by simpa using h.out)
/-- a callee that only makes memory, met in a world that keeps some blocks -/
theorem Kp.call {P : Program} {f : FuncId} {args : Array Value} {w wx : World} {v : Value} {l : List (Nat × Obj)} (hC : Kp w wx l) (h : Calls P f args wx fun e w' => e = .returned v ∧ Below wx.heap.size wx w') :
    Calls P f args wx fun e w' => e = .returned v ∧ Kp w w' l := h.mono fun e w' ⟨he, hb⟩ => ⟨he, hC.later hb⟩
end Go.Proofs.YtemmagkkigdhjaaGreatDoor.Kept

/-
  The walk of the law on CountOnes.
-/
namespace Go.Proofs.YtemmagkkigdhjaaGreatDoor.fnExactCountOnes
open Go.RowKit Go.Proofs.YtemmagkkigdhjaaGreatDoor.Plain Go.Proofs.YtemmagkkigdhjaaGreatDoor.Base Go.Proofs.YtemmagkkigdhjaaGreatDoor.Valid Go.Proofs.YtemmagkkigdhjaaGreatDoor.Law
set_option linter.unusedVariables false

/-- what CountOnes returns -/
def cntI (r c : Int) (s : ByteArray) : Int := if validB r c s then (Lib.countByte s.data.toList 49 : Nat) else -1

set_option maxHeartbeats 400000 in
theorem l1Int_any (b : Bool) (w : World) :
    Calls Tryz.prog 82 #[.bool b] w fun e w' => e = .returned (.int .i64 (bitI b)) ∧ w = w' := by
  cases b
  all_goals
    go_enter Tryz.func82, Tryz.ntmps82
    go_wp2
    go_ret
    exact ⟨rfl, rfl⟩

theorem count_next (s : ByteArray) (k : Nat) (hk : k < s.size) (b : Bool) (hb : ((s[k].toNat : Int) == 49) = b) :
    ((Lib.countByte (s.data.toList.take (k + 1)) 49 : Nat) : Int) = ((Lib.countByte (s.data.toList.take k) 49 : Nat) : Int) + bitI b := by
  have ht : s.data.toList.take (k + 1) = s.data.toList.take k ++ [s[k]] := by
    rw [List.take_succ_eq_append_getElem (by simpa using hk)]; rfl
  rw [ht]
  unfold Lib.countByte
  rw [List.count_append]
  subst hb
  by_cases h : s[k] = 49
  · rw [h]; rfl
  · have h2 : ((s[k].toNat : Int) == 49) = false := beq_eq_false_iff_ne.2 fun e => h (UInt8.toNat_inj.1 (by show s[k].toNat = 49; omega))
    have h3 : List.count 49 [s[k]] = 0 := by simp [h]
    rw [h2, h3]
    simp [bitI]

end Go.Proofs.YtemmagkkigdhjaaGreatDoor.fnExactCountOnes

/-
  The walk of the law on TurnMatrix.
-/
namespace Go.Proofs.YtemmagkkigdhjaaGreatDoor.fnExactTurnMatrix
open Go.RowKit Go.Proofs.YtemmagkkigdhjaaGreatDoor.Plain Go.Proofs.YtemmagkkigdhjaaGreatDoor.Base Go.Proofs.YtemmagkkigdhjaaGreatDoor.Valid Go.Proofs.YtemmagkkigdhjaaGreatDoor.Law Go.Proofs.YtemmagkkigdhjaaGreatDoor.GridPlain Go.Proofs.YtemmagkkigdhjaaGreatDoor.Grid Go.Proofs.YtemmagkkigdhjaaGreatDoor.Entry Go.Proofs.YtemmagkkigdhjaaGreatDoor.Clos Go.Proofs.YtemmagkkigdhjaaGreatDoor.SpecTO
set_option linter.unusedVariables false

theorem three_at {w1 w2 : World} {a b c : Value} {T : TypeId} (hb : Below (w1.alloc (.cells #[a, b, c] T)).heap.size (w1.alloc (.cells #[a, b, c] T)) w2) :
    w1.heap.size < w2.heap.size ∧ w2.cell? ⟨w1.heap.size, 0, none⟩ = some a ∧ w2.cell? ⟨w1.heap.size, 1, none⟩ = some b ∧ w2.cell? ⟨w1.heap.size, 2, none⟩ = some c := by
  obtain ⟨h0, h1, h2⟩ := three_of hb
  exact ⟨by have := hb.size; simp at this; omega, h0, h1, h2⟩

end Go.Proofs.YtemmagkkigdhjaaGreatDoor.fnExactTurnMatrix

