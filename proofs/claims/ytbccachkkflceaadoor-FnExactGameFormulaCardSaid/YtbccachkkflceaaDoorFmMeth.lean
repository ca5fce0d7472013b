/-
  The methods of the program's letters and gates: where they are true, how many letters, the dual; how deep.
-/
import Derived.Test.YtbccachkkflceaaDoorFmNo
import Derived.Test.YtbccachkkflceaaDoorBase
import Derived.Test.YtbccachkkflceaaDoorWhere
import Derived.Test.YtbccachkkflceaaDoorWq
import Derived.Laws.Rows
namespace Go.Proofs.YtbccachkkflceaaDoor.FmMeth
open Go.RowKit Go.Shelf Go.Proofs.YtbccachkkflceaaDoor.Plain Go.Proofs.YtbccachkkflceaaDoor.Pat Go.Proofs.YtbccachkkflceaaDoor.Fm Go.Proofs.YtbccachkkflceaaDoor.FmB Go.Proofs.YtbccachkkflceaaDoor.Rect Go.Proofs.YtbccachkkflceaaDoor.FmRead Go.Proofs.YtbccachkkflceaaDoor.Base Go.Proofs.YtbccachkkflceaaDoor.Where
open Go.Proofs.YtbccachkkflceaaDoor.Wq (WQ wq_step wq_nil region_kept drew_at)
set_option linter.unusedVariables false
set_option linter.unusedSimpArgs false

/-- a method of a formula: its receiver's kind, and what is said of the call -/
def Node (fe fs : FuncId) (t : F) (C : FuncId → Value → Prop) : Prop :=
  (∃ V, tree t = .iface 65 V ∧ C fe V) ∨ (∃ V, tree t = .iface 83 V ∧ C fs V)
theorem cells3 {w : World} {b : Nat} {c0 c1 c2 : Value} {ty : TypeId} (h : w.heap[b]? = some (.cells #[c0, c1, c2] ty (0, 0))) : w.cell? ⟨b, 0, none⟩ = some c0 ∧ w.cell? ⟨b, 1, none⟩ = some c1 ∧ w.cell? ⟨b, 2, none⟩ = some c2 :=
  ⟨cell_of_row _ _ 0 _ _ _ h, cell_of_row _ _ 1 _ _ _ h, cell_of_row _ _ 2 _ _ _ h⟩
theorem cells2 {w : World} {b : Nat} {c0 c1 : Value} {ty : TypeId} (h : w.heap[b]? = some (.cells #[c0, c1] ty (0, 0))) : w.cell? ⟨b, 0, none⟩ = some c0 ∧ w.cell? ⟨b, 1, none⟩ = some c1 :=
  ⟨cell_of_row _ _ 0 _ _ _ h, cell_of_row _ _ 1 _ _ _ h⟩

/-! ### where a formula is true -/
theorem bits2 (x y : Nat) (hx : x < 256) (hy : y < 256) : Go.bits .and .i64 (x : Int) (y : Int) = ((x &&& y : Nat) : Int) ∧ Go.bits .or .i64 (x : Int) (y : Int) = ((x ||| y : Nat) : Int) :=
  bits_nat .i64 8 (by decide) (fun n h0 h1 => by rw [IntKind.wrap_i64]; omega) x y (by omega) (by omega)
theorem lit_test (n k : Nat) (v : Bool) (hn : n < 8) (hk : k < 3) : (Go.bits .and .i64 ((n : Int) / 2 ^ k) 1 == bitI v) = (n.testBit k == v) := by
  have h : ∀ n : Fin 8, ∀ k : Fin 3, ∀ v : Bool, (Go.bits .and .i64 (((n.val : Nat) : Int) / 2 ^ k.val) 1 == bitI v) = (n.val.testBit k.val == v) := by decide +kernel
  exact h ⟨n, hn⟩ ⟨k, hk⟩ v
set_option maxHeartbeats 1000000 in
theorem lit_clos (k : Nat) (v : Bool) (hk : k < 3) (b n : Nat) (hn : n < 8) (W : World) (h0 : W.cell? ⟨b, 0, none⟩ = some (.int .i64 (k : Int))) (h1 : W.cell? ⟨b, 1, none⟩ = some (.int .i64 (bitI v))) :
    Calls Tryd.prog 81 #[.int .i64 (n : Int), .pointer (some ⟨b, 0, none⟩)] W fun e w' => e = .returned (.bool (n.testBit k == v)) ∧ Below W.heap.size W w' := by
  have HB := Lib.hid (lit_test n k v hn hk)
  generalize bitI v = bv at *
  go_enter Tryd.func81, Tryd.ntmps81
  go_wp2_with fail
  go_quiet (fail)
  go_wp2_with fail
  go_ret
  exact ⟨congrArg (fun b => Ending.returned (.bool b)) HB.out, drawn_at _ _⟩
theorem lit_enters (args : Array Value) (W : World) : (callFunc 81 args).run Tryd.prog W = .ok (.enter 81 args) W := by kernel_rfl

def TruC (t : F) (f : FuncId) (V : Value) : Prop := ∀ W : World, Calls Tryd.prog f #[V] W fun e w' => e = .returned (.int .i64 ((setB (val t) 8 : Nat) : Int)) ∧ Below W.heap.size W w'
set_option maxHeartbeats 1000000 in
theorem lit_tru (k : Nat) (v : Bool) (hk : k < 3) : TruC (.lit k v) 65 (litV (k : Int) v) := by
  intro w
  have eg := lit_enters
  unfold litV
  obtain ⟨w1, hw1⟩ : ∃ w1, w.alloc (.cells #[.int .i64 (k : Int), .int .i64 (bitI v)] 65) = w1 := ⟨_, rfl⟩
  have c0 : w1.cell? ⟨w.heap.size, 0, none⟩ = some (.int .i64 (k : Int)) := by rw [← hw1]; simp
  have c1 : w1.cell? ⟨w.heap.size, 1, none⟩ = some (.int .i64 (bitI v)) := by rw [← hw1]; simp
  have hlt : w.heap.size < w1.heap.size := by rw [← hw1]; simp
  have HB0 : Hid (Below w.heap.size w w1) := by show Below _ _ _; rw [← hw1]; exact (Below.refl _ _).alloc (Nat.le_refl _) _
  have HT : Hid (Says 81 #[.pointer (some ⟨w.heap.size, 0, none⟩)] 8 (val (.lit k v)) w1) :=
    fun W i hi hb => lit_clos k v hk w.heap.size i hi W ((hb.cell (p := ⟨w.heap.size, 0, none⟩) hlt).trans c0) ((hb.cell (p := ⟨w.heap.size, 1, none⟩) hlt).trans c1)
  have HW := Lib.hid (where_any 81 #[.pointer (some ⟨w.heap.size, 0, none⟩)] 8 (by omega) (val (.lit k v)) w1 eg HT)
  generalize setB (val (.lit k v)) 8 = z at *
  clear HT c0 c1 hlt eg
  go_enter Tryd.func65, Tryd.ntmps65
  go_wp2_with fail
  refine HW.out.mono ?_
  rintro e w2 ⟨rfl, hb2⟩
  have HB : Hid (Below w.heap.size w w2) := rstep HB0.out hb2
  clear hb2 HW HB0 hw1
  go_wp2_with fail
  go_ret
  exact ⟨rfl, HB.out⟩
end Go.Proofs.YtbccachkkflceaaDoor.FmMeth
