/-
  Texts of one seat, joined: GNodeH, GPartC.
-/
import Derived.Test.YtbccachkkflceaaGreatDoorJn1
import Derived.Test.YtbccachkkflceaaGreatDoorJn28
import Derived.Test.YtbccachkkflceaaGreatDoorJn3
import Derived.Test.YtbccachkkflceaaGreatDoorJn26
import Derived.Test.YtbccachkkflceaaGreatDoorJn19
/-
  Small facts on the cells of nodes.
-/
namespace Go.Proofs.YtbccachkkflceaaGreatDoor.NodeH
open Go.RowKit Go.Shelf Go.Proofs.YtbccachkkflceaaGreatDoor.Plain Go.Proofs.YtbccachkkflceaaGreatDoor.Tree Go.Proofs.YtbccachkkflceaaGreatDoor.Read Go.Proofs.YtbccachkkflceaaGreatDoor.TurnC Go.Proofs.YtbccachkkflceaaGreatDoor.FreeL
set_option linter.unusedVariables false
set_option linter.unusedSimpArgs false

theorem eval_get {a : Act} {d : Tmp} {v : Value} (h : a.tmps[d]?.getD undef = v) : a.eval (.tmp d) = v := by
  rw [← h]
  show a.tmps.getD d undef = _
  simp [Array.getD_eq_getD_getElem?]
theorem there_row {w : World} {B : Nat} {c0 c1 c2 c3 : Value} {T : TypeId} (h : w.heap[B]? = some (.cells #[c0, c1, c2, c3] T (0, 0))) : w.there B 2 2 := fun j hj => by
  have e : j = 0 ∨ j = 1 := by omega
  rcases e with rfl | rfl
  · exact ⟨by rw [cell_of_row _ _ _ _ _ _ h]; rfl, frozen_of_row _ _ _ _ _ h⟩
  · exact ⟨by rw [cell_of_row _ _ _ _ _ _ h]; rfl, frozen_of_row _ _ _ _ _ h⟩
theorem all2 (t1 t2 : TypeId) (x y : Value) : (#[.iface t1 x, .iface t2 y] : Array Value).all (·.oneCell') = true := by simp [Value.oneCell']
theorem all4 (a b : Int) (t1 t2 : TypeId) (x y : Value) : (#[.int .u8 a, .int .i64 b, .iface t1 x, .iface t2 y] : Array Value).all (·.oneCell') = true := by simp [Value.oneCell']
theorem info_two (x y : Value) : (Tryz.prog.info? 70).map (·.size) = some (#[x, y] : Array Value).size := by kernel_rfl
end Go.Proofs.YtbccachkkflceaaGreatDoor.NodeH

/-
  The program's part of a rectangle behind a bit, and the inputs of a player.
-/
namespace Go.Proofs.YtbccachkkflceaaGreatDoor.PartC
open Go.RowKit Go.Shelf Go.Proofs.YtbccachkkflceaaGreatDoor.Plain Go.Proofs.YtbccachkkflceaaGreatDoor.Tree Go.Proofs.YtbccachkkflceaaGreatDoor.Read Go.Proofs.YtbccachkkflceaaGreatDoor.Rect Go.Proofs.YtbccachkkflceaaGreatDoor.TrimT
set_option linter.unusedVariables false
set_option linter.unusedSimpArgs false

set_option maxHeartbeats 2000000 in
set_option maxRecDepth 100000 in
theorem part_out (a : Bool) (s R C : Nat) (hR : R < 256) (hC : C < 256) (t1 t2 : TypeId) (v1 v2 : Value) (w : World) :
    Calls Tryz.prog 63 #[.agg #[.int .u8 ((whoB a).toNat : Int), .int .i64 (s : Int), .iface t1 v1, .iface t2 v2], rect R C, .int .i64 0] w fun e w' => e = .returned (rect (outR a s R) (outC a s C)) ∧ Below w.heap.size w w' := by
  cases a
  · show Calls _ _ #[.agg #[.int .u8 66, .int .i64 (s : Int), .iface t1 v1, .iface t2 v2], rect R C, .int .i64 0] _ fun e w' => e = .returned (rect R (minusN C s)) ∧ _
    have hb := bit_not_and C s hC
    have HM := Lib.hid (rfl : minusN C s = minusN C s)
    generalize minusN C s = m at *
    go_enter Tryz.func63, Tryz.ntmps63
    go_wp2
    go_returns
    exact ⟨rfl, by go_grown⟩
  · show Calls _ _ #[.agg #[.int .u8 65, .int .i64 (s : Int), .iface t1 v1, .iface t2 v2], rect R C, .int .i64 0] _ fun e w' => e = .returned (rect (minusN R s) C) ∧ _
    have hb := bit_not_and R s hR
    generalize minusN R s = m at *
    go_enter Tryz.func63, Tryz.ntmps63
    go_wp2
    go_returns
    exact ⟨rfl, by go_grown⟩
set_option maxHeartbeats 2000000 in
set_option maxRecDepth 100000 in
theorem part_in (a : Bool) (s R C : Nat) (hR : R < 256) (hC : C < 256) (t1 t2 : TypeId) (v1 v2 : Value) (w : World) :
    Calls Tryz.prog 63 #[.agg #[.int .u8 ((whoB a).toNat : Int), .int .i64 (s : Int), .iface t1 v1, .iface t2 v2], rect R C, .int .i64 1] w fun e w' => e = .returned (rect (inR a s R) (inC a s C)) ∧ Below w.heap.size w w' := by
  cases a
  · show Calls _ _ #[.agg #[.int .u8 66, .int .i64 (s : Int), .iface t1 v1, .iface t2 v2], rect R C, .int .i64 1] _ fun e w' => e = .returned (rect R (meetN C s)) ∧ _
    have hb := bit_and C s hC
    generalize meetN C s = m at *
    go_enter Tryz.func63, Tryz.ntmps63
    go_wp2
    go_returns
    exact ⟨rfl, by go_grown⟩
  · show Calls _ _ #[.agg #[.int .u8 65, .int .i64 (s : Int), .iface t1 v1, .iface t2 v2], rect R C, .int .i64 1] _ fun e w' => e = .returned (rect (meetN R s) C) ∧ _
    have hb := bit_and R s hR
    generalize meetN R s = m at *
    go_enter Tryz.func63, Tryz.ntmps63
    go_wp2
    go_returns
    exact ⟨rfl, by go_grown⟩
set_option maxHeartbeats 2000000 in
theorem inputs_w (a : Bool) (s R C : Int) (t1 t2 : TypeId) (v1 v2 : Value) (w : World) :
    Calls Tryz.prog 154 #[.agg #[.int .u8 ((whoB a).toNat : Int), .int .i64 s, .iface t1 v1, .iface t2 v2], rect R C] w fun e w' => e = .returned (.int .i64 (if a then R else C)) ∧ Below w.heap.size w w' := by
  cases a
  · show Calls _ _ #[.agg #[.int .u8 66, .int .i64 s, .iface t1 v1, .iface t2 v2], rect R C] _ fun e w' => e = .returned (.int .i64 C) ∧ _
    go_enter Tryz.func154, Tryz.ntmps154
    go_wp2
    go_returns
    exact ⟨rfl, by go_grown⟩
  · show Calls _ _ #[.agg #[.int .u8 65, .int .i64 s, .iface t1 v1, .iface t2 v2], rect R C] _ fun e w' => e = .returned (.int .i64 R) ∧ _
    go_enter Tryz.func154, Tryz.ntmps154
    go_wp2
    go_returns
    exact ⟨rfl, by go_grown⟩
end Go.Proofs.YtbccachkkflceaaGreatDoor.PartC

