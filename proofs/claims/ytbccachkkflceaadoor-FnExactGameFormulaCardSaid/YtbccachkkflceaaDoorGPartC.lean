/-
  The program's part of a rectangle behind a bit, and the inputs of a player.
-/
import Derived.Test.YtbccachkkflceaaDoorGTrimT
import Derived.Test.YtbccachkkflceaaDoorGRead
namespace Go.Proofs.YtbccachkkflceaaDoor.PartC
open Go.RowKit Go.Shelf Go.Proofs.YtbccachkkflceaaDoor.Plain Go.Proofs.YtbccachkkflceaaDoor.Tree Go.Proofs.YtbccachkkflceaaDoor.Read Go.Proofs.YtbccachkkflceaaDoor.Rect Go.Proofs.YtbccachkkflceaaDoor.TrimT
set_option linter.unusedVariables false
set_option linter.unusedSimpArgs false

set_option maxHeartbeats 2000000 in
set_option maxRecDepth 100000 in
theorem part_out (a : Bool) (s R C : Nat) (hR : R < 256) (hC : C < 256) (t1 t2 : TypeId) (v1 v2 : Value) (w : World) :
    Calls Tryd.prog 50 #[.agg #[.int .u8 ((whoB a).toNat : Int), .int .i64 (s : Int), .iface t1 v1, .iface t2 v2], rect R C, .int .i64 0] w fun e w' => e = .returned (rect (outR a s R) (outC a s C)) ∧ Below w.heap.size w w' := by
  cases a
  · show Calls _ _ #[.agg #[.int .u8 66, .int .i64 (s : Int), .iface t1 v1, .iface t2 v2], rect R C, .int .i64 0] _ fun e w' => e = .returned (rect R (minusN C s)) ∧ _
    have hb := bit_not_and C s hC
    have HM := Lib.hid (rfl : minusN C s = minusN C s)
    generalize minusN C s = m at *
    go_enter Tryd.func50, Tryd.ntmps50
    go_wp2
    go_returns
    exact ⟨rfl, by go_grown⟩
  · show Calls _ _ #[.agg #[.int .u8 65, .int .i64 (s : Int), .iface t1 v1, .iface t2 v2], rect R C, .int .i64 0] _ fun e w' => e = .returned (rect (minusN R s) C) ∧ _
    have hb := bit_not_and R s hR
    generalize minusN R s = m at *
    go_enter Tryd.func50, Tryd.ntmps50
    go_wp2
    go_returns
    exact ⟨rfl, by go_grown⟩
set_option maxHeartbeats 2000000 in
set_option maxRecDepth 100000 in
theorem part_in (a : Bool) (s R C : Nat) (hR : R < 256) (hC : C < 256) (t1 t2 : TypeId) (v1 v2 : Value) (w : World) :
    Calls Tryd.prog 50 #[.agg #[.int .u8 ((whoB a).toNat : Int), .int .i64 (s : Int), .iface t1 v1, .iface t2 v2], rect R C, .int .i64 1] w fun e w' => e = .returned (rect (inR a s R) (inC a s C)) ∧ Below w.heap.size w w' := by
  cases a
  · show Calls _ _ #[.agg #[.int .u8 66, .int .i64 (s : Int), .iface t1 v1, .iface t2 v2], rect R C, .int .i64 1] _ fun e w' => e = .returned (rect R (meetN C s)) ∧ _
    have hb := bit_and C s hC
    generalize meetN C s = m at *
    go_enter Tryd.func50, Tryd.ntmps50
    go_wp2
    go_returns
    exact ⟨rfl, by go_grown⟩
  · show Calls _ _ #[.agg #[.int .u8 65, .int .i64 (s : Int), .iface t1 v1, .iface t2 v2], rect R C, .int .i64 1] _ fun e w' => e = .returned (rect (meetN R s) C) ∧ _
    have hb := bit_and R s hR
    generalize meetN R s = m at *
    go_enter Tryd.func50, Tryd.ntmps50
    go_wp2
    go_returns
    exact ⟨rfl, by go_grown⟩
set_option maxHeartbeats 2000000 in
theorem inputs_w (a : Bool) (s R C : Int) (t1 t2 : TypeId) (v1 v2 : Value) (w : World) :
    Calls Tryd.prog 91 #[.agg #[.int .u8 ((whoB a).toNat : Int), .int .i64 s, .iface t1 v1, .iface t2 v2], rect R C] w fun e w' => e = .returned (.int .i64 (if a then R else C)) ∧ Below w.heap.size w w' := by
  cases a
  · show Calls _ _ #[.agg #[.int .u8 66, .int .i64 s, .iface t1 v1, .iface t2 v2], rect R C] _ fun e w' => e = .returned (.int .i64 C) ∧ _
    go_enter Tryd.func91, Tryd.ntmps91
    go_wp2
    go_returns
    exact ⟨rfl, by go_grown⟩
  · show Calls _ _ #[.agg #[.int .u8 65, .int .i64 s, .iface t1 v1, .iface t2 v2], rect R C] _ fun e w' => e = .returned (.int .i64 R) ∧ _
    go_enter Tryd.func91, Tryd.ntmps91
    go_wp2
    go_returns
    exact ⟨rfl, by go_grown⟩
end Go.Proofs.YtbccachkkflceaaDoor.PartC
