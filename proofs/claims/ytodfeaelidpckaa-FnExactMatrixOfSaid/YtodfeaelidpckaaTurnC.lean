/-
  Stores into a node's block; the change that exchanges both players.
-/
import Derived.Test.YtodfeaelidpckaaCount
import Derived.Test.YtodfeaelidpckaaFreeL
import Derived.Deep.MidRow
import Derived.Deep.WholeRow
namespace Go.Proofs.Ytodfeaelidpckaa.TurnC
open Go.RowKit Go.Shelf Go.Proofs.Ytodfeaelidpckaa.Plain Go.Proofs.Ytodfeaelidpckaa.Tree Go.Proofs.Ytodfeaelidpckaa.Read
open Go.Proofs.Ytodfeaelidpckaa.Count (cells4)
set_option linter.unusedVariables false
set_option linter.unusedSimpArgs false

/-- a store of two cells is a store of the row -/
theorem set2 {w : World} {B : Nat} {c0 c1 c2 c3 : Value} {T : TypeId} {fr : Nat × Nat} (h : w.heap[B]? = some (.cells #[c0, c1, c2, c3] T fr)) (x y : Value) : w.setCells B 2 [x, y] = w.setRow B #[c0, c1, x, y] := by
  have e : (w.setCells B 2 [x, y]).heap = (w.setRow B #[c0, c1, x, y]).heap := by
    apply Array.ext_getElem?
    intro k
    simp only [World.setCells, World.setCell, World.setRow, Array.getElem?_modify]
    by_cases hk : B = k
    · subst hk
      simp [h]
    · simp [hk]
  simp only [World.setCells, World.setCell, World.setRow] at e ⊢
  rw [e]
theorem setRow_at' {w : World} {B : Nat} {cs cs' : Array Value} {T : TypeId} (h : w.heap[B]? = some (.cells cs T (0, 0))) : (w.setRow B cs').heap[B]? = some (.cells cs' T (0, 0)) := by
  simp [World.setRow, Array.getElem?_modify, h]
theorem setRow_below' {b : Nat} {w w1 : World} {B : Nat} (h : Below b w w1) (hB : b ≤ B) (cs : Array Value) : Below b w (w1.setRow B cs) :=
  h.trans ⟨rfl, rfl, rfl, by simp [World.setRow], fun k hk => by simp only [World.setRow, Array.getElem?_modify]; rw [if_neg (by omega)]⟩
theorem info_say (c0 c1 c2 c3 : Value) : (Try.prog.info? 49).map (·.size) = some (#[c0, c1, c2, c3] : Array Value).size := by kernel_rfl

set_option maxHeartbeats 2000000 in
set_option maxRecDepth 100000 in
theorem turn_change (a : Bool) (s : Int) (t1 t2 : TypeId) (v1 v2 : Value) (w : World) :
    Calls Try.prog 40 #[.agg #[.int .u8 ((whoB a).toNat : Int), .int .i64 s, .iface t1 v1, .iface t2 v2]] w fun e w' => e = .returned (.agg #[.int .u8 ((whoB (!a)).toNat : Int), .int .i64 s, .iface t1 v1, .iface t2 v2]) ∧ Below w.heap.size w w' := by
  cases a
  · rw [show ((whoB false).toNat : Int) = 66 from rfl, show ((whoB (!false)).toNat : Int) = 65 from rfl]
    go_enter Try.func40, Try.ntmps40
    go_wp2
    go_returns
    exact ⟨rfl, by go_grown⟩
  · rw [show ((whoB true).toNat : Int) = 65 from rfl, show ((whoB (!true)).toNat : Int) = 66 from rfl]
    go_enter Try.func40, Try.ntmps40
    go_wp2
    go_returns
    exact ⟨rfl, by go_grown⟩
end Go.Proofs.Ytodfeaelidpckaa.TurnC
