/-
  Contracts of the small functions on rectangles: l1In, l2Some, l2In, setValid, isRect, rectFrom, isIndex, inSet; toRect, eqRect.
-/
import Derived.Test.YtbccachkkflceaaRows
import Derived.Test.YtbccachkkflceaaPat
import Derived.WalkKit
import Derived.WalkSpells
import Derived.Lib.Hide
import Derived.Handy
import Derived.Outline
import Derived.Deep.QuietTactic
import Derived.BigQuiet
namespace Go.Proofs.Ytbccachkkflceaa.Rect
open Go.RowKit Go.Proofs.Ytbccachkkflceaa.Plain Go.Proofs.Ytbccachkkflceaa.Pat
set_option linter.unusedVariables false

/-- a rectangle as a value -/
abbrev rect (r c : Int) : Value := .agg #[.int .i64 r, .int .i64 c]

/-- what a callee leaves alone, one step more -/
theorem rstep {w a b : World} (h : Below w.heap.size w a) (h2 : Below a.heap.size a b) : Below w.heap.size w b := h.trans (h2.mono h.size)
theorem rstepA {w a : World} (h : Below w.heap.size w a) (o : Obj) : Below w.heap.size w (a.alloc o) := h.alloc h.size o

/-- two new blocks of two cells, behind a call that leaves them alone -/
theorem two_two {w w1 : World} {a b c d : Value} {T U : TypeId} (hb : Below ((w.alloc (.cells #[a, b] T)).alloc (.cells #[c, d] U)).heap.size ((w.alloc (.cells #[a, b] T)).alloc (.cells #[c, d] U)) w1) :
    w1.cell? ⟨w.heap.size, 0, none⟩ = some a ∧ w1.cell? ⟨w.heap.size, 1, none⟩ = some b ∧ w1.cell? ⟨w.heap.size + 1, 0, none⟩ = some c ∧ w1.cell? ⟨w.heap.size + 1, 1, none⟩ = some d ∧
      w1.frozen? ⟨w.heap.size, 0, none⟩ = false ∧ w1.frozen? ⟨w.heap.size, 1, none⟩ = false ∧ w.heap.size + 1 < w1.heap.size ∧ Below w.heap.size w w1 := by
  have hs : ((w.alloc (.cells #[a, b] T)).alloc (.cells #[c, d] U)).heap.size = w.heap.size + 2 := by simp
  refine ⟨?_, ?_, ?_, ?_, ?_, ?_, by have := hb.size; omega, ?_⟩
  · exact (hb.cell (p := ⟨w.heap.size, 0, none⟩) (by show w.heap.size < _; omega)).trans (by simp)
  · exact (hb.cell (p := ⟨w.heap.size, 1, none⟩) (by show w.heap.size < _; omega)).trans (by simp)
  · exact (hb.cell (p := ⟨w.heap.size + 1, 0, none⟩) (by show w.heap.size + 1 < _; omega)).trans (by simp)
  · exact (hb.cell (p := ⟨w.heap.size + 1, 1, none⟩) (by show w.heap.size + 1 < _; omega)).trans (by simp)
  · exact (hb.frozen (p := ⟨w.heap.size, 0, none⟩) (by show w.heap.size < _; omega)).trans (by simp)
  · exact (hb.frozen (p := ⟨w.heap.size, 1, none⟩) (by show w.heap.size < _; omega)).trans (by simp)
  · exact (((Below.refl w.heap.size w).alloc (Nat.le_refl _) _).alloc (by simp) _).trans (hb.mono (by omega))

/-- one box of two cells, behind a call that leaves it alone -/
theorem box2 {w w1 : World} {a b : Value} {T : TypeId} (hb : Below (w.alloc (.cells #[a, b] T)).heap.size (w.alloc (.cells #[a, b] T)) w1) :
    w1.cell? ⟨w.heap.size, 0, none⟩ = some a ∧ w1.cell? ⟨w.heap.size, 1, none⟩ = some b ∧ w.heap.size < w1.heap.size ∧ Hid (Below w.heap.size w w1) := by
  have hs : (w.alloc (.cells #[a, b] T)).heap.size = w.heap.size + 1 := by simp
  refine ⟨?_, ?_, by have := hb.size; omega, ?_⟩
  · exact (hb.cell (p := ⟨w.heap.size, 0, none⟩) (by show w.heap.size < _; omega)).trans (by simp)
  · exact (hb.cell (p := ⟨w.heap.size, 1, none⟩) (by show w.heap.size < _; omega)).trans (by simp)
  · exact ((Below.refl w.heap.size w).alloc (Nat.le_refl _) _).trans (hb.mono (by omega))
theorem two_on {w1 w2 : World} {g : Nat} {a b : Value} (hb : Below w1.heap.size w1 w2) (hg : g < w1.heap.size)
    (h0 : w1.cell? ⟨g, 0, none⟩ = some a) (h1 : w1.cell? ⟨g, 1, none⟩ = some b) : w2.cell? ⟨g, 0, none⟩ = some a ∧ w2.cell? ⟨g, 1, none⟩ = some b :=
  ⟨(hb.cell (p := ⟨g, 0, none⟩) hg).trans h0, (hb.cell (p := ⟨g, 1, none⟩) hg).trans h1⟩

/-- when both call two numbers a rectangle -/
def someB (r c : Int) : Bool := decide (1 ≤ r ∧ r ≤ 255) && decide (1 ≤ c ∧ c ≤ 255)
theorem someB_iff (r c : Int) : someB r c = true ↔ (1 ≤ r ∧ r ≤ 255) ∧ (1 ≤ c ∧ c ≤ 255) := by
  unfold someB
  rw [Bool.and_eq_true, decide_eq_true_iff, decide_eq_true_iff]


set_option maxHeartbeats 400000 in
theorem index_any (i : Int) (c : Int) (w : World) :
    Calls Try.prog 47 #[.int .i64 i, .int .i64 c] w fun e w' => e = .returned (.bool (decide (0 ≤ i ∧ i < c))) ∧ w = w' := by
  by_cases h : 0 ≤ i
  · by_cases h2 : i < c
    · rw [decide_eq_true ⟨h, h2⟩]
      go_enter Try.func47, Try.ntmps47
      go_wp2
      go_ret
      exact ⟨rfl, rfl⟩
    · rw [decide_eq_false (fun x => h2 x.2)]
      have h3 : c ≤ i := by omega
      clear h2
      go_enter Try.func47, Try.ntmps47
      go_wp2
      go_ret
      exact ⟨by simp; omega, rfl⟩
  · rw [decide_eq_false (fun x => h x.1)]
    have h3 : i < 0 := by omega
    clear h
    go_enter Try.func47, Try.ntmps47
    go_wp2
    go_ret
    exact ⟨rfl, rfl⟩

theorem bit_test (s i : Nat) (hs : s < 256) (hi : i < 8) : (Go.bits .and .i64 ((s : Int) / 2 ^ i) 1 == 1) = s.testBit i := by
  have h : ∀ k : Fin 256, ∀ j : Fin 8, (Go.bits .and .i64 (((k.val : Nat) : Int) / 2 ^ j.val) 1 == 1) = k.val.testBit j.val := by decide +kernel
  exact h ⟨s, hs⟩ ⟨i, hi⟩

set_option maxHeartbeats 400000 in
theorem l2In_any (s i : Nat) (hs : s < 256) (hi : i < 8) (w : World) :
    Calls Try.prog 61 #[.int .i64 (s : Int), .int .i64 (i : Int)] w fun e w' => e = .returned (.bool (s.testBit i)) ∧ w = w' := by
  have HB := Lib.hid (bit_test s i hs hi)
  go_enter Try.func61, Try.ntmps61
  go_wp2
  go_ret
  exact ⟨congrArg (fun b => Ending.returned (.bool b)) HB.out, rfl⟩

set_option maxHeartbeats 400000 in
theorem inSet_yes (s i : Nat) (hs : s < 256) (hi : i < 8) (w : World) :
    Calls Try.prog 53 #[.int .i64 (s : Int), .int .i64 (i : Int)] w fun e w' => e = .returned (.bool (s.testBit i)) ∧ w = w' := by
  have HB := Lib.hid (bit_test s i hs hi)
  go_enter Try.func53, Try.ntmps53
  go_wp2_with fail
  refine (index_any _ _ _).mono ?_
  rintro e w' ⟨rfl, rfl⟩
  rw [decide_eq_true (by omega)]
  go_wp2_with fail
  go_ret
  exact ⟨congrArg (fun b => Ending.returned (.bool b)) HB.out, rfl⟩
set_option maxHeartbeats 400000 in
theorem inSet_no (s i : Int) (hi : i < 0 ∨ 8 ≤ i) (w : World) :
    Calls Try.prog 53 #[.int .i64 s, .int .i64 i] w fun e w' => e = .returned (.bool false) ∧ w = w' := by
  have HI := Lib.hid hi
  clear hi
  go_enter Try.func53, Try.ntmps53
  go_wp2_with fail
  refine (index_any _ _ _).mono ?_
  rintro e w' ⟨rfl, rfl⟩
  rw [decide_eq_false (by have := HI.out; omega)]
  go_wp2_with fail
  go_ret
  exact ⟨rfl, rfl⟩

end Go.Proofs.Ytbccachkkflceaa.Rect
