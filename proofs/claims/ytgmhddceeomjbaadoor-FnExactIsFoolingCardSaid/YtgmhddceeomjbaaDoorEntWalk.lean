/-
  The walk of the law on EntryOf.
-/
import Derived.Test.YtgmhddceeomjbaaDoorEntry
import Derived.Deep.WholeRow
namespace Go.Proofs.YtgmhddceeomjbaaDoor.fnExactEntryOf
open Go.RowKit Go.Proofs.YtgmhddceeomjbaaDoor.Plain Go.Proofs.YtgmhddceeomjbaaDoor.Base Go.Proofs.YtgmhddceeomjbaaDoor.Valid Go.Proofs.YtgmhddceeomjbaaDoor.Law Go.Proofs.YtgmhddceeomjbaaDoor.GridPlain Go.Proofs.YtgmhddceeomjbaaDoor.Grid Go.Proofs.YtgmhddceeomjbaaDoor.Entry
set_option linter.unusedVariables false

set_option maxHeartbeats 1000000 in
set_option maxRecDepth 100000 in
/-- the program's EntryOf, whatever grid gridOf tells -/
theorem impl_of (r c : Int) (s : ByteArray) (x y : Int) (R C : Int) (f : Nat → Int) (v : Int) (w : World)
    (hg : ∀ W : World, Calls Tryd.prog 64 #[mat r c s] W fun e w' => e = .returned (gval R C f) ∧ Below W.heap.size W w')
    (hv : (¬ ((0 ≤ x ∧ x < R) ∧ (0 ≤ y ∧ y < C)) ∧ v = -1) ∨ (∃ a b : Nat, x = a ∧ y = b ∧ a < 8 ∧ b < 8 ∧ ((0 ≤ x ∧ x < R) ∧ (0 ≤ y ∧ y < C)) ∧ v = f (8 * a + b))) :
    Calls Tryd.prog 24 #[mat r c s, .int .i64 x, .int .i64 y] w fun e w' => e = .returned (.int .i64 v) ∧ Below w.heap.size w w' := by
  have HG := Lib.hid hg
  clear hg
  have HV := Lib.hid hv
  clear hv
  go_enter Tryd.func24, Tryd.ntmps24
  go_wp2_with fail
  refine (HG.out _).mono ?_
  rintro e w1 ⟨rfl, hb1⟩
  have HB1 := Lib.hid (bstep ((Below.refl w.heap.size w).alloc (Nat.le_refl _) _) hb1)
  clear hb1
  go_wp2_with (first | (refine wpList_store_row rfl 78 (.tmp 7) (.tmp 9) rfl w1.heap.size (gcells R C f) rfl rfl 78 _ (heap_alloc_new w1 _) (ginfo' _ _ _) (by rw [gzero, gsize, gsize]) (gone _ _ _) ?_; rw [World.setRow_alloc_new]) | (refine wpList_load_row rfl 78 (.tmp 7) rfl w1.heap.size rfl 78 (gcells R C f) (0, 0) _ (heap_alloc_new w1 _) Tryd.underlying78 rfl (ginfo' _ _ _) ?_))
  refine (has_any R C f x y _).mono ?_
  rintro e w2 ⟨rfl, hb2⟩
  have h2 : w2.heap[w1.heap.size]? = some (.cells (gcells R C f) 78 (0, 0)) := (hb2.block _ (by simp)).trans (heap_alloc_new w1 _)
  have H2 := Lib.hid h2
  have HB2 := Lib.hid (bstep (bstepA HB1.out _) hb2)
  clear h2 hb2 HB1
  rcases HV.out with ⟨hno, rfl⟩ | ⟨a, b, rfl, rfl, ha, hb, hin, rfl⟩
  · rw [decide_eq_false hno]
    clear hno HV
    go_wp2_with fail
    go_ret
    exact ⟨rfl, HB2.out⟩
  · rw [decide_eq_true hin]
    clear hin HV
    go_wp2_with (have X := H2.out; refine wpList_load_row rfl 78 (.tmp 7) rfl w1.heap.size rfl 78 (gcells R C f) (0, 0) _ X Tryd.underlying78 rfl (ginfo' _ _ _) ?_; clear X)
    refine (entry_any R C f a b ha hb _).mono ?_
    rintro e w3 ⟨rfl, hb3⟩
    have HB3 := Lib.hid (bstep HB2.out hb3)
    clear hb3
    go_wp2_with fail
    go_ret
    exact ⟨rfl, HB3.out⟩

/-- m's box later on -/
theorem box3 {w w1 : World} {a b c : Value} {T : TypeId} (hb : Below (w.alloc (.cells #[a, b, c] T)).heap.size (w.alloc (.cells #[a, b, c] T)) w1) :
    w1.cell? ⟨w.heap.size, 0, none⟩ = some a ∧ w1.cell? ⟨w.heap.size, 1, none⟩ = some b ∧ w1.cell? ⟨w.heap.size, 2, none⟩ = some c ∧ w.heap.size < w1.heap.size ∧ Hid (Below w.heap.size w w1) := by
  obtain ⟨h0, h1, h2⟩ := three_of hb
  exact ⟨h0, h1, h2, by have := hb.size; simp at this; omega, bstep ((Below.refl w.heap.size w).alloc (Nat.le_refl _) _) hb⟩

set_option maxHeartbeats 400000 in
theorem int_any (b : Bool) (w : World) :
    Calls Tryd.prog 57 #[.bool b] w fun e w' => e = .returned (.int .i64 (bitI b)) ∧ w = w' := by
  cases b
  all_goals
    go_enter Tryd.func57, Tryd.ntmps57
    go_wp2
    go_ret
    exact ⟨rfl, rfl⟩

end Go.Proofs.YtgmhddceeomjbaaDoor.fnExactEntryOf
