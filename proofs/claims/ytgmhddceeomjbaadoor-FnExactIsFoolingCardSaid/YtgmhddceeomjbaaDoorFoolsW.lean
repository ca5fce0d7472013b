/-
  The program's board.foolsWith, by what cell, isPlain and areApart answer.
-/
import Derived.Test.YtgmhddceeomjbaaDoorFools
import Derived.Test.YtgmhddceeomjbaaDoorKept
namespace Go.Proofs.YtgmhddceeomjbaaDoor.FoolsW
open Go.RowKit Go.Proofs.YtgmhddceeomjbaaDoor.Plain Go.Proofs.YtgmhddceeomjbaaDoor.Base Go.Proofs.YtgmhddceeomjbaaDoor.Law Go.Proofs.YtgmhddceeomjbaaDoor.Pat Go.Proofs.YtgmhddceeomjbaaDoor.Rect Go.Proofs.YtgmhddceeomjbaaDoor.Board Go.Proofs.YtgmhddceeomjbaaDoor.BoardM Go.Proofs.YtgmhddceeomjbaaDoor.Cell Go.Proofs.YtgmhddceeomjbaaDoor.Apart Go.Proofs.YtgmhddceeomjbaaDoor.Fools
open Go.Proofs.YtgmhddceeomjbaaDoor.Kept (region_kept wq_step wq_nil Kp)
set_option linter.unusedVariables false

theorem drawn_at (w : World) (n : Nat) : Below w.heap.size w { w with drawn := w.drawn + n } := ⟨rfl, rfl, rfl, Nat.le_refl _, fun _ _ => rfl⟩

set_option maxHeartbeats 4000000 in
set_option maxRecDepth 100000 in
theorem fools_any (R C : Int) (z o : Nat) (i : Nat) (bit x y : Int) (p : Bool) (l : List Nat) (hlen : l.length ≤ 4611686018427387904) (pr : Nat → Bool) (pt : Option Addr) (cc : Nat) (w : World)
    (hcell : ∀ W : World, Calls Tryd.prog 122 #[brd R C z o, .int .i64 (i : Int)] W fun e w' => e = .returned (rect x y) ∧ Below W.heap.size W w')
    (hpl : ∀ W : World, Calls Tryd.prog 92 #[brd R C z o, rect x y, .int .i64 bit] W fun e w' => e = .returned (.bool p) ∧ Below W.heap.size W w')
    (hap : ∀ j ∈ l, ∀ W : World, Calls Tryd.prog 121 #[brd R C z o, .int .i64 (i : Int), .int .i64 (j : Int), .int .i64 bit] W fun e w' => e = .returned (.bool (!pr j)) ∧ Below W.heap.size W w')
    (hc : ∀ (j : Nat) (hj : j < l.length), ∃ g off, pt = some ⟨g, off, none⟩ ∧ g < w.heap.size ∧ w.cell? ⟨g, off + j, none⟩ = some (.int .i64 (l[j] : Int))) :
    Calls Tryd.prog 62 #[brd R C z o, .slice pt l.length cc, .int .i64 (i : Int), .int .i64 bit] w fun e w' => e = .returned (.bool (p && !l.any pr)) ∧ Below w.heap.size w w' := by
  obtain ⟨W1, hW1⟩ : ∃ W1, W1 = ((w.alloc (.cells #[.int .i64 R, .int .i64 C, .int .u64 (z : Int), .int .u64 (o : Int)] 70)).alloc (.cells #[.int .i64 (i : Int)] 3)).alloc (.cells #[.int .i64 bit] 3) := ⟨_, rfl⟩
  have K3 : Kp w W1 [(w.heap.size + 2, .cells #[.int .i64 bit] 3), (w.heap.size + 1, .cells #[.int .i64 (i : Int)] 3), (w.heap.size, .cells #[.int .i64 R, .int .i64 C, .int .u64 (z : Int), .int .u64 (o : Int)] 70)] := by
    rw [hW1]
    exact (((Kp.nil w).put (.cells #[.int .i64 R, .int .i64 C, .int .u64 (z : Int), .int .u64 (o : Int)] 70) rfl).put (.cells #[.int .i64 (i : Int)] 3) (by simp)).put (.cells #[.int .i64 bit] 3) (by simp)
  have hb0 := K3.at 2 rfl
  have hi0 := K3.at 1 rfl
  have hd0 := K3.at 0 rfl
  have HSZ : Hid (W1.heap.size = w.heap.size + 3) := by unfold Hid; rw [hW1]; simp
  have HW : Hid (Below w.heap.size w W1) := K3.below
  have HX : Hid (∀ wx : World, Below W1.heap.size W1 wx → Calls Tryd.prog 123 #[.slice pt l.length cc, .func (.func 120) #[] #[.pointer (some ⟨w.heap.size, 0, none⟩), .pointer (some ⟨w.heap.size + 1, 0, none⟩), .pointer (some ⟨w.heap.size + 2, 0, none⟩)]] wx fun e w' => e = .returned (.bool (l.any pr)) ∧ Below wx.heap.size wx w') := by
    intro wx hC
    have hs := HSZ.out
    refine contains_any _ _ _ l hlen pr pt cc wx (fun j hj W hW => ?_) (fun j hj => ?_)
    · have hW2 : Below W1.heap.size W1 W := hC.trans (hW.mono hC.size)
      have hz := hW2.size
      have hq := together_any R C z o i (j : Int) bit (!pr j) w.heap.size (w.heap.size + 1) (w.heap.size + 2) W (hap j hj)
        ((hW2.block _ (by omega)).trans hb0) (cell_of_row _ _ 0 _ _ _ ((hW2.block _ (by omega)).trans hi0)) (by omega) (cell_of_row _ _ 0 _ _ _ ((hW2.block _ (by omega)).trans hd0)) (by omega)
      rw [Bool.not_not] at hq
      exact hq
    · obtain ⟨g, off, h1, h2, h3⟩ := hc j hj
      have hw2 : Below w.heap.size w wx := HW.out.trans (hC.mono HW.out.size)
      exact ⟨g, off, h1, Nat.lt_of_lt_of_le h2 hw2.size, (hw2.cell (p := ⟨g, off + j, none⟩) h2).trans h3⟩
  have HCE := Lib.hid hcell
  have HPL := Lib.hid hpl
  have HB0 : Hid (∀ wx : World, Below W1.heap.size W1 wx → wx.heap[w.heap.size]? = some (.cells #[.int .i64 R, .int .i64 C, .int .u64 (z : Int), .int .u64 (o : Int)] 70 (0, 0))) := fun wx h => (h.block _ (by have := HSZ.out; omega)).trans hb0
  have HI0 : Hid (∀ wx : World, Below W1.heap.size W1 wx → wx.cell? ⟨w.heap.size + 1, 0, none⟩ = some (.int .i64 (i : Int))) := fun wx h => cell_of_row _ _ 0 _ _ _ ((h.block _ (by have := HSZ.out; omega)).trans hi0)
  have HD0 : Hid (∀ wx : World, Below W1.heap.size W1 wx → wx.cell? ⟨w.heap.size + 2, 0, none⟩ = some (.int .i64 bit)) := fun wx h => cell_of_row _ _ 0 _ _ _ ((h.block _ (by have := HSZ.out; omega)).trans hd0)
  have HW1 := Lib.hid hW1
  clear hcell hpl hap hc hb0 hi0 hd0 K3 hW1
  generalize l.any pr = b at *
  go_enter Tryd.func62, Tryd.ntmps62
  go_wp2_with fail
  rw [← HW1.out]
  cases p with
  | true =>
    refine region_kept (C := fun wx => Below W1.heap.size W1 wx) (drawn_at W1 1) (by kernel_rfl) (by kernel_rfl) ?_
    repeat
      (refine wq_step (fun K hK => ?_)
       go_simp
       first
         | (refine hK _ ?_; clear hK K)
         | (apply Exists.intro
            refine ⟨fun wx hC => ?_, hK _ ?_⟩
            · first
              | with_reducible rfl
              | with_reducible exact ((HCE.out wx).mono fun e w' h => ⟨h.1, hC.trans (h.2.mono hC.size)⟩)
              | with_reducible exact ((HPL.out wx).mono fun e w' h => ⟨h.1, hC.trans (h.2.mono hC.size)⟩)
              | with_reducible exact ((HX.out wx hC).mono fun e w' h => ⟨h.1, hC.trans (h.2.mono hC.size)⟩)
              | (obtain ⟨d0, d1, d2, d3⟩ := cells4 (HB0.out wx hC); have d4 := HI0.out wx hC; have d5 := HD0.out wx hC; go_simp; first | done | rfl)
            clear hK K))
    refine wq_nil ?_
    intro w20 hC
    have HC := Lib.hid hC
    clear hC
    go_simp
    go_wp2_with fail
    go_ret
    exact ⟨by simp, HW.out.trans (HC.out.mono HW.out.size)⟩
  | false =>
    refine region_kept (C := fun wx => Below W1.heap.size W1 wx) (drawn_at W1 1) (by kernel_rfl) (by kernel_rfl) ?_
    repeat
      (refine wq_step (fun K hK => ?_)
       go_simp
       first
         | (refine hK _ ?_; clear hK K)
         | (apply Exists.intro
            refine ⟨fun wx hC => ?_, hK _ ?_⟩
            · first
              | with_reducible rfl
              | with_reducible exact ((HCE.out wx).mono fun e w' h => ⟨h.1, hC.trans (h.2.mono hC.size)⟩)
              | with_reducible exact ((HPL.out wx).mono fun e w' h => ⟨h.1, hC.trans (h.2.mono hC.size)⟩)
              | with_reducible exact ((HX.out wx hC).mono fun e w' h => ⟨h.1, hC.trans (h.2.mono hC.size)⟩)
              | (obtain ⟨d0, d1, d2, d3⟩ := cells4 (HB0.out wx hC); have d4 := HI0.out wx hC; have d5 := HD0.out wx hC; go_simp; first | done | rfl)
            clear hK K))
    refine wq_nil ?_
    intro w20 hC
    have HC := Lib.hid hC
    clear hC
    go_simp
    go_wp2_with fail
    go_ret
    exact ⟨by simp, HW.out.trans (HC.out.mono HW.out.size)⟩
end Go.Proofs.YtgmhddceeomjbaaDoor.FoolsW
