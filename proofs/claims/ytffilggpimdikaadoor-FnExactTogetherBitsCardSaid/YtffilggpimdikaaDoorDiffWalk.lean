/-
  The walk of the law on DifferentRows.
-/
import Derived.Test.YtffilggpimdikaaDoorShrM
namespace Go.Proofs.YtffilggpimdikaaDoor.fnExactDifferentRows
open Go.RowKit Go.Proofs.YtffilggpimdikaaDoor.Plain Go.Proofs.YtffilggpimdikaaDoor.Base Go.Proofs.YtffilggpimdikaaDoor.Valid Go.Proofs.YtffilggpimdikaaDoor.Law Go.Proofs.YtffilggpimdikaaDoor.GridPlain Go.Proofs.YtffilggpimdikaaDoor.Grid Go.Proofs.YtffilggpimdikaaDoor.Entry Go.Proofs.YtffilggpimdikaaDoor.First Go.Proofs.YtffilggpimdikaaDoor.Line Go.Proofs.YtffilggpimdikaaDoor.FirstI Go.Proofs.YtffilggpimdikaaDoor.ShrM
set_option linter.unusedVariables false

theorem SV.slice {lo : Nat} {w : World} {v : Value} {l : List Nat} (h : SV lo w v l) : ∃ p c, v = .slice p l.length c := by
  rcases h with ⟨rfl, rfl⟩ | ⟨b, c, rfl, _⟩
  · exact ⟨none, 0, rfl⟩
  · exact ⟨_, c, rfl⟩

/-- the number of different rows -/
def diffV (r c : Int) (s : ByteArray) (n : Nat) : Int := if validB r c s then (n : Int) else -1
set_option maxHeartbeats 1000000 in
theorem impl_diff_no (r c : Int) (s : ByteArray) (hG : ∀ W : World, Calls Tryd.prog 43 #[mat r c s] W fun e w' => e = .returned (gval 0 0 (fun _ => 0)) ∧ Below W.heap.size W w') (w : World) :
    Calls Tryd.prog 38 #[mat r c s] w fun e w' => e = .returned (.int .i64 (-1)) ∧ Below w.heap.size w w' := by
  have HG := Lib.hid hG
  clear hG
  go_enter Tryd.func38, Tryd.ntmps38
  go_wp2_with fail
  refine (HG.out _).mono ?_
  rintro e w1 ⟨rfl, hb1⟩
  have HB := Lib.hid (bstep ((Below.refl w.heap.size w).alloc (Nat.le_refl _) _) hb1)
  clear hb1
  have HB2 := Lib.hid (bstepA HB.out (.cells (gcells 0 0 (fun _ => 0)) 56))
  have k0 : (w1.alloc (.cells (gcells 0 0 (fun _ => 0)) 56)).cell? ⟨w1.heap.size, 0, none⟩ = some (.int .i64 0) := cell_of_row _ _ 0 _ _ _ (heap_alloc_new w1 _)
  have K0 := Lib.hid k0
  clear k0
  go_wp2_with (refine wpList_store_row rfl 56 (.tmp 3) (.tmp 5) rfl w1.heap.size (gcells 0 0 (fun _ => 0)) rfl rfl 56 _ (heap_alloc_new w1 _) (ginfo' _ _ _) (by rw [gzero]) (gone _ _ _) ?_; rw [World.setRow_alloc_new]; generalize w1.alloc (.cells (gcells 0 0 (fun _ => 0)) 56) = w2 at *; have k0 := K0.out)
  go_wp2_with fail
  go_ret
  exact ⟨rfl, HB2.out⟩

set_option maxHeartbeats 2000000 in
set_option maxRecDepth 100000 in
theorem impl_diff (R C : Nat) (hR1 : 1 ≤ R) (hR8 : R ≤ 8) (f : Nat → Int) (l : List Nat) (r c : Int) (s : ByteArray) (hG : ∀ W : World, Calls Tryd.prog 43 #[mat r c s] W fun e w' => e = .returned (gval R C f) ∧ Below W.heap.size W w')
    (hX : ∀ W : World, Calls Tryd.prog 83 #[.int .i64 (R : Int), .func (.func 84) #[gval R C f] #[]] W fun e w' => ∃ v, e = .returned v ∧ SV 0 w' v l ∧ Below W.heap.size W w') (w : World) :
    Calls Tryd.prog 38 #[mat r c s] w fun e w' => e = .returned (.int .i64 (l.length : Int)) ∧ Below w.heap.size w w' := by
  have HG := Lib.hid hG
  have HX := Lib.hid hX
  clear hG hX
  have hR0 : ((R : Int) == 0) = false := beq_false_of_ne (by omega)
  go_enter Tryd.func38, Tryd.ntmps38
  go_wp2_with fail
  refine (HG.out _).mono ?_
  rintro e w1 ⟨rfl, hb1⟩
  have HB := Lib.hid (bstep ((Below.refl w.heap.size w).alloc (Nat.le_refl _) _) hb1)
  clear hb1
  have HB2 := Lib.hid (bstepA HB.out (.cells (gcells R C f) 56))
  have H2 := Lib.hid (heap_alloc_new w1 (.cells (gcells R C f) 56))
  have k0 : (w1.alloc (.cells (gcells R C f) 56)).cell? ⟨w1.heap.size, 0, none⟩ = some (.int .i64 (R : Int)) := cell_of_row _ _ 0 _ _ _ (heap_alloc_new w1 _)
  have K0 := Lib.hid k0
  clear k0
  go_wp2_with (first | (refine wpList_store_row rfl 56 (.tmp 3) (.tmp 5) rfl w1.heap.size (gcells R C f) rfl rfl 56 _ (heap_alloc_new w1 _) (ginfo' _ _ _) (by rw [gzero, gsize, gsize]) (gone _ _ _) ?_; rw [World.setRow_alloc_new]; generalize w1.alloc (.cells (gcells R C f) 56) = w2 at *; have k0 := K0.out) | (have X := H2.out; refine wpList_load_row rfl 56 (.tmp 3) rfl w1.heap.size rfl 56 (gcells R C f) (0, 0) _ X Tryd.underlying56 rfl (ginfo' _ _ _) ?_; clear X))
  refine (HX.out _).mono ?_
  rintro e w3 ⟨v, rfl, hsv, hb2⟩
  obtain ⟨p, k, rfl⟩ := SV.slice hsv
  have HB3 := Lib.hid (bstep HB2.out hb2)
  clear hb2 hsv k0
  go_wp2_with fail
  go_ret
  exact ⟨rfl, HB3.out⟩

end Go.Proofs.YtffilggpimdikaaDoor.fnExactDifferentRows
