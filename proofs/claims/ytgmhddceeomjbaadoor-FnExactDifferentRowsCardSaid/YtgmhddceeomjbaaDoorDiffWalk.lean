/-
  The walk of the law on DifferentRows.
-/
import Derived.Test.YtgmhddceeomjbaaDoorShrM
namespace Go.Proofs.YtgmhddceeomjbaaDoor.fnExactDifferentRows
open Go.RowKit Go.Proofs.YtgmhddceeomjbaaDoor.Plain Go.Proofs.YtgmhddceeomjbaaDoor.Base Go.Proofs.YtgmhddceeomjbaaDoor.Valid Go.Proofs.YtgmhddceeomjbaaDoor.Law Go.Proofs.YtgmhddceeomjbaaDoor.GridPlain Go.Proofs.YtgmhddceeomjbaaDoor.Grid Go.Proofs.YtgmhddceeomjbaaDoor.Entry Go.Proofs.YtgmhddceeomjbaaDoor.First Go.Proofs.YtgmhddceeomjbaaDoor.Line Go.Proofs.YtgmhddceeomjbaaDoor.FirstI Go.Proofs.YtgmhddceeomjbaaDoor.ShrM
set_option linter.unusedVariables false

theorem SV.slice {lo : Nat} {w : World} {v : Value} {l : List Nat} (h : SV lo w v l) : ∃ p c, v = .slice p l.length c := by
  rcases h with ⟨rfl, rfl⟩ | ⟨b, c, rfl, _⟩
  · exact ⟨none, 0, rfl⟩
  · exact ⟨_, c, rfl⟩

/-- the number of different rows -/
def diffV (r c : Int) (s : ByteArray) (n : Nat) : Int := if validB r c s then (n : Int) else -1
set_option maxHeartbeats 1000000 in
theorem spec_diff (r c : Int) (s : ByteArray) (hs : s.size ≤ maxLen) (l : List Nat) (hl : l.length ≤ 8)
    (hf : validB r c s = true → ∀ W : World, Calls Tryd.prog 63 #[mat r c s] W fun e w' => ∃ v, e = .returned v ∧ SV 0 w' v l ∧ Below W.heap.size W w') (w : World) :
    Calls Tryd.prog 17 #[mat r c s] w fun e w' => e = .returned (.int .i64 (diffV r c s l.length)) ∧ Below w.heap.size w w' := by
  unfold diffV
  obtain ⟨b, hb⟩ : ∃ b, validB r c s = b := ⟨_, rfl⟩
  rw [hb] at hf ⊢
  have HF := Lib.hid hf
  have HV := Lib.hid hb
  clear hb hf
  have hs2 := hs
  unfold maxLen at hs2
  go_enter Tryd.func17, Tryd.ntmps17
  go_wp2_with fail
  refine (spec_valid r c s hs _).mono ?_
  rintro e w1 ⟨rfl, hb1⟩
  rw [HV.out]
  have HB := Lib.hid (bstep ((Below.refl w.heap.size w).alloc (Nat.le_refl _) _) hb1)
  obtain ⟨c0, c1, c2⟩ := three_of hb1
  clear hb1 hs
  cases b
  · go_wp2_with fail
    go_ret
    exact ⟨rfl, HB.out⟩
  · go_wp2_with fail
    refine (HF.out (by trivial) _).mono ?_
    rintro e w2 ⟨v, rfl, hsv, hb2⟩
    obtain ⟨p, k, rfl⟩ := SV.slice hsv
    have HB2 := Lib.hid (bstep HB.out hb2)
    clear hb2 hsv HB HF c0 c1 c2
    go_wp2_with fail
    go_ret
    exact ⟨rfl, HB2.out⟩

set_option maxHeartbeats 1000000 in
theorem impl_diff_no (r c : Int) (s : ByteArray) (hG : ∀ W : World, Calls Tryd.prog 64 #[mat r c s] W fun e w' => e = .returned (gval 0 0 (fun _ => 0)) ∧ Below W.heap.size W w') (w : World) :
    Calls Tryd.prog 18 #[mat r c s] w fun e w' => e = .returned (.int .i64 (-1)) ∧ Below w.heap.size w w' := by
  have HG := Lib.hid hG
  clear hG
  go_enter Tryd.func18, Tryd.ntmps18
  go_wp2_with fail
  refine (HG.out _).mono ?_
  rintro e w1 ⟨rfl, hb1⟩
  have HB := Lib.hid (bstep ((Below.refl w.heap.size w).alloc (Nat.le_refl _) _) hb1)
  clear hb1
  have HB2 := Lib.hid (bstepA HB.out (.cells (gcells 0 0 (fun _ => 0)) 78))
  have k0 : (w1.alloc (.cells (gcells 0 0 (fun _ => 0)) 78)).cell? ⟨w1.heap.size, 0, none⟩ = some (.int .i64 0) := cell_of_row _ _ 0 _ _ _ (heap_alloc_new w1 _)
  have K0 := Lib.hid k0
  clear k0
  go_wp2_with (refine wpList_store_row rfl 78 (.tmp 3) (.tmp 5) rfl w1.heap.size (gcells 0 0 (fun _ => 0)) rfl rfl 78 _ (heap_alloc_new w1 _) (ginfo' _ _ _) (by rw [gzero]) (gone _ _ _) ?_; rw [World.setRow_alloc_new]; generalize w1.alloc (.cells (gcells 0 0 (fun _ => 0)) 78) = w2 at *; have k0 := K0.out)
  go_wp2_with fail
  go_ret
  exact ⟨rfl, HB2.out⟩

set_option maxHeartbeats 2000000 in
set_option maxRecDepth 100000 in
theorem impl_diff (R C : Nat) (hR1 : 1 ≤ R) (hR8 : R ≤ 8) (f : Nat → Int) (l : List Nat) (r c : Int) (s : ByteArray) (hG : ∀ W : World, Calls Tryd.prog 64 #[mat r c s] W fun e w' => e = .returned (gval R C f) ∧ Below W.heap.size W w')
    (hX : ∀ W : World, Calls Tryd.prog 65 #[.int .i64 (R : Int), .func (.func 66) #[gval R C f] #[]] W fun e w' => ∃ v, e = .returned v ∧ SV 0 w' v l ∧ Below W.heap.size W w') (w : World) :
    Calls Tryd.prog 18 #[mat r c s] w fun e w' => e = .returned (.int .i64 (l.length : Int)) ∧ Below w.heap.size w w' := by
  have HG := Lib.hid hG
  have HX := Lib.hid hX
  clear hG hX
  have hR0 : ((R : Int) == 0) = false := beq_false_of_ne (by omega)
  go_enter Tryd.func18, Tryd.ntmps18
  go_wp2_with fail
  refine (HG.out _).mono ?_
  rintro e w1 ⟨rfl, hb1⟩
  have HB := Lib.hid (bstep ((Below.refl w.heap.size w).alloc (Nat.le_refl _) _) hb1)
  clear hb1
  have HB2 := Lib.hid (bstepA HB.out (.cells (gcells R C f) 78))
  have H2 := Lib.hid (heap_alloc_new w1 (.cells (gcells R C f) 78))
  have k0 : (w1.alloc (.cells (gcells R C f) 78)).cell? ⟨w1.heap.size, 0, none⟩ = some (.int .i64 (R : Int)) := cell_of_row _ _ 0 _ _ _ (heap_alloc_new w1 _)
  have K0 := Lib.hid k0
  clear k0
  go_wp2_with (first | (refine wpList_store_row rfl 78 (.tmp 3) (.tmp 5) rfl w1.heap.size (gcells R C f) rfl rfl 78 _ (heap_alloc_new w1 _) (ginfo' _ _ _) (by rw [gzero, gsize, gsize]) (gone _ _ _) ?_; rw [World.setRow_alloc_new]; generalize w1.alloc (.cells (gcells R C f) 78) = w2 at *; have k0 := K0.out) | (have X := H2.out; refine wpList_load_row rfl 78 (.tmp 3) rfl w1.heap.size rfl 78 (gcells R C f) (0, 0) _ X Tryd.underlying78 rfl (ginfo' _ _ _) ?_; clear X))
  refine (HX.out _).mono ?_
  rintro e w3 ⟨v, rfl, hsv, hb2⟩
  obtain ⟨p, k, rfl⟩ := SV.slice hsv
  have HB3 := Lib.hid (bstep HB2.out hb2)
  clear hb2 hsv k0
  go_wp2_with fail
  go_ret
  exact ⟨rfl, HB3.out⟩

theorem both (r c : Int) (s : ByteArray) (hs : s.size ≤ maxLen) : ∃ v : Int,
    (∀ w, Calls Tryd.prog 17 #[mat r c s] w fun e w' => e = .returned (.int .i64 v) ∧ Below w.heap.size w w') ∧
    (∀ w, Calls Tryd.prog 18 #[mat r c s] w fun e w' => e = .returned (.int .i64 v) ∧ Below w.heap.size w w') := by
  by_cases hv : validB r c s = true
  · obtain ⟨R, C, E, rfl, rfl, h1, h2, h3, h4, rfl⟩ := valid_form hv
    have hsz : (str (rowsB E R C)).size ≤ 64 := by rw [str_size, rowsB_length]; exact prod_le h2 h4
    have hG := fun W => grid_yes E R C h1 h2 h3 h4 _ rfl hs hsz hv W
    have hl := firsts_len (keyR E C) R
    have hsp := spec_diff R C _ hs (firsts (keyR E C) R) (by omega) (fun _ W => first_sv E R C h2 h4 0 W (Nat.zero_le _))
    have hv2 : diffV R C (str (rowsB E R C)) (firsts (keyR E C) R).length = ((firsts (keyR E C) R).length : Int) := by unfold diffV; rw [hv]; rfl
    rw [hv2] at hsp
    exact ⟨_, hsp, fun w => impl_diff R C h1 h2 _ _ R C _ hG (fun W => firsts_rows E R C h2 h4 0 W (Nat.zero_le _)) w⟩
  · have hv' : validB r c s = false := by simpa using hv
    have hsp := spec_diff r c s hs [] (by simp) (fun h => by rw [hv'] at h; cases h)
    have hv2 : diffV r c s ([] : List Nat).length = -1 := by unfold diffV; rw [hv']; rfl
    rw [hv2] at hsp
    exact ⟨_, hsp, fun w => impl_diff_no r c s (fun W => grid_no r c s hs hv' W) w⟩

theorem walk (r c : Int) (s : ByteArray) (wr : (Lit.int .i64 r).wf = true) (wc : (Lit.int .i64 c).wf = true) (hs : s.size ≤ maxLen) (w : World) :
    Calls Tryd.prog 4 #[mat r c s] w fun e w' => e = .returned (.bool true) ∧ Below w.heap.size w w' := by
  obtain ⟨v, hspec, himpl⟩ := both r c s hs
  have HS := Lib.hid hspec
  have HI := Lib.hid himpl
  clear hspec himpl
  have hs2 := hs
  unfold maxLen at hs2
  by_cases hbig : 1048576 < s.size
  · go_enter Tryd.func4, Tryd.ntmps4
    go_wp2_with fail
    refine (sz_over r c s _ (by omega) (by omega) hs _).mono ?_
    rintro e w1 ⟨rfl, hb1⟩
    have HB := Lib.hid (bstep ((Below.refl w.heap.size w).alloc (Nat.le_refl _) _) hb1)
    clear hb1
    go_wp2_with fail
    go_ret
    exact ⟨rfl, HB.out⟩
  · go_enter Tryd.func4, Tryd.ntmps4
    go_wp2_with fail
    refine (sz_fits r c s _ (by omega) (by omega) _).mono ?_
    rintro e w1 ⟨rfl, hb1⟩
    obtain ⟨k0, k1, k2⟩ := three_of hb1
    have hg : w.heap.size < w1.heap.size := by have := hb1.size; simp at this; omega
    have HB := Lib.hid (bstep ((Below.refl w.heap.size w).alloc (Nat.le_refl _) _) hb1)
    clear hb1
    go_wp2_with fail
    refine (to_any r c s _).mono ?_
    rintro e w2 ⟨rfl, hb2⟩
    go_wp2_with fail
    refine (HS.out _).mono ?_
    rintro e w3 ⟨rfl, hb3⟩
    obtain ⟨j0, j1, j2⟩ := three_on (hb2.trans (hb3.mono hb2.size)) hg k0 k1 k2
    have HB3 := Lib.hid (bstep (bstep HB.out hb2) hb3)
    clear hb2 hb3 k0 k1 k2 HB
    go_wp2_with fail
    refine (to_any r c s _).mono ?_
    rintro e w4 ⟨rfl, hb4⟩
    go_wp2_with fail
    refine (HI.out _).mono ?_
    rintro e w5 ⟨rfl, hb5⟩
    have HB5 := Lib.hid (bstep (bstep HB3.out hb4) hb5)
    clear hb4 hb5 j0 j1 j2 HB3
    go_wp2_with fail
    all_goals (go_ret; exact ⟨rfl, HB5.out⟩)
end Go.Proofs.YtgmhddceeomjbaaDoor.fnExactDifferentRows
