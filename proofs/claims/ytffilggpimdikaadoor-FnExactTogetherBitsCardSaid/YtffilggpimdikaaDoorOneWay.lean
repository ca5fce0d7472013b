/-
  The walk of the law on OneWayBits.
-/
import Derived.Test.YtffilggpimdikaaDoorDiffWalk
import Derived.Test.YtffilggpimdikaaDoorLgB
namespace Go.Proofs.YtffilggpimdikaaDoor.fnExactOneWayBits
open Go.RowKit Go.Proofs.YtffilggpimdikaaDoor.Plain Go.Proofs.YtffilggpimdikaaDoor.Base Go.Proofs.YtffilggpimdikaaDoor.Valid Go.Proofs.YtffilggpimdikaaDoor.Law Go.Proofs.YtffilggpimdikaaDoor.GridPlain Go.Proofs.YtffilggpimdikaaDoor.Grid Go.Proofs.YtffilggpimdikaaDoor.Entry Go.Proofs.YtffilggpimdikaaDoor.First Go.Proofs.YtffilggpimdikaaDoor.ShrM Go.Proofs.YtffilggpimdikaaDoor.LgB
open Go.Proofs.YtffilggpimdikaaDoor.fnExactDifferentRows (SV.slice impl_diff impl_diff_no)
set_option linter.unusedVariables false

/-- the number of bits -/
def oneV (r c : Int) (s : ByteArray) (n : Nat) : Int := if validB r c s then (lgB n : Int) else -1
set_option maxHeartbeats 1000000 in
theorem spec_one (r c : Int) (s : ByteArray) (hs : s.size ≤ maxLen) (l : List Nat) (hl : l.length ≤ 8)
    (hf : validB r c s = true → ∀ W : World, Calls Tryd.prog 36 #[mat r c s] W fun e w' => ∃ v, e = .returned v ∧ SV 0 w' v l ∧ Below W.heap.size W w') (w : World) :
    Calls Tryd.prog 12 #[mat r c s] w fun e w' => e = .returned (.int .i64 (oneV r c s l.length)) ∧ Below w.heap.size w w' := by
  unfold oneV
  obtain ⟨b, hb⟩ : ∃ b, validB r c s = b := ⟨_, rfl⟩
  rw [hb] at hf ⊢
  have HF := Lib.hid hf
  have HV := Lib.hid hb
  have HK := Lib.hid (fun W => said_k l.length hl W)
  clear hb hf
  have hs2 := hs
  unfold maxLen at hs2
  go_enter Tryd.func12, Tryd.ntmps12
  go_wp2_with fail
  refine (spec_valid r c s hs _).mono ?_
  rintro e w1 ⟨rfl, hb1⟩
  rw [HV.out]
  have HB := Lib.hid (bstep ((Below.refl w.heap.size w).alloc (Nat.le_refl _) _) hb1)
  obtain ⟨c0, c1, c2⟩ := three_of hb1
  clear hb1 hs
  cases b
  · go_wp2_with fail
    go_ret
    exact ⟨rfl, HB.out⟩
  · go_wp2_with fail
    refine (HF.out (by trivial) _).mono ?_
    rintro e w2 ⟨v, rfl, hsv, hb2⟩
    obtain ⟨p, k, rfl⟩ := SV.slice hsv
    have HB2 := Lib.hid (bstep HB.out hb2)
    clear hb2 hsv HB HF c0 c1 c2
    go_wp2_with fail
    refine (HK.out _).mono ?_
    rintro e w3 ⟨rfl, hb3⟩
    have HB3 := Lib.hid (bstep HB2.out hb3)
    clear hb3 HB2
    go_wp2_with fail
    go_ret
    exact ⟨rfl, HB3.out⟩
set_option maxHeartbeats 1000000 in
theorem impl_one (r c : Int) (s : ByteArray) (n k : Int) (hD : ∀ W : World, Calls Tryd.prog 38 #[mat r c s] W fun e w' => e = .returned (.int .i64 n) ∧ Below W.heap.size W w')
    (hB : ∀ W : World, Calls Tryd.prog 37 #[.int .i64 n] W fun e w' => e = .returned (.int .i64 k) ∧ Below W.heap.size W w') (w : World) :
    Calls Tryd.prog 14 #[mat r c s] w fun e w' => e = .returned (.int .i64 k) ∧ Below w.heap.size w w' := by
  have HD := Lib.hid hD
  have HBF := Lib.hid hB
  clear hD hB
  go_enter Tryd.func14, Tryd.ntmps14
  go_wp2_with fail
  refine (HD.out _).mono ?_
  rintro e w1 ⟨rfl, hb1⟩
  have HB1 := Lib.hid (bstep ((Below.refl w.heap.size w).alloc (Nat.le_refl _) _) hb1)
  clear hb1
  go_wp2_with fail
  refine (HBF.out _).mono ?_
  rintro e w2 ⟨rfl, hb2⟩
  have HB2 := Lib.hid (bstep HB1.out hb2)
  clear hb2 HB1
  go_wp2_with fail
  go_ret
  exact ⟨rfl, HB2.out⟩
theorem impl_yes (E : Nat → Nat → Bool) (R C : Nat) (h1 : 1 ≤ R) (h2 : R ≤ 8) (h3 : 1 ≤ C) (h4 : C ≤ 8) (hs : (str (rowsB E R C)).size ≤ maxLen) (hv : validB R C (str (rowsB E R C)) = true) (w : World) :
    Calls Tryd.prog 14 #[mat R C (str (rowsB E R C))] w fun e w' => e = .returned (.int .i64 (lgB (firsts (keyR E C) R).length : Int)) ∧ Below w.heap.size w w' := by
  have hsz : (str (rowsB E R C)).size ≤ 64 := by rw [str_size, rowsB_length]; exact prod_le h2 h4
  have hl := firsts_len (keyR E C) R
  exact impl_one _ _ _ _ _ (fun W => impl_diff R C h1 h2 _ _ R C _ (fun W => grid_yes E R C h1 h2 h3 h4 _ rfl hs hsz hv W) (fun W => firsts_rows E R C h2 h4 0 W (Nat.zero_le _)) W) (fun W => bits_for _ (by omega) W) w
theorem both (r c : Int) (s : ByteArray) (hs : s.size ≤ maxLen) : ∃ v : Int,
    (∀ w, Calls Tryd.prog 12 #[mat r c s] w fun e w' => e = .returned (.int .i64 v) ∧ Below w.heap.size w w') ∧
    (∀ w, Calls Tryd.prog 14 #[mat r c s] w fun e w' => e = .returned (.int .i64 v) ∧ Below w.heap.size w w') := by
  by_cases hv : validB r c s = true
  · obtain ⟨R, C, E, rfl, rfl, h1, h2, h3, h4, rfl⟩ := valid_form hv
    have hl := firsts_len (keyR E C) R
    have hsp := spec_one R C _ hs (firsts (keyR E C) R) (by omega) (fun _ W => first_sv E R C h2 h4 0 W (Nat.zero_le _))
    have hv2 : oneV R C (str (rowsB E R C)) (firsts (keyR E C) R).length = (lgB (firsts (keyR E C) R).length : Int) := by unfold oneV; rw [hv]; rfl
    rw [hv2] at hsp
    exact ⟨_, hsp, fun w => impl_yes E R C h1 h2 h3 h4 hs hv w⟩
  · have hv' : validB r c s = false := by simpa using hv
    have hsp := spec_one r c s hs [] (by simp) (fun h => by rw [hv'] at h; cases h)
    have hv2 : oneV r c s ([] : List Nat).length = -1 := by unfold oneV; rw [hv']; rfl
    rw [hv2] at hsp
    exact ⟨_, hsp, fun w => impl_one r c s (-1) (-1) (fun W => impl_diff_no r c s (fun W => grid_no r c s hs hv' W) W) (fun W => bits_none W) w⟩

theorem walk (r c : Int) (s : ByteArray) (wr : (Lit.int .i64 r).wf = true) (wc : (Lit.int .i64 c).wf = true) (hs : s.size ≤ maxLen) (w : World) :
    Calls Tryd.prog 3 #[mat r c s] w fun e w' => e = .returned (.bool true) ∧ Below w.heap.size w w' := by
  obtain ⟨v, hspec, himpl⟩ := both r c s hs
  have HS := Lib.hid hspec
  have HI := Lib.hid himpl
  clear hspec himpl
  have hs2 := hs
  unfold maxLen at hs2
  by_cases hbig : 1048576 < s.size
  · go_enter Tryd.func3, Tryd.ntmps3
    go_wp2_with fail
    refine (sz_over r c s _ (by omega) (by omega) hs _).mono ?_
    rintro e w1 ⟨rfl, hb1⟩
    have HB := Lib.hid (bstep ((Below.refl w.heap.size w).alloc (Nat.le_refl _) _) hb1)
    clear hb1
    go_wp2_with fail
    go_ret
    exact ⟨rfl, HB.out⟩
  · go_enter Tryd.func3, Tryd.ntmps3
    go_wp2_with fail
    refine (sz_fits r c s _ (by omega) (by omega) _).mono ?_
    rintro e w1 ⟨rfl, hb1⟩
    obtain ⟨k0, k1, k2⟩ := three_of hb1
    have hg : w.heap.size < w1.heap.size := by have := hb1.size; simp at this; omega
    have HB := Lib.hid (bstep ((Below.refl w.heap.size w).alloc (Nat.le_refl _) _) hb1)
    clear hb1
    go_wp2_with fail
    refine (to_any r c s _).mono ?_
    rintro e w2 ⟨rfl, hb2⟩
    go_wp2_with fail
    refine (HS.out _).mono ?_
    rintro e w3 ⟨rfl, hb3⟩
    obtain ⟨j0, j1, j2⟩ := three_on (hb2.trans (hb3.mono hb2.size)) hg k0 k1 k2
    have HB3 := Lib.hid (bstep (bstep HB.out hb2) hb3)
    clear hb2 hb3 k0 k1 k2 HB
    go_wp2_with fail
    refine (to_any r c s _).mono ?_
    rintro e w4 ⟨rfl, hb4⟩
    go_wp2_with fail
    refine (HI.out _).mono ?_
    rintro e w5 ⟨rfl, hb5⟩
    have HB5 := Lib.hid (bstep (bstep HB3.out hb4) hb5)
    clear hb4 hb5 j0 j1 j2 HB3
    go_wp2_with fail
    all_goals (go_ret; exact ⟨rfl, HB5.out⟩)
end Go.Proofs.YtffilggpimdikaaDoor.fnExactOneWayBits
