/-
  The walk of the law on IsFooling.
-/
import Derived.Test.YtgmhddceeomjbaaDoorSpecFool
namespace Go.Proofs.YtgmhddceeomjbaaDoor.fnExactIsFooling
open Go.RowKit Go.Proofs.YtgmhddceeomjbaaDoor.Plain Go.Proofs.YtgmhddceeomjbaaDoor.Base Go.Proofs.YtgmhddceeomjbaaDoor.Valid Go.Proofs.YtgmhddceeomjbaaDoor.Law Go.Proofs.YtgmhddceeomjbaaDoor.Entry Go.Proofs.YtgmhddceeomjbaaDoor.Rect Go.Proofs.YtgmhddceeomjbaaDoor.FoolM Go.Proofs.YtgmhddceeomjbaaDoor.IsFool Go.Proofs.YtgmhddceeomjbaaDoor.Kept Go.Proofs.YtgmhddceeomjbaaDoor.Ints Go.Proofs.YtgmhddceeomjbaaDoor.SpecFool
open Go.Proofs.YtgmhddceeomjbaaDoor.Rd5 (cells3)
open Go.Proofs.YtgmhddceeomjbaaDoor.ColF (rows_max rows_small valid_rows)
set_option linter.unusedVariables false
set_option linter.unusedSimpArgs false

def CopiedC (w : World) (xs : List Int) (e : Ending) (w' : World) : Prop := ∃ v, e = .returned v ∧ IVc w' w'.heap.size v xs ∧ Below w.heap.size w w'
set_option maxHeartbeats 1000000 in
theorem copy_c (xs : List Int) (v : Value) (hn : xs.length ≤ 1048576) (w : World) (hiv : IV w w.heap.size v xs) :
    Calls Tryd.prog 14 #[v] w (CopiedC w xs) := by
  obtain ⟨i0, hi, hz0, hz1, hz2⟩ := info_parts info3
  obtain ⟨hl, ⟨rfl, rfl⟩ | ⟨b, off, c, rfl, hlt, hc⟩⟩ := hiv
  · go_enter Tryd.func14, Tryd.ntmps14
    go_wp2_with (at_make; refine wpList_make_full _ rfl (.tmp 6) (.tmp 6) 24 rfl w.heap.size 3 i0 (.int .i64 0) 1 Tryd.underlying24 hi hz0 hz1 .i64 .i64 0 0 0 rfl rfl rfl rfl ?a1 ?a2 ?a3 ?a4; go_must (case a1 => omega); go_must (case a2 => (unfold maxLen; omega)); go_must (case a3 => exact Nat.le_refl _); go_must (intro w2 hown hgrow; have HO := Lib.hid hown; have HG := Lib.hid hgrow; clear hown hgrow))
    refine wp_loop_rounds 1 ?_
    rw [rounds_succ]
    go_wp2_with fail
    go_ret
    exact ⟨_, rfl, ⟨⟨hl, .inr ⟨w.heap.size, 0, 0, rfl, (HO.out.lt _ rfl).2, fun j hj => absurd hj (by simp)⟩⟩, _, _, rfl, Nat.le_refl _⟩, ⟨HG.out.os, HG.out.tape, HG.out.output, HG.out.size, fun i hi => HG.out.block i hi (by simp)⟩⟩
  · have HC := Lib.hid hc
    clear hc
    go_enter Tryd.func14, Tryd.ntmps14
    go_wp2_with (at_make; refine wpList_make_full _ rfl (.tmp 6) (.tmp 6) 24 rfl w.heap.size 3 i0 (.int .i64 0) 1 Tryd.underlying24 hi hz0 hz1 .i64 .i64 (xs.length : Int) (xs.length : Int) xs.length rfl rfl rfl rfl ?b1 ?b2 ?b3 ?b4; go_must (case b1 => (rw [hz2]; omega)); go_must (case b2 => (unfold maxLen; omega)); go_must (case b3 => exact Nat.le_refl _); go_must (intro w2 hown hgrow; rw [ivs_zero xs] at hown; have HO := Lib.hid hown; have HG := Lib.hid hgrow; clear hown hgrow))
    go_loopw [4] (fun i wr => ∃ k : Nat, k ≤ xs.length ∧ i = .int .i64 (k : Int) ∧ wr.ownsRow w.heap.size 3 1 (.slice (some ⟨w.heap.size, 0, none⟩) xs.length xs.length) xs.length (ivs xs k) ∧ Below w.heap.size w wr) (fun i _ => xs.length - (intOf i).toNat)
    case atStart => exact ⟨0, Nat.zero_le _, rfl, HO.out, ⟨HG.out.os, HG.out.tape, HG.out.output, HG.out.size, fun i hi => HG.out.block i hi (by simp)⟩⟩
    case round =>
      obtain ⟨k, hk, rfl, hown, hbel⟩ := hrel
      clear HO HG
      have HO := Lib.hid hown
      have HL := Lib.hid hbel
      by_cases hkl : k < xs.length
      · have hcell : wr.cell? ⟨b, off + k, none⟩ = some (.int .i64 xs[k]) := (hbel.cell (p := ⟨b, off + k, none⟩) hlt).trans (HC.out k hkl)
        have hcell2 : wr.cell? ⟨w.heap.size, k, none⟩ = some (.int .i64 0) := (hown.cellAt k (by omega)).trans (ivs_at xs k hkl)
        have hfr : wr.frozen? ⟨w.heap.size, k, none⟩ = false := hown.frozenAt k
        have HS := Lib.hid (ivs_set xs k hkl)
        generalize xs[k] = x at hcell HS
        clear hown hbel
        go_wp2_with fail
        go_roundw
        case rel => exact ⟨k + 1, by omega, by go_num, by have h := (HO.out.stored k (.int .i64 x)).1; rw [HS.out] at h; exact h, HL.out.setCell (Nat.le_refl _) _⟩
        case measure => simp [intOf]; omega
      · obtain rfl : k = xs.length := by omega
        have HIV : Hid (IV wr wr.heap.size (.slice (some ⟨w.heap.size, 0, none⟩) xs.length xs.length) xs) := ⟨hl, .inr ⟨w.heap.size, 0, xs.length, rfl, (hown.lt _ rfl).2, fun j hj => by
          rw [Nat.zero_add]
          exact (hown.cellAt j (by omega)).trans (ivs_all xs j hj)⟩⟩
        clear hown hbel
        go_wp2_with fail
        go_ret
        exact ⟨_, rfl, ⟨HIV.out, _, _, rfl, Nat.le_refl _⟩, HL.out⟩

set_option maxHeartbeats 1000000 in
theorem spec_no (r c : Int) (s : ByteArray) (hs : s.size ≤ maxLen) (hv : validB r c s = false) (bi : Int) (v : Value) (w : World) :
    Calls Tryd.prog 12 #[mat r c s, .int .i64 bi, v] w fun e w' => e = .returned (.bool false) ∧ Below w.heap.size w w' := by
  have HV := Lib.hid (fun W => spec_valid r c s hs W)
  rw [hv] at HV
  clear hv
  obtain ⟨B, hB⟩ : ∃ B, w.heap.size = B := ⟨_, rfl⟩
  have HK1 := Lib.hid ((Kp.nil w).put (.cells #[.int .i64 r, .int .i64 c, .string s] 27) hB)
  go_enter Tryd.func12, Tryd.ntmps12
  obtain ⟨c0, c1, c2, -, -, -⟩ := cells3 (HK1.out.at 0 rfl)
  go_wp2_with fail
  refine (HV.out _).mono ?_
  rintro e w2 ⟨rfl, hb2⟩
  have HK2 := Lib.hid (HK1.out.later hb2)
  clear hb2 HK1 hB c0 c1 c2
  obtain ⟨c0, c1, c2, -, -, -⟩ := cells3 (HK2.out.at 0 rfl)
  go_wp2_with fail
  go_ret
  exact ⟨rfl, HK2.out.below⟩

set_option maxHeartbeats 1000000 in
theorem spec_nb (r c : Int) (s : ByteArray) (hs : s.size ≤ maxLen) (hv : validB r c s = true) (bi : Int) (hb : ¬ (0 ≤ bi ∧ bi ≤ 1)) (v : Value) (w : World) :
    Calls Tryd.prog 12 #[mat r c s, .int .i64 bi, v] w fun e w' => e = .returned (.bool false) ∧ Below w.heap.size w w' := by
  have HV := Lib.hid (fun W => spec_valid r c s hs W)
  rw [hv] at HV
  have HBI := Lib.hid (fun W => in_any bi 0 1 W)
  rw [decide_eq_false hb] at HBI
  clear hb
  clear hv
  obtain ⟨B, hB⟩ : ∃ B, w.heap.size = B := ⟨_, rfl⟩
  have HK1 := Lib.hid ((Kp.nil w).put (.cells #[.int .i64 r, .int .i64 c, .string s] 27) hB)
  go_enter Tryd.func12, Tryd.ntmps12
  obtain ⟨c0, c1, c2, -, -, -⟩ := cells3 (HK1.out.at 0 rfl)
  go_wp2_with fail
  refine (HV.out _).mono ?_
  rintro e w2 ⟨rfl, hb2⟩
  have HK2 := Lib.hid (HK1.out.later hb2)
  clear hb2 HK1 hB c0 c1 c2
  obtain ⟨c0, c1, c2, -, -, -⟩ := cells3 (HK2.out.at 0 rfl)
  go_wp2_with fail
  refine (HBI.out _).mono ?_
  rintro e w' ⟨rfl, rfl⟩
  go_wp2_with fail
  go_ret
  exact ⟨rfl, HK2.out.below⟩

set_option maxHeartbeats 1000000 in
theorem impl_no (r c : Int) (s : ByteArray) (hs : s.size ≤ maxLen) (hv : validB r c s = false) (bi : Int) (v : Value) (w : World) :
    Calls Tryd.prog 15 #[mat r c s, .int .i64 bi, v] w fun e w' => e = .returned (.bool false) ∧ Below w.heap.size w w' := by
  have HV := Lib.hid (fun W => impl_valid r c s hs W)
  rw [hv] at HV
  clear hv
  obtain ⟨B, hB⟩ : ∃ B, w.heap.size = B := ⟨_, rfl⟩
  have HK1 := Lib.hid ((Kp.nil w).put (.cells #[.int .i64 r, .int .i64 c, .string s] 27) hB)
  go_enter Tryd.func15, Tryd.ntmps15
  obtain ⟨c0, c1, c2, -, -, -⟩ := cells3 (HK1.out.at 0 rfl)
  go_wp2_with fail
  refine (HV.out _).mono ?_
  rintro e w2 ⟨rfl, hb2⟩
  have HK2 := Lib.hid (HK1.out.later hb2)
  clear hb2 HK1 hB c0 c1 c2
  obtain ⟨c0, c1, c2, -, -, -⟩ := cells3 (HK2.out.at 0 rfl)
  go_wp2_with fail
  go_ret
  exact ⟨rfl, HK2.out.below⟩

set_option maxHeartbeats 1000000 in
theorem impl_nb (r c : Int) (s : ByteArray) (hs : s.size ≤ maxLen) (hv : validB r c s = true) (bi : Int) (hb : ¬ (0 ≤ bi ∧ bi ≤ 1)) (v : Value) (w : World) :
    Calls Tryd.prog 15 #[mat r c s, .int .i64 bi, v] w fun e w' => e = .returned (.bool false) ∧ Below w.heap.size w w' := by
  have HV := Lib.hid (fun W => impl_valid r c s hs W)
  rw [hv] at HV
  have hb2 : (bi == 0 || bi == 1) = false := by
    rw [Bool.or_eq_false_iff]
    exact ⟨beq_eq_false_iff_ne.2 (by omega), beq_eq_false_iff_ne.2 (by omega)⟩
  have HBI := Lib.hid (fun W => isbit_any bi W)
  rw [hb2] at HBI
  clear hb2
  clear hb
  clear hv
  obtain ⟨B, hB⟩ : ∃ B, w.heap.size = B := ⟨_, rfl⟩
  have HK1 := Lib.hid ((Kp.nil w).put (.cells #[.int .i64 r, .int .i64 c, .string s] 27) hB)
  go_enter Tryd.func15, Tryd.ntmps15
  obtain ⟨c0, c1, c2, -, -, -⟩ := cells3 (HK1.out.at 0 rfl)
  go_wp2_with fail
  refine (HV.out _).mono ?_
  rintro e w2 ⟨rfl, hb2⟩
  have HK2 := Lib.hid (HK1.out.later hb2)
  clear hb2 HK1 hB c0 c1 c2
  obtain ⟨c0, c1, c2, -, -, -⟩ := cells3 (HK2.out.at 0 rfl)
  go_wp2_with fail
  refine (HBI.out _).mono ?_
  rintro e w' ⟨rfl, rfl⟩
  go_wp2_with fail
  go_ret
  exact ⟨rfl, HK2.out.below⟩

theorem both (r c : Int) (s : ByteArray) (hs : s.size ≤ maxLen) (bi : Int) (xs : List Int) (hx : xs.length ≤ 1048576) : ∃ b : Bool,
    (∀ (v : Value) (w : World), IV w w.heap.size v xs → Calls Tryd.prog 12 #[mat r c s, .int .i64 bi, v] w fun e w' => e = .returned (.bool b) ∧ Below w.heap.size w w') ∧
    (∀ (v : Value) (w : World), IVc w w.heap.size v xs → Calls Tryd.prog 15 #[mat r c s, .int .i64 bi, v] w fun e w' => e = .returned (.bool b) ∧ Below w.heap.size w w') := by
  by_cases hv : validB r c s = true
  · by_cases hb : 0 ≤ bi ∧ bi ≤ 1
    · obtain ⟨R, C, E, rfl, rfl, h1, h2, h3, h4, rfl⟩ := valid_form hv
      obtain ⟨b, rfl⟩ : ∃ b, bi = bitI b := by
        by_cases e : bi = 0
        · exact ⟨false, e⟩
        · exact ⟨true, by show bi = 1; omega⟩
      refine ⟨_, fun v w hi => spec_fool E R C h1 h2 h3 h4 b xs hx v w hi, fun v w hi => ?_⟩
      have h := impl_fool E R C h1 h2 h3 h4 b xs hx v w hi
      have heq : (Ints.okI xs ((R * C : Nat) : Int) && allI (VE E b) R C (nat xs) xs.length) = (Ints.okI xs ((R * C : Nat) : Int) && allS (VE E b) C (nat xs) xs.length) := by
        cases ho : Ints.okI xs ((R * C : Nat) : Int) with
        | false => rfl
        | true =>
          rw [Bool.true_and, Bool.true_and]
          refine all_same (VE E b) R C h2 h3 h4 (nat xs) (fun x hx2 => ?_) xs.length (by rw [List.length_map]; exact Nat.le_refl _)
          obtain ⟨j, hj, rfl⟩ := List.getElem_of_mem hx2
          rw [List.length_map] at hj
          have := okI_get ho j hj
          rw [List.getElem_map]
          omega
      rw [heq] at h
      exact h
    · exact ⟨false, fun v w _ => spec_nb r c s hs hv bi hb v w, fun v w _ => impl_nb r c s hs hv bi hb v w⟩
  · have hv' : validB r c s = false := by simpa using hv
    exact ⟨false, fun v w _ => spec_no r c s hs hv' bi v w, fun v w _ => impl_no r c s hs hv' bi v w⟩

set_option maxHeartbeats 2000000 in
theorem walk (r c : Int) (s : ByteArray) (wr : (Lit.int .i64 r).wf = true) (wc : (Lit.int .i64 c).wf = true) (hs : s.size ≤ maxLen) (bi : Int) (wb : (Lit.int .i64 bi).wf = true) (xs : List Int) (v : Value) (w : World) (hiv : IV w w.heap.size v xs) :
    Calls Tryd.prog 3 #[mat r c s, .int .i64 bi, v] w fun e w' => e = .returned (.bool true) ∧ Below w.heap.size w w' := by
  have hs2 := hs
  unfold maxLen at hs2
  have hxl := hiv.1
  obtain ⟨p1, k1, hv⟩ : ∃ p k, v = .slice p xs.length k := by
    rcases hiv.2 with ⟨rfl, rfl⟩ | ⟨q, off, k, rfl, _⟩
    · exact ⟨none, 0, rfl⟩
    · exact ⟨_, k, rfl⟩
  subst hv
  have HIV := Lib.hid hiv
  clear hiv
  by_cases hbx : (1048576 : Int) < (xs.length : Int)
  · go_enter Tryd.func3, Tryd.ntmps3
    go_wp2_with fail
    go_ret
    exact ⟨rfl, (Below.refl w.heap.size w).alloc (Nat.le_refl _) _⟩
  obtain ⟨b, hspec, himpl⟩ := both r c s hs bi xs (by omega)
  have HS := Lib.hid hspec
  have HI := Lib.hid himpl
  clear hspec himpl
  by_cases hbig : 1048576 < s.size
  · go_enter Tryd.func3, Tryd.ntmps3
    go_wp2_with fail
    refine (sz_over r c s _ (by omega) (by omega) hs _).mono ?_
    rintro e w1 ⟨rfl, hb1⟩
    have HB := Lib.hid (bstep ((Below.refl w.heap.size w).alloc (Nat.le_refl _) _) hb1)
    clear hb1
    go_wp2_with fail
    go_ret
    exact ⟨rfl, HB.out⟩
  · go_enter Tryd.func3, Tryd.ntmps3
    go_wp2_with fail
    refine (sz_fits r c s _ (by omega) (by omega) _).mono ?_
    rintro e w1 ⟨rfl, hb1⟩
    obtain ⟨k0, k1', k2'⟩ := three_of hb1
    have hg : w.heap.size < w1.heap.size := by have := hb1.size; simp at this; omega
    have HB := Lib.hid (bstep ((Below.refl w.heap.size w).alloc (Nat.le_refl _) _) hb1)
    clear hb1
    go_wp2_with fail
    refine (to_any r c s _).mono ?_
    rintro e w2 ⟨rfl, hb2⟩
    obtain ⟨k0, k1', k2'⟩ := three_on hb2 hg k0 k1' k2'
    have hg := Nat.lt_of_lt_of_le hg hb2.size
    have HB := Lib.hid (bstep HB.out hb2)
    clear hb2
    go_wp2_with fail
    refine (copy_c xs _ (by omega) _ ((HIV.out.later (Nat.le_refl _) HB.out).mono HB.out.size)).mono ?_
    rintro e w3 ⟨v3, rfl, i3, hb3⟩
    obtain ⟨k0, k1', k2'⟩ := three_on hb3 hg k0 k1' k2'
    have hg := Nat.lt_of_lt_of_le hg hb3.size
    have HB := Lib.hid (bstep HB.out hb3)
    have I3 := Lib.hid i3
    clear hb3 i3
    go_wp2_with fail
    refine (HS.out _ _ I3.out.1).mono ?_
    rintro e w5 ⟨rfl, hb5⟩
    obtain ⟨k0, k1', k2'⟩ := three_on hb5 hg k0 k1' k2'
    have hg := Nat.lt_of_lt_of_le hg hb5.size
    have HB := Lib.hid (bstep HB.out hb5)
    clear hb5 I3
    go_wp2_with fail
    refine (copy_c xs _ (by omega) _ ((HIV.out.later (Nat.le_refl _) HB.out).mono HB.out.size)).mono ?_
    rintro e w6 ⟨v6, rfl, i6, hb6⟩
    obtain ⟨k0, k1', k2'⟩ := three_on hb6 hg k0 k1' k2'
    have hg := Nat.lt_of_lt_of_le hg hb6.size
    have HB := Lib.hid (bstep HB.out hb6)
    have I6 := Lib.hid i6
    clear hb6 i6
    go_wp2_with fail
    refine (to_any r c s _).mono ?_
    rintro e w8 ⟨rfl, hb8⟩
    have HB := Lib.hid (bstep HB.out hb8)
    have I6 := Lib.hid ((I6.out.later (Nat.le_refl _) hb8).mono hb8.size)
    clear hb8 k0 k1' k2'
    go_wp2_with fail
    refine (HI.out _ _ I6.out).mono ?_
    rintro e w9 ⟨rfl, hb9⟩
    have HB := Lib.hid (bstep HB.out hb9)
    have I6 := Lib.hid ((I6.out.later (Nat.le_refl _) hb9).mono hb9.size)
    clear hb9
    cases b
    all_goals
      go_wp2_with fail
      refine (copy_c xs _ (by omega) _ ((HIV.out.later (Nat.le_refl _) HB.out).mono HB.out.size)).mono ?_
      rintro e w11 ⟨v11, rfl, i11, hb11⟩
      have HB := Lib.hid (bstep HB.out hb11)
      have I6 := Lib.hid ((I6.out.later (Nat.le_refl _) hb11).mono hb11.size)
      have I11 := Lib.hid i11
      clear hb11 i11
      go_wp2_with fail
      refine (same_any xs _ _ _ I6.out.1 I11.out.1).mono ?_
      rintro e w12 ⟨rfl, hb12⟩
      have HB := Lib.hid (bstep HB.out hb12)
      clear hb12 I11 I6
      go_wp2_with fail
      go_ret
      exact ⟨rfl, HB.out⟩
end Go.Proofs.YtgmhddceeomjbaaDoor.fnExactIsFooling
