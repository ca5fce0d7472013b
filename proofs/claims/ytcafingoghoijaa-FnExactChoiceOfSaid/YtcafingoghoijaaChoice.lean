/-
  ChoiceOf: both sides.
-/
import Derived.Test.YtcafingoghoijaaChoiceC
namespace Go.Proofs.Ytcafingoghoijaa.Choice
open Go.RowKit Go.Proofs.Ytcafingoghoijaa.Plain Go.Proofs.Ytcafingoghoijaa.Rect Go.Proofs.Ytcafingoghoijaa.GuessM Go.Proofs.Ytcafingoghoijaa.GuessI Go.Proofs.Ytcafingoghoijaa.GuessT Go.Proofs.Ytcafingoghoijaa.Rects Go.Proofs.Ytcafingoghoijaa.Things Go.Proofs.Ytcafingoghoijaa.Accept Go.Proofs.Ytcafingoghoijaa.LiveI Go.Proofs.Ytcafingoghoijaa.Live Go.Proofs.Ytcafingoghoijaa.LiveS Go.Proofs.Ytcafingoghoijaa.ChoiceC
open Go.Proofs.Ytcafingoghoijaa.Proof (leastK_found leastK_none)
set_option linter.unusedVariables false
set_option linter.unusedSimpArgs false

/-- whether a side has an input -/
def tbit (s input : Int) : Bool := if 0 ≤ input ∧ input ≤ 7 then s.toNat.testBit input.toNat else false
/-- whether the j-th is a choice -/
def chAt (ones lv : List (Int × Int)) (input : Int) (cols : Bool) (j : Nat) : Bool := tbit (side (ones.getD j (0, 0)) cols) input && decide (2 * (live lv (ones.getD j (0, 0)) cols).length ≤ lv.length)
theorem chAt_at (ones lv : List (Int × Int)) (input : Int) (cols : Bool) (j : Nat) (hj : j < ones.length) : chAt ones lv input cols j = (tbit (side ones[j] cols) input && decide (2 * (live lv ones[j] cols).length ≤ lv.length)) := by simp [chAt, List.getD, hj]

theorem side_nat {q : Int × Int} (h : someB q.1 q.2 = true) (cols : Bool) : ∃ s : Nat, side q cols = (s : Int) ∧ s < 256 := by
  have hb := (someB_iff _ _).1 h
  refine ⟨(side q cols).toNat, ?_, ?_⟩ <;> cases cols <;> simp only [side, if_true, if_false, Bool.false_eq_true] <;> omega
theorem in_set {q : Int × Int} (h : someB q.1 q.2 = true) (cols : Bool) (input : Int) (W : World) : Calls Try.prog 57 #[.int .i64 (side q cols), .int .i64 input] W fun e w' => e = .returned (.bool (tbit (side q cols) input)) ∧ W = w' := by
  obtain ⟨s, hs, hl⟩ := side_nat h cols
  rw [hs]
  unfold tbit
  by_cases hi : 0 ≤ input ∧ input ≤ 7
  · rw [if_pos hi]
    obtain ⟨i, rfl⟩ := Int.eq_ofNat_of_zero_le hi.1
    exact inSet_yes s i hl (by omega) W
  · rw [if_neg hi]
    exact inSet_no s input (by omega) W
theorem l2_in {q : Int × Int} (h : someB q.1 q.2 = true) (cols : Bool) (input : Int) (hi : 0 ≤ input ∧ input ≤ 7) (W : World) : Calls Try.prog 73 #[.int .i64 (side q cols), .int .i64 input] W fun e w' => e = .returned (.bool (tbit (side q cols) input)) ∧ W = w' := by
  obtain ⟨s, hs, hl⟩ := side_nat h cols
  rw [hs]
  unfold tbit
  rw [if_pos hi]
  obtain ⟨i, rfl⟩ := Int.eq_ofNat_of_zero_le hi.1
  exact l2In_any s i hl (by omega) W

theorem right_choice (ones lv : List (Int × Int)) (hlen : lv.length ≤ 1048576) (h1 : allR ones = true) (h2 : allR lv = true) (input : Int) (cols : Bool) (p : Option Addr) (k : Nat) (Bl Bi Bc B : Nat) (w : World)
    (c1 : w.cell? ⟨Bl, 0, none⟩ = some (.slice p lv.length k)) (c2 : w.cell? ⟨Bi, 0, none⟩ = some (.int .i64 input)) (c3 : w.cell? ⟨Bc, 0, none⟩ = some (.bool cols)) (hv : RV w B (.slice p lv.length k) lv) (hl : Bl < w.heap.size ∧ Bi < w.heap.size ∧ Bc < w.heap.size ∧ B ≤ w.heap.size) :
    Right 56 #[.pointer (some ⟨Bc, 0, none⟩), .pointer (some ⟨Bi, 0, none⟩), .pointer (some ⟨Bl, 0, none⟩)] ones (chAt ones lv input cols) w := by
  intro j hj W hb
  obtain ⟨l1, l2, l3, l4⟩ := hl
  have hs := hb.size
  rw [chAt_at ones lv input cols j hj]
  have hr := allR_at h1 j hj
  have ht := fun W => in_set hr cols input W
  have d1 := (hb.cell (p := ⟨Bl, 0, none⟩) l1).trans c1
  have d2 := (hb.cell (p := ⟨Bi, 0, none⟩) l2).trans c2
  have d3 := (hb.cell (p := ⟨Bc, 0, none⟩) l3).trans c3
  have dv := hv.later l4 hb
  obtain ⟨q, hq⟩ : ∃ q, ones[j] = q := ⟨_, rfl⟩
  rw [hq] at hr ht ⊢
  obtain ⟨x, y⟩ := q
  cases htb : tbit (side (x, y) cols) input with
  | true =>
    rw [htb] at ht
    rw [Bool.true_and]
    exact clo_yes lv hlen p k x y input cols Bl Bi Bc B W d1 d2 d3 dv (by omega) hr h2 ht
  | false =>
    rw [htb] at ht
    rw [Bool.false_and]
    exact clo_no lv hlen p k x y input cols Bl Bi Bc B W d1 d2 d3 dv (by omega) ht

/-- the boxes of the closure -/
theorem three (w : World) (p : Option Addr) (n k : Nat) (input : Int) (cols : Bool) :
    let W0 := ((w.alloc (.cells #[.slice p n k] 25)).alloc (.cells #[.int .i64 input] 3)).alloc (.cells #[.bool cols] 4)
    W0.cell? ⟨w.heap.size, 0, none⟩ = some (.slice p n k) ∧ W0.cell? ⟨w.heap.size + 1, 0, none⟩ = some (.int .i64 input) ∧ W0.cell? ⟨w.heap.size + 1 + 1, 0, none⟩ = some (.bool cols) ∧ Below w.heap.size w W0 ∧ W0.heap.size = w.heap.size + 3 := by
  intro W0
  refine ⟨?_, ?_, ?_, (((Below.refl _ _).alloc (Nat.le_refl _) _).alloc (by simp) _).alloc (by simp; omega) _, by simp [W0]⟩
  · exact (World.cell?_of_block (a := ⟨w.heap.size, 0, none⟩) (Below.heap_alloc _ _ _ (by simp; omega))).trans ((World.cell?_of_block (a := ⟨w.heap.size, 0, none⟩) (Below.heap_alloc _ _ _ (by simp))).trans (cell_of_row _ _ 0 _ _ _ (heap_alloc_new w _)))
  · have h := heap_alloc_new (w.alloc (.cells #[.slice p n k] 25)) (.cells #[.int .i64 input] 3)
    rw [World.size_alloc] at h
    exact (World.cell?_of_block (a := ⟨w.heap.size + 1, 0, none⟩) (Below.heap_alloc _ _ _ (by simp))).trans (cell_of_row _ _ 0 _ _ _ h)
  · have h := heap_alloc_new ((w.alloc (.cells #[.slice p n k] 25)).alloc (.cells #[.int .i64 input] 3)) (.cells #[.bool cols] 4)
    rw [World.size_alloc, World.size_alloc] at h
    exact cell_of_row _ _ 0 _ _ _ h

set_option maxHeartbeats 4000000 in
theorem impl_yes (ones lv : List (Int × Int)) (hlo : ones.length ≤ 1048576) (hlen : lv.length ≤ 1048576) (h1 : allR ones = true) (h2 : allR lv = true) (vo vl : Value) (input : Int) (cols : Bool) (w : World) (hvo : RV w w.heap.size vo ones) (hvl : RV w w.heap.size vl lv) :
    Calls Try.prog 28 #[vo, vl, .int .i64 input, .bool cols] w fun e w' => e = .returned (.int .i64 (leastK (chAt ones lv input cols) ones.length)) ∧ Below w.heap.size w w' := by
  obtain ⟨p, k, rfl⟩ := hvl.slice
  obtain ⟨k1, k2, k3, hb3, hs3⟩ := three w p lv.length k input cols
  have HA := Lib.hid (fun v w hv => (are_rects ones hlo v w hv).mono (fun e w' h => by rw [h1] at h; exact h))
  have HAL := Lib.hid (fun v w hv => (are_rects lv hlen v w hv).mono (fun e w' h => by rw [h2] at h; exact h))
  have HG := Lib.hid (fun v W (hv : RV W W.heap.size v ones) c1 c2 c3 hl hll => guess_any 56 #[.pointer (some ⟨w.heap.size + 1 + 1, 0, none⟩), .pointer (some ⟨w.heap.size + 1, 0, none⟩), .pointer (some ⟨w.heap.size, 0, none⟩)] (enters_of Try.func56 (by kernel_rfl) rfl) ones hlo v (chAt ones lv input cols) W hv (right_choice ones lv hlen h1 h2 input cols p k w.heap.size (w.heap.size + 1) (w.heap.size + 1 + 1) w.heap.size W c1 c2 c3 hl hll))
  have HT := Lib.hid (fun v' B W hg => least ones (chAt ones lv input cols) v' B W hg)
  obtain ⟨r, hr⟩ : ∃ r, leastK (chAt ones lv input cols) ones.length = r := ⟨_, rfl⟩
  rw [hr] at HT ⊢
  have HK := Lib.hid (And.intro k1 (And.intro k2 k3))
  have HB3 := Lib.hid hb3
  have HVO := Lib.hid hvo
  have HVL := Lib.hid hvl
  clear h1 h2 hvo hvl hr k1 k2 k3 hb3
  go_enter Try.func28, Try.ntmps28
  go_wp2_with fail
  obtain ⟨W0, hW0⟩ : ∃ W0, ((w.alloc (.cells #[.slice p lv.length k] 25)).alloc (.cells #[.int .i64 input] 3)).alloc (.cells #[.bool cols] 4) = W0 := ⟨_, rfl⟩
  rw [hW0] at HK HB3 hs3
  first | rw [hW0] | skip
  clear hW0
  refine (HA.out _ _ ((HVO.out.later (Nat.le_refl _) HB3.out).mono HB3.out.size)).mono ?_
  rintro e w1 ⟨rfl, hb1⟩
  have hs1 := hb1.size
  have c1 : w1.cell? ⟨w.heap.size, 0, none⟩ = some (.slice p lv.length k) := (hb1.cell (p := ⟨w.heap.size, 0, none⟩) (by show w.heap.size < _; omega)).trans HK.out.1
  have HK1 := Lib.hid (And.intro c1 (And.intro ((hb1.cell (p := ⟨w.heap.size + 1, 0, none⟩) (by show w.heap.size + 1 < _; omega)).trans HK.out.2.1) ((hb1.cell (p := ⟨w.heap.size + 1 + 1, 0, none⟩) (by show w.heap.size + 1 + 1 < _; omega)).trans HK.out.2.2)))
  have HB1 := Lib.hid (HB3.out.trans (hb1.mono HB3.out.size))
  clear hb1 HK HB3
  go_wp2_with fail
  refine (HAL.out _ _ ((HVL.out.later (Nat.le_refl _) HB1.out).mono HB1.out.size)).mono ?_
  rintro e w2 ⟨rfl, hb2⟩
  have hs2 := hb2.size
  have HK2 := Lib.hid (And.intro ((hb2.cell (p := ⟨w.heap.size, 0, none⟩) (by show w.heap.size < _; omega)).trans HK1.out.1) (And.intro ((hb2.cell (p := ⟨w.heap.size + 1, 0, none⟩) (by show w.heap.size + 1 < _; omega)).trans HK1.out.2.1) ((hb2.cell (p := ⟨w.heap.size + 1 + 1, 0, none⟩) (by show w.heap.size + 1 + 1 < _; omega)).trans HK1.out.2.2)))
  have HB2 := Lib.hid (HB1.out.trans (hb2.mono HB1.out.size))
  clear hb2 c1 HK1 HB1
  go_wp2_with fail
  refine (HG.out _ _ ((HVO.out.later (Nat.le_refl _) HB2.out).mono HB2.out.size) HK2.out.1 HK2.out.2.1 HK2.out.2.2 (HVL.out.later (Nat.le_refl _) HB2.out) (by omega)).mono ?_
  rintro e w3 ⟨v3, rfl, hg, hb3⟩
  have HG3 := Lib.hid hg
  have HB3 := Lib.hid (HB2.out.trans (hb3.mono HB2.out.size))
  clear hg hb3 HG HK2 HB2
  go_wp2_with fail
  refine (HT.out _ _ _ HG3.out).mono ?_
  rintro e w4 ⟨rfl, hb4⟩
  have HB4 := Lib.hid (HB3.out.trans (hb4.mono HB3.out.size))
  clear hb4 HB3 HG3 HT
  go_wp2_with fail
  go_ret
  exact ⟨rfl, HB4.out⟩

set_option maxHeartbeats 4000000 in
theorem impl_no (ones lv : List (Int × Int)) (hlo : ones.length ≤ 1048576) (hlen : lv.length ≤ 1048576) (h : (allR ones && allR lv) = false) (vo vl : Value) (input : Int) (cols : Bool) (w : World) (hvo : RV w w.heap.size vo ones) (hvl : RV w w.heap.size vl lv) :
    Calls Try.prog 28 #[vo, vl, .int .i64 input, .bool cols] w fun e w' => e = .returned (.int .i64 (-1)) ∧ Below w.heap.size w w' := by
  obtain ⟨p, k, rfl⟩ := hvl.slice
  obtain ⟨k1, k2, k3, hb3, hs3⟩ := three w p lv.length k input cols
  have HA := Lib.hid (fun v w hv => are_rects ones hlo v w hv)
  have HAL := Lib.hid (fun v w hv => are_rects lv hlen v w hv)
  obtain ⟨a, ha⟩ : ∃ a, allR ones = a := ⟨_, rfl⟩
  obtain ⟨b, hb⟩ : ∃ b, allR lv = b := ⟨_, rfl⟩
  rw [ha] at HA h
  rw [hb] at HAL h
  have HK := Lib.hid k1
  have HB3 := Lib.hid hb3
  have HVO := Lib.hid hvo
  have HVL := Lib.hid hvl
  clear hvo hvl k1 k2 k3 hb3 ha hb
  go_enter Try.func28, Try.ntmps28
  go_wp2_with fail
  obtain ⟨W0, hW0⟩ : ∃ W0, ((w.alloc (.cells #[.slice p lv.length k] 25)).alloc (.cells #[.int .i64 input] 3)).alloc (.cells #[.bool cols] 4) = W0 := ⟨_, rfl⟩
  rw [hW0] at HK HB3 hs3
  first | rw [hW0] | skip
  clear hW0
  refine (HA.out _ _ ((HVO.out.later (Nat.le_refl _) HB3.out).mono HB3.out.size)).mono ?_
  rintro e w1 ⟨rfl, hb1⟩
  have hs1 := hb1.size
  have c1 : w1.cell? ⟨w.heap.size, 0, none⟩ = some (.slice p lv.length k) := (hb1.cell (p := ⟨w.heap.size, 0, none⟩) (by show w.heap.size < _; omega)).trans HK.out
  have HB1 := Lib.hid (HB3.out.trans (hb1.mono HB3.out.size))
  clear hb1 HK HB3
  cases a with
  | false =>
    go_wp2_with fail
    go_ret
    exact ⟨rfl, HB1.out⟩
  | true =>
    obtain rfl : b = false := by simpa using h
    go_wp2_with fail
    refine (HAL.out _ _ ((HVL.out.later (Nat.le_refl _) HB1.out).mono HB1.out.size)).mono ?_
    rintro e w2 ⟨rfl, hb2⟩
    have HB2 := Lib.hid (HB1.out.trans (hb2.mono HB1.out.size))
    clear hb2 c1 HB1
    go_wp2_with fail
    go_ret
    exact ⟨rfl, HB2.out⟩

set_option maxHeartbeats 4000000 in
theorem choice_spec (ones lv : List (Int × Int)) (hlo : ones.length ≤ 1048576) (hlen : lv.length ≤ 1048576) (h1 : allR ones = true) (vo vl : Value) (input : Int) (hi : 0 ≤ input ∧ input ≤ 7) (cols : Bool) (w : World) (hvo : RV w w.heap.size vo ones) (hvl : RV w w.heap.size vl lv) :
    Calls Try.prog 55 #[vo, vl, .int .i64 input, .bool cols] w fun e w' => e = .returned (.int .i64 (leastK (chAt ones lv input cols) ones.length)) ∧ Below w.heap.size w w' := by
  have HC : Hid (∀ W, Below w.heap.size w W → ∀ j (hj : j < ones.length), ∃ b off c, vo = .slice (some ⟨b, off, none⟩) ones.length c ∧ b < w.heap.size ∧ W.cell? ⟨b, off + j * 2, none⟩ = some (.int .i64 ones[j].1) ∧ W.cell? ⟨b, off + j * 2 + 1, none⟩ = some (.int .i64 ones[j].2)) := fun W hb j hj => by
    rcases (hvo.later (Nat.le_refl _) hb).2 with ⟨_, rfl⟩ | ⟨b, off, c, rfl, hlt, hc⟩
    · cases hj
    · exact ⟨b, off, c, rfl, hlt, hc j hj⟩
  have HF := Lib.hid (fun j hj h hb => leastK_found (f := chAt ones lv input cols) (n := ones.length) (j := j) hj h hb)
  have HN := Lib.hid (fun hb => leastK_none (f := chAt ones lv input cols) (n := ones.length) hb)
  have HAC := Lib.hid (fun j (hj : j < ones.length) W => spec_acc ones[j].1 ones[j].2 input cols _ (fun W => l2_in (allR_at h1 j hj) cols input hi W) W)
  have HLV := Lib.hid (fun j (hj : j < ones.length) W (hv : RV W W.heap.size vl lv) => (live_spec lv hlen vl ones[j].1 ones[j].2 cols W hv).mono (R' := fun e w' => ∃ v, e = .returned v ∧ (∃ p' k', v = .slice p' (live lv ones[j] cols).length k') ∧ Below W.heap.size W w') (fun e w' h => by obtain ⟨v, h1, h2, h3⟩ := h; exact ⟨v, h1, own_slice h2, h3⟩))
  have HAT := Lib.hid (fun j hj => chAt_at ones lv input cols j hj)
  have HLN := Lib.hid (fun q => Nat.le_trans (kept_len lv (meetsAt lv (side q cols) cols)) hlen)
  obtain ⟨f, hf⟩ : ∃ f, chAt ones lv input cols = f := ⟨_, rfl⟩
  rw [hf] at HF HN HAT ⊢
  obtain ⟨r, hr⟩ : ∃ r, leastK f ones.length = r := ⟨_, rfl⟩
  rw [hr] at HF HN ⊢
  obtain ⟨p, k, rfl⟩ := hvo.slice
  obtain ⟨pl, kl, rfl⟩ := hvl.slice
  have HVL := Lib.hid hvl
  clear hvo hvl h1 hf hr
  go_enter Try.func55, Try.ntmps55
  go_wp2_with fail
  go_loopw [9] (fun i wr => ∃ j : Nat, j ≤ ones.length ∧ i = .int .i64 (j : Int) ∧ (∀ t, t < j → f t = false) ∧ Below w.heap.size w wr) (fun i _ => ones.length - (intOf i).toNat)
  case atStart => exact ⟨0, Nat.zero_le _, rfl, fun t h => absurd h (Nat.not_lt_zero t), Below.refl _ _⟩
  case round =>
    obtain ⟨j, hj, rfl, hno, hbr⟩ := hrel
    have HNO := Lib.hid hno
    have HBR := Lib.hid hbr
    clear hno hbr
    by_cases hlt : j < ones.length
    · obtain ⟨b, off, c, he, hbl, c0, c1⟩ := HC.out wr HBR.out j hlt
      injection he with he1 he2 he3
      subst he1 he3
      have hat := HAT.out j hlt
      have HAJ := Lib.hid (fun W => HAC.out j hlt W)
      have HLJ := Lib.hid (fun W hv => HLV.out j hlt W hv)
      have hln : (live lv ones[j] cols).length ≤ 1048576 := HLN.out ones[j]
      have HSE : Hid (ones[j] = (ones[j].1, ones[j].2)) := rfl
      obtain ⟨L, hL⟩ : ∃ L, (live lv ones[j] cols).length = L := ⟨_, rfl⟩
      rw [hL] at HLJ hat hln
      obtain ⟨tb, htb⟩ : ∃ tb, tbit (side ones[j] cols) input = tb := ⟨_, rfl⟩
      have htb2 : tbit (side (ones[j].1, ones[j].2) cols) input = tb := htb
      rw [htb] at hat
      rw [htb2] at HAJ
      obtain ⟨x, hx⟩ : ∃ a, ones[j].1 = a := ⟨_, rfl⟩
      obtain ⟨y, hy⟩ : ∃ b, ones[j].2 = b := ⟨_, rfl⟩
      rw [hx, hy] at HAJ HLJ
      rw [hx] at c0
      rw [hy] at c1
      have HX := Lib.hid hat
      have hwr := HBR.out.size
      clear hat htb htb2 hL hx hy HSE
      go_wp2_with fail
      refine (HAJ.out _).mono ?_
      rintro e w1 ⟨rfl, hb1⟩
      have hs1 := hb1.size
      have HB1 := Lib.hid (HBR.out.trans (hb1.mono HBR.out.size))
      have c0 := (hb1.cell (p := ⟨b, off + j * 2, none⟩) (by show b < _; omega)).trans c0
      have c1 := (hb1.cell (p := ⟨b, off + j * 2 + 1, none⟩) (by show b < _; omega)).trans c1
      clear hb1 HAJ HBR
      cases tb with
      | false =>
        have HX2 : Hid (f j = false) := by show f j = false; rw [HX.out, Bool.false_and]
        go_wp2_with fail
        go_roundw
        case rel =>
          refine ⟨j + 1, by omega, by go_num, fun t ht => ?_, HB1.out⟩
          by_cases e : t = j
          · rw [e]; exact HX2.out
          · exact HNO.out t (by omega)
        case measure => simp [intOf]; omega
      | true =>
        go_wp2_with fail
        refine (HLJ.out _ ((HVL.out.later (Nat.le_refl _) HB1.out).mono HB1.out.size)).mono ?_
        rintro e w2 ⟨v2, rfl, ⟨p2, k2, rfl⟩, hb2⟩
        have HB2 := Lib.hid (HB1.out.trans (hb2.mono HB1.out.size))
        clear hb2 HB1 HLJ c0 c1
        have hwrap : IntKind.i64.wrap (2 * (L : Int)) = 2 * (L : Int) := IntWalk.i64_in _ ⟨by omega, by omega⟩
        by_cases hle : 2 * (L : Int) ≤ (lv.length : Int)
        · have HX2 : f j = true := by rw [HX.out, Bool.true_and]; exact decide_eq_true (by omega)
          obtain rfl := HF.out j hlt HX2 HNO.out
          clear HX2
          go_wp2_with fail
          go_ret
          exact ⟨rfl, HB2.out⟩
        · have HX2 : Hid (f j = false) := by show f j = false; rw [HX.out, Bool.true_and]; exact decide_eq_false (by omega)
          go_wp2_with fail
          go_roundw
          case rel =>
            refine ⟨j + 1, by omega, by go_num, fun t ht => ?_, HB2.out⟩
            by_cases e : t = j
            · rw [e]; exact HX2.out
            · exact HNO.out t (by omega)
          case measure => simp [intOf]; omega
    · obtain rfl : j = ones.length := by omega
      obtain rfl := HN.out HNO.out
      go_wp2_with fail
      go_ret
      exact ⟨rfl, HBR.out⟩

set_option maxHeartbeats 4000000 in
theorem spec_any (ones lv : List (Int × Int)) (hlo : ones.length ≤ 1048576) (hlen : lv.length ≤ 1048576) (vo vl : Value) (input : Int) (cols : Bool) (w : World) (hvo : RV w w.heap.size vo ones) (hvl : RV w w.heap.size vl lv) :
    Calls Try.prog 27 #[vo, vl, .int .i64 input, .bool cols] w fun e w' => e = .returned (.int .i64 (if allR ones = true ∧ allR lv = true ∧ (0 ≤ input ∧ input ≤ 7) then leastK (chAt ones lv input cols) ones.length else -1)) ∧ Below w.heap.size w w' := by
  have HA := Lib.hid (fun v w hv => spec_rects ones hlo v w hv)
  have HAL := Lib.hid (fun v w hv => spec_rects lv hlen v w hv)
  have HCS := Lib.hid (fun h1 hi w vo vl hvo hvl => choice_spec ones lv hlo hlen h1 vo vl input hi cols w hvo hvl)
  have HVO := Lib.hid hvo
  have HVL := Lib.hid hvl
  obtain ⟨r, hr⟩ : ∃ r, leastK (chAt ones lv input cols) ones.length = r := ⟨_, rfl⟩
  rw [hr] at HCS ⊢
  clear hvo hvl hr
  cases ha : allR ones with
  | false =>
    rw [if_neg (fun h => by cases h.1)]
    rw [ha] at HA
    clear ha HCS
    go_enter Try.func27, Try.ntmps27
    go_wp2_with fail
    refine (HA.out _ _ HVO.out).mono ?_
    rintro e w1 ⟨rfl, hb1⟩
    have HB1 := Lib.hid hb1
    clear hb1
    go_wp2_with fail
    go_ret
    exact ⟨rfl, HB1.out⟩
  | true =>
    cases hb : allR lv with
    | false =>
      rw [if_neg (fun h => by cases h.2.1)]
      rw [ha] at HA
      rw [hb] at HAL
      clear ha hb HCS
      go_enter Try.func27, Try.ntmps27
      go_wp2_with fail
      refine (HA.out _ _ HVO.out).mono ?_
      rintro e w1 ⟨rfl, hb1⟩
      have HB1 := Lib.hid hb1
      clear hb1
      go_wp2_with fail
      refine (HAL.out _ _ ((HVL.out.later (Nat.le_refl _) HB1.out).mono HB1.out.size)).mono ?_
      rintro e w2 ⟨rfl, hb2⟩
      have HB2 := Lib.hid (HB1.out.trans (hb2.mono HB1.out.size))
      clear hb2 HB1
      go_wp2_with fail
      go_ret
      exact ⟨rfl, HB2.out⟩
    | true =>
      by_cases hi : 0 ≤ input ∧ input ≤ 7
      · rw [if_pos ⟨rfl, rfl, hi⟩]
        have HCI := Lib.hid (HCS.out ha hi)
        have HD := Lib.hid (decide_eq_true hi)
        rw [ha] at HA
        rw [hb] at HAL
        clear ha hb HCS hi
        go_enter Try.func27, Try.ntmps27
        go_wp2_with fail
        refine (HA.out _ _ HVO.out).mono ?_
        rintro e w1 ⟨rfl, hb1⟩
        have HB1 := Lib.hid hb1
        clear hb1
        go_wp2_with fail
        refine (HAL.out _ _ ((HVL.out.later (Nat.le_refl _) HB1.out).mono HB1.out.size)).mono ?_
        rintro e w2 ⟨rfl, hb2⟩
        have HB2 := Lib.hid (HB1.out.trans (hb2.mono HB1.out.size))
        clear hb2 HB1
        go_wp2_with fail
        refine (in_any _ _ _ _).mono ?_
        rintro e w' ⟨rfl, rfl⟩
        rw [HD.out]
        go_wp2_with fail
        refine (HCI.out _ _ _ ((HVO.out.later (Nat.le_refl _) HB2.out).mono HB2.out.size) ((HVL.out.later (Nat.le_refl _) HB2.out).mono HB2.out.size)).mono ?_
        rintro e w3 ⟨rfl, hb3⟩
        have HB3 := Lib.hid (HB2.out.trans (hb3.mono HB2.out.size))
        clear hb3 HB2
        go_wp2_with fail
        go_ret
        exact ⟨rfl, HB3.out⟩
      · rw [if_neg (fun h => hi h.2.2)]
        have HD := Lib.hid (decide_eq_false hi)
        rw [ha] at HA
        rw [hb] at HAL
        clear ha hb HCS hi
        go_enter Try.func27, Try.ntmps27
        go_wp2_with fail
        refine (HA.out _ _ HVO.out).mono ?_
        rintro e w1 ⟨rfl, hb1⟩
        have HB1 := Lib.hid hb1
        clear hb1
        go_wp2_with fail
        refine (HAL.out _ _ ((HVL.out.later (Nat.le_refl _) HB1.out).mono HB1.out.size)).mono ?_
        rintro e w2 ⟨rfl, hb2⟩
        have HB2 := Lib.hid (HB1.out.trans (hb2.mono HB1.out.size))
        clear hb2 HB1
        go_wp2_with fail
        refine (in_any _ _ _ _).mono ?_
        rintro e w' ⟨rfl, rfl⟩
        rw [HD.out]
        go_wp2_with fail
        go_ret
        exact ⟨rfl, HB2.out⟩

/-- both answer alike -/
theorem both (ones lv : List (Int × Int)) (hlo : ones.length ≤ 1048576) (hlen : lv.length ≤ 1048576) (input : Int) (cols : Bool) : ∃ r : Int,
    (∀ w vo vl, RV w w.heap.size vo ones → RV w w.heap.size vl lv → Calls Try.prog 27 #[vo, vl, .int .i64 input, .bool cols] w fun e w' => e = .returned (.int .i64 r) ∧ Below w.heap.size w w') ∧
    (∀ w vo vl, RV w w.heap.size vo ones → RV w w.heap.size vl lv → Calls Try.prog 28 #[vo, vl, .int .i64 input, .bool cols] w fun e w' => e = .returned (.int .i64 r) ∧ Below w.heap.size w w') := by
  by_cases h : allR ones = true ∧ allR lv = true
  · by_cases hi : 0 ≤ input ∧ input ≤ 7
    · exact ⟨_, fun w vo vl h1 h2 => by have := spec_any ones lv hlo hlen vo vl input cols w h1 h2; rw [if_pos ⟨h.1, h.2, hi⟩] at this; exact this, fun w vo vl h1 h2 => impl_yes ones lv hlo hlen h.1 h.2 vo vl input cols w h1 h2⟩
    · refine ⟨-1, fun w vo vl h1 h2 => by have := spec_any ones lv hlo hlen vo vl input cols w h1 h2; rw [if_neg (fun h => hi h.2.2)] at this; exact this, fun w vo vl h1 h2 => ?_⟩
      have := impl_yes ones lv hlo hlen h.1 h.2 vo vl input cols w h1 h2
      rw [leastK_none (fun t ht => by simp [chAt, tbit, hi])] at this
      exact this
  · refine ⟨-1, fun w vo vl h1 h2 => by have := spec_any ones lv hlo hlen vo vl input cols w h1 h2; rw [if_neg (fun h2 => h ⟨h2.1, h2.2.1⟩)] at this; exact this, fun w vo vl h1 h2 => impl_no ones lv hlo hlen ?_ vo vl input cols w h1 h2⟩
    cases ha : allR ones <;> cases hb : allR lv <;> simp_all
end Go.Proofs.Ytcafingoghoijaa.Choice
