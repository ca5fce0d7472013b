/-
  l8Live and LiveRects of the reference.
-/
import Derived.Test.YtcafingoghoijaaLive
namespace Go.Proofs.Ytcafingoghoijaa.LiveS
open Go.RowKit Go.Proofs.Ytcafingoghoijaa.Plain Go.Proofs.Ytcafingoghoijaa.Rect Go.Proofs.Ytcafingoghoijaa.FreeL Go.Proofs.Ytcafingoghoijaa.GuessM Go.Proofs.Ytcafingoghoijaa.GuessI Go.Proofs.Ytcafingoghoijaa.Rects Go.Proofs.Ytcafingoghoijaa.Things Go.Proofs.Ytcafingoghoijaa.Accept Go.Proofs.Ytcafingoghoijaa.LiveI Go.Proofs.Ytcafingoghoijaa.Live
open Go.Proofs.Ytcafingoghoijaa.Free (fill wp_value wp_enter wp_load_row freeB)
open Go.Proofs.Ytcafingoghoijaa.Marks (flat encR)
set_option linter.unusedVariables false

theorem own_lit (W : World) (B : Nat) (hB : B ≤ W.heap.size) : (W.alloc (.cells #[] 33)).ownsRow B 33 2 (.slice (some ⟨W.heap.size, 0, none⟩) 0 0) 0 (flat []) :=
  ⟨rfl, .inr ⟨W.heap.size, 0, #[], rfl, hB, heap_alloc_new W _, Nat.le_refl _, Nat.zero_le _, rfl, rfl⟩⟩
theorem own_below {w w' : World} {base e size n : Nat} {v : Value} {xs : List Value} (h : w.ownsRow base e size v n xs) (hb : Below w.heap.size w w') : w'.ownsRow base e size v n xs := by
  have hg : w.grownBy w' none := ⟨hb.os, hb.tape, hb.output, hb.size, fun i hi _ => hb.block i hi⟩
  refine h.kept hg ?_
  cases v.ownBlock <;> simp
/-- the things that f keeps of the first j -/
def keptTo (xs : List (Int × Int)) (f : Nat → Bool) (j : Nat) : List (Int × Int) := (keep f j).map fun i => xs.getD i (0, 0)
theorem keptTo_next (xs : List (Int × Int)) (f : Nat → Bool) (j : Nat) : keptTo xs f (j + 1) = keptTo xs f j ++ (if f j then [xs.getD j (0, 0)] else []) := by
  unfold keptTo
  rw [keep, List.map_append]
  cases f j <;> rfl
theorem keptTo_len (xs : List (Int × Int)) (f : Nat → Bool) (j : Nat) : (keptTo xs f j).length ≤ j := by
  unfold keptTo
  rw [List.length_map]
  exact keep_len f j

set_option maxRecDepth 100000 in
set_option maxHeartbeats 4000000 in
theorem live_spec (xs : List (Int × Int)) (hlen : xs.length ≤ 1048576) (v : Value) (r0 r1 : Int) (cols : Bool) (w : World) (hv : RV w w.heap.size v xs) :
    Calls Try.prog 48 #[v, rect r0 r1, .bool cols] w fun e w' => ∃ v', e = .returned v' ∧ w'.ownsRow w.heap.size 33 2 v' (live xs (r0, r1) cols).length (flat (live xs (r0, r1) cols)) ∧ Below w.heap.size w w' := by
  obtain ⟨i0, hi, hz0, hz1, hz2⟩ := info_parts infoK
  have HC : Hid (∀ W, Below w.heap.size w W → ∀ j (hj : j < xs.length), ∃ b off c, v = .slice (some ⟨b, off, none⟩) xs.length c ∧ b < w.heap.size ∧ W.cell? ⟨b, off + j * 2, none⟩ = some (.int .i64 xs[j].1) ∧ W.cell? ⟨b, off + j * 2 + 1, none⟩ = some (.int .i64 xs[j].2)) := fun W hb j hj => by
    rcases (hv.later (Nat.le_refl _) hb).2 with ⟨_, rfl⟩ | ⟨b, off, c, rfl, hlt, hc⟩
    · cases hj
    · exact ⟨b, off, c, rfl, hlt, hc j hj⟩
  obtain ⟨s, hs⟩ : ∃ s, side (r0, r1) cols = s := ⟨_, rfl⟩
  have HM := Lib.hid (fun x y W => (meets x y r0 r1 cols W))
  have HLE : Hid (live xs (r0, r1) cols = keptTo xs (meetsAt xs s cols) xs.length) := by rw [← hs]; exact rfl
  rw [hs] at HM
  rw [HLE.out]
  have HA := Lib.hid (fun j hj => meetsAt_at xs s cols j hj)
  obtain ⟨f, hf⟩ : ∃ f, meetsAt xs s cols = f := ⟨_, rfl⟩
  rw [hf] at HA ⊢
  obtain ⟨p, kp, rfl⟩ := hv.slice
  have HNX := Lib.hid (fun j => keptTo_next xs f j)
  have HLN := Lib.hid (fun j => keptTo_len xs f j)
  clear hv hs hf HLE
  go_enter Try.func48, Try.ntmps48
  go_wp2_with fail
  have HBX : Hid (∃ W1, Below w.heap.size w W1 ∧ W1.heap.size = w.heap.size + 1 ∧ W1.heap[w.heap.size]? = some (.cells #[.int .i64 r0, .int .i64 r1] 33 (0, 0)) ∧ w.alloc (.cells #[.int .i64 r0, .int .i64 r1] 33) = W1) := ⟨_, (Below.refl _ _).alloc (Nat.le_refl _) _, by simp, heap_alloc_new w _, rfl⟩
  obtain ⟨W1, hb1, hs1, hk1, he1⟩ := HBX.out
  first | rw [he1] | skip
  have hown : (W1.alloc (.cells #[] 33)).ownsRow W1.heap.size 33 2 (.slice (some ⟨w.heap.size + 1, 0, none⟩) 0 0) 0 (flat []) := by
    have h := own_lit W1 W1.heap.size (Nat.le_refl _)
    rw [show (⟨W1.heap.size, 0, none⟩ : Addr) = ⟨w.heap.size + 1, 0, none⟩ by rw [hs1]] at h
    exact h
  have hb0 : Below W1.heap.size W1 (W1.alloc (.cells #[] 33)) := (Below.refl _ _).alloc (Nat.le_refl _) _
  have HO := Lib.hid (And.intro hown hb0)
  have HB1 := Lib.hid hb1
  have HK1 := Lib.hid hk1
  clear hown hb0 hb1 hk1 he1 HBX
  go_loopw [7, 8] (fun acc i wr => ∃ j : Nat, j ≤ xs.length ∧ i = .int .i64 (j : Int) ∧ wr.ownsRow W1.heap.size 33 2 acc (keptTo xs f j).length (flat (keptTo xs f j)) ∧ Below W1.heap.size W1 wr) (fun _ i _ => xs.length - (intOf i).toNat)
  case atStart => exact ⟨0, Nat.zero_le _, rfl, HO.out.1, HO.out.2⟩
  case round =>
    obtain ⟨j, hj, rfl, hrow, hbr⟩ := hrel
    have HBW := Lib.hid (HB1.out.trans (hbr.mono (by omega)))
    have hws := hbr.size
    by_cases hlt : j < xs.length
    · obtain ⟨b, off, c, he, hbl, d0, d1⟩ := HC.out wr HBW.out j hlt
      injection he with he1 he2 he3
      subst he1 he3
      have hat := HA.out j hlt
      have hget : xs.getD j (0, 0) = xs[j] := by simp [List.getD, hlt]
      obtain ⟨x, hx⟩ : ∃ a, xs[j].1 = a := ⟨_, rfl⟩
      obtain ⟨y, hy⟩ : ∃ b, xs[j].2 = b := ⟨_, rfl⟩
      have hxy : xs[j] = (x, y) := Prod.ext hx hy
      rw [hxy] at hat hget
      rw [hx] at d0
      rw [hy] at d1
      have HMX := Lib.hid (fun W => HM.out x y W)
      obtain ⟨bt, hbt⟩ : ∃ bt, mt (side (x, y) cols) s = bt := ⟨_, rfl⟩
      rw [hbt] at HMX hat
      have HX := Lib.hid (And.intro hat hget)
      have R1 : Hid (wr.rangeAt b (off + j * 2) [.int .i64 x, .int .i64 y]) := range_two d0 d1
      have HKR : Hid (wr.heap[w.heap.size]? = some (.cells #[.int .i64 r0, .int .i64 r1] 33 (0, 0))) := (hbr.block _ (by omega)).trans HK1.out
      have HROW := Lib.hid hrow
      have HBR := Lib.hid hbr
      clear hat hget hx hy hxy hbt d0 d1 hrow hbr
      go_wp2_with fail
      refine wp_region_below (fun | 0 => .slice (some ⟨b, off, none⟩) xs.length kp | 1 => .int .i64 (j : Int) | 2 => .pointer (some ⟨b, off + j * 2, none⟩) | 3 => rect x y | 4 => rect r0 r1 | 5 => .bool cols | 6 => .bool bt | _ => undef) (by kernel_rfl) (by kernel_rfl) rfl ?con ?en
      case con =>
        intro i o ho a w2 hb2 hf
        match i, ho with
        | 0, ho =>
          obtain rfl := Option.some.inj ho
          have b0 : a.tmps[0]?.getD undef = .slice (some ⟨b, off, none⟩) xs.length kp := hf.2 0 (by kernel_rfl)
          exact wp_value (.slice (some ⟨b, off, none⟩) xs.length kp) (by unfold execOp; go_simp) ⟨rfl, Below.refl _ _⟩
        | 1, ho =>
          obtain rfl := Option.some.inj ho
          have b8 : a.tmps[8]?.getD undef = .int .i64 (j : Int) := hf.2 8 (by kernel_rfl)
          exact wp_value (.int .i64 (j : Int)) (by unfold execOp; go_simp) ⟨rfl, Below.refl _ _⟩
        | 2, ho =>
          obtain rfl := Option.some.inj ho
          have e16 : a.tmps[16]?.getD undef = .slice (some ⟨b, off, none⟩) xs.length kp := hf.1 ⟨0, .data⟩ (by simp) rfl _ 16 rfl rfl
          have e17 : a.tmps[17]?.getD undef = .int .i64 (j : Int) := hf.1 ⟨1, .data⟩ (by simp) rfl _ 17 rfl rfl
          exact wp_value (.pointer (some ⟨b, off + j * 2, none⟩)) (by unfold execOp; go_simp) ⟨rfl, Below.refl _ _⟩
        | 3, ho =>
          obtain rfl := Option.some.inj ho
          have e18 : a.tmps[18]?.getD undef = .pointer (some ⟨b, off + j * 2, none⟩) := hf.1 ⟨2, .data⟩ (by simp) rfl _ 18 rfl rfl
          exact wp_load_mid 33 (.tmp 18) rfl b (off + j * 2) (eval_get e18 trivial) [.int .i64 x, .int .i64 y] _ (range_on R1.out hb2) Try.underlying33 rfl rinfo2 ⟨rfl, Below.refl _ _⟩
        | 4, ho =>
          obtain rfl := Option.some.inj ho
          have b4 : a.tmps[4]?.getD undef = .pointer (some ⟨w.heap.size, 0, none⟩) := hf.2 4 (by kernel_rfl)
          exact wp_load_row 33 (.tmp 4) rfl w.heap.size (eval_get b4 trivial) 33 _ (0, 0) _ ((hb2.block _ (by omega)).trans HKR.out) Try.underlying33 rfl rinfo2 ⟨rfl, Below.refl _ _⟩
        | 5, ho =>
          obtain rfl := Option.some.inj ho
          have b2 : a.tmps[2]?.getD undef = .bool cols := hf.2 2 (by kernel_rfl)
          exact wp_value (.bool cols) (by unfold execOp; go_simp) ⟨rfl, Below.refl _ _⟩
        | 6, ho =>
          obtain rfl := Option.some.inj ho
          have e19 : a.tmps[19]?.getD undef = rect x y := hf.1 ⟨3, .data⟩ (by simp) rfl _ 19 rfl rfl
          have e20 : a.tmps[20]?.getD undef = rect r0 r1 := hf.1 ⟨4, .data⟩ (by simp) rfl _ 20 rfl rfl
          have e21 : a.tmps[21]?.getD undef = .bool cols := hf.1 ⟨5, .data⟩ (by simp) rfl _ 21 rfl rfl
          exact wp_enter 77 #[rect x y, rect r0 r1, .bool cols] (.bool bt) _ (by unfold execOp; go_simp) (HMX.out w2) (fun w' h => ⟨rfl, h⟩)
        | q + 7, ho => simp at ho
      case en =>
        intro w2 hb2
        have hw2 := hb2.size
        have HROW2 : Hid (w2.ownsRow W1.heap.size 33 2 u7 (keptTo xs f j).length (flat (keptTo xs f j))) := own_below HROW.out hb2
        have HBR2 := Lib.hid (HBR.out.trans (hb2.mono hws))
        have HBW2 := Lib.hid (HBW.out.trans (hb2.mono HBW.out.size))
        have R2 := Lib.hid (range_on R1.out hb2)
        clear hb2 HKR HROW HBR HBW R1 HMX
        simp only [fill, Act.put]
        go_simp
        cases bt with
        | false =>
          have hE : keptTo xs f (j + 1) = keptTo xs f j := by
            have := HNX.out j
            rw [HX.out.1] at this
            simpa using this
          have HE := Lib.hid hE
          clear hE
          go_wp2_with fail
          go_roundw
          case rel => exact ⟨j + 1, by omega, by go_num, by rw [HE.out]; exact HROW2.out, HBR2.out⟩
          case measure => simp [intOf]; omega
        | true =>
          have hE : keptTo xs f (j + 1) = keptTo xs f j ++ [(x, y)] := by
            have := HNX.out j
            rw [HX.out.1, HX.out.2] at this
            simpa using this
          have HE := Lib.hid hE
          clear hE
          have d0 : w2.cell? ⟨b, off + j * 2, none⟩ = some (.int .i64 x) := by have := R2.out 0 _ rfl; simpa using this
          have d1 : w2.cell? ⟨b, off + j * 2 + 1, none⟩ = some (.int .i64 y) := R2.out 1 _ rfl
          have hl0 : (keptTo xs f j).length ≤ 1048576 := Nat.le_trans (HLN.out j) (by omega)
          go_wp2_with (at_builtin; have HH := HROW2.out; refine wpList_append_own _ rfl (.tmp 23) (.tmp 28) 25 rfl W1.heap.size 33 i0 (.agg #[.int .i64 0, .int .i64 0]) 2 16 Try.underlying25 hi hz0 hz1 hz2 rfl (by decide) _ _ _ rfl (HH.alloc _) ⟨w2.heap.size, 0, none⟩ 1 1 [.int .i64 x, .int .i64 y] rfl rfl ?c1 ?c2 ?c3 ?c4 ?c5 ?c6; go_must (case c1 => exact (two_new _ _ _ _)); go_must (case c2 => simp [Value.oneCell']); go_must (case c3 => unfold maxLen; omega); go_must (case c4 => omega); go_must (case c5 => simp; omega); go_must (clear HH; intro v' w3 hown3 hgrow3 hnil3; have HO3 := Lib.hid hown3; have HG3 := Lib.hid hgrow3; clear hown3 hgrow3 hnil3))
          have HB3 : Hid (Below W1.heap.size W1 w3) := (HBR2.out.alloc (by omega) _).grown HG3.out (by simp; omega) (fun k hk => (HROW2.out.lt k hk).1)
          go_roundw
          case rel => exact ⟨j + 1, by omega, by go_num, by rw [HE.out, List.length_append, flat_next]; exact HO3.out, HB3.out⟩
          case measure => simp [intOf]; omega
    · obtain rfl : j = xs.length := by omega
      have HROW := Lib.hid hrow
      have HBR := Lib.hid hbr
      clear hrow hbr
      go_wp2_with fail
      go_ret
      exact ⟨_, rfl, own_lower HROW.out (by omega), HBW.out⟩

set_option maxHeartbeats 2000000 in
theorem spec_yes (xs : List (Int × Int)) (hlen : xs.length ≤ 1048576) (v : Value) (x y : Int) (cols : Bool) (h1 : someB x y = true) (h2 : allR xs = true) (w : World) (hv : RV w w.heap.size v xs) :
    Calls Try.prog 22 #[v, rect x y, .bool cols] w fun e w' => ∃ v', e = .returned v' ∧ w'.ownsRow w.heap.size 33 2 v' (live xs (x, y) cols).length (flat (live xs (x, y) cols)) ∧ Below w.heap.size w w' := by
  have H1 := Lib.hid h1
  have HV := Lib.hid hv
  have HA := Lib.hid (fun v w hv => (spec_rects xs hlen v w hv).mono (fun e w' h => by rw [h2] at h; exact h))
  have HL := Lib.hid (fun v W hv => live_spec xs hlen v x y cols W hv)
  generalize live xs (x, y) cols = ts at *
  clear h1 h2 hv
  have hba : Below w.heap.size w (w.alloc (.cells #[.int .i64 x, .int .i64 y] 33)) := (Below.refl _ _).alloc (Nat.le_refl _) _
  have HVA := Lib.hid ((HV.out.later (Nat.le_refl _) hba).mono hba.size)
  have HBA := Lib.hid hba
  clear hba
  go_enter Try.func22, Try.ntmps22
  go_wp2_with fail
  refine (HA.out _ _ HVA.out).mono ?_
  rintro e w1 ⟨rfl, hb1⟩
  obtain ⟨c0, c1, hz, HB⟩ := box2 hb1
  have HB1 := Lib.hid (HBA.out.trans (hb1.mono HBA.out.size))
  clear hb1 HBA HVA
  go_wp2_with fail
  refine (some_any _ _ _).mono ?_
  rintro e w2 ⟨rfl, hb2⟩
  rw [H1.out]
  obtain ⟨k0, k1⟩ := two_on hb2 hz c0 c1
  have HB2 := Lib.hid (HB1.out.trans (hb2.mono HB1.out.size))
  clear hb2 c0 c1 HB1 HB
  go_wp2_with fail
  refine (HL.out _ _ ((HV.out.later (Nat.le_refl _) HB2.out).mono HB2.out.size)).mono ?_
  rintro e w3 ⟨v3, rfl, hrow, hb3⟩
  have HR := Lib.hid (own_lower (B' := w.heap.size) hrow HB2.out.size)
  have HB3 := Lib.hid (HB2.out.trans (hb3.mono HB2.out.size))
  clear hrow hb3 k0 k1 HB2
  go_wp2_with fail
  go_ret
  exact ⟨_, rfl, HR.out, HB3.out⟩

set_option maxHeartbeats 2000000 in
theorem spec_no (xs : List (Int × Int)) (hlen : xs.length ≤ 1048576) (v : Value) (x y : Int) (cols : Bool) (h : (someB x y && allR xs) = false) (w : World) (hv : RV w w.heap.size v xs) :
    Calls Try.prog 22 #[v, rect x y, .bool cols] w fun e w' => ∃ v', e = .returned v' ∧ w'.ownsRow w.heap.size 33 2 v' 0 (flat []) ∧ Below w.heap.size w w' := by
  have HA := Lib.hid (fun v w hv => spec_rects xs hlen v w hv)
  have hba : Below w.heap.size w (w.alloc (.cells #[.int .i64 x, .int .i64 y] 33)) := (Below.refl _ _).alloc (Nat.le_refl _) _
  have HVA := Lib.hid ((hv.later (Nat.le_refl _) hba).mono hba.size)
  have HBA := Lib.hid hba
  clear hba hv
  cases h2 : allR xs with
  | false =>
    rw [h2] at HA
    clear h h2
    go_enter Try.func22, Try.ntmps22
    go_wp2_with fail
    refine (HA.out _ _ HVA.out).mono ?_
    rintro e w1 ⟨rfl, hb1⟩
    have HB1 := Lib.hid (HBA.out.trans (hb1.mono HBA.out.size))
    clear hb1 HBA HVA
    go_wp2_with fail
    go_ret
    exact ⟨_, rfl, own_lit w1 _ HB1.out.size, HB1.out.alloc HB1.out.size _⟩
  | true =>
    have h1 : someB x y = false := by rw [h2, Bool.and_true] at h; exact h
    have H1 := Lib.hid h1
    rw [h2] at HA
    clear h h1 h2
    go_enter Try.func22, Try.ntmps22
    go_wp2_with fail
    refine (HA.out _ _ HVA.out).mono ?_
    rintro e w1 ⟨rfl, hb1⟩
    obtain ⟨c0, c1, hz, HB⟩ := box2 hb1
    have HB1 := Lib.hid (HBA.out.trans (hb1.mono HBA.out.size))
    clear hb1 HBA HVA
    go_wp2_with fail
    refine (some_any _ _ _).mono ?_
    rintro e w2 ⟨rfl, hb2⟩
    rw [H1.out]
    have HB2 := Lib.hid (HB1.out.trans (hb2.mono HB1.out.size))
    clear hb2 c0 c1 HB1 HB
    go_wp2_with fail
    go_ret
    exact ⟨_, rfl, own_lit w2 _ HB2.out.size, HB2.out.alloc HB2.out.size _⟩
end Go.Proofs.Ytcafingoghoijaa.LiveS
