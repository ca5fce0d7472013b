/-
  The reference's IsCover.
-/
import Derived.Test.YtppmecpodleoiaaDoorRects
import Derived.Test.YtppmecpodleoiaaDoorRValid
import Derived.Test.YtppmecpodleoiaaDoorColour
namespace Go.Proofs.YtppmecpodleoiaaDoor.CoverS
open Go.RowKit Go.Proofs.YtppmecpodleoiaaDoor.Plain Go.Proofs.YtppmecpodleoiaaDoor.Base Go.Proofs.YtppmecpodleoiaaDoor.Valid Go.Proofs.YtppmecpodleoiaaDoor.Law Go.Proofs.YtppmecpodleoiaaDoor.Entry Go.Proofs.YtppmecpodleoiaaDoor.Pat Go.Proofs.YtppmecpodleoiaaDoor.Rect Go.Proofs.YtppmecpodleoiaaDoor.Patch Go.Proofs.YtppmecpodleoiaaDoor.FreeL Go.Proofs.YtppmecpodleoiaaDoor.Board Go.Proofs.YtppmecpodleoiaaDoor.BoardM Go.Proofs.YtppmecpodleoiaaDoor.RValid Go.Proofs.YtppmecpodleoiaaDoor.Colour Go.Proofs.YtppmecpodleoiaaDoor.Rects
open Go.Proofs.YtppmecpodleoiaaDoor.Free (fill wp_value wp_enter wp_load_row freeB)
set_option linter.unusedVariables false

set_option maxHeartbeats 1000000 in
theorem in_rect (R C x y : Nat) (hR1 : 1 ≤ R) (hR : R < 256) (hC1 : 1 ≤ C) (hC : C < 256) (hx : x < 8) (hy : y < 8) (w : World) :
    Calls Tryd.prog 63 #[rect R C, .int .i64 (x : Int), .int .i64 (y : Int)] w fun e w' => e = .returned (.bool (R.testBit x && C.testBit y)) ∧ Below w.heap.size w w' := by
  have HS := Lib.hid (show someB R C = true by rw [someB_iff]; omega)
  obtain ⟨b1, h1⟩ : ∃ b, R.testBit x = b := ⟨_, rfl⟩
  obtain ⟨b2, h2⟩ : ∃ b, C.testBit y = b := ⟨_, rfl⟩
  rw [h1, h2]
  have H1 := Lib.hid h1
  have H2 := Lib.hid h2
  clear h1 h2
  go_enter Tryd.func63, Tryd.ntmps63
  go_wp2_with fail
  refine (some_any _ _ _).mono ?_
  rintro e w1 ⟨rfl, hb1⟩
  rw [HS.out]
  obtain ⟨c0, c1, hz, HB⟩ := box2 hb1
  clear hb1
  go_wp2_with fail
  refine (in_any _ _ _ _).mono ?_
  rintro e w' ⟨rfl, rfl⟩
  rw [decide_eq_true (by omega)]
  go_wp2_with fail
  refine (in_any _ _ _ _).mono ?_
  rintro e w' ⟨rfl, rfl⟩
  rw [decide_eq_true (by omega)]
  go_wp2_with fail
  refine (l2In_any R x hR hx _).mono ?_
  rintro e w' ⟨rfl, rfl⟩
  rw [H1.out]
  cases b1
  · go_wp2_with fail
    go_ret
    exact ⟨rfl, HB.out⟩
  · go_wp2_with fail
    refine (l2In_any C y hC hy _).mono ?_
    rintro e w' ⟨rfl, rfl⟩
    rw [H2.out]
    go_wp2_with fail
    go_ret
    exact ⟨rfl, HB.out⟩
/-- the matrix's box -/
structure MI (w wr : World) (R C : Int) (s : ByteArray) : Prop where
  m : MHolds wr w.heap.size 23 R C s
  below : Below w.heap.size w wr
theorem MI.later {w wr w2 : World} {R C : Int} {s : ByteArray} (h : MI w wr R C s) (hb : Below wr.heap.size wr w2) : MI w w2 R C s := ⟨mh_on h.m hb, rstep h.below hb⟩
/-- an entry has not the value, or is in one of the first k rectangles -/
def cellTo (E : Nat → Nat → Bool) (bit : Int) (xs : List (Int × Int)) (x y : Nat) : Nat → Bool
  | 0 => bitI (E x y) != bit
  | k + 1 => cellTo E bit xs x y k || (match xs[k]? with | some r => r.1.toNat.testBit x && r.2.toNat.testBit y | none => false)
theorem cellTo_next (E : Nat → Nat → Bool) (bit : Int) (xs : List (Int × Int)) (x y k : Nat) (hk : k < xs.length) : cellTo E bit xs x y (k + 1) = (cellTo E bit xs x y k || (xs[k].1.toNat.testBit x && xs[k].2.toNat.testBit y)) := by
  rw [cellTo, List.getElem?_eq_getElem hk]
def cellsAll (E : Nat → Nat → Bool) (bit : Int) (xs : List (Int × Int)) (R C : Nat) : Bool := decide (∀ x, x < R → ∀ y, y < C → cellTo E bit xs x y xs.length = true)

set_option maxHeartbeats 4000000 in
set_option maxRecDepth 100000 in
theorem spec_cover (E : Nat → Nat → Bool) (R C : Nat) (hR1 : 1 ≤ R) (hR : R ≤ 8) (hC1 : 1 ≤ C) (hC : C ≤ 8) (s : ByteArray) (hsE : s = str (rowsB E R C)) (hs : s.size ≤ maxLen) (hvalid : validB R C s = true) (bit : Int) (hbit : bit = 0 ∨ bit = 1) (col : Int → Int → Int)
    (hcol : ∀ (r c : Int) (W : World), Calls Tryd.prog 60 #[mat R C s, rect r c] W fun e w' => e = .returned (.int .i64 (col r c)) ∧ Below W.heap.size W w')
    (hcv : ∀ r c, col r c = bit → ∃ RS CS : Nat, r = (RS : Int) ∧ c = (CS : Int) ∧ 1 ≤ RS ∧ RS < 256 ∧ 1 ≤ CS ∧ CS < 256)
    (xs : List (Int × Int)) (v : Value) (w : World) (hiv : RV w w.heap.size v xs) :
    Calls Tryd.prog 26 #[mat R C s, .int .i64 bit, v] w fun e w' => e = .returned (.bool (xs.all (fun r => col r.1 r.2 == bit) && cellsAll E bit xs R C)) ∧ Below w.heap.size w w' := by
  have HCOL := Lib.hid hcol
  have HCV := Lib.hid hcv
  have HAT := Lib.hid (fun x y hx hy W => at_any E R C hR hC x y hx hy W)
  rw [← hsE] at HAT
  have HVALID := Lib.hid (fun W => spec_valid R C s hs W)
  rw [hvalid] at HVALID
  have HIN := Lib.hid (fun W => in_any bit 0 1 W)
  rw [decide_eq_true (show 0 ≤ bit ∧ bit ≤ 1 by omega)] at HIN
  clear hcol hcv hsE hs hvalid
  have HC : Hid (∀ j (hj : j < xs.length), ∃ b off c, v = .slice (some ⟨b, off, none⟩) xs.length c ∧ b < w.heap.size ∧ w.cell? ⟨b, off + j * 2, none⟩ = some (.int .i64 xs[j].1) ∧ w.cell? ⟨b, off + j * 2 + 1, none⟩ = some (.int .i64 xs[j].2)) := fun j hj => by
    rcases hiv.2 with ⟨_, rfl⟩ | ⟨b, off, c, e, hlt, hc⟩
    · cases hj
    · exact ⟨b, off, c, e, hlt, hc j hj⟩
  have hl := hiv.1
  obtain ⟨p, kk, rfl⟩ := hiv.slice
  clear hiv
  go_enter Tryd.func26, Tryd.ntmps26
  go_wp2_with fail
  refine (HVALID.out _).mono ?_
  rintro e w1 ⟨rfl, hb1⟩
  have e0 : MHolds (w.alloc (.cells #[.int .i64 (R : Int), .int .i64 (C : Int), .string s] 23)) w.heap.size 23 R C s := heap_alloc_new w _
  have HI1 : Hid (MI w w1 R C s) := ⟨mh_on e0 hb1, rstep ((Below.refl w.heap.size w).alloc (Nat.le_refl _) _) hb1⟩
  clear e0 hb1 HVALID
  go_wp2_with fail
  refine (HIN.out _).mono ?_
  rintro e w' ⟨rfl, rfl⟩
  clear HIN
  go_wp2_with fail
  go_loopw [7] (fun i wr => ∃ (k : Nat), k ≤ xs.length ∧ i = .int .i64 (k : Int) ∧ Hid (∀ j (hj : j < xs.length), j < k → col xs[j].1 xs[j].2 = bit) ∧ MI w wr R C s) (fun i _ => xs.length - (intOf i).toNat)
  case atStart => exact ⟨0, Nat.zero_le _, rfl, fun j _ h => absurd h (by omega), HI1.out⟩
  case round =>
    obtain ⟨k, hk, rfl, hall, hinv⟩ := hrel
    clear HI1
    have HI := Lib.hid hinv
    have MH := Lib.hid hinv.m
    by_cases hkl : k < xs.length
    · obtain ⟨b, off, c, e, hlt, c0, c1⟩ := HC.out k hkl
      injection e with e1 e2 e3
      subst e1 e3
      have HX : Hid (∃ x y, xs[k].1 = x ∧ xs[k].2 = y) := ⟨_, _, rfl, rfl⟩
      obtain ⟨x, y, hx, hy⟩ := HX.out
      have HXY : Hid (xs[k].1 = x ∧ xs[k].2 = y) := ⟨hx, hy⟩
      rw [hx] at c0
      rw [hy] at c1
      have R1 : Hid (wr.rangeAt b (off + k * 2) [.int .i64 x, .int .i64 y]) := range_two ((hinv.below.cell (p := ⟨b, off + k * 2, none⟩) hlt).trans c0) ((hinv.below.cell (p := ⟨b, off + k * 2 + 1, none⟩) hlt).trans c1)
      clear hinv HX hx hy c0 c1
      obtain ⟨v, hv⟩ : ∃ v, col x y = v := ⟨_, rfl⟩
      have HCX := Lib.hid hv
      have HV := Lib.hid (fun W => HCOL.out x y W)
      rw [hv] at HV
      clear hv
      by_cases hvb : v = bit
      · have HALL : Hid (∀ j (hj : j < xs.length), j < k + 1 → col xs[j].1 xs[j].2 = bit) := fun j hj hjk => by
          by_cases ej : j = k
          · subst ej; rw [HXY.out.1, HXY.out.2, HCX.out]; exact hvb
          · exact hall.out j hj (by omega)
        clear hall
        go_wp2_with fail
        refine wp_region_below (fun | 0 => mat R C s | 1 => Value.slice (some ⟨b, off, none⟩) xs.length kk | 2 => .int .i64 (k : Int) | 3 => Value.pointer (some ⟨b, off + k * 2, none⟩) | 4 => rect x y | 5 => .int .i64 v | 6 => .int .i64 bit | 7 => .bool false | _ => undef) (by kernel_rfl) (by kernel_rfl) rfl ?con ?en
        case con =>
          intro i o ho a w2 hb2 hf
          match i, ho with
          | 0, ho =>
            obtain rfl := Option.some.inj ho
            have b3 : a.tmps[3]?.getD undef = .pointer (some ⟨w.heap.size, 0, none⟩) := hf.2 3 (by kernel_rfl)
            exact wp_load_row 23 (.tmp 3) rfl w.heap.size (eval_get b3 trivial) 23 _ (0, 0) _ (mh_on MH.out hb2) Tryd.underlying23 rfl minfo ⟨rfl, Below.refl _ _⟩
          | 1, ho =>
            obtain rfl := Option.some.inj ho
            have b2 : a.tmps[2]?.getD undef = Value.slice (some ⟨b, off, none⟩) xs.length kk := hf.2 2 (by kernel_rfl)
            exact wp_value (Value.slice (some ⟨b, off, none⟩) xs.length kk) (by unfold execOp; go_simp) ⟨rfl, Below.refl _ _⟩
          | 2, ho =>
            obtain rfl := Option.some.inj ho
            have b7 : a.tmps[7]?.getD undef = .int .i64 (k : Int) := hf.2 7 (by kernel_rfl)
            exact wp_value (.int .i64 (k : Int)) (by unfold execOp; go_simp) ⟨rfl, Below.refl _ _⟩
          | 3, ho =>
            obtain rfl := Option.some.inj ho
            have e27 : a.tmps[27]?.getD undef = Value.slice (some ⟨b, off, none⟩) xs.length kk := hf.1 ⟨1, .data⟩ (by simp) rfl _ 27 rfl rfl
            have e28 : a.tmps[28]?.getD undef = .int .i64 (k : Int) := hf.1 ⟨2, .data⟩ (by simp) rfl _ 28 rfl rfl
            exact wp_value (Value.pointer (some ⟨b, off + k * 2, none⟩)) (by unfold execOp; go_simp) ⟨rfl, Below.refl _ _⟩
          | 4, ho =>
            obtain rfl := Option.some.inj ho
            have e29 : a.tmps[29]?.getD undef = Value.pointer (some ⟨b, off + k * 2, none⟩) := hf.1 ⟨3, .data⟩ (by simp) rfl _ 29 rfl rfl
            exact wp_load_mid 39 (.tmp 29) rfl b (off + k * 2) (eval_get e29 trivial) [.int .i64 x, .int .i64 y] _ (range_on R1.out hb2) Tryd.underlying39 rfl rinfo2 ⟨rfl, Below.refl _ _⟩
          | 5, ho =>
            obtain rfl := Option.some.inj ho
            have e26 : a.tmps[26]?.getD undef = mat R C s := hf.1 ⟨0, .data⟩ (by simp) rfl _ 26 rfl rfl
            have e30 : a.tmps[30]?.getD undef = rect x y := hf.1 ⟨4, .data⟩ (by simp) rfl _ 30 rfl rfl
            exact wp_enter 60 #[mat R C s, rect x y] (.int .i64 v) _ (by unfold execOp; go_simp) (HV.out w2) (fun w' h => ⟨rfl, h⟩)
          | 6, ho =>
            obtain rfl := Option.some.inj ho
            have b1 : a.tmps[1]?.getD undef = .int .i64 bit := hf.2 1 (by kernel_rfl)
            exact wp_value (.int .i64 bit) (by unfold execOp; go_simp) ⟨rfl, Below.refl _ _⟩
          | 7, ho =>
            obtain rfl := Option.some.inj ho
            have e31 : a.tmps[31]?.getD undef = .int .i64 v := hf.1 ⟨5, .data⟩ (by simp) rfl _ 31 rfl rfl
            have e32 : a.tmps[32]?.getD undef = .int .i64 bit := hf.1 ⟨6, .data⟩ (by simp) rfl _ 32 rfl rfl
            exact wp_value (.bool false) (by unfold execOp; go_simp) ⟨rfl, Below.refl _ _⟩
          | q + 8, ho => simp at ho
        case en =>
          intro w2 hb2
          have HI2 := Lib.hid (HI.out.later hb2)
          clear hb2 HI MH hvb
          simp only [fill, Act.put]
          go_simp
          go_wp2_with fail
          go_roundw
          case rel => exact ⟨k + 1, by omega, by go_num, HALL, HI2.out⟩
          case measure => simp [intOf]; omega
      · have HF : Hid (xs.all (fun r => col r.1 r.2 == bit) = false) := by
          unfold Hid
          rw [List.all_eq_false]
          exact ⟨xs[k], List.getElem_mem hkl, by rw [HXY.out.1, HXY.out.2, HCX.out, beq_iff_eq]; exact hvb⟩
        clear hall
        go_wp2_with fail
        refine wp_region_below (fun | 0 => mat R C s | 1 => Value.slice (some ⟨b, off, none⟩) xs.length kk | 2 => .int .i64 (k : Int) | 3 => Value.pointer (some ⟨b, off + k * 2, none⟩) | 4 => rect x y | 5 => .int .i64 v | 6 => .int .i64 bit | 7 => .bool true | _ => undef) (by kernel_rfl) (by kernel_rfl) rfl ?con2 ?en2
        case con2 =>
          intro i o ho a w2 hb2 hf
          match i, ho with
          | 0, ho =>
            obtain rfl := Option.some.inj ho
            have b3 : a.tmps[3]?.getD undef = .pointer (some ⟨w.heap.size, 0, none⟩) := hf.2 3 (by kernel_rfl)
            exact wp_load_row 23 (.tmp 3) rfl w.heap.size (eval_get b3 trivial) 23 _ (0, 0) _ (mh_on MH.out hb2) Tryd.underlying23 rfl minfo ⟨rfl, Below.refl _ _⟩
          | 1, ho =>
            obtain rfl := Option.some.inj ho
            have b2 : a.tmps[2]?.getD undef = Value.slice (some ⟨b, off, none⟩) xs.length kk := hf.2 2 (by kernel_rfl)
            exact wp_value (Value.slice (some ⟨b, off, none⟩) xs.length kk) (by unfold execOp; go_simp) ⟨rfl, Below.refl _ _⟩
          | 2, ho =>
            obtain rfl := Option.some.inj ho
            have b7 : a.tmps[7]?.getD undef = .int .i64 (k : Int) := hf.2 7 (by kernel_rfl)
            exact wp_value (.int .i64 (k : Int)) (by unfold execOp; go_simp) ⟨rfl, Below.refl _ _⟩
          | 3, ho =>
            obtain rfl := Option.some.inj ho
            have e27 : a.tmps[27]?.getD undef = Value.slice (some ⟨b, off, none⟩) xs.length kk := hf.1 ⟨1, .data⟩ (by simp) rfl _ 27 rfl rfl
            have e28 : a.tmps[28]?.getD undef = .int .i64 (k : Int) := hf.1 ⟨2, .data⟩ (by simp) rfl _ 28 rfl rfl
            exact wp_value (Value.pointer (some ⟨b, off + k * 2, none⟩)) (by unfold execOp; go_simp) ⟨rfl, Below.refl _ _⟩
          | 4, ho =>
            obtain rfl := Option.some.inj ho
            have e29 : a.tmps[29]?.getD undef = Value.pointer (some ⟨b, off + k * 2, none⟩) := hf.1 ⟨3, .data⟩ (by simp) rfl _ 29 rfl rfl
            exact wp_load_mid 39 (.tmp 29) rfl b (off + k * 2) (eval_get e29 trivial) [.int .i64 x, .int .i64 y] _ (range_on R1.out hb2) Tryd.underlying39 rfl rinfo2 ⟨rfl, Below.refl _ _⟩
          | 5, ho =>
            obtain rfl := Option.some.inj ho
            have e26 : a.tmps[26]?.getD undef = mat R C s := hf.1 ⟨0, .data⟩ (by simp) rfl _ 26 rfl rfl
            have e30 : a.tmps[30]?.getD undef = rect x y := hf.1 ⟨4, .data⟩ (by simp) rfl _ 30 rfl rfl
            exact wp_enter 60 #[mat R C s, rect x y] (.int .i64 v) _ (by unfold execOp; go_simp) (HV.out w2) (fun w' h => ⟨rfl, h⟩)
          | 6, ho =>
            obtain rfl := Option.some.inj ho
            have b1 : a.tmps[1]?.getD undef = .int .i64 bit := hf.2 1 (by kernel_rfl)
            exact wp_value (.int .i64 bit) (by unfold execOp; go_simp) ⟨rfl, Below.refl _ _⟩
          | 7, ho =>
            obtain rfl := Option.some.inj ho
            have e31 : a.tmps[31]?.getD undef = .int .i64 v := hf.1 ⟨5, .data⟩ (by simp) rfl _ 31 rfl rfl
            have e32 : a.tmps[32]?.getD undef = .int .i64 bit := hf.1 ⟨6, .data⟩ (by simp) rfl _ 32 rfl rfl
            exact wp_value (.bool true) (by unfold execOp; go_simp) ⟨rfl, Below.refl _ _⟩
          | q + 8, ho => simp at ho
        case en2 =>
          intro w2 hb2
          have HI2 := Lib.hid (HI.out.later hb2)
          clear hb2 HI MH hvb
          simp only [fill, Act.put]
          go_simp
          go_wp2_with fail
          go_ret
          exact ⟨by rw [HF.out]; rfl, HI2.out.below⟩
    · obtain rfl : k = xs.length := by omega
      have HA : Hid (xs.all (fun r => col r.1 r.2 == bit) = true) := by
        unfold Hid
        rw [List.all_eq_true]
        intro r hr
        obtain ⟨j, hj, rfl⟩ := List.getElem_of_mem hr
        rw [beq_iff_eq]
        exact hall.out j hj hj
      have HALLC : Hid (∀ j (hj : j < xs.length), col xs[j].1 xs[j].2 = bit) := fun j hj => hall.out j hj hj
      clear MH hinv hall hkl hk HCOL
      go_wp2_with fail
      go_loopw [8] (fun i wr => ∃ (a : Nat), a ≤ R ∧ i = .int .i64 (a : Int) ∧ Hid (∀ x, x < a → ∀ y, y < C → cellTo E bit xs x y xs.length = true) ∧ MI w wr R C s) (fun i _ => R - (intOf i).toNat)
      case atStart => exact ⟨0, Nat.zero_le _, rfl, fun x h => absurd h (by omega), HI.out⟩
      case round =>
        obtain ⟨a, ha, rfl, hall, hinv⟩ := hrel
        clear HI
        obtain ⟨q0, q1, q2⟩ := mh_c hinv.m
        have HI := Lib.hid hinv
        clear hinv
        by_cases hal : a < R
        · go_wp2_with fail
          go_loopw [9] (fun i wr => ∃ (c : Nat), c ≤ C ∧ i = .int .i64 (c : Int) ∧ Hid (∀ y, y < c → cellTo E bit xs a y xs.length = true) ∧ MI w wr R C s) (fun i _ => C - (intOf i).toNat)
          case atStart => exact ⟨0, Nat.zero_le _, rfl, fun x h => absurd h (by omega), HI.out⟩
          case round =>
            obtain ⟨c, hc, rfl, hrow, hinv⟩ := hrel
            clear HI q0 q1 q2
            obtain ⟨q0, q1, q2⟩ := mh_c hinv.m
            have HI := Lib.hid hinv
            clear hinv
            by_cases hcl : c < C
            · have HA1 := Lib.hid (HAT.out a c hal hcl)
              have HC0 : Hid (cellTo E bit xs a c 0 = (bitI (E a c) != bit)) := rfl
              generalize E a c = d at *
              go_wp2_with fail
              refine (HA1.out _).mono ?_
              rintro e w2 ⟨rfl, hb2⟩
              have HI2 := Lib.hid (HI.out.later hb2)
              clear hb2 HI q0 q1 q2 HA1
              go_wp2_with fail
              refine (int_any d _).mono ?_
              rintro e w' ⟨rfl, rfl⟩
              go_wp2_with fail
              go_loopw [10, 11] (fun t i wr => ∃ (k : Nat), k ≤ xs.length ∧ i = .int .i64 (k : Int) ∧ t = .bool (cellTo E bit xs a c k) ∧ MI w wr R C s) (fun _ i _ => xs.length - (intOf i).toNat)
              case atStart => exact ⟨0, Nat.zero_le _, rfl, by rw [HC0.out], HI2.out⟩
              case round =>
                obtain ⟨k, hk, rfl, rfl, hinv⟩ := hrel
                clear HI2 HC0
                have HI := Lib.hid hinv
                obtain ⟨t, ht⟩ : ∃ t, cellTo E bit xs a c k = t := ⟨_, rfl⟩
                have HT := Lib.hid ht
                rw [ht]
                clear ht
                by_cases hkl : k < xs.length
                · have HNX := Lib.hid (cellTo_next E bit xs a c k hkl)
                  rw [HT.out] at HNX
                  cases t
                  · obtain ⟨b, off, cc, e, hlt, c0, c1⟩ := HC.out k hkl
                    injection e with e1 e2 e3
                    subst e1 e3
                    obtain ⟨RS, CS, hx, hy, k1, k2, k3, k4⟩ := HCV.out _ _ (HALLC.out k hkl)
                    rw [hx] at c0
                    rw [hy] at c1
                    have HNY : Hid (cellTo E bit xs a c (k + 1) = (RS.testBit a && CS.testBit c)) := by
                      have h := HNX.out
                      rw [hx, hy, Int.toNat_natCast, Int.toNat_natCast, Bool.false_or] at h
                      exact h
                    have HIR := Lib.hid (fun W => in_rect RS CS a c k1 k2 k3 k4 (by omega) (by omega) W)
                    have c0 := (hinv.below.cell (p := ⟨b, off + k * 2, none⟩) hlt).trans c0
                    have c1 := (hinv.below.cell (p := ⟨b, off + k * 2 + 1, none⟩) hlt).trans c1
                    clear hinv HNX hx hy k1 k2 k3 k4
                    generalize (RS.testBit a && CS.testBit c) = t2 at *
                    go_wp2_with fail
                    refine (HIR.out _).mono ?_
                    rintro e w3 ⟨rfl, hb3⟩
                    have HI3 := Lib.hid (HI.out.later hb3)
                    clear hb3 HI c0 c1 HIR
                    go_wp2_with fail
                    go_roundw
                    case rel => exact ⟨k + 1, by omega, by go_num, by rw [HNY.out], HI3.out⟩
                    case measure => simp [intOf]; omega
                  · clear hinv
                    go_wp2_with fail
                    go_roundw
                    case rel => exact ⟨k + 1, by omega, by go_num, by rw [HNX.out]; rfl, HI.out⟩
                    case measure => simp [intOf]; omega
                · obtain rfl : k = xs.length := by omega
                  clear hinv
                  cases t
                  · have HF : Hid (cellsAll E bit xs R C = false) := decide_eq_false fun h => by
                      have := h a hal c hcl
                      rw [HT.out] at this
                      cases this
                    clear hrow hall
                    go_wp2_with fail
                    go_ret
                    exact ⟨by rw [HA.out, HF.out]; rfl, HI.out.below⟩
                  · have HN : Hid (∀ y, y < c + 1 → cellTo E bit xs a y xs.length = true) := fun y hy => by
                      by_cases ey : y = c
                      · subst ey; exact HT.out
                      · exact hrow.out y (by omega)
                    clear hrow
                    go_wp2_with fail
                    go_roundw
                    case rel => exact ⟨c + 1, by omega, by go_num, HN, HI.out⟩
                    case measure => simp [intOf]; omega
            · obtain rfl : c = C := by omega
              have HN : Hid (∀ x, x < a + 1 → ∀ y, y < c → cellTo E bit xs x y xs.length = true) := fun x hx y hy => by
                by_cases ex : x = a
                · subst ex; exact hrow.out y hy
                · exact hall.out x (by omega) y hy
              clear hrow hall
              go_wp2_with fail
              go_roundw
              case rel => exact ⟨a + 1, by omega, by go_num, HN, HI.out⟩
              case measure => simp [intOf]; omega
        · obtain rfl : a = R := by omega
          have HG : Hid (cellsAll E bit xs a C = true) := decide_eq_true hall.out
          clear hall
          go_wp2_with fail
          go_ret
          exact ⟨by rw [HA.out, HG.out]; rfl, HI.out.below⟩
end Go.Proofs.YtppmecpodleoiaaDoor.CoverS
