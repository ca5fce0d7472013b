/-
  Texts of one seat, joined: CoverS, CovM, PartS.
-/
import Derived.Test.YtohkllmhknjkoaaDoorJp1
import Derived.Test.YtohkllmhknjkoaaDoorJp20
import Derived.Test.YtohkllmhknjkoaaDoorJp17
import Derived.Test.YtohkllmhknjkoaaDoorJp18
import Derived.Test.YtohkllmhknjkoaaDoorJp21
import Derived.Test.YtohkllmhknjkoaaDoorJp13
import Derived.Test.YtohkllmhknjkoaaDoorJp5
/-
  The reference's IsCover.
-/
namespace Go.Proofs.YtohkllmhknjkoaaDoor.CoverS
open Go.RowKit Go.Proofs.YtohkllmhknjkoaaDoor.Plain Go.Proofs.YtohkllmhknjkoaaDoor.Base Go.Proofs.YtohkllmhknjkoaaDoor.Valid Go.Proofs.YtohkllmhknjkoaaDoor.Law Go.Proofs.YtohkllmhknjkoaaDoor.Entry Go.Proofs.YtohkllmhknjkoaaDoor.Pat Go.Proofs.YtohkllmhknjkoaaDoor.Rect Go.Proofs.YtohkllmhknjkoaaDoor.Patch Go.Proofs.YtohkllmhknjkoaaDoor.FreeL Go.Proofs.YtohkllmhknjkoaaDoor.Board Go.Proofs.YtohkllmhknjkoaaDoor.BoardM Go.Proofs.YtohkllmhknjkoaaDoor.RValid Go.Proofs.YtohkllmhknjkoaaDoor.Colour Go.Proofs.YtohkllmhknjkoaaDoor.Rects
open Go.Proofs.YtohkllmhknjkoaaDoor.Free (fill wp_value wp_enter wp_load_row freeB)
set_option linter.unusedVariables false

set_option maxHeartbeats 1000000 in
theorem in_rect (R C x y : Nat) (hR1 : 1 ≤ R) (hR : R < 256) (hC1 : 1 ≤ C) (hC : C < 256) (hx : x < 8) (hy : y < 8) (w : World) :
    Calls Tryd.prog 73 #[rect R C, .int .i64 (x : Int), .int .i64 (y : Int)] w fun e w' => e = .returned (.bool (R.testBit x && C.testBit y)) ∧ Below w.heap.size w w' := by
  have HS := Lib.hid (show someB R C = true by rw [someB_iff]; omega)
  obtain ⟨b1, h1⟩ : ∃ b, R.testBit x = b := ⟨_, rfl⟩
  obtain ⟨b2, h2⟩ : ∃ b, C.testBit y = b := ⟨_, rfl⟩
  rw [h1, h2]
  have H1 := Lib.hid h1
  have H2 := Lib.hid h2
  clear h1 h2
  go_enter Tryd.func73, Tryd.ntmps73
  go_wp2_with fail
  refine (some_any _ _ _).mono ?_
  rintro e w1 ⟨rfl, hb1⟩
  rw [HS.out]
  obtain ⟨c0, c1, hz, HB⟩ := box2 hb1
  clear hb1
  go_wp2_with fail
  refine (in_any _ _ _ _).mono ?_
  rintro e w' ⟨rfl, rfl⟩
  rw [decide_eq_true (by omega)]
  go_wp2_with fail
  refine (in_any _ _ _ _).mono ?_
  rintro e w' ⟨rfl, rfl⟩
  rw [decide_eq_true (by omega)]
  go_wp2_with fail
  refine (l2In_any R x hR hx _).mono ?_
  rintro e w' ⟨rfl, rfl⟩
  rw [H1.out]
  cases b1
  · go_wp2_with fail
    go_ret
    exact ⟨rfl, HB.out⟩
  · go_wp2_with fail
    refine (l2In_any C y hC hy _).mono ?_
    rintro e w' ⟨rfl, rfl⟩
    rw [H2.out]
    go_wp2_with fail
    go_ret
    exact ⟨rfl, HB.out⟩
/-- the matrix's box -/
structure MI (w wr : World) (R C : Int) (s : ByteArray) : Prop where
  m : MHolds wr w.heap.size 26 R C s
  below : Below w.heap.size w wr
theorem MI.later {w wr w2 : World} {R C : Int} {s : ByteArray} (h : MI w wr R C s) (hb : Below wr.heap.size wr w2) : MI w w2 R C s := ⟨mh_on h.m hb, rstep h.below hb⟩
/-- an entry has not the value, or is in one of the first k rectangles -/
def cellTo (E : Nat → Nat → Bool) (bit : Int) (xs : List (Int × Int)) (x y : Nat) : Nat → Bool
  | 0 => bitI (E x y) != bit
  | k + 1 => cellTo E bit xs x y k || (match xs[k]? with | some r => r.1.toNat.testBit x && r.2.toNat.testBit y | none => false)
theorem cellTo_next (E : Nat → Nat → Bool) (bit : Int) (xs : List (Int × Int)) (x y k : Nat) (hk : k < xs.length) : cellTo E bit xs x y (k + 1) = (cellTo E bit xs x y k || (xs[k].1.toNat.testBit x && xs[k].2.toNat.testBit y)) := by
  rw [cellTo, List.getElem?_eq_getElem hk]
def cellsAll (E : Nat → Nat → Bool) (bit : Int) (xs : List (Int × Int)) (R C : Nat) : Bool := decide (∀ x, x < R → ∀ y, y < C → cellTo E bit xs x y xs.length = true)

set_option maxHeartbeats 4000000 in
set_option maxRecDepth 100000 in
theorem spec_cover (E : Nat → Nat → Bool) (R C : Nat) (hR1 : 1 ≤ R) (hR : R ≤ 8) (hC1 : 1 ≤ C) (hC : C ≤ 8) (s : ByteArray) (hsE : s = str (rowsB E R C)) (hs : s.size ≤ maxLen) (hvalid : validB R C s = true) (bit : Int) (hbit : bit = 0 ∨ bit = 1) (col : Int → Int → Int)
    (hcol : ∀ (r c : Int) (W : World), Calls Tryd.prog 70 #[mat R C s, rect r c] W fun e w' => e = .returned (.int .i64 (col r c)) ∧ Below W.heap.size W w')
    (hcv : ∀ r c, col r c = bit → ∃ RS CS : Nat, r = (RS : Int) ∧ c = (CS : Int) ∧ 1 ≤ RS ∧ RS < 256 ∧ 1 ≤ CS ∧ CS < 256)
    (xs : List (Int × Int)) (v : Value) (w : World) (hiv : RV w w.heap.size v xs) :
    Calls Tryd.prog 25 #[mat R C s, .int .i64 bit, v] w fun e w' => e = .returned (.bool (xs.all (fun r => col r.1 r.2 == bit) && cellsAll E bit xs R C)) ∧ Below w.heap.size w w' := by
  have HCOL := Lib.hid hcol
  have HCV := Lib.hid hcv
  have HAT := Lib.hid (fun x y hx hy W => at_any E R C hR hC x y hx hy W)
  rw [← hsE] at HAT
  have HVALID := Lib.hid (fun W => spec_valid R C s hs W)
  rw [hvalid] at HVALID
  have HIN := Lib.hid (fun W => in_any bit 0 1 W)
  rw [decide_eq_true (show 0 ≤ bit ∧ bit ≤ 1 by omega)] at HIN
  clear hcol hcv hsE hs hvalid
  have HC : Hid (∀ j (hj : j < xs.length), ∃ b off c, v = .slice (some ⟨b, off, none⟩) xs.length c ∧ b < w.heap.size ∧ w.cell? ⟨b, off + j * 2, none⟩ = some (.int .i64 xs[j].1) ∧ w.cell? ⟨b, off + j * 2 + 1, none⟩ = some (.int .i64 xs[j].2)) := fun j hj => by
    rcases hiv.2 with ⟨_, rfl⟩ | ⟨b, off, c, e, hlt, hc⟩
    · cases hj
    · exact ⟨b, off, c, e, hlt, hc j hj⟩
  have hl := hiv.1
  obtain ⟨p, kk, rfl⟩ := hiv.slice
  clear hiv
  go_enter Tryd.func25, Tryd.ntmps25
  go_wp2_with fail
  refine (HVALID.out _).mono ?_
  rintro e w1 ⟨rfl, hb1⟩
  have e0 : MHolds (w.alloc (.cells #[.int .i64 (R : Int), .int .i64 (C : Int), .string s] 26)) w.heap.size 26 R C s := heap_alloc_new w _
  have HI1 : Hid (MI w w1 R C s) := ⟨mh_on e0 hb1, rstep ((Below.refl w.heap.size w).alloc (Nat.le_refl _) _) hb1⟩
  clear e0 hb1 HVALID
  go_wp2_with fail
  refine (HIN.out _).mono ?_
  rintro e w' ⟨rfl, rfl⟩
  clear HIN
  go_wp2_with fail
  go_loopw [7] (fun i wr => ∃ (k : Nat), k ≤ xs.length ∧ i = .int .i64 (k : Int) ∧ Hid (∀ j (hj : j < xs.length), j < k → col xs[j].1 xs[j].2 = bit) ∧ MI w wr R C s) (fun i _ => xs.length - (intOf i).toNat)
  case atStart => exact ⟨0, Nat.zero_le _, rfl, fun j _ h => absurd h (by omega), HI1.out⟩
  case round =>
    obtain ⟨k, hk, rfl, hall, hinv⟩ := hrel
    clear HI1
    have HI := Lib.hid hinv
    have MH := Lib.hid hinv.m
    by_cases hkl : k < xs.length
    · obtain ⟨b, off, c, e, hlt, c0, c1⟩ := HC.out k hkl
      injection e with e1 e2 e3
      subst e1 e3
      have HX : Hid (∃ x y, xs[k].1 = x ∧ xs[k].2 = y) := ⟨_, _, rfl, rfl⟩
      obtain ⟨x, y, hx, hy⟩ := HX.out
      have HXY : Hid (xs[k].1 = x ∧ xs[k].2 = y) := ⟨hx, hy⟩
      rw [hx] at c0
      rw [hy] at c1
      have R1 : Hid (wr.rangeAt b (off + k * 2) [.int .i64 x, .int .i64 y]) := range_two ((hinv.below.cell (p := ⟨b, off + k * 2, none⟩) hlt).trans c0) ((hinv.below.cell (p := ⟨b, off + k * 2 + 1, none⟩) hlt).trans c1)
      clear hinv HX hx hy c0 c1
      obtain ⟨v, hv⟩ : ∃ v, col x y = v := ⟨_, rfl⟩
      have HCX := Lib.hid hv
      have HV := Lib.hid (fun W => HCOL.out x y W)
      rw [hv] at HV
      clear hv
      by_cases hvb : v = bit
      · have HALL : Hid (∀ j (hj : j < xs.length), j < k + 1 → col xs[j].1 xs[j].2 = bit) := fun j hj hjk => by
          by_cases ej : j = k
          · subst ej; rw [HXY.out.1, HXY.out.2, HCX.out]; exact hvb
          · exact hall.out j hj (by omega)
        clear hall
        go_wp2_with fail
        refine wp_region_below (fun | 0 => mat R C s | 1 => Value.slice (some ⟨b, off, none⟩) xs.length kk | 2 => .int .i64 (k : Int) | 3 => Value.pointer (some ⟨b, off + k * 2, none⟩) | 4 => rect x y | 5 => .int .i64 v | 6 => .int .i64 bit | 7 => .bool false | _ => undef) (by kernel_rfl) (by kernel_rfl) rfl ?con ?en
        case con =>
          intro i o ho a w2 hb2 hf
          match i, ho with
          | 0, ho =>
            obtain rfl := Option.some.inj ho
            have b3 : a.tmps[3]?.getD undef = .pointer (some ⟨w.heap.size, 0, none⟩) := hf.2 3 (by kernel_rfl)
            exact wp_load_row 26 (.tmp 3) rfl w.heap.size (eval_get b3 trivial) 26 _ (0, 0) _ (mh_on MH.out hb2) Tryd.underlying26 rfl minfo ⟨rfl, Below.refl _ _⟩
          | 1, ho =>
            obtain rfl := Option.some.inj ho
            have b2 : a.tmps[2]?.getD undef = Value.slice (some ⟨b, off, none⟩) xs.length kk := hf.2 2 (by kernel_rfl)
            exact wp_value (Value.slice (some ⟨b, off, none⟩) xs.length kk) (by unfold execOp; go_simp) ⟨rfl, Below.refl _ _⟩
          | 2, ho =>
            obtain rfl := Option.some.inj ho
            have b7 : a.tmps[7]?.getD undef = .int .i64 (k : Int) := hf.2 7 (by kernel_rfl)
            exact wp_value (.int .i64 (k : Int)) (by unfold execOp; go_simp) ⟨rfl, Below.refl _ _⟩
          | 3, ho =>
            obtain rfl := Option.some.inj ho
            have e27 : a.tmps[27]?.getD undef = Value.slice (some ⟨b, off, none⟩) xs.length kk := hf.1 ⟨1, .data⟩ (by simp) rfl _ 27 rfl rfl
            have e28 : a.tmps[28]?.getD undef = .int .i64 (k : Int) := hf.1 ⟨2, .data⟩ (by simp) rfl _ 28 rfl rfl
            exact wp_value (Value.pointer (some ⟨b, off + k * 2, none⟩)) (by unfold execOp; go_simp) ⟨rfl, Below.refl _ _⟩
          | 4, ho =>
            obtain rfl := Option.some.inj ho
            have e29 : a.tmps[29]?.getD undef = Value.pointer (some ⟨b, off + k * 2, none⟩) := hf.1 ⟨3, .data⟩ (by simp) rfl _ 29 rfl rfl
            exact wp_load_mid 39 (.tmp 29) rfl b (off + k * 2) (eval_get e29 trivial) [.int .i64 x, .int .i64 y] _ (range_on R1.out hb2) Tryd.underlying39 rfl rinfo2 ⟨rfl, Below.refl _ _⟩
          | 5, ho =>
            obtain rfl := Option.some.inj ho
            have e26 : a.tmps[26]?.getD undef = mat R C s := hf.1 ⟨0, .data⟩ (by simp) rfl _ 26 rfl rfl
            have e30 : a.tmps[30]?.getD undef = rect x y := hf.1 ⟨4, .data⟩ (by simp) rfl _ 30 rfl rfl
            exact wp_enter 70 #[mat R C s, rect x y] (.int .i64 v) _ (by unfold execOp; go_simp) (HV.out w2) (fun w' h => ⟨rfl, h⟩)
          | 6, ho =>
            obtain rfl := Option.some.inj ho
            have b1 : a.tmps[1]?.getD undef = .int .i64 bit := hf.2 1 (by kernel_rfl)
            exact wp_value (.int .i64 bit) (by unfold execOp; go_simp) ⟨rfl, Below.refl _ _⟩
          | 7, ho =>
            obtain rfl := Option.some.inj ho
            have e31 : a.tmps[31]?.getD undef = .int .i64 v := hf.1 ⟨5, .data⟩ (by simp) rfl _ 31 rfl rfl
            have e32 : a.tmps[32]?.getD undef = .int .i64 bit := hf.1 ⟨6, .data⟩ (by simp) rfl _ 32 rfl rfl
            exact wp_value (.bool false) (by unfold execOp; go_simp) ⟨rfl, Below.refl _ _⟩
          | q + 8, ho => simp at ho
        case en =>
          intro w2 hb2
          have HI2 := Lib.hid (HI.out.later hb2)
          clear hb2 HI MH hvb
          simp only [fill, Act.put]
          go_simp
          go_wp2_with fail
          go_roundw
          case rel => exact ⟨k + 1, by omega, by go_num, HALL, HI2.out⟩
          case measure => simp [intOf]; omega
      · have HF : Hid (xs.all (fun r => col r.1 r.2 == bit) = false) := by
          unfold Hid
          rw [List.all_eq_false]
          exact ⟨xs[k], List.getElem_mem hkl, by rw [HXY.out.1, HXY.out.2, HCX.out, beq_iff_eq]; exact hvb⟩
        clear hall
        go_wp2_with fail
        refine wp_region_below (fun | 0 => mat R C s | 1 => Value.slice (some ⟨b, off, none⟩) xs.length kk | 2 => .int .i64 (k : Int) | 3 => Value.pointer (some ⟨b, off + k * 2, none⟩) | 4 => rect x y | 5 => .int .i64 v | 6 => .int .i64 bit | 7 => .bool true | _ => undef) (by kernel_rfl) (by kernel_rfl) rfl ?con2 ?en2
        case con2 =>
          intro i o ho a w2 hb2 hf
          match i, ho with
          | 0, ho =>
            obtain rfl := Option.some.inj ho
            have b3 : a.tmps[3]?.getD undef = .pointer (some ⟨w.heap.size, 0, none⟩) := hf.2 3 (by kernel_rfl)
            exact wp_load_row 26 (.tmp 3) rfl w.heap.size (eval_get b3 trivial) 26 _ (0, 0) _ (mh_on MH.out hb2) Tryd.underlying26 rfl minfo ⟨rfl, Below.refl _ _⟩
          | 1, ho =>
            obtain rfl := Option.some.inj ho
            have b2 : a.tmps[2]?.getD undef = Value.slice (some ⟨b, off, none⟩) xs.length kk := hf.2 2 (by kernel_rfl)
            exact wp_value (Value.slice (some ⟨b, off, none⟩) xs.length kk) (by unfold execOp; go_simp) ⟨rfl, Below.refl _ _⟩
          | 2, ho =>
            obtain rfl := Option.some.inj ho
            have b7 : a.tmps[7]?.getD undef = .int .i64 (k : Int) := hf.2 7 (by kernel_rfl)
            exact wp_value (.int .i64 (k : Int)) (by unfold execOp; go_simp) ⟨rfl, Below.refl _ _⟩
          | 3, ho =>
            obtain rfl := Option.some.inj ho
            have e27 : a.tmps[27]?.getD undef = Value.slice (some ⟨b, off, none⟩) xs.length kk := hf.1 ⟨1, .data⟩ (by simp) rfl _ 27 rfl rfl
            have e28 : a.tmps[28]?.getD undef = .int .i64 (k : Int) := hf.1 ⟨2, .data⟩ (by simp) rfl _ 28 rfl rfl
            exact wp_value (Value.pointer (some ⟨b, off + k * 2, none⟩)) (by unfold execOp; go_simp) ⟨rfl, Below.refl _ _⟩
          | 4, ho =>
            obtain rfl := Option.some.inj ho
            have e29 : a.tmps[29]?.getD undef = Value.pointer (some ⟨b, off + k * 2, none⟩) := hf.1 ⟨3, .data⟩ (by simp) rfl _ 29 rfl rfl
            exact wp_load_mid 39 (.tmp 29) rfl b (off + k * 2) (eval_get e29 trivial) [.int .i64 x, .int .i64 y] _ (range_on R1.out hb2) Tryd.underlying39 rfl rinfo2 ⟨rfl, Below.refl _ _⟩
          | 5, ho =>
            obtain rfl := Option.some.inj ho
            have e26 : a.tmps[26]?.getD undef = mat R C s := hf.1 ⟨0, .data⟩ (by simp) rfl _ 26 rfl rfl
            have e30 : a.tmps[30]?.getD undef = rect x y := hf.1 ⟨4, .data⟩ (by simp) rfl _ 30 rfl rfl
            exact wp_enter 70 #[mat R C s, rect x y] (.int .i64 v) _ (by unfold execOp; go_simp) (HV.out w2) (fun w' h => ⟨rfl, h⟩)
          | 6, ho =>
            obtain rfl := Option.some.inj ho
            have b1 : a.tmps[1]?.getD undef = .int .i64 bit := hf.2 1 (by kernel_rfl)
            exact wp_value (.int .i64 bit) (by unfold execOp; go_simp) ⟨rfl, Below.refl _ _⟩
          | 7, ho =>
            obtain rfl := Option.some.inj ho
            have e31 : a.tmps[31]?.getD undef = .int .i64 v := hf.1 ⟨5, .data⟩ (by simp) rfl _ 31 rfl rfl
            have e32 : a.tmps[32]?.getD undef = .int .i64 bit := hf.1 ⟨6, .data⟩ (by simp) rfl _ 32 rfl rfl
            exact wp_value (.bool true) (by unfold execOp; go_simp) ⟨rfl, Below.refl _ _⟩
          | q + 8, ho => simp at ho
        case en2 =>
          intro w2 hb2
          have HI2 := Lib.hid (HI.out.later hb2)
          clear hb2 HI MH hvb
          simp only [fill, Act.put]
          go_simp
          go_wp2_with fail
          go_ret
          exact ⟨by rw [HF.out]; rfl, HI2.out.below⟩
    · obtain rfl : k = xs.length := by omega
      have HA : Hid (xs.all (fun r => col r.1 r.2 == bit) = true) := by
        unfold Hid
        rw [List.all_eq_true]
        intro r hr
        obtain ⟨j, hj, rfl⟩ := List.getElem_of_mem hr
        rw [beq_iff_eq]
        exact hall.out j hj hj
      have HALLC : Hid (∀ j (hj : j < xs.length), col xs[j].1 xs[j].2 = bit) := fun j hj => hall.out j hj hj
      clear MH hinv hall hkl hk HCOL
      go_wp2_with fail
      go_loopw [8] (fun i wr => ∃ (a : Nat), a ≤ R ∧ i = .int .i64 (a : Int) ∧ Hid (∀ x, x < a → ∀ y, y < C → cellTo E bit xs x y xs.length = true) ∧ MI w wr R C s) (fun i _ => R - (intOf i).toNat)
      case atStart => exact ⟨0, Nat.zero_le _, rfl, fun x h => absurd h (by omega), HI.out⟩
      case round =>
        obtain ⟨a, ha, rfl, hall, hinv⟩ := hrel
        clear HI
        obtain ⟨q0, q1, q2⟩ := mh_c hinv.m
        have HI := Lib.hid hinv
        clear hinv
        by_cases hal : a < R
        · go_wp2_with fail
          go_loopw [9] (fun i wr => ∃ (c : Nat), c ≤ C ∧ i = .int .i64 (c : Int) ∧ Hid (∀ y, y < c → cellTo E bit xs a y xs.length = true) ∧ MI w wr R C s) (fun i _ => C - (intOf i).toNat)
          case atStart => exact ⟨0, Nat.zero_le _, rfl, fun x h => absurd h (by omega), HI.out⟩
          case round =>
            obtain ⟨c, hc, rfl, hrow, hinv⟩ := hrel
            clear HI q0 q1 q2
            obtain ⟨q0, q1, q2⟩ := mh_c hinv.m
            have HI := Lib.hid hinv
            clear hinv
            by_cases hcl : c < C
            · have HA1 := Lib.hid (HAT.out a c hal hcl)
              have HC0 : Hid (cellTo E bit xs a c 0 = (bitI (E a c) != bit)) := rfl
              generalize E a c = d at *
              go_wp2_with fail
              refine (HA1.out _).mono ?_
              rintro e w2 ⟨rfl, hb2⟩
              have HI2 := Lib.hid (HI.out.later hb2)
              clear hb2 HI q0 q1 q2 HA1
              go_wp2_with fail
              refine (int_any d _).mono ?_
              rintro e w' ⟨rfl, rfl⟩
              go_wp2_with fail
              go_loopw [10, 11] (fun t i wr => ∃ (k : Nat), k ≤ xs.length ∧ i = .int .i64 (k : Int) ∧ t = .bool (cellTo E bit xs a c k) ∧ MI w wr R C s) (fun _ i _ => xs.length - (intOf i).toNat)
              case atStart => exact ⟨0, Nat.zero_le _, rfl, by rw [HC0.out], HI2.out⟩
              case round =>
                obtain ⟨k, hk, rfl, rfl, hinv⟩ := hrel
                clear HI2 HC0
                have HI := Lib.hid hinv
                obtain ⟨t, ht⟩ : ∃ t, cellTo E bit xs a c k = t := ⟨_, rfl⟩
                have HT := Lib.hid ht
                rw [ht]
                clear ht
                by_cases hkl : k < xs.length
                · have HNX := Lib.hid (cellTo_next E bit xs a c k hkl)
                  rw [HT.out] at HNX
                  cases t
                  · obtain ⟨b, off, cc, e, hlt, c0, c1⟩ := HC.out k hkl
                    injection e with e1 e2 e3
                    subst e1 e3
                    obtain ⟨RS, CS, hx, hy, k1, k2, k3, k4⟩ := HCV.out _ _ (HALLC.out k hkl)
                    rw [hx] at c0
                    rw [hy] at c1
                    have HNY : Hid (cellTo E bit xs a c (k + 1) = (RS.testBit a && CS.testBit c)) := by
                      have h := HNX.out
                      rw [hx, hy, Int.toNat_natCast, Int.toNat_natCast, Bool.false_or] at h
                      exact h
                    have HIR := Lib.hid (fun W => in_rect RS CS a c k1 k2 k3 k4 (by omega) (by omega) W)
                    have c0 := (hinv.below.cell (p := ⟨b, off + k * 2, none⟩) hlt).trans c0
                    have c1 := (hinv.below.cell (p := ⟨b, off + k * 2 + 1, none⟩) hlt).trans c1
                    clear hinv HNX hx hy k1 k2 k3 k4
                    generalize (RS.testBit a && CS.testBit c) = t2 at *
                    go_wp2_with fail
                    refine (HIR.out _).mono ?_
                    rintro e w3 ⟨rfl, hb3⟩
                    have HI3 := Lib.hid (HI.out.later hb3)
                    clear hb3 HI c0 c1 HIR
                    go_wp2_with fail
                    go_roundw
                    case rel => exact ⟨k + 1, by omega, by go_num, by rw [HNY.out], HI3.out⟩
                    case measure => simp [intOf]; omega
                  · clear hinv
                    go_wp2_with fail
                    go_roundw
                    case rel => exact ⟨k + 1, by omega, by go_num, by rw [HNX.out]; rfl, HI.out⟩
                    case measure => simp [intOf]; omega
                · obtain rfl : k = xs.length := by omega
                  clear hinv
                  cases t
                  · have HF : Hid (cellsAll E bit xs R C = false) := decide_eq_false fun h => by
                      have := h a hal c hcl
                      rw [HT.out] at this
                      cases this
                    clear hrow hall
                    go_wp2_with fail
                    go_ret
                    exact ⟨by rw [HA.out, HF.out]; rfl, HI.out.below⟩
                  · have HN : Hid (∀ y, y < c + 1 → cellTo E bit xs a y xs.length = true) := fun y hy => by
                      by_cases ey : y = c
                      · subst ey; exact HT.out
                      · exact hrow.out y (by omega)
                    clear hrow
                    go_wp2_with fail
                    go_roundw
                    case rel => exact ⟨c + 1, by omega, by go_num, HN, HI.out⟩
                    case measure => simp [intOf]; omega
            · obtain rfl : c = C := by omega
              have HN : Hid (∀ x, x < a + 1 → ∀ y, y < c → cellTo E bit xs x y xs.length = true) := fun x hx y hy => by
                by_cases ex : x = a
                · subst ex; exact hrow.out y hy
                · exact hall.out x (by omega) y hy
              clear hrow hall
              go_wp2_with fail
              go_roundw
              case rel => exact ⟨a + 1, by omega, by go_num, HN, HI.out⟩
              case measure => simp [intOf]; omega
        · obtain rfl : a = R := by omega
          have HG : Hid (cellsAll E bit xs a C = true) := decide_eq_true hall.out
          clear hall
          go_wp2_with fail
          go_ret
          exact ⟨by rw [HA.out, HG.out]; rfl, HI.out.below⟩
end Go.Proofs.YtohkllmhknjkoaaDoor.CoverS

/-
  Plain facts: when a rectangle has one value; the entries of rectangles together.
-/
namespace Go.Proofs.YtohkllmhknjkoaaDoor.CovM
open Go.RowKit Go.Proofs.YtohkllmhknjkoaaDoor.Plain Go.Proofs.YtohkllmhknjkoaaDoor.Base Go.Proofs.YtohkllmhknjkoaaDoor.Valid Go.Proofs.YtohkllmhknjkoaaDoor.Law Go.Proofs.YtohkllmhknjkoaaDoor.Pat Go.Proofs.YtohkllmhknjkoaaDoor.Rect Go.Proofs.YtohkllmhknjkoaaDoor.Patch Go.Proofs.YtohkllmhknjkoaaDoor.Board Go.Proofs.YtohkllmhknjkoaaDoor.BoardM Go.Proofs.YtohkllmhknjkoaaDoor.RValid Go.Proofs.YtohkllmhknjkoaaDoor.Bal Go.Proofs.YtohkllmhknjkoaaDoor.Colour Go.Proofs.YtohkllmhknjkoaaDoor.Rects Go.Proofs.YtohkllmhknjkoaaDoor.Cover Go.Proofs.YtohkllmhknjkoaaDoor.CoverS
set_option linter.unusedVariables false

/-- all entries of a rectangle of the matrix are 1, by the balance and by sets of entries -/
theorem ones_iff (E : Nat → Nat → Bool) (R C RS CS : Nat) (h2 : R ≤ 8) (h4 : C ≤ 8) (k2 : RS < 2 ^ R) (k4 : CS < 2 ^ C) :
    (bal E RS CS R C = ((pop8 RS * pop8 CS : Nat) : Int)) ↔ (pat (rectB RS CS) 8 &&& (18446744073709551615 - pat (onB E R C) 8) = 0) := by
  have k5 : RS < 256 := Nat.lt_of_lt_of_le k2 (Nat.pow_le_pow_right (n := 2) (by decide) h2)
  have k6 : CS < 256 := Nat.lt_of_lt_of_le k4 (Nat.pow_le_pow_right (n := 2) (by decide) h4)
  have hin : ∀ x y, RS.testBit x = true → CS.testBit y = true → x < R ∧ y < C := fun x y hx hy => by
    constructor
    · rcases Nat.lt_or_ge x R with h | h
      · exact h
      · rw [bit_beyond RS x R k2 h] at hx; cases hx
    · rcases Nat.lt_or_ge y C with h | h
      · exact h
      · rw [bit_beyond CS y C k4 h] at hy; cases hy
  rw [plain_pat E R C RS CS h2 h4 k5 k6, bal_area E RS CS R C h2 h4 k2 k4]
  exact ⟨fun h x y hx hy => ⟨hin x y hx hy, h x y hx hy⟩, fun h x y hx hy => (h x y hx hy).2⟩

/-- what the reference's ColourOf finds -/
def colR (E : Nat → Nat → Bool) (R C : Nat) (r c : Int) : Int := if rvB R C r c = true then colV (bal E r.toNat c.toNat R C) ((pop8 r.toNat * pop8 c.toNat : Nat) : Int) else -2
theorem colR_any (E : Nat → Nat → Bool) (R C : Nat) (h1 : 1 ≤ R) (h2 : R ≤ 8) (h3 : 1 ≤ C) (h4 : C ≤ 8) (hs : (str (rowsB E R C)).size ≤ maxLen) (hv : validB R C (str (rowsB E R C)) = true) (r c : Int) (W : World) :
    Calls Tryd.prog 70 #[mat R C (str (rowsB E R C)), rect r c] W fun e w' => e = .returned (.int .i64 (colR E R C r c)) ∧ Below W.heap.size W w' := by
  unfold colR
  by_cases ht : rvB R C r c = true
  · obtain ⟨RS, CS, rfl, rfl, k1, k2, k3, k4, k5, k6⟩ := rv_nat h2 h4 ht
    have h := spec_col R C (str (rowsB E R C)) RS CS true _ (fun W => by have := spec_rv R C h1 h2 h3 h4 _ hs hv RS CS W; rwa [ht] at this) (fun _ W => spec_l2col E R C h1 h2 h3 h4 RS CS k1 k5 k3 k6 W) W
    rw [if_pos ht, Int.toNat_natCast, Int.toNat_natCast]
    rw [if_pos rfl] at h
    exact h
  · rw [if_neg ht]
    rw [Bool.not_eq_true] at ht
    have h := spec_col R C (str (rowsB E R C)) r c false 0 (fun W => by have := spec_rv R C h1 h2 h3 h4 _ hs hv r c W; rwa [ht] at this) (fun h => by cases h) W
    rw [if_neg (by decide)] at h
    exact h
theorem colR_one (E : Nat → Nat → Bool) (R C : Nat) (h2 : R ≤ 8) (h4 : C ≤ 8) (r c : Int) : (colR E R C r c == 1) = hpB R C (pat (onB E R C) 8) r c := by
  unfold colR hpB
  by_cases ht : rvB R C r c = true
  · obtain ⟨RS, CS, rfl, rfl, k1, k2, k3, k4, k5, k6⟩ := rv_nat h2 h4 ht
    rw [if_pos ht, ht, Bool.true_and, Int.toNat_natCast, Int.toNat_natCast]
    have e := ones_iff E R C RS CS h2 h4 k2 k4
    rw [Bool.eq_iff_iff, beq_iff_eq, decide_eq_true_iff, ← e]
    unfold colV
    split
    · rename_i h; exact ⟨fun _ => h, fun _ => rfl⟩
    · rename_i h
      split
      · exact ⟨fun h' => by omega, fun h' => absurd h' h⟩
      · exact ⟨fun h' => by omega, fun h' => absurd h' h⟩
  · rw [if_neg ht]
    rw [Bool.not_eq_true] at ht
    rw [ht]
    rfl
theorem colR_zero (E : Nat → Nat → Bool) (R C : Nat) (h2 : R ≤ 8) (h4 : C ≤ 8) (r c : Int) : (colR E R C r c == 0) = hpB R C (pat (onB (fun x y => !E x y) R C) 8) r c := by
  unfold colR hpB
  by_cases ht : rvB R C r c = true
  · obtain ⟨RS, CS, rfl, rfl, k1, k2, k3, k4, k5, k6⟩ := rv_nat h2 h4 ht
    rw [if_pos ht, ht, Bool.true_and, Int.toNat_natCast, Int.toNat_natCast]
    have e := ones_iff (fun x y => !E x y) R C RS CS h2 h4 k2 k4
    rw [← bal_not] at e
    have hpos : 1 ≤ pop8 RS * pop8 CS := Nat.mul_le_mul (pop8_pos RS k1 k5) (pop8_pos CS k3 k6)
    rw [Bool.eq_iff_iff, beq_iff_eq, decide_eq_true_iff, ← e]
    unfold colV
    split
    · exact ⟨fun h' => by omega, fun h' => by omega⟩
    · split
      · exact ⟨fun _ => by omega, fun _ => rfl⟩
      · exact ⟨fun h' => by omega, fun h' => by omega⟩
  · rw [if_neg ht]
    rw [Bool.not_eq_true] at ht
    rw [ht]
    rfl

theorem pat_inj (k : Nat) : ∀ (f g : Nat → Nat), (∀ x, f x < 256) → (∀ x, g x < 256) → pat f k = pat g k → ∀ x, x < k → f x = g x := by
  induction k with
  | zero => intro f g _ _ _ x hx; omega
  | succ k ih =>
    intro f g hf hg h x hx
    rw [pat, pat] at h
    have h0 := hf 0
    have h1 := hg 0
    have e1 : f 0 = g 0 := by omega
    have e2 : pat (fun x => f (x + 1)) k = pat (fun x => g (x + 1)) k := by omega
    cases x with
    | zero => exact e1
    | succ x => exact ih _ _ (fun x => hf _) (fun x => hg _) e2 x (by omega)

/-- the bytes of the first k rectangles together -/
def covB (xs : List (Int × Int)) : Nat → Nat → Nat
  | 0 => fun _ => 0
  | k + 1 => fun x => covB xs k x ||| (match xs[k]? with | some r => rectB r.1.toNat r.2.toNat x | none => 0)
theorem covB_next (xs : List (Int × Int)) (k : Nat) (hk : k < xs.length) (x : Nat) : covB xs (k + 1) x = covB xs k x ||| rectB xs[k].1.toNat xs[k].2.toNat x := by
  rw [covB, List.getElem?_eq_getElem hk]
theorem covB_lt (xs : List (Int × Int)) (h : ∀ j (hj : j < xs.length), xs[j].2.toNat < 256) : ∀ k, k ≤ xs.length → ∀ x, covB xs k x < 256
  | 0, _, x => by show 0 < 256; omega
  | k + 1, hk, x => by
    rw [covB_next xs k (by omega)]
    exact Nat.or_lt_two_pow (n := 8) (covB_lt xs h k (by omega) x) (rectB_lt _ _ (h k (by omega)) x)
theorem covTo_pat (xs : List (Int × Int)) (h : ∀ j (hj : j < xs.length), xs[j].2.toNat < 256) : ∀ k, k ≤ xs.length → covTo xs k = pat (covB xs k) 8
  | 0, _ => (pat_none 8).symm
  | k + 1, hk => by
    rw [covTo_next xs k (by omega), covTo_pat xs h k (by omega), pat_or 8 _ _ (covB_lt xs h k (by omega)) (rectB_lt _ _ (h k (by omega)))]
    exact pat_congr 8 _ _ fun x _ => (covB_next xs k (by omega) x).symm
theorem rectB_bit (r c x y : Nat) : (rectB r c x).testBit y = (r.testBit x && c.testBit y) := by
  unfold rectB
  cases r.testBit x
  · simp
  · simp
/-- what the reference finds at an entry -/
theorem cell_cov (E : Nat → Nat → Bool) (bit : Int) (xs : List (Int × Int)) (x y : Nat) : ∀ k, k ≤ xs.length → cellTo E bit xs x y k = ((bitI (E x y) != bit) || (covB xs k x).testBit y)
  | 0, _ => by
    rw [cellTo]
    show _ = (_ || (0 : Nat).testBit y)
    simp
  | k + 1, hk => by
    rw [cellTo_next E bit xs x y k (by omega), cell_cov E bit xs x y k (by omega), covB_next xs k (by omega), Nat.testBit_or, rectB_bit, Bool.or_assoc]
theorem onB_bit (P : Nat → Nat → Bool) (R C x y : Nat) : (onB P R C x).testBit y = (decide (x < R) && (decide (y < C) && P x y)) := by
  unfold onB
  by_cases h : x < R
  · rw [if_pos h, setB_bit, decide_eq_true h, Bool.true_and]
  · rw [if_neg h, decide_eq_false h, Bool.false_and, Nat.zero_testBit]
/-- rectangles that have the value have no other entries -/
theorem cov_sub (P : Nat → Nat → Bool) (R C : Nat) (hR : R ≤ 8) (hC : C ≤ 8) (xs : List (Int × Int)) (h : ∀ j (hj : j < xs.length), hpB R C (pat (onB P R C) 8) xs[j].1 xs[j].2 = true) (x y : Nat) : ∀ k, k ≤ xs.length → (covB xs k x).testBit y = true → (onB P R C x).testBit y = true
  | 0, _, hb => by rw [show covB xs 0 x = 0 from rfl, Nat.zero_testBit] at hb; cases hb
  | k + 1, hk, hb => by
    rw [covB_next xs k (by omega), Nat.testBit_or, Bool.or_eq_true] at hb
    rcases hb with hb | hb
    · exact cov_sub P R C hR hC xs h x y k (by omega) hb
    · have hp := h k (by omega)
      unfold hpB at hp
      rw [Bool.and_eq_true] at hp
      obtain ⟨RS, CS, e1, e2, k1, k2, k3, k4, k5, k6⟩ := rv_nat hR hC hp.1
      have h2 := hp.2
      rw [e1, e2, Int.toNat_natCast, Int.toNat_natCast] at h2
      rw [e1, e2, Int.toNat_natCast, Int.toNat_natCast, rectB_bit, Bool.and_eq_true] at hb
      have h3 := (plain_pat P R C RS CS hR hC k5 k6).1 (of_decide_eq_true h2) x y hb.1 hb.2
      rw [onB_bit, decide_eq_true h3.1.1, decide_eq_true h3.1.2, h3.2]
      rfl
theorem hp_lt {R C q : Nat} (hR : R ≤ 8) (hC : C ≤ 8) {xs : List (Int × Int)} (h : ∀ j (hj : j < xs.length), hpB R C q xs[j].1 xs[j].2 = true) : ∀ j (hj : j < xs.length), xs[j].2.toNat < 256 := fun j hj => by
  have hp := h j hj
  unfold hpB at hp
  rw [Bool.and_eq_true] at hp
  obtain ⟨RS, CS, e1, e2, k1, k2, k3, k4, k5, k6⟩ := rv_nat hR hC hp.1
  rw [e2, Int.toNat_natCast]
  exact k6
/-- rectangles that have the value cover it just if each entry with it is in one -/
theorem cov_iff (E P : Nat → Nat → Bool) (bit : Int) (hP : ∀ x y, P x y = (bitI (E x y) == bit)) (R C : Nat) (hR : R ≤ 8) (hC : C ≤ 8) (xs : List (Int × Int)) (h : ∀ j (hj : j < xs.length), hpB R C (pat (onB P R C) 8) xs[j].1 xs[j].2 = true) :
    (covTo xs xs.length == pat (onB P R C) 8) = cellsAll E bit xs R C := by
  have hlt := hp_lt hR hC h
  rw [covTo_pat xs hlt _ (Nat.le_refl _), Bool.eq_iff_iff, beq_iff_eq]
  unfold cellsAll
  rw [decide_eq_true_iff]
  have hc : ∀ x y, cellTo E bit xs x y xs.length = (!P x y || (covB xs xs.length x).testBit y) := fun x y => by
    rw [cell_cov E bit xs x y _ (Nat.le_refl _), hP]; rfl
  constructor
  · intro he x hx y hy
    have := pat_inj 8 _ _ (covB_lt xs hlt _ (Nat.le_refl _)) (onB_lt P R C hC) he x (by omega)
    rw [hc, this, onB_bit, decide_eq_true hx, decide_eq_true hy]
    cases P x y <;> rfl
  · intro ha
    refine pat_congr 8 _ _ fun x hx => Nat.eq_of_testBit_eq fun y => ?_
    rw [Bool.eq_iff_iff]
    refine ⟨fun hb => cov_sub P R C hR hC xs h x y _ (Nat.le_refl _) hb, fun hb => ?_⟩
    rw [onB_bit, Bool.and_eq_true, Bool.and_eq_true, decide_eq_true_iff, decide_eq_true_iff] at hb
    have := ha x hb.1 y hb.2.1
    rw [hc, hb.2.2] at this
    exact this
/-- both results are one -/
theorem cover_eq (E P : Nat → Nat → Bool) (bit : Int) (hP : ∀ x y, P x y = (bitI (E x y) == bit)) (R C : Nat) (hR : R ≤ 8) (hC : C ≤ 8) (xs : List (Int × Int))
    (hc : ∀ r c, (colR E R C r c == bit) = hpB R C (pat (onB P R C) 8) r c) :
    (xs.all (fun r => colR E R C r.1 r.2 == bit) && cellsAll E bit xs R C) = (xs.all (fun r => hpB R C (pat (onB P R C) 8) r.1 r.2) && (covTo xs xs.length == pat (onB P R C) 8)) := by
  have e : (fun r : Int × Int => colR E R C r.1 r.2 == bit) = fun r => hpB R C (pat (onB P R C) 8) r.1 r.2 := by
    funext r
    exact hc r.1 r.2
  rw [e]
  by_cases h : xs.all (fun r => hpB R C (pat (onB P R C) 8) r.1 r.2) = true
  · rw [h, Bool.true_and, Bool.true_and]
    rw [List.all_eq_true] at h
    exact (cov_iff E P bit hP R C hR hC xs fun j hj => h xs[j] (List.getElem_mem hj)).symm
  · rw [Bool.not_eq_true] at h
    rw [h]
    rfl
end Go.Proofs.YtohkllmhknjkoaaDoor.CovM

/-
  The reference's IsPartition.
-/
namespace Go.Proofs.YtohkllmhknjkoaaDoor.PartS
open Go.RowKit Go.Proofs.YtohkllmhknjkoaaDoor.Plain Go.Proofs.YtohkllmhknjkoaaDoor.Base Go.Proofs.YtohkllmhknjkoaaDoor.Valid Go.Proofs.YtohkllmhknjkoaaDoor.Law Go.Proofs.YtohkllmhknjkoaaDoor.Entry Go.Proofs.YtohkllmhknjkoaaDoor.Pat Go.Proofs.YtohkllmhknjkoaaDoor.Rect Go.Proofs.YtohkllmhknjkoaaDoor.Patch Go.Proofs.YtohkllmhknjkoaaDoor.FreeL Go.Proofs.YtohkllmhknjkoaaDoor.Board Go.Proofs.YtohkllmhknjkoaaDoor.BoardM Go.Proofs.YtohkllmhknjkoaaDoor.RValid Go.Proofs.YtohkllmhknjkoaaDoor.Area Go.Proofs.YtohkllmhknjkoaaDoor.Colour Go.Proofs.YtohkllmhknjkoaaDoor.Rects Go.Proofs.YtohkllmhknjkoaaDoor.CoverS Go.Proofs.YtohkllmhknjkoaaDoor.Meet
open Go.Proofs.YtohkllmhknjkoaaDoor.Free (fill wp_value wp_enter wp_load_row freeB wp_region_one get_of)
set_option linter.unusedVariables false

/-- two rectangles have an entry in common -/
def meetN (RS CS RS2 CS2 : Nat) : Bool := (RS &&& RS2 != 0) && (CS &&& CS2 != 0)
def meetB (a b : Int × Int) : Bool := meetN a.1.toNat a.2.toNat b.1.toNat b.2.toNat
theorem and_i64 (a b : Nat) (ha : a < 256) (hb : b < 256) : Go.bits .and .i64 (a : Int) (b : Int) = ((a &&& b : Nat) : Int) :=
  (bits_nat .i64 8 (by decide) (fun n h0 h1 => by rw [IntKind.wrap_i64]; omega) a b (by omega) (by omega)).1
theorem meet_any (RS CS RS2 CS2 : Nat) (h1 : 1 ≤ RS) (h2 : RS < 256) (h3 : 1 ≤ CS) (h4 : CS < 256) (h5 : 1 ≤ RS2) (h6 : RS2 < 256) (h7 : 1 ≤ CS2) (h8 : CS2 < 256) : ∃ A B : Int, ∀ W : World,
    Calls Tryd.prog 85 #[rect RS CS, rect RS2 CS2] W fun e w' => e = .returned (.tuple #[rect A B, .bool (meetN RS CS RS2 CS2)]) ∧ Below W.heap.size W w' := by
  have e1 : someB (RS : Int) (CS : Int) = true := (someB_iff _ _).2 ⟨⟨by omega, by omega⟩, by omega, by omega⟩
  have e2 : someB (RS2 : Int) (CS2 : Int) = true := (someB_iff _ _).2 ⟨⟨by omega, by omega⟩, by omega, by omega⟩
  have hm := fun W => spec_meetC RS CS RS2 CS2 e1 e2 W
  rw [and_i64 RS RS2 h2 h6, and_i64 CS CS2 h4 h8] at hm
  have e3 : someB ((RS &&& RS2 : Nat) : Int) ((CS &&& CS2 : Nat) : Int) = meetN RS CS RS2 CS2 := by
    have l1 : RS &&& RS2 ≤ RS := Nat.and_le_left
    have l2 : CS &&& CS2 ≤ CS := Nat.and_le_left
    unfold meetN
    rw [Bool.eq_iff_iff, someB_iff, Bool.and_eq_true, bne_iff_ne, bne_iff_ne]
    omega
  rw [e3] at hm
  cases h : meetN RS CS RS2 CS2
  · rw [h] at hm
    exact ⟨0, 0, hm⟩
  · rw [h] at hm
    exact ⟨_, _, hm⟩
/-- the area of the first k rectangles -/
def areaTo (xs : List (Int × Int)) : Nat → Nat
  | 0 => 0
  | k + 1 => areaTo xs k + (match xs[k]? with | some r => pop8 r.1.toNat * pop8 r.2.toNat | none => 0)
theorem areaTo_next (xs : List (Int × Int)) (k : Nat) (hk : k < xs.length) : areaTo xs (k + 1) = areaTo xs k + pop8 xs[k].1.toNat * pop8 xs[k].2.toNat := by
  rw [areaTo, List.getElem?_eq_getElem hk]
theorem areaTo_le (xs : List (Int × Int)) : ∀ k, areaTo xs k ≤ 64 * k
  | 0 => Nat.le_refl _
  | k + 1 => by
    have := areaTo_le xs k
    rw [areaTo]
    split
    · rename_i r _
      have h := Nat.mul_le_mul (pop8_le r.1.toNat) (pop8_le r.2.toNat)
      show areaTo xs k + pop8 r.1.toNat * pop8 r.2.toNat ≤ 64 * (k + 1)
      generalize pop8 r.1.toNat * pop8 r.2.toNat = q at *
      omega
    · omega
/-- what the reference finds -/
def partS (col : Int → Int → Int) (xs : List (Int × Int)) (n : Nat) : Bool :=
  decide (∀ j (hj : j < xs.length), 0 ≤ col xs[j].1 xs[j].2) && (decide (∀ j (hj : j < xs.length), ∀ i (hi : i < xs.length), i < j → meetB xs[j] xs[i] = false) && (areaTo xs xs.length == n))

set_option maxHeartbeats 4000000 in
set_option maxRecDepth 100000 in
theorem spec_part (r c : Int) (RC : Nat) (hprod : RC ≤ 64) (s : ByteArray) (hs : s.size ≤ maxLen) (bv : Bool) (hvalid : validB r c s = bv) (hmul : bv = true → wrap64 (r * c) = (RC : Int)) (col : Int → Int → Int)
    (hcol : ∀ (x y : Int) (W : World), Calls Tryd.prog 70 #[mat r c s, rect x y] W fun e w' => e = .returned (.int .i64 (col x y)) ∧ Below W.heap.size W w')
    (hcv : ∀ r c, 0 ≤ col r c → ∃ RS CS : Nat, r = (RS : Int) ∧ c = (CS : Int) ∧ 1 ≤ RS ∧ RS < 256 ∧ 1 ≤ CS ∧ CS < 256)
    (xs : List (Int × Int)) (hn : xs.length ≤ 1048576) (v : Value) (w : World) (hiv : RV w w.heap.size v xs) :
    Calls Tryd.prog 32 #[mat r c s, v] w fun e w' => e = .returned (.bool (bv && partS col xs RC)) ∧ Below w.heap.size w w' := by
  have HCOL := Lib.hid hcol
  have HCV := Lib.hid hcv
  have HVALID := Lib.hid (fun W => spec_valid r c s hs W)
  rw [hvalid] at HVALID
  clear hcol hcv hs hvalid
  have HC : Hid (∀ j (hj : j < xs.length), ∃ b off q, v = .slice (some ⟨b, off, none⟩) xs.length q ∧ b < w.heap.size ∧ w.cell? ⟨b, off + j * 2, none⟩ = some (.int .i64 xs[j].1) ∧ w.cell? ⟨b, off + j * 2 + 1, none⟩ = some (.int .i64 xs[j].2)) := fun j hj => by
    rcases hiv.2 with ⟨_, rfl⟩ | ⟨b, off, q, e, hlt, hc⟩
    · cases hj
    · exact ⟨b, off, q, e, hlt, hc j hj⟩
  obtain ⟨p, kk, rfl⟩ := hiv.slice
  clear hiv
  have HMUL := Lib.hid hmul
  clear hmul
  go_enter Tryd.func32, Tryd.ntmps32
  go_wp2_with fail
  have HI1 : Hid (MI w (w.alloc (.cells #[.int .i64 r, .int .i64 c, .string s] 26)) r c s) := ⟨heap_alloc_new w _, (Below.refl w.heap.size w).alloc (Nat.le_refl _) _⟩
  generalize w.alloc (.cells #[.int .i64 r, .int .i64 c, .string s] 26) = W0 at *
  go_loopw [5, 6] (fun t i wr => ∃ (k m : Nat), k ≤ xs.length ∧ i = .int .i64 (k : Int) ∧ t = .int .i64 (m : Int) ∧ m ≤ 64 * k ∧ Hid (m = areaTo xs k) ∧ Hid (∀ j (hj : j < xs.length), j < k → 0 ≤ col xs[j].1 xs[j].2) ∧ Hid (∀ j (hj : j < xs.length), j < k → ∀ i (hi : i < xs.length), i < j → meetB xs[j] xs[i] = false) ∧ MI w wr r c s) (fun _ i _ => xs.length - (intOf i).toNat)
  case atStart => exact ⟨0, 0, Nat.zero_le _, rfl, rfl, by omega, rfl, fun j _ h => absurd h (by omega), fun j _ h => absurd h (by omega), HI1.out⟩
  case round =>
    obtain ⟨k, m, hk, rfl, rfl, hm, harea, hall, hapart, hinv⟩ := hrel
    clear HI1
    have HI := Lib.hid hinv
    have MH := Lib.hid hinv.m
    by_cases hkl : k < xs.length
    · obtain ⟨b, off, q, e, hlt, c0, c1⟩ := HC.out k hkl
      injection e with e1 e2 e3
      subst e1 e3
      have HX : Hid (∃ x y, xs[k].1 = x ∧ xs[k].2 = y) := ⟨_, _, rfl, rfl⟩
      obtain ⟨x, y, hx, hy⟩ := HX.out
      have HXY : Hid (xs[k].1 = x ∧ xs[k].2 = y) := ⟨hx, hy⟩
      rw [hx] at c0
      rw [hy] at c1
      have R0 : Hid (w.rangeAt b (off + k * 2) [.int .i64 x, .int .i64 y]) := range_two c0 c1
      have R1 : Hid (wr.rangeAt b (off + k * 2) [.int .i64 x, .int .i64 y]) := range_two ((hinv.below.cell (p := ⟨b, off + k * 2, none⟩) hlt).trans c0) ((hinv.below.cell (p := ⟨b, off + k * 2 + 1, none⟩) hlt).trans c1)
      clear hinv HX hx hy c0 c1 e2
      obtain ⟨v, hv⟩ : ∃ v, col x y = v := ⟨_, rfl⟩
      have HCX := Lib.hid hv
      have HV := Lib.hid (fun W => HCOL.out x y W)
      rw [hv] at HV
      clear hv
      by_cases hvb : v < 0
      · have HF : Hid (decide (∀ j (hj : j < xs.length), 0 ≤ col xs[j].1 xs[j].2) = false) := decide_eq_false fun h => by
          have := h k hkl
          rw [HXY.out.1, HXY.out.2, HCX.out] at this
          omega
        clear hall hapart harea
        go_wp2_with fail
        refine wp_region_below (fun | 0 => mat r c s | 1 => Value.slice (some ⟨b, off, none⟩) xs.length kk | 2 => .int .i64 (k : Int) | 3 => Value.pointer (some ⟨b, off + k * 2, none⟩) | 4 => rect x y | 5 => .int .i64 v | 6 => .bool true | _ => undef) (by kernel_rfl) (by kernel_rfl) rfl ?con2 ?en2
        case con2 =>
          intro i o ho a w2 hb2 hf
          match i, ho with
          | 0, ho =>
            obtain rfl := Option.some.inj ho
            have b2 : a.tmps[2]?.getD undef = .pointer (some ⟨w.heap.size, 0, none⟩) := hf.2 2 (by kernel_rfl)
            exact wp_load_row 26 (.tmp 2) rfl w.heap.size (eval_get b2 trivial) 26 _ (0, 0) _ (mh_on MH.out hb2) Tryd.underlying26 rfl minfo ⟨rfl, Below.refl _ _⟩
          | 1, ho =>
            obtain rfl := Option.some.inj ho
            have b1 : a.tmps[1]?.getD undef = Value.slice (some ⟨b, off, none⟩) xs.length kk := hf.2 1 (by kernel_rfl)
            exact wp_value (Value.slice (some ⟨b, off, none⟩) xs.length kk) (by unfold execOp; go_simp) ⟨rfl, Below.refl _ _⟩
          | 2, ho =>
            obtain rfl := Option.some.inj ho
            have b6 : a.tmps[6]?.getD undef = .int .i64 (k : Int) := hf.2 6 (by kernel_rfl)
            exact wp_value (.int .i64 (k : Int)) (by unfold execOp; go_simp) ⟨rfl, Below.refl _ _⟩
          | 3, ho =>
            obtain rfl := Option.some.inj ho
            have e17 : a.tmps[17]?.getD undef = Value.slice (some ⟨b, off, none⟩) xs.length kk := hf.1 ⟨1, .data⟩ (by simp) rfl _ 17 rfl rfl
            have e18 : a.tmps[18]?.getD undef = .int .i64 (k : Int) := hf.1 ⟨2, .data⟩ (by simp) rfl _ 18 rfl rfl
            exact wp_value (Value.pointer (some ⟨b, off + k * 2, none⟩)) (by unfold execOp; go_simp) ⟨rfl, Below.refl _ _⟩
          | 4, ho =>
            obtain rfl := Option.some.inj ho
            have e19 : a.tmps[19]?.getD undef = Value.pointer (some ⟨b, off + k * 2, none⟩) := hf.1 ⟨3, .data⟩ (by simp) rfl _ 19 rfl rfl
            exact wp_load_mid 39 (.tmp 19) rfl b (off + k * 2) (eval_get e19 trivial) [.int .i64 x, .int .i64 y] _ (range_on R1.out hb2) Tryd.underlying39 rfl rinfo2 ⟨rfl, Below.refl _ _⟩
          | 5, ho =>
            obtain rfl := Option.some.inj ho
            have e16 : a.tmps[16]?.getD undef = mat r c s := hf.1 ⟨0, .data⟩ (by simp) rfl _ 16 rfl rfl
            have e20 : a.tmps[20]?.getD undef = rect x y := hf.1 ⟨4, .data⟩ (by simp) rfl _ 20 rfl rfl
            exact wp_enter 70 #[mat r c s, rect x y] (.int .i64 v) _ (by unfold execOp; go_simp) (HV.out w2) (fun w' h => ⟨rfl, h⟩)
          | 6, ho =>
            obtain rfl := Option.some.inj ho
            have e21 : a.tmps[21]?.getD undef = .int .i64 v := hf.1 ⟨5, .data⟩ (by simp) rfl _ 21 rfl rfl
            exact wp_value (.bool true) (by unfold execOp; go_simp) ⟨rfl, Below.refl _ _⟩
          | q + 7, ho => simp at ho
        case en2 =>
          intro w2 hb2
          have HI2 := Lib.hid (HI.out.later hb2)
          clear hb2 HI MH hvb
          simp only [fill, Act.put]
          go_simp
          go_wp2_with fail
          go_ret
          exact ⟨by unfold partS; rw [HF.out, Bool.false_and, Bool.and_false]; rfl, HI2.out.below⟩
      · have hv0 : 0 ≤ v := by omega
        have HALL : Hid (∀ j (hj : j < xs.length), j < k + 1 → 0 ≤ col xs[j].1 xs[j].2) := fun j hj hjk => by
          by_cases ej : j = k
          · subst ej; rw [HXY.out.1, HXY.out.2, HCX.out]; exact hv0
          · exact hall.out j hj (by omega)
        obtain ⟨RS, CS, ex, ey, k1, k2, k3, k4⟩ := HCV.out x y (by rw [HCX.out]; exact hv0)
        subst ex ey
        clear hall
        go_wp2_with fail
        refine wp_region_below (fun | 0 => mat r c s | 1 => Value.slice (some ⟨b, off, none⟩) xs.length kk | 2 => .int .i64 (k : Int) | 3 => Value.pointer (some ⟨b, off + k * 2, none⟩) | 4 => rect (RS : Int) (CS : Int) | 5 => .int .i64 v | 6 => .bool false | _ => undef) (by kernel_rfl) (by kernel_rfl) rfl ?con ?en
        case con =>
          intro i o ho a w2 hb2 hf
          match i, ho with
          | 0, ho =>
            obtain rfl := Option.some.inj ho
            have b2 : a.tmps[2]?.getD undef = .pointer (some ⟨w.heap.size, 0, none⟩) := hf.2 2 (by kernel_rfl)
            exact wp_load_row 26 (.tmp 2) rfl w.heap.size (eval_get b2 trivial) 26 _ (0, 0) _ (mh_on MH.out hb2) Tryd.underlying26 rfl minfo ⟨rfl, Below.refl _ _⟩
          | 1, ho =>
            obtain rfl := Option.some.inj ho
            have b1 : a.tmps[1]?.getD undef = Value.slice (some ⟨b, off, none⟩) xs.length kk := hf.2 1 (by kernel_rfl)
            exact wp_value (Value.slice (some ⟨b, off, none⟩) xs.length kk) (by unfold execOp; go_simp) ⟨rfl, Below.refl _ _⟩
          | 2, ho =>
            obtain rfl := Option.some.inj ho
            have b6 : a.tmps[6]?.getD undef = .int .i64 (k : Int) := hf.2 6 (by kernel_rfl)
            exact wp_value (.int .i64 (k : Int)) (by unfold execOp; go_simp) ⟨rfl, Below.refl _ _⟩
          | 3, ho =>
            obtain rfl := Option.some.inj ho
            have e17 : a.tmps[17]?.getD undef = Value.slice (some ⟨b, off, none⟩) xs.length kk := hf.1 ⟨1, .data⟩ (by simp) rfl _ 17 rfl rfl
            have e18 : a.tmps[18]?.getD undef = .int .i64 (k : Int) := hf.1 ⟨2, .data⟩ (by simp) rfl _ 18 rfl rfl
            exact wp_value (Value.pointer (some ⟨b, off + k * 2, none⟩)) (by unfold execOp; go_simp) ⟨rfl, Below.refl _ _⟩
          | 4, ho =>
            obtain rfl := Option.some.inj ho
            have e19 : a.tmps[19]?.getD undef = Value.pointer (some ⟨b, off + k * 2, none⟩) := hf.1 ⟨3, .data⟩ (by simp) rfl _ 19 rfl rfl
            exact wp_load_mid 39 (.tmp 19) rfl b (off + k * 2) (eval_get e19 trivial) [.int .i64 (RS : Int), .int .i64 (CS : Int)] _ (range_on R1.out hb2) Tryd.underlying39 rfl rinfo2 ⟨rfl, Below.refl _ _⟩
          | 5, ho =>
            obtain rfl := Option.some.inj ho
            have e16 : a.tmps[16]?.getD undef = mat r c s := hf.1 ⟨0, .data⟩ (by simp) rfl _ 16 rfl rfl
            have e20 : a.tmps[20]?.getD undef = rect (RS : Int) (CS : Int) := hf.1 ⟨4, .data⟩ (by simp) rfl _ 20 rfl rfl
            exact wp_enter 70 #[mat r c s, rect (RS : Int) (CS : Int)] (.int .i64 v) _ (by unfold execOp; go_simp) (HV.out w2) (fun w' h => ⟨rfl, h⟩)
          | 6, ho =>
            obtain rfl := Option.some.inj ho
            have e21 : a.tmps[21]?.getD undef = .int .i64 v := hf.1 ⟨5, .data⟩ (by simp) rfl _ 21 rfl rfl
            exact wp_value (.bool false) (by unfold execOp; go_simp) ⟨rfl, Below.refl _ _⟩
          | q + 7, ho => simp at ho
        case en =>
          intro w2 hb2
          have HI2 := Lib.hid (HI.out.later hb2)
          clear hb2 HI MH hvb R1 hv0
          simp only [fill, Act.put]
          go_simp
          go_wp2_with fail
          go_loopw [7] (fun q wr => ∃ (l : Nat), l ≤ k ∧ q = .int .i64 (l : Int) ∧ Hid (∀ i (hi : i < xs.length), i < l → meetB xs[k] xs[i] = false) ∧ MI w wr r c s) (fun q _ => k - (intOf q).toNat)
          case atStart => exact ⟨0, Nat.zero_le _, rfl, fun i _ h => absurd h (by omega), HI2.out⟩
          case round =>
            obtain ⟨l, hl, rfl, hno, hinv⟩ := hrel
            clear HI2
            have HI := Lib.hid hinv
            have R1 : Hid (wr.rangeAt b (off + k * 2) [.int .i64 (RS : Int), .int .i64 (CS : Int)]) := fun j v hj => (hinv.below.cell (p := ⟨b, off + k * 2 + j, none⟩) hlt).trans (R0.out j v hj)
            by_cases hlk : l < k
            · obtain ⟨b', off', q, e, hlt', c0, c1⟩ := HC.out l (by omega)
              injection e with e1 e2 e3
              injection e1 with e1
              injection e1 with eb eo
              subst eb eo e3
              obtain ⟨RS2, CS2, hx, hy, j1, j2, j3, j4⟩ := HCV.out _ _ (HALL.out l (by omega) (by omega))
              have HMB : Hid (meetB xs[k] xs[l] = meetN RS CS RS2 CS2) := by
                unfold Hid meetB
                rw [HXY.out.1, HXY.out.2, hx, hy]
                rfl
              rw [hx] at c0
              rw [hy] at c1
              have R2 : Hid (wr.rangeAt b (off + l * 2) [.int .i64 (RS2 : Int), .int .i64 (CS2 : Int)]) := range_two ((hinv.below.cell (p := ⟨b, off + l * 2, none⟩) hlt).trans c0) ((hinv.below.cell (p := ⟨b, off + l * 2 + 1, none⟩) hlt).trans c1)
              obtain ⟨A, B, hm⟩ := meet_any RS CS RS2 CS2 k1 k2 k3 k4 j1 j2 j3 j4
              have HM := Lib.hid hm
              obtain ⟨t, ht⟩ : ∃ t, meetN RS CS RS2 CS2 = t := ⟨_, rfl⟩
              rw [ht] at HM HMB
              clear hm ht hinv c0 c1 hx hy e2
              have hll : l < xs.length := by omega
              go_wp2_with fail
              refine wp_region_one (fun | 0 => Value.slice (some ⟨b, off, none⟩) xs.length kk | 1 => .int .i64 (k : Int) | 2 => Value.pointer (some ⟨b, off + k * 2, none⟩) | 3 => rect RS CS | 4 => Value.slice (some ⟨b, off, none⟩) xs.length kk | 5 => .int .i64 (l : Int) | 6 => Value.pointer (some ⟨b, off + l * 2, none⟩) | 7 => rect RS2 CS2 | 8 => .tuple #[rect A B, .bool t] | 9 => .tuple #[rect A B, .bool t] | 10 => rect A B | 11 => .bool t | 14 => .bool t | _ => undef) 12 13 8 39 #[.int .i64 0, .int .i64 0] #[.int .i64 A, .int .i64 B] _ _
                (by kernel_rfl) (by kernel_rfl) rfl rfl rfl rfl rfl (by decide) ⟨_, List.mem_toArray.2 List.mem_cons_self, rfl, rfl⟩ rfl ?al ?st ?con ?en
              case al =>
                intro a w
                unfold execOp
                go_simp
              case st =>
                intro a w1 b old hf hp hg hsz
                refine wp_store_row 39 (.tmp 8) (.tmp 38) rfl b #[.int .i64 A, .int .i64 B] hp ?_ 39 old hg rinfo hsz (by simp [Value.oneCell']) ⟨rfl, rfl⟩
                exact hf.1 ⟨10, .data⟩ (by simp) rfl _ 38 rfl rfl (by decide) (by decide)
              case con =>
                intro i o ho n1 n2 a w1 hb hf
                match i, ho with
                | 0, ho =>
                  obtain rfl := Option.some.inj ho
                  have b1 : a.tmps[1]?.getD undef = Value.slice (some ⟨b, off, none⟩) xs.length kk := get_of (hf.2 1 (by kernel_rfl))
                  exact wp_value (Value.slice (some ⟨b, off, none⟩) xs.length kk) (by unfold execOp; go_simp) ⟨rfl, Below.refl _ _⟩
                | 1, ho =>
                  obtain rfl := Option.some.inj ho
                  have b6 : a.tmps[6]?.getD undef = .int .i64 (k : Int) := get_of (hf.2 6 (by kernel_rfl))
                  exact wp_value (.int .i64 (k : Int)) (by unfold execOp; go_simp) ⟨rfl, Below.refl _ _⟩
                | 2, ho =>
                  obtain rfl := Option.some.inj ho
                  have e29 : a.tmps[29]?.getD undef = Value.slice (some ⟨b, off, none⟩) xs.length kk := get_of (hf.1 ⟨0, .data⟩ (by simp) rfl _ 29 rfl rfl (by decide) (by decide))
                  have e30 : a.tmps[30]?.getD undef = .int .i64 (k : Int) := get_of (hf.1 ⟨1, .data⟩ (by simp) rfl _ 30 rfl rfl (by decide) (by decide))
                  exact wp_value (Value.pointer (some ⟨b, off + k * 2, none⟩)) (by unfold execOp; go_simp) ⟨rfl, Below.refl _ _⟩
                | 3, ho =>
                  obtain rfl := Option.some.inj ho
                  have e31 : a.tmps[31]?.getD undef = Value.pointer (some ⟨b, off + k * 2, none⟩) := get_of (hf.1 ⟨2, .data⟩ (by simp) rfl _ 31 rfl rfl (by decide) (by decide))
                  exact wp_load_mid 39 (.tmp 31) rfl b (off + k * 2) (eval_get e31 trivial) [.int .i64 (RS : Int), .int .i64 (CS : Int)] _ (range_on R1.out hb) Tryd.underlying39 rfl rinfo2 ⟨rfl, Below.refl _ _⟩
                | 4, ho =>
                  obtain rfl := Option.some.inj ho
                  have b1 : a.tmps[1]?.getD undef = Value.slice (some ⟨b, off, none⟩) xs.length kk := get_of (hf.2 1 (by kernel_rfl))
                  exact wp_value (Value.slice (some ⟨b, off, none⟩) xs.length kk) (by unfold execOp; go_simp) ⟨rfl, Below.refl _ _⟩
                | 5, ho =>
                  obtain rfl := Option.some.inj ho
                  have b7 : a.tmps[7]?.getD undef = .int .i64 (l : Int) := get_of (hf.2 7 (by kernel_rfl))
                  exact wp_value (.int .i64 (l : Int)) (by unfold execOp; go_simp) ⟨rfl, Below.refl _ _⟩
                | 6, ho =>
                  obtain rfl := Option.some.inj ho
                  have e33 : a.tmps[33]?.getD undef = Value.slice (some ⟨b, off, none⟩) xs.length kk := get_of (hf.1 ⟨4, .data⟩ (by simp) rfl _ 33 rfl rfl (by decide) (by decide))
                  have e34 : a.tmps[34]?.getD undef = .int .i64 (l : Int) := get_of (hf.1 ⟨5, .data⟩ (by simp) rfl _ 34 rfl rfl (by decide) (by decide))
                  exact wp_value (Value.pointer (some ⟨b, off + l * 2, none⟩)) (by unfold execOp; go_simp) ⟨rfl, Below.refl _ _⟩
                | 7, ho =>
                  obtain rfl := Option.some.inj ho
                  have e35 : a.tmps[35]?.getD undef = Value.pointer (some ⟨b, off + l * 2, none⟩) := get_of (hf.1 ⟨6, .data⟩ (by simp) rfl _ 35 rfl rfl (by decide) (by decide))
                  exact wp_load_mid 39 (.tmp 35) rfl b (off + l * 2) (eval_get e35 trivial) [.int .i64 (RS2 : Int), .int .i64 (CS2 : Int)] _ (range_on R2.out hb) Tryd.underlying39 rfl rinfo2 ⟨rfl, Below.refl _ _⟩
                | 8, ho =>
                  obtain rfl := Option.some.inj ho
                  have e32 : a.tmps[32]?.getD undef = rect RS CS := get_of (hf.1 ⟨3, .data⟩ (by simp) rfl _ 32 rfl rfl (by decide) (by decide))
                  have e36 : a.tmps[36]?.getD undef = rect RS2 CS2 := get_of (hf.1 ⟨7, .data⟩ (by simp) rfl _ 36 rfl rfl (by decide) (by decide))
                  exact wp_enter 85 #[rect RS CS, rect RS2 CS2] (.tuple #[rect A B, .bool t]) _ (by unfold execOp; go_simp) (HM.out w1) (fun w' h => ⟨rfl, h⟩)
                | 9, ho =>
                  obtain rfl := Option.some.inj ho
                  have e37 : a.tmps[37]?.getD undef = .tuple #[rect A B, .bool t] := get_of (hf.1 ⟨8, .data⟩ (by simp) rfl _ 37 rfl rfl (by decide) (by decide))
                  exact wp_value (.tuple #[rect A B, .bool t]) (by unfold execOp; go_simp) ⟨rfl, Below.refl _ _⟩
                | 10, ho =>
                  obtain rfl := Option.some.inj ho
                  have e28 : a.tmps[28]?.getD undef = .tuple #[rect A B, .bool t] := get_of (hf.1 ⟨9, .data⟩ (by simp) rfl _ 28 rfl rfl (by decide) (by decide))
                  exact wp_value (rect A B) (by unfold execOp; go_simp) ⟨rfl, Below.refl _ _⟩
                | 11, ho =>
                  obtain rfl := Option.some.inj ho
                  have e28 : a.tmps[28]?.getD undef = .tuple #[rect A B, .bool t] := get_of (hf.1 ⟨9, .data⟩ (by simp) rfl _ 28 rfl rfl (by decide) (by decide))
                  exact wp_value (.bool t) (by unfold execOp; go_simp) ⟨rfl, Below.refl _ _⟩
                | 12, ho => exact absurd rfl n1
                | 13, ho => exact absurd rfl n2
                | 14, ho =>
                  obtain rfl := Option.some.inj ho
                  have e39 : a.tmps[39]?.getD undef = .bool t := get_of (hf.1 ⟨11, .data⟩ (by simp) rfl _ 39 rfl rfl (by decide) (by decide))
                  exact wp_value (.bool t) (by unfold execOp; go_simp) ⟨rfl, Below.refl _ _⟩
                | n + 15, ho => simp at ho
              case en =>
                intro b1 w2 hb2 hle hcell
                have HI2 := Lib.hid (HI.out.later hb2)
                clear hb2 HI R1 R2 hcell hle
                simp only [fill, Act.put]
                go_simp
                cases t
                · have HNO : Hid (∀ i (hi : i < xs.length), i < l + 1 → meetB xs[k] xs[i] = false) := fun i hi hil => by
                    by_cases ei : i = l
                    · subst ei; exact HMB.out
                    · exact hno.out i hi (by omega)
                  clear hno
                  go_wp2_with fail
                  go_roundw
                  case rel => exact ⟨l + 1, by omega, by go_num, HNO, HI2.out⟩
                  case measure => simp [intOf]; omega
                · have HF : Hid (decide (∀ j (hj : j < xs.length), ∀ i (hi : i < xs.length), i < j → meetB xs[j] xs[i] = false) = false) := decide_eq_false fun h => by
                    have := h k hkl l (by omega) hlk
                    rw [HMB.out] at this
                    cases this
                  clear hno hapart harea
                  go_wp2_with fail
                  go_ret
                  exact ⟨by unfold partS; rw [HF.out, Bool.false_and, Bool.and_false, Bool.and_false]; rfl, HI2.out.below⟩
            · obtain rfl : l = k := by omega
              have HAP : Hid (∀ j (hj : j < xs.length), j < l + 1 → ∀ i (hi : i < xs.length), i < j → meetB xs[j] xs[i] = false) := fun j hj hjk i hi hij => by
                by_cases ej : j = l
                · subst ej; exact hno.out i hi hij
                · exact hapart.out j hj (by omega) i hi hij
              have HAR : Hid (m + pop8 RS * pop8 CS = areaTo xs (l + 1)) := by
                unfold Hid
                rw [areaTo_next xs l hkl, ← harea.out, HXY.out.1, HXY.out.2, Int.toNat_natCast, Int.toNat_natCast]
              have hle : pop8 RS * pop8 CS ≤ 64 := Nat.mul_le_mul (pop8_le RS) (pop8_le CS)
              have HAREA := Lib.hid (fun W => spec_area RS CS k1 k2 k3 k4 W)
              obtain ⟨cc0, cc1⟩ : wr.cell? ⟨b, off + l * 2, none⟩ = some (.int .i64 (RS : Int)) ∧ wr.cell? ⟨b, off + l * 2 + 1, none⟩ = some (.int .i64 (CS : Int)) := ⟨R1.out 0 _ rfl, R1.out 1 _ rfl⟩
              clear hno hapart harea hinv R1
              generalize pop8 RS * pop8 CS = ar at *
              go_wp2_with fail
              refine (HAREA.out _).mono ?_
              rintro e w2 ⟨rfl, hb2⟩
              have HI2 := Lib.hid (HI.out.later hb2)
              clear hb2 HI cc0 cc1
              go_wp2_with fail
              go_roundw
              case rel => exact ⟨l + 1, m + ar, by omega, by go_num, by go_num, by omega, HAR, HALL, HAP, HI2.out⟩
              case measure => simp [intOf]; omega
    · obtain rfl : k = xs.length := by omega
      have HA : Hid (decide (∀ j (hj : j < xs.length), 0 ≤ col xs[j].1 xs[j].2) = true) := decide_eq_true fun j hj => hall.out j hj hj
      have HB : Hid (decide (∀ j (hj : j < xs.length), ∀ i (hi : i < xs.length), i < j → meetB xs[j] xs[i] = false) = true) := decide_eq_true fun j hj i hi hij => hapart.out j hj hj i hi hij
      obtain ⟨q0, q1, q2⟩ := mh_c hinv.m
      have HF : Hid (partS col xs RC = ((m : Int) == (RC : Int))) := by
        unfold Hid partS
        rw [HA.out, HB.out, Bool.true_and, Bool.true_and, ← harea.out, Bool.eq_iff_iff, beq_iff_eq, beq_iff_eq]
        omega
      clear hall hapart harea hinv MH HA HB
      go_wp2_with fail
      refine (HVALID.out _).mono ?_
      rintro e w2 ⟨rfl, hb2⟩
      have hinv := HI.out.later hb2
      clear q0 q1 q2
      obtain ⟨q0, q1, q2⟩ := mh_c hinv.m
      have HI2 := Lib.hid hinv.below
      clear hb2 HI hinv
      cases bv
      · go_wp2_with fail
        go_ret
        exact ⟨rfl, HI2.out⟩
      · have hmul := HMUL.out (by trivial)
        go_wp2_with fail
        go_ret
        exact ⟨by rw [HF.out]; rfl, HI2.out⟩
end Go.Proofs.YtohkllmhknjkoaaDoor.PartS

