/-
  The reference's IsPartition.
-/
import Derived.Test.YtppmecpodleoiaaDoorCoverS
import Derived.Test.YtppmecpodleoiaaDoorMeet
import Derived.Test.YtppmecpodleoiaaDoorFree
namespace Go.Proofs.YtppmecpodleoiaaDoor.PartS
open Go.RowKit Go.Proofs.YtppmecpodleoiaaDoor.Plain Go.Proofs.YtppmecpodleoiaaDoor.Base Go.Proofs.YtppmecpodleoiaaDoor.Valid Go.Proofs.YtppmecpodleoiaaDoor.Law Go.Proofs.YtppmecpodleoiaaDoor.Entry Go.Proofs.YtppmecpodleoiaaDoor.Pat Go.Proofs.YtppmecpodleoiaaDoor.Rect Go.Proofs.YtppmecpodleoiaaDoor.Patch Go.Proofs.YtppmecpodleoiaaDoor.FreeL Go.Proofs.YtppmecpodleoiaaDoor.Board Go.Proofs.YtppmecpodleoiaaDoor.BoardM Go.Proofs.YtppmecpodleoiaaDoor.RValid Go.Proofs.YtppmecpodleoiaaDoor.Area Go.Proofs.YtppmecpodleoiaaDoor.Colour Go.Proofs.YtppmecpodleoiaaDoor.Rects Go.Proofs.YtppmecpodleoiaaDoor.CoverS Go.Proofs.YtppmecpodleoiaaDoor.Meet
open Go.Proofs.YtppmecpodleoiaaDoor.Free (fill wp_value wp_enter wp_load_row freeB wp_region_one get_of)
set_option linter.unusedVariables false

/-- two rectangles have an entry in common -/
def meetN (RS CS RS2 CS2 : Nat) : Bool := (RS &&& RS2 != 0) && (CS &&& CS2 != 0)
def meetB (a b : Int × Int) : Bool := meetN a.1.toNat a.2.toNat b.1.toNat b.2.toNat
theorem and_i64 (a b : Nat) (ha : a < 256) (hb : b < 256) : Go.bits .and .i64 (a : Int) (b : Int) = ((a &&& b : Nat) : Int) :=
  (bits_nat .i64 8 (by decide) (fun n h0 h1 => by rw [IntKind.wrap_i64]; omega) a b (by omega) (by omega)).1
theorem meet_any (RS CS RS2 CS2 : Nat) (h1 : 1 ≤ RS) (h2 : RS < 256) (h3 : 1 ≤ CS) (h4 : CS < 256) (h5 : 1 ≤ RS2) (h6 : RS2 < 256) (h7 : 1 ≤ CS2) (h8 : CS2 < 256) : ∃ A B : Int, ∀ W : World,
    Calls Tryd.prog 67 #[rect RS CS, rect RS2 CS2] W fun e w' => e = .returned (.tuple #[rect A B, .bool (meetN RS CS RS2 CS2)]) ∧ Below W.heap.size W w' := by
  have e1 : someB (RS : Int) (CS : Int) = true := (someB_iff _ _).2 ⟨⟨by omega, by omega⟩, by omega, by omega⟩
  have e2 : someB (RS2 : Int) (CS2 : Int) = true := (someB_iff _ _).2 ⟨⟨by omega, by omega⟩, by omega, by omega⟩
  have hm := fun W => spec_meetC RS CS RS2 CS2 e1 e2 W
  rw [and_i64 RS RS2 h2 h6, and_i64 CS CS2 h4 h8] at hm
  have e3 : someB ((RS &&& RS2 : Nat) : Int) ((CS &&& CS2 : Nat) : Int) = meetN RS CS RS2 CS2 := by
    have l1 : RS &&& RS2 ≤ RS := Nat.and_le_left
    have l2 : CS &&& CS2 ≤ CS := Nat.and_le_left
    unfold meetN
    rw [Bool.eq_iff_iff, someB_iff, Bool.and_eq_true, bne_iff_ne, bne_iff_ne]
    omega
  rw [e3] at hm
  cases h : meetN RS CS RS2 CS2
  · rw [h] at hm
    exact ⟨0, 0, hm⟩
  · rw [h] at hm
    exact ⟨_, _, hm⟩
/-- the area of the first k rectangles -/
def areaTo (xs : List (Int × Int)) : Nat → Nat
  | 0 => 0
  | k + 1 => areaTo xs k + (match xs[k]? with | some r => pop8 r.1.toNat * pop8 r.2.toNat | none => 0)
theorem areaTo_next (xs : List (Int × Int)) (k : Nat) (hk : k < xs.length) : areaTo xs (k + 1) = areaTo xs k + pop8 xs[k].1.toNat * pop8 xs[k].2.toNat := by
  rw [areaTo, List.getElem?_eq_getElem hk]
theorem areaTo_le (xs : List (Int × Int)) : ∀ k, areaTo xs k ≤ 64 * k
  | 0 => Nat.le_refl _
  | k + 1 => by
    have := areaTo_le xs k
    rw [areaTo]
    split
    · rename_i r _
      have h := Nat.mul_le_mul (pop8_le r.1.toNat) (pop8_le r.2.toNat)
      show areaTo xs k + pop8 r.1.toNat * pop8 r.2.toNat ≤ 64 * (k + 1)
      generalize pop8 r.1.toNat * pop8 r.2.toNat = q at *
      omega
    · omega
/-- what the reference finds -/
def partS (col : Int → Int → Int) (xs : List (Int × Int)) (n : Nat) : Bool :=
  decide (∀ j (hj : j < xs.length), 0 ≤ col xs[j].1 xs[j].2) && (decide (∀ j (hj : j < xs.length), ∀ i (hi : i < xs.length), i < j → meetB xs[j] xs[i] = false) && (areaTo xs xs.length == n))

set_option maxHeartbeats 4000000 in
set_option maxRecDepth 100000 in
theorem spec_part (r c : Int) (RC : Nat) (hprod : RC ≤ 64) (s : ByteArray) (hs : s.size ≤ maxLen) (bv : Bool) (hvalid : validB r c s = bv) (hmul : bv = true → wrap64 (r * c) = (RC : Int)) (col : Int → Int → Int)
    (hcol : ∀ (x y : Int) (W : World), Calls Tryd.prog 60 #[mat r c s, rect x y] W fun e w' => e = .returned (.int .i64 (col x y)) ∧ Below W.heap.size W w')
    (hcv : ∀ r c, 0 ≤ col r c → ∃ RS CS : Nat, r = (RS : Int) ∧ c = (CS : Int) ∧ 1 ≤ RS ∧ RS < 256 ∧ 1 ≤ CS ∧ CS < 256)
    (xs : List (Int × Int)) (hn : xs.length ≤ 1048576) (v : Value) (w : World) (hiv : RV w w.heap.size v xs) :
    Calls Tryd.prog 29 #[mat r c s, v] w fun e w' => e = .returned (.bool (bv && partS col xs RC)) ∧ Below w.heap.size w w' := by
  have HCOL := Lib.hid hcol
  have HCV := Lib.hid hcv
  have HVALID := Lib.hid (fun W => spec_valid r c s hs W)
  rw [hvalid] at HVALID
  clear hcol hcv hs hvalid
  have HC : Hid (∀ j (hj : j < xs.length), ∃ b off q, v = .slice (some ⟨b, off, none⟩) xs.length q ∧ b < w.heap.size ∧ w.cell? ⟨b, off + j * 2, none⟩ = some (.int .i64 xs[j].1) ∧ w.cell? ⟨b, off + j * 2 + 1, none⟩ = some (.int .i64 xs[j].2)) := fun j hj => by
    rcases hiv.2 with ⟨_, rfl⟩ | ⟨b, off, q, e, hlt, hc⟩
    · cases hj
    · exact ⟨b, off, q, e, hlt, hc j hj⟩
  obtain ⟨p, kk, rfl⟩ := hiv.slice
  clear hiv
  have HMUL := Lib.hid hmul
  clear hmul
  go_enter Tryd.func29, Tryd.ntmps29
  go_wp2_with fail
  have HI1 : Hid (MI w (w.alloc (.cells #[.int .i64 r, .int .i64 c, .string s] 23)) r c s) := ⟨heap_alloc_new w _, (Below.refl w.heap.size w).alloc (Nat.le_refl _) _⟩
  generalize w.alloc (.cells #[.int .i64 r, .int .i64 c, .string s] 23) = W0 at *
  go_loopw [5, 6] (fun t i wr => ∃ (k m : Nat), k ≤ xs.length ∧ i = .int .i64 (k : Int) ∧ t = .int .i64 (m : Int) ∧ m ≤ 64 * k ∧ Hid (m = areaTo xs k) ∧ Hid (∀ j (hj : j < xs.length), j < k → 0 ≤ col xs[j].1 xs[j].2) ∧ Hid (∀ j (hj : j < xs.length), j < k → ∀ i (hi : i < xs.length), i < j → meetB xs[j] xs[i] = false) ∧ MI w wr r c s) (fun _ i _ => xs.length - (intOf i).toNat)
  case atStart => exact ⟨0, 0, Nat.zero_le _, rfl, rfl, by omega, rfl, fun j _ h => absurd h (by omega), fun j _ h => absurd h (by omega), HI1.out⟩
  case round =>
    obtain ⟨k, m, hk, rfl, rfl, hm, harea, hall, hapart, hinv⟩ := hrel
    clear HI1
    have HI := Lib.hid hinv
    have MH := Lib.hid hinv.m
    by_cases hkl : k < xs.length
    · obtain ⟨b, off, q, e, hlt, c0, c1⟩ := HC.out k hkl
      injection e with e1 e2 e3
      subst e1 e3
      have HX : Hid (∃ x y, xs[k].1 = x ∧ xs[k].2 = y) := ⟨_, _, rfl, rfl⟩
      obtain ⟨x, y, hx, hy⟩ := HX.out
      have HXY : Hid (xs[k].1 = x ∧ xs[k].2 = y) := ⟨hx, hy⟩
      rw [hx] at c0
      rw [hy] at c1
      have R0 : Hid (w.rangeAt b (off + k * 2) [.int .i64 x, .int .i64 y]) := range_two c0 c1
      have R1 : Hid (wr.rangeAt b (off + k * 2) [.int .i64 x, .int .i64 y]) := range_two ((hinv.below.cell (p := ⟨b, off + k * 2, none⟩) hlt).trans c0) ((hinv.below.cell (p := ⟨b, off + k * 2 + 1, none⟩) hlt).trans c1)
      clear hinv HX hx hy c0 c1 e2
      obtain ⟨v, hv⟩ : ∃ v, col x y = v := ⟨_, rfl⟩
      have HCX := Lib.hid hv
      have HV := Lib.hid (fun W => HCOL.out x y W)
      rw [hv] at HV
      clear hv
      by_cases hvb : v < 0
      · have HF : Hid (decide (∀ j (hj : j < xs.length), 0 ≤ col xs[j].1 xs[j].2) = false) := decide_eq_false fun h => by
          have := h k hkl
          rw [HXY.out.1, HXY.out.2, HCX.out] at this
          omega
        clear hall hapart harea
        go_wp2_with fail
        refine wp_region_below (fun | 0 => mat r c s | 1 => Value.slice (some ⟨b, off, none⟩) xs.length kk | 2 => .int .i64 (k : Int) | 3 => Value.pointer (some ⟨b, off + k * 2, none⟩) | 4 => rect x y | 5 => .int .i64 v | 6 => .bool true | _ => undef) (by kernel_rfl) (by kernel_rfl) rfl ?con2 ?en2
        case con2 =>
          intro i o ho a w2 hb2 hf
          match i, ho with
          | 0, ho =>
            obtain rfl := Option.some.inj ho
            have b2 : a.tmps[2]?.getD undef = .pointer (some ⟨w.heap.size, 0, none⟩) := hf.2 2 (by kernel_rfl)
            exact wp_load_row 23 (.tmp 2) rfl w.heap.size (eval_get b2 trivial) 23 _ (0, 0) _ (mh_on MH.out hb2) Tryd.underlying23 rfl minfo ⟨rfl, Below.refl _ _⟩
          | 1, ho =>
            obtain rfl := Option.some.inj ho
            have b1 : a.tmps[1]?.getD undef = Value.slice (some ⟨b, off, none⟩) xs.length kk := hf.2 1 (by kernel_rfl)
            exact wp_value (Value.slice (some ⟨b, off, none⟩) xs.length kk) (by unfold execOp; go_simp) ⟨rfl, Below.refl _ _⟩
          | 2, ho =>
            obtain rfl := Option.some.inj ho
            have b6 : a.tmps[6]?.getD undef = .int .i64 (k : Int) := hf.2 6 (by kernel_rfl)
            exact wp_value (.int .i64 (k : Int)) (by unfold execOp; go_simp) ⟨rfl, Below.refl _ _⟩
          | 3, ho =>
            obtain rfl := Option.some.inj ho
            have e17 : a.tmps[17]?.getD undef = Value.slice (some ⟨b, off, none⟩) xs.length kk := hf.1 ⟨1, .data⟩ (by simp) rfl _ 17 rfl rfl
            have e18 : a.tmps[18]?.getD undef = .int .i64 (k : Int) := hf.1 ⟨2, .data⟩ (by simp) rfl _ 18 rfl rfl
            exact wp_value (Value.pointer (some ⟨b, off + k * 2, none⟩)) (by unfold execOp; go_simp) ⟨rfl, Below.refl _ _⟩
          | 4, ho =>
            obtain rfl := Option.some.inj ho
            have e19 : a.tmps[19]?.getD undef = Value.pointer (some ⟨b, off + k * 2, none⟩) := hf.1 ⟨3, .data⟩ (by simp) rfl _ 19 rfl rfl
            exact wp_load_mid 39 (.tmp 19) rfl b (off + k * 2) (eval_get e19 trivial) [.int .i64 x, .int .i64 y] _ (range_on R1.out hb2) Tryd.underlying39 rfl rinfo2 ⟨rfl, Below.refl _ _⟩
          | 5, ho =>
            obtain rfl := Option.some.inj ho
            have e16 : a.tmps[16]?.getD undef = mat r c s := hf.1 ⟨0, .data⟩ (by simp) rfl _ 16 rfl rfl
            have e20 : a.tmps[20]?.getD undef = rect x y := hf.1 ⟨4, .data⟩ (by simp) rfl _ 20 rfl rfl
            exact wp_enter 60 #[mat r c s, rect x y] (.int .i64 v) _ (by unfold execOp; go_simp) (HV.out w2) (fun w' h => ⟨rfl, h⟩)
          | 6, ho =>
            obtain rfl := Option.some.inj ho
            have e21 : a.tmps[21]?.getD undef = .int .i64 v := hf.1 ⟨5, .data⟩ (by simp) rfl _ 21 rfl rfl
            exact wp_value (.bool true) (by unfold execOp; go_simp) ⟨rfl, Below.refl _ _⟩
          | q + 7, ho => simp at ho
        case en2 =>
          intro w2 hb2
          have HI2 := Lib.hid (HI.out.later hb2)
          clear hb2 HI MH hvb
          simp only [fill, Act.put]
          go_simp
          go_wp2_with fail
          go_ret
          exact ⟨by unfold partS; rw [HF.out, Bool.false_and, Bool.and_false]; rfl, HI2.out.below⟩
      · have hv0 : 0 ≤ v := by omega
        have HALL : Hid (∀ j (hj : j < xs.length), j < k + 1 → 0 ≤ col xs[j].1 xs[j].2) := fun j hj hjk => by
          by_cases ej : j = k
          · subst ej; rw [HXY.out.1, HXY.out.2, HCX.out]; exact hv0
          · exact hall.out j hj (by omega)
        obtain ⟨RS, CS, ex, ey, k1, k2, k3, k4⟩ := HCV.out x y (by rw [HCX.out]; exact hv0)
        subst ex ey
        clear hall
        go_wp2_with fail
        refine wp_region_below (fun | 0 => mat r c s | 1 => Value.slice (some ⟨b, off, none⟩) xs.length kk | 2 => .int .i64 (k : Int) | 3 => Value.pointer (some ⟨b, off + k * 2, none⟩) | 4 => rect (RS : Int) (CS : Int) | 5 => .int .i64 v | 6 => .bool false | _ => undef) (by kernel_rfl) (by kernel_rfl) rfl ?con ?en
        case con =>
          intro i o ho a w2 hb2 hf
          match i, ho with
          | 0, ho =>
            obtain rfl := Option.some.inj ho
            have b2 : a.tmps[2]?.getD undef = .pointer (some ⟨w.heap.size, 0, none⟩) := hf.2 2 (by kernel_rfl)
            exact wp_load_row 23 (.tmp 2) rfl w.heap.size (eval_get b2 trivial) 23 _ (0, 0) _ (mh_on MH.out hb2) Tryd.underlying23 rfl minfo ⟨rfl, Below.refl _ _⟩
          | 1, ho =>
            obtain rfl := Option.some.inj ho
            have b1 : a.tmps[1]?.getD undef = Value.slice (some ⟨b, off, none⟩) xs.length kk := hf.2 1 (by kernel_rfl)
            exact wp_value (Value.slice (some ⟨b, off, none⟩) xs.length kk) (by unfold execOp; go_simp) ⟨rfl, Below.refl _ _⟩
          | 2, ho =>
            obtain rfl := Option.some.inj ho
            have b6 : a.tmps[6]?.getD undef = .int .i64 (k : Int) := hf.2 6 (by kernel_rfl)
            exact wp_value (.int .i64 (k : Int)) (by unfold execOp; go_simp) ⟨rfl, Below.refl _ _⟩
          | 3, ho =>
            obtain rfl := Option.some.inj ho
            have e17 : a.tmps[17]?.getD undef = Value.slice (some ⟨b, off, none⟩) xs.length kk := hf.1 ⟨1, .data⟩ (by simp) rfl _ 17 rfl rfl
            have e18 : a.tmps[18]?.getD undef = .int .i64 (k : Int) := hf.1 ⟨2, .data⟩ (by simp) rfl _ 18 rfl rfl
            exact wp_value (Value.pointer (some ⟨b, off + k * 2, none⟩)) (by unfold execOp; go_simp) ⟨rfl, Below.refl _ _⟩
          | 4, ho =>
            obtain rfl := Option.some.inj ho
            have e19 : a.tmps[19]?.getD undef = Value.pointer (some ⟨b, off + k * 2, none⟩) := hf.1 ⟨3, .data⟩ (by simp) rfl _ 19 rfl rfl
            exact wp_load_mid 39 (.tmp 19) rfl b (off + k * 2) (eval_get e19 trivial) [.int .i64 (RS : Int), .int .i64 (CS : Int)] _ (range_on R1.out hb2) Tryd.underlying39 rfl rinfo2 ⟨rfl, Below.refl _ _⟩
          | 5, ho =>
            obtain rfl := Option.some.inj ho
            have e16 : a.tmps[16]?.getD undef = mat r c s := hf.1 ⟨0, .data⟩ (by simp) rfl _ 16 rfl rfl
            have e20 : a.tmps[20]?.getD undef = rect (RS : Int) (CS : Int) := hf.1 ⟨4, .data⟩ (by simp) rfl _ 20 rfl rfl
            exact wp_enter 60 #[mat r c s, rect (RS : Int) (CS : Int)] (.int .i64 v) _ (by unfold execOp; go_simp) (HV.out w2) (fun w' h => ⟨rfl, h⟩)
          | 6, ho =>
            obtain rfl := Option.some.inj ho
            have e21 : a.tmps[21]?.getD undef = .int .i64 v := hf.1 ⟨5, .data⟩ (by simp) rfl _ 21 rfl rfl
            exact wp_value (.bool false) (by unfold execOp; go_simp) ⟨rfl, Below.refl _ _⟩
          | q + 7, ho => simp at ho
        case en =>
          intro w2 hb2
          have HI2 := Lib.hid (HI.out.later hb2)
          clear hb2 HI MH hvb R1 hv0
          simp only [fill, Act.put]
          go_simp
          go_wp2_with fail
          go_loopw [7] (fun q wr => ∃ (l : Nat), l ≤ k ∧ q = .int .i64 (l : Int) ∧ Hid (∀ i (hi : i < xs.length), i < l → meetB xs[k] xs[i] = false) ∧ MI w wr r c s) (fun q _ => k - (intOf q).toNat)
          case atStart => exact ⟨0, Nat.zero_le _, rfl, fun i _ h => absurd h (by omega), HI2.out⟩
          case round =>
            obtain ⟨l, hl, rfl, hno, hinv⟩ := hrel
            clear HI2
            have HI := Lib.hid hinv
            have R1 : Hid (wr.rangeAt b (off + k * 2) [.int .i64 (RS : Int), .int .i64 (CS : Int)]) := fun j v hj => (hinv.below.cell (p := ⟨b, off + k * 2 + j, none⟩) hlt).trans (R0.out j v hj)
            by_cases hlk : l < k
            · obtain ⟨b', off', q, e, hlt', c0, c1⟩ := HC.out l (by omega)
              injection e with e1 e2 e3
              injection e1 with e1
              injection e1 with eb eo
              subst eb eo e3
              obtain ⟨RS2, CS2, hx, hy, j1, j2, j3, j4⟩ := HCV.out _ _ (HALL.out l (by omega) (by omega))
              have HMB : Hid (meetB xs[k] xs[l] = meetN RS CS RS2 CS2) := by
                unfold Hid meetB
                rw [HXY.out.1, HXY.out.2, hx, hy]
                rfl
              rw [hx] at c0
              rw [hy] at c1
              have R2 : Hid (wr.rangeAt b (off + l * 2) [.int .i64 (RS2 : Int), .int .i64 (CS2 : Int)]) := range_two ((hinv.below.cell (p := ⟨b, off + l * 2, none⟩) hlt).trans c0) ((hinv.below.cell (p := ⟨b, off + l * 2 + 1, none⟩) hlt).trans c1)
              obtain ⟨A, B, hm⟩ := meet_any RS CS RS2 CS2 k1 k2 k3 k4 j1 j2 j3 j4
              have HM := Lib.hid hm
              obtain ⟨t, ht⟩ : ∃ t, meetN RS CS RS2 CS2 = t := ⟨_, rfl⟩
              rw [ht] at HM HMB
              clear hm ht hinv c0 c1 hx hy e2
              have hll : l < xs.length := by omega
              go_wp2_with fail
              refine wp_region_one (fun | 0 => Value.slice (some ⟨b, off, none⟩) xs.length kk | 1 => .int .i64 (k : Int) | 2 => Value.pointer (some ⟨b, off + k * 2, none⟩) | 3 => rect RS CS | 4 => Value.slice (some ⟨b, off, none⟩) xs.length kk | 5 => .int .i64 (l : Int) | 6 => Value.pointer (some ⟨b, off + l * 2, none⟩) | 7 => rect RS2 CS2 | 8 => .tuple #[rect A B, .bool t] | 9 => .tuple #[rect A B, .bool t] | 10 => rect A B | 11 => .bool t | 14 => .bool t | _ => undef) 12 13 8 39 #[.int .i64 0, .int .i64 0] #[.int .i64 A, .int .i64 B] _ _
                (by kernel_rfl) (by kernel_rfl) rfl rfl rfl rfl rfl (by decide) ⟨_, List.mem_toArray.2 List.mem_cons_self, rfl, rfl⟩ rfl ?al ?st ?con ?en
              case al =>
                intro a w
                unfold execOp
                go_simp
              case st =>
                intro a w1 b old hf hp hg hsz
                refine wp_store_row 39 (.tmp 8) (.tmp 38) rfl b #[.int .i64 A, .int .i64 B] hp ?_ 39 old hg rinfo hsz (by simp [Value.oneCell']) ⟨rfl, rfl⟩
                exact hf.1 ⟨10, .data⟩ (by simp) rfl _ 38 rfl rfl (by decide) (by decide)
              case con =>
                intro i o ho n1 n2 a w1 hb hf
                match i, ho with
                | 0, ho =>
                  obtain rfl := Option.some.inj ho
                  have b1 : a.tmps[1]?.getD undef = Value.slice (some ⟨b, off, none⟩) xs.length kk := get_of (hf.2 1 (by kernel_rfl))
                  exact wp_value (Value.slice (some ⟨b, off, none⟩) xs.length kk) (by unfold execOp; go_simp) ⟨rfl, Below.refl _ _⟩
                | 1, ho =>
                  obtain rfl := Option.some.inj ho
                  have b6 : a.tmps[6]?.getD undef = .int .i64 (k : Int) := get_of (hf.2 6 (by kernel_rfl))
                  exact wp_value (.int .i64 (k : Int)) (by unfold execOp; go_simp) ⟨rfl, Below.refl _ _⟩
                | 2, ho =>
                  obtain rfl := Option.some.inj ho
                  have e29 : a.tmps[29]?.getD undef = Value.slice (some ⟨b, off, none⟩) xs.length kk := get_of (hf.1 ⟨0, .data⟩ (by simp) rfl _ 29 rfl rfl (by decide) (by decide))
                  have e30 : a.tmps[30]?.getD undef = .int .i64 (k : Int) := get_of (hf.1 ⟨1, .data⟩ (by simp) rfl _ 30 rfl rfl (by decide) (by decide))
                  exact wp_value (Value.pointer (some ⟨b, off + k * 2, none⟩)) (by unfold execOp; go_simp) ⟨rfl, Below.refl _ _⟩
                | 3, ho =>
                  obtain rfl := Option.some.inj ho
                  have e31 : a.tmps[31]?.getD undef = Value.pointer (some ⟨b, off + k * 2, none⟩) := get_of (hf.1 ⟨2, .data⟩ (by simp) rfl _ 31 rfl rfl (by decide) (by decide))
                  exact wp_load_mid 39 (.tmp 31) rfl b (off + k * 2) (eval_get e31 trivial) [.int .i64 (RS : Int), .int .i64 (CS : Int)] _ (range_on R1.out hb) Tryd.underlying39 rfl rinfo2 ⟨rfl, Below.refl _ _⟩
                | 4, ho =>
                  obtain rfl := Option.some.inj ho
                  have b1 : a.tmps[1]?.getD undef = Value.slice (some ⟨b, off, none⟩) xs.length kk := get_of (hf.2 1 (by kernel_rfl))
                  exact wp_value (Value.slice (some ⟨b, off, none⟩) xs.length kk) (by unfold execOp; go_simp) ⟨rfl, Below.refl _ _⟩
                | 5, ho =>
                  obtain rfl := Option.some.inj ho
                  have b7 : a.tmps[7]?.getD undef = .int .i64 (l : Int) := get_of (hf.2 7 (by kernel_rfl))
                  exact wp_value (.int .i64 (l : Int)) (by unfold execOp; go_simp) ⟨rfl, Below.refl _ _⟩
                | 6, ho =>
                  obtain rfl := Option.some.inj ho
                  have e33 : a.tmps[33]?.getD undef = Value.slice (some ⟨b, off, none⟩) xs.length kk := get_of (hf.1 ⟨4, .data⟩ (by simp) rfl _ 33 rfl rfl (by decide) (by decide))
                  have e34 : a.tmps[34]?.getD undef = .int .i64 (l : Int) := get_of (hf.1 ⟨5, .data⟩ (by simp) rfl _ 34 rfl rfl (by decide) (by decide))
                  exact wp_value (Value.pointer (some ⟨b, off + l * 2, none⟩)) (by unfold execOp; go_simp) ⟨rfl, Below.refl _ _⟩
                | 7, ho =>
                  obtain rfl := Option.some.inj ho
                  have e35 : a.tmps[35]?.getD undef = Value.pointer (some ⟨b, off + l * 2, none⟩) := get_of (hf.1 ⟨6, .data⟩ (by simp) rfl _ 35 rfl rfl (by decide) (by decide))
                  exact wp_load_mid 39 (.tmp 35) rfl b (off + l * 2) (eval_get e35 trivial) [.int .i64 (RS2 : Int), .int .i64 (CS2 : Int)] _ (range_on R2.out hb) Tryd.underlying39 rfl rinfo2 ⟨rfl, Below.refl _ _⟩
                | 8, ho =>
                  obtain rfl := Option.some.inj ho
                  have e32 : a.tmps[32]?.getD undef = rect RS CS := get_of (hf.1 ⟨3, .data⟩ (by simp) rfl _ 32 rfl rfl (by decide) (by decide))
                  have e36 : a.tmps[36]?.getD undef = rect RS2 CS2 := get_of (hf.1 ⟨7, .data⟩ (by simp) rfl _ 36 rfl rfl (by decide) (by decide))
                  exact wp_enter 67 #[rect RS CS, rect RS2 CS2] (.tuple #[rect A B, .bool t]) _ (by unfold execOp; go_simp) (HM.out w1) (fun w' h => ⟨rfl, h⟩)
                | 9, ho =>
                  obtain rfl := Option.some.inj ho
                  have e37 : a.tmps[37]?.getD undef = .tuple #[rect A B, .bool t] := get_of (hf.1 ⟨8, .data⟩ (by simp) rfl _ 37 rfl rfl (by decide) (by decide))
                  exact wp_value (.tuple #[rect A B, .bool t]) (by unfold execOp; go_simp) ⟨rfl, Below.refl _ _⟩
                | 10, ho =>
                  obtain rfl := Option.some.inj ho
                  have e28 : a.tmps[28]?.getD undef = .tuple #[rect A B, .bool t] := get_of (hf.1 ⟨9, .data⟩ (by simp) rfl _ 28 rfl rfl (by decide) (by decide))
                  exact wp_value (rect A B) (by unfold execOp; go_simp) ⟨rfl, Below.refl _ _⟩
                | 11, ho =>
                  obtain rfl := Option.some.inj ho
                  have e28 : a.tmps[28]?.getD undef = .tuple #[rect A B, .bool t] := get_of (hf.1 ⟨9, .data⟩ (by simp) rfl _ 28 rfl rfl (by decide) (by decide))
                  exact wp_value (.bool t) (by unfold execOp; go_simp) ⟨rfl, Below.refl _ _⟩
                | 12, ho => exact absurd rfl n1
                | 13, ho => exact absurd rfl n2
                | 14, ho =>
                  obtain rfl := Option.some.inj ho
                  have e39 : a.tmps[39]?.getD undef = .bool t := get_of (hf.1 ⟨11, .data⟩ (by simp) rfl _ 39 rfl rfl (by decide) (by decide))
                  exact wp_value (.bool t) (by unfold execOp; go_simp) ⟨rfl, Below.refl _ _⟩
                | n + 15, ho => simp at ho
              case en =>
                intro b1 w2 hb2 hle hcell
                have HI2 := Lib.hid (HI.out.later hb2)
                clear hb2 HI R1 R2 hcell hle
                simp only [fill, Act.put]
                go_simp
                cases t
                · have HNO : Hid (∀ i (hi : i < xs.length), i < l + 1 → meetB xs[k] xs[i] = false) := fun i hi hil => by
                    by_cases ei : i = l
                    · subst ei; exact HMB.out
                    · exact hno.out i hi (by omega)
                  clear hno
                  go_wp2_with fail
                  go_roundw
                  case rel => exact ⟨l + 1, by omega, by go_num, HNO, HI2.out⟩
                  case measure => simp [intOf]; omega
                · have HF : Hid (decide (∀ j (hj : j < xs.length), ∀ i (hi : i < xs.length), i < j → meetB xs[j] xs[i] = false) = false) := decide_eq_false fun h => by
                    have := h k hkl l (by omega) hlk
                    rw [HMB.out] at this
                    cases this
                  clear hno hapart harea
                  go_wp2_with fail
                  go_ret
                  exact ⟨by unfold partS; rw [HF.out, Bool.false_and, Bool.and_false, Bool.and_false]; rfl, HI2.out.below⟩
            · obtain rfl : l = k := by omega
              have HAP : Hid (∀ j (hj : j < xs.length), j < l + 1 → ∀ i (hi : i < xs.length), i < j → meetB xs[j] xs[i] = false) := fun j hj hjk i hi hij => by
                by_cases ej : j = l
                · subst ej; exact hno.out i hi hij
                · exact hapart.out j hj (by omega) i hi hij
              have HAR : Hid (m + pop8 RS * pop8 CS = areaTo xs (l + 1)) := by
                unfold Hid
                rw [areaTo_next xs l hkl, ← harea.out, HXY.out.1, HXY.out.2, Int.toNat_natCast, Int.toNat_natCast]
              have hle : pop8 RS * pop8 CS ≤ 64 := Nat.mul_le_mul (pop8_le RS) (pop8_le CS)
              have HAREA := Lib.hid (fun W => spec_area RS CS k1 k2 k3 k4 W)
              obtain ⟨cc0, cc1⟩ : wr.cell? ⟨b, off + l * 2, none⟩ = some (.int .i64 (RS : Int)) ∧ wr.cell? ⟨b, off + l * 2 + 1, none⟩ = some (.int .i64 (CS : Int)) := ⟨R1.out 0 _ rfl, R1.out 1 _ rfl⟩
              clear hno hapart harea hinv R1
              generalize pop8 RS * pop8 CS = ar at *
              go_wp2_with fail
              refine (HAREA.out _).mono ?_
              rintro e w2 ⟨rfl, hb2⟩
              have HI2 := Lib.hid (HI.out.later hb2)
              clear hb2 HI cc0 cc1
              go_wp2_with fail
              go_roundw
              case rel => exact ⟨l + 1, m + ar, by omega, by go_num, by go_num, by omega, HAR, HALL, HAP, HI2.out⟩
              case measure => simp [intOf]; omega
    · obtain rfl : k = xs.length := by omega
      have HA : Hid (decide (∀ j (hj : j < xs.length), 0 ≤ col xs[j].1 xs[j].2) = true) := decide_eq_true fun j hj => hall.out j hj hj
      have HB : Hid (decide (∀ j (hj : j < xs.length), ∀ i (hi : i < xs.length), i < j → meetB xs[j] xs[i] = false) = true) := decide_eq_true fun j hj i hi hij => hapart.out j hj hj i hi hij
      obtain ⟨q0, q1, q2⟩ := mh_c hinv.m
      have HF : Hid (partS col xs RC = ((m : Int) == (RC : Int))) := by
        unfold Hid partS
        rw [HA.out, HB.out, Bool.true_and, Bool.true_and, ← harea.out, Bool.eq_iff_iff, beq_iff_eq, beq_iff_eq]
        omega
      clear hall hapart harea hinv MH HA HB
      go_wp2_with fail
      refine (HVALID.out _).mono ?_
      rintro e w2 ⟨rfl, hb2⟩
      have hinv := HI.out.later hb2
      clear q0 q1 q2
      obtain ⟨q0, q1, q2⟩ := mh_c hinv.m
      have HI2 := Lib.hid hinv.below
      clear hb2 HI hinv
      cases bv
      · go_wp2_with fail
        go_ret
        exact ⟨rfl, HI2.out⟩
      · have hmul := HMUL.out (by trivial)
        go_wp2_with fail
        go_ret
        exact ⟨by rw [HF.out]; rfl, HI2.out⟩
end Go.Proofs.YtppmecpodleoiaaDoor.PartS
