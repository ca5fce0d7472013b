/-
  Whether a protocol plays, of the reference.
-/
import Derived.Test.YtbccachkkflceaaDoorPlN
namespace Go.Proofs.YtbccachkkflceaaDoor.PlS
open Go.RowKit Go.Shelf Go.Proofs.YtbccachkkflceaaDoor.Plain Go.Proofs.YtbccachkkflceaaDoor.Base Go.Proofs.YtbccachkkflceaaDoor.Valid Go.Proofs.YtbccachkkflceaaDoor.Pat Go.Proofs.YtbccachkkflceaaDoor.Tree Go.Proofs.YtbccachkkflceaaDoor.Talk Go.Proofs.YtbccachkkflceaaDoor.PlM Go.Proofs.YtbccachkkflceaaDoor.PlN Go.Proofs.YtbccachkkflceaaDoor.Wid Go.Proofs.YtbccachkkflceaaDoor.Rect
set_option linter.unusedVariables false
set_option linter.unusedSimpArgs false

/-- what is asked of two numbers -/
def okP (t : T) (s : ByteArray) (b x y : Nat) : Bool := !onB s x || onB s y || (decide (gN (talkT t x y).2 < b) && (x.testBit (gN (talkT t x y).2) != y.testBit (gN (talkT t x y).2)))
def rowP (t : T) (s : ByteArray) (b x n : Nat) : Bool := (List.range n).all fun y => okP t s b x y
def specP (t : T) (s : ByteArray) (b n : Nat) : Bool := (List.range n).all fun x => rowP t s b x s.size
theorem row_next (t : T) (s : ByteArray) (b x n : Nat) : rowP t s b x (n + 1) = (rowP t s b x n && okP t s b x n) := by simp [rowP, List.range_succ]
theorem spec_next (t : T) (s : ByteArray) (b n : Nat) : specP t s b (n + 1) = (specP t s b n && rowP t s b n s.size) := by simp [specP, List.range_succ]
theorem row_bad {t : T} {s : ByteArray} {b x y : Nat} (hy : y < s.size) (h : okP t s b x y = false) : rowP t s b x s.size = false := by
  unfold rowP
  cases he : (List.range s.size).all fun y => okP t s b x y with
  | false => rfl
  | true => rw [List.all_eq_true] at he; have := he y (List.mem_range.2 hy); rw [h] at this; cases this
theorem spec_bad {t : T} {s : ByteArray} {b x : Nat} (hx : x < s.size) (h : rowP t s b x s.size = false) : specP t s b s.size = false := by
  unfold specP
  cases he : (List.range s.size).all fun x => rowP t s b x s.size with
  | false => rfl
  | true => rw [List.all_eq_true] at he; have := he x (List.mem_range.2 hx); rw [h] at this; cases this
/-- both sides agree -/
theorem plays_same (t : T) (s : ByteArray) (b : Nat) (hb : s.size = 2 ^ b) (h8 : s.size ≤ 8) : playB t (onesN s) (zerosN s) = specP t s b s.size := by
  have hk := play_iff t (onesN s) (zerosN s) (ones_lt s h8) (zeros_lt s h8)
  have hs : specP t s b s.size = true ↔ ∀ x y, (onesN s).testBit x = true → (zerosN s).testBit y = true → x.testBit (gN (talkT t x y).2) ≠ y.testBit (gN (talkT t x y).2) := by
    unfold specP rowP okP
    simp only [List.all_eq_true, List.mem_range]
    constructor
    · intro h x y hx hy
      unfold onesN at hx
      unfold zerosN at hy
      rw [setB_bit, Bool.and_eq_true, decide_eq_true_iff] at hx hy
      have := h x hx.1 y hy.1
      rw [hx.2] at this
      rw [Bool.not_eq_true'] at hy
      rw [hy.2] at this
      simp only [Bool.not_true, Bool.false_or, Bool.and_eq_true, bne_iff_ne] at this
      exact this.2
    · intro h x hx y hy
      cases hox : onB s x with
      | false => rfl
      | true =>
        cases hoy : onB s y with
        | true => rfl
        | false =>
          simp only [Bool.not_true, Bool.false_or, Bool.and_eq_true, decide_eq_true_iff, bne_iff_ne]
          have h1 := h x y (by unfold onesN; rw [setB_bit, decide_eq_true hx, hox]; rfl) (by unfold zerosN; rw [setB_bit, decide_eq_true hy, hoy]; rfl)
          refine ⟨?_, h1⟩
          apply Classical.byContradiction
          intro hge
          apply h1
          have hpw : 2 ^ b ≤ 2 ^ gN (talkT t x y).2 := Nat.pow_le_pow_right (by decide) (by omega)
          rw [Nat.testBit_lt_two_pow (by omega), Nat.testBit_lt_two_pow (by omega)]
  exact Bool.eq_iff_iff.2 (hk.trans hs.symm)

set_option maxHeartbeats 8000000 in
set_option maxRecDepth 100000 in
theorem spec_plays (t : T) (hw : wf t) (hl : (text t).length ≤ 2000) (s : ByteArray) (b : Nat) (hsb : s.size = 2 ^ b) (h8 : s.size ≤ 8) (hok : okB s = true) (hwd : widthV s = (b : Int)) (hb3 : b ≤ 3) (w : World) :
    Calls Tryd.prog 20 #[.string (str (text t)), .string s] w fun e w' => e = .returned (.bool (specP t s b s.size)) ∧ Below w.heap.size w w' := by
  have HTK := Lib.hid (fun (x y : Nat) (hx : x < 8) (hy : y < 8) => said_talk t hw hl x y hx hy)
  have HWD := Lib.hid (fun W => spec_width s (by unfold maxLen; omega) W)
  rw [hwd] at HWD
  have HBY := Lib.hid (bit_bytes s hok)
  obtain ⟨res, hres⟩ : ∃ res, specP t s b s.size = res := ⟨_, rfl⟩
  rw [hres]
  have HRS := Lib.hid hres
  clear hres hsb hwd hok hl hw
  generalize str (text t) = st at *
  go_enter Tryd.func20, Tryd.ntmps20
  go_wp2_with fail
  go_loopw [5] (fun i wr => ∃ x : Nat, x ≤ s.size ∧ i = .int .i64 (x : Int) ∧ Hid (specP t s b x = true) ∧ Hid (Below w.heap.size w wr)) (fun i _ => s.size - (intOf i).toNat)
  case atStart => exact ⟨0, Nat.zero_le _, rfl, rfl, Below.refl _ _⟩
  case round =>
    obtain ⟨x, hx, rfl, HP, HB⟩ := hrel
    by_cases hlt : x < s.size
    · go_wp2_with fail
      go_loopw [6] (fun i wr => ∃ y : Nat, y ≤ s.size ∧ i = .int .i64 (y : Int) ∧ Hid (rowP t s b x y = true) ∧ Hid (Below w.heap.size w wr)) (fun i _ => s.size - (intOf i).toNat)
      case atStart => exact ⟨0, Nat.zero_le _, rfl, rfl, HB⟩
      case round =>
        obtain ⟨y, hy, rfl, HR, HB⟩ := hrel
        by_cases hly : y < s.size
        · have bx := HBY.out x hlt
          have bY := HBY.out y hly
          have HN : Hid (okP t s b x y = true → rowP t s b x (y + 1) = true) := fun h => by rw [row_next, HR.out, h]; rfl
          have HF : Hid (okP t s b x y = false → res = false) := fun h => by rw [← HRS.out]; exact spec_bad hlt (row_bad hly h)
          have hO : okP t s b x y = (!onB s x || onB s y || (decide (gN (talkT t x y).2 < b) && (x.testBit (gN (talkT t x y).2) != y.testBit (gN (talkT t x y).2)))) := rfl
          cases hox : onB s x
          · rw [hox] at bx hO
            have hO2 : okP t s b x y = true := hO
            have HN2 := Lib.hid (HN.out hO2)
            have bx2 : (s[x]).toNat = 48 := bx
            clear bx bY hO hO2 HN HF
            go_wp2_with fail
            go_roundw
            case rel => exact ⟨y + 1, by omega, by go_num, HN2, HB⟩
            case measure => simp [intOf]; omega
          have bx2 : (s[x]).toNat = 49 := by rw [hox] at bx; exact bx
          cases hoy : onB s y
          · have by2 : (s[y]).toNat = 48 := by rw [hoy] at bY; exact bY
            rw [hox, hoy] at hO
            have HT := Lib.hid (HTK.out x y (by omega) (by omega))
            have hg3 := gN_lt (talkT t x y).2
            have hgi : gI (talkT t x y).2 = (gN (talkT t x y).2 : Int) := rfl
            rw [hgi] at HT
            have HIX := Lib.hid (fun (i : Nat) (hi : i < 8) W => l2In_any x i (by omega) hi W)
            have HIY := Lib.hid (fun (i : Nat) (hi : i < 8) W => l2In_any y i (by omega) hi W)
            generalize bitsS (talkT t x y).1 = bs at *
            generalize gN (talkT t x y).2 = g at *
            clear bx bY hgi
            by_cases hgb : b ≤ g
            · have hgbi : (b : Int) ≤ (g : Int) := by omega
              have HR2 := Lib.hid (HF.out (by rw [hO, decide_eq_false (by omega)]; rfl))
              clear hO HN HF
              go_wp2_with fail
              refine (HT.out _).mono ?_
              rintro e w2 ⟨rfl, hb2⟩
              have HB2 := Lib.hid (HB.out.trans (hb2.mono HB.out.size))
              clear hb2
              go_wp2_with fail
              refine (HWD.out _).mono ?_
              rintro e w3 ⟨rfl, rfl⟩
              go_wp2_with fail
              go_ret
              exact ⟨by rw [HR2.out]; rfl, HB2.out⟩
            · have hgbi : ¬ (b : Int) ≤ (g : Int) := by omega
              have hgl : g < 8 := by omega
              have HX := Lib.hid (HIX.out g hgl)
              have HY := Lib.hid (HIY.out g hgl)
              rw [decide_eq_true (by omega), Bool.true_and] at hO
              generalize x.testBit g = p at *
              generalize y.testBit g = q at *
              clear HIX HIY hgb
              cases p <;> cases q
              · have HR2 := Lib.hid (HF.out hO)
                clear hO HN HF
                go_wp2_with fail
                refine (HT.out _).mono ?_
                rintro e w2 ⟨rfl, hb2⟩
                have HB2 := Lib.hid (HB.out.trans (hb2.mono HB.out.size))
                clear hb2
                go_wp2_with fail
                refine (HWD.out _).mono ?_
                rintro e w3 ⟨rfl, rfl⟩
                go_wp2_with fail
                refine (HX.out _).mono ?_
                rintro e w3 ⟨rfl, rfl⟩
                go_wp2_with fail
                refine (HY.out _).mono ?_
                rintro e w3 ⟨rfl, rfl⟩
                go_wp2_with fail
                go_ret
                exact ⟨by rw [HR2.out]; rfl, HB2.out⟩
              · have HN2 := Lib.hid (HN.out hO)
                clear hO HN HF
                go_wp2_with fail
                refine (HT.out _).mono ?_
                rintro e w2 ⟨rfl, hb2⟩
                have HB2 := Lib.hid (HB.out.trans (hb2.mono HB.out.size))
                clear hb2
                go_wp2_with fail
                refine (HWD.out _).mono ?_
                rintro e w3 ⟨rfl, rfl⟩
                go_wp2_with fail
                refine (HX.out _).mono ?_
                rintro e w3 ⟨rfl, rfl⟩
                go_wp2_with fail
                refine (HY.out _).mono ?_
                rintro e w3 ⟨rfl, rfl⟩
                go_wp2_with fail
                go_roundw
                case rel => exact ⟨y + 1, by omega, by go_num, HN2, HB2⟩
                case measure => simp [intOf]; omega
              · have HN2 := Lib.hid (HN.out hO)
                clear hO HN HF
                go_wp2_with fail
                refine (HT.out _).mono ?_
                rintro e w2 ⟨rfl, hb2⟩
                have HB2 := Lib.hid (HB.out.trans (hb2.mono HB.out.size))
                clear hb2
                go_wp2_with fail
                refine (HWD.out _).mono ?_
                rintro e w3 ⟨rfl, rfl⟩
                go_wp2_with fail
                refine (HX.out _).mono ?_
                rintro e w3 ⟨rfl, rfl⟩
                go_wp2_with fail
                refine (HY.out _).mono ?_
                rintro e w3 ⟨rfl, rfl⟩
                go_wp2_with fail
                go_roundw
                case rel => exact ⟨y + 1, by omega, by go_num, HN2, HB2⟩
                case measure => simp [intOf]; omega
              · have HR2 := Lib.hid (HF.out hO)
                clear hO HN HF
                go_wp2_with fail
                refine (HT.out _).mono ?_
                rintro e w2 ⟨rfl, hb2⟩
                have HB2 := Lib.hid (HB.out.trans (hb2.mono HB.out.size))
                clear hb2
                go_wp2_with fail
                refine (HWD.out _).mono ?_
                rintro e w3 ⟨rfl, rfl⟩
                go_wp2_with fail
                refine (HX.out _).mono ?_
                rintro e w3 ⟨rfl, rfl⟩
                go_wp2_with fail
                refine (HY.out _).mono ?_
                rintro e w3 ⟨rfl, rfl⟩
                go_wp2_with fail
                go_ret
                exact ⟨by rw [HR2.out]; rfl, HB2.out⟩
          · have by2 : (s[y]).toNat = 49 := by rw [hoy] at bY; exact bY
            rw [hox, hoy] at hO
            have hO2 : okP t s b x y = true := hO
            have HN2 := Lib.hid (HN.out hO2)
            clear bx bY hO hO2 HN HF
            go_wp2_with fail
            go_roundw
            case rel => exact ⟨y + 1, by omega, by go_num, HN2, HB⟩
            case measure => simp [intOf]; omega
        · obtain rfl : y = s.size := by omega
          have HN2 : Hid (specP t s b (x + 1) = true) := by show _ = _; rw [spec_next, HP.out, HR.out]; rfl
          clear HR HP
          go_wp2_with fail
          go_roundw
          case rel => exact ⟨x + 1, by omega, by go_num, HN2, HB⟩
          case measure => simp [intOf]; omega
    · obtain rfl : x = s.size := by omega
      have HR2 : Hid (res = true) := by show _ = _; rw [← HRS.out]; exact HP.out
      clear HP
      go_wp2_with fail
      go_ret
      exact ⟨by rw [HR2.out]; rfl, HB.out⟩
end Go.Proofs.YtbccachkkflceaaDoor.PlS
