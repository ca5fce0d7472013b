/-
  Texts of one seat, joined: Valid2, Wid.
-/
import Derived.Test.YtbccachkkflceaaGreatDoorJn1
import Derived.Test.YtbccachkkflceaaGreatDoorJn31
import Derived.Test.YtbccachkkflceaaGreatDoorJn6
import Derived.Shelf.Strings.SlTrimAscii
/-
  When the program calls a matrix valid: the contract of impl.MatrixValid. strings.Trim by the library's contract.
-/
namespace Go.Proofs.YtbccachkkflceaaGreatDoor.Valid
open Go.RowKit Go.Proofs.YtbccachkkflceaaGreatDoor.Plain Go.Proofs.YtbccachkkflceaaGreatDoor.Base
set_option linter.unusedVariables false

theorem has_bit (b : UInt8) : ([48, 49] : List UInt8).contains b = isBit b := by
  unfold isBit
  rw [Bool.eq_iff_iff]
  simp
theorem drop_all {l : List UInt8} {p : UInt8 → Bool} : l.dropWhile p = [] ↔ l.all p = true := by
  induction l with
  | nil => simp
  | cons a l ih =>
    by_cases h : p a = true
    · rw [List.dropWhile_cons_of_pos h, ih, List.all_cons, h, Bool.true_and]
    · rw [List.dropWhile_cons_of_neg h]
      simp [h]
theorem trim_none (s : ByteArray) : (Lib.trimS s.data.toList [48, 49] = []) ↔ okB s = true := by
  unfold Lib.trimS Lib.trimLeftS Lib.trimRightS okB
  rw [show (fun x => ([48, 49] : List UInt8).contains x) = isBit from funext has_bit]
  constructor
  · intro h
    rw [drop_all, List.all_reverse] at h
    by_cases h2 : (s.data.toList.reverse.dropWhile isBit) = []
    · rw [drop_all, List.all_reverse] at h2; exact h2
    · exfalso
      have h3 := List.head_dropWhile_not (p := isBit) h2
      rw [List.all_eq_true] at h
      have h4 := h _ (List.head_mem h2)
      rw [h3] at h4
      cases h4
  · intro h
    have h2 : s.data.toList.reverse.dropWhile isBit = [] := by rw [drop_all, List.all_reverse]; exact h
    rw [h2]
    rfl

theorem toList_str (l : List UInt8) : (str l).toList = l := by
  rw [Lib.toList_data]; rfl
theorem trim_test (s : ByteArray) (x : Int) : (str (Lib.trimS s.data.toList [48, 49])).toList.isEmpty = (okB s && (x == x)) := by
  rw [toList_str, beq_self_eq_true, Bool.and_true, Bool.eq_iff_iff, List.isEmpty_iff]
  exact trim_none s
/-- the program's strings.Trim at the two digits -/
theorem trim_any (s : ByteArray) (hs : s.size ≤ maxLen) (w : World) :
    Calls Tryz.prog 41 #[.string s, .string ⟨#[48, 49]⟩] w fun e w' => e = .returned (.string (str (Lib.trimS s.data.toList [48, 49]))) ∧ Below w.heap.size w w' := by
  unfold maxLen at hs
  exact Any.strings_Trim_laid Tryz.lays160 (by kernel_rfl) s ⟨#[48, 49]⟩ w (by omega) (by decide) (ascii_of_all (by decide))

end Go.Proofs.YtbccachkkflceaaGreatDoor.Valid

/-
  The number of bits of a table, and which texts are tables, of both sides.
-/
namespace Go.Proofs.YtbccachkkflceaaGreatDoor.Wid
open Go.RowKit Go.Proofs.YtbccachkkflceaaGreatDoor.Plain Go.Proofs.YtbccachkkflceaaGreatDoor.Base Go.Proofs.YtbccachkkflceaaGreatDoor.Valid
set_option linter.unusedVariables false
set_option linter.unusedSimpArgs false

/-- the number of bits of a table, or -1 -/
def widthV (s : ByteArray) : Int := if okB s = true ∧ s.size = 2 then 1 else if okB s = true ∧ s.size = 4 then 2 else if okB s = true ∧ s.size = 8 then 3 else -1
def Is (s : ByteArray) (b : Nat) : Prop := okB s = true ∧ s.size = 2 ^ b
theorem width1 {s : ByteArray} (h : okB s = true) (e : s.size = 2) : widthV s = 1 := by unfold widthV; rw [if_pos ⟨h, e⟩]
theorem width2 {s : ByteArray} (h : okB s = true) (e : s.size = 4) : widthV s = 2 := by unfold widthV; rw [if_neg (by omega), if_pos ⟨h, e⟩]
theorem width3 {s : ByteArray} (h : okB s = true) (e : s.size = 8) : widthV s = 3 := by unfold widthV; rw [if_neg (by omega), if_neg (by omega), if_pos ⟨h, e⟩]
theorem width_no {s : ByteArray} (h : ∀ j : Nat, 1 ≤ j → j < 4 → ¬ Is s j) : widthV s = -1 := by
  have h1 := h 1 (by omega) (by omega)
  have h2 := h 2 (by omega) (by omega)
  have h3 := h 3 (by omega) (by omega)
  unfold Is at h1 h2 h3
  unfold widthV
  rw [if_neg (by simpa using h1), if_neg (by simpa using h2), if_neg (by simpa using h3)]
/-- a table of so many bits, or none -/
theorem width_or (s : ByteArray) : (∃ b N : Nat, 1 ≤ b ∧ b ≤ 3 ∧ 2 ^ b = N ∧ N ≤ 8 ∧ 2 ≤ N ∧ s.size = N ∧ okB s = true ∧ widthV s = (b : Int)) ∨ widthV s = -1 := by
  by_cases h1 : okB s = true ∧ s.size = 2
  · exact .inl ⟨1, 2, by omega, by omega, rfl, by omega, by omega, h1.2, h1.1, width1 h1.1 h1.2⟩
  by_cases h2 : okB s = true ∧ s.size = 4
  · exact .inl ⟨2, 4, by omega, by omega, rfl, by omega, by omega, h2.2, h2.1, width2 h2.1 h2.2⟩
  by_cases h3 : okB s = true ∧ s.size = 8
  · exact .inl ⟨3, 8, by omega, by omega, rfl, by omega, by omega, h3.2, h3.1, width3 h3.1 h3.2⟩
  · right; unfold widthV; rw [if_neg h1, if_neg h2, if_neg h3]
theorem trim_ok (s : ByteArray) : (str (Lib.trimS s.data.toList [48, 49])).toList.isEmpty = okB s := by
  have h := trim_test s 0
  simpa using h

set_option maxHeartbeats 4000000 in
theorem spec_width (s : ByteArray) (hs : s.size ≤ maxLen) (w : World) :
    Calls Tryz.prog 68 #[.string s] w fun e w' => e = .returned (.int .i64 (widthV s)) ∧ w = w' := by
  have HB : Hid (∀ (n : Int) (W : World), Calls Tryz.prog 98 #[.string s, .int .i64 n] W fun e w' => e = .returned (.bool (okB s && ((s.size : Int) == n))) ∧ W = w') := fun n W => bits_any s hs n W
  clear hs
  go_enter Tryz.func68, Tryz.ntmps68
  go_wp2_with fail
  go_loop [3] (fun i => ∃ k : Nat, 1 ≤ k ∧ k ≤ 4 ∧ i = .int .i64 (k : Int) ∧ Hid (∀ j : Nat, 1 ≤ j → j < k → ¬ Is s j)) (fun i => 4 - (intOf i).toNat)
  case atStart => exact ⟨1, by omega, by omega, rfl, fun j h1 h2 => absurd h1 (by omega)⟩
  case round =>
    obtain ⟨k, hk1, hk4, rfl, hno⟩ := hrel
    have hk : k = 1 ∨ k = 2 ∨ k = 3 ∨ k = 4 := by omega
    rcases hk with rfl | rfl | rfl | rfl
    · obtain ⟨v, hv⟩ : ∃ v, (okB s && ((s.size : Int) == 2)) = v := ⟨_, rfl⟩
      have HC := Lib.hid (HB.out 2)
      rw [hv] at HC
      cases v
      · have HN : Hid (∀ j : Nat, 1 ≤ j → j < 1 + 1 → ¬ Is s j) := by
          intro j h1 h2 hi
          by_cases e : j = 1
          · subst e
            have : s.size = 2 := hi.2
            rw [hi.1, this] at hv
            cases hv
          · exact hno.out j h1 (by omega) hi
        clear hno hv
        go_wp2_with fail
        refine (HC.out _).mono ?_
        rintro e w' ⟨rfl, rfl⟩
        go_wp2_with fail
        go_round
        case rel => exact ⟨2, by omega, by omega, rfl, HN⟩
        case measure => simp [intOf]
      · rw [Bool.and_eq_true, beq_iff_eq] at hv
        have HR : Hid (widthV s = 1) := width1 hv.1 (by omega)
        clear hno hv
        go_wp2_with fail
        refine (HC.out _).mono ?_
        rintro e w' ⟨rfl, rfl⟩
        go_wp2_with fail
        go_ret
        exact ⟨by rw [HR.out]; rfl, rfl⟩
    · obtain ⟨v, hv⟩ : ∃ v, (okB s && ((s.size : Int) == 4)) = v := ⟨_, rfl⟩
      have HC := Lib.hid (HB.out 4)
      rw [hv] at HC
      cases v
      · have HN : Hid (∀ j : Nat, 1 ≤ j → j < 2 + 1 → ¬ Is s j) := by
          intro j h1 h2 hi
          by_cases e : j = 2
          · subst e
            have : s.size = 4 := hi.2
            rw [hi.1, this] at hv
            cases hv
          · exact hno.out j h1 (by omega) hi
        clear hno hv
        go_wp2_with fail
        refine (HC.out _).mono ?_
        rintro e w' ⟨rfl, rfl⟩
        go_wp2_with fail
        go_round
        case rel => exact ⟨3, by omega, by omega, rfl, HN⟩
        case measure => simp [intOf]
      · rw [Bool.and_eq_true, beq_iff_eq] at hv
        have HR : Hid (widthV s = 2) := width2 hv.1 (by omega)
        clear hno hv
        go_wp2_with fail
        refine (HC.out _).mono ?_
        rintro e w' ⟨rfl, rfl⟩
        go_wp2_with fail
        go_ret
        exact ⟨by rw [HR.out]; rfl, rfl⟩
    · obtain ⟨v, hv⟩ : ∃ v, (okB s && ((s.size : Int) == 8)) = v := ⟨_, rfl⟩
      have HC := Lib.hid (HB.out 8)
      rw [hv] at HC
      cases v
      · have HN : Hid (∀ j : Nat, 1 ≤ j → j < 3 + 1 → ¬ Is s j) := by
          intro j h1 h2 hi
          by_cases e : j = 3
          · subst e
            have : s.size = 8 := hi.2
            rw [hi.1, this] at hv
            cases hv
          · exact hno.out j h1 (by omega) hi
        clear hno hv
        go_wp2_with fail
        refine (HC.out _).mono ?_
        rintro e w' ⟨rfl, rfl⟩
        go_wp2_with fail
        go_round
        case rel => exact ⟨4, by omega, by omega, rfl, HN⟩
        case measure => simp [intOf]
      · rw [Bool.and_eq_true, beq_iff_eq] at hv
        have HR : Hid (widthV s = 3) := width3 hv.1 (by omega)
        clear hno hv
        go_wp2_with fail
        refine (HC.out _).mono ?_
        rintro e w' ⟨rfl, rfl⟩
        go_wp2_with fail
        go_ret
        exact ⟨by rw [HR.out]; rfl, rfl⟩
    · have HR : Hid (widthV s = -1) := width_no hno.out
      clear hno
      go_wp2_with fail
      go_ret
      exact ⟨by rw [HR.out]; rfl, rfl⟩

set_option maxHeartbeats 4000000 in
theorem impl_width (s : ByteArray) (hs : s.size ≤ maxLen) (w : World) :
    Calls Tryz.prog 18 #[.string s] w fun e w' => e = .returned (.int .i64 (widthV s)) ∧ Below w.heap.size w w' := by
  have HB := Lib.hid (trim_any s hs)
  have htr := trim_ok s
  generalize str (Lib.trimS s.data.toList [48, 49]) = q at *
  unfold maxLen at hs
  go_enter Tryz.func18, Tryz.ntmps18
  go_wp2_with fail
  go_loopw [3] (fun i wr => ∃ k : Nat, 1 ≤ k ∧ k ≤ 4 ∧ i = .int .i64 (k : Int) ∧ Hid (∀ j : Nat, 1 ≤ j → j < k → ¬ Is s j) ∧ Below w.heap.size w wr) (fun i _ => 4 - (intOf i).toNat)
  case atStart => exact ⟨1, by omega, by omega, rfl, fun j h1 h2 => absurd h1 (by omega), Below.refl _ _⟩
  case round =>
    obtain ⟨k, hk1, hk4, rfl, hno, hb⟩ := hrel
    have HBL := Lib.hid hb
    clear hb
    have hk : k = 1 ∨ k = 2 ∨ k = 3 ∨ k = 4 := by omega
    rcases hk with rfl | rfl | rfl | rfl
    · by_cases hsz : s.size = 2
      · have hb1 : ((s.size : Int) == 2) = true := by rw [beq_iff_eq]; omega
        obtain ⟨v, hv⟩ : ∃ v, okB s = v := ⟨_, rfl⟩
        rw [hv] at htr
        cases v
        · have HN : Hid (∀ j : Nat, 1 ≤ j → j < 1 + 1 → ¬ Is s j) := by
            intro j h1 h2 hi
            have := hi.1
            rw [hv] at this
            cases this
          clear hno hv hsz
          go_wp2_with fail
          refine (HB.out _).mono ?_
          rintro e w' ⟨rfl, hb2⟩
          have HBL2 := Lib.hid (HBL.out.trans (hb2.mono HBL.out.size))
          clear hb2
          go_wp2_with fail
          go_roundw
          case rel => exact ⟨2, by omega, by omega, rfl, HN, HBL2.out⟩
          case measure => simp [intOf]
        · have HR : Hid (widthV s = 1) := width1 hv hsz
          clear hno hv hsz
          go_wp2_with fail
          refine (HB.out _).mono ?_
          rintro e w' ⟨rfl, hb2⟩
          have HBL2 := Lib.hid (HBL.out.trans (hb2.mono HBL.out.size))
          clear hb2
          go_wp2_with fail
          go_ret
          exact ⟨by rw [HR.out]; rfl, HBL2.out⟩
      · have hb1 : ((s.size : Int) == 2) = false := beq_false_of_ne (by omega)
        have HN : Hid (∀ j : Nat, 1 ≤ j → j < 1 + 1 → ¬ Is s j) := by
          intro j h1 h2 hi
          by_cases e : j = 1
          · subst e
            exact hsz hi.2
          · exact hno.out j h1 (by omega) hi
        clear hno hsz
        go_wp2_with fail
        go_roundw
        case rel => exact ⟨2, by omega, by omega, rfl, HN, HBL.out⟩
        case measure => simp [intOf]
    · by_cases hsz : s.size = 4
      · have hb1 : ((s.size : Int) == 4) = true := by rw [beq_iff_eq]; omega
        obtain ⟨v, hv⟩ : ∃ v, okB s = v := ⟨_, rfl⟩
        rw [hv] at htr
        cases v
        · have HN : Hid (∀ j : Nat, 1 ≤ j → j < 2 + 1 → ¬ Is s j) := by
            intro j h1 h2 hi
            have := hi.1
            rw [hv] at this
            cases this
          clear hno hv hsz
          go_wp2_with fail
          refine (HB.out _).mono ?_
          rintro e w' ⟨rfl, hb2⟩
          have HBL2 := Lib.hid (HBL.out.trans (hb2.mono HBL.out.size))
          clear hb2
          go_wp2_with fail
          go_roundw
          case rel => exact ⟨3, by omega, by omega, rfl, HN, HBL2.out⟩
          case measure => simp [intOf]
        · have HR : Hid (widthV s = 2) := width2 hv hsz
          clear hno hv hsz
          go_wp2_with fail
          refine (HB.out _).mono ?_
          rintro e w' ⟨rfl, hb2⟩
          have HBL2 := Lib.hid (HBL.out.trans (hb2.mono HBL.out.size))
          clear hb2
          go_wp2_with fail
          go_ret
          exact ⟨by rw [HR.out]; rfl, HBL2.out⟩
      · have hb1 : ((s.size : Int) == 4) = false := beq_false_of_ne (by omega)
        have HN : Hid (∀ j : Nat, 1 ≤ j → j < 2 + 1 → ¬ Is s j) := by
          intro j h1 h2 hi
          by_cases e : j = 2
          · subst e
            exact hsz hi.2
          · exact hno.out j h1 (by omega) hi
        clear hno hsz
        go_wp2_with fail
        go_roundw
        case rel => exact ⟨3, by omega, by omega, rfl, HN, HBL.out⟩
        case measure => simp [intOf]
    · by_cases hsz : s.size = 8
      · have hb1 : ((s.size : Int) == 8) = true := by rw [beq_iff_eq]; omega
        obtain ⟨v, hv⟩ : ∃ v, okB s = v := ⟨_, rfl⟩
        rw [hv] at htr
        cases v
        · have HN : Hid (∀ j : Nat, 1 ≤ j → j < 3 + 1 → ¬ Is s j) := by
            intro j h1 h2 hi
            have := hi.1
            rw [hv] at this
            cases this
          clear hno hv hsz
          go_wp2_with fail
          refine (HB.out _).mono ?_
          rintro e w' ⟨rfl, hb2⟩
          have HBL2 := Lib.hid (HBL.out.trans (hb2.mono HBL.out.size))
          clear hb2
          go_wp2_with fail
          go_roundw
          case rel => exact ⟨4, by omega, by omega, rfl, HN, HBL2.out⟩
          case measure => simp [intOf]
        · have HR : Hid (widthV s = 3) := width3 hv hsz
          clear hno hv hsz
          go_wp2_with fail
          refine (HB.out _).mono ?_
          rintro e w' ⟨rfl, hb2⟩
          have HBL2 := Lib.hid (HBL.out.trans (hb2.mono HBL.out.size))
          clear hb2
          go_wp2_with fail
          go_ret
          exact ⟨by rw [HR.out]; rfl, HBL2.out⟩
      · have hb1 : ((s.size : Int) == 8) = false := beq_false_of_ne (by omega)
        have HN : Hid (∀ j : Nat, 1 ≤ j → j < 3 + 1 → ¬ Is s j) := by
          intro j h1 h2 hi
          by_cases e : j = 3
          · subst e
            exact hsz hi.2
          · exact hno.out j h1 (by omega) hi
        clear hno hsz
        go_wp2_with fail
        go_roundw
        case rel => exact ⟨4, by omega, by omega, rfl, HN, HBL.out⟩
        case measure => simp [intOf]
    · have HR : Hid (widthV s = -1) := width_no hno.out
      clear hno
      go_wp2_with fail
      go_ret
      exact ⟨by rw [HR.out]; rfl, HBL.out⟩
/-- a text is a table -/
def tabV (s : ByteArray) : Bool := decide (0 < widthV s)
set_option maxHeartbeats 400000 in
theorem spec_tab (s : ByteArray) (hs : s.size ≤ maxLen) (w : World) :
    Calls Tryz.prog 66 #[.string s] w fun e w' => e = .returned (.bool (tabV s)) ∧ w = w' := by
  have HW := Lib.hid (spec_width s hs)
  unfold tabV
  generalize widthV s = v at *
  go_enter Tryz.func66, Tryz.ntmps66
  go_wp2_with fail
  refine (HW.out _).mono ?_
  rintro e w' ⟨rfl, rfl⟩
  go_wp2_with fail
  go_ret
  exact ⟨rfl, rfl⟩
set_option maxHeartbeats 400000 in
theorem impl_tabv (s : ByteArray) (hs : s.size ≤ maxLen) (w : World) :
    Calls Tryz.prog 29 #[.string s] w fun e w' => e = .returned (.bool (tabV s)) ∧ Below w.heap.size w w' := by
  have HW := Lib.hid (impl_width s hs)
  unfold tabV
  generalize widthV s = v at *
  go_enter Tryz.func29, Tryz.ntmps29
  go_wp2_with fail
  refine (HW.out _).mono ?_
  rintro e w' ⟨rfl, hb⟩
  have HB := Lib.hid hb
  clear hb
  go_wp2_with fail
  go_ret
  exact ⟨rfl, HB.out⟩
end Go.Proofs.YtbccachkkflceaaGreatDoor.Wid

