/-
  Texts of one seat, joined: Shelf, Valid2.
-/
import Derived.Shelf.Strings.Trim
import Derived.Shelf.Small.Utf8
import Derived.Shelf.Small.Bits
import Derived.Shelf.Small.Strs
import Derived.Shelf.Strconv.Itoa0
import Derived.Shelf.Strings.Search1
import Derived.Shelf.Strings.Runes
import Derived.Shelf.Strings.AsciiSet
import Derived.Shelf.Unicode.DecodeSlow
import Derived.Test.YtgmhddceeomjbaaGreatDoorProg
import Derived.Test.YtgmhddceeomjbaaGreatDoorJ6
import Derived.Shelf.Strings.SlTrimAscii
/-
  The numbers of the library's functions in this program, by which the library's contracts are taken; laid by program.
-/
namespace Go.Proofs
open Go.Shelf
def Tryz.lays160_ren : Go.Shelf.Ren := ⟨fun | 160 => 65 | 232 => 102 | 231 => 101 | 227 => 103 | 234 => 105 | 233 => 104 | 236 => 107 | 235 => 106 | 228 => 122 | 271 => 125 | 151 => 124 | 197 => 123 | 120 => 140 | 152 => 139 | 260 => 138 | 137 => 146 | 119 => 147 | 224 => 148 | 225 => 149 | 217 => 151 | 266 => 152 | n => n, fun | 9 => 9 | 4 => 4 | 3 => 3 | 5 => 5 | 117 => 120 | 116 => 119 | 0 => 0 | 124 => 123 | 21 => 21 | 105 => 132 | 46 => 45 | 119 => 151 | 139 => 154 | 138 => 153 | n => n, fun | 3 => 0 | 4 => 1 | n => n⟩
theorem Tryz.lays160 : Go.Proofs.Lays.n160 Tryz.prog Tryz.lays160_ren := {
  mixed := by kernel_rfl
  f119 := Tryz.func147.trans (congrArg some (by kernel_rfl))
  f120 := Tryz.func140.trans (congrArg some (by kernel_rfl))
  f137 := Tryz.func146.trans (congrArg some (by kernel_rfl))
  f151 := Tryz.func124.trans (congrArg some (by kernel_rfl))
  f152 := Tryz.func139.trans (congrArg some (by kernel_rfl))
  f160 := Tryz.func65.trans (congrArg some (by kernel_rfl))
  f197 := Tryz.func123.trans (congrArg some (by kernel_rfl))
  f217 := Tryz.func151.trans (congrArg some (by kernel_rfl))
  f224 := Tryz.func148.trans (congrArg some (by kernel_rfl))
  f225 := Tryz.func149.trans (congrArg some (by kernel_rfl))
  f227 := Tryz.func103.trans (congrArg some (by kernel_rfl))
  f228 := Tryz.func122.trans (congrArg some (by kernel_rfl))
  f231 := Tryz.func101.trans (congrArg some (by kernel_rfl))
  f232 := Tryz.func102.trans (congrArg some (by kernel_rfl))
  f233 := Tryz.func104.trans (congrArg some (by kernel_rfl))
  f234 := Tryz.func105.trans (congrArg some (by kernel_rfl))
  f235 := Tryz.func106.trans (congrArg some (by kernel_rfl))
  f236 := Tryz.func107.trans (congrArg some (by kernel_rfl))
  f260 := Tryz.func138.trans (congrArg some (by kernel_rfl))
  f266 := Tryz.func152.trans (congrArg some (by kernel_rfl))
  f271 := Tryz.func125.trans (congrArg some (by kernel_rfl))
  t0 := Tryz.underlying0
  a0 := Tryz.isAgg0
  z0 := Tryz.sizeOf0
  v0 := Tryz.zeroValue0
  t3 := Tryz.underlying3
  a3 := Tryz.isAgg3
  z3 := Tryz.sizeOf3
  v3 := Tryz.zeroValue3
  t4 := Tryz.underlying4
  a4 := Tryz.isAgg4
  z4 := Tryz.sizeOf4
  v4 := Tryz.zeroValue4
  t5 := Tryz.underlying5
  a5 := Tryz.isAgg5
  z5 := Tryz.sizeOf5
  v5 := Tryz.zeroValue5
  t9 := Tryz.underlying9
  a9 := Tryz.isAgg9
  z9 := Tryz.sizeOf9
  v9 := Tryz.zeroValue9
  t21 := Tryz.underlying21
  a21 := Tryz.isAgg21
  z21 := Tryz.sizeOf21
  v21 := Tryz.zeroValue21
  t46 := Tryz.underlying45
  a46 := Tryz.isAgg45
  z46 := Tryz.sizeOf45
  v46 := Tryz.zeroValue45
  t105 := Tryz.underlying132
  a105 := Tryz.isAgg132
  z105 := Tryz.sizeOf132
  v105 := Tryz.zeroValue132
  t116 := Tryz.underlying119
  a116 := Tryz.isAgg119
  z116 := Tryz.sizeOf119
  t117 := Tryz.underlying120
  a117 := Tryz.isAgg120
  z117 := Tryz.sizeOf120
  v117 := Tryz.zeroValue120
  t119 := Tryz.underlying151
  a119 := Tryz.isAgg151
  z119 := Tryz.sizeOf151
  t124 := Tryz.underlying123
  a124 := Tryz.isAgg123
  z124 := Tryz.sizeOf123
  v124 := Tryz.zeroValue123
  t138 := Tryz.underlying153
  a138 := Tryz.isAgg153
  z138 := Tryz.sizeOf153
  v138 := Tryz.zeroValue153
  t139 := Tryz.underlying154
  a139 := Tryz.isAgg154
  z139 := Tryz.sizeOf154
  v139 := Tryz.zeroValue154
  g3 := by kernel_rfl
  g4 := by kernel_rfl }
end Go.Proofs

/-
  When the program calls a matrix valid: the contract of impl.MatrixValid. strings.Trim by the library's contract.
-/
namespace Go.Proofs.YtgmhddceeomjbaaGreatDoor.Valid
open Go.RowKit Go.Proofs.YtgmhddceeomjbaaGreatDoor.Plain Go.Proofs.YtgmhddceeomjbaaGreatDoor.Base
set_option linter.unusedVariables false

theorem has_bit (b : UInt8) : ([48, 49] : List UInt8).contains b = isBit b := by
  unfold isBit
  rw [Bool.eq_iff_iff]
  simp
theorem drop_all {l : List UInt8} {p : UInt8 → Bool} : l.dropWhile p = [] ↔ l.all p = true := by
  induction l with
  | nil => simp
  | cons a l ih =>
    by_cases h : p a = true
    · rw [List.dropWhile_cons_of_pos h, ih, List.all_cons, h, Bool.true_and]
    · rw [List.dropWhile_cons_of_neg h]
      simp [h]
theorem trim_none (s : ByteArray) : (Lib.trimS s.data.toList [48, 49] = []) ↔ okB s = true := by
  unfold Lib.trimS Lib.trimLeftS Lib.trimRightS okB
  rw [show (fun x => ([48, 49] : List UInt8).contains x) = isBit from funext has_bit]
  constructor
  · intro h
    rw [drop_all, List.all_reverse] at h
    by_cases h2 : (s.data.toList.reverse.dropWhile isBit) = []
    · rw [drop_all, List.all_reverse] at h2; exact h2
    · exfalso
      have h3 := List.head_dropWhile_not (p := isBit) h2
      rw [List.all_eq_true] at h
      have h4 := h _ (List.head_mem h2)
      rw [h3] at h4
      cases h4
  · intro h
    have h2 : s.data.toList.reverse.dropWhile isBit = [] := by rw [drop_all, List.all_reverse]; exact h
    rw [h2]
    rfl

theorem toList_str (l : List UInt8) : (str l).toList = l := by
  rw [Lib.toList_data]; rfl
theorem trim_test (s : ByteArray) (x : Int) : (str (Lib.trimS s.data.toList [48, 49])).toList.isEmpty = (okB s && (x == x)) := by
  rw [toList_str, beq_self_eq_true, Bool.and_true, Bool.eq_iff_iff, List.isEmpty_iff]
  exact trim_none s
/-- the program's strings.Trim at the two digits -/
theorem trim_any (s : ByteArray) (hs : s.size ≤ maxLen) (w : World) :
    Calls Tryz.prog 65 #[.string s, .string ⟨#[48, 49]⟩] w fun e w' => e = .returned (.string (str (Lib.trimS s.data.toList [48, 49]))) ∧ Below w.heap.size w w' := by
  unfold maxLen at hs
  exact Any.strings_Trim_laid Tryz.lays160 (by kernel_rfl) s ⟨#[48, 49]⟩ w (by omega) (by decide) (ascii_of_all (by decide))

set_option maxHeartbeats 1000000 in
theorem impl_valid (r c : Int) (s : ByteArray) (hs : s.size ≤ maxLen) (w : World) :
    Calls Tryz.prog 23 #[mat r c s] w fun e w' => e = .returned (.bool (validB r c s)) ∧ Below w.heap.size w w' := by
  by_cases hr : r < 1 ∨ 8 < r
  · have HR := Lib.hid hr
    clear hr
    go_enter Tryz.func23, Tryz.ntmps23
    go_wp2_with fail
    refine (side_false _ HR.out _).mono ?_
    rintro e w' ⟨rfl, rfl⟩
    go_wp2_with fail
    go_ret
    exact ⟨by rw [validB_r HR.out]; rfl, by go_grown⟩
  · have h1 : 1 ≤ r := by omega
    have h2 : r ≤ 8 := by omega
    clear hr
    by_cases hc : c < 1 ∨ 8 < c
    · have HC := Lib.hid hc
      clear hc
      go_enter Tryz.func23, Tryz.ntmps23
      go_wp2_with fail
      refine (side_true _ h1 h2 _).mono ?_
      rintro e w' ⟨rfl, rfl⟩
      go_wp2_with fail
      refine (side_false _ HC.out _).mono ?_
      rintro e w' ⟨rfl, rfl⟩
      go_wp2_with fail
      go_ret
      exact ⟨by rw [validB_c HC.out]; rfl, by go_grown⟩
    · have h3 : 1 ≤ c := by omega
      have h4 : c ≤ 8 := by omega
      clear hc
      have HW := Lib.hid (wrap_prodI r c h1 h2 h3 h4)
      obtain ⟨b, hb⟩ : ∃ b : Bool, ((s.size : Int) != wrap64 (r * c)) = b := ⟨_, rfl⟩
      cases b
      · have hlen : (s.size : Int) = r * c := by rw [bne_eq_false_iff_eq] at hb; rw [hb, HW.out.1]
        have HL := Lib.hid hlen
        clear hlen
        go_enter Tryz.func23, Tryz.ntmps23
        go_wp2_with fail
        refine (side_true _ h1 h2 _).mono ?_
        rintro e w' ⟨rfl, rfl⟩
        go_wp2_with fail
        refine (side_true _ h3 h4 _).mono ?_
        rintro e w' ⟨rfl, rfl⟩
        go_wp2_with fail
        refine (trim_any s hs _).mono ?_
        rintro e w1 ⟨rfl, hb1⟩
        go_wp2_with fail
        go_ret
        exact ⟨by rw [validB_in h1 h2 h3 h4, HL.out]; exact congrArg (fun b => Ending.returned (.bool b)) (trim_test s _), (((Below.refl _ _).alloc (Nat.le_refl _) _).trans (hb1.mono (by simp)))⟩
      · have hlen : (s.size : Int) ≠ r * c := by rw [bne_iff_ne, HW.out.1] at hb; exact hb
        have HL := Lib.hid hlen
        clear hlen
        go_enter Tryz.func23, Tryz.ntmps23
        go_wp2_with fail
        refine (side_true _ h1 h2 _).mono ?_
        rintro e w' ⟨rfl, rfl⟩
        go_wp2_with fail
        refine (side_true _ h3 h4 _).mono ?_
        rintro e w' ⟨rfl, rfl⟩
        go_wp2_with fail
        go_ret
        exact ⟨by rw [validB_in h1 h2 h3 h4, beq_eq_false_iff_ne.2 HL.out, Bool.and_false]; rfl, by go_grown⟩
end Go.Proofs.YtgmhddceeomjbaaGreatDoor.Valid

