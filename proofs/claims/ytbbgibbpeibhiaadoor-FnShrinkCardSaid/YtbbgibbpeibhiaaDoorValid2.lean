/-
  When the program calls a matrix valid: the contract of impl.MatrixValid. strings.Trim by the library's contract.
-/
import Derived.Test.YtbbgibbpeibhiaaDoorValid
import Derived.Test.YtbbgibbpeibhiaaDoorShelf
import Derived.Shelf.Strings.SlTrimAscii
namespace Go.Proofs.YtbbgibbpeibhiaaDoor.Valid
open Go.RowKit Go.Proofs.YtbbgibbpeibhiaaDoor.Plain Go.Proofs.YtbbgibbpeibhiaaDoor.Base
set_option linter.unusedVariables false

theorem has_bit (b : UInt8) : ([48, 49] : List UInt8).contains b = isBit b := by
  unfold isBit
  rw [Bool.eq_iff_iff]
  simp
theorem drop_all {l : List UInt8} {p : UInt8 → Bool} : l.dropWhile p = [] ↔ l.all p = true := by
  induction l with
  | nil => simp
  | cons a l ih =>
    by_cases h : p a = true
    · rw [List.dropWhile_cons_of_pos h, ih, List.all_cons, h, Bool.true_and]
    · rw [List.dropWhile_cons_of_neg h]
      simp [h]
theorem trim_none (s : ByteArray) : (Lib.trimS s.data.toList [48, 49] = []) ↔ okB s = true := by
  unfold Lib.trimS Lib.trimLeftS Lib.trimRightS okB
  rw [show (fun x => ([48, 49] : List UInt8).contains x) = isBit from funext has_bit]
  constructor
  · intro h
    rw [drop_all, List.all_reverse] at h
    by_cases h2 : (s.data.toList.reverse.dropWhile isBit) = []
    · rw [drop_all, List.all_reverse] at h2; exact h2
    · exfalso
      have h3 := List.head_dropWhile_not (p := isBit) h2
      rw [List.all_eq_true] at h
      have h4 := h _ (List.head_mem h2)
      rw [h3] at h4
      cases h4
  · intro h
    have h2 : s.data.toList.reverse.dropWhile isBit = [] := by rw [drop_all, List.all_reverse]; exact h
    rw [h2]
    rfl

theorem toList_str (l : List UInt8) : (str l).toList = l := by
  rw [Lib.toList_data]; rfl
theorem trim_test (s : ByteArray) (x : Int) : (str (Lib.trimS s.data.toList [48, 49])).toList.isEmpty = (okB s && (x == x)) := by
  rw [toList_str, beq_self_eq_true, Bool.and_true, Bool.eq_iff_iff, List.isEmpty_iff]
  exact trim_none s
/-- the program's strings.Trim at the two digits -/
theorem trim_any (s : ByteArray) (hs : s.size ≤ maxLen) (w : World) :
    Calls Tryd.prog 73 #[.string s, .string ⟨#[48, 49]⟩] w fun e w' => e = .returned (.string (str (Lib.trimS s.data.toList [48, 49]))) ∧ Below w.heap.size w w' := by
  unfold maxLen at hs
  exact Any.strings_Trim_laid Tryd.lays160 (by kernel_rfl) s ⟨#[48, 49]⟩ w (by omega) (by decide) (ascii_of_all (by decide))

set_option maxHeartbeats 1000000 in
theorem impl_valid (r c : Int) (s : ByteArray) (hs : s.size ≤ maxLen) (w : World) :
    Calls Tryd.prog 52 #[mat r c s] w fun e w' => e = .returned (.bool (validB r c s)) ∧ Below w.heap.size w w' := by
  by_cases hr : r < 1 ∨ 8 < r
  · have HR := Lib.hid hr
    clear hr
    go_enter Tryd.func52, Tryd.ntmps52
    go_wp2_with fail
    refine (side_false _ HR.out _).mono ?_
    rintro e w' ⟨rfl, rfl⟩
    go_wp2_with fail
    go_ret
    exact ⟨by rw [validB_r HR.out]; rfl, by go_grown⟩
  · have h1 : 1 ≤ r := by omega
    have h2 : r ≤ 8 := by omega
    clear hr
    by_cases hc : c < 1 ∨ 8 < c
    · have HC := Lib.hid hc
      clear hc
      go_enter Tryd.func52, Tryd.ntmps52
      go_wp2_with fail
      refine (side_true _ h1 h2 _).mono ?_
      rintro e w' ⟨rfl, rfl⟩
      go_wp2_with fail
      refine (side_false _ HC.out _).mono ?_
      rintro e w' ⟨rfl, rfl⟩
      go_wp2_with fail
      go_ret
      exact ⟨by rw [validB_c HC.out]; rfl, by go_grown⟩
    · have h3 : 1 ≤ c := by omega
      have h4 : c ≤ 8 := by omega
      clear hc
      have HW := Lib.hid (wrap_prodI r c h1 h2 h3 h4)
      obtain ⟨b, hb⟩ : ∃ b : Bool, ((s.size : Int) != wrap64 (r * c)) = b := ⟨_, rfl⟩
      cases b
      · have hlen : (s.size : Int) = r * c := by rw [bne_eq_false_iff_eq] at hb; rw [hb, HW.out.1]
        have HL := Lib.hid hlen
        clear hlen
        go_enter Tryd.func52, Tryd.ntmps52
        go_wp2_with fail
        refine (side_true _ h1 h2 _).mono ?_
        rintro e w' ⟨rfl, rfl⟩
        go_wp2_with fail
        refine (side_true _ h3 h4 _).mono ?_
        rintro e w' ⟨rfl, rfl⟩
        go_wp2_with fail
        refine (trim_any s hs _).mono ?_
        rintro e w1 ⟨rfl, hb1⟩
        go_wp2_with fail
        go_ret
        exact ⟨by rw [validB_in h1 h2 h3 h4, HL.out]; exact congrArg (fun b => Ending.returned (.bool b)) (trim_test s _), (((Below.refl _ _).alloc (Nat.le_refl _) _).trans (hb1.mono (by simp)))⟩
      · have hlen : (s.size : Int) ≠ r * c := by rw [bne_iff_ne, HW.out.1] at hb; exact hb
        have HL := Lib.hid hlen
        clear hlen
        go_enter Tryd.func52, Tryd.ntmps52
        go_wp2_with fail
        refine (side_true _ h1 h2 _).mono ?_
        rintro e w' ⟨rfl, rfl⟩
        go_wp2_with fail
        refine (side_true _ h3 h4 _).mono ?_
        rintro e w' ⟨rfl, rfl⟩
        go_wp2_with fail
        go_ret
        exact ⟨by rw [validB_in h1 h2 h3 h4, beq_eq_false_iff_ne.2 HL.out, Bool.and_false]; rfl, by go_grown⟩
end Go.Proofs.YtbbgibbpeibhiaaDoor.Valid
