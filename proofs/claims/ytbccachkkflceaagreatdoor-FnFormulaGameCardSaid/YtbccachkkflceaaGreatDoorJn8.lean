/-
  Texts of one seat, joined: FmNo, Base.
-/
import Derived.Test.YtbccachkkflceaaGreatDoorJn1
import Derived.Test.YtbccachkkflceaaGreatDoorJn7
import Derived.Test.YtbccachkkflceaaGreatDoorRows
import Derived.WalkKit
import Derived.WalkSpells
import Derived.Lib.Hide
import Derived.Handy
import Derived.Outline
import Derived.Deep.QuietTactic
import Derived.BigQuiet
/-
  The program's reading of a text at whose begin no formula stands; its trees of whole texts.
-/
namespace Go.Proofs.YtbccachkkflceaaGreatDoor.FmNo
open Go.RowKit Go.Shelf Go.Proofs.YtbccachkkflceaaGreatDoor.Plain Go.Proofs.YtbccachkkflceaaGreatDoor.Fm Go.Proofs.YtbccachkkflceaaGreatDoor.FmB Go.Proofs.YtbccachkkflceaaGreatDoor.Rect Go.Proofs.YtbccachkkflceaaGreatDoor.FmRead
set_option linter.unusedVariables false

set_option maxHeartbeats 4000000 in
set_option maxRecDepth 100000 in
theorem read_no (b : Nat) (hb3 : b ≤ 3) (n : Nat) : ∀ (s : ByteArray) (hs : s.size ≤ 1048576) (hn : s.size ≤ n) (h : No b s.data.toList) (w : World),
    Calls Tryz.prog 46 #[.string s, .int .i64 (b : Int)] w fun e w' => e = .returned (.tuple #[.nilIface, .string (str [])]) ∧ Below w.heap.size w w' := by
  have hempty : ∀ (s : ByteArray) (h0 : s.size = 0) (w : World), Calls Tryz.prog 46 #[.string s, .int .i64 (b : Int)] w fun e w' => e = .returned (.tuple #[.nilIface, .string (str [])]) ∧ Below w.heap.size w w' := by
    intro s h0 w
    have he := is_empty h0
    clear hb3
    go_enter Tryz.func46, Tryz.ntmps46
    go_wp2_with fail
    go_returns
    exact ⟨rfl, by go_grown⟩
  induction n with
  | zero =>
    intro s hs hn h w
    exact hempty s (by omega) w
  | succ n ih =>
    intro s hs hn h w
    by_cases h0 : s.size = 0
    · exact hempty s h0 w
    have hk : 0 < s.size := by omega
    have he := not_empty hk
    have hd : s.data.toList = s[0]'hk :: s.data.toList.drop 1 := at_drop' (k := 0) hk
    have hlit : ∀ k v, k < b → (s[0]'hk) ≠ litB k v := by rw [hd] at h; exact h.not_lit
    have HL : Hid (∀ W, Calls Tryz.prog 86 #[.int .u8 ((s[0]'hk).toNat : Int), .int .i64 (b : Int)] W fun e w' => e = .returned (.tuple #[.agg #[.int .i64 0, .int .i64 0], .bool false]) ∧ Below W.heap.size W w') := fun W => letter_no _ b hlit W
    by_cases hsg : ∀ a, (s[0]'hk) ≠ sgn a
    · have HG : Hid (∀ W, Calls Tryz.prog 87 #[.string ⟨#[38, 124]⟩, .int .u8 ((s[0]'hk).toNat : Int)] W fun e w' => e = .returned (.int .i64 (-1)) ∧ W = w') := fun W => by
        rw [← ix_sgn_no _ hsg]; exact index_sgn _ W
      clear h hn ih hd hlit hsg hempty hb3
      go_enter Tryz.func46, Tryz.ntmps46
      go_wp2_with fail
      refine (HL.out _).mono ?_
      rintro e w1 ⟨rfl, hb1⟩
      have HB : Hid (Below w.heap.size w w1) := hb1
      clear hb1
      go_wp2_with fail
      refine (HG.out _).mono ?_
      rintro e w' ⟨rfl, rfl⟩
      go_wp2_with fail
      go_returns
      exact ⟨rfl, rstepA HB.out _⟩
    · obtain ⟨a, ha⟩ : ∃ a, (s[0]'hk) = sgn a := by
        apply Classical.byContradiction
        intro hx
        exact hsg fun a e => hx ⟨a, e⟩
      have HG : Hid (∀ W, Calls Tryz.prog 87 #[.string ⟨#[38, 124]⟩, .int .u8 ((s[0]'hk).toNat : Int)] W fun e w' => e = .returned (.int .i64 (bitI (!a))) ∧ W = w') := fun W => by
        rw [ha, ← ix_sgn a]; exact index_sgn _ W
      have hN : No b (str []).data.toList := No.nil b
      have HE : ∃ v0 q1 v1 q2, (∀ W : World, Calls Tryz.prog 46 #[.string (s.extract 1 s.size), .int .i64 (b : Int)] W fun e w' => e = .returned (.tuple #[v0, .string q1]) ∧ Below W.heap.size W w') ∧
          (∀ W : World, Calls Tryz.prog 46 #[.string q1, .int .i64 (b : Int)] W fun e w' => e = .returned (.tuple #[v1, .string q2]) ∧ Below W.heap.size W w') ∧
          (v0 = .nilIface ∨ ((∃ ty v, v0 = .iface ty v) ∧ v1 = .nilIface)) := by
        rcases yes_or_no b (s.data.toList.drop 1) with ⟨z, r1, hz, e1⟩ | hno
        · have hx := extract_rest s 1 e1
          have hlr : (text z).length + r1.length + 1 = s.size := by have := congrArg List.length e1; simp at this; omega
          rcases yes_or_no b r1 with ⟨o, r2, ho, e2⟩ | hno2
          · exfalso
            rw [hd, e1, e2, ha] at h
            exact h.not_gate hz ho
          · refine ⟨tree z, str r1, .nilIface, str [], fun W => ?_, fun W => ?_, .inr ⟨tree_iface z, rfl⟩⟩
            · rw [hx]; exact read_yes b hb3 z hz _ (by rw [str_size, List.length_append]; omega) r1 (by simp [str]) W
            · exact ih (str r1) (by rw [str_size]; omega) (by rw [str_size]; have := text_pos z; omega) (by simpa [str] using hno2) W
        · have hx := extract_rest s 1 rfl
          refine ⟨.nilIface, str [], .nilIface, str [], fun W => ?_, fun W => ?_, .inl rfl⟩
          · rw [hx]
            exact ih _ (by rw [str_size]; simp; omega) (by rw [str_size]; simp; omega) (by simpa [str] using hno) W
          · exact hempty (str []) rfl W
      obtain ⟨v0, q1, v1, q2, HZ, HO, hsh⟩ := HE
      replace HZ := Lib.hid HZ
      replace HO := Lib.hid HO
      have hba : 0 ≤ bitI (!a) := by cases a <;> decide
      have hl1 : 1 ≤ s.size := by omega
      generalize bitI (!a) = ba at *
      clear h hn ih hd hlit hsg hempty hb3 ha hN
      rcases hsh with rfl | ⟨⟨ty, v, rfl⟩, rfl⟩
      all_goals
        go_enter Tryz.func46, Tryz.ntmps46
        go_wp2_with fail
        refine (HL.out _).mono ?_
        rintro e w1 ⟨rfl, hb1⟩
        have HB : Hid (Below w.heap.size w w1) := hb1
        clear hb1
        go_wp2_with fail
        refine (HG.out _).mono ?_
        rintro e w' ⟨rfl, rfl⟩
        go_wp2_with fail
        refine (HZ.out _).mono ?_
        rintro e w2 ⟨rfl, hb2⟩
        have HB2 : Hid (Below w.heap.size w w2) := rstep (rstepA HB.out _) hb2
        clear hb2 HB
        go_wp2_with fail
        refine (HO.out _).mono ?_
        rintro e w3 ⟨rfl, hb3⟩
        have HB3 : Hid (Below w.heap.size w w3) := rstep HB2.out hb3
        clear hb3 HB2
        go_wp2_with fail
        go_returns
        exact ⟨rfl, HB3.out⟩

/-- a text is a formula of so many bits that is not too long -/
def Ok (b : Nat) (s : ByteArray) : Prop := s.size ≤ 200 ∧ Is b s.data.toList
theorem ok_or (b : Nat) (s : ByteArray) : (∃ t, wf b t ∧ s.data.toList = text t ∧ s.size ≤ 200) ∨ ¬ Ok b s := by
  by_cases h : Ok b s
  · obtain ⟨h1, t, h2, h3⟩ := h
    exact .inl ⟨t, h2, h3, h1⟩
  · exact .inr h

set_option maxHeartbeats 1000000 in
theorem tree_yes (b : Nat) (hb1 : 1 ≤ b) (hb3 : b ≤ 3) (s : ByteArray) (t : F) (hw : wf b t) (h : s.data.toList = text t) (hs : s.size ≤ 200) (w : World) :
    Calls Tryz.prog 21 #[.string s, .int .i64 (b : Int)] w fun e w' => e = .returned (tree t) ∧ Below w.heap.size w w' := by
  have HR : Hid (∀ W, Calls Tryz.prog 46 #[.string s, .int .i64 (b : Int)] W fun e w' => e = .returned (.tuple #[tree t, .string (str [])]) ∧ Below W.heap.size W w') := fun W => read_yes b hb3 t hw s (by omega) [] (by rw [h]; simp) W
  have he := is_empty (s := str []) rfl
  generalize str [] = q at *
  obtain ⟨ty, v, ev⟩ := tree_iface t
  rw [ev] at HR ⊢
  clear h ev
  go_enter Tryz.func21, Tryz.ntmps21
  go_wp2_with fail
  refine (HR.out _).mono ?_
  rintro e w1 ⟨rfl, hb1⟩
  have HB := Lib.hid hb1
  clear hb1
  go_wp2_with fail
  go_ret
  exact ⟨rfl, HB.out⟩

set_option maxHeartbeats 1000000 in
theorem tree_no (b : Nat) (hb1 : 1 ≤ b) (hb3 : b ≤ 3) (s : ByteArray) (h : ¬ Ok b s) (hs : s.size ≤ 1048576) (w : World) :
    Calls Tryz.prog 21 #[.string s, .int .i64 (b : Int)] w fun e w' => e = .returned .nilIface ∧ Below w.heap.size w w' := by
  by_cases hl : 200 < s.size
  · clear h
    go_enter Tryz.func21, Tryz.ntmps21
    go_wp2_with fail
    go_ret
    exact ⟨rfl, Below.refl _ _⟩
  replace hl : s.size ≤ 200 := by omega
  rcases yes_or_no b s.data.toList with ⟨t, r, hw, e1⟩ | hno
  · have hr : r ≠ [] := fun e => h ⟨hl, t, hw, by rw [e1, e]; simp⟩
    have HR : Hid (∀ W, Calls Tryz.prog 46 #[.string s, .int .i64 (b : Int)] W fun e w' => e = .returned (.tuple #[tree t, .string (str r)]) ∧ Below W.heap.size W w') := fun W => read_yes b hb3 t hw s hs r e1 W
    have he := not_empty (s := str r) (by rw [str_size]; exact List.length_pos_iff.2 hr)
    generalize str r = q at *
    obtain ⟨ty, v, ev⟩ := tree_iface t
    rw [ev] at HR
    clear h ev e1 hr
    go_enter Tryz.func21, Tryz.ntmps21
    go_wp2_with fail
    refine (HR.out _).mono ?_
    rintro e w1 ⟨rfl, hb1⟩
    have HB := Lib.hid hb1
    clear hb1
    go_wp2_with fail
    go_ret
    exact ⟨rfl, HB.out⟩
  · have HR : Hid (∀ W, Calls Tryz.prog 46 #[.string s, .int .i64 (b : Int)] W fun e w' => e = .returned (.tuple #[.nilIface, .string (str [])]) ∧ Below W.heap.size W w') := fun W => read_no b hb3 s.size s hs (Nat.le_refl _) hno W
    have he := is_empty (s := str []) rfl
    generalize str [] = q at *
    clear h hno
    go_enter Tryz.func21, Tryz.ntmps21
    go_wp2_with fail
    refine (HR.out _).mono ?_
    rintro e w1 ⟨rfl, hb1⟩
    have HB := Lib.hid hb1
    clear hb1
    go_wp2_with fail
    go_ret
    exact ⟨rfl, HB.out⟩
/-- a number of bits that is none from 1 to 3 -/
theorem tree_bad (s : ByteArray) (hs : s.size ≤ 1048576) (b : Int) (hb : b < 1 ∨ 3 < b) (w : World) :
    Calls Tryz.prog 21 #[.string s, .int .i64 b] w fun e w' => e = .returned .nilIface ∧ Below w.heap.size w w' := by
  by_cases hl : 200 < s.size
  · go_enter Tryz.func21, Tryz.ntmps21
    go_wp2_with fail
    go_ret
    exact ⟨rfl, Below.refl _ _⟩
  replace hl : s.size ≤ 200 := by omega
  rcases hb with hb | hb
  · go_enter Tryz.func21, Tryz.ntmps21
    go_wp2_with fail
    go_ret
    exact ⟨rfl, Below.refl _ _⟩
  · go_enter Tryz.func21, Tryz.ntmps21
    go_wp2_with fail
    go_ret
    exact ⟨rfl, Below.refl _ _⟩
end Go.Proofs.YtbccachkkflceaaGreatDoor.FmNo

/-
  Contracts of the small functions: l1In, l1Bit, bitOf, sideValid, eqMatrix.
-/
namespace Go.Proofs.YtbccachkkflceaaGreatDoor.Base
open Go.RowKit Go.Proofs.YtbccachkkflceaaGreatDoor.Plain

set_option maxHeartbeats 400000 in
theorem l1Bit_any (b : Bool) (w : World) :
    Calls Tryz.prog 95 #[.bool b] w fun e w' => e = .returned (.string ⟨#[dig b]⟩) ∧ w = w' := by
  cases b
  all_goals
    go_enter Tryz.func95, Tryz.ntmps95
    go_wp2
    go_ret
    exact ⟨rfl, rfl⟩

set_option maxHeartbeats 400000 in
theorem bitOf_any (b : Bool) (w : World) :
    Calls Tryz.prog 25 #[.bool b] w fun e w' => e = .returned (.int .i64 (bitI b)) ∧ w = w' := by
  cases b
  all_goals
    go_enter Tryz.func25, Tryz.ntmps25
    go_wp2
    go_ret
    exact ⟨rfl, rfl⟩


/-- a matrix as a value -/
abbrev mat (r c : Int) (s : ByteArray) : Value := .agg #[.int .i64 r, .int .i64 c, .string s]

end Go.Proofs.YtbccachkkflceaaGreatDoor.Base

