/-
  The reference on a formula's text: its parts, its depth, where it is true, its table.
-/
import Derived.Test.YtbccachkkflceaaFmSaid
import Derived.Test.YtbccachkkflceaaBase
import Derived.Deep.QuietTactic
import Derived.BigQuiet
namespace Go.Proofs.Ytbccachkkflceaa.FmParts
open Go.RowKit Go.Shelf Go.Proofs.Ytbccachkkflceaa.Plain Go.Proofs.Ytbccachkkflceaa.Fm Go.Proofs.Ytbccachkkflceaa.FmB Go.Proofs.Ytbccachkkflceaa.Rect Go.Proofs.Ytbccachkkflceaa.FmNo Go.Proofs.Ytbccachkkflceaa.FmSaid Go.Proofs.Ytbccachkkflceaa.Base
open Go.Proofs.Ytbccachkkflceaa.FmRead (drawn_at)
set_option linter.unusedVariables false
set_option linter.unusedSimpArgs false

theorem str_data (l : List UInt8) : (str l).data.toList = l := by simp [str]
set_option maxHeartbeats 1000000 in
/-- both formulas behind a sign -/
theorem parts_w (a : Bool) (f g : F) (hf : wf 3 f) (s : ByteArray) (h : s.data.toList = text (.gate a f g)) (hs : s.size ≤ 1048576) (w : World) :
    Calls Try.prog 36 #[.string s] w fun e w' => e = .returned (.tuple #[.string (str (text f)), .string (str (text g))]) ∧ Below w.heap.size w w' := by
  have h3 : s.data.toList.drop 1 = text f ++ text g := by rw [h]; rfl
  have hl : 1 + (text f).length + (text g).length = s.size := by
    have := congrArg List.length h
    simp [text] at this
    omega
  have HE : Hid (∀ W, Calls Try.prog 33 #[.string s, .int .i64 1, .int .i64 3] W fun e w' => e = .returned (.int .i64 ((1 + (text f).length : Nat) : Int)) ∧ W = w') := fun W => end_yes s hs 3 (by omega) f hf 1 (by omega) (text g) h3 W
  have hA : s.extract 1 (1 + (text f).length) = str (text f) := by
    apply eq_str
    rw [data_extract, h3, show 1 + (text f).length - 1 = (text f).length by omega, List.take_left]
  have hB : s.extract (1 + (text f).length) s.size = str (text g) := by
    apply extract_rest
    rw [← List.drop_drop, h3, List.drop_left]
  generalize str (text f) = A at *
  generalize str (text g) = B at *
  obtain ⟨k, hk⟩ : ∃ k, 1 + (text f).length = k := ⟨_, rfl⟩
  rw [hk] at HE hA hB hl
  have hk3 : 1 ≤ k := by omega
  have hks : k ≤ s.size := by omega
  have HA := Lib.hid hA
  have HB := Lib.hid hB
  clear h h3 hl hk hA hB
  go_enter Try.func36, Try.ntmps36
  go_wp2_with fail
  refine (HE.out _).mono ?_
  rintro e w' ⟨rfl, rfl⟩
  go_wp2_with fail
  go_quiet (fail)
  go_wp2_with fail
  go_returns
  exact ⟨by rw [← HA.out, ← HB.out]; rfl, drawn_at _ _⟩

theorem neq_not (a v : Bool) : (a != !v) = (a == v) := by cases a <;> cases v <;> rfl
set_option maxHeartbeats 400000 in
theorem bit_w (k : Nat) (v : Bool) (hk : k < 3) (n : Nat) (hn : n < 8) (w : World) :
    Calls Try.prog 57 #[.int .u8 ((litB k v).toNat : Int), .int .i64 (n : Int)] w fun e w' => e = .returned (.bool (val (.lit k v) n)) ∧ w = w' := by
  have HL := Lib.hid (letter_w (litB k v))
  rw [(letK_lit k v hk).1, (letK_lit k v hk).2] at HL
  have HI := Lib.hid (l2In_any n k (by omega) (by omega))
  have hv : val (.lit k v) n = (n.testBit k != !v) := (neq_not _ _).symm
  rw [hv]
  generalize n.testBit k = tb at *
  generalize ((litB k v).toNat : Int) = c at *
  clear hv
  go_enter Try.func57, Try.ntmps57
  go_wp2_with fail
  refine (HL.out _).mono ?_
  rintro e w1 ⟨rfl, rfl⟩
  go_wp2_with fail
  refine (HI.out _).mono ?_
  rintro e w1 ⟨rfl, rfl⟩
  go_wp2_with fail
  go_ret
  exact ⟨by cases tb <;> cases v <;> rfl, rfl⟩

set_option maxHeartbeats 2000000 in
set_option maxRecDepth 100000 in
theorem said_true (n : Nat) (hn : n < 8) (t : F) : wf 3 t → (text t).length ≤ 2000 → ∀ w : World, Calls Try.prog 49 #[.string (str (text t)), .int .i64 (n : Int)] w fun e w' => e = .returned (.bool (val t n)) ∧ Below w.heap.size w w' := by
  induction t with
  | lit k v =>
    intro hw _ w
    have hl : (str (text (.lit k v))).size = 1 := by rw [str_size]; rfl
    obtain ⟨hk, hx⟩ := at_drop (k := 0) (show (str (text (.lit k v))).data.toList.drop 0 = litB k v :: [] from str_data _)
    have HB : Hid (∀ W, Calls Try.prog 57 #[.int .u8 (((str (text (.lit k v)))[0]'hk).toNat : Int), .int .i64 (n : Int)] W fun e w' => e = .returned (.bool (val (.lit k v) n)) ∧ W = w') := fun W => by rw [hx]; exact bit_w k v hw n hn W
    clear hx hw
    generalize val (.lit k v) n = b at *
    generalize str (text (.lit k v)) = s at *
    go_enter Try.func49, Try.ntmps49
    go_wp2_with fail
    refine (HB.out _).mono ?_
    rintro e w1 ⟨rfl, rfl⟩
    go_wp2_with fail
    go_ret
    exact ⟨rfl, Below.refl _ _⟩
  | gate a f g ihz iho =>
    intro hw hl w
    have hlz : (text (.gate a f g)).length = (text f).length + (text g).length + 1 := by simp [text]
    have HZ := Lib.hid (ihz hw.1 (by omega))
    have HO := Lib.hid (iho hw.2 (by omega))
    have pz := text_pos f
    have HP := Lib.hid (parts_w a f g hw.1 (str (text (.gate a f g))) (str_data _) (by rw [str_size]; omega))
    have hsz : 2 ≤ (str (text (.gate a f g))).size := by rw [str_size]; have := text_pos g; omega
    have hne : (((str (text (.gate a f g))).size : Int) == 1) = false := beq_false_of_ne (by omega)
    obtain ⟨hk, hx⟩ := at_drop (k := 0) (show (str (text (.gate a f g))).data.toList.drop 0 = sgn a :: (text f ++ text g) from str_data _)
    have hm : val (.gate a f g) n = if a then val f n && val g n else val f n || val g n := rfl
    have hn0 : ((str (text (.gate a f g)))[0]'hk).toNat = (sgn a).toNat := by rw [hx]
    have HN := Lib.hid hn0
    rw [hm]
    clear hm ihz iho hx pz hl hlz hw hn0
    generalize val f n = b1 at *
    generalize val g n = b2 at *
    generalize str (text (.gate a f g)) = s at *
    generalize str (text f) = sz at *
    generalize str (text g) = so at *
    cases a
    · have hn1 : (s[0]'hk).toNat = 124 := HN.out
      clear HN
      cases b1
      · go_enter Try.func49, Try.ntmps49
        go_wp2_with fail
        refine (HP.out _).mono ?_
        rintro e w1 ⟨rfl, hb1⟩
        go_wp2_with fail
        refine (HZ.out _).mono ?_
        rintro e w2 ⟨rfl, hb2⟩
        go_wp2_with fail
        refine (HO.out _).mono ?_
        rintro e w3 ⟨rfl, hb3⟩
        have h12 := hb1.trans (hb2.mono hb1.size)
        have HB := Lib.hid (h12.trans (hb3.mono h12.size))
        clear hb1 hb2 hb3 h12
        go_wp2_with fail
        go_ret
        exact ⟨by cases b2 <;> rfl, HB.out⟩
      · go_enter Try.func49, Try.ntmps49
        go_wp2_with fail
        refine (HP.out _).mono ?_
        rintro e w1 ⟨rfl, hb1⟩
        go_wp2_with fail
        refine (HZ.out _).mono ?_
        rintro e w2 ⟨rfl, hb2⟩
        have HB := Lib.hid (hb1.trans (hb2.mono hb1.size))
        clear hb1 hb2
        go_wp2_with fail
        go_ret
        exact ⟨by cases b2 <;> rfl, HB.out⟩
    · have hn1 : (s[0]'hk).toNat = 38 := HN.out
      clear HN
      cases b1
      · go_enter Try.func49, Try.ntmps49
        go_wp2_with fail
        refine (HP.out _).mono ?_
        rintro e w1 ⟨rfl, hb1⟩
        go_wp2_with fail
        refine (HZ.out _).mono ?_
        rintro e w2 ⟨rfl, hb2⟩
        have HB := Lib.hid (hb1.trans (hb2.mono hb1.size))
        clear hb1 hb2
        go_wp2_with fail
        go_ret
        exact ⟨by cases b2 <;> rfl, HB.out⟩
      · go_enter Try.func49, Try.ntmps49
        go_wp2_with fail
        refine (HP.out _).mono ?_
        rintro e w1 ⟨rfl, hb1⟩
        go_wp2_with fail
        refine (HZ.out _).mono ?_
        rintro e w2 ⟨rfl, hb2⟩
        go_wp2_with fail
        refine (HO.out _).mono ?_
        rintro e w3 ⟨rfl, hb3⟩
        have h12 := hb1.trans (hb2.mono hb1.size)
        have HB := Lib.hid (h12.trans (hb3.mono h12.size))
        clear hb1 hb2 hb3 h12
        go_wp2_with fail
        go_ret
        exact ⟨by cases b2 <;> rfl, HB.out⟩
end Go.Proofs.Ytbccachkkflceaa.FmParts
