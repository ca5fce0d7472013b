/-
  The reference on a protocol's text: whether it is an end, its parts, the greatest number of bits, the number of ends.
-/
import Derived.Test.YtbccachkkflceaaGTreeOf
import Derived.Deep.QuietTactic
import Derived.BigQuiet
namespace Go.Proofs.Ytbccachkkflceaa.Parts
open Go.RowKit Go.Shelf Go.Proofs.Ytbccachkkflceaa.Plain Go.Proofs.Ytbccachkkflceaa.Tree Go.Proofs.Ytbccachkkflceaa.Hex Go.Proofs.Ytbccachkkflceaa.Read
set_option linter.unusedVariables false
set_option linter.unusedSimpArgs false

theorem str_data (l : List UInt8) : (str l).data.toList = l := by simp [str]
theorem leaf_yes (s : ByteArray) (h : s.size = 1) (w : World) :
    Calls Try.prog 31 #[.string s] w fun e w' => e = .returned (.bool true) ∧ w = w' := by
  go_enter Try.func31, Try.ntmps31
  go_wp2_with fail
  go_ret
  exact ⟨rfl, rfl⟩
theorem leaf_no (s : ByteArray) (h : 2 ≤ s.size) (w : World) :
    Calls Try.prog 31 #[.string s] w fun e w' => e = .returned (.bool false) ∧ w = w' := by
  have h2 : ((s.size : Int) == 1) = false := beq_false_of_ne (by omega)
  go_enter Try.func31, Try.ntmps31
  go_wp2_with fail
  go_ret
  exact ⟨by simp [h2], rfl⟩

set_option maxHeartbeats 1000000 in
/-- both protocols behind a first bit -/
theorem parts_w (a : Bool) (v : Nat) (z o : T) (hz : wf z) (s : ByteArray) (h : s.data.toList = text (.say a v z o)) (hs : s.size ≤ 1048576) (w : World) :
    Calls Try.prog 32 #[.string s] w fun e w' => e = .returned (.tuple #[.string (str (text z)), .string (str (text o))]) ∧ Below w.heap.size w w' := by
  have h3 : s.data.toList.drop 3 = text z ++ text o := by rw [h]; rfl
  have hl : 3 + (text z).length + (text o).length = s.size := by
    have := congrArg List.length h
    simp [text] at this
    omega
  have HE : Hid (∀ W, Calls Try.prog 18 #[.string s, .int .i64 3] W fun e w' => e = .returned (.int .i64 ((3 + (text z).length : Nat) : Int)) ∧ W = w') := fun W => end_yes s hs z hz 3 (by omega) (text o) h3 W
  have hA : s.extract 3 (3 + (text z).length) = str (text z) := by
    apply eq_str
    rw [data_extract, h3, show 3 + (text z).length - 3 = (text z).length by omega, List.take_left]
  have hB : s.extract (3 + (text z).length) s.size = str (text o) := by
    apply extract_rest
    rw [← List.drop_drop, h3, List.drop_left]
  generalize str (text z) = A at *
  generalize str (text o) = B at *
  obtain ⟨k, hk⟩ : ∃ k, 3 + (text z).length = k := ⟨_, rfl⟩
  rw [hk] at HE hA hB hl
  have hk3 : 3 ≤ k := by omega
  have hks : k ≤ s.size := by omega
  have HA := Lib.hid hA
  have HB := Lib.hid hB
  clear h h3 hl hk hA hB
  go_enter Try.func32, Try.ntmps32
  go_wp2_with fail
  refine (HE.out _).mono ?_
  rintro e w' ⟨rfl, rfl⟩
  go_wp2_with fail
  go_quiet (fail)
  go_wp2_with fail
  go_returns
  exact ⟨by rw [← HA.out, ← HB.out]; rfl, drawn_at _ _⟩

set_option maxHeartbeats 2000000 in
set_option maxRecDepth 100000 in
theorem said_bits (t : T) : wf t → (text t).length ≤ 2000 → ∀ w : World, Calls Try.prog 20 #[.string (str (text t))] w fun e w' => e = .returned (.int .i64 (Tree.bits t : Int)) ∧ Below w.heap.size w w' := by
  induction t with
  | leaf b =>
    intro _ _ w
    have HL : Hid (∀ W, Calls Try.prog 31 #[.string (str (text (.leaf b)))] W fun e w' => e = .returned (.bool true) ∧ W = w') := leaf_yes _ (by rw [str_size]; rfl)
    generalize str (text (.leaf b)) = s at *
    go_enter Try.func20, Try.ntmps20
    go_wp2_with fail
    refine (HL.out _).mono ?_
    rintro e w' ⟨rfl, rfl⟩
    go_wp2_with fail
    go_ret
    exact ⟨rfl, Below.refl _ _⟩
  | say a v z o ihz iho =>
    intro hw hl w
    have hlz : (text (.say a v z o)).length = (text z).length + (text o).length + 3 := by simp [text]
    have HZ := Lib.hid (ihz hw.2.1 (by omega))
    have HO := Lib.hid (iho hw.2.2 (by omega))
    have bz := bits_lt z
    have bo := bits_lt o
    have hm : Tree.bits (.say a v z o) = 1 + max (Tree.bits z) (Tree.bits o) := rfl
    have HL : Hid (∀ W, Calls Try.prog 31 #[.string (str (text (.say a v z o)))] W fun e w' => e = .returned (.bool false) ∧ W = w') := leaf_no _ (by rw [str_size]; omega)
    have HP := Lib.hid (parts_w a v z o hw.2.1 (str (text (.say a v z o))) (str_data _) (by rw [str_size]; omega))
    rw [hm]
    clear hm ihz iho
    generalize Tree.bits z = m at *
    generalize Tree.bits o = n at *
    have HM : Hid (((1 + max m n : Nat) : Int) = 1 + max (m : Int) (n : Int)) := by show _ = _; omega
    have L1 : m ≤ 2000 := by omega
    have L2 : n ≤ 2000 := by omega
    have HWR : Hid (IntKind.i64.wrap (1 + max (m : Int) (n : Int)) = 1 + max (m : Int) (n : Int)) := by show _ = _; simp only [IntKind.wrap_i64, wrap64]; omega
    generalize str (text (.say a v z o)) = s at *
    generalize str (text z) = sz at *
    generalize str (text o) = so at *
    clear hl hlz bz bo hw
    go_enter Try.func20, Try.ntmps20
    go_wp2_with fail
    refine (HL.out _).mono ?_
    rintro e w' ⟨rfl, rfl⟩
    go_wp2_with fail
    refine (HP.out _).mono ?_
    rintro e w1 ⟨rfl, hb1⟩
    go_wp2_with fail
    refine (HZ.out _).mono ?_
    rintro e w2 ⟨rfl, hb2⟩
    go_wp2_with fail
    refine (HO.out _).mono ?_
    rintro e w3 ⟨rfl, hb3⟩
    have h12 := hb1.trans (hb2.mono hb1.size)
    have HB := Lib.hid (h12.trans (hb3.mono h12.size))
    clear hb1 hb2 hb3 h12
    go_wp2_with fail
    go_ret
    exact ⟨by rw [HM.out]; first | rfl | (rw [HWR.out]; rfl), HB.out⟩

end Go.Proofs.Ytbccachkkflceaa.Parts
