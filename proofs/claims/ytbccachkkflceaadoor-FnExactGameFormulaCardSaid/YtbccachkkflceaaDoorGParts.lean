/-
  The reference on a protocol's text: whether it is an end, its parts, the greatest number of bits, the number of ends.
-/
import Derived.Test.YtbccachkkflceaaDoorGTreeOf
import Derived.Deep.QuietTactic
import Derived.BigQuiet
namespace Go.Proofs.YtbccachkkflceaaDoor.Parts
open Go.RowKit Go.Shelf Go.Proofs.YtbccachkkflceaaDoor.Plain Go.Proofs.YtbccachkkflceaaDoor.Tree Go.Proofs.YtbccachkkflceaaDoor.Hex Go.Proofs.YtbccachkkflceaaDoor.Read
set_option linter.unusedVariables false
set_option linter.unusedSimpArgs false

theorem str_data (l : List UInt8) : (str l).data.toList = l := by simp [str]
theorem leaf_yes (s : ByteArray) (h : s.size = 1) (w : World) :
    Calls Tryd.prog 46 #[.string s] w fun e w' => e = .returned (.bool true) ∧ w = w' := by
  go_enter Tryd.func46, Tryd.ntmps46
  go_wp2_with fail
  go_ret
  exact ⟨rfl, rfl⟩
theorem leaf_no (s : ByteArray) (h : 2 ≤ s.size) (w : World) :
    Calls Tryd.prog 46 #[.string s] w fun e w' => e = .returned (.bool false) ∧ w = w' := by
  have h2 : ((s.size : Int) == 1) = false := beq_false_of_ne (by omega)
  go_enter Tryd.func46, Tryd.ntmps46
  go_wp2_with fail
  go_ret
  exact ⟨by simp [h2], rfl⟩

set_option maxHeartbeats 1000000 in
/-- both protocols behind a first bit -/
theorem parts_w (a : Bool) (v : Nat) (z o : T) (hz : wf z) (s : ByteArray) (h : s.data.toList = text (.say a v z o)) (hs : s.size ≤ 1048576) (w : World) :
    Calls Tryd.prog 47 #[.string s] w fun e w' => e = .returned (.tuple #[.string (str (text z)), .string (str (text o))]) ∧ Below w.heap.size w w' := by
  have h3 : s.data.toList.drop 3 = text z ++ text o := by rw [h]; rfl
  have hl : 3 + (text z).length + (text o).length = s.size := by
    have := congrArg List.length h
    simp [text] at this
    omega
  have HE : Hid (∀ W, Calls Tryd.prog 39 #[.string s, .int .i64 3] W fun e w' => e = .returned (.int .i64 ((3 + (text z).length : Nat) : Int)) ∧ W = w') := fun W => end_yes s hs z hz 3 (by omega) (text o) h3 W
  have hA : s.extract 3 (3 + (text z).length) = str (text z) := by
    apply eq_str
    rw [data_extract, h3, show 3 + (text z).length - 3 = (text z).length by omega, List.take_left]
  have hB : s.extract (3 + (text z).length) s.size = str (text o) := by
    apply extract_rest
    rw [← List.drop_drop, h3, List.drop_left]
  generalize str (text z) = A at *
  generalize str (text o) = B at *
  obtain ⟨k, hk⟩ : ∃ k, 3 + (text z).length = k := ⟨_, rfl⟩
  rw [hk] at HE hA hB hl
  have hk3 : 3 ≤ k := by omega
  have hks : k ≤ s.size := by omega
  have HA := Lib.hid hA
  have HB := Lib.hid hB
  clear h h3 hl hk hA hB
  go_enter Tryd.func47, Tryd.ntmps47
  go_wp2_with fail
  refine (HE.out _).mono ?_
  rintro e w' ⟨rfl, rfl⟩
  go_wp2_with fail
  go_quiet (fail)
  go_wp2_with fail
  go_returns
  exact ⟨by rw [← HA.out, ← HB.out]; rfl, drawn_at _ _⟩

end Go.Proofs.YtbccachkkflceaaDoor.Parts
