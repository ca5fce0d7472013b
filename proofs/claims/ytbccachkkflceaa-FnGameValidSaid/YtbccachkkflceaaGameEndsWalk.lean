/-
  The walk of the law on GameEnds.
-/
import Derived.Test.YtbccachkkflceaaGCount
import Derived.Test.YtbccachkkflceaaGParts
namespace Go.Proofs.Ytbccachkkflceaa.fnExactGameEnds
open Go.RowKit Go.Shelf Go.Proofs.Ytbccachkkflceaa.Plain Go.Proofs.Ytbccachkkflceaa.Tree Go.Proofs.Ytbccachkkflceaa.Read Go.Proofs.Ytbccachkkflceaa.TreeOf Go.Proofs.Ytbccachkkflceaa.Parts
open Go.Proofs.Ytbccachkkflceaa.Count (count_ends)
set_option linter.unusedVariables false
set_option linter.unusedSimpArgs false

theorem text_ends : ∀ t : T, (text t).length + 3 = 4 * ends t
  | .leaf _ => rfl
  | .say _ _ z o => by
    have h1 := text_ends z
    have h2 := text_ends o
    simp only [text, ends, List.length_cons, List.length_append]
    omega
set_option maxHeartbeats 1000000 in
theorem spec_yes (s : ByteArray) (t : T) (hw : wf t) (h : s.data.toList = text t) (hs : s.size ≤ 2000) (w : World) :
    Calls Try.prog 12 #[.string s] w fun e w' => e = .returned (.int .i64 (ends t : Int)) ∧ Below w.heap.size w w' := by
  have HV := Lib.hid (valid_said s t hw h hs)
  have hl : (text t).length = s.size := by rw [← h]; simp
  have hz := text_ends t
  have hd : ((s.size : Int) + 3) / 4 = (ends t : Int) := by omega
  have hq : IntKind.i64.wrap (((s.size : Int) + 3) / 4) = (ends t : Int) := by rw [hd, IntKind.wrap_i64]; omega
  generalize ends t = n at *
  clear h hl hw hz
  go_enter Try.func12, Try.ntmps12
  go_wp2_with fail
  refine (HV.out _).mono ?_
  rintro e w1 ⟨rfl, rfl⟩
  go_wp2_with fail
  go_ret
  exact ⟨by first | rfl | (rw [hq]; rfl) | (rw [hd]; rfl), Below.refl _ _⟩
set_option maxHeartbeats 1000000 in
theorem spec_no (s : ByteArray) (h : ¬ Ok s) (hs : s.size ≤ 1048576) (w : World) :
    Calls Try.prog 12 #[.string s] w fun e w' => e = .returned (.int .i64 (-1)) ∧ Below w.heap.size w w' := by
  have HV := Lib.hid (valid_no s h hs)
  clear h
  go_enter Try.func12, Try.ntmps12
  go_wp2_with fail
  refine (HV.out _).mono ?_
  rintro e w1 ⟨rfl, rfl⟩
  go_wp2_with fail
  go_ret
  exact ⟨rfl, Below.refl _ _⟩
set_option maxHeartbeats 1000000 in
theorem impl_yes (s : ByteArray) (t : T) (hw : wf t) (h : s.data.toList = text t) (hs : s.size ≤ 2000) (w : World) :
    Calls Try.prog 13 #[.string s] w fun e w' => e = .returned (.int .i64 (ends t : Int)) ∧ Below w.heap.size w w' := by
  have HT := Lib.hid (tree_yes s t hw h hs)
  have hl : (text t).length = s.size := by rw [← h]; simp
  have hC := count_ends t (by omega)
  clear h hl hw
  rcases hC with ⟨V, ev, hv⟩ | ⟨V, ev, hv⟩
  all_goals
    have HC := Lib.hid hv
    rw [ev] at HT
    clear ev hv
    go_enter Try.func13, Try.ntmps13
    go_wp2_with fail
    refine (HT.out _).mono ?_
    rintro e w1 ⟨rfl, hb1⟩
    go_wp2_with fail
    refine (HC.out _).mono ?_
    rintro e w2 ⟨rfl, hb2⟩
    have HB := Lib.hid (hb1.trans (hb2.mono hb1.size))
    clear hb1 hb2
    go_wp2_with fail
    go_ret
    exact ⟨rfl, HB.out⟩
set_option maxHeartbeats 1000000 in
theorem impl_no (s : ByteArray) (h : ¬ Ok s) (hs : s.size ≤ 1048576) (w : World) :
    Calls Try.prog 13 #[.string s] w fun e w' => e = .returned (.int .i64 (-1)) ∧ Below w.heap.size w w' := by
  have HT := Lib.hid (tree_no s h hs)
  clear h
  go_enter Try.func13, Try.ntmps13
  go_wp2_with fail
  refine (HT.out _).mono ?_
  rintro e w1 ⟨rfl, hb1⟩
  have HB := Lib.hid hb1
  clear hb1
  go_wp2_with fail
  go_ret
  exact ⟨rfl, HB.out⟩
theorem both (s : ByteArray) (hs : s.size ≤ 1048576) : ∃ b : Int, (∀ w, Calls Try.prog 12 #[.string s] w fun e w' => e = .returned (.int .i64 b) ∧ Below w.heap.size w w') ∧
    (∀ w, Calls Try.prog 13 #[.string s] w fun e w' => e = .returned (.int .i64 b) ∧ Below w.heap.size w w') := by
  rcases ok_or s with ⟨t, h1, h2, h3⟩ | h
  · exact ⟨_, spec_yes s t h1 h2 h3, impl_yes s t h1 h2 h3⟩
  · exact ⟨-1, spec_no s h hs, impl_no s h hs⟩

set_option maxHeartbeats 400000 in
theorem walk (s : ByteArray) (hs : s.size ≤ maxLen) (w : World) :
    Calls Try.prog 5 #[.string s] w fun e w' => e = .returned (.bool true) ∧ Below w.heap.size w w' := by
  unfold maxLen at hs
  by_cases hbig : 1048576 < s.size
  · go_enter Try.func5, Try.ntmps5
    go_wp2_with fail
    go_ret
    exact ⟨rfl, Below.refl _ _⟩
  obtain ⟨b, hS, hI⟩ := both s (by omega)
  have HS := Lib.hid hS
  have HI := Lib.hid hI
  replace hbig : s.size ≤ 1048576 := by omega
  clear hS hI
  go_enter Try.func5, Try.ntmps5
  go_wp2_with fail
  refine (HS.out _).mono ?_
  rintro e w1 ⟨rfl, hb1⟩
  go_wp2_with fail
  refine (HI.out _).mono ?_
  rintro e w2 ⟨rfl, hb2⟩
  have HB := Lib.hid (hb1.trans (hb2.mono hb1.size))
  clear hb1 hb2
  go_wp2_with fail
  go_ret
  exact ⟨rfl, HB.out⟩
end Go.Proofs.Ytbccachkkflceaa.fnExactGameEnds
