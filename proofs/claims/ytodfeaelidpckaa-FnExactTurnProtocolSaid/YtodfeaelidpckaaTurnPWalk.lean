/-
  The walk of the law on TurnProtocol.
-/
import Derived.Test.YtodfeaelidpckaaSaidTG
import Derived.Test.YtodfeaelidpckaaTextOf
import Derived.Test.YtodfeaelidpckaaEdit
namespace Go.Proofs.Ytodfeaelidpckaa.fnExactTurnProtocol
open Go.RowKit Go.Shelf Go.Proofs.Ytodfeaelidpckaa.Plain Go.Proofs.Ytodfeaelidpckaa.Tree Go.Proofs.Ytodfeaelidpckaa.Read Go.Proofs.Ytodfeaelidpckaa.TreeOf Go.Proofs.Ytodfeaelidpckaa.Parts Go.Proofs.Ytodfeaelidpckaa.SaidTG Go.Proofs.Ytodfeaelidpckaa.TextOf
open Go.Proofs.Ytodfeaelidpckaa.Edit (edit_to)
set_option linter.unusedVariables false
set_option linter.unusedSimpArgs false

set_option maxHeartbeats 1000000 in
theorem spec_yes (s : ByteArray) (t : T) (hw : wf t) (h : s.data.toList = text t) (hs : s.size ≤ 2000) (w : World) :
    Calls Try.prog 18 #[.string s] w fun e w' => e = .returned (.tuple #[.string (str (text (turnT t))), .bool true]) ∧ Below w.heap.size w w' := by
  have HV := Lib.hid (valid_said s t hw h hs)
  have hl : (text t).length = s.size := by rw [← h]; simp
  have HL := Lib.hid (said_turn t hw (by omega))
  have e : s = str (text t) := eq_str h
  rw [← e] at HL
  generalize str (text (turnT t)) = q at *
  clear h e hl hw
  go_enter Try.func18, Try.ntmps18
  go_wp2_with fail
  refine (HV.out _).mono ?_
  rintro e w1 ⟨rfl, rfl⟩
  go_wp2_with fail
  refine (HL.out _).mono ?_
  rintro e w2 ⟨rfl, hb⟩
  have HB := Lib.hid hb
  clear hb
  go_wp2_with fail
  go_returns
  exact ⟨rfl, HB.out⟩
set_option maxHeartbeats 1000000 in
theorem spec_no (s : ByteArray) (h : ¬ Ok s) (hs : s.size ≤ 1048576) (w : World) :
    Calls Try.prog 18 #[.string s] w fun e w' => e = .returned (.tuple #[.string (str []), .bool false]) ∧ Below w.heap.size w w' := by
  have HV := Lib.hid (valid_no s h hs)
  clear h
  go_enter Try.func18, Try.ntmps18
  go_wp2_with fail
  refine (HV.out _).mono ?_
  rintro e w1 ⟨rfl, rfl⟩
  go_wp2_with fail
  go_returns
  exact ⟨rfl, Below.refl _ _⟩
set_option maxHeartbeats 1000000 in
theorem impl_yes (s : ByteArray) (t : T) (hw : wf t) (h : s.data.toList = text t) (hs : s.size ≤ 2000) (w : World) :
    Calls Try.prog 19 #[.string s] w fun e w' => e = .returned (.tuple #[.string (str (text (turnT t))), .bool true]) ∧ Below w.heap.size w w' := by
  have HT := Lib.hid (tree_yes s t hw h hs)
  have hl : (text t).length = s.size := by rw [← h]; simp
  have hX : ∀ W : World, Calls Try.prog 39 #[tree (turnT t)] W fun e w' => e = .returned (.tuple #[.string (str (text (turnT t))), .bool true]) ∧ Below W.heap.size W w' := fun W => by
    have h2 := text_of (turnT t) (turn_wf t hw) (by rw [turn_length]; omega) W
    unfold textV at h2
    rw [if_pos (by rw [turn_length]; omega)] at h2
    exact h2
  have HX := Lib.hid hX
  have hC := edit_to t
  generalize str (text (turnT t)) = q at *
  unfold Go.Proofs.Ytodfeaelidpckaa.Edit.EditC at hC
  generalize tree (turnT t) = tr at *
  clear h hl hw hX
  rcases hC with ⟨V, ev, hv⟩ | ⟨V, ev, hv⟩
  all_goals
    have HC := Lib.hid hv
    rw [ev] at HT
    clear ev hv
    go_enter Try.func19, Try.ntmps19
    go_wp2_with fail
    refine (HT.out _).mono ?_
    rintro e w1 ⟨rfl, hb1⟩
    go_wp2_with fail
    refine (HC.out _).mono ?_
    rintro e w2 ⟨rfl, hb2⟩
    go_wp2_with fail
    refine (HX.out _).mono ?_
    rintro e w3 ⟨rfl, hb3⟩
    have h12 := hb1.trans (hb2.mono hb1.size)
    have HB := Lib.hid (h12.trans (hb3.mono h12.size))
    clear hb1 hb2 hb3 h12
    go_wp2_with fail
    go_returns
    exact ⟨rfl, HB.out⟩
set_option maxHeartbeats 1000000 in
theorem impl_no (s : ByteArray) (h : ¬ Ok s) (hs : s.size ≤ 1048576) (w : World) :
    Calls Try.prog 19 #[.string s] w fun e w' => e = .returned (.tuple #[.string (str []), .bool false]) ∧ Below w.heap.size w w' := by
  have HT := Lib.hid (tree_no s h hs)
  clear h
  go_enter Try.func19, Try.ntmps19
  go_wp2_with fail
  refine (HT.out _).mono ?_
  rintro e w1 ⟨rfl, hb1⟩
  have HB := Lib.hid hb1
  clear hb1
  go_wp2_with fail
  go_returns
  exact ⟨rfl, HB.out⟩
theorem both (s : ByteArray) (hs : s.size ≤ 1048576) : ∃ (q : ByteArray) (b : Bool), (∀ w, Calls Try.prog 18 #[.string s] w fun e w' => e = .returned (.tuple #[.string q, .bool b]) ∧ Below w.heap.size w w') ∧
    (∀ w, Calls Try.prog 19 #[.string s] w fun e w' => e = .returned (.tuple #[.string q, .bool b]) ∧ Below w.heap.size w w') := by
  rcases ok_or s with ⟨t, h1, h2, h3⟩ | h
  · exact ⟨_, true, spec_yes s t h1 h2 h3, impl_yes s t h1 h2 h3⟩
  · exact ⟨_, false, spec_no s h hs, impl_no s h hs⟩

set_option maxHeartbeats 1000000 in
theorem walk (s : ByteArray) (hs : s.size ≤ maxLen) (w : World) :
    Calls Try.prog 6 #[.string s] w fun e w' => e = .returned (.bool true) ∧ Below w.heap.size w w' := by
  unfold maxLen at hs
  by_cases bigs : 1048576 < s.size
  · go_enter Try.func6, Try.ntmps6
    go_wp2_with fail
    go_ret
    exact ⟨rfl, Below.refl _ _⟩
  replace bigs : s.size ≤ 1048576 := by omega
  obtain ⟨q, b, hS, hI⟩ := both s bigs
  have HS := Lib.hid hS
  have HI := Lib.hid hI
  clear hS hI
  cases b
  all_goals
    go_enter Try.func6, Try.ntmps6
    go_wp2_with fail
    refine (HS.out _).mono ?_
    rintro e w1 ⟨rfl, hb1⟩
    go_wp2_with fail
    refine (HI.out _).mono ?_
    rintro e w2 ⟨rfl, hb2⟩
    have HB := Lib.hid (hb1.trans (hb2.mono hb1.size))
    clear hb1 hb2
    go_wp2_with fail
    go_ret
    exact ⟨rfl, HB.out⟩
end Go.Proofs.Ytodfeaelidpckaa.fnExactTurnProtocol
