/-
  The walk of the law on NotProtocol.
-/
import Derived.Test.YtodfeaelidpckaaSaidTG
import Derived.Test.YtodfeaelidpckaaTextOf
import Derived.Test.YtodfeaelidpckaaGraftP
namespace Go.Proofs.Ytodfeaelidpckaa.fnExactNotProtocol
open Go.RowKit Go.Shelf Go.Proofs.Ytodfeaelidpckaa.Plain Go.Proofs.Ytodfeaelidpckaa.Tree Go.Proofs.Ytodfeaelidpckaa.Read Go.Proofs.Ytodfeaelidpckaa.TreeOf Go.Proofs.Ytodfeaelidpckaa.Parts Go.Proofs.Ytodfeaelidpckaa.SaidTG Go.Proofs.Ytodfeaelidpckaa.TextOf
set_option linter.unusedVariables false
set_option linter.unusedSimpArgs false

theorem one_ok (b : Bool) : wf (.leaf b) ∧ (valS b).data.toList = text (.leaf b) ∧ (valS b).size ≤ 2000 := ⟨trivial, rfl, by show 1 ≤ 2000; decide⟩
theorem not_length (t : T) : (text (graftT (.leaf true) (.leaf false) t)).length = (text t).length := by
  have := graft_length (.leaf true) (.leaf false) t
  simp [text] at this
  exact this
set_option maxHeartbeats 2000000 in
theorem spec_yes (s : ByteArray) (t : T) (hw : wf t) (h : s.data.toList = text t) (hs : s.size ≤ 2000) (w : World) :
    Calls Try.prog 20 #[.string s] w fun e w' => e = .returned (.tuple #[.string (str (text (graftT (.leaf true) (.leaf false) t))), .bool true]) ∧ Below w.heap.size w w' := by
  have HV := Lib.hid (valid_said s t hw h hs)
  have hl : (text t).length = s.size := by rw [← h]; simp
  have HL : Hid (∀ w : World, Calls Try.prog 41 #[.string (str (text t)), .string ⟨#[49]⟩, .string ⟨#[48]⟩] w fun e w' => e = .returned (.string (str (text (graftT (.leaf true) (.leaf false) t)))) ∧ Below w.heap.size w w') := said_graft (.leaf true) (.leaf false) t hw (by omega) (by show 1 ≤ 2000; decide) (by show 1 ≤ 2000; decide)
  have e : s = str (text t) := eq_str h
  rw [← e] at HL
  generalize str (text (graftT (.leaf true) (.leaf false) t)) = q at *
  clear h e hl hw
  go_enter Try.func20, Try.ntmps20
  go_wp2_with fail
  refine (HV.out _).mono ?_
  rintro e w1 ⟨rfl, rfl⟩
  go_wp2_with fail
  refine (HL.out _).mono ?_
  rintro e w2 ⟨rfl, hb⟩
  have HB := Lib.hid hb
  clear hb
  go_wp2_with fail
  go_returns
  exact ⟨rfl, HB.out⟩
set_option maxHeartbeats 1000000 in
theorem spec_no (s : ByteArray) (h : ¬ Ok s) (hs : s.size ≤ 1048576) (w : World) :
    Calls Try.prog 20 #[.string s] w fun e w' => e = .returned (.tuple #[.string (str []), .bool false]) ∧ Below w.heap.size w w' := by
  have HV := Lib.hid (valid_no s h hs)
  clear h
  go_enter Try.func20, Try.ntmps20
  go_wp2_with fail
  refine (HV.out _).mono ?_
  rintro e w1 ⟨rfl, rfl⟩
  go_wp2_with fail
  go_returns
  exact ⟨rfl, Below.refl _ _⟩
set_option maxHeartbeats 1000000 in
theorem impl_of (s q : ByteArray) (b : Bool) (hG : ∀ W : World, Calls Try.prog 23 #[.string s, .string ⟨#[49]⟩, .string ⟨#[48]⟩] W fun e w' => e = .returned (.tuple #[.string q, .bool b]) ∧ Below W.heap.size W w') (w : World) :
    Calls Try.prog 21 #[.string s] w fun e w' => e = .returned (.tuple #[.string q, .bool b]) ∧ Below w.heap.size w w' := by
  have HG := Lib.hid hG
  clear hG
  go_enter Try.func21, Try.ntmps21
  go_wp2_with fail
  refine (HG.out _).mono ?_
  rintro e w1 ⟨rfl, hb⟩
  have HB := Lib.hid hb
  clear hb
  go_wp2_with fail
  go_returns
  exact ⟨rfl, HB.out⟩
theorem both (s : ByteArray) (hs : s.size ≤ 1048576) : ∃ (q : ByteArray) (b : Bool), (∀ w, Calls Try.prog 20 #[.string s] w fun e w' => e = .returned (.tuple #[.string q, .bool b]) ∧ Below w.heap.size w w') ∧
    (∀ w, Calls Try.prog 21 #[.string s] w fun e w' => e = .returned (.tuple #[.string q, .bool b]) ∧ Below w.heap.size w w') := by
  obtain ⟨x1, x2, x3⟩ := one_ok true
  obtain ⟨y1, y2, y3⟩ := one_ok false
  rcases ok_or s with ⟨t, h1, h2, h3⟩ | h
  · have hl : (text t).length = s.size := by rw [← h2]; simp
    have hn := not_length t
    refine ⟨_, true, spec_yes s t h1 h2 h3, impl_of s _ true fun W => ?_⟩
    exact Go.Proofs.Ytodfeaelidpckaa.GraftP.impl_yes s (valS true) (valS false) t (.leaf true) (.leaf false) h1 x1 y1 h2 x2 y2 h3 x3 y3 _ true (by unfold textV; rw [if_pos (by omega)]) (by omega) W
  · exact ⟨_, false, spec_no s h hs, impl_of s _ false fun W => Go.Proofs.Ytodfeaelidpckaa.GraftP.impl_no s (valS true) (valS false) hs (by omega) (by omega) (.inl h) W⟩

set_option maxHeartbeats 1000000 in
theorem walk (s : ByteArray) (hs : s.size ≤ maxLen) (w : World) :
    Calls Try.prog 7 #[.string s] w fun e w' => e = .returned (.bool true) ∧ Below w.heap.size w w' := by
  unfold maxLen at hs
  by_cases bigs : 1048576 < s.size
  · go_enter Try.func7, Try.ntmps7
    go_wp2_with fail
    go_ret
    exact ⟨rfl, Below.refl _ _⟩
  replace bigs : s.size ≤ 1048576 := by omega
  obtain ⟨q, b, hS, hI⟩ := both s bigs
  have HS := Lib.hid hS
  have HI := Lib.hid hI
  clear hS hI
  cases b
  all_goals
    go_enter Try.func7, Try.ntmps7
    go_wp2_with fail
    refine (HS.out _).mono ?_
    rintro e w1 ⟨rfl, hb1⟩
    go_wp2_with fail
    refine (HI.out _).mono ?_
    rintro e w2 ⟨rfl, hb2⟩
    have HB := Lib.hid (hb1.trans (hb2.mono hb1.size))
    clear hb1 hb2
    go_wp2_with fail
    go_ret
    exact ⟨rfl, HB.out⟩
end Go.Proofs.Ytodfeaelidpckaa.fnExactNotProtocol
