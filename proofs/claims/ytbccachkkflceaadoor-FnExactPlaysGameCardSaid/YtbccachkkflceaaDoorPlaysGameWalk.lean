/-
  The walk of the law on PlaysGame.
-/
import Derived.Test.YtbccachkkflceaaDoorPlS
import Derived.Test.YtbccachkkflceaaDoorPlI
namespace Go.Proofs.YtbccachkkflceaaDoor.fnExactPlaysGame
open Go.RowKit Go.Shelf Go.Proofs.YtbccachkkflceaaDoor.Plain Go.Proofs.YtbccachkkflceaaDoor.Base Go.Proofs.YtbccachkkflceaaDoor.Valid Go.Proofs.YtbccachkkflceaaDoor.Pat Go.Proofs.YtbccachkkflceaaDoor.Tree Go.Proofs.YtbccachkkflceaaDoor.Read Go.Proofs.YtbccachkkflceaaDoor.TreeOf Go.Proofs.YtbccachkkflceaaDoor.PlM Go.Proofs.YtbccachkkflceaaDoor.PlN Go.Proofs.YtbccachkkflceaaDoor.PlS Go.Proofs.YtbccachkkflceaaDoor.PlI Go.Proofs.YtbccachkkflceaaDoor.Wid Go.Proofs.YtbccachkkflceaaDoor.Rect
set_option linter.unusedVariables false
set_option linter.unusedSimpArgs false

set_option maxHeartbeats 2000000 in
/-- what both PlaysGame answer where the text is a protocol of a game -/
theorem both_yes (p : ByteArray) (t : T) (hw : wf t) (h : p.data.toList = text t) (hp : p.size ≤ 2000) (s : ByteArray) (hs : s.size ≤ 1048576) :
    (∀ w, Calls Tryd.prog 8 #[.string p, .string s] w fun e w' => e = .returned (.bool (tabV s && playB t (onesN s) (zerosN s))) ∧ Below w.heap.size w w') ∧
    (∀ w, Calls Tryd.prog 9 #[.string p, .string s] w fun e w' => e = .returned (.bool (tabV s && playB t (onesN s) (zerosN s))) ∧ Below w.heap.size w w') := by
  have hsm : s.size ≤ maxLen := by unfold maxLen; omega
  have HVS := Lib.hid (valid_said p t hw h hp)
  have HTS := Lib.hid (spec_tab s hsm)
  have HTI := Lib.hid (impl_tabv s hsm)
  have HTR := Lib.hid (tree_yes p t hw h hp)
  have HNU := Lib.hid (numbers s hsm)
  have htab := tab_size s
  have hl : (text t).length ≤ 2000 := by rw [← h]; simpa using hp
  have hpe : p = str (text t) := eq_str h
  cases htv : tabV s
  · rw [htv] at HTS HTI
    simp only [Bool.false_and]
    obtain ⟨ty, v, ev⟩ := tree_iface t
    rw [ev] at HTR
    clear h hpe htab HNU htv hw hl ev
    constructor
    · intro w
      go_enter Tryd.func8, Tryd.ntmps8
      go_wp2_with fail
      refine (HVS.out _).mono ?_
      rintro e w1 ⟨rfl, rfl⟩
      go_wp2_with fail
      refine (HTS.out _).mono ?_
      rintro e w1 ⟨rfl, rfl⟩
      go_wp2_with fail
      go_ret
      exact ⟨rfl, Below.refl _ _⟩
    · intro w
      go_enter Tryd.func9, Tryd.ntmps9
      go_wp2_with fail
      refine (HTR.out _).mono ?_
      rintro e w1 ⟨rfl, hb1⟩
      have HB1 := Lib.hid hb1
      clear hb1
      go_wp2_with fail
      refine (HTI.out _).mono ?_
      rintro e w2 ⟨rfl, hb2⟩
      have HB2 := Lib.hid (HB1.out.trans (hb2.mono HB1.out.size))
      clear hb2
      go_wp2_with fail
      go_ret
      exact ⟨rfl, HB2.out⟩
  · obtain ⟨b, g1, g2, g3, g4, g5, g6⟩ := htab htv
    have hsame := plays_same t s b g3 g6
    have HSP := Lib.hid (spec_plays t hw hl s b g3 g6 g4 g5 g2)
    rw [← hsame, ← hpe] at HSP
    have HPW := Lib.hid (plays_w t hl (onesN s) (zerosN s) (ones_lt s g6) (zeros_lt s g6))
    have hnv : numV s = rect (onesN s) (zerosN s) := by unfold numV; rw [htv]; rfl
    rw [hnv] at HNU
    rw [htv] at HTS HTI
    simp only [Bool.true_and]
    obtain ⟨ty, v, ev⟩ := tree_iface t
    rw [ev] at HTR HPW
    generalize playB t (onesN s) (zerosN s) = res at *
    generalize onesN s = on at *
    generalize zerosN s = ze at *
    clear h hpe htab htv hw hl ev hsame hnv g1 g2 g3 g4 g5 g6
    constructor
    · intro w
      go_enter Tryd.func8, Tryd.ntmps8
      go_wp2_with fail
      refine (HVS.out _).mono ?_
      rintro e w1 ⟨rfl, rfl⟩
      go_wp2_with fail
      refine (HTS.out _).mono ?_
      rintro e w1 ⟨rfl, rfl⟩
      go_wp2_with fail
      refine (HSP.out _).mono ?_
      rintro e w2 ⟨rfl, hb⟩
      have HB := Lib.hid hb
      clear hb
      go_wp2_with fail
      go_ret
      exact ⟨rfl, HB.out⟩
    · intro w
      go_enter Tryd.func9, Tryd.ntmps9
      go_wp2_with fail
      refine (HTR.out _).mono ?_
      rintro e w1 ⟨rfl, hb1⟩
      have HB1 := Lib.hid hb1
      clear hb1
      go_wp2_with fail
      refine (HTI.out _).mono ?_
      rintro e w2 ⟨rfl, hb2⟩
      have HB2 := Lib.hid (HB1.out.trans (hb2.mono HB1.out.size))
      clear hb2
      go_wp2_with fail
      refine (HNU.out _).mono ?_
      rintro e w3 ⟨rfl, hb3⟩
      have HB3 := Lib.hid (HB2.out.trans (hb3.mono HB2.out.size))
      clear hb3
      go_wp2_with fail
      refine (HPW.out _).mono ?_
      rintro e w4 ⟨rfl, hb4⟩
      have HB4 := Lib.hid (HB3.out.trans (hb4.mono HB3.out.size))
      clear hb4
      go_wp2_with fail
      go_ret
      exact ⟨rfl, HB4.out⟩
set_option maxHeartbeats 1000000 in
theorem both_no (p : ByteArray) (h : ¬ Ok p) (hp : p.size ≤ 1048576) (s : ByteArray) :
    (∀ w, Calls Tryd.prog 8 #[.string p, .string s] w fun e w' => e = .returned (.bool false) ∧ Below w.heap.size w w') ∧
    (∀ w, Calls Tryd.prog 9 #[.string p, .string s] w fun e w' => e = .returned (.bool false) ∧ Below w.heap.size w w') := by
  have HVS := Lib.hid (valid_no p h hp)
  have HTR := Lib.hid (tree_no p h hp)
  clear h
  constructor
  · intro w
    go_enter Tryd.func8, Tryd.ntmps8
    go_wp2_with fail
    refine (HVS.out _).mono ?_
    rintro e w1 ⟨rfl, rfl⟩
    go_wp2_with fail
    go_ret
    exact ⟨rfl, Below.refl _ _⟩
  · intro w
    go_enter Tryd.func9, Tryd.ntmps9
    go_wp2_with fail
    refine (HTR.out _).mono ?_
    rintro e w1 ⟨rfl, hb1⟩
    have HB1 := Lib.hid hb1
    clear hb1
    go_wp2_with fail
    go_ret
    exact ⟨rfl, HB1.out⟩
theorem both (p : ByteArray) (hp : p.size ≤ 1048576) (s : ByteArray) (hs : s.size ≤ 1048576) : ∃ b,
    (∀ w, Calls Tryd.prog 8 #[.string p, .string s] w fun e w' => e = .returned (.bool b) ∧ Below w.heap.size w w') ∧
    (∀ w, Calls Tryd.prog 9 #[.string p, .string s] w fun e w' => e = .returned (.bool b) ∧ Below w.heap.size w w') := by
  rcases ok_or p with ⟨t, h1, h2, h3⟩ | h
  · exact ⟨_, both_yes p t h1 h2 h3 s hs⟩
  · exact ⟨_, both_no p h hp s⟩

set_option maxHeartbeats 1000000 in
theorem walk (p : ByteArray) (hp : p.size ≤ maxLen) (s : ByteArray) (hs : s.size ≤ maxLen) (w : World) :
    Calls Tryd.prog 3 #[.string p, .string s] w fun e w' => e = .returned (.bool true) ∧ Below w.heap.size w w' := by
  unfold maxLen at hp hs
  by_cases hbig : 1048576 < p.size
  · go_enter Tryd.func3, Tryd.ntmps3
    go_wp2_with fail
    go_ret
    exact ⟨rfl, Below.refl _ _⟩
  replace hbig : p.size ≤ 1048576 := by omega
  by_cases hbig2 : 1048576 < s.size
  · go_enter Tryd.func3, Tryd.ntmps3
    go_wp2_with fail
    go_ret
    exact ⟨rfl, Below.refl _ _⟩
  replace hbig2 : s.size ≤ 1048576 := by omega
  obtain ⟨b, hS, hI⟩ := both p hbig s hbig2
  have HS := Lib.hid hS
  have HI := Lib.hid hI
  clear hS hI
  cases b
  all_goals
    go_enter Tryd.func3, Tryd.ntmps3
    go_wp2_with fail
    refine (HS.out _).mono ?_
    rintro e w1 ⟨rfl, hb1⟩
    go_wp2_with fail
    refine (HI.out _).mono ?_
    rintro e w2 ⟨rfl, hb2⟩
    have HB := Lib.hid (hb1.trans (hb2.mono hb1.size))
    clear hb1 hb2
    go_wp2_with fail
    go_ret
    exact ⟨rfl, HB.out⟩
end Go.Proofs.YtbccachkkflceaaDoor.fnExactPlaysGame
