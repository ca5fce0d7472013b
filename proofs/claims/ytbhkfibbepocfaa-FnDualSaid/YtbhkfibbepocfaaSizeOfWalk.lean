/-
  The walk of the law on SizeOf.
-/
import Derived.Test.YtbhkfibbepocfaaFmMeth
import Derived.Test.YtbhkfibbepocfaaFmParts
namespace Go.Proofs.Ytbhkfibbepocfaa.fnExactSizeOf
open Go.RowKit Go.Shelf Go.Proofs.Ytbhkfibbepocfaa.Plain Go.Proofs.Ytbhkfibbepocfaa.Fm Go.Proofs.Ytbhkfibbepocfaa.FmB Go.Proofs.Ytbhkfibbepocfaa.FmRead Go.Proofs.Ytbhkfibbepocfaa.FmNo Go.Proofs.Ytbhkfibbepocfaa.FmSaid Go.Proofs.Ytbhkfibbepocfaa.FmParts Go.Proofs.Ytbhkfibbepocfaa.FmMeth
set_option linter.unusedVariables false
set_option linter.unusedSimpArgs false

set_option maxHeartbeats 1000000 in
theorem spec_yes (s : ByteArray) (t : F) (hw : wf 3 t) (h : s.data.toList = text t) (hs : s.size ≤ 200) (w : World) :
    Calls Try.prog 15 #[.string s] w fun e w' => e = .returned (.int .i64 (size t : Int)) ∧ Below w.heap.size w w' := by
  have HV : Hid (∀ W, Calls Try.prog 27 #[.string s, .int .i64 3] W fun e w' => e = .returned (.bool true) ∧ W = w') := valid_yes s 3 (by omega) t hw h hs
  have hl : (text t).length = s.size := by rw [← h]; simp
  have hz := text_size t
  have hd : ((s.size : Int) + 1) / 2 = (size t : Int) := by omega
  have hq : IntKind.i64.wrap (((s.size : Int) + 1) / 2) = (size t : Int) := by rw [hd, IntKind.wrap_i64]; omega
  generalize size t = n at *
  clear h hl hw hz
  go_enter Try.func15, Try.ntmps15
  go_wp2_with fail
  refine (HV.out _).mono ?_
  rintro e w1 ⟨rfl, rfl⟩
  go_wp2_with fail
  go_ret
  exact ⟨by first | rfl | (rw [hq]; rfl) | (rw [hd]; rfl), Below.refl _ _⟩
set_option maxHeartbeats 1000000 in
theorem spec_no (s : ByteArray) (h : ¬ Ok 3 s) (hs : s.size ≤ 1048576) (w : World) :
    Calls Try.prog 15 #[.string s] w fun e w' => e = .returned (.int .i64 (-1)) ∧ Below w.heap.size w w' := by
  have HV : Hid (∀ W, Calls Try.prog 27 #[.string s, .int .i64 3] W fun e w' => e = .returned (.bool false) ∧ W = w') := valid_no s 3 (by omega) h hs
  clear h
  go_enter Try.func15, Try.ntmps15
  go_wp2_with fail
  refine (HV.out _).mono ?_
  rintro e w1 ⟨rfl, rfl⟩
  go_wp2_with fail
  go_ret
  exact ⟨rfl, Below.refl _ _⟩
set_option maxHeartbeats 1000000 in
theorem impl_yes (s : ByteArray) (t : F) (hw : wf 3 t) (h : s.data.toList = text t) (hs : s.size ≤ 200) (w : World) :
    Calls Try.prog 12 #[.string s] w fun e w' => e = .returned (.int .i64 (size t : Int)) ∧ Below w.heap.size w w' := by
  have HT : Hid (∀ W, Calls Try.prog 24 #[.string s, .int .i64 3] W fun e w' => e = .returned (tree t) ∧ Below W.heap.size W w') := tree_yes 3 (by omega) (by omega) s t hw h hs
  have hl : (text t).length = s.size := by rw [← h]; simp
  have hz := text_size t
  have hC := cnt_to t (by omega)
  unfold CntC at hC
  generalize size t = n at *
  clear h hl hw hz
  rcases hC with ⟨V, ev, hv⟩ | ⟨X, Y, Z, ev, hv⟩
  · have HC := Lib.hid hv
    rw [ev] at HT
    clear ev hv
    go_enter Try.func12, Try.ntmps12
    go_wp2_with fail
    refine (HT.out _).mono ?_
    rintro e w1 ⟨rfl, hb1⟩
    go_wp2_with fail
    refine (HC.out _).mono ?_
    rintro e w2 ⟨rfl, hb2⟩
    have HB := Lib.hid (hb1.trans (hb2.mono hb1.size))
    clear hb1 hb2
    go_wp2_with fail
    go_ret
    exact ⟨rfl, HB.out⟩
  · have HC := Lib.hid hv
    rw [ev] at HT
    clear ev hv
    go_enter Try.func12, Try.ntmps12
    go_wp2_with fail
    refine (HT.out _).mono ?_
    rintro e w1 ⟨rfl, hb1⟩
    go_wp2_with fail
    try rw [take2]
    refine (HC.out _).mono ?_
    rintro e w2 ⟨rfl, hb2⟩
    have HB := Lib.hid (hb1.trans (hb2.mono hb1.size))
    clear hb1 hb2
    go_wp2_with fail
    go_ret
    exact ⟨rfl, HB.out⟩
set_option maxHeartbeats 1000000 in
theorem impl_no (s : ByteArray) (h : ¬ Ok 3 s) (hs : s.size ≤ 1048576) (w : World) :
    Calls Try.prog 12 #[.string s] w fun e w' => e = .returned (.int .i64 (-1)) ∧ Below w.heap.size w w' := by
  have HT : Hid (∀ W, Calls Try.prog 24 #[.string s, .int .i64 3] W fun e w' => e = .returned .nilIface ∧ Below W.heap.size W w') := tree_no 3 (by omega) (by omega) s h hs
  clear h
  go_enter Try.func12, Try.ntmps12
  go_wp2_with fail
  refine (HT.out _).mono ?_
  rintro e w1 ⟨rfl, hb1⟩
  have HB := Lib.hid hb1
  clear hb1
  go_wp2_with fail
  go_ret
  exact ⟨rfl, HB.out⟩
/-- what both answer -/
def ans (s : ByteArray) (b : Int) : Prop := (∃ t, wf 3 t ∧ s.data.toList = text t ∧ s.size ≤ 200 ∧ b = (size t : Int)) ∨ (¬ Ok 3 s ∧ b = -1)
theorem both (s : ByteArray) (hs : s.size ≤ 1048576) : ∃ b : Int, ans s b ∧ (∀ w, Calls Try.prog 15 #[.string s] w fun e w' => e = .returned (.int .i64 b) ∧ Below w.heap.size w w') ∧
    (∀ w, Calls Try.prog 12 #[.string s] w fun e w' => e = .returned (.int .i64 b) ∧ Below w.heap.size w w') := by
  rcases ok_or 3 s with ⟨t, h1, h2, h3⟩ | h
  · exact ⟨_, .inl ⟨t, h1, h2, h3, rfl⟩, spec_yes s t h1 h2 h3, impl_yes s t h1 h2 h3⟩
  · exact ⟨-1, .inr ⟨h, rfl⟩, spec_no s h hs, impl_no s h hs⟩
set_option maxHeartbeats 400000 in
theorem walk (s : ByteArray) (hs : s.size ≤ maxLen) (w : World) :
    Calls Try.prog 8 #[.string s] w fun e w' => e = .returned (.bool true) ∧ Below w.heap.size w w' := by
  unfold maxLen at hs
  by_cases hbig : 1048576 < s.size
  · go_enter Try.func8, Try.ntmps8
    go_wp2_with fail
    go_ret
    exact ⟨rfl, Below.refl _ _⟩
  obtain ⟨b, _, hS, hI⟩ := both s (by omega)
  have HS := Lib.hid hS
  have HI := Lib.hid hI
  replace hbig : s.size ≤ 1048576 := by omega
  clear hS hI
  go_enter Try.func8, Try.ntmps8
  go_wp2_with fail
  refine (HS.out _).mono ?_
  rintro e w1 ⟨rfl, hb1⟩
  go_wp2_with fail
  refine (HI.out _).mono ?_
  rintro e w2 ⟨rfl, hb2⟩
  have HB := Lib.hid (hb1.trans (hb2.mono hb1.size))
  clear hb1 hb2
  go_wp2_with fail
  go_ret
  exact ⟨rfl, HB.out⟩
end Go.Proofs.Ytbhkfibbepocfaa.fnExactSizeOf
