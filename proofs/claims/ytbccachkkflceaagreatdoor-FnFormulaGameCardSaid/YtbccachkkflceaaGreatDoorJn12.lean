/-
  Texts of one seat, joined: SizeOfWalk, DeepOfWalk.
-/
import Derived.Test.YtbccachkkflceaaGreatDoorJn1
import Derived.Test.YtbccachkkflceaaGreatDoorJn10
import Derived.Test.YtbccachkkflceaaGreatDoorJn11
/-
  The walk of the law on SizeOf.
-/
namespace Go.Proofs.YtbccachkkflceaaGreatDoor.fnExactSizeOf
open Go.RowKit Go.Shelf Go.Proofs.YtbccachkkflceaaGreatDoor.Plain Go.Proofs.YtbccachkkflceaaGreatDoor.Fm Go.Proofs.YtbccachkkflceaaGreatDoor.FmB Go.Proofs.YtbccachkkflceaaGreatDoor.FmRead Go.Proofs.YtbccachkkflceaaGreatDoor.FmNo Go.Proofs.YtbccachkkflceaaGreatDoor.FmSaid Go.Proofs.YtbccachkkflceaaGreatDoor.FmParts Go.Proofs.YtbccachkkflceaaGreatDoor.FmMeth Go.Proofs.YtbccachkkflceaaGreatDoor.FmCnt
set_option linter.unusedVariables false
set_option linter.unusedSimpArgs false

set_option maxHeartbeats 1000000 in
theorem impl_yes (s : ByteArray) (t : F) (hw : wf 3 t) (h : s.data.toList = text t) (hs : s.size ≤ 200) (w : World) :
    Calls Tryz.prog 14 #[.string s] w fun e w' => e = .returned (.int .i64 (size t : Int)) ∧ Below w.heap.size w w' := by
  have HT : Hid (∀ W, Calls Tryz.prog 21 #[.string s, .int .i64 3] W fun e w' => e = .returned (tree t) ∧ Below W.heap.size W w') := tree_yes 3 (by omega) (by omega) s t hw h hs
  have hl : (text t).length = s.size := by rw [← h]; simp
  have hz := text_size t
  have hC := cnt_to t (by omega)
  unfold CntC at hC
  generalize size t = n at *
  clear h hl hw hz
  rcases hC with ⟨V, ev, hv⟩ | ⟨X, Y, Z, ev, hv⟩
  · have HC := Lib.hid hv
    rw [ev] at HT
    clear ev hv
    go_enter Tryz.func14, Tryz.ntmps14
    go_wp2_with fail
    refine (HT.out _).mono ?_
    rintro e w1 ⟨rfl, hb1⟩
    go_wp2_with fail
    refine (HC.out _).mono ?_
    rintro e w2 ⟨rfl, hb2⟩
    have HB := Lib.hid (hb1.trans (hb2.mono hb1.size))
    clear hb1 hb2
    go_wp2_with fail
    go_ret
    exact ⟨rfl, HB.out⟩
  · have HC := Lib.hid hv
    rw [ev] at HT
    clear ev hv
    go_enter Tryz.func14, Tryz.ntmps14
    go_wp2_with fail
    refine (HT.out _).mono ?_
    rintro e w1 ⟨rfl, hb1⟩
    go_wp2_with fail
    try rw [take2]
    refine (HC.out _).mono ?_
    rintro e w2 ⟨rfl, hb2⟩
    have HB := Lib.hid (hb1.trans (hb2.mono hb1.size))
    clear hb1 hb2
    go_wp2_with fail
    go_ret
    exact ⟨rfl, HB.out⟩
set_option maxHeartbeats 1000000 in
theorem impl_no (s : ByteArray) (h : ¬ Ok 3 s) (hs : s.size ≤ 1048576) (w : World) :
    Calls Tryz.prog 14 #[.string s] w fun e w' => e = .returned (.int .i64 (-1)) ∧ Below w.heap.size w w' := by
  have HT : Hid (∀ W, Calls Tryz.prog 21 #[.string s, .int .i64 3] W fun e w' => e = .returned .nilIface ∧ Below W.heap.size W w') := tree_no 3 (by omega) (by omega) s h hs
  clear h
  go_enter Tryz.func14, Tryz.ntmps14
  go_wp2_with fail
  refine (HT.out _).mono ?_
  rintro e w1 ⟨rfl, hb1⟩
  have HB := Lib.hid hb1
  clear hb1
  go_wp2_with fail
  go_ret
  exact ⟨rfl, HB.out⟩
/-- what both answer -/
def ans (s : ByteArray) (b : Int) : Prop := (∃ t, wf 3 t ∧ s.data.toList = text t ∧ s.size ≤ 200 ∧ b = (size t : Int)) ∨ (¬ Ok 3 s ∧ b = -1)
end Go.Proofs.YtbccachkkflceaaGreatDoor.fnExactSizeOf

/-
  The walk of the law on DeepOf.
-/
namespace Go.Proofs.YtbccachkkflceaaGreatDoor.fnExactDeepOf
open Go.RowKit Go.Shelf Go.Proofs.YtbccachkkflceaaGreatDoor.Plain Go.Proofs.YtbccachkkflceaaGreatDoor.Fm Go.Proofs.YtbccachkkflceaaGreatDoor.FmB Go.Proofs.YtbccachkkflceaaGreatDoor.FmRead Go.Proofs.YtbccachkkflceaaGreatDoor.FmNo Go.Proofs.YtbccachkkflceaaGreatDoor.FmSaid Go.Proofs.YtbccachkkflceaaGreatDoor.FmParts Go.Proofs.YtbccachkkflceaaGreatDoor.FmMeth Go.Proofs.YtbccachkkflceaaGreatDoor.FmCnt
set_option linter.unusedVariables false
set_option linter.unusedSimpArgs false

set_option maxHeartbeats 1000000 in
theorem impl_yes (s : ByteArray) (t : F) (hw : wf 3 t) (h : s.data.toList = text t) (hs : s.size ≤ 200) (w : World) :
    Calls Tryz.prog 12 #[.string s] w fun e w' => e = .returned (.int .i64 (deep t : Int)) ∧ Below w.heap.size w w' := by
  have HT : Hid (∀ W, Calls Tryz.prog 21 #[.string s, .int .i64 3] W fun e w' => e = .returned (tree t) ∧ Below W.heap.size W w') := tree_yes 3 (by omega) (by omega) s t hw h hs
  have hl : (text t).length = s.size := by rw [← h]; simp
  have hz := text_size t
  have HC := Lib.hid (deep_w t (by omega))
  obtain ⟨ty, v, ev⟩ := tree_iface t
  rw [ev] at HT HC
  generalize deep t = n at *
  clear h hl hw hz ev
  go_enter Tryz.func12, Tryz.ntmps12
  go_wp2_with fail
  refine (HT.out _).mono ?_
  rintro e w1 ⟨rfl, hb1⟩
  go_wp2_with fail
  refine (HC.out _).mono ?_
  rintro e w2 ⟨rfl, hb2⟩
  have HB := Lib.hid (hb1.trans (hb2.mono hb1.size))
  clear hb1 hb2
  go_wp2_with fail
  go_ret
  exact ⟨rfl, HB.out⟩
set_option maxHeartbeats 1000000 in
theorem impl_no (s : ByteArray) (h : ¬ Ok 3 s) (hs : s.size ≤ 1048576) (w : World) :
    Calls Tryz.prog 12 #[.string s] w fun e w' => e = .returned (.int .i64 (-1)) ∧ Below w.heap.size w w' := by
  have HT : Hid (∀ W, Calls Tryz.prog 21 #[.string s, .int .i64 3] W fun e w' => e = .returned .nilIface ∧ Below W.heap.size W w') := tree_no 3 (by omega) (by omega) s h hs
  clear h
  go_enter Tryz.func12, Tryz.ntmps12
  go_wp2_with fail
  refine (HT.out _).mono ?_
  rintro e w1 ⟨rfl, hb1⟩
  have HB := Lib.hid hb1
  clear hb1
  go_wp2_with fail
  go_ret
  exact ⟨rfl, HB.out⟩
/-- what both answer -/
def ans (s : ByteArray) (b : Int) : Prop := (∃ t, wf 3 t ∧ s.data.toList = text t ∧ s.size ≤ 200 ∧ b = (deep t : Int)) ∨ (¬ Ok 3 s ∧ b = -1)
end Go.Proofs.YtbccachkkflceaaGreatDoor.fnExactDeepOf

