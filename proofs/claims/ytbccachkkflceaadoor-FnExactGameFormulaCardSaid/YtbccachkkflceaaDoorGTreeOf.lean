/-
  The program's trees of texts: a tree exactly of a protocol that is not too long.
-/
import Derived.Test.YtbccachkkflceaaDoorGReadN
namespace Go.Proofs.YtbccachkkflceaaDoor.TreeOf
open Go.RowKit Go.Shelf Go.Proofs.YtbccachkkflceaaDoor.Plain Go.Proofs.YtbccachkkflceaaDoor.Tree Go.Proofs.YtbccachkkflceaaDoor.Hex Go.Proofs.YtbccachkkflceaaDoor.Rect Go.Proofs.YtbccachkkflceaaDoor.Read
set_option linter.unusedVariables false

/-- a text is a protocol that is not too long -/
def Ok (s : ByteArray) : Prop := s.size ≤ 2000 ∧ Is s.data.toList
theorem ok_or (s : ByteArray) : (∃ t, wf t ∧ s.data.toList = text t ∧ s.size ≤ 2000) ∨ ¬ Ok s := by
  by_cases h : Ok s
  · obtain ⟨h1, t, h2, h3⟩ := h
    exact .inl ⟨t, h2, h3, h1⟩
  · exact .inr h

set_option maxHeartbeats 1000000 in
theorem tree_yes (s : ByteArray) (t : T) (hw : wf t) (h : s.data.toList = text t) (hs : s.size ≤ 2000) (w : World) :
    Calls Tryd.prog 21 #[.string s] w fun e w' => e = .returned (tree t) ∧ Below w.heap.size w w' := by
  have HR : Hid (∀ W, Calls Tryd.prog 42 #[.string s, .int .i64 3] W fun e w' => e = .returned (.tuple #[tree t, .string (str [])]) ∧ Below W.heap.size W w') := fun W => read_yes t hw s (by omega) [] (by rw [h]; simp) W
  have he := is_empty (s := str []) rfl
  generalize str [] = q at *
  obtain ⟨ty, v, ev⟩ := tree_iface t
  rw [ev] at HR ⊢
  clear h ev
  go_enter Tryd.func21, Tryd.ntmps21
  go_wp2_with fail
  refine (HR.out _).mono ?_
  rintro e w1 ⟨rfl, hb1⟩
  have HB := Lib.hid hb1
  clear hb1
  go_wp2_with fail
  go_ret
  exact ⟨rfl, HB.out⟩

set_option maxHeartbeats 1000000 in
theorem tree_no (s : ByteArray) (h : ¬ Ok s) (hs : s.size ≤ 1048576) (w : World) :
    Calls Tryd.prog 21 #[.string s] w fun e w' => e = .returned .nilIface ∧ Below w.heap.size w w' := by
  by_cases hl : 2000 < s.size
  · clear h
    go_enter Tryd.func21, Tryd.ntmps21
    go_wp2_with fail
    go_ret
    exact ⟨rfl, Below.refl _ _⟩
  replace hl : s.size ≤ 2000 := by omega
  rcases yes_or_no s.data.toList with ⟨t, r, hw, e1⟩ | hno
  · have hr : r ≠ [] := fun e => h ⟨hl, t, hw, by rw [e1, e]; simp⟩
    have HR : Hid (∀ W, Calls Tryd.prog 42 #[.string s, .int .i64 3] W fun e w' => e = .returned (.tuple #[tree t, .string (str r)]) ∧ Below W.heap.size W w') := fun W => read_yes t hw s hs r e1 W
    have he := not_empty (s := str r) (by rw [str_size]; exact List.length_pos_iff.2 hr)
    generalize str r = q at *
    obtain ⟨ty, v, ev⟩ := tree_iface t
    rw [ev] at HR
    clear h ev e1 hr
    go_enter Tryd.func21, Tryd.ntmps21
    go_wp2_with fail
    refine (HR.out _).mono ?_
    rintro e w1 ⟨rfl, hb1⟩
    have HB := Lib.hid hb1
    clear hb1
    go_wp2_with fail
    go_ret
    exact ⟨rfl, HB.out⟩
  · have HR : Hid (∀ W, Calls Tryd.prog 42 #[.string s, .int .i64 3] W fun e w' => e = .returned (.tuple #[.nilIface, .string (str [])]) ∧ Below W.heap.size W w') := fun W => read_no s.size s hs (Nat.le_refl _) hno W
    have he := is_empty (s := str []) rfl
    generalize str [] = q at *
    clear h hno
    go_enter Tryd.func21, Tryd.ntmps21
    go_wp2_with fail
    refine (HR.out _).mono ?_
    rintro e w1 ⟨rfl, hb1⟩
    have HB := Lib.hid hb1
    clear hb1
    go_wp2_with fail
    go_ret
    exact ⟨rfl, HB.out⟩

set_option maxHeartbeats 1000000 in
theorem valid_said (s : ByteArray) (t : T) (hw : wf t) (h : s.data.toList = text t) (hs : s.size ≤ 2000) (w : World) :
    Calls Tryd.prog 18 #[.string s] w fun e w' => e = .returned (.bool true) ∧ w = w' := by
  have hl : (text t).length = s.size := by rw [← h]; simp
  have HE : Hid (∀ W, Calls Tryd.prog 39 #[.string s, .int .i64 0] W fun e w' => e = .returned (.int .i64 (s.size : Int)) ∧ W = w') := fun W => by
    have h2 := end_yes s (by omega) t hw 0 (by omega) [] (by rw [List.append_nil]; exact h) W
    rw [hl, Nat.zero_add] at h2
    exact h2
  clear h hl
  go_enter Tryd.func18, Tryd.ntmps18
  go_wp2_with fail
  refine (HE.out _).mono ?_
  rintro e w1 ⟨rfl, rfl⟩
  go_wp2_with fail
  go_ret
  exact ⟨by simp, rfl⟩

set_option maxHeartbeats 1000000 in
theorem valid_no (s : ByteArray) (h : ¬ Ok s) (hs : s.size ≤ 1048576) (w : World) :
    Calls Tryd.prog 18 #[.string s] w fun e w' => e = .returned (.bool false) ∧ w = w' := by
  by_cases hl : 2000 < s.size
  · clear h
    go_enter Tryd.func18, Tryd.ntmps18
    go_wp2_with fail
    go_ret
    exact ⟨by simp, rfl⟩
  replace hl : s.size ≤ 2000 := by omega
  have HE : ∃ n : Int, n ≠ (s.size : Int) ∧ ∀ W, Calls Tryd.prog 39 #[.string s, .int .i64 0] W fun e w' => e = .returned (.int .i64 n) ∧ W = w' := by
    rcases yes_or_no s.data.toList with ⟨t, r, hw, e1⟩ | hno
    · have hr : r ≠ [] := fun e => h ⟨hl, t, hw, by rw [e1, e]; simp⟩
      have hp := List.length_pos_iff.2 hr
      have hlen : (text t).length + r.length = s.size := by have := congrArg List.length e1; simp at this; omega
      refine ⟨((0 + (text t).length : Nat) : Int), by omega, fun W => end_yes s hs t hw 0 (by omega) r e1 W⟩
    · exact ⟨-1, by omega, fun W => end_no s hs s.size 0 (by omega) (by omega) hno W⟩
  obtain ⟨n, hn, hE⟩ := HE
  have HE := Lib.hid hE
  have hn2 : (n == (s.size : Int)) = false := beq_false_of_ne hn
  clear h hE hn
  go_enter Tryd.func18, Tryd.ntmps18
  go_wp2_with fail
  refine (HE.out _).mono ?_
  rintro e w1 ⟨rfl, rfl⟩
  go_wp2_with fail
  go_ret
  exact ⟨by simp, rfl⟩

end Go.Proofs.YtbccachkkflceaaDoor.TreeOf
