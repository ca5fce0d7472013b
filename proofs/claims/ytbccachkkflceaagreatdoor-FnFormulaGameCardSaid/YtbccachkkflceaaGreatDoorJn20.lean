/-
  Texts of one seat, joined: GTreeOf, GmI.
-/
import Derived.Test.YtbccachkkflceaaGreatDoorJn1
import Derived.Test.YtbccachkkflceaaGreatDoorJn19
import Derived.Test.YtbccachkkflceaaGreatDoorJn18
import Derived.Test.YtbccachkkflceaaGreatDoorJn10
import Derived.Test.YtbccachkkflceaaGreatDoorFreeL
import Derived.Test.YtbccachkkflceaaGreatDoorJn13
import Derived.Laws.EntriesVeiled
/-
  The program's trees of texts: a tree exactly of a protocol that is not too long.
-/
namespace Go.Proofs.YtbccachkkflceaaGreatDoor.TreeOf
open Go.RowKit Go.Shelf Go.Proofs.YtbccachkkflceaaGreatDoor.Plain Go.Proofs.YtbccachkkflceaaGreatDoor.Tree Go.Proofs.YtbccachkkflceaaGreatDoor.Hex Go.Proofs.YtbccachkkflceaaGreatDoor.Rect Go.Proofs.YtbccachkkflceaaGreatDoor.Read
set_option linter.unusedVariables false

/-- a text is a protocol that is not too long -/
def Ok (s : ByteArray) : Prop := s.size ≤ 2000 ∧ Is s.data.toList
theorem ok_or (s : ByteArray) : (∃ t, wf t ∧ s.data.toList = text t ∧ s.size ≤ 2000) ∨ ¬ Ok s := by
  by_cases h : Ok s
  · obtain ⟨h1, t, h2, h3⟩ := h
    exact .inl ⟨t, h2, h3, h1⟩
  · exact .inr h

set_option maxHeartbeats 1000000 in
theorem tree_yes (s : ByteArray) (t : T) (hw : wf t) (h : s.data.toList = text t) (hs : s.size ≤ 2000) (w : World) :
    Calls Tryz.prog 28 #[.string s] w fun e w' => e = .returned (tree t) ∧ Below w.heap.size w w' := by
  have HR : Hid (∀ W, Calls Tryz.prog 54 #[.string s, .int .i64 3] W fun e w' => e = .returned (.tuple #[tree t, .string (str [])]) ∧ Below W.heap.size W w') := fun W => read_yes t hw s (by omega) [] (by rw [h]; simp) W
  have he := is_empty (s := str []) rfl
  generalize str [] = q at *
  obtain ⟨ty, v, ev⟩ := tree_iface t
  rw [ev] at HR ⊢
  clear h ev
  go_enter Tryz.func28, Tryz.ntmps28
  go_wp2_with fail
  refine (HR.out _).mono ?_
  rintro e w1 ⟨rfl, hb1⟩
  have HB := Lib.hid hb1
  clear hb1
  go_wp2_with fail
  go_ret
  exact ⟨rfl, HB.out⟩

set_option maxHeartbeats 1000000 in
theorem tree_no (s : ByteArray) (h : ¬ Ok s) (hs : s.size ≤ 1048576) (w : World) :
    Calls Tryz.prog 28 #[.string s] w fun e w' => e = .returned .nilIface ∧ Below w.heap.size w w' := by
  by_cases hl : 2000 < s.size
  · clear h
    go_enter Tryz.func28, Tryz.ntmps28
    go_wp2_with fail
    go_ret
    exact ⟨rfl, Below.refl _ _⟩
  replace hl : s.size ≤ 2000 := by omega
  rcases yes_or_no s.data.toList with ⟨t, r, hw, e1⟩ | hno
  · have hr : r ≠ [] := fun e => h ⟨hl, t, hw, by rw [e1, e]; simp⟩
    have HR : Hid (∀ W, Calls Tryz.prog 54 #[.string s, .int .i64 3] W fun e w' => e = .returned (.tuple #[tree t, .string (str r)]) ∧ Below W.heap.size W w') := fun W => read_yes t hw s hs r e1 W
    have he := not_empty (s := str r) (by rw [str_size]; exact List.length_pos_iff.2 hr)
    generalize str r = q at *
    obtain ⟨ty, v, ev⟩ := tree_iface t
    rw [ev] at HR
    clear h ev e1 hr
    go_enter Tryz.func28, Tryz.ntmps28
    go_wp2_with fail
    refine (HR.out _).mono ?_
    rintro e w1 ⟨rfl, hb1⟩
    have HB := Lib.hid hb1
    clear hb1
    go_wp2_with fail
    go_ret
    exact ⟨rfl, HB.out⟩
  · have HR : Hid (∀ W, Calls Tryz.prog 54 #[.string s, .int .i64 3] W fun e w' => e = .returned (.tuple #[.nilIface, .string (str [])]) ∧ Below W.heap.size W w') := fun W => read_no s.size s hs (Nat.le_refl _) hno W
    have he := is_empty (s := str []) rfl
    generalize str [] = q at *
    clear h hno
    go_enter Tryz.func28, Tryz.ntmps28
    go_wp2_with fail
    refine (HR.out _).mono ?_
    rintro e w1 ⟨rfl, hb1⟩
    have HB := Lib.hid hb1
    clear hb1
    go_wp2_with fail
    go_ret
    exact ⟨rfl, HB.out⟩

set_option maxHeartbeats 1000000 in
theorem valid_said (s : ByteArray) (t : T) (hw : wf t) (h : s.data.toList = text t) (hs : s.size ≤ 2000) (w : World) :
    Calls Tryz.prog 36 #[.string s] w fun e w' => e = .returned (.bool true) ∧ w = w' := by
  have hl : (text t).length = s.size := by rw [← h]; simp
  have HE : Hid (∀ W, Calls Tryz.prog 65 #[.string s, .int .i64 0] W fun e w' => e = .returned (.int .i64 (s.size : Int)) ∧ W = w') := fun W => by
    have h2 := end_yes s (by omega) t hw 0 (by omega) [] (by rw [List.append_nil]; exact h) W
    rw [hl, Nat.zero_add] at h2
    exact h2
  clear h hl
  go_enter Tryz.func36, Tryz.ntmps36
  go_wp2_with fail
  refine (HE.out _).mono ?_
  rintro e w1 ⟨rfl, rfl⟩
  go_wp2_with fail
  go_ret
  exact ⟨by simp, rfl⟩

set_option maxHeartbeats 1000000 in
theorem valid_no (s : ByteArray) (h : ¬ Ok s) (hs : s.size ≤ 1048576) (w : World) :
    Calls Tryz.prog 36 #[.string s] w fun e w' => e = .returned (.bool false) ∧ w = w' := by
  by_cases hl : 2000 < s.size
  · clear h
    go_enter Tryz.func36, Tryz.ntmps36
    go_wp2_with fail
    go_ret
    exact ⟨by simp, rfl⟩
  replace hl : s.size ≤ 2000 := by omega
  have HE : ∃ n : Int, n ≠ (s.size : Int) ∧ ∀ W, Calls Tryz.prog 65 #[.string s, .int .i64 0] W fun e w' => e = .returned (.int .i64 n) ∧ W = w' := by
    rcases yes_or_no s.data.toList with ⟨t, r, hw, e1⟩ | hno
    · have hr : r ≠ [] := fun e => h ⟨hl, t, hw, by rw [e1, e]; simp⟩
      have hp := List.length_pos_iff.2 hr
      have hlen : (text t).length + r.length = s.size := by have := congrArg List.length e1; simp at this; omega
      refine ⟨((0 + (text t).length : Nat) : Int), by omega, fun W => end_yes s hs t hw 0 (by omega) r e1 W⟩
    · exact ⟨-1, by omega, fun W => end_no s hs s.size 0 (by omega) (by omega) hno W⟩
  obtain ⟨n, hn, hE⟩ := HE
  have HE := Lib.hid hE
  have hn2 : (n == (s.size : Int)) = false := beq_false_of_ne hn
  clear h hE hn
  go_enter Tryz.func36, Tryz.ntmps36
  go_wp2_with fail
  refine (HE.out _).mono ?_
  rintro e w1 ⟨rfl, rfl⟩
  go_wp2_with fail
  go_ret
  exact ⟨by simp, rfl⟩

end Go.Proofs.YtbccachkkflceaaGreatDoor.TreeOf

/-
  The program's movers: who speaks at a gate, and which bit is said there.
-/
namespace Go.Proofs.YtbccachkkflceaaGreatDoor.GmI
open Go.RowKit Go.Shelf Go.Proofs.YtbccachkkflceaaGreatDoor.Plain Go.Proofs.YtbccachkkflceaaGreatDoor.Pat Go.Proofs.YtbccachkkflceaaGreatDoor.GmM Go.Proofs.YtbccachkkflceaaGreatDoor.FreeL
open Go.Proofs.YtbccachkkflceaaGreatDoor.Fm (F val sgn)
open Go.Proofs.YtbccachkkflceaaGreatDoor.FmMeth (TruC tru_to cells2)
open Go.Proofs.YtbccachkkflceaaGreatDoor.Rect (inSet_yes)
open Go.Proofs.YtbccachkkflceaaGreatDoor.Tree (T V3 gN gI gD whoB hexD)
open Go.Proofs.YtbccachkkflceaaGreatDoor.Where (Says where_any)
open Go.Proofs.YtbccachkkflceaaGreatDoor.Free (fill wp_value wp_enter wp_load_row freeB)
set_option linter.unusedVariables false
set_option linter.unusedSimpArgs false

theorem eval_get {a : Act} {d : Tmp} {v : Value} (h : a.tmps[d]?.getD undef = v) : a.eval (.tmp d) = v := by
  rw [← h]
  show a.tmps.getD d undef = _
  simp [Array.getD_eq_getD_getElem?]
theorem cells1 {w : World} {b : Nat} {c0 : Value} {ty : TypeId} (h : w.heap[b]? = some (.cells #[c0] ty (0, 0))) : w.cell? ⟨b, 0, none⟩ = some c0 := cell_of_row _ _ 0 _ _ _ h
/-- the function literal of moverAt, and that of oppose -/
def F50 : Value := .func (.func 82) #[] #[]
def F58 (D : Nat) : Value := .func (.func 104) #[] #[.pointer (some ⟨D, 0, none⟩)]
/-- the mover at the gates with a sign (true: and) -/
def Mv (a : Bool) (B D : Nat) (w : World) : Prop :=
  if a then w.heap[B]? = some (.cells #[.int .u8 66, F58 D] 120 (0, 0)) ∧ w.heap[D]? = some (.cells #[F50] 118 (0, 0))
  else w.heap[B]? = some (.cells #[.int .u8 65, F50] 120 (0, 0))
theorem Mv.later {a : Bool} {B D : Nat} {w w' : World} (h : Mv a B D w) (hb : Below w.heap.size w w') : Mv a B D w' := by
  cases a
  · exact (hb.block _ (Array.getElem?_eq_some_iff.1 h).1).trans h
  · exact ⟨(hb.block _ (Array.getElem?_eq_some_iff.1 h.1).1).trans h.1, (hb.block _ (Array.getElem?_eq_some_iff.1 h.2).1).trans h.2⟩
theorem Mv.lt {a : Bool} {B D : Nat} {w : World} (h : Mv a B D w) : B < w.heap.size := by
  cases a
  · exact (Array.getElem?_eq_some_iff.1 h).1
  · exact (Array.getElem?_eq_some_iff.1 h.1).1

theorem enters50 (args : Array Value) (W : World) : (callFunc 82 args).run Tryz.prog W = .ok (.enter 82 args) W := by kernel_rfl
theorem enters58 (args : Array Value) (W : World) : (callFunc 104 args).run Tryz.prog W = .ok (.enter 104 args) W := by kernel_rfl
theorem enters52 (args : Array Value) (W : World) : (callFunc 84 args).run Tryz.prog W = .ok (.enter 84 args) W := by kernel_rfl
set_option maxHeartbeats 400000 in
theorem c50 (x : Bool) (w : World) : Calls Tryz.prog 82 #[.bool x] w fun e w' => e = .returned (.bool (!x)) ∧ w = w' := by
  go_enter Tryz.func82, Tryz.ntmps82
  go_wp2_with fail
  go_ret
  exact ⟨rfl, rfl⟩
set_option maxHeartbeats 400000 in
theorem c58 (x : Bool) (D : Nat) (w : World) (h : w.cell? ⟨D, 0, none⟩ = some F50) : Calls Tryz.prog 104 #[.bool x, .pointer (some ⟨D, 0, none⟩)] w fun e w' => e = .returned (.bool x) ∧ Below w.heap.size w w' := by
  have HC := Lib.hid (fun W => c50 x W)
  have eg := enters50
  unfold F50 at h
  go_enter Tryz.func104, Tryz.ntmps104
  go_wp2_with fail
  refine (HC.out _).mono ?_
  rintro e w1 ⟨rfl, rfl⟩
  go_wp2_with fail
  go_ret
  exact ⟨by cases x <;> rfl, by go_grown⟩

set_option maxHeartbeats 2000000 in
set_option maxRecDepth 100000 in
theorem say_clos_false (B D X Y S n : Nat) (v : Bool) (hS : S < 256) (hn : n < 8) (hv : S.testBit n = v) (w : World) (hX : w.heap[X]? = some (.cells #[.pointer (some ⟨B, 0, none⟩)] 73 (0, 0))) (hY : w.heap[Y]? = some (.cells #[.int .i64 (S : Int)] 3 (0, 0))) (hM : Mv false B D w) :
    Calls Tryz.prog 84 #[.int .i64 (n : Int), .pointer (some ⟨X, 0, none⟩), .pointer (some ⟨Y, 0, none⟩)] w fun e w' => e = .returned (.bool (!v)) ∧ Below w.heap.size w w' := by
  have HI : Hid (∀ W, Calls Tryz.prog 26 #[.int .i64 (S : Int), .int .i64 (n : Int)] W fun e w' => e = .returned (.bool v) ∧ Below W.heap.size W w') := fun W => by
    have h := inSet_yes S n hS hn W
    rw [hv] at h
    exact h.mono fun e w' hh => ⟨hh.1, hh.2 ▸ Below.refl _ _⟩
  have HC : Hid (∀ W, Calls Tryz.prog 82 #[.bool v] W fun e w' => e = .returned (.bool (!v)) ∧ Below W.heap.size W w') := fun W => (c50 v W).mono fun e w' hh => ⟨hh.1, hh.2 ▸ Below.refl _ _⟩
  have HM : Hid (∀ W, Below w.heap.size w W → Mv false B D W) := fun W hb => hM.later hb
  have HK : Hid (∀ W, Below w.heap.size w W → W.heap[X]? = some (.cells #[.pointer (some ⟨B, 0, none⟩)] 73 (0, 0)) ∧ W.heap[Y]? = some (.cells #[.int .i64 (S : Int)] 3 (0, 0))) := fun W hb => ⟨(hb.block _ (Array.getElem?_eq_some_iff.1 hX).1).trans hX, (hb.block _ (Array.getElem?_eq_some_iff.1 hY).1).trans hY⟩
  have eg := enters50
  have eg2 := enters58
  clear hX hY hM hv
  go_enter Tryz.func84, Tryz.ntmps84
  go_wp2_with fail
  refine wp_region_below (fun | 0 => .pointer (some ⟨B, 0, none⟩) | 1 => .pointer (some ⟨B, 0, none⟩) | 2 => .pointer (some ⟨B, 1, none⟩) | 3 => F50 | 4 => .int .i64 (S : Int) | 5 => .int .i64 (n : Int) | 6 => .bool v | 7 => .bool (!v) | 8 => .bool (!v) | _ => undef) (by kernel_rfl) (by kernel_rfl) rfl ?conA ?enA
  case conA =>
    intro i o ho a wx hb hf
    match i, ho with
    | 0, ho =>
      obtain rfl := Option.some.inj ho
      have b1 : a.tmps[1]?.getD undef = .pointer (some ⟨X, 0, none⟩) := hf.2 1 (by kernel_rfl)
      have c0 := cells1 ((HK.out _ hb).1)
      exact wp_value (.pointer (some ⟨B, 0, none⟩)) (by unfold execOp; go_simp) ⟨rfl, Below.refl _ _⟩
    | 1, ho =>
      obtain rfl := Option.some.inj ho
      have e5 : a.tmps[5]?.getD undef = .pointer (some ⟨B, 0, none⟩) := hf.1 ⟨0, .data⟩ (by simp) rfl _ 5 rfl rfl
      exact wp_value (.pointer (some ⟨B, 0, none⟩)) (by unfold execOp; go_simp) ⟨rfl, Below.refl _ _⟩
    | 2, ho =>
      obtain rfl := Option.some.inj ho
      have e6 : a.tmps[6]?.getD undef = .pointer (some ⟨B, 0, none⟩) := hf.1 ⟨1, .data⟩ (by simp) rfl _ 6 rfl rfl
      exact wp_value (.pointer (some ⟨B, 1, none⟩)) (by unfold execOp; go_simp) ⟨rfl, Below.refl _ _⟩
    | 3, ho =>
      obtain rfl := Option.some.inj ho
      have e7 : a.tmps[7]?.getD undef = .pointer (some ⟨B, 1, none⟩) := hf.1 ⟨2, .data⟩ (by simp) rfl _ 7 rfl rfl
      obtain ⟨c0, c1⟩ := cells2 ((HM.out _ hb))
      exact wp_value (F50) (by unfold execOp; go_simp) ⟨rfl, Below.refl _ _⟩
    | 4, ho =>
      obtain rfl := Option.some.inj ho
      have b2 : a.tmps[2]?.getD undef = .pointer (some ⟨Y, 0, none⟩) := hf.2 2 (by kernel_rfl)
      have c0 := cells1 ((HK.out _ hb).2)
      exact wp_value (.int .i64 (S : Int)) (by unfold execOp; go_simp) ⟨rfl, Below.refl _ _⟩
    | 5, ho =>
      obtain rfl := Option.some.inj ho
      have b0 : a.tmps[0]?.getD undef = .int .i64 (n : Int) := hf.2 0 (by kernel_rfl)
      exact wp_value (.int .i64 (n : Int)) (by unfold execOp; go_simp) ⟨rfl, Below.refl _ _⟩
    | 6, ho =>
      obtain rfl := Option.some.inj ho
      have e9 : a.tmps[9]?.getD undef = .int .i64 (S : Int) := hf.1 ⟨4, .data⟩ (by simp) rfl _ 9 rfl rfl
      have e10 : a.tmps[10]?.getD undef = .int .i64 (n : Int) := hf.1 ⟨5, .data⟩ (by simp) rfl _ 10 rfl rfl
      exact wp_enter 26 #[.int .i64 (S : Int), .int .i64 (n : Int)] (.bool v) _ (by unfold execOp; go_simp) (HI.out wx) (fun w' h => ⟨rfl, h⟩)
    | 7, ho =>
      obtain rfl := Option.some.inj ho
      have e8 : a.tmps[8]?.getD undef = F50 := hf.1 ⟨3, .data⟩ (by simp) rfl _ 8 rfl rfl
      have e11 : a.tmps[11]?.getD undef = .bool v := hf.1 ⟨6, .data⟩ (by simp) rfl _ 11 rfl rfl
      exact wp_enter 82 #[.bool v] (.bool (!v)) _ (by unfold execOp; unfold F50 at *; go_simp) (HC.out wx) (fun w' h => ⟨rfl, h⟩)
    | 8, ho =>
      obtain rfl := Option.some.inj ho
      have e12 : a.tmps[12]?.getD undef = .bool (!v) := hf.1 ⟨7, .data⟩ (by simp) rfl _ 12 rfl rfl
      exact wp_value (.bool (!v)) (by unfold execOp; go_simp) ⟨rfl, Below.refl _ _⟩
    | q + 9, ho => simp at ho
  case enA =>
    intro w2 hb2
    have HB := Lib.hid hb2
    clear hb2
    simp only [fill, Act.put]
    go_simp
    go_wp2_with fail
    go_ret
    exact ⟨rfl, HB.out⟩
set_option maxHeartbeats 2000000 in
set_option maxRecDepth 100000 in
theorem say_clos_true (B D X Y S n : Nat) (v : Bool) (hS : S < 256) (hn : n < 8) (hv : S.testBit n = v) (w : World) (hX : w.heap[X]? = some (.cells #[.pointer (some ⟨B, 0, none⟩)] 73 (0, 0))) (hY : w.heap[Y]? = some (.cells #[.int .i64 (S : Int)] 3 (0, 0))) (hM : Mv true B D w) :
    Calls Tryz.prog 84 #[.int .i64 (n : Int), .pointer (some ⟨X, 0, none⟩), .pointer (some ⟨Y, 0, none⟩)] w fun e w' => e = .returned (.bool v) ∧ Below w.heap.size w w' := by
  have HI : Hid (∀ W, Calls Tryz.prog 26 #[.int .i64 (S : Int), .int .i64 (n : Int)] W fun e w' => e = .returned (.bool v) ∧ Below W.heap.size W w') := fun W => by
    have h := inSet_yes S n hS hn W
    rw [hv] at h
    exact h.mono fun e w' hh => ⟨hh.1, hh.2 ▸ Below.refl _ _⟩
  have HC := Lib.hid (fun W h => c58 v D W h)
  have HM : Hid (∀ W, Below w.heap.size w W → Mv true B D W) := fun W hb => hM.later hb
  have HK : Hid (∀ W, Below w.heap.size w W → W.heap[X]? = some (.cells #[.pointer (some ⟨B, 0, none⟩)] 73 (0, 0)) ∧ W.heap[Y]? = some (.cells #[.int .i64 (S : Int)] 3 (0, 0))) := fun W hb => ⟨(hb.block _ (Array.getElem?_eq_some_iff.1 hX).1).trans hX, (hb.block _ (Array.getElem?_eq_some_iff.1 hY).1).trans hY⟩
  have eg := enters50
  have eg2 := enters58
  clear hX hY hM hv
  go_enter Tryz.func84, Tryz.ntmps84
  go_wp2_with fail
  refine wp_region_below (fun | 0 => .pointer (some ⟨B, 0, none⟩) | 1 => .pointer (some ⟨B, 0, none⟩) | 2 => .pointer (some ⟨B, 1, none⟩) | 3 => F58 D | 4 => .int .i64 (S : Int) | 5 => .int .i64 (n : Int) | 6 => .bool v | 7 => .bool v | 8 => .bool v | _ => undef) (by kernel_rfl) (by kernel_rfl) rfl ?conA ?enA
  case conA =>
    intro i o ho a wx hb hf
    match i, ho with
    | 0, ho =>
      obtain rfl := Option.some.inj ho
      have b1 : a.tmps[1]?.getD undef = .pointer (some ⟨X, 0, none⟩) := hf.2 1 (by kernel_rfl)
      have c0 := cells1 ((HK.out _ hb).1)
      exact wp_value (.pointer (some ⟨B, 0, none⟩)) (by unfold execOp; go_simp) ⟨rfl, Below.refl _ _⟩
    | 1, ho =>
      obtain rfl := Option.some.inj ho
      have e5 : a.tmps[5]?.getD undef = .pointer (some ⟨B, 0, none⟩) := hf.1 ⟨0, .data⟩ (by simp) rfl _ 5 rfl rfl
      exact wp_value (.pointer (some ⟨B, 0, none⟩)) (by unfold execOp; go_simp) ⟨rfl, Below.refl _ _⟩
    | 2, ho =>
      obtain rfl := Option.some.inj ho
      have e6 : a.tmps[6]?.getD undef = .pointer (some ⟨B, 0, none⟩) := hf.1 ⟨1, .data⟩ (by simp) rfl _ 6 rfl rfl
      exact wp_value (.pointer (some ⟨B, 1, none⟩)) (by unfold execOp; go_simp) ⟨rfl, Below.refl _ _⟩
    | 3, ho =>
      obtain rfl := Option.some.inj ho
      have e7 : a.tmps[7]?.getD undef = .pointer (some ⟨B, 1, none⟩) := hf.1 ⟨2, .data⟩ (by simp) rfl _ 7 rfl rfl
      obtain ⟨c0, c1⟩ := cells2 ((HM.out _ hb).1)
      exact wp_value (F58 D) (by unfold execOp; go_simp) ⟨rfl, Below.refl _ _⟩
    | 4, ho =>
      obtain rfl := Option.some.inj ho
      have b2 : a.tmps[2]?.getD undef = .pointer (some ⟨Y, 0, none⟩) := hf.2 2 (by kernel_rfl)
      have c0 := cells1 ((HK.out _ hb).2)
      exact wp_value (.int .i64 (S : Int)) (by unfold execOp; go_simp) ⟨rfl, Below.refl _ _⟩
    | 5, ho =>
      obtain rfl := Option.some.inj ho
      have b0 : a.tmps[0]?.getD undef = .int .i64 (n : Int) := hf.2 0 (by kernel_rfl)
      exact wp_value (.int .i64 (n : Int)) (by unfold execOp; go_simp) ⟨rfl, Below.refl _ _⟩
    | 6, ho =>
      obtain rfl := Option.some.inj ho
      have e9 : a.tmps[9]?.getD undef = .int .i64 (S : Int) := hf.1 ⟨4, .data⟩ (by simp) rfl _ 9 rfl rfl
      have e10 : a.tmps[10]?.getD undef = .int .i64 (n : Int) := hf.1 ⟨5, .data⟩ (by simp) rfl _ 10 rfl rfl
      exact wp_enter 26 #[.int .i64 (S : Int), .int .i64 (n : Int)] (.bool v) _ (by unfold execOp; go_simp) (HI.out wx) (fun w' h => ⟨rfl, h⟩)
    | 7, ho =>
      obtain rfl := Option.some.inj ho
      have e8 : a.tmps[8]?.getD undef = F58 D := hf.1 ⟨3, .data⟩ (by simp) rfl _ 8 rfl rfl
      have e11 : a.tmps[11]?.getD undef = .bool v := hf.1 ⟨6, .data⟩ (by simp) rfl _ 11 rfl rfl
      exact wp_enter 104 #[.bool v, .pointer (some ⟨D, 0, none⟩)] (.bool v) _ (by unfold execOp; unfold F58 at *; go_simp) ((fun wx (hb : Below w.heap.size w wx) => HC.out wx (cells1 (HM.out _ hb).2)) wx hb) (fun w' h => ⟨rfl, h⟩)
    | 8, ho =>
      obtain rfl := Option.some.inj ho
      have e12 : a.tmps[12]?.getD undef = .bool v := hf.1 ⟨7, .data⟩ (by simp) rfl _ 12 rfl rfl
      exact wp_value (.bool v) (by unfold execOp; go_simp) ⟨rfl, Below.refl _ _⟩
    | q + 9, ho => simp at ho
  case enA =>
    intro w2 hb2
    have HB := Lib.hid hb2
    clear hb2
    simp only [fill, Act.put]
    go_simp
    go_wp2_with fail
    go_ret
    exact ⟨rfl, HB.out⟩

set_option maxHeartbeats 2000000 in
set_option maxRecDepth 100000 in
theorem oppose_w (B : Nat) (w : World) (h : w.heap[B]? = some (.cells #[.int .u8 65, F50] 120 (0, 0))) : Calls Tryz.prog 83 #[.pointer (some ⟨B, 0, none⟩)] w fun e w' => (∃ v, e = .returned v) ∧ (∃ D, Mv true B D w') ∧ Below B w w' := by
  have hlt : B < w.heap.size := (Array.getElem?_eq_some_iff.1 h).1
  obtain ⟨c0, c1⟩ := cells2 h
  have f0 : w.frozen? ⟨B, 0, none⟩ = false := frozen_of_row _ _ _ _ _ h
  have f1 : w.frozen? ⟨B, 1, none⟩ = false := frozen_of_row _ _ _ _ _ h
  have H := Lib.hid h
  clear h
  unfold F50 at c1
  go_enter Tryz.func83, Tryz.ntmps83
  go_wp2_with fail
  have hw2 : ((w.setCell ⟨B, 0, none⟩ (.int .u8 66)).setCell ⟨B, 1, none⟩ (F58 w.heap.size)).heap[B]? = some (.cells #[.int .u8 66, F58 w.heap.size] 120 (0, 0)) := by
    simp [World.setCell, Array.getElem?_modify, H.out]
  have hs2 : ((w.setCell ⟨B, 0, none⟩ (.int .u8 66)).setCell ⟨B, 1, none⟩ (F58 w.heap.size)).heap.size = w.heap.size := by simp [World.setCell]
  have hb2 : Below B w ((w.setCell ⟨B, 0, none⟩ (.int .u8 66)).setCell ⟨B, 1, none⟩ (F58 w.heap.size)) :=
    ⟨rfl, rfl, rfl, by simp [World.setCell], fun k hk => by simp only [World.setCell, Array.getElem?_modify]; rw [if_neg (by omega), if_neg (by omega)]⟩
  unfold F58 at hw2 hs2 hb2
  generalize (w.setCell ⟨B, 0, none⟩ (.int .u8 66)).setCell ⟨B, 1, none⟩ (.func (.func 104) #[] #[.pointer (some ⟨w.heap.size, 0, none⟩)]) = w2 at *
  refine bodyPost_end (results_none rfl _ _ _) rfl ?_
  refine ⟨⟨_, rfl⟩, ⟨w.heap.size, ?_, ?_⟩, hb2.alloc (by omega) _⟩
  · rw [Below.heap_alloc _ _ _ (by omega)]; exact hw2
  · rw [← hs2]; exact heap_alloc_new w2 _
set_option maxHeartbeats 2000000 in
set_option maxRecDepth 100000 in
theorem mover_at (a : Bool) (w : World) : Calls Tryz.prog 44 #[.int .u8 ((sgn a).toNat : Int)] w fun e w' => ∃ B D, e = .returned (.pointer (some ⟨B, 0, none⟩)) ∧ Mv a B D w' ∧ Below w.heap.size w w' := by
  have hrow : (w.alloc (.cells #[.int .u8 65, F50] 120)).heap[w.heap.size]? = some (.cells #[.int .u8 65, F50] 120 (0, 0)) := heap_alloc_new w _
  have hb0 : Below w.heap.size w (w.alloc (.cells #[.int .u8 65, F50] 120)) := (Below.refl _ _).alloc (Nat.le_refl _) _
  cases a
  · rw [show ((sgn false).toNat : Int) = 124 from rfl]
    have HR := Lib.hid hrow
    have HB := Lib.hid hb0
    clear hrow hb0
    go_enter Tryz.func44, Tryz.ntmps44
    go_wp2_with fail
    go_ret
    exact ⟨_, 0, rfl, HR.out, HB.out⟩
  · rw [show ((sgn true).toNat : Int) = 38 from rfl]
    have HO : Hid (Calls Tryz.prog 83 #[.pointer (some ⟨w.heap.size, 0, none⟩)] (w.alloc (.cells #[.int .u8 65, F50] 120)) fun e w' => (∃ v, e = .returned v) ∧ (∃ D, Mv true w.heap.size D w') ∧ Below w.heap.size (w.alloc (.cells #[.int .u8 65, F50] 120)) w') := oppose_w w.heap.size _ hrow
    have HB := Lib.hid hb0
    clear hrow hb0
    unfold F50 at HO HB
    go_enter Tryz.func44, Tryz.ntmps44
    go_wp2_with fail
    refine HO.out.mono ?_
    rintro e w2 ⟨⟨v, rfl⟩, ⟨D, hD⟩, hb2⟩
    have HD := Lib.hid hD
    have HB2 := Lib.hid (HB.out.trans hb2)
    clear hD hb2 HB HO
    go_wp2_with fail
    go_ret
    exact ⟨_, D, rfl, HD.out, HB2.out⟩
theorem info_four (a b : Int) (t1 t2 : Value) : (Tryz.prog.info? 72).map (·.size) = some (#[.int .u8 a, .int .i64 b, t1, t2] : Array Value).size := by kernel_rfl
theorem all4n (a b : Int) : (#[.int .u8 a, .int .i64 b, .nilIface, .nilIface] : Array Value).all (·.oneCell') = true := by simp [Value.oneCell']
theorem setRow_at' {w : World} {B : Nat} {cs cs' : Array Value} {T : TypeId} (h : w.heap[B]? = some (.cells cs T (0, 0))) : (w.setRow B cs').heap[B]? = some (.cells cs' T (0, 0)) := by
  simp [World.setRow, Array.getElem?_modify, h]
theorem setRow_below' {b : Nat} {w w1 : World} {B : Nat} (h : Below b w w1) (hB : b ≤ B) (cs : Array Value) : Below b w (w1.setRow B cs) :=
  h.trans ⟨rfl, rfl, rfl, by simp [World.setRow], fun k hk => by simp only [World.setRow, Array.getElem?_modify]; rw [if_neg (by omega)]⟩

set_option maxHeartbeats 4000000 in
set_option maxRecDepth 100000 in
theorem say_false (f : F) (hf3 : Fm.wf 3 f) (B D : Nat) (w : World) (hM : Mv false B D w) :
    Calls Tryz.prog 45 #[.pointer (some ⟨B, 0, none⟩), FmRead.tree f] w fun e w' => e = .returned (.agg #[.int .u8 65, .int .i64 (askB false f : Int), .nilIface, .nilIface]) ∧ Below w.heap.size w w' := by
  have hT := tru_to f hf3
  have hlt := hM.lt
  obtain ⟨S, hSd⟩ : ∃ S, askB false f = S := ⟨_, rfl⟩
  rw [hSd]
  have HSD := Lib.hid hSd
  clear hSd
  obtain ⟨W2, hW2⟩ : ∃ W2, (w.alloc (.cells #[.pointer (some ⟨B, 0, none⟩)] 73)).alloc (.cells #[.int .u8 0, .int .i64 0, .nilIface, .nilIface] 72) = W2 := ⟨_, rfl⟩
  have b2 : Below w.heap.size w W2 := by rw [← hW2]; exact ((Below.refl w.heap.size w).alloc (Nat.le_refl _) _).alloc (by simp) _
  have e1 : W2.heap[w.heap.size]? = some (.cells #[.pointer (some ⟨B, 0, none⟩)] 73 (0, 0)) := by
    rw [← hW2, Below.heap_alloc _ _ _ (by simp)]; exact heap_alloc_new w _
  have e2 : W2.heap[w.heap.size + 1]? = some (.cells #[.int .u8 0, .int .i64 0, .nilIface, .nilIface] 72 (0, 0)) := by
    have h := heap_alloc_new (w.alloc (.cells #[.pointer (some ⟨B, 0, none⟩)] 73)) (.cells #[.int .u8 0, .int .i64 0, .nilIface, .nilIface] 72)
    rw [World.size_alloc] at h
    rw [← hW2]; exact h
  have hsz : W2.heap.size = w.heap.size + 2 := by rw [← hW2]; simp
  have HW2 := Lib.hid hW2
  have HB2 := Lib.hid b2
  have HE1 := Lib.hid e1
  have HE2 := Lib.hid e2
  have HSZ := Lib.hid hsz
  have HM := Lib.hid hM
  have HF3 := Lib.hid hf3
  clear hW2 b2 e1 e2 hsz hM hf3
  unfold TruC at hT
  have hS : setB (val f) 8 < 256 := setB_lt8 _ 8 (Nat.le_refl _)
  have hbit : Hid (∀ n, n < 8 → (setB (val f) 8).testBit n = val f n) := fun n hn => by rw [setB_bit, decide_eq_true hn, Bool.true_and]
  obtain ⟨X, hX⟩ : ∃ X, w.heap.size = X := ⟨_, rfl⟩
  rcases hT with ⟨V, ez, hz⟩ | ⟨V, ez, hz⟩
  all_goals
    have HZ := Lib.hid hz
    rw [ez]
    clear ez hz
    generalize setB (val f) 8 = Tn at *
    have eg := enters52
    go_enter Tryz.func45, Tryz.ntmps45
    go_wp2_with fail
    rw [HW2.out]
    refine (HZ.out _).mono ?_
    rintro e w3 ⟨rfl, hb3⟩
    have HB3 := Lib.hid hb3
    clear hb3
    go_wp2_with fail
    obtain ⟨Y, hY⟩ : ∃ Y, w3.heap.size = Y := ⟨_, rfl⟩
    obtain ⟨W4, hW4⟩ : ∃ W4, w3.alloc (.cells #[.int .i64 (Tn : Int)] 3) = W4 := ⟨_, rfl⟩
    have b34 : Below w3.heap.size w3 W4 := by rw [← hW4]; exact (Below.refl w3.heap.size w3).alloc (Nat.le_refl _) _
    have b24 : Below W2.heap.size W2 W4 := HB3.out.trans (b34.mono HB3.out.size)
    have bw4 : Below w.heap.size w W4 := HB2.out.trans (b24.mono HB2.out.size)
    have eY : W4.heap[Y]? = some (.cells #[.int .i64 (Tn : Int)] 3 (0, 0)) := by rw [← hW4, ← hY]; exact heap_alloc_new w3 _
    have e1 := HE1.out
    have e2 := HE2.out
    rw [hX] at e1 e2
    have eX : W4.heap[X]? = some (.cells #[.pointer (some ⟨B, 0, none⟩)] 73 (0, 0)) := (b24.block _ (Array.getElem?_eq_some_iff.1 e1).1).trans e1
    have eR : W4.heap[X + 1]? = some (.cells #[.int .u8 0, .int .i64 0, .nilIface, .nilIface] 72 (0, 0)) := (b24.block _ (Array.getElem?_eq_some_iff.1 e2).1).trans e2
    have mv4 : Mv false B D W4 := HM.out.later bw4
    have HX : Hid (∀ wx : World, Below W4.heap.size W4 wx → wx.heap[X]? = some (.cells #[.pointer (some ⟨B, 0, none⟩)] 73 (0, 0))) := fun wx hb => (hb.block _ (Array.getElem?_eq_some_iff.1 eX).1).trans eX
    have HR : Hid (∀ wx : World, Below W4.heap.size W4 wx → wx.heap[X + 1]? = some (.cells #[.int .u8 0, .int .i64 0, .nilIface, .nilIface] 72 (0, 0))) := fun wx hb => (hb.block _ (Array.getElem?_eq_some_iff.1 eR).1).trans eR
    have HMB : Hid (∀ wx : World, Below W4.heap.size W4 wx → Mv false B D wx) := fun wx hb => mv4.later hb
    have hsays : Says 84 #[.pointer (some ⟨X, 0, none⟩), .pointer (some ⟨Y, 0, none⟩)] 8 (fun n => val f n == false) W4 := fun W i hi hb => by
      have h := say_clos_false B D X Y Tn i (val f i) hS hi (hbit.out i hi) W (HX.out W hb) ((hb.block _ (Array.getElem?_eq_some_iff.1 eY).1).trans eY) (mv4.later hb)
      have e : (!val f i) = (val f i == false) := by cases val f i <;> rfl
      rw [e] at h
      exact h
    have hwh : ∀ wx : World, Below W4.heap.size W4 wx → Calls Tryz.prog 85 #[.int .i64 8, .func (.func 84) #[] #[.pointer (some ⟨X, 0, none⟩), .pointer (some ⟨Y, 0, none⟩)]] wx fun e w' => e = .returned (.int .i64 (S : Int)) ∧ Below wx.heap.size wx w' := fun wx hb => by
      rw [← HSD.out]
      exact where_any 84 #[.pointer (some ⟨X, 0, none⟩), .pointer (some ⟨Y, 0, none⟩)] 8 (by omega) (fun n => val f n == false) wx enters52 (Lib.hid fun W i hi hb2 => hsays W i hi (hb.trans (hb2.mono hb.size)))
    have HW := Lib.hid hwh
    have HBW := Lib.hid bw4
    have hXl : w.heap.size ≤ X + 1 := by omega
    rw [hW4]
    try rw [hY]
    clear b34 b24 eY e1 e2 eX eR mv4 hsays hwh hW4 HE1 HE2 HM bw4
    have X1 : (X : Nat) + 1 = X + 1 := rfl
    refine wp_region_last (fun | 0 => .pointer (some ⟨B, 0, none⟩) | 1 => .pointer (some ⟨B, 0, none⟩) | 2 => .pointer (some ⟨B, 0, none⟩) | 3 => .int .u8 65 | 4 => .func (.func 84) #[] #[.pointer (some ⟨X, 0, none⟩), .pointer (some ⟨Y, 0, none⟩)] | 5 => .int .i64 (S : Int) | 6 => .agg #[.int .u8 65, .int .i64 (S : Int), .nilIface, .nilIface] | _ => undef) 7 (fun wx => wx.setRow (X + 1) #[.int .u8 65, .int .i64 (S : Int), .nilIface, .nilIface]) _ (by kernel_rfl) (by kernel_rfl) rfl rfl rfl rfl (by kernel_rfl) ?conS ?stS ?enS
    case conS =>
      intro i o ho hlt a wx hb hf
      match i, ho with
      | 0, ho =>
        obtain rfl := Option.some.inj ho
        have b2 : a.tmps[2]?.getD undef = .pointer (some ⟨X, 0, none⟩) := hf.2 2 (by kernel_rfl)
        have c0 := cells1 (HX.out _ hb)
        exact wp_value (.pointer (some ⟨B, 0, none⟩)) (by unfold execOp; go_simp) ⟨rfl, Below.refl _ _⟩
      | 1, ho =>
        obtain rfl := Option.some.inj ho
        have e10 : a.tmps[10]?.getD undef = .pointer (some ⟨B, 0, none⟩) := hf.1 ⟨0, .data⟩ (by simp) rfl _ 10 rfl rfl
        exact wp_value (.pointer (some ⟨B, 0, none⟩)) (by unfold execOp; go_simp) ⟨rfl, Below.refl _ _⟩
      | 2, ho =>
        obtain rfl := Option.some.inj ho
        have e11 : a.tmps[11]?.getD undef = .pointer (some ⟨B, 0, none⟩) := hf.1 ⟨1, .data⟩ (by simp) rfl _ 11 rfl rfl
        exact wp_value (.pointer (some ⟨B, 0, none⟩)) (by unfold execOp; go_simp) ⟨rfl, Below.refl _ _⟩
      | 3, ho =>
        obtain rfl := Option.some.inj ho
        have e12 : a.tmps[12]?.getD undef = .pointer (some ⟨B, 0, none⟩) := hf.1 ⟨2, .data⟩ (by simp) rfl _ 12 rfl rfl
        obtain ⟨c0, c1⟩ := cells2 ((HMB.out _ hb))
        exact wp_value (.int .u8 65) (by unfold execOp; go_simp) ⟨rfl, Below.refl _ _⟩
      | 4, ho =>
        obtain rfl := Option.some.inj ho
        have b6 : a.tmps[6]?.getD undef = .func (.func 84) #[] #[.pointer (some ⟨X, 0, none⟩), .pointer (some ⟨Y, 0, none⟩)] := hf.2 6 (by kernel_rfl)
        exact wp_value (.func (.func 84) #[] #[.pointer (some ⟨X, 0, none⟩), .pointer (some ⟨Y, 0, none⟩)]) (by unfold execOp; go_simp) ⟨rfl, Below.refl _ _⟩
      | 5, ho =>
        obtain rfl := Option.some.inj ho
        have e14 : a.tmps[14]?.getD undef = .func (.func 84) #[] #[.pointer (some ⟨X, 0, none⟩), .pointer (some ⟨Y, 0, none⟩)] := hf.1 ⟨4, .data⟩ (by simp) rfl _ 14 rfl rfl
        exact wp_enter 85 #[.int .i64 8, .func (.func 84) #[] #[.pointer (some ⟨X, 0, none⟩), .pointer (some ⟨Y, 0, none⟩)]] (.int .i64 (S : Int)) _ (by unfold execOp; go_simp) (HW.out wx hb) (fun w' h => ⟨rfl, h⟩)
      | 6, ho =>
        obtain rfl := Option.some.inj ho
        have e13 : a.tmps[13]?.getD undef = .int .u8 65 := hf.1 ⟨3, .data⟩ (by simp) rfl _ 13 rfl rfl
        have e15 : a.tmps[15]?.getD undef = .int .i64 (S : Int) := hf.1 ⟨5, .data⟩ (by simp) rfl _ 15 rfl rfl
        exact wp_value (.agg #[.int .u8 65, .int .i64 (S : Int), .nilIface, .nilIface]) (by unfold execOp; go_simp) ⟨rfl, Below.refl _ _⟩
      | 7, ho => exact absurd hlt (by omega)
      | q + 8, ho => simp at ho
    case stS =>
      intro a wx hb hf
      have b4 : a.tmps[4]?.getD undef = .pointer (some ⟨X + 1, 0, none⟩) := hf.2 4 (by kernel_rfl)
      have e16 : a.tmps[16]?.getD undef = .agg #[.int .u8 65, .int .i64 (S : Int), .nilIface, .nilIface] := hf.1 ⟨6, .data⟩ (by simp) rfl _ 16 rfl rfl
      exact wp_store_row 72 (.tmp 4) (.tmp 16) rfl (X + 1) #[.int .u8 65, .int .i64 (S : Int), .nilIface, .nilIface] (eval_get b4) (eval_get e16) 72 _ (HR.out _ hb) (info_four _ _ _ _) rfl (all4n _ _) ⟨rfl, rfl⟩
    case enS =>
      intro w5 hb5
      have HRR : Hid ((w5.setRow (X + 1) #[.int .u8 65, .int .i64 (S : Int), .nilIface, .nilIface]).heap[X + 1]? = some (.cells #[.int .u8 65, .int .i64 (S : Int), .nilIface, .nilIface] 72 (0, 0))) := setRow_at' (HR.out w5 hb5)
      have HB5 : Hid (Below w.heap.size w (w5.setRow (X + 1) #[.int .u8 65, .int .i64 (S : Int), .nilIface, .nilIface])) := setRow_below' (HBW.out.trans (hb5.mono HBW.out.size)) hXl _
      clear hb5
      simp only [fill, Act.put]
      go_simp
      go_wp2_with fail
      refine bodyPost_ret (v := .agg #[.int .u8 65, .int .i64 (S : Int), .nilIface, .nilIface]) (results_cell_row Tryz.results45 _ _ (X + 1) 72 _ (0, 0) _ rfl HRR.out Tryz.underlying72 rfl (info_four _ _ _ _)) rfl ⟨rfl, by first | exact HB5.out | (have h := HB5.out; rw [hX] at h; exact h)⟩

set_option maxHeartbeats 4000000 in
set_option maxRecDepth 100000 in
theorem say_true (f : F) (hf3 : Fm.wf 3 f) (B D : Nat) (w : World) (hM : Mv true B D w) :
    Calls Tryz.prog 45 #[.pointer (some ⟨B, 0, none⟩), FmRead.tree f] w fun e w' => e = .returned (.agg #[.int .u8 66, .int .i64 (askB true f : Int), .nilIface, .nilIface]) ∧ Below w.heap.size w w' := by
  have hT := tru_to f hf3
  have hlt := hM.lt
  obtain ⟨S, hSd⟩ : ∃ S, askB true f = S := ⟨_, rfl⟩
  rw [hSd]
  have HSD := Lib.hid hSd
  clear hSd
  obtain ⟨W2, hW2⟩ : ∃ W2, (w.alloc (.cells #[.pointer (some ⟨B, 0, none⟩)] 73)).alloc (.cells #[.int .u8 0, .int .i64 0, .nilIface, .nilIface] 72) = W2 := ⟨_, rfl⟩
  have b2 : Below w.heap.size w W2 := by rw [← hW2]; exact ((Below.refl w.heap.size w).alloc (Nat.le_refl _) _).alloc (by simp) _
  have e1 : W2.heap[w.heap.size]? = some (.cells #[.pointer (some ⟨B, 0, none⟩)] 73 (0, 0)) := by
    rw [← hW2, Below.heap_alloc _ _ _ (by simp)]; exact heap_alloc_new w _
  have e2 : W2.heap[w.heap.size + 1]? = some (.cells #[.int .u8 0, .int .i64 0, .nilIface, .nilIface] 72 (0, 0)) := by
    have h := heap_alloc_new (w.alloc (.cells #[.pointer (some ⟨B, 0, none⟩)] 73)) (.cells #[.int .u8 0, .int .i64 0, .nilIface, .nilIface] 72)
    rw [World.size_alloc] at h
    rw [← hW2]; exact h
  have hsz : W2.heap.size = w.heap.size + 2 := by rw [← hW2]; simp
  have HW2 := Lib.hid hW2
  have HB2 := Lib.hid b2
  have HE1 := Lib.hid e1
  have HE2 := Lib.hid e2
  have HSZ := Lib.hid hsz
  have HM := Lib.hid hM
  have HF3 := Lib.hid hf3
  clear hW2 b2 e1 e2 hsz hM hf3
  unfold TruC at hT
  have hS : setB (val f) 8 < 256 := setB_lt8 _ 8 (Nat.le_refl _)
  have hbit : Hid (∀ n, n < 8 → (setB (val f) 8).testBit n = val f n) := fun n hn => by rw [setB_bit, decide_eq_true hn, Bool.true_and]
  obtain ⟨X, hX⟩ : ∃ X, w.heap.size = X := ⟨_, rfl⟩
  rcases hT with ⟨V, ez, hz⟩ | ⟨V, ez, hz⟩
  all_goals
    have HZ := Lib.hid hz
    rw [ez]
    clear ez hz
    generalize setB (val f) 8 = Tn at *
    have eg := enters52
    go_enter Tryz.func45, Tryz.ntmps45
    go_wp2_with fail
    rw [HW2.out]
    refine (HZ.out _).mono ?_
    rintro e w3 ⟨rfl, hb3⟩
    have HB3 := Lib.hid hb3
    clear hb3
    go_wp2_with fail
    obtain ⟨Y, hY⟩ : ∃ Y, w3.heap.size = Y := ⟨_, rfl⟩
    obtain ⟨W4, hW4⟩ : ∃ W4, w3.alloc (.cells #[.int .i64 (Tn : Int)] 3) = W4 := ⟨_, rfl⟩
    have b34 : Below w3.heap.size w3 W4 := by rw [← hW4]; exact (Below.refl w3.heap.size w3).alloc (Nat.le_refl _) _
    have b24 : Below W2.heap.size W2 W4 := HB3.out.trans (b34.mono HB3.out.size)
    have bw4 : Below w.heap.size w W4 := HB2.out.trans (b24.mono HB2.out.size)
    have eY : W4.heap[Y]? = some (.cells #[.int .i64 (Tn : Int)] 3 (0, 0)) := by rw [← hW4, ← hY]; exact heap_alloc_new w3 _
    have e1 := HE1.out
    have e2 := HE2.out
    rw [hX] at e1 e2
    have eX : W4.heap[X]? = some (.cells #[.pointer (some ⟨B, 0, none⟩)] 73 (0, 0)) := (b24.block _ (Array.getElem?_eq_some_iff.1 e1).1).trans e1
    have eR : W4.heap[X + 1]? = some (.cells #[.int .u8 0, .int .i64 0, .nilIface, .nilIface] 72 (0, 0)) := (b24.block _ (Array.getElem?_eq_some_iff.1 e2).1).trans e2
    have mv4 : Mv true B D W4 := HM.out.later bw4
    have HX : Hid (∀ wx : World, Below W4.heap.size W4 wx → wx.heap[X]? = some (.cells #[.pointer (some ⟨B, 0, none⟩)] 73 (0, 0))) := fun wx hb => (hb.block _ (Array.getElem?_eq_some_iff.1 eX).1).trans eX
    have HR : Hid (∀ wx : World, Below W4.heap.size W4 wx → wx.heap[X + 1]? = some (.cells #[.int .u8 0, .int .i64 0, .nilIface, .nilIface] 72 (0, 0))) := fun wx hb => (hb.block _ (Array.getElem?_eq_some_iff.1 eR).1).trans eR
    have HMB : Hid (∀ wx : World, Below W4.heap.size W4 wx → Mv true B D wx) := fun wx hb => mv4.later hb
    have hsays : Says 84 #[.pointer (some ⟨X, 0, none⟩), .pointer (some ⟨Y, 0, none⟩)] 8 (fun n => val f n == true) W4 := fun W i hi hb => by
      have h := say_clos_true B D X Y Tn i (val f i) hS hi (hbit.out i hi) W (HX.out W hb) ((hb.block _ (Array.getElem?_eq_some_iff.1 eY).1).trans eY) (mv4.later hb)
      have e : val f i = (val f i == true) := by cases val f i <;> rfl
      rw [e] at h
      exact h
    have hwh : ∀ wx : World, Below W4.heap.size W4 wx → Calls Tryz.prog 85 #[.int .i64 8, .func (.func 84) #[] #[.pointer (some ⟨X, 0, none⟩), .pointer (some ⟨Y, 0, none⟩)]] wx fun e w' => e = .returned (.int .i64 (S : Int)) ∧ Below wx.heap.size wx w' := fun wx hb => by
      rw [← HSD.out]
      exact where_any 84 #[.pointer (some ⟨X, 0, none⟩), .pointer (some ⟨Y, 0, none⟩)] 8 (by omega) (fun n => val f n == true) wx enters52 (Lib.hid fun W i hi hb2 => hsays W i hi (hb.trans (hb2.mono hb.size)))
    have HW := Lib.hid hwh
    have HBW := Lib.hid bw4
    have hXl : w.heap.size ≤ X + 1 := by omega
    rw [hW4]
    try rw [hY]
    clear b34 b24 eY e1 e2 eX eR mv4 hsays hwh hW4 HE1 HE2 HM bw4
    have X1 : (X : Nat) + 1 = X + 1 := rfl
    refine wp_region_last (fun | 0 => .pointer (some ⟨B, 0, none⟩) | 1 => .pointer (some ⟨B, 0, none⟩) | 2 => .pointer (some ⟨B, 0, none⟩) | 3 => .int .u8 66 | 4 => .func (.func 84) #[] #[.pointer (some ⟨X, 0, none⟩), .pointer (some ⟨Y, 0, none⟩)] | 5 => .int .i64 (S : Int) | 6 => .agg #[.int .u8 66, .int .i64 (S : Int), .nilIface, .nilIface] | _ => undef) 7 (fun wx => wx.setRow (X + 1) #[.int .u8 66, .int .i64 (S : Int), .nilIface, .nilIface]) _ (by kernel_rfl) (by kernel_rfl) rfl rfl rfl rfl (by kernel_rfl) ?conS ?stS ?enS
    case conS =>
      intro i o ho hlt a wx hb hf
      match i, ho with
      | 0, ho =>
        obtain rfl := Option.some.inj ho
        have b2 : a.tmps[2]?.getD undef = .pointer (some ⟨X, 0, none⟩) := hf.2 2 (by kernel_rfl)
        have c0 := cells1 (HX.out _ hb)
        exact wp_value (.pointer (some ⟨B, 0, none⟩)) (by unfold execOp; go_simp) ⟨rfl, Below.refl _ _⟩
      | 1, ho =>
        obtain rfl := Option.some.inj ho
        have e10 : a.tmps[10]?.getD undef = .pointer (some ⟨B, 0, none⟩) := hf.1 ⟨0, .data⟩ (by simp) rfl _ 10 rfl rfl
        exact wp_value (.pointer (some ⟨B, 0, none⟩)) (by unfold execOp; go_simp) ⟨rfl, Below.refl _ _⟩
      | 2, ho =>
        obtain rfl := Option.some.inj ho
        have e11 : a.tmps[11]?.getD undef = .pointer (some ⟨B, 0, none⟩) := hf.1 ⟨1, .data⟩ (by simp) rfl _ 11 rfl rfl
        exact wp_value (.pointer (some ⟨B, 0, none⟩)) (by unfold execOp; go_simp) ⟨rfl, Below.refl _ _⟩
      | 3, ho =>
        obtain rfl := Option.some.inj ho
        have e12 : a.tmps[12]?.getD undef = .pointer (some ⟨B, 0, none⟩) := hf.1 ⟨2, .data⟩ (by simp) rfl _ 12 rfl rfl
        obtain ⟨c0, c1⟩ := cells2 ((HMB.out _ hb).1)
        exact wp_value (.int .u8 66) (by unfold execOp; go_simp) ⟨rfl, Below.refl _ _⟩
      | 4, ho =>
        obtain rfl := Option.some.inj ho
        have b6 : a.tmps[6]?.getD undef = .func (.func 84) #[] #[.pointer (some ⟨X, 0, none⟩), .pointer (some ⟨Y, 0, none⟩)] := hf.2 6 (by kernel_rfl)
        exact wp_value (.func (.func 84) #[] #[.pointer (some ⟨X, 0, none⟩), .pointer (some ⟨Y, 0, none⟩)]) (by unfold execOp; go_simp) ⟨rfl, Below.refl _ _⟩
      | 5, ho =>
        obtain rfl := Option.some.inj ho
        have e14 : a.tmps[14]?.getD undef = .func (.func 84) #[] #[.pointer (some ⟨X, 0, none⟩), .pointer (some ⟨Y, 0, none⟩)] := hf.1 ⟨4, .data⟩ (by simp) rfl _ 14 rfl rfl
        exact wp_enter 85 #[.int .i64 8, .func (.func 84) #[] #[.pointer (some ⟨X, 0, none⟩), .pointer (some ⟨Y, 0, none⟩)]] (.int .i64 (S : Int)) _ (by unfold execOp; go_simp) (HW.out wx hb) (fun w' h => ⟨rfl, h⟩)
      | 6, ho =>
        obtain rfl := Option.some.inj ho
        have e13 : a.tmps[13]?.getD undef = .int .u8 66 := hf.1 ⟨3, .data⟩ (by simp) rfl _ 13 rfl rfl
        have e15 : a.tmps[15]?.getD undef = .int .i64 (S : Int) := hf.1 ⟨5, .data⟩ (by simp) rfl _ 15 rfl rfl
        exact wp_value (.agg #[.int .u8 66, .int .i64 (S : Int), .nilIface, .nilIface]) (by unfold execOp; go_simp) ⟨rfl, Below.refl _ _⟩
      | 7, ho => exact absurd hlt (by omega)
      | q + 8, ho => simp at ho
    case stS =>
      intro a wx hb hf
      have b4 : a.tmps[4]?.getD undef = .pointer (some ⟨X + 1, 0, none⟩) := hf.2 4 (by kernel_rfl)
      have e16 : a.tmps[16]?.getD undef = .agg #[.int .u8 66, .int .i64 (S : Int), .nilIface, .nilIface] := hf.1 ⟨6, .data⟩ (by simp) rfl _ 16 rfl rfl
      exact wp_store_row 72 (.tmp 4) (.tmp 16) rfl (X + 1) #[.int .u8 66, .int .i64 (S : Int), .nilIface, .nilIface] (eval_get b4) (eval_get e16) 72 _ (HR.out _ hb) (info_four _ _ _ _) rfl (all4n _ _) ⟨rfl, rfl⟩
    case enS =>
      intro w5 hb5
      have HRR : Hid ((w5.setRow (X + 1) #[.int .u8 66, .int .i64 (S : Int), .nilIface, .nilIface]).heap[X + 1]? = some (.cells #[.int .u8 66, .int .i64 (S : Int), .nilIface, .nilIface] 72 (0, 0))) := setRow_at' (HR.out w5 hb5)
      have HB5 : Hid (Below w.heap.size w (w5.setRow (X + 1) #[.int .u8 66, .int .i64 (S : Int), .nilIface, .nilIface])) := setRow_below' (HBW.out.trans (hb5.mono HBW.out.size)) hXl _
      clear hb5
      simp only [fill, Act.put]
      go_simp
      go_wp2_with fail
      refine bodyPost_ret (v := .agg #[.int .u8 66, .int .i64 (S : Int), .nilIface, .nilIface]) (results_cell_row Tryz.results45 _ _ (X + 1) 72 _ (0, 0) _ rfl HRR.out Tryz.underlying72 rfl (info_four _ _ _ _)) rfl ⟨rfl, by first | exact HB5.out | (have h := HB5.out; rw [hX] at h; exact h)⟩
end Go.Proofs.YtbccachkkflceaaGreatDoor.GmI

