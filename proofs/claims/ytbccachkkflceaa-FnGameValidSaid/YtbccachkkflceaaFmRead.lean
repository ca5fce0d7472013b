/-
  The program's reading of a formula: a tree of letters and gates, where there is one.
-/
import Derived.Test.YtbccachkkflceaaFm
import Derived.Test.YtbccachkkflceaaShelf
import Derived.Test.YtbccachkkflceaaRect
import Derived.Test.YtbccachkkflceaaFmB
import Derived.Below
import Derived.Deep.QuietTactic
import Derived.BigQuiet
namespace Go.Proofs.Ytbccachkkflceaa.FmRead
open Go.RowKit Go.Shelf Go.Proofs.Ytbccachkkflceaa.Plain Go.Proofs.Ytbccachkkflceaa.Fm Go.Proofs.Ytbccachkkflceaa.FmB Go.Proofs.Ytbccachkkflceaa.Rect
set_option linter.unusedVariables false

theorem drawn_at (w : World) (q : Nat) : Below w.heap.size w (w.drewN q) := ⟨rfl, rfl, rfl, Nat.le_refl _, fun _ _ => rfl⟩
/-- a formula as a value -/
def litV (k : Int) (v : Bool) : Value := .agg #[.int .i64 k, .int .i64 (bitI v)]
def gateV (a : Bool) (f g : Value) : Value := .agg #[f, g, .int .u8 ((sgn a).toNat : Int)]
def tree : F → Value
  | .lit k v => .iface 57 (litV (k : Int) v)
  | .gate a f g => .iface 62 (gateV a (tree f) (tree g))
theorem tree_iface (t : F) : ∃ ty v, tree t = .iface ty v := by
  cases t
  · exact ⟨_, _, rfl⟩
  · exact ⟨_, _, rfl⟩

theorem index_byte (s : ByteArray) (c : Int) (w : World) :
    Calls Try.prog 56 #[.string s, .int .u8 c] w fun e w' => e = .returned (.int .i64 (Lib.indexByte s.data.toList c.toNat.toUInt8)) ∧ w' = w :=
  Any.strings_IndexByte Try.lays137 s c w
theorem index_lets (c : UInt8) (w : World) :
    Calls Try.prog 56 #[.string ⟨#[88, 89, 90, 120, 121, 122]⟩, .int .u8 (c.toNat : Int)] w fun e w' => e = .returned (.int .i64 (ixB c)) ∧ w = w' := by
  refine (index_byte _ _ w).mono ?_
  rintro e w' ⟨rfl, rfl⟩
  refine ⟨?_, rfl⟩
  have e : ((c.toNat : Int)).toNat.toUInt8 = c := by simp
  rw [e]
  rfl
theorem index_sgn (c : UInt8) (w : World) :
    Calls Try.prog 56 #[.string ⟨#[38, 124]⟩, .int .u8 (c.toNat : Int)] w fun e w' => e = .returned (.int .i64 (Lib.indexByte [38, 124] c)) ∧ w = w' := by
  refine (index_byte _ _ w).mono ?_
  rintro e w' ⟨rfl, rfl⟩
  refine ⟨?_, rfl⟩
  have e : ((c.toNat : Int)).toNat.toUInt8 = c := by simp
  rw [e]
theorem ix_sgn (a : Bool) : Lib.indexByte [38, 124] (sgn a) = bitI (!a) := by cases a <;> decide
theorem ix_sgn_no (c : UInt8) (h : ∀ a, c ≠ sgn a) : Lib.indexByte [38, 124] c = -1 := by
  apply idx_none
  intro j hj
  have h1 := h true
  have h2 := h false
  have : j = 0 ∨ j = 1 := by simp at hj; omega
  rcases this with rfl | rfl
  · intro e; exact h1 e.symm
  · intro e; exact h2 e.symm

set_option maxHeartbeats 1000000 in
theorem letter_yes (k : Nat) (v : Bool) (hk : k < 3) (b : Nat) (hb : k < b) (w : World) :
    Calls Try.prog 55 #[.int .u8 ((litB k v).toNat : Int), .int .i64 (b : Int)] w fun e w' => e = .returned (.tuple #[litV (k : Int) v, .bool true]) ∧ Below w.heap.size w w' := by
  have HI := Lib.hid (index_lets (litB k v))
  rw [ixB_lit k v hk] at HI
  obtain ⟨m, hm⟩ : ∃ m : Nat, k + 3 * v.toNat = m := ⟨_, rfl⟩
  rw [hm] at HI
  have hv2 : v.toNat < 2 := by cases v <;> decide
  have h1 : (m : Int).tmod 3 = (k : Int) := by rw [Int.tmod_eq_emod_of_nonneg (by omega)]; omega
  have h2 : IntKind.i64.wrap ((m : Int) / 3) = bitI v := by
    have e : (m : Int) / 3 = (v.toNat : Int) := by omega
    rw [e, IntKind.wrap_i64]
    cases v <;> rfl
  unfold litV
  generalize bitI v = bv at *
  generalize ((litB k v).toNat : Int) = c at *
  clear hm hv2
  go_enter Try.func55, Try.ntmps55
  go_wp2_with fail
  refine (HI.out _).mono ?_
  rintro e w' ⟨rfl, rfl⟩
  go_wp2_with fail
  go_returns
  exact ⟨rfl, by go_grown⟩

set_option maxHeartbeats 1000000 in
theorem letter_no (c : UInt8) (b : Nat) (h : ∀ k v, k < b → c ≠ litB k v) (w : World) :
    Calls Try.prog 55 #[.int .u8 (c.toNat : Int), .int .i64 (b : Int)] w fun e w' => e = .returned (.tuple #[.agg #[.int .i64 0, .int .i64 0], .bool false]) ∧ Below w.heap.size w w' := by
  have HI := Lib.hid (index_lets c)
  rcases ixB_no b c h with e | ⟨k, v, hk1, hk2, e⟩
  · rw [e] at HI
    clear h e
    go_enter Try.func55, Try.ntmps55
    go_wp2_with fail
    refine (HI.out _).mono ?_
    rintro e w' ⟨rfl, rfl⟩
    go_wp2_with fail
    go_returns
    exact ⟨rfl, by go_grown⟩
  · rw [e] at HI
    obtain ⟨m, hm⟩ : ∃ m : Nat, k + 3 * v.toNat = m := ⟨_, rfl⟩
    rw [hm] at HI
    have hv2 : v.toNat < 2 := by cases v <;> decide
    have h1 : (m : Int).tmod 3 = (k : Int) := by rw [Int.tmod_eq_emod_of_nonneg (by omega)]; omega
    clear h e hm hv2
    go_enter Try.func55, Try.ntmps55
    go_wp2_with fail
    refine (HI.out _).mono ?_
    rintro e w' ⟨rfl, rfl⟩
    go_wp2_with fail
    go_returns
    exact ⟨rfl, by go_grown⟩

set_option maxHeartbeats 2000000 in
set_option maxRecDepth 100000 in
theorem read_yes (b : Nat) (hb3 : b ≤ 3) (t : F) : wf b t → ∀ (s : ByteArray) (hs : s.size ≤ 1048576) (r : List UInt8) (h : s.data.toList = text t ++ r) (w : World),
    Calls Try.prog 41 #[.string s, .int .i64 (b : Int)] w fun e w' => e = .returned (.tuple #[tree t, .string (str r)]) ∧ Below w.heap.size w w' := by
  induction t with
  | lit k v =>
    intro hw s hs r h w
    obtain ⟨hk, hx⟩ := at_drop (k := 0) (show s.data.toList.drop 0 = litB k v :: r from h)
    have hkb : k < b := hw
    have hr : s.extract 1 s.size = str r := extract_rest s 1 (by rw [h]; rfl)
    have he := not_empty hk
    have HL : Hid (∀ W, Calls Try.prog 55 #[.int .u8 ((s[0]'hk).toNat : Int), .int .i64 (b : Int)] W fun e w' => e = .returned (.tuple #[.agg #[.int .i64 (k : Int), .int .i64 (bitI v)], .bool true]) ∧ Below W.heap.size W w') := fun W => by
      rw [hx]; exact letter_yes k v (by omega) b hkb W
    have HT : Hid (tree (.lit k v) = .iface 57 (.agg #[.int .i64 (k : Int), .int .i64 (bitI v)])) := rfl
    generalize bitI v = bv at *
    clear hx h hw
    go_enter Try.func41, Try.ntmps41
    go_wp2_with fail
    refine (HL.out _).mono ?_
    rintro e w1 ⟨rfl, hb1⟩
    have HB := Lib.hid hb1
    clear hb1
    go_wp2_with fail
    go_quiet (fail)
    go_wp2_with fail
    go_returns
    exact ⟨by rw [HT.out, ← hr]; rfl, (HB.out.alloc HB.out.size _).trans (drawn_at _ _ |>.mono (by have := HB.out.size; simp at this ⊢; omega))⟩
  | gate a f g ihz iho =>
    intro hw s hs r h w
    have h0 : s.data.toList = [sgn a] ++ (text f ++ (text g ++ r)) := by rw [h]; simp [text]
    obtain ⟨hk, hx⟩ := at_drop (k := 0) (show s.data.toList.drop 0 = sgn a :: (text f ++ (text g ++ r)) from h0)
    have hl : 1 + (text f ++ (text g ++ r)).length = s.size := by have := congrArg List.length h0; simp at this ⊢; omega
    have hz : s.extract 1 s.size = str (text f ++ (text g ++ r)) := extract_rest s 1 (by rw [h0]; rfl)
    have he := not_empty hk
    have HL : Hid (∀ W, Calls Try.prog 55 #[.int .u8 ((s[0]'hk).toNat : Int), .int .i64 (b : Int)] W fun e w' => e = .returned (.tuple #[.agg #[.int .i64 0, .int .i64 0], .bool false]) ∧ Below W.heap.size W w') := fun W => by
      rw [hx]; exact letter_no _ b (fun k v hk e => lit_sgn (by omega) e.symm) W
    have HG : Hid (∀ W, Calls Try.prog 56 #[.string ⟨#[38, 124]⟩, .int .u8 ((s[0]'hk).toNat : Int)] W fun e w' => e = .returned (.int .i64 (bitI (!a))) ∧ W = w') := fun W => by
      rw [hx, ← ix_sgn a]; exact index_sgn _ W
    have HZ : Hid (∀ W, Calls Try.prog 41 #[.string (s.extract 1 s.size), .int .i64 (b : Int)] W fun e w' => e = .returned (.tuple #[tree f, .string (str (text g ++ r))]) ∧ Below W.heap.size W w') := fun W => by
      rw [hz]
      exact ihz hw.1 _ (by rw [str_size]; omega) _ (by simp [str]) W
    have HO : Hid (∀ W, Calls Try.prog 41 #[.string (str (text g ++ r)), .int .i64 (b : Int)] W fun e w' => e = .returned (.tuple #[tree g, .string (str r)]) ∧ Below W.heap.size W w') := fun W => by
      exact iho hw.2 _ (by rw [str_size]; simp at hl ⊢; omega) _ (by simp [str]) W
    have hn : (s[0]'hk).toNat = (sgn a).toNat := by rw [hx]
    have hl1 : 1 ≤ s.size := by omega
    obtain ⟨tz, vz, ez⟩ := tree_iface f
    obtain ⟨to, vo, eo⟩ := tree_iface g
    have HT : Hid (tree (.gate a f g) = .iface 62 (.agg #[.iface tz vz, .iface to vo, .int .u8 ((s[0]'hk).toNat : Int)])) := by
      show tree (.gate a f g) = _
      simp only [tree, gateV, ez, eo, hn]
    have hba : 0 ≤ bitI (!a) := by cases a <;> decide
    rw [ez] at HZ
    rw [eo] at HO
    rw [HT.out]
    generalize str (text g ++ r) = q1 at *
    generalize str r = q2 at *
    generalize bitI (!a) = ba at *
    clear hx h h0 hn hl hz hw ihz iho ez eo HT
    go_enter Try.func41, Try.ntmps41
    go_wp2_with fail
    refine (HL.out _).mono ?_
    rintro e w1 ⟨rfl, hb1⟩
    have HB := Lib.hid hb1
    clear hb1
    go_wp2_with fail
    refine (HG.out _).mono ?_
    rintro e w' ⟨rfl, rfl⟩
    go_wp2_with fail
    refine (HZ.out _).mono ?_
    rintro e w2 ⟨rfl, hb2⟩
    have HB2 : Hid (Below w.heap.size w w2) := rstep (rstepA HB.out _) hb2
    clear hb2 HB
    go_wp2_with fail
    refine (HO.out _).mono ?_
    rintro e w3 ⟨rfl, hb3⟩
    have HB3 : Hid (Below w.heap.size w w3) := rstep HB2.out hb3
    clear hb3 HB2
    go_wp2_with fail
    go_returns
    exact ⟨rfl, HB3.out⟩
end Go.Proofs.Ytbccachkkflceaa.FmRead
