/-
  Texts of one seat, joined: FmSaid, FmParts.
-/
import Derived.Test.YtbccachkkflceaaGreatDoorJn1
import Derived.Test.YtbccachkkflceaaGreatDoorJn8
import Derived.Deep.QuietTactic
import Derived.BigQuiet
/-
  The reference's letters, and where a formula ends that begins at an index of a text; which texts are formulas.
-/
namespace Go.Proofs.YtbccachkkflceaaGreatDoor.FmSaid
open Go.RowKit Go.Shelf Go.Proofs.YtbccachkkflceaaGreatDoor.Plain Go.Proofs.YtbccachkkflceaaGreatDoor.Fm Go.Proofs.YtbccachkkflceaaGreatDoor.FmB Go.Proofs.YtbccachkkflceaaGreatDoor.Rect Go.Proofs.YtbccachkkflceaaGreatDoor.FmNo
set_option linter.unusedVariables false

set_option maxHeartbeats 400000 in
theorem letter_w (c : UInt8) (w : World) :
    Calls Tryz.prog 48 #[.int .u8 (c.toNat : Int)] w fun e w' => e = .returned (.tuple #[.int .i64 (letK c), .bool (letN c)]) ∧ w = w' := by
  have H1 : Hid (∀ W, Calls Tryz.prog 88 #[.string ⟨#[120, 121, 122]⟩, .int .u8 (c.toNat : Int)] W fun e w' => e = .returned (.int .i64 (Lib.indexByte [120, 121, 122] c)) ∧ W = w') := fun W => find_at _ (by decide) c W
  have H2 : Hid (∀ W, Calls Tryz.prog 88 #[.string ⟨#[88, 89, 90]⟩, .int .u8 (c.toNat : Int)] W fun e w' => e = .returned (.int .i64 (Lib.indexByte [88, 89, 90] c)) ∧ W = w') := fun W => find_at _ (by decide) c W
  unfold letK letN
  generalize Lib.indexByte [120, 121, 122] c = i at *
  generalize Lib.indexByte [88, 89, 90] c = j at *
  generalize (c.toNat : Int) = cc at *
  by_cases h : 0 ≤ i
  · rw [if_pos h, decide_eq_false (by omega)]
    go_enter Tryz.func48, Tryz.ntmps48
    go_wp2_with fail
    refine (H1.out _).mono ?_
    rintro e w' ⟨rfl, rfl⟩
    go_wp2_with fail
    go_returns
    exact ⟨rfl, rfl⟩
  · rw [if_neg h, decide_eq_true (by omega)]
    have h2 : i < 0 := by omega
    clear h
    go_enter Tryz.func48, Tryz.ntmps48
    go_wp2_with fail
    refine (H1.out _).mono ?_
    rintro e w' ⟨rfl, rfl⟩
    go_wp2_with fail
    refine (H2.out _).mono ?_
    rintro e w' ⟨rfl, rfl⟩
    go_wp2_with fail
    go_returns
    exact ⟨rfl, rfl⟩

set_option maxHeartbeats 2000000 in
set_option maxRecDepth 100000 in
/-- where a formula stands, its end is found -/
theorem end_yes (s : ByteArray) (hs : s.size ≤ 1048576) (b : Nat) (hb3 : b ≤ 3) (t : F) : wf b t → ∀ (k : Nat) (hk : k ≤ s.size) (r : List UInt8) (h : s.data.toList.drop k = text t ++ r) (w : World),
    Calls Tryz.prog 47 #[.string s, .int .i64 (k : Int), .int .i64 (b : Int)] w fun e w' => e = .returned (.int .i64 ((k + (text t).length : Nat) : Int)) ∧ w = w' := by
  induction t with
  | lit j v =>
    intro hw k hk0 r h w
    obtain ⟨hk, hx⟩ := at_drop (show _ = litB j v :: r from h)
    have hjb : j < b := hw
    have N38 : (((s[k]'hk).toNat : Int) == 38) = false := not_byte (n := 38) (by rw [hx]; exact lit_sgn (a := true) (by omega))
    have N124 : (((s[k]'hk).toNat : Int) == 124) = false := not_byte (n := 124) (by rw [hx]; exact lit_sgn (a := false) (by omega))
    have HL : Hid (∀ W, Calls Tryz.prog 48 #[.int .u8 ((s[k]'hk).toNat : Int)] W fun e w' => e = .returned (.tuple #[.int .i64 (j : Int), .bool (!v)]) ∧ W = w') := fun W => by
      have h2 := letter_w (s[k]'hk) W
      rw [hx, (letK_lit j v (by omega)).1, (letK_lit j v (by omega)).2] at h2
      rw [hx]; exact h2
    clear hx h hk0 hw
    go_enter Tryz.func47, Tryz.ntmps47
    go_wp2_with fail
    refine (HL.out _).mono ?_
    rintro e w' ⟨rfl, rfl⟩
    go_wp2_with fail
    go_ret
    exact ⟨by simp [text], rfl⟩
  | gate a f g ihz iho =>
    intro hw k hk0 r h w
    have h0 : s.data.toList.drop k = [sgn a] ++ (text f ++ (text g ++ r)) := by rw [h]; simp [text]
    have h1 : s.data.toList.drop (k + 1) = text f ++ (text g ++ r) := drop_more 1 h0 rfl
    have h2 : s.data.toList.drop (k + 1 + (text f).length) = text g ++ r := drop_more _ h1 rfl
    obtain ⟨hk, hx0⟩ := at_drop (show _ = sgn a :: (text f ++ (text g ++ r)) from h0)
    have l1 := drop_len (by omega) h1
    rw [List.length_append] at l1
    have HZ := Lib.hid fun W => ihz hw.1 (k + 1) (by omega) _ h1 W
    have HO := Lib.hid fun W => iho hw.2 (k + 1 + (text f).length) (by omega) _ h2 W
    have HL : Hid ((text (.gate a f g)).length = 1 + (text f).length + (text g).length) := by show _ = _; simp only [text, List.length_cons, List.length_append]; omega
    have hn : (s[k]'hk).toNat = (sgn a).toNat := by rw [hx0]
    generalize (text (.gate a f g)).length = la at *
    generalize (text f).length = lz at *
    generalize (text g).length = lo at *
    have HN := Lib.hid hn
    have LA := HL.out
    clear h0 h1 h2 hx0 h ihz iho hw hn HL hb3
    cases a
    all_goals
      first
        | (have hn : (s[k]'hk).toNat = 124 := HN.out)
        | (have hn : (s[k]'hk).toNat = 38 := HN.out)
      clear HN
      go_enter Tryz.func47, Tryz.ntmps47
      go_wp2_with fail
      refine (HZ.out _).mono ?_
      rintro e w' ⟨rfl, rfl⟩
      go_wp2_with fail
      refine (HO.out _).mono ?_
      rintro e w' ⟨rfl, rfl⟩
      go_wp2_with fail
      go_ret
      have E : ((k : Int) + 1 + lz + lo) = ((k + la : Nat) : Int) := by omega
      have E2 : ((k + 1 + lz + lo : Nat) : Int) = ((k + la : Nat) : Int) := by omega
      exact ⟨by first | (rw [E]; rfl) | (rw [E2]; rfl), rfl⟩

set_option maxHeartbeats 400000 in
theorem end_minus (s : ByteArray) (b : Int) (w : World) :
    Calls Tryz.prog 47 #[.string s, .int .i64 (-1), .int .i64 b] w fun e w' => e = .returned (.int .i64 (-1)) ∧ w = w' := by
  go_enter Tryz.func47, Tryz.ntmps47
  go_wp2
  go_ret
  exact ⟨rfl, rfl⟩

set_option maxHeartbeats 4000000 in
set_option maxRecDepth 100000 in
/-- where none stands, -1 is answered -/
theorem end_no (s : ByteArray) (hs : s.size ≤ 1048576) (b : Nat) (hb3 : b ≤ 3) : ∀ (n k : Nat) (hk : k ≤ s.size) (hn : s.size - k ≤ n) (h : No b (s.data.toList.drop k)) (w : World),
    Calls Tryz.prog 47 #[.string s, .int .i64 (k : Int), .int .i64 (b : Int)] w fun e w' => e = .returned (.int .i64 (-1)) ∧ w = w' := by
  have hbeyond : ∀ (k : Nat) (hks : s.size ≤ k) (w : World), Calls Tryz.prog 47 #[.string s, .int .i64 (k : Int), .int .i64 (b : Int)] w fun e w' => e = .returned (.int .i64 (-1)) ∧ w = w' := by
    intro k hks w
    clear hb3
    go_enter Tryz.func47, Tryz.ntmps47
    go_wp2
    go_ret
    exact ⟨rfl, rfl⟩
  intro n
  induction n with
  | zero =>
    intro k hk hn h w
    exact hbeyond k (by omega) w
  | succ n ih =>
    intro k hk hn h w
    by_cases hks : s.size ≤ k
    · exact hbeyond k hks w
    have hk1 : k < s.size := by omega
    have hd := at_drop' hk1
    have hlit : ∀ j v, j < b → s[k] ≠ litB j v := by rw [hd] at h; exact h.not_lit
    by_cases hsg : ∀ a, s[k] ≠ sgn a
    · have N38 : (((s[k]'hk1).toNat : Int) == 38) = false := not_byte (n := 38) (hsg true)
      have N124 : (((s[k]'hk1).toNat : Int) == 124) = false := not_byte (n := 124) (hsg false)
      have HL := Lib.hid (letter_w (s[k]'hk1))
      have hno := letK_no b _ hlit
      generalize letN (s[k]'hk1) = nn at *
      generalize letK (s[k]'hk1) = kk at *
      clear h hbeyond ih hd hlit hsg
      rcases hno with hno | hno
      · go_enter Tryz.func47, Tryz.ntmps47
        go_wp2_with fail
        refine (HL.out _).mono ?_
        rintro e w' ⟨rfl, rfl⟩
        go_wp2_with fail
        go_ret
        exact ⟨rfl, rfl⟩
      · have h00 : ¬ kk < 0 := by omega
        go_enter Tryz.func47, Tryz.ntmps47
        go_wp2_with fail
        refine (HL.out _).mono ?_
        rintro e w' ⟨rfl, rfl⟩
        go_wp2_with fail
        go_ret
        exact ⟨rfl, rfl⟩
    obtain ⟨a, ha⟩ : ∃ a, s[k] = sgn a := by
      apply Classical.byContradiction
      intro hx
      exact hsg fun a e => hx ⟨a, e⟩
    have HE : ∃ at1 : Int, (∀ W : World, Calls Tryz.prog 47 #[.string s, .int .i64 ((k : Int) + 1), .int .i64 (b : Int)] W fun e w' => e = .returned (.int .i64 at1) ∧ W = w') ∧
        (∀ W : World, Calls Tryz.prog 47 #[.string s, .int .i64 at1, .int .i64 (b : Int)] W fun e w' => e = .returned (.int .i64 (-1)) ∧ W = w') := by
      rcases yes_or_no b (s.data.toList.drop (k + 1)) with ⟨z, r1, hz, e1⟩ | hno
      · have hl := drop_len (s := s) (k := k + 1) (by omega) e1
        refine ⟨((k + 1 + (text z).length : Nat) : Int), fun W => end_yes s hs b hb3 z hz (k + 1) (by omega) r1 e1 W, fun W => ?_⟩
        have e2 : s.data.toList.drop (k + 1 + (text z).length) = r1 := drop_more _ e1 rfl
        refine ih (k + 1 + (text z).length) (by omega) (by omega) ?_ W
        rw [e2]
        intro o r2 ho e3
        rw [hd, e1, e3, ha] at h
        exact h.not_gate hz ho
      · exact ⟨-1, fun W => ih (k + 1) (by omega) (by omega) hno W, fun W => end_minus s _ W⟩
    obtain ⟨at1, HC1, HC2⟩ := HE
    replace HC1 := Lib.hid HC1
    replace HC2 := Lib.hid HC2
    have hn : (s[k]'hk1).toNat = (sgn a).toNat := by rw [ha]
    have HN := Lib.hid hn
    clear h hbeyond ih hd hlit hsg ha hn
    cases a
    all_goals
      first
        | (have hn : (s[k]'hk1).toNat = 124 := HN.out)
        | (have hn : (s[k]'hk1).toNat = 38 := HN.out)
      clear HN
      go_enter Tryz.func47, Tryz.ntmps47
      go_wp2_with fail
      refine (HC1.out _).mono ?_
      rintro e w' ⟨rfl, rfl⟩
      go_wp2_with fail
      refine (HC2.out _).mono ?_
      rintro e w' ⟨rfl, rfl⟩
      go_wp2_with fail
      go_ret
      exact ⟨rfl, rfl⟩

set_option maxHeartbeats 1000000 in
theorem valid_yes (s : ByteArray) (b : Nat) (hb3 : b ≤ 3) (t : F) (hw : wf b t) (h : s.data.toList = text t) (hs : s.size ≤ 200) (w : World) :
    Calls Tryz.prog 23 #[.string s, .int .i64 (b : Int)] w fun e w' => e = .returned (.bool true) ∧ w = w' := by
  have hl : (text t).length = s.size := by rw [← h]; simp
  have HE : Hid (∀ W, Calls Tryz.prog 47 #[.string s, .int .i64 0, .int .i64 (b : Int)] W fun e w' => e = .returned (.int .i64 (s.size : Int)) ∧ W = w') := fun W => by
    have h2 := end_yes s (by omega) b hb3 t hw 0 (by omega) [] (by rw [List.append_nil]; exact h) W
    rw [hl, Nat.zero_add] at h2
    exact h2
  clear h hl hw hb3
  go_enter Tryz.func23, Tryz.ntmps23
  go_wp2_with fail
  refine (HE.out _).mono ?_
  rintro e w1 ⟨rfl, rfl⟩
  go_wp2_with fail
  go_ret
  exact ⟨by simp, rfl⟩

set_option maxHeartbeats 1000000 in
theorem valid_no (s : ByteArray) (b : Nat) (hb3 : b ≤ 3) (h : ¬ Ok b s) (hs : s.size ≤ 1048576) (w : World) :
    Calls Tryz.prog 23 #[.string s, .int .i64 (b : Int)] w fun e w' => e = .returned (.bool false) ∧ w = w' := by
  by_cases hl : 200 < s.size
  · clear h hb3
    go_enter Tryz.func23, Tryz.ntmps23
    go_wp2_with fail
    go_ret
    exact ⟨by simp, rfl⟩
  replace hl : s.size ≤ 200 := by omega
  have HE : ∃ n : Int, n ≠ (s.size : Int) ∧ ∀ W, Calls Tryz.prog 47 #[.string s, .int .i64 0, .int .i64 (b : Int)] W fun e w' => e = .returned (.int .i64 n) ∧ W = w' := by
    rcases yes_or_no b s.data.toList with ⟨t, r, hw, e1⟩ | hno
    · have hr : r ≠ [] := fun e => h ⟨hl, t, hw, by rw [e1, e]; simp⟩
      have hp := List.length_pos_iff.2 hr
      have hlen : (text t).length + r.length = s.size := by have := congrArg List.length e1; simp at this; omega
      refine ⟨((0 + (text t).length : Nat) : Int), by omega, fun W => end_yes s hs b hb3 t hw 0 (by omega) r e1 W⟩
    · exact ⟨-1, by omega, fun W => end_no s hs b hb3 s.size 0 (by omega) (by omega) hno W⟩
  obtain ⟨n, hn, hE⟩ := HE
  have HE := Lib.hid hE
  have hn2 : (n == (s.size : Int)) = false := beq_false_of_ne hn
  clear h hE hn hb3
  go_enter Tryz.func23, Tryz.ntmps23
  go_wp2_with fail
  refine (HE.out _).mono ?_
  rintro e w1 ⟨rfl, rfl⟩
  go_wp2_with fail
  go_ret
  exact ⟨by simp, rfl⟩

/-- what both answer of a text and a number of bits -/
def okV (s : ByteArray) (b : Int) (v : Bool) : Prop := v = true ↔ (1 ≤ b ∧ b ≤ 3) ∧ Ok b.toNat s
end Go.Proofs.YtbccachkkflceaaGreatDoor.FmSaid

/-
  The reference on a formula's text: its parts, its depth, where it is true, its table.
-/
namespace Go.Proofs.YtbccachkkflceaaGreatDoor.FmParts
open Go.RowKit Go.Shelf Go.Proofs.YtbccachkkflceaaGreatDoor.Plain Go.Proofs.YtbccachkkflceaaGreatDoor.Fm Go.Proofs.YtbccachkkflceaaGreatDoor.FmB Go.Proofs.YtbccachkkflceaaGreatDoor.Rect Go.Proofs.YtbccachkkflceaaGreatDoor.FmNo Go.Proofs.YtbccachkkflceaaGreatDoor.FmSaid Go.Proofs.YtbccachkkflceaaGreatDoor.Base
open Go.Proofs.YtbccachkkflceaaGreatDoor.FmRead (drawn_at)
set_option linter.unusedVariables false
set_option linter.unusedSimpArgs false

theorem str_data (l : List UInt8) : (str l).data.toList = l := by simp [str]
set_option maxHeartbeats 1000000 in
/-- both formulas behind a sign -/
theorem parts_w (a : Bool) (f g : F) (hf : wf 3 f) (s : ByteArray) (h : s.data.toList = text (.gate a f g)) (hs : s.size ≤ 1048576) (w : World) :
    Calls Tryz.prog 50 #[.string s] w fun e w' => e = .returned (.tuple #[.string (str (text f)), .string (str (text g))]) ∧ Below w.heap.size w w' := by
  have h3 : s.data.toList.drop 1 = text f ++ text g := by rw [h]; rfl
  have hl : 1 + (text f).length + (text g).length = s.size := by
    have := congrArg List.length h
    simp [text] at this
    omega
  have HE : Hid (∀ W, Calls Tryz.prog 47 #[.string s, .int .i64 1, .int .i64 3] W fun e w' => e = .returned (.int .i64 ((1 + (text f).length : Nat) : Int)) ∧ W = w') := fun W => end_yes s hs 3 (by omega) f hf 1 (by omega) (text g) h3 W
  have hA : s.extract 1 (1 + (text f).length) = str (text f) := by
    apply eq_str
    rw [data_extract, h3, show 1 + (text f).length - 1 = (text f).length by omega, List.take_left]
  have hB : s.extract (1 + (text f).length) s.size = str (text g) := by
    apply extract_rest
    rw [← List.drop_drop, h3, List.drop_left]
  generalize str (text f) = A at *
  generalize str (text g) = B at *
  obtain ⟨k, hk⟩ : ∃ k, 1 + (text f).length = k := ⟨_, rfl⟩
  rw [hk] at HE hA hB hl
  have hk3 : 1 ≤ k := by omega
  have hks : k ≤ s.size := by omega
  have HA := Lib.hid hA
  have HB := Lib.hid hB
  clear h h3 hl hk hA hB
  go_enter Tryz.func50, Tryz.ntmps50
  go_wp2_with fail
  refine (HE.out _).mono ?_
  rintro e w' ⟨rfl, rfl⟩
  go_wp2_with fail
  go_quiet (fail)
  go_wp2_with fail
  go_returns
  exact ⟨by rw [← HA.out, ← HB.out]; rfl, drawn_at _ _⟩

theorem neq_not (a v : Bool) : (a != !v) = (a == v) := by cases a <;> cases v <;> rfl
set_option maxHeartbeats 400000 in
theorem bit_w (k : Nat) (v : Bool) (hk : k < 3) (n : Nat) (hn : n < 8) (w : World) :
    Calls Tryz.prog 106 #[.int .u8 ((litB k v).toNat : Int), .int .i64 (n : Int)] w fun e w' => e = .returned (.bool (val (.lit k v) n)) ∧ w = w' := by
  have HL := Lib.hid (letter_w (litB k v))
  rw [(letK_lit k v hk).1, (letK_lit k v hk).2] at HL
  have HI := Lib.hid (l2In_any n k (by omega) (by omega))
  have hv : val (.lit k v) n = (n.testBit k != !v) := (neq_not _ _).symm
  rw [hv]
  generalize n.testBit k = tb at *
  generalize ((litB k v).toNat : Int) = c at *
  clear hv
  go_enter Tryz.func106, Tryz.ntmps106
  go_wp2_with fail
  refine (HL.out _).mono ?_
  rintro e w1 ⟨rfl, rfl⟩
  go_wp2_with fail
  refine (HI.out _).mono ?_
  rintro e w1 ⟨rfl, rfl⟩
  go_wp2_with fail
  go_ret
  exact ⟨by cases tb <;> cases v <;> rfl, rfl⟩

set_option maxHeartbeats 2000000 in
set_option maxRecDepth 100000 in
theorem said_true (n : Nat) (hn : n < 8) (t : F) : wf 3 t → (text t).length ≤ 2000 → ∀ w : World, Calls Tryz.prog 89 #[.string (str (text t)), .int .i64 (n : Int)] w fun e w' => e = .returned (.bool (val t n)) ∧ Below w.heap.size w w' := by
  induction t with
  | lit k v =>
    intro hw _ w
    have hl : (str (text (.lit k v))).size = 1 := by rw [str_size]; rfl
    obtain ⟨hk, hx⟩ := at_drop (k := 0) (show (str (text (.lit k v))).data.toList.drop 0 = litB k v :: [] from str_data _)
    have HB : Hid (∀ W, Calls Tryz.prog 106 #[.int .u8 (((str (text (.lit k v)))[0]'hk).toNat : Int), .int .i64 (n : Int)] W fun e w' => e = .returned (.bool (val (.lit k v) n)) ∧ W = w') := fun W => by rw [hx]; exact bit_w k v hw n hn W
    clear hx hw
    generalize val (.lit k v) n = b at *
    generalize str (text (.lit k v)) = s at *
    go_enter Tryz.func89, Tryz.ntmps89
    go_wp2_with fail
    refine (HB.out _).mono ?_
    rintro e w1 ⟨rfl, rfl⟩
    go_wp2_with fail
    go_ret
    exact ⟨rfl, Below.refl _ _⟩
  | gate a f g ihz iho =>
    intro hw hl w
    have hlz : (text (.gate a f g)).length = (text f).length + (text g).length + 1 := by simp [text]
    have HZ := Lib.hid (ihz hw.1 (by omega))
    have HO := Lib.hid (iho hw.2 (by omega))
    have pz := text_pos f
    have HP := Lib.hid (parts_w a f g hw.1 (str (text (.gate a f g))) (str_data _) (by rw [str_size]; omega))
    have hsz : 2 ≤ (str (text (.gate a f g))).size := by rw [str_size]; have := text_pos g; omega
    have hne : (((str (text (.gate a f g))).size : Int) == 1) = false := beq_false_of_ne (by omega)
    obtain ⟨hk, hx⟩ := at_drop (k := 0) (show (str (text (.gate a f g))).data.toList.drop 0 = sgn a :: (text f ++ text g) from str_data _)
    have hm : val (.gate a f g) n = if a then val f n && val g n else val f n || val g n := rfl
    have hn0 : ((str (text (.gate a f g)))[0]'hk).toNat = (sgn a).toNat := by rw [hx]
    have HN := Lib.hid hn0
    rw [hm]
    clear hm ihz iho hx pz hl hlz hw hn0
    generalize val f n = b1 at *
    generalize val g n = b2 at *
    generalize str (text (.gate a f g)) = s at *
    generalize str (text f) = sz at *
    generalize str (text g) = so at *
    cases a
    · have hn1 : (s[0]'hk).toNat = 124 := HN.out
      clear HN
      cases b1
      · go_enter Tryz.func89, Tryz.ntmps89
        go_wp2_with fail
        refine (HP.out _).mono ?_
        rintro e w1 ⟨rfl, hb1⟩
        go_wp2_with fail
        refine (HZ.out _).mono ?_
        rintro e w2 ⟨rfl, hb2⟩
        go_wp2_with fail
        refine (HO.out _).mono ?_
        rintro e w3 ⟨rfl, hb3⟩
        have h12 := hb1.trans (hb2.mono hb1.size)
        have HB := Lib.hid (h12.trans (hb3.mono h12.size))
        clear hb1 hb2 hb3 h12
        go_wp2_with fail
        go_ret
        exact ⟨by cases b2 <;> rfl, HB.out⟩
      · go_enter Tryz.func89, Tryz.ntmps89
        go_wp2_with fail
        refine (HP.out _).mono ?_
        rintro e w1 ⟨rfl, hb1⟩
        go_wp2_with fail
        refine (HZ.out _).mono ?_
        rintro e w2 ⟨rfl, hb2⟩
        have HB := Lib.hid (hb1.trans (hb2.mono hb1.size))
        clear hb1 hb2
        go_wp2_with fail
        go_ret
        exact ⟨by cases b2 <;> rfl, HB.out⟩
    · have hn1 : (s[0]'hk).toNat = 38 := HN.out
      clear HN
      cases b1
      · go_enter Tryz.func89, Tryz.ntmps89
        go_wp2_with fail
        refine (HP.out _).mono ?_
        rintro e w1 ⟨rfl, hb1⟩
        go_wp2_with fail
        refine (HZ.out _).mono ?_
        rintro e w2 ⟨rfl, hb2⟩
        have HB := Lib.hid (hb1.trans (hb2.mono hb1.size))
        clear hb1 hb2
        go_wp2_with fail
        go_ret
        exact ⟨by cases b2 <;> rfl, HB.out⟩
      · go_enter Tryz.func89, Tryz.ntmps89
        go_wp2_with fail
        refine (HP.out _).mono ?_
        rintro e w1 ⟨rfl, hb1⟩
        go_wp2_with fail
        refine (HZ.out _).mono ?_
        rintro e w2 ⟨rfl, hb2⟩
        go_wp2_with fail
        refine (HO.out _).mono ?_
        rintro e w3 ⟨rfl, hb3⟩
        have h12 := hb1.trans (hb2.mono hb1.size)
        have HB := Lib.hid (h12.trans (hb3.mono h12.size))
        clear hb1 hb2 hb3 h12
        go_wp2_with fail
        go_ret
        exact ⟨by cases b2 <;> rfl, HB.out⟩
end Go.Proofs.YtbccachkkflceaaGreatDoor.FmParts

