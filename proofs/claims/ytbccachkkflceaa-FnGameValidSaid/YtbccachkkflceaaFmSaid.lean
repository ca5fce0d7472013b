/-
  The reference's letters, and where a formula ends that begins at an index of a text; which texts are formulas.
-/
import Derived.Test.YtbccachkkflceaaFmNo
namespace Go.Proofs.Ytbccachkkflceaa.FmSaid
open Go.RowKit Go.Shelf Go.Proofs.Ytbccachkkflceaa.Plain Go.Proofs.Ytbccachkkflceaa.Fm Go.Proofs.Ytbccachkkflceaa.FmB Go.Proofs.Ytbccachkkflceaa.Rect Go.Proofs.Ytbccachkkflceaa.FmNo
set_option linter.unusedVariables false

set_option maxHeartbeats 400000 in
theorem letter_w (c : UInt8) (w : World) :
    Calls Try.prog 34 #[.int .u8 (c.toNat : Int)] w fun e w' => e = .returned (.tuple #[.int .i64 (letK c), .bool (letN c)]) ∧ w = w' := by
  have H1 : Hid (∀ W, Calls Try.prog 46 #[.string ⟨#[120, 121, 122]⟩, .int .u8 (c.toNat : Int)] W fun e w' => e = .returned (.int .i64 (Lib.indexByte [120, 121, 122] c)) ∧ W = w') := fun W => find_at _ (by decide) c W
  have H2 : Hid (∀ W, Calls Try.prog 46 #[.string ⟨#[88, 89, 90]⟩, .int .u8 (c.toNat : Int)] W fun e w' => e = .returned (.int .i64 (Lib.indexByte [88, 89, 90] c)) ∧ W = w') := fun W => find_at _ (by decide) c W
  unfold letK letN
  generalize Lib.indexByte [120, 121, 122] c = i at *
  generalize Lib.indexByte [88, 89, 90] c = j at *
  generalize (c.toNat : Int) = cc at *
  by_cases h : 0 ≤ i
  · rw [if_pos h, decide_eq_false (by omega)]
    go_enter Try.func34, Try.ntmps34
    go_wp2_with fail
    refine (H1.out _).mono ?_
    rintro e w' ⟨rfl, rfl⟩
    go_wp2_with fail
    go_returns
    exact ⟨rfl, rfl⟩
  · rw [if_neg h, decide_eq_true (by omega)]
    have h2 : i < 0 := by omega
    clear h
    go_enter Try.func34, Try.ntmps34
    go_wp2_with fail
    refine (H1.out _).mono ?_
    rintro e w' ⟨rfl, rfl⟩
    go_wp2_with fail
    refine (H2.out _).mono ?_
    rintro e w' ⟨rfl, rfl⟩
    go_wp2_with fail
    go_returns
    exact ⟨rfl, rfl⟩

set_option maxHeartbeats 2000000 in
set_option maxRecDepth 100000 in
/-- where a formula stands, its end is found -/
theorem end_yes (s : ByteArray) (hs : s.size ≤ 1048576) (b : Nat) (hb3 : b ≤ 3) (t : F) : wf b t → ∀ (k : Nat) (hk : k ≤ s.size) (r : List UInt8) (h : s.data.toList.drop k = text t ++ r) (w : World),
    Calls Try.prog 33 #[.string s, .int .i64 (k : Int), .int .i64 (b : Int)] w fun e w' => e = .returned (.int .i64 ((k + (text t).length : Nat) : Int)) ∧ w = w' := by
  induction t with
  | lit j v =>
    intro hw k hk0 r h w
    obtain ⟨hk, hx⟩ := at_drop (show _ = litB j v :: r from h)
    have hjb : j < b := hw
    have N38 : (((s[k]'hk).toNat : Int) == 38) = false := not_byte (n := 38) (by rw [hx]; exact lit_sgn (a := true) (by omega))
    have N124 : (((s[k]'hk).toNat : Int) == 124) = false := not_byte (n := 124) (by rw [hx]; exact lit_sgn (a := false) (by omega))
    have HL : Hid (∀ W, Calls Try.prog 34 #[.int .u8 ((s[k]'hk).toNat : Int)] W fun e w' => e = .returned (.tuple #[.int .i64 (j : Int), .bool (!v)]) ∧ W = w') := fun W => by
      have h2 := letter_w (s[k]'hk) W
      rw [hx, (letK_lit j v (by omega)).1, (letK_lit j v (by omega)).2] at h2
      rw [hx]; exact h2
    clear hx h hk0 hw
    go_enter Try.func33, Try.ntmps33
    go_wp2_with fail
    refine (HL.out _).mono ?_
    rintro e w' ⟨rfl, rfl⟩
    go_wp2_with fail
    go_ret
    exact ⟨by simp [text], rfl⟩
  | gate a f g ihz iho =>
    intro hw k hk0 r h w
    have h0 : s.data.toList.drop k = [sgn a] ++ (text f ++ (text g ++ r)) := by rw [h]; simp [text]
    have h1 : s.data.toList.drop (k + 1) = text f ++ (text g ++ r) := drop_more 1 h0 rfl
    have h2 : s.data.toList.drop (k + 1 + (text f).length) = text g ++ r := drop_more _ h1 rfl
    obtain ⟨hk, hx0⟩ := at_drop (show _ = sgn a :: (text f ++ (text g ++ r)) from h0)
    have l1 := drop_len (by omega) h1
    rw [List.length_append] at l1
    have HZ := Lib.hid fun W => ihz hw.1 (k + 1) (by omega) _ h1 W
    have HO := Lib.hid fun W => iho hw.2 (k + 1 + (text f).length) (by omega) _ h2 W
    have HL : Hid ((text (.gate a f g)).length = 1 + (text f).length + (text g).length) := by show _ = _; simp only [text, List.length_cons, List.length_append]; omega
    have hn : (s[k]'hk).toNat = (sgn a).toNat := by rw [hx0]
    generalize (text (.gate a f g)).length = la at *
    generalize (text f).length = lz at *
    generalize (text g).length = lo at *
    have HN := Lib.hid hn
    have LA := HL.out
    clear h0 h1 h2 hx0 h ihz iho hw hn HL hb3
    cases a
    all_goals
      first
        | (have hn : (s[k]'hk).toNat = 124 := HN.out)
        | (have hn : (s[k]'hk).toNat = 38 := HN.out)
      clear HN
      go_enter Try.func33, Try.ntmps33
      go_wp2_with fail
      refine (HZ.out _).mono ?_
      rintro e w' ⟨rfl, rfl⟩
      go_wp2_with fail
      refine (HO.out _).mono ?_
      rintro e w' ⟨rfl, rfl⟩
      go_wp2_with fail
      go_ret
      have E : ((k : Int) + 1 + lz + lo) = ((k + la : Nat) : Int) := by omega
      have E2 : ((k + 1 + lz + lo : Nat) : Int) = ((k + la : Nat) : Int) := by omega
      exact ⟨by first | (rw [E]; rfl) | (rw [E2]; rfl), rfl⟩

set_option maxHeartbeats 400000 in
theorem end_minus (s : ByteArray) (b : Int) (w : World) :
    Calls Try.prog 33 #[.string s, .int .i64 (-1), .int .i64 b] w fun e w' => e = .returned (.int .i64 (-1)) ∧ w = w' := by
  go_enter Try.func33, Try.ntmps33
  go_wp2
  go_ret
  exact ⟨rfl, rfl⟩

set_option maxHeartbeats 4000000 in
set_option maxRecDepth 100000 in
/-- where none stands, -1 is answered -/
theorem end_no (s : ByteArray) (hs : s.size ≤ 1048576) (b : Nat) (hb3 : b ≤ 3) : ∀ (n k : Nat) (hk : k ≤ s.size) (hn : s.size - k ≤ n) (h : No b (s.data.toList.drop k)) (w : World),
    Calls Try.prog 33 #[.string s, .int .i64 (k : Int), .int .i64 (b : Int)] w fun e w' => e = .returned (.int .i64 (-1)) ∧ w = w' := by
  have hbeyond : ∀ (k : Nat) (hks : s.size ≤ k) (w : World), Calls Try.prog 33 #[.string s, .int .i64 (k : Int), .int .i64 (b : Int)] w fun e w' => e = .returned (.int .i64 (-1)) ∧ w = w' := by
    intro k hks w
    clear hb3
    go_enter Try.func33, Try.ntmps33
    go_wp2
    go_ret
    exact ⟨rfl, rfl⟩
  intro n
  induction n with
  | zero =>
    intro k hk hn h w
    exact hbeyond k (by omega) w
  | succ n ih =>
    intro k hk hn h w
    by_cases hks : s.size ≤ k
    · exact hbeyond k hks w
    have hk1 : k < s.size := by omega
    have hd := at_drop' hk1
    have hlit : ∀ j v, j < b → s[k] ≠ litB j v := by rw [hd] at h; exact h.not_lit
    by_cases hsg : ∀ a, s[k] ≠ sgn a
    · have N38 : (((s[k]'hk1).toNat : Int) == 38) = false := not_byte (n := 38) (hsg true)
      have N124 : (((s[k]'hk1).toNat : Int) == 124) = false := not_byte (n := 124) (hsg false)
      have HL := Lib.hid (letter_w (s[k]'hk1))
      have hno := letK_no b _ hlit
      generalize letN (s[k]'hk1) = nn at *
      generalize letK (s[k]'hk1) = kk at *
      clear h hbeyond ih hd hlit hsg
      rcases hno with hno | hno
      · go_enter Try.func33, Try.ntmps33
        go_wp2_with fail
        refine (HL.out _).mono ?_
        rintro e w' ⟨rfl, rfl⟩
        go_wp2_with fail
        go_ret
        exact ⟨rfl, rfl⟩
      · have h00 : ¬ kk < 0 := by omega
        go_enter Try.func33, Try.ntmps33
        go_wp2_with fail
        refine (HL.out _).mono ?_
        rintro e w' ⟨rfl, rfl⟩
        go_wp2_with fail
        go_ret
        exact ⟨rfl, rfl⟩
    obtain ⟨a, ha⟩ : ∃ a, s[k] = sgn a := by
      apply Classical.byContradiction
      intro hx
      exact hsg fun a e => hx ⟨a, e⟩
    have HE : ∃ at1 : Int, (∀ W : World, Calls Try.prog 33 #[.string s, .int .i64 ((k : Int) + 1), .int .i64 (b : Int)] W fun e w' => e = .returned (.int .i64 at1) ∧ W = w') ∧
        (∀ W : World, Calls Try.prog 33 #[.string s, .int .i64 at1, .int .i64 (b : Int)] W fun e w' => e = .returned (.int .i64 (-1)) ∧ W = w') := by
      rcases yes_or_no b (s.data.toList.drop (k + 1)) with ⟨z, r1, hz, e1⟩ | hno
      · have hl := drop_len (s := s) (k := k + 1) (by omega) e1
        refine ⟨((k + 1 + (text z).length : Nat) : Int), fun W => end_yes s hs b hb3 z hz (k + 1) (by omega) r1 e1 W, fun W => ?_⟩
        have e2 : s.data.toList.drop (k + 1 + (text z).length) = r1 := drop_more _ e1 rfl
        refine ih (k + 1 + (text z).length) (by omega) (by omega) ?_ W
        rw [e2]
        intro o r2 ho e3
        rw [hd, e1, e3, ha] at h
        exact h.not_gate hz ho
      · exact ⟨-1, fun W => ih (k + 1) (by omega) (by omega) hno W, fun W => end_minus s _ W⟩
    obtain ⟨at1, HC1, HC2⟩ := HE
    replace HC1 := Lib.hid HC1
    replace HC2 := Lib.hid HC2
    have hn : (s[k]'hk1).toNat = (sgn a).toNat := by rw [ha]
    have HN := Lib.hid hn
    clear h hbeyond ih hd hlit hsg ha hn
    cases a
    all_goals
      first
        | (have hn : (s[k]'hk1).toNat = 124 := HN.out)
        | (have hn : (s[k]'hk1).toNat = 38 := HN.out)
      clear HN
      go_enter Try.func33, Try.ntmps33
      go_wp2_with fail
      refine (HC1.out _).mono ?_
      rintro e w' ⟨rfl, rfl⟩
      go_wp2_with fail
      refine (HC2.out _).mono ?_
      rintro e w' ⟨rfl, rfl⟩
      go_wp2_with fail
      go_ret
      exact ⟨rfl, rfl⟩

set_option maxHeartbeats 1000000 in
theorem valid_yes (s : ByteArray) (b : Nat) (hb3 : b ≤ 3) (t : F) (hw : wf b t) (h : s.data.toList = text t) (hs : s.size ≤ 200) (w : World) :
    Calls Try.prog 21 #[.string s, .int .i64 (b : Int)] w fun e w' => e = .returned (.bool true) ∧ w = w' := by
  have hl : (text t).length = s.size := by rw [← h]; simp
  have HE : Hid (∀ W, Calls Try.prog 33 #[.string s, .int .i64 0, .int .i64 (b : Int)] W fun e w' => e = .returned (.int .i64 (s.size : Int)) ∧ W = w') := fun W => by
    have h2 := end_yes s (by omega) b hb3 t hw 0 (by omega) [] (by rw [List.append_nil]; exact h) W
    rw [hl, Nat.zero_add] at h2
    exact h2
  clear h hl hw hb3
  go_enter Try.func21, Try.ntmps21
  go_wp2_with fail
  refine (HE.out _).mono ?_
  rintro e w1 ⟨rfl, rfl⟩
  go_wp2_with fail
  go_ret
  exact ⟨by simp, rfl⟩

set_option maxHeartbeats 1000000 in
theorem valid_no (s : ByteArray) (b : Nat) (hb3 : b ≤ 3) (h : ¬ Ok b s) (hs : s.size ≤ 1048576) (w : World) :
    Calls Try.prog 21 #[.string s, .int .i64 (b : Int)] w fun e w' => e = .returned (.bool false) ∧ w = w' := by
  by_cases hl : 200 < s.size
  · clear h hb3
    go_enter Try.func21, Try.ntmps21
    go_wp2_with fail
    go_ret
    exact ⟨by simp, rfl⟩
  replace hl : s.size ≤ 200 := by omega
  have HE : ∃ n : Int, n ≠ (s.size : Int) ∧ ∀ W, Calls Try.prog 33 #[.string s, .int .i64 0, .int .i64 (b : Int)] W fun e w' => e = .returned (.int .i64 n) ∧ W = w' := by
    rcases yes_or_no b s.data.toList with ⟨t, r, hw, e1⟩ | hno
    · have hr : r ≠ [] := fun e => h ⟨hl, t, hw, by rw [e1, e]; simp⟩
      have hp := List.length_pos_iff.2 hr
      have hlen : (text t).length + r.length = s.size := by have := congrArg List.length e1; simp at this; omega
      refine ⟨((0 + (text t).length : Nat) : Int), by omega, fun W => end_yes s hs b hb3 t hw 0 (by omega) r e1 W⟩
    · exact ⟨-1, by omega, fun W => end_no s hs b hb3 s.size 0 (by omega) (by omega) hno W⟩
  obtain ⟨n, hn, hE⟩ := HE
  have HE := Lib.hid hE
  have hn2 : (n == (s.size : Int)) = false := beq_false_of_ne hn
  clear h hE hn hb3
  go_enter Try.func21, Try.ntmps21
  go_wp2_with fail
  refine (HE.out _).mono ?_
  rintro e w1 ⟨rfl, rfl⟩
  go_wp2_with fail
  go_ret
  exact ⟨by simp, rfl⟩

/-- what both answer of a text and a number of bits -/
def okV (s : ByteArray) (b : Int) (v : Bool) : Prop := v = true ↔ (1 ≤ b ∧ b ≤ 3) ∧ Ok b.toNat s
end Go.Proofs.Ytbccachkkflceaa.FmSaid
