/-
  The program's reading, as a protocol of values, of what is a protocol of a game.
-/
import Derived.Test.YtbccachkkflceaaGTreeOf
import Derived.Test.YtbccachkkflceaaGvM
namespace Go.Proofs.Ytbccachkkflceaa.GRead2
open Go.RowKit Go.Shelf Go.Proofs.Ytbccachkkflceaa.Plain Go.Proofs.Ytbccachkkflceaa.Tree Go.Proofs.Ytbccachkkflceaa.Hex Go.Proofs.Ytbccachkkflceaa.Rect Go.Proofs.Ytbccachkkflceaa.Read Go.Proofs.Ytbccachkkflceaa.GvM
set_option linter.unusedVariables false

theorem is_index2 (i : Int) (b : Bool) (h : decide (0 ≤ i ∧ i < 2) = b) (w : World) : Calls Try.prog 47 #[.int .i64 i, .int .i64 2] w fun e w' => e = .returned (.bool b) ∧ w = w' := by
  rw [← h]
  exact index_any i 2 w
set_option maxHeartbeats 1000000 in
theorem read_none (w : World) : Calls Try.prog 30 #[.string (str []), .int .i64 2] w fun e w' => e = .returned (.tuple #[.nilIface, .string (str [])]) ∧ Below w.heap.size w w' := by
  have he := is_empty (s := str []) rfl
  have hl3 : (str []).size = 0 := rfl
  have HE : Hid (∃ q, str [] = q) := ⟨_, rfl⟩
  obtain ⟨q, hq⟩ := HE.out
  rw [hq] at he hl3 ⊢
  have HQ := Lib.hid hq
  clear hq HE
  go_enter Try.func30, Try.ntmps30
  go_wp2_with fail
  go_returns
  exact ⟨by rw [← HQ.out]; rfl, by go_grown⟩

/-- what is read -/
def ans (t : T) (r : List UInt8) : Value := if has2 t then .tuple #[.nilIface, .string (str [])] else .tuple #[tree t, .string (str r)]
set_option maxHeartbeats 4000000 in
set_option maxRecDepth 100000 in
theorem read2 (t : T) : wf t → ∀ (s : ByteArray) (hs : s.size ≤ 1048576) (r : List UInt8) (h : s.data.toList = text t ++ r) (w : World),
    Calls Try.prog 30 #[.string s, .int .i64 2] w fun e w' => e = .returned (ans t r) ∧ Below w.heap.size w w' := by
  induction t with
  | leaf b =>
    intro hw s hs r h w
    obtain ⟨hk, hx⟩ := at_drop (k := 0) (show s.data.toList.drop 0 = gD b :: r from h)
    have hr : s.extract 1 s.size = str r := extract_rest s 1 (by rw [h]; rfl)
    have hn : (s[0]'hk).toNat = (gD b).toNat := by rw [hx]
    have he := not_empty hk
    have HN := Lib.hid hn
    clear hx h hn
    cases b
    · show Calls _ _ _ _ fun e w' => e = .returned (.tuple #[tree (.leaf .v0), .string (str r)]) ∧ _
      have hn : (s[0]'hk).toNat = 48 := HN.out
      have HI : Hid (∀ W, Calls Try.prog 47 #[.int .i64 0, .int .i64 2] W fun e w' => e = .returned (.bool true) ∧ W = w') := is_index2 0 true (by decide)
      clear HN
      go_enter Try.func30, Try.ntmps30
      go_wp2_with fail
      refine (HI.out _).mono ?_
      rintro e w' ⟨rfl, rfl⟩
      go_wp2_with fail
      go_quiet (fail)
      go_wp2_with fail
      go_returns
      exact ⟨by rw [← hr]; rfl, drawn_at _ _⟩
    · show Calls _ _ _ _ fun e w' => e = .returned (.tuple #[tree (.leaf .v1), .string (str r)]) ∧ _
      have hn : (s[0]'hk).toNat = 49 := HN.out
      have HI : Hid (∀ W, Calls Try.prog 47 #[.int .i64 1, .int .i64 2] W fun e w' => e = .returned (.bool true) ∧ W = w') := is_index2 1 true (by decide)
      clear HN
      go_enter Try.func30, Try.ntmps30
      go_wp2_with fail
      refine (HI.out _).mono ?_
      rintro e w' ⟨rfl, rfl⟩
      go_wp2_with fail
      go_quiet (fail)
      go_wp2_with fail
      go_returns
      exact ⟨by rw [← hr]; rfl, drawn_at _ _⟩
    · show Calls _ _ _ _ fun e w' => e = .returned (.tuple #[.nilIface, .string (str [])]) ∧ _
      have hn : (s[0]'hk).toNat = 50 := HN.out
      have HI : Hid (∀ W, Calls Try.prog 47 #[.int .i64 2, .int .i64 2] W fun e w' => e = .returned (.bool false) ∧ W = w') := is_index2 2 false (by decide)
      clear HN
      by_cases hl3 : s.size < 3
      · go_enter Try.func30, Try.ntmps30
        go_wp2_with fail
        refine (HI.out _).mono ?_
        rintro e w' ⟨rfl, rfl⟩
        go_wp2_with fail
        go_returns
        exact ⟨rfl, by go_grown⟩
      · replace hl3 : 3 ≤ s.size := by omega
        go_enter Try.func30, Try.ntmps30
        go_wp2_with fail
        refine (HI.out _).mono ?_
        rintro e w' ⟨rfl, rfl⟩
        go_wp2_with fail
        go_returns
        exact ⟨rfl, by go_grown⟩
  | say a v z o ihz iho =>
    intro hw s hs r h w
    have h0 : s.data.toList = [whoB a, hexD (v / 16), hexD (v % 16)] ++ (text z ++ (text o ++ r)) := by rw [h]; simp [text]
    obtain ⟨hk, hx⟩ := at_drop (k := 0) (show s.data.toList.drop 0 = whoB a :: (hexD (v / 16) :: (hexD (v % 16) :: (text z ++ (text o ++ r)))) from h0)
    have hl : 3 + (text z ++ (text o ++ r)).length = s.size := by have := congrArg List.length h0; simp at this ⊢; omega
    have hz : s.extract 3 s.size = str (text z ++ (text o ++ r)) := extract_rest s 3 (by rw [h0]; rfl)
    have hq : (s.extract 1 3).data.toList = [hexD (v / 16), hexD (v % 16)] := by rw [data_extract, h0]; rfl
    have hv : v < 256 := hw.1
    have HS : Hid (∀ W, Calls Try.prog 48 #[.string (s.extract 1 3)] W fun e w' => e = .returned (.tuple #[.int .i64 (v : Int), .bool true]) ∧ W = w') := fun W => by
      have h := set_w _ _ _ hq W
      rw [set_hex v hv, hexV_D _ (by omega), hexV_D _ (by omega)] at h
      refine h.mono ?_
      rintro e w' ⟨rfl, rfl⟩
      refine ⟨?_, rfl⟩
      congr 3
    have HZ0 : ∀ W, Calls Try.prog 30 #[.string (s.extract 3 s.size), .int .i64 2] W fun e w' => e = .returned (ans z (text o ++ r)) ∧ Below W.heap.size W w' := fun W => by
      rw [hz]
      exact ihz hw.2.1 _ (by rw [str_size]; omega) _ rfl W
    have HO0 : ∀ W, Calls Try.prog 30 #[.string (str (text o ++ r)), .int .i64 2] W fun e w' => e = .returned (ans o r) ∧ Below W.heap.size W w' := fun W => by
      exact iho hw.2.2 _ (by rw [str_size]; simp at hl ⊢; omega) _ rfl W
    have hn : (s[0]'hk).toNat = (whoB a).toNat := by rw [hx]
    have he := not_empty hk
    have HN := Lib.hid hn
    have hl3 : 3 ≤ s.size := by omega
    obtain ⟨tz, vz, ez⟩ := tree_iface z
    obtain ⟨to, vo, eo⟩ := tree_iface o
    have HT : Hid (tree (.say a v z o) = .iface 65 (.agg #[.int .u8 ((whoB a).toNat : Int), .int .i64 (v : Int), .iface tz vz, .iface to vo])) := by
      show tree (.say a v z o) = _
      simp only [tree, sayV, ez, eo]
    have HNN := Lib.hid read_none
    have HA : Hid (ans (.say a v z o) r = if has2 z || has2 o then .tuple #[.nilIface, .string (str [])] else .tuple #[tree (.say a v z o), .string (str r)]) := rfl
    -- what comes up for both parts
    have HE : ∃ v0 q1 v1 q2, (∀ W : World, Calls Try.prog 30 #[.string (s.extract 3 s.size), .int .i64 2] W fun e w' => e = .returned (.tuple #[v0, .string q1]) ∧ Below W.heap.size W w') ∧
        (∀ W : World, Calls Try.prog 30 #[.string q1, .int .i64 2] W fun e w' => e = .returned (.tuple #[v1, .string q2]) ∧ Below W.heap.size W w') ∧
        ((v0 = .nilIface ∧ (has2 z || has2 o) = true) ∨ (v0 = .iface tz vz ∧ v1 = .nilIface ∧ (has2 z || has2 o) = true) ∨ (v0 = .iface tz vz ∧ v1 = .iface to vo ∧ q2 = str r ∧ (has2 z || has2 o) = false)) := by
      unfold ans at HZ0 HO0
      cases h2 : has2 z
      · rw [h2] at HZ0
        simp only [Bool.false_eq_true, if_false] at HZ0
        rw [ez] at HZ0
        cases h3 : has2 o
        · rw [h3] at HO0
          simp only [Bool.false_eq_true, if_false] at HO0
          rw [eo] at HO0
          exact ⟨_, _, _, _, HZ0, HO0, .inr (.inr ⟨rfl, rfl, rfl, rfl⟩)⟩
        · rw [h3] at HO0
          simp only [if_true] at HO0
          exact ⟨_, _, _, _, HZ0, HO0, .inr (.inl ⟨rfl, rfl, rfl⟩)⟩
      · rw [h2] at HZ0
        simp only [if_true] at HZ0
        exact ⟨_, _, _, _, HZ0, read_none, .inl ⟨rfl, rfl⟩⟩
    obtain ⟨v0, q1, v1, q2, hZ1, hO1, hsh⟩ := HE
    have HZ := Lib.hid hZ1
    have HO := Lib.hid hO1
    rw [HA.out]
    generalize str r = qr at *
    clear hx h h0 hn hl hz hq hv hw ihz iho ez eo HZ0 HO0 hZ1 hO1 HA HNN
    have hx2 : (s[0]'hk).toNat = 65 ∨ (s[0]'hk).toNat = 66 := by rw [HN.out]; cases a <;> decide
    have HWA : Hid (((whoB a).toNat : Int) = ((s[0]'hk).toNat : Int)) := by show _ = _; rw [HN.out]
    clear HN
    rcases hsh with ⟨rfl, h2⟩ | ⟨rfl, rfl, h2⟩ | ⟨rfl, rfl, rfl, h2⟩
    · have H2 := Lib.hid h2
      clear h2
      rcases hx2 with hx2 | hx2
      · have HI : Hid (∀ W, Calls Try.prog 47 #[.int .i64 17, .int .i64 2] W fun e w' => e = .returned (.bool false) ∧ W = w') := is_index2 17 false (by decide)
        rw [if_pos H2.out]
        go_enter Try.func30, Try.ntmps30
        go_wp2_with fail
        refine (HI.out _).mono ?_
        rintro e w' ⟨rfl, rfl⟩
        go_wp2_with fail
        refine (HS.out _).mono ?_
        rintro e w' ⟨rfl, rfl⟩
        go_wp2_with fail
        refine (HZ.out _).mono ?_
        rintro e w1 ⟨rfl, hb1⟩
        go_wp2_with fail
        refine (HO.out _).mono ?_
        rintro e w2 ⟨rfl, hb2⟩
        have HB := Lib.hid (hb1.trans (hb2.mono hb1.size))
        clear hb1 hb2
        go_wp2_with fail
        go_returns
        exact ⟨rfl, HB.out⟩
      · have HI : Hid (∀ W, Calls Try.prog 47 #[.int .i64 18, .int .i64 2] W fun e w' => e = .returned (.bool false) ∧ W = w') := is_index2 18 false (by decide)
        rw [if_pos H2.out]
        go_enter Try.func30, Try.ntmps30
        go_wp2_with fail
        refine (HI.out _).mono ?_
        rintro e w' ⟨rfl, rfl⟩
        go_wp2_with fail
        refine (HS.out _).mono ?_
        rintro e w' ⟨rfl, rfl⟩
        go_wp2_with fail
        refine (HZ.out _).mono ?_
        rintro e w1 ⟨rfl, hb1⟩
        go_wp2_with fail
        refine (HO.out _).mono ?_
        rintro e w2 ⟨rfl, hb2⟩
        have HB := Lib.hid (hb1.trans (hb2.mono hb1.size))
        clear hb1 hb2
        go_wp2_with fail
        go_returns
        exact ⟨rfl, HB.out⟩
    · have H2 := Lib.hid h2
      clear h2
      rcases hx2 with hx2 | hx2
      · have HI : Hid (∀ W, Calls Try.prog 47 #[.int .i64 17, .int .i64 2] W fun e w' => e = .returned (.bool false) ∧ W = w') := is_index2 17 false (by decide)
        rw [if_pos H2.out]
        go_enter Try.func30, Try.ntmps30
        go_wp2_with fail
        refine (HI.out _).mono ?_
        rintro e w' ⟨rfl, rfl⟩
        go_wp2_with fail
        refine (HS.out _).mono ?_
        rintro e w' ⟨rfl, rfl⟩
        go_wp2_with fail
        refine (HZ.out _).mono ?_
        rintro e w1 ⟨rfl, hb1⟩
        go_wp2_with fail
        refine (HO.out _).mono ?_
        rintro e w2 ⟨rfl, hb2⟩
        have HB := Lib.hid (hb1.trans (hb2.mono hb1.size))
        clear hb1 hb2
        go_wp2_with fail
        go_returns
        exact ⟨rfl, HB.out⟩
      · have HI : Hid (∀ W, Calls Try.prog 47 #[.int .i64 18, .int .i64 2] W fun e w' => e = .returned (.bool false) ∧ W = w') := is_index2 18 false (by decide)
        rw [if_pos H2.out]
        go_enter Try.func30, Try.ntmps30
        go_wp2_with fail
        refine (HI.out _).mono ?_
        rintro e w' ⟨rfl, rfl⟩
        go_wp2_with fail
        refine (HS.out _).mono ?_
        rintro e w' ⟨rfl, rfl⟩
        go_wp2_with fail
        refine (HZ.out _).mono ?_
        rintro e w1 ⟨rfl, hb1⟩
        go_wp2_with fail
        refine (HO.out _).mono ?_
        rintro e w2 ⟨rfl, hb2⟩
        have HB := Lib.hid (hb1.trans (hb2.mono hb1.size))
        clear hb1 hb2
        go_wp2_with fail
        go_returns
        exact ⟨rfl, HB.out⟩
    · have H2 := Lib.hid h2
      clear h2
      rcases hx2 with hx2 | hx2
      · have HI : Hid (∀ W, Calls Try.prog 47 #[.int .i64 17, .int .i64 2] W fun e w' => e = .returned (.bool false) ∧ W = w') := is_index2 17 false (by decide)
        have hw65 : ((whoB a).toNat : Int) = 65 := by have := HWA.out; omega
        rw [if_neg (by rw [H2.out]; decide), HT.out, hw65]
        go_enter Try.func30, Try.ntmps30
        go_wp2_with fail
        refine (HI.out _).mono ?_
        rintro e w' ⟨rfl, rfl⟩
        go_wp2_with fail
        refine (HS.out _).mono ?_
        rintro e w' ⟨rfl, rfl⟩
        go_wp2_with fail
        refine (HZ.out _).mono ?_
        rintro e w1 ⟨rfl, hb1⟩
        go_wp2_with fail
        refine (HO.out _).mono ?_
        rintro e w2 ⟨rfl, hb2⟩
        have HB := Lib.hid (hb1.trans (hb2.mono hb1.size))
        clear hb1 hb2
        go_wp2_with fail
        go_returns
        exact ⟨rfl, HB.out⟩
      · have HI : Hid (∀ W, Calls Try.prog 47 #[.int .i64 18, .int .i64 2] W fun e w' => e = .returned (.bool false) ∧ W = w') := is_index2 18 false (by decide)
        have hw65 : ((whoB a).toNat : Int) = 66 := by have := HWA.out; omega
        rw [if_neg (by rw [H2.out]; decide), HT.out, hw65]
        go_enter Try.func30, Try.ntmps30
        go_wp2_with fail
        refine (HI.out _).mono ?_
        rintro e w' ⟨rfl, rfl⟩
        go_wp2_with fail
        refine (HS.out _).mono ?_
        rintro e w' ⟨rfl, rfl⟩
        go_wp2_with fail
        refine (HZ.out _).mono ?_
        rintro e w1 ⟨rfl, hb1⟩
        go_wp2_with fail
        refine (HO.out _).mono ?_
        rintro e w2 ⟨rfl, hb2⟩
        have HB := Lib.hid (hb1.trans (hb2.mono hb1.size))
        clear hb1 hb2
        go_wp2_with fail
        go_returns
        exact ⟨rfl, HB.out⟩

set_option maxHeartbeats 1000000 in
theorem tree2 (s : ByteArray) (t : T) (hw : wf t) (h : s.data.toList = text t) (hs : s.size ≤ 2000) (w : World) :
    Calls Try.prog 28 #[.string s] w fun e w' => e = .returned (if has2 t then .nilIface else tree t) ∧ Below w.heap.size w w' := by
  have hR := fun W => read2 t hw s (by omega) [] (by rw [h]; simp) W
  have he := is_empty (s := str []) rfl
  unfold ans at hR
  obtain ⟨ty, v, ev⟩ := tree_iface t
  rw [ev] at hR ⊢
  generalize str [] = q at *
  clear h ev
  generalize has2 t = g2 at *
  cases g2
  all_goals
    simp only [Bool.false_eq_true, if_false, if_true] at hR ⊢
    have HR := Lib.hid hR
    clear hR
    go_enter Try.func28, Try.ntmps28
    go_wp2_with fail
    refine (HR.out _).mono ?_
    rintro e w1 ⟨rfl, hb1⟩
    have HB := Lib.hid hb1
    clear hb1
    go_wp2_with fail
    go_ret
    exact ⟨rfl, HB.out⟩
set_option maxHeartbeats 1000000 in
theorem valid2 (s : ByteArray) (t : T) (hw : wf t) (h : s.data.toList = text t) (hs : s.size ≤ 2000) (w : World) :
    Calls Try.prog 17 #[.string s] w fun e w' => e = .returned (.bool (!has2 t)) ∧ Below w.heap.size w w' := by
  have hT := fun W => tree2 s t hw h hs W
  obtain ⟨ty, v, ev⟩ := tree_iface t
  rw [ev] at hT
  clear h ev
  generalize has2 t = g2 at *
  cases g2
  all_goals
    simp only [Bool.false_eq_true, if_false, if_true, Bool.not_false, Bool.not_true] at hT ⊢
    have HT := Lib.hid hT
    clear hT
    go_enter Try.func17, Try.ntmps17
    go_wp2_with fail
    refine (HT.out _).mono ?_
    rintro e w1 ⟨rfl, hb1⟩
    have HB := Lib.hid hb1
    clear hb1
    go_wp2_with fail
    go_ret
    exact ⟨rfl, HB.out⟩
end Go.Proofs.Ytbccachkkflceaa.GRead2
