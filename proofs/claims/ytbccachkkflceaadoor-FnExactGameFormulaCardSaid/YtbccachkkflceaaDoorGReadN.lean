/-
  The program's reading of a text at whose begin no protocol stands.
-/
import Derived.Test.YtbccachkkflceaaDoorGRead
namespace Go.Proofs.YtbccachkkflceaaDoor.Read
open Go.RowKit Go.Shelf Go.Proofs.YtbccachkkflceaaDoor.Plain Go.Proofs.YtbccachkkflceaaDoor.Tree Go.Proofs.YtbccachkkflceaaDoor.Hex Go.Proofs.YtbccachkkflceaaDoor.Rect
set_option linter.unusedVariables false

set_option maxHeartbeats 4000000 in
set_option maxRecDepth 100000 in
theorem read_no (n : Nat) : ∀ (s : ByteArray) (hs : s.size ≤ 1048576) (hn : s.size ≤ n) (h : No s.data.toList) (w : World),
    Calls Tryd.prog 42 #[.string s, .int .i64 3] w fun e w' => e = .returned (.tuple #[.nilIface, .string (str [])]) ∧ Below w.heap.size w w' := by
  induction n with
  | zero =>
    intro s hs hn h w
    have he := is_empty (s := s) (by omega)
    have hl3 : s.size = 0 := by omega
    clear h hn
    go_enter Tryd.func42, Tryd.ntmps42
    go_wp2_with fail
    go_returns
    exact ⟨rfl, by go_grown⟩
  | succ n ih =>
    intro s hs hn h w
    by_cases h0 : s.size = 0
    · have he := is_empty h0
      clear h hn ih
      go_enter Tryd.func42, Tryd.ntmps42
      go_wp2_with fail
      go_returns
      exact ⟨rfl, by go_grown⟩
    have hk : 0 < s.size := by omega
    have he := not_empty hk
    have hd : s.data.toList = s[0]'hk :: s.data.toList.drop 1 := at_drop' (k := 0) hk
    have hdig : (s[0]'hk) ≠ 48 ∧ (s[0]'hk) ≠ 49 ∧ (s[0]'hk) ≠ 50 := by rw [hd] at h; exact h.not_dig
    have n48 : ((s[0]'hk).toNat : Int) ≠ 48 := fun e => hdig.1 (UInt8.toNat_inj.1 (by show _ = 48; omega))
    have n49 : ((s[0]'hk).toNat : Int) ≠ 49 := fun e => hdig.2.1 (UInt8.toNat_inj.1 (by show _ = 49; omega))
    have n50 : ((s[0]'hk).toNat : Int) ≠ 50 := fun e => hdig.2.2 (UInt8.toNat_inj.1 (by show _ = 50; omega))
    obtain ⟨x, hx⟩ : ∃ x : Nat, (s[0]'hk).toNat = x := ⟨_, rfl⟩
    have hx8 : x < 256 := by rw [← hx]; exact UInt8.toNat_lt _
    rw [hx] at n48 n49 n50
    have HI : Hid (∀ W, Calls Tryd.prog 62 #[.int .i64 ((x : Int) - 48), .int .i64 3] W fun e w' => e = .returned (.bool false) ∧ W = w') := is_index _ false (decide_eq_false (by omega))
    by_cases hwho : ¬ ((s[0]'hk) = 65 ∨ (s[0]'hk) = 66)
    · have N65 : ((x : Int) != 65) = true := by
        have e65 : (((s[0]'hk).toNat : Int) == 65) = false := not_byte (n := 65) (fun e => hwho (.inl e))
        rw [hx] at e65
        rw [bne, e65]
        rfl
      have N66 : ((x : Int) != 66) = true := by
        have e66 : (((s[0]'hk).toNat : Int) == 66) = false := not_byte (n := 66) (fun e => hwho (.inr e))
        rw [hx] at e66
        rw [bne, e66]
        rfl
      clear h hn ih hd hdig hwho n48 n49 n50
      by_cases hl3 : s.size < 3
      · clear N65 N66
        go_enter Tryd.func42, Tryd.ntmps42
        go_wp2_with fail
        refine (HI.out _).mono ?_
        rintro e w' ⟨rfl, rfl⟩
        go_wp2_with fail
        go_returns
        exact ⟨rfl, by go_grown⟩
      · replace hl3 : 3 ≤ s.size := by omega
        go_enter Tryd.func42, Tryd.ntmps42
        go_wp2_with fail
        refine (HI.out _).mono ?_
        rintro e w' ⟨rfl, rfl⟩
        go_wp2_with fail
        go_returns
        exact ⟨rfl, by go_grown⟩
    replace hwho := Classical.not_not.1 hwho
    by_cases hl3 : s.size < 3
    · clear h hn ih hd hdig hwho n48 n49 n50
      go_enter Tryd.func42, Tryd.ntmps42
      go_wp2_with fail
      refine (HI.out _).mono ?_
      rintro e w' ⟨rfl, rfl⟩
      go_wp2_with fail
      go_returns
      exact ⟨rfl, by go_grown⟩
    replace hl3 : 3 ≤ s.size := by omega
    have hd1 := at_drop' (s := s) (k := 1) (by omega)
    have hd2 := at_drop' (s := s) (k := 2) (by omega)
    have hq : (s.extract 1 3).data.toList = [s[1]'(by omega), s[2]'(by omega)] := by rw [data_extract, hd1, hd2]; rfl
    have HS : Hid (∀ W, Calls Tryd.prog 63 #[.string (s.extract 1 3)] W fun e w' => e = .returned (.tuple #[.int .i64 (16 * hexV (s[1]'(by omega)) + hexV (s[2]'(by omega))), .bool (decide (0 ≤ hexV (s[1]'(by omega))) && decide (0 ≤ hexV (s[2]'(by omega))))]) ∧ W = w') := fun W => set_w _ _ _ hq W
    have hN : No (str []).data.toList := No.nil
    have HE : ∃ v0 q1 v1 q2, (∀ W : World, Calls Tryd.prog 42 #[.string (s.extract 3 s.size), .int .i64 3] W fun e w' => e = .returned (.tuple #[v0, .string q1]) ∧ Below W.heap.size W w') ∧
        (∀ W : World, Calls Tryd.prog 42 #[.string q1, .int .i64 3] W fun e w' => e = .returned (.tuple #[v1, .string q2]) ∧ Below W.heap.size W w') ∧
        ((decide (0 ≤ hexV (s[1]'(by omega))) && decide (0 ≤ hexV (s[2]'(by omega)))) = false ∨ v0 = .nilIface ∨ ((∃ ty v, v0 = .iface ty v) ∧ v1 = .nilIface)) := by
      rcases yes_or_no (s.data.toList.drop 3) with ⟨z, r1, hz, e1⟩ | hno
      · have hx := extract_rest s 3 e1
        have hlr : (text z).length + r1.length + 3 = s.size := by have := congrArg List.length e1; simp at this; omega
        rcases yes_or_no r1 with ⟨o, r2, ho, e2⟩ | hno2
        · refine ⟨tree z, str r1, tree o, str r2, fun W => ?_, fun W => ?_, .inl ?_⟩
          · rw [hx]; exact read_yes z hz _ (by rw [str_size, List.length_append]; omega) r1 rfl W
          · exact read_yes o ho _ (by rw [str_size]; omega) r2 e2 W
          · cases hb : (decide (0 ≤ hexV (s[1]'(by omega))) && decide (0 ≤ hexV (s[2]'(by omega)))) with
            | false => rfl
            | true =>
              exfalso
              rw [Bool.and_eq_true, decide_eq_true_iff, decide_eq_true_iff] at hb
              obtain ⟨a, ha⟩ := who_or _ hwho
              refine No.say (a := a) (x := s[1]'(by omega)) (y := s[2]'(by omega)) (z := z) (o := o) (r := r2) ?_ hb.1 hb.2 hz ho
              rw [← e2, ← e1, ← ha]
              rw [hd, hd1, hd2] at h
              exact h
        · refine ⟨tree z, str r1, .nilIface, str [], fun W => ?_, fun W => ?_, .inr (.inr ⟨tree_iface z, rfl⟩)⟩
          · rw [hx]; exact read_yes z hz _ (by rw [str_size, List.length_append]; omega) r1 rfl W
          · exact ih (str r1) (by rw [str_size]; omega) (by rw [str_size]; have := text_pos z; omega) hno2 W
      · have hx := extract_rest s 3 rfl
        refine ⟨.nilIface, str [], .nilIface, str [], fun W => ?_, fun W => ?_, .inr (.inl rfl)⟩
        · rw [hx]
          exact ih _ (by rw [str_size]; simp; omega) (by rw [str_size]; simp; omega) hno W
        · exact ih (str []) (by rw [str_size]; simp) (by rw [str_size]; simp) hN W
    obtain ⟨v0, q1, v1, q2, HZ, HO, hsh⟩ := HE
    replace HZ := Lib.hid HZ
    replace HO := Lib.hid HO
    have HW := Lib.hid hwho
    have hx2 : x = 65 ∨ x = 66 := by rcases HW.out with e | e <;> rw [← hx, e] <;> simp
    have hv : ∃ V : Int, 16 * hexV (s[1]'(by omega)) + hexV (s[2]'(by omega)) = V := ⟨_, rfl⟩
    obtain ⟨V, hV⟩ := hv
    rw [hV] at HS
    generalize (decide (0 ≤ hexV (s[1]'(by omega))) && decide (0 ≤ hexV (s[2]'(by omega)))) = ok at *
    clear h hn ih hd hdig hwho n48 n49 n50 hd1 hd2 hq hN hV HW
    rcases hsh with rfl | rfl | ⟨⟨ty, v, rfl⟩, rfl⟩
    · rcases hx2 with rfl | rfl
      all_goals
        go_enter Tryd.func42, Tryd.ntmps42
        go_wp2_with fail
        refine (HI.out _).mono ?_
        rintro e w' ⟨rfl, rfl⟩
        go_wp2_with fail
        refine (HS.out _).mono ?_
        rintro e w' ⟨rfl, rfl⟩
        go_wp2_with fail
        refine (HZ.out _).mono ?_
        rintro e w1 ⟨rfl, hb1⟩
        go_wp2_with fail
        refine (HO.out _).mono ?_
        rintro e w2 ⟨rfl, hb2⟩
        have HB := Lib.hid (hb1.trans (hb2.mono hb1.size))
        clear hb1 hb2
        go_wp2_with fail
        go_returns
        exact ⟨rfl, HB.out⟩
    · cases ok
      all_goals
        rcases hx2 with rfl | rfl
        all_goals
          go_enter Tryd.func42, Tryd.ntmps42
          go_wp2_with fail
          refine (HI.out _).mono ?_
          rintro e w' ⟨rfl, rfl⟩
          go_wp2_with fail
          refine (HS.out _).mono ?_
          rintro e w' ⟨rfl, rfl⟩
          go_wp2_with fail
          refine (HZ.out _).mono ?_
          rintro e w1 ⟨rfl, hb1⟩
          go_wp2_with fail
          refine (HO.out _).mono ?_
          rintro e w2 ⟨rfl, hb2⟩
          have HB := Lib.hid (hb1.trans (hb2.mono hb1.size))
          clear hb1 hb2
          go_wp2_with fail
          go_returns
          exact ⟨rfl, HB.out⟩
    · cases ok
      all_goals
        rcases hx2 with rfl | rfl
        all_goals
          go_enter Tryd.func42, Tryd.ntmps42
          go_wp2_with fail
          refine (HI.out _).mono ?_
          rintro e w' ⟨rfl, rfl⟩
          go_wp2_with fail
          refine (HS.out _).mono ?_
          rintro e w' ⟨rfl, rfl⟩
          go_wp2_with fail
          refine (HZ.out _).mono ?_
          rintro e w1 ⟨rfl, hb1⟩
          go_wp2_with fail
          refine (HO.out _).mono ?_
          rintro e w2 ⟨rfl, hb2⟩
          have HB := Lib.hid (hb1.trans (hb2.mono hb1.size))
          clear hb1 hb2
          go_wp2_with fail
          go_returns
          exact ⟨rfl, HB.out⟩
end Go.Proofs.YtbccachkkflceaaDoor.Read
