/-
  Texts of one seat, joined: GRead, GReadN.
-/
import Derived.Test.YtbccachkkflceaaGreatDoorJn1
import Derived.Test.YtbccachkkflceaaGreatDoorJn18
import Derived.Test.YtbccachkkflceaaGreatDoorJn6
import Derived.Below
import Derived.Deep.QuietTactic
import Derived.BigQuiet
/-
  The program's reading of a protocol: a tree of nodes, where there is one.
-/
namespace Go.Proofs.YtbccachkkflceaaGreatDoor.Read
open Go.RowKit Go.Shelf Go.Proofs.YtbccachkkflceaaGreatDoor.Plain Go.Proofs.YtbccachkkflceaaGreatDoor.Tree Go.Proofs.YtbccachkkflceaaGreatDoor.Hex Go.Proofs.YtbccachkkflceaaGreatDoor.Rect
set_option linter.unusedVariables false

theorem drawn_at (w : World) (q : Nat) : Below w.heap.size w (w.drewN q) := ⟨rfl, rfl, rfl, Nat.le_refl _, fun _ _ => rfl⟩
/-- a node as a value -/
def sayV (a : Bool) (s : Int) (z o : Value) : Value := .iface 72 (.agg #[.int .u8 ((whoB a).toNat : Int), .int .i64 s, z, o])
def leafV (b : V3) : Value := .iface 65 (.int .i64 (gI b))
/-- a protocol as a value -/
def tree : T → Value
  | .leaf b => leafV b
  | .say a s z o => sayV a s (tree z) (tree o)
theorem tree_iface (t : T) : ∃ ty v, tree t = .iface ty v := by
  cases t
  · exact ⟨_, _, rfl⟩
  · exact ⟨_, _, rfl⟩

theorem index_byte (s : ByteArray) (c : Int) (w : World) :
    Calls Tryz.prog 87 #[.string s, .int .u8 c] w fun e w' => e = .returned (.int .i64 (Lib.indexByte s.data.toList c.toNat.toUInt8)) ∧ w' = w :=
  Any.strings_IndexByte Tryz.lays137 s c w
theorem index_hex (c : UInt8) (w : World) :
    Calls Tryz.prog 87 #[.string ⟨#[48, 49, 50, 51, 52, 53, 54, 55, 56, 57, 97, 98, 99, 100, 101, 102]⟩, .int .u8 (c.toNat : Int)] w fun e w' => e = .returned (.int .i64 (hexV c)) ∧ w = w' := by
  refine (index_byte _ _ w).mono ?_
  rintro e w' ⟨rfl, rfl⟩
  refine ⟨?_, rfl⟩
  have e : ((c.toNat : Int)).toNat.toUInt8 = c := by simp
  rw [e]
  rfl

set_option maxHeartbeats 400000 in
/-- the number that two digits tell -/
theorem set_w (q : ByteArray) (x y : UInt8) (hq : q.data.toList = [x, y]) (w : World) :
    Calls Tryz.prog 90 #[.string q] w fun e w' => e = .returned (.tuple #[.int .i64 (16 * hexV x + hexV y), .bool (decide (0 ≤ hexV x) && decide (0 ≤ hexV y))]) ∧ w = w' := by
  have hl : q.size = 2 := by have := congrArg List.length hq; simpa using this
  obtain ⟨h0, hx⟩ := at_drop (k := 0) (show q.data.toList.drop 0 = x :: [y] from hq)
  obtain ⟨h1, hy⟩ := at_drop (k := 1) (c := y) (r := []) (show q.data.toList.drop 1 = y :: [] by rw [hq]; rfl)
  have HX : Hid (∀ W, Calls Tryz.prog 87 #[.string ⟨#[48, 49, 50, 51, 52, 53, 54, 55, 56, 57, 97, 98, 99, 100, 101, 102]⟩, .int .u8 ((q[0]'h0).toNat : Int)] W fun e w' => e = .returned (.int .i64 (hexV x)) ∧ W = w') := fun W => by rw [hx]; exact index_hex x W
  have HY : Hid (∀ W, Calls Tryz.prog 87 #[.string ⟨#[48, 49, 50, 51, 52, 53, 54, 55, 56, 57, 97, 98, 99, 100, 101, 102]⟩, .int .u8 ((q[1]'h1).toNat : Int)] W fun e w' => e = .returned (.int .i64 (hexV y)) ∧ W = w') := fun W => by rw [hy]; exact index_hex y W
  have gx := hexV_ge x
  have gy := hexV_ge y
  have lx : hexV x < 16 := idx_hi x
  have ly : hexV y < 16 := idx_hi y
  generalize hexV x = a at *
  generalize hexV y = b at *
  clear hq hx hy
  by_cases ha : 0 ≤ a <;> by_cases hb : 0 ≤ b
  all_goals
    simp only [ha, hb, decide_true, decide_false, Bool.and_true, Bool.and_false]
    go_enter Tryz.func90, Tryz.ntmps90
    go_wp2_with fail
    refine (HX.out _).mono ?_
    rintro e w' ⟨rfl, rfl⟩
    go_wp2_with fail
    refine (HY.out _).mono ?_
    rintro e w' ⟨rfl, rfl⟩
    go_wp2_with fail
    go_returns
    exact ⟨by first | rfl | (simp; omega), rfl⟩

theorem eq_str {q : ByteArray} {r : List UInt8} (h : q.data.toList = r) : q = str r := by
  apply ByteArray.ext
  apply Array.ext'
  simp only [str]
  exact h
theorem data_extract (s : ByteArray) (i j : Nat) : (s.extract i j).data.toList = (s.data.toList.drop i).take (j - i) := by
  simp [ByteArray.data_extract, List.extract_eq_take_drop]
theorem extract_rest (s : ByteArray) (i : Nat) {r : List UInt8} (h : s.data.toList.drop i = r) : s.extract i s.size = str r := by
  apply eq_str
  rw [data_extract, h]
  apply List.take_of_length_le
  rw [← h]
  simp
theorem not_empty {s : ByteArray} (h : 0 < s.size) : s.toList.isEmpty = false := by
  rw [ByteArray.toList_eq]
  cases hl : s.data.toList with
  | nil =>
    have h2 : s.data.toList.length = 0 := by rw [hl]; rfl
    have h3 : s.data.toList.length = s.size := by simp
    omega
  | cons a l => rfl
theorem is_index (i : Int) (b : Bool) (h : decide (0 ≤ i ∧ i < 3) = b) (w : World) : Calls Tryz.prog 53 #[.int .i64 i, .int .i64 3] w fun e w' => e = .returned (.bool b) ∧ w = w' := by
  rw [← h]
  exact index_any i 3 w

set_option maxHeartbeats 2000000 in
set_option maxRecDepth 100000 in
theorem read_yes (t : T) : wf t → ∀ (s : ByteArray) (hs : s.size ≤ 1048576) (r : List UInt8) (h : s.data.toList = text t ++ r) (w : World),
    Calls Tryz.prog 54 #[.string s, .int .i64 3] w fun e w' => e = .returned (.tuple #[tree t, .string (str r)]) ∧ Below w.heap.size w w' := by
  induction t with
  | leaf b =>
    intro hw s hs r h w
    obtain ⟨hk, hx⟩ := at_drop (k := 0) (show s.data.toList.drop 0 = gD b :: r from h)
    have hr : s.extract 1 s.size = str r := extract_rest s 1 (by rw [h]; rfl)
    have hn : (s[0]'hk).toNat = (gD b).toNat := by rw [hx]
    have he := not_empty hk
    have HN := Lib.hid hn
    clear hx h hn
    cases b
    · have hn : (s[0]'hk).toNat = 48 := HN.out
      have HI : Hid (∀ W, Calls Tryz.prog 53 #[.int .i64 0, .int .i64 3] W fun e w' => e = .returned (.bool true) ∧ W = w') := is_index 0 true (by decide)
      clear HN
      go_enter Tryz.func54, Tryz.ntmps54
      go_wp2_with fail
      refine (HI.out _).mono ?_
      rintro e w' ⟨rfl, rfl⟩
      go_wp2_with fail
      go_quiet (fail)
      go_wp2_with fail
      go_returns
      exact ⟨by rw [← hr]; rfl, drawn_at _ _⟩
    · have hn : (s[0]'hk).toNat = 49 := HN.out
      have HI : Hid (∀ W, Calls Tryz.prog 53 #[.int .i64 1, .int .i64 3] W fun e w' => e = .returned (.bool true) ∧ W = w') := is_index 1 true (by decide)
      clear HN
      go_enter Tryz.func54, Tryz.ntmps54
      go_wp2_with fail
      refine (HI.out _).mono ?_
      rintro e w' ⟨rfl, rfl⟩
      go_wp2_with fail
      go_quiet (fail)
      go_wp2_with fail
      go_returns
      exact ⟨by rw [← hr]; rfl, drawn_at _ _⟩
    · have hn : (s[0]'hk).toNat = 50 := HN.out
      have HI : Hid (∀ W, Calls Tryz.prog 53 #[.int .i64 2, .int .i64 3] W fun e w' => e = .returned (.bool true) ∧ W = w') := is_index 2 true (by decide)
      clear HN
      go_enter Tryz.func54, Tryz.ntmps54
      go_wp2_with fail
      refine (HI.out _).mono ?_
      rintro e w' ⟨rfl, rfl⟩
      go_wp2_with fail
      go_quiet (fail)
      go_wp2_with fail
      go_returns
      exact ⟨by rw [← hr]; rfl, drawn_at _ _⟩
  | say a v z o ihz iho =>
    intro hw s hs r h w
    have h0 : s.data.toList = [whoB a, hexD (v / 16), hexD (v % 16)] ++ (text z ++ (text o ++ r)) := by rw [h]; simp [text]
    obtain ⟨hk, hx⟩ := at_drop (k := 0) (show s.data.toList.drop 0 = whoB a :: (hexD (v / 16) :: (hexD (v % 16) :: (text z ++ (text o ++ r)))) from h0)
    have hl : 3 + (text z ++ (text o ++ r)).length = s.size := by have := congrArg List.length h0; simp at this ⊢; omega
    have hz : s.extract 3 s.size = str (text z ++ (text o ++ r)) := extract_rest s 3 (by rw [h0]; rfl)
    have hq : (s.extract 1 3).data.toList = [hexD (v / 16), hexD (v % 16)] := by rw [data_extract, h0]; rfl
    have hv : v < 256 := hw.1
    have HS : Hid (∀ W, Calls Tryz.prog 90 #[.string (s.extract 1 3)] W fun e w' => e = .returned (.tuple #[.int .i64 (v : Int), .bool true]) ∧ W = w') := fun W => by
      have h := set_w _ _ _ hq W
      rw [set_hex v hv, hexV_D _ (by omega), hexV_D _ (by omega)] at h
      refine h.mono ?_
      rintro e w' ⟨rfl, rfl⟩
      refine ⟨?_, rfl⟩
      congr 3
    have HZ : Hid (∀ W, Calls Tryz.prog 54 #[.string (s.extract 3 s.size), .int .i64 3] W fun e w' => e = .returned (.tuple #[tree z, .string (str (text o ++ r))]) ∧ Below W.heap.size W w') := fun W => by
      rw [hz]
      exact ihz hw.2.1 _ (by rw [str_size]; omega) _ rfl W
    have HO : Hid (∀ W, Calls Tryz.prog 54 #[.string (str (text o ++ r)), .int .i64 3] W fun e w' => e = .returned (.tuple #[tree o, .string (str r)]) ∧ Below W.heap.size W w') := fun W => by
      exact iho hw.2.2 _ (by rw [str_size]; simp at hl ⊢; omega) _ rfl W
    have hn : (s[0]'hk).toNat = (whoB a).toNat := by rw [hx]
    have he := not_empty hk
    have HN := Lib.hid hn
    have hl3 : 3 ≤ s.size := by omega
    obtain ⟨tz, vz, ez⟩ := tree_iface z
    obtain ⟨to, vo, eo⟩ := tree_iface o
    have HT : Hid (tree (.say a v z o) = .iface 72 (.agg #[.int .u8 ((whoB a).toNat : Int), .int .i64 (v : Int), .iface tz vz, .iface to vo])) := by
      show tree (.say a v z o) = _
      simp only [tree, sayV, ez, eo]
    rw [ez] at HZ
    rw [eo] at HO
    generalize str (text o ++ r) = q1 at *
    generalize str r = q2 at *
    clear hx h h0 hn hl hz hq hv hw ihz iho ez eo
    cases a
    · have hn : (s[0]'hk).toNat = 66 := HN.out
      have HI : Hid (∀ W, Calls Tryz.prog 53 #[.int .i64 18, .int .i64 3] W fun e w' => e = .returned (.bool false) ∧ W = w') := is_index 18 false (by decide)
      clear HN
      go_enter Tryz.func54, Tryz.ntmps54
      go_wp2_with fail
      refine (HI.out _).mono ?_
      rintro e w' ⟨rfl, rfl⟩
      go_wp2_with fail
      refine (HS.out _).mono ?_
      rintro e w' ⟨rfl, rfl⟩
      go_wp2_with fail
      refine (HZ.out _).mono ?_
      rintro e w1 ⟨rfl, hb1⟩
      go_wp2_with fail
      refine (HO.out _).mono ?_
      rintro e w2 ⟨rfl, hb2⟩
      have HB := Lib.hid (hb1.trans (hb2.mono hb1.size))
      clear hb1 hb2
      go_wp2_with fail
      go_returns
      exact ⟨by rw [HT.out]; rfl, HB.out⟩
    · have hn : (s[0]'hk).toNat = 65 := HN.out
      have HI : Hid (∀ W, Calls Tryz.prog 53 #[.int .i64 17, .int .i64 3] W fun e w' => e = .returned (.bool false) ∧ W = w') := is_index 17 false (by decide)
      clear HN
      go_enter Tryz.func54, Tryz.ntmps54
      go_wp2_with fail
      refine (HI.out _).mono ?_
      rintro e w' ⟨rfl, rfl⟩
      go_wp2_with fail
      refine (HS.out _).mono ?_
      rintro e w' ⟨rfl, rfl⟩
      go_wp2_with fail
      refine (HZ.out _).mono ?_
      rintro e w1 ⟨rfl, hb1⟩
      go_wp2_with fail
      refine (HO.out _).mono ?_
      rintro e w2 ⟨rfl, hb2⟩
      have HB := Lib.hid (hb1.trans (hb2.mono hb1.size))
      clear hb1 hb2
      go_wp2_with fail
      go_returns
      exact ⟨by rw [HT.out]; rfl, HB.out⟩

theorem is_empty {s : ByteArray} (h : s.size = 0) : s.toList.isEmpty = true := by
  rw [ByteArray.toList_eq]
  cases hl : s.data.toList with
  | nil => rfl
  | cons a l =>
    have h2 : s.data.toList.length = s.size := by simp
    rw [hl, h] at h2
    cases h2

end Go.Proofs.YtbccachkkflceaaGreatDoor.Read

/-
  The program's reading of a text at whose begin no protocol stands.
-/
namespace Go.Proofs.YtbccachkkflceaaGreatDoor.Read
open Go.RowKit Go.Shelf Go.Proofs.YtbccachkkflceaaGreatDoor.Plain Go.Proofs.YtbccachkkflceaaGreatDoor.Tree Go.Proofs.YtbccachkkflceaaGreatDoor.Hex Go.Proofs.YtbccachkkflceaaGreatDoor.Rect
set_option linter.unusedVariables false

set_option maxHeartbeats 4000000 in
set_option maxRecDepth 100000 in
theorem read_no (n : Nat) : ∀ (s : ByteArray) (hs : s.size ≤ 1048576) (hn : s.size ≤ n) (h : No s.data.toList) (w : World),
    Calls Tryz.prog 54 #[.string s, .int .i64 3] w fun e w' => e = .returned (.tuple #[.nilIface, .string (str [])]) ∧ Below w.heap.size w w' := by
  induction n with
  | zero =>
    intro s hs hn h w
    have he := is_empty (s := s) (by omega)
    have hl3 : s.size = 0 := by omega
    clear h hn
    go_enter Tryz.func54, Tryz.ntmps54
    go_wp2_with fail
    go_returns
    exact ⟨rfl, by go_grown⟩
  | succ n ih =>
    intro s hs hn h w
    by_cases h0 : s.size = 0
    · have he := is_empty h0
      clear h hn ih
      go_enter Tryz.func54, Tryz.ntmps54
      go_wp2_with fail
      go_returns
      exact ⟨rfl, by go_grown⟩
    have hk : 0 < s.size := by omega
    have he := not_empty hk
    have hd : s.data.toList = s[0]'hk :: s.data.toList.drop 1 := at_drop' (k := 0) hk
    have hdig : (s[0]'hk) ≠ 48 ∧ (s[0]'hk) ≠ 49 ∧ (s[0]'hk) ≠ 50 := by rw [hd] at h; exact h.not_dig
    have n48 : ((s[0]'hk).toNat : Int) ≠ 48 := fun e => hdig.1 (UInt8.toNat_inj.1 (by show _ = 48; omega))
    have n49 : ((s[0]'hk).toNat : Int) ≠ 49 := fun e => hdig.2.1 (UInt8.toNat_inj.1 (by show _ = 49; omega))
    have n50 : ((s[0]'hk).toNat : Int) ≠ 50 := fun e => hdig.2.2 (UInt8.toNat_inj.1 (by show _ = 50; omega))
    obtain ⟨x, hx⟩ : ∃ x : Nat, (s[0]'hk).toNat = x := ⟨_, rfl⟩
    have hx8 : x < 256 := by rw [← hx]; exact UInt8.toNat_lt _
    rw [hx] at n48 n49 n50
    have HI : Hid (∀ W, Calls Tryz.prog 53 #[.int .i64 ((x : Int) - 48), .int .i64 3] W fun e w' => e = .returned (.bool false) ∧ W = w') := is_index _ false (decide_eq_false (by omega))
    by_cases hwho : ¬ ((s[0]'hk) = 65 ∨ (s[0]'hk) = 66)
    · have N65 : ((x : Int) != 65) = true := by
        have e65 : (((s[0]'hk).toNat : Int) == 65) = false := not_byte (n := 65) (fun e => hwho (.inl e))
        rw [hx] at e65
        rw [bne, e65]
        rfl
      have N66 : ((x : Int) != 66) = true := by
        have e66 : (((s[0]'hk).toNat : Int) == 66) = false := not_byte (n := 66) (fun e => hwho (.inr e))
        rw [hx] at e66
        rw [bne, e66]
        rfl
      clear h hn ih hd hdig hwho n48 n49 n50
      by_cases hl3 : s.size < 3
      · clear N65 N66
        go_enter Tryz.func54, Tryz.ntmps54
        go_wp2_with fail
        refine (HI.out _).mono ?_
        rintro e w' ⟨rfl, rfl⟩
        go_wp2_with fail
        go_returns
        exact ⟨rfl, by go_grown⟩
      · replace hl3 : 3 ≤ s.size := by omega
        go_enter Tryz.func54, Tryz.ntmps54
        go_wp2_with fail
        refine (HI.out _).mono ?_
        rintro e w' ⟨rfl, rfl⟩
        go_wp2_with fail
        go_returns
        exact ⟨rfl, by go_grown⟩
    replace hwho := Classical.not_not.1 hwho
    by_cases hl3 : s.size < 3
    · clear h hn ih hd hdig hwho n48 n49 n50
      go_enter Tryz.func54, Tryz.ntmps54
      go_wp2_with fail
      refine (HI.out _).mono ?_
      rintro e w' ⟨rfl, rfl⟩
      go_wp2_with fail
      go_returns
      exact ⟨rfl, by go_grown⟩
    replace hl3 : 3 ≤ s.size := by omega
    have hd1 := at_drop' (s := s) (k := 1) (by omega)
    have hd2 := at_drop' (s := s) (k := 2) (by omega)
    have hq : (s.extract 1 3).data.toList = [s[1]'(by omega), s[2]'(by omega)] := by rw [data_extract, hd1, hd2]; rfl
    have HS : Hid (∀ W, Calls Tryz.prog 90 #[.string (s.extract 1 3)] W fun e w' => e = .returned (.tuple #[.int .i64 (16 * hexV (s[1]'(by omega)) + hexV (s[2]'(by omega))), .bool (decide (0 ≤ hexV (s[1]'(by omega))) && decide (0 ≤ hexV (s[2]'(by omega))))]) ∧ W = w') := fun W => set_w _ _ _ hq W
    have hN : No (str []).data.toList := No.nil
    have HE : ∃ v0 q1 v1 q2, (∀ W : World, Calls Tryz.prog 54 #[.string (s.extract 3 s.size), .int .i64 3] W fun e w' => e = .returned (.tuple #[v0, .string q1]) ∧ Below W.heap.size W w') ∧
        (∀ W : World, Calls Tryz.prog 54 #[.string q1, .int .i64 3] W fun e w' => e = .returned (.tuple #[v1, .string q2]) ∧ Below W.heap.size W w') ∧
        ((decide (0 ≤ hexV (s[1]'(by omega))) && decide (0 ≤ hexV (s[2]'(by omega)))) = false ∨ v0 = .nilIface ∨ ((∃ ty v, v0 = .iface ty v) ∧ v1 = .nilIface)) := by
      rcases yes_or_no (s.data.toList.drop 3) with ⟨z, r1, hz, e1⟩ | hno
      · have hx := extract_rest s 3 e1
        have hlr : (text z).length + r1.length + 3 = s.size := by have := congrArg List.length e1; simp at this; omega
        rcases yes_or_no r1 with ⟨o, r2, ho, e2⟩ | hno2
        · refine ⟨tree z, str r1, tree o, str r2, fun W => ?_, fun W => ?_, .inl ?_⟩
          · rw [hx]; exact read_yes z hz _ (by rw [str_size, List.length_append]; omega) r1 rfl W
          · exact read_yes o ho _ (by rw [str_size]; omega) r2 e2 W
          · cases hb : (decide (0 ≤ hexV (s[1]'(by omega))) && decide (0 ≤ hexV (s[2]'(by omega)))) with
            | false => rfl
            | true =>
              exfalso
              rw [Bool.and_eq_true, decide_eq_true_iff, decide_eq_true_iff] at hb
              obtain ⟨a, ha⟩ := who_or _ hwho
              refine No.say (a := a) (x := s[1]'(by omega)) (y := s[2]'(by omega)) (z := z) (o := o) (r := r2) ?_ hb.1 hb.2 hz ho
              rw [← e2, ← e1, ← ha]
              rw [hd, hd1, hd2] at h
              exact h
        · refine ⟨tree z, str r1, .nilIface, str [], fun W => ?_, fun W => ?_, .inr (.inr ⟨tree_iface z, rfl⟩)⟩
          · rw [hx]; exact read_yes z hz _ (by rw [str_size, List.length_append]; omega) r1 rfl W
          · exact ih (str r1) (by rw [str_size]; omega) (by rw [str_size]; have := text_pos z; omega) hno2 W
      · have hx := extract_rest s 3 rfl
        refine ⟨.nilIface, str [], .nilIface, str [], fun W => ?_, fun W => ?_, .inr (.inl rfl)⟩
        · rw [hx]
          exact ih _ (by rw [str_size]; simp; omega) (by rw [str_size]; simp; omega) hno W
        · exact ih (str []) (by rw [str_size]; simp) (by rw [str_size]; simp) hN W
    obtain ⟨v0, q1, v1, q2, HZ, HO, hsh⟩ := HE
    replace HZ := Lib.hid HZ
    replace HO := Lib.hid HO
    have HW := Lib.hid hwho
    have hx2 : x = 65 ∨ x = 66 := by rcases HW.out with e | e <;> rw [← hx, e] <;> simp
    have hv : ∃ V : Int, 16 * hexV (s[1]'(by omega)) + hexV (s[2]'(by omega)) = V := ⟨_, rfl⟩
    obtain ⟨V, hV⟩ := hv
    rw [hV] at HS
    generalize (decide (0 ≤ hexV (s[1]'(by omega))) && decide (0 ≤ hexV (s[2]'(by omega)))) = ok at *
    clear h hn ih hd hdig hwho n48 n49 n50 hd1 hd2 hq hN hV HW
    rcases hsh with rfl | rfl | ⟨⟨ty, v, rfl⟩, rfl⟩
    · rcases hx2 with rfl | rfl
      all_goals
        go_enter Tryz.func54, Tryz.ntmps54
        go_wp2_with fail
        refine (HI.out _).mono ?_
        rintro e w' ⟨rfl, rfl⟩
        go_wp2_with fail
        refine (HS.out _).mono ?_
        rintro e w' ⟨rfl, rfl⟩
        go_wp2_with fail
        refine (HZ.out _).mono ?_
        rintro e w1 ⟨rfl, hb1⟩
        go_wp2_with fail
        refine (HO.out _).mono ?_
        rintro e w2 ⟨rfl, hb2⟩
        have HB := Lib.hid (hb1.trans (hb2.mono hb1.size))
        clear hb1 hb2
        go_wp2_with fail
        go_returns
        exact ⟨rfl, HB.out⟩
    · cases ok
      all_goals
        rcases hx2 with rfl | rfl
        all_goals
          go_enter Tryz.func54, Tryz.ntmps54
          go_wp2_with fail
          refine (HI.out _).mono ?_
          rintro e w' ⟨rfl, rfl⟩
          go_wp2_with fail
          refine (HS.out _).mono ?_
          rintro e w' ⟨rfl, rfl⟩
          go_wp2_with fail
          refine (HZ.out _).mono ?_
          rintro e w1 ⟨rfl, hb1⟩
          go_wp2_with fail
          refine (HO.out _).mono ?_
          rintro e w2 ⟨rfl, hb2⟩
          have HB := Lib.hid (hb1.trans (hb2.mono hb1.size))
          clear hb1 hb2
          go_wp2_with fail
          go_returns
          exact ⟨rfl, HB.out⟩
    · cases ok
      all_goals
        rcases hx2 with rfl | rfl
        all_goals
          go_enter Tryz.func54, Tryz.ntmps54
          go_wp2_with fail
          refine (HI.out _).mono ?_
          rintro e w' ⟨rfl, rfl⟩
          go_wp2_with fail
          refine (HS.out _).mono ?_
          rintro e w' ⟨rfl, rfl⟩
          go_wp2_with fail
          refine (HZ.out _).mono ?_
          rintro e w1 ⟨rfl, hb1⟩
          go_wp2_with fail
          refine (HO.out _).mono ?_
          rintro e w2 ⟨rfl, hb2⟩
          have HB := Lib.hid (hb1.trans (hb2.mono hb1.size))
          clear hb1 hb2
          go_wp2_with fail
          go_returns
          exact ⟨rfl, HB.out⟩
end Go.Proofs.YtbccachkkflceaaGreatDoor.Read

