/-
  Texts of one seat, joined: GmM, GHex.
-/
import Derived.Test.YtbccachkkflceaaGreatDoorJn1
import Derived.Test.YtbccachkkflceaaGreatDoorJn17
import Derived.Test.YtbccachkkflceaaGreatDoorJn5
import Derived.Test.YtbccachkkflceaaGreatDoorJn4
import Derived.Test.YtbccachkkflceaaGreatDoorRows
import Derived.WalkKit
import Derived.WalkSpells
import Derived.Lib.Hide
import Derived.Handy
import Derived.Outline
/-
  The protocol of a formula. Nothing of the program.
-/
namespace Go.Proofs.YtbccachkkflceaaGreatDoor.GmM
open Go.RowKit Go.Proofs.YtbccachkkflceaaGreatDoor.Plain Go.Proofs.YtbccachkkflceaaGreatDoor.Pat
open Go.Proofs.YtbccachkkflceaaGreatDoor.Fm (F val size deep lets litB sgn dual)
open Go.Proofs.YtbccachkkflceaaGreatDoor.Tree (T V3 gN gI gD whoB hexD)
set_option linter.unusedVariables false

/-- the end that names a bit -/
def gk : Nat → V3
  | 0 => .v0
  | 1 => .v1
  | _ => .v2
theorem gk_N (k : Nat) (h : k < 3) : gN (gk k) = k := by
  have : ∀ k : Fin 3, gN (gk k.1) = k.1 := by decide
  exact this ⟨k, h⟩
/-- the set that is asked at a gate -/
def askB (a : Bool) (f : F) : Nat := setB (fun n => val f n == a) 8
theorem ask_lt (a : Bool) (f : F) : askB a f < 256 := setB_lt8 _ 8 (Nat.le_refl _)
/-- the protocol of a formula -/
def gameT : F → T
  | .lit k _ => .leaf (gk k)
  | .gate a f g => .say (!a) (askB a f) (gameT f) (gameT g)
theorem game_wf : ∀ f : F, Tree.wf (gameT f)
  | .lit _ _ => trivial
  | .gate a f g => ⟨ask_lt a f, game_wf f, game_wf g⟩
theorem game_bits : ∀ f : F, Tree.bits (gameT f) = deep f
  | .lit _ _ => rfl
  | .gate a f g => by simp only [gameT, Tree.bits, deep, game_bits f, game_bits g]
theorem game_ends : ∀ f : F, Tree.ends (gameT f) = size f
  | .lit _ _ => rfl
  | .gate a f g => by simp only [gameT, Tree.ends, size, game_ends f, game_ends g]
theorem text_ends : ∀ t : T, (Tree.text t).length + 3 = 4 * Tree.ends t
  | .leaf _ => rfl
  | .say _ _ z o => by
    have h1 := text_ends z
    have h2 := text_ends o
    simp only [Tree.text, Tree.ends, List.length_cons, List.length_append]
    omega
/-- at most 100 letters: at most 397 bytes -/
theorem game_length (f : F) (h : (Fm.text f).length ≤ 200) : (Tree.text (gameT f)).length ≤ 400 := by
  have h1 := text_ends (gameT f)
  have h2 := Fm.text_size f
  rw [game_ends] at h1
  omega
end Go.Proofs.YtbccachkkflceaaGreatDoor.GmM

/-
  The reference's digits of 16 values, and where a protocol ends that begins at an index of a text.
-/
namespace Go.Proofs.YtbccachkkflceaaGreatDoor.Hex
open Go.RowKit Go.Proofs.YtbccachkkflceaaGreatDoor.Plain Go.Proofs.YtbccachkkflceaaGreatDoor.Tree
set_option linter.unusedVariables false

theorem idx_first : ∀ (l : List UInt8) (c : UInt8) (k : Nat) (hk : k < l.length), (∀ j (hj : j < l.length), j < k → l[j] ≠ c) → l[k] = c → Lib.indexByte l c = (k : Int)
  | [], _, _, hk, _, _ => by simp at hk
  | b :: l, c, 0, _, _, he => by
    have he' : b = c := he
    rw [Lib.indexByte, he']
    simp
  | b :: l, c, k + 1, hk, hn, he => by
    have h0 : b ≠ c := hn 0 (by simp) (by omega)
    have ih := idx_first l c k (by simpa using hk) (fun j hj hjk => hn (j + 1) (by simpa using hj) (by omega)) (by simpa using he)
    rw [Lib.indexByte, ih, if_neg (by simpa using h0), if_neg (by simp <;> omega)]
    omega
theorem idx_none : ∀ (l : List UInt8) (c : UInt8), (∀ j (hj : j < l.length), l[j] ≠ c) → Lib.indexByte l c = -1
  | [], _, _ => rfl
  | b :: l, c, hn => by
    have h0 : b ≠ c := hn 0 (by simp)
    have ih := idx_none l c (fun j hj => hn (j + 1) (by simpa using hj))
    rw [Lib.indexByte, ih, if_neg (by simpa using h0)]
    rfl
/-- the byte at a place as a number -/
theorem byte_ne {s : ByteArray} {k : Nat} (hk : k < s.size) (c : UInt8) : ((s[k].toNat : Int) == (c.toNat : Int)) = decide (s.data.toList[k]'(by simpa using hk) = c) := by
  have e : s.data.toList[k]'(by simpa using hk) = s[k] := by simp; rfl
  rw [e, Bool.eq_iff_iff, beq_iff_eq, decide_eq_true_iff]
  constructor
  · intro h; exact UInt8.toNat_inj.1 (by omega)
  · intro h; rw [h]

set_option maxHeartbeats 1000000 in
theorem find_at (s : ByteArray) (hs : s.size ≤ maxLen) (c : UInt8) (w : World) :
    Calls Tryz.prog 88 #[.string s, .int .u8 (c.toNat : Int)] w fun e w' => e = .returned (.int .i64 (Lib.indexByte s.data.toList c)) ∧ w = w' := by
  unfold maxLen at hs
  obtain ⟨cn, hcn⟩ : ∃ cn, (c.toNat : Int) = cn := ⟨_, rfl⟩
  have HC := Lib.hid hcn
  rw [hcn]
  clear hcn
  go_enter Tryz.func88, Tryz.ntmps88
  go_wp2_with fail
  go_loop [5] (fun i => ∃ k : Nat, k ≤ s.size ∧ i = .int .i64 (k : Int) ∧ Hid (∀ j (hj : j < s.data.toList.length), j < k → s.data.toList[j] ≠ c)) (fun i => s.size - (intOf i).toNat)
  case atStart => exact ⟨0, Nat.zero_le _, rfl, fun j _ h => absurd h (by omega)⟩
  case round =>
    obtain ⟨k, hk, rfl, hno⟩ := hrel
    by_cases hkl : k < s.size
    · have HE := Lib.hid (byte_ne hkl c)
      have hkl' : k < s.data.toList.length := by simpa using hkl
      obtain ⟨b, hb⟩ : ∃ b, ((s[k].toNat : Int) == cn) = b := ⟨_, rfl⟩
      have HB := Lib.hid hb
      cases b
      · have HN : Hid (∀ j (hj : j < s.data.toList.length), j < k + 1 → s.data.toList[j] ≠ c) := fun j hj hjk => by
          by_cases e : j = k
          · subst e
            have h := HE.out
            rw [HC.out, HB.out] at h
            exact of_decide_eq_false h.symm
          · exact hno.out j hj (by omega)
        clear hno HE
        go_wp2_with fail
        go_round
        case rel => exact ⟨k + 1, by omega, by go_num, HN⟩
        case measure => simp [intOf]; omega
      · have HI : Hid (Lib.indexByte s.data.toList c = (k : Int)) := by
          have h := HE.out
          rw [HC.out, HB.out] at h
          exact idx_first _ _ k hkl' (fun j hj hjk => hno.out j hj hjk) (of_decide_eq_true h.symm)
        clear hno HE
        go_wp2_with fail
        go_ret
        exact ⟨by rw [HI.out]; rfl, rfl⟩
    · obtain rfl : k = s.size := by omega
      have HI : Hid (Lib.indexByte s.data.toList c = -1) := idx_none _ _ fun j hj => hno.out j hj (by simpa using hj)
      clear hno
      go_wp2_with fail
      go_ret
      exact ⟨by rw [HI.out]; rfl, rfl⟩

set_option maxHeartbeats 400000 in
theorem hex_w (c : UInt8) (w : World) :
    Calls Tryz.prog 96 #[.int .u8 (c.toNat : Int)] w fun e w' => e = .returned (.int .i64 (hexV c)) ∧ w = w' := by
  go_enter Tryz.func96, Tryz.ntmps96
  go_wp2_with fail
  refine (find_at _ (by decide) c _).mono ?_
  rintro e w' ⟨rfl, rfl⟩
  go_wp2_with fail
  go_ret
  exact ⟨rfl, rfl⟩

/-- the byte at an index, told by what stands from there on -/
theorem at_drop {s : ByteArray} {k : Nat} {c : UInt8} {r : List UInt8} (h : s.data.toList.drop k = c :: r) : ∃ hk : k < s.size, s[k] = c := by
  have hk : k < s.data.toList.length := by
    apply Classical.byContradiction
    intro hn
    rw [List.drop_eq_nil_of_le (by omega)] at h
    cases h
  have hk2 : k < s.size := by simpa using hk
  refine ⟨hk2, ?_⟩
  have e : s.data.toList[k]'hk = s[k] := by simp; rfl
  rw [← e]
  have := List.drop_eq_getElem_cons hk
  rw [this] at h
  exact (List.cons.inj h).1
theorem drop_more {s : ByteArray} {k : Nat} (n : Nat) {x r : List UInt8} (h : s.data.toList.drop k = x ++ r) (hn : x.length = n) : s.data.toList.drop (k + n) = r := by
  rw [← List.drop_drop, h, ← hn, List.drop_left]
theorem drop_len {s : ByteArray} {k : Nat} {x r : List UInt8} (hk : k ≤ s.size) (h : s.data.toList.drop k = x ++ r) : k + x.length + r.length = s.size := by
  have := congrArg List.length h
  simp at this
  omega

set_option maxHeartbeats 2000000 in
set_option maxRecDepth 100000 in
/-- where a protocol stands, its end is found -/
theorem end_yes (s : ByteArray) (hs : s.size ≤ 1048576) (t : T) : wf t → ∀ (k : Nat) (hk : k ≤ s.size) (r : List UInt8) (h : s.data.toList.drop k = text t ++ r) (w : World),
    Calls Tryz.prog 65 #[.string s, .int .i64 (k : Int)] w fun e w' => e = .returned (.int .i64 ((k + (text t).length : Nat) : Int)) ∧ w = w' := by
  induction t with
  | leaf b =>
    intro hw k hk0 r h w
    obtain ⟨hk, hx⟩ := at_drop (show _ = gD b :: r from h)
    have hn : (s[k]'hk).toNat = (gD b).toNat := by rw [hx]
    clear hx h hk0
    cases b
    · replace hn : (s[k]'hk).toNat = 48 := hn
      go_enter Tryz.func65, Tryz.ntmps65
      go_wp2
      go_ret
      exact ⟨by simp [text], rfl⟩
    · replace hn : (s[k]'hk).toNat = 49 := hn
      go_enter Tryz.func65, Tryz.ntmps65
      go_wp2
      go_ret
      exact ⟨by simp [text], rfl⟩
    · replace hn : (s[k]'hk).toNat = 50 := hn
      go_enter Tryz.func65, Tryz.ntmps65
      go_wp2
      go_ret
      exact ⟨by simp [text], rfl⟩
  | say a v z o ihz iho =>
    intro hw k hk0 r h w
    have h0 : s.data.toList.drop k = [whoB a, hexD (v / 16), hexD (v % 16)] ++ (text z ++ (text o ++ r)) := by rw [h]; simp [text]
    have h1 : s.data.toList.drop (k + 1) = hexD (v / 16) :: (hexD (v % 16) :: (text z ++ (text o ++ r))) := drop_more (x := [whoB a]) 1 h0 rfl
    have h2 : s.data.toList.drop (k + 2) = hexD (v % 16) :: (text z ++ (text o ++ r)) := drop_more (x := [whoB a, hexD (v / 16)]) 2 h0 rfl
    have h3 : s.data.toList.drop (k + 3) = text z ++ (text o ++ r) := drop_more 3 h0 rfl
    have h4 : s.data.toList.drop (k + 3 + (text z).length) = text o ++ r := drop_more _ h3 rfl
    obtain ⟨hk, hx0⟩ := at_drop (show _ = whoB a :: (hexD (v / 16) :: (hexD (v % 16) :: (text z ++ (text o ++ r)))) from h0)
    obtain ⟨hk1, hx1⟩ := at_drop h1
    obtain ⟨hk2, hx2⟩ := at_drop h2
    have l3 := drop_len (by omega) h3
    rw [List.length_append] at l3
    have HZ := Lib.hid fun W => ihz hw.2.1 (k + 3) (by omega) _ h3 W
    have HO := Lib.hid fun W => iho hw.2.2 (k + 3 + (text z).length) (by omega) _ h4 W
    have hv : v < 256 := hw.1
    have e1 := hexV_D (v / 16) (by omega)
    have e2 := hexV_D (v % 16) (by omega)
    have H1 : Hid (∀ W, Calls Tryz.prog 96 #[.int .u8 ((s[k + 1]'hk1).toNat : Int)] W fun e w' => e = .returned (.int .i64 ((v / 16 : Nat) : Int)) ∧ W = w') := fun W => by rw [← e1, ← hx1]; exact hex_w _ W
    have H2 : Hid (∀ W, Calls Tryz.prog 96 #[.int .u8 ((s[k + 2]'hk2).toNat : Int)] W fun e w' => e = .returned (.int .i64 ((v % 16 : Nat) : Int)) ∧ W = w') := fun W => by rw [← e2, ← hx2]; exact hex_w _ W
    have HL : Hid ((text (.say a v z o)).length = 3 + (text z).length + (text o).length) := by show _ = _; simp only [text, List.length_cons, List.length_append]; omega
    have hn : (s[k]'hk).toNat = (whoB a).toNat := by rw [hx0]
    generalize (text (.say a v z o)).length = la at *
    generalize v / 16 = v1 at *
    generalize v % 16 = v2 at *
    generalize (text z).length = lz at *
    generalize (text o).length = lo at *
    have HN := Lib.hid hn
    have LA := HL.out
    clear h0 h1 h2 h3 h4 hx0 hx1 hx2 e1 e2 h hv ihz iho hw hn HL
    cases a
    all_goals
      first
        | (have hn : (s[k]'hk).toNat = 66 := HN.out)
        | (have hn : (s[k]'hk).toNat = 65 := HN.out)
      clear HN
      go_enter Tryz.func65, Tryz.ntmps65
      go_wp2_with fail
      refine (H1.out _).mono ?_
      rintro e w' ⟨rfl, rfl⟩
      go_wp2_with fail
      refine (H2.out _).mono ?_
      rintro e w' ⟨rfl, rfl⟩
      go_wp2_with fail
      refine (HZ.out _).mono ?_
      rintro e w' ⟨rfl, rfl⟩
      go_wp2_with fail
      refine (HO.out _).mono ?_
      rintro e w' ⟨rfl, rfl⟩
      go_wp2_with fail
      go_ret
      have E : ((k : Int) + 3 + lz + lo) = ((k + la : Nat) : Int) := by omega
      have E2 : ((k + 3 + lz + lo : Nat) : Int) = ((k + la : Nat) : Int) := by omega
      exact ⟨by first | (rw [E]; rfl) | (rw [E2]; rfl), rfl⟩

theorem at_drop' {s : ByteArray} {k : Nat} (hk : k < s.size) : s.data.toList.drop k = s[k] :: s.data.toList.drop (k + 1) := by
  have hk' : k < s.data.toList.length := by simpa using hk
  rw [List.drop_eq_getElem_cons hk']
  congr 1
theorem not_byte {x : UInt8} {n : UInt8} (h : x ≠ n) : ((x.toNat : Int) == (n.toNat : Int)) = false := by
  apply beq_false_of_ne
  intro e
  exact h (UInt8.toNat_inj.1 (by omega))

set_option maxHeartbeats 4000000 in
set_option maxRecDepth 100000 in
/-- where none stands, -1 is answered -/
theorem end_no (s : ByteArray) (hs : s.size ≤ 1048576) : ∀ (n k : Nat) (hk : k ≤ s.size) (hn : s.size - k ≤ n) (h : No (s.data.toList.drop k)) (w : World),
    Calls Tryz.prog 65 #[.string s, .int .i64 (k : Int)] w fun e w' => e = .returned (.int .i64 (-1)) ∧ w = w' := by
  have HB : Hid (∀ W : World, Calls Tryz.prog 65 #[.string s, .int .i64 (-1)] W fun e w' => e = .returned (.int .i64 (-1)) ∧ W = w') := by
    intro W
    go_enter Tryz.func65, Tryz.ntmps65
    go_wp2
    go_ret
    exact ⟨rfl, rfl⟩
  intro n
  induction n with
  | zero =>
    intro k hk hn h w
    have hks : s.size ≤ k := by omega
    clear h HB
    go_enter Tryz.func65, Tryz.ntmps65
    go_wp2
    go_ret
    exact ⟨rfl, rfl⟩
  | succ n ih =>
    intro k hk hn h w
    by_cases hks : s.size ≤ k
    · clear h HB ih
      go_enter Tryz.func65, Tryz.ntmps65
      go_wp2
      go_ret
      exact ⟨rfl, rfl⟩
    have hk1 : k < s.size := by omega
    have hd := at_drop' hk1
    have hdig : s[k] ≠ 48 ∧ s[k] ≠ 49 ∧ s[k] ≠ 50 := by rw [hd] at h; exact h.not_dig
    have N48 : (((s[k]'hk1).toNat : Int) == 48) = false := not_byte (n := 48) hdig.1
    have N49 : (((s[k]'hk1).toNat : Int) == 49) = false := not_byte (n := 49) hdig.2.1
    have N50 : (((s[k]'hk1).toNat : Int) == 50) = false := not_byte (n := 50) hdig.2.2
    by_cases hwho : ¬ (s[k] = 65 ∨ s[k] = 66)
    · have N65 : (((s[k]'hk1).toNat : Int) == 65) = false := not_byte (n := 65) (fun e => hwho (.inl e))
      have N66 : (((s[k]'hk1).toNat : Int) == 66) = false := not_byte (n := 66) (fun e => hwho (.inr e))
      clear h HB ih hd hdig hwho
      go_enter Tryz.func65, Tryz.ntmps65
      go_wp2_with fail
      go_ret
      exact ⟨rfl, rfl⟩
    replace hwho := Classical.not_not.1 hwho
    by_cases hk3 : s.size ≤ k + 2
    · have HW := Lib.hid hwho
      clear h HB ih hd hdig hwho
      obtain ⟨x, hx⟩ : ∃ x : Nat, (s[k]'hk1).toNat = x := ⟨_, rfl⟩
      have hx2 : x = 65 ∨ x = 66 := by rcases HW.out with e | e <;> rw [← hx, e] <;> simp
      clear HW N48 N49 N50
      rcases hx2 with rfl | rfl
      all_goals
        go_enter Tryz.func65, Tryz.ntmps65
        go_wp2_with fail
        go_ret
        exact ⟨rfl, rfl⟩
    have hk1' : k + 1 < s.size := by omega
    have hk2' : k + 2 < s.size := by omega
    have hd1 := at_drop' hk1'
    have hd2 := at_drop' hk2'
    have H1 : Hid (∀ W, Calls Tryz.prog 96 #[.int .u8 ((s[k + 1]'hk1').toNat : Int)] W fun e w' => e = .returned (.int .i64 (hexV (s[k + 1]'hk1'))) ∧ W = w') := fun W => hex_w _ W
    have H2 : Hid (∀ W, Calls Tryz.prog 96 #[.int .u8 ((s[k + 2]'hk2').toNat : Int)] W fun e w' => e = .returned (.int .i64 (hexV (s[k + 2]'hk2'))) ∧ W = w') := fun W => hex_w _ W
    -- what is answered about the first part, and about the second one
    have HE : Hid (0 ≤ hexV (s[k + 1]'hk1') → 0 ≤ hexV (s[k + 2]'hk2') → ∃ at1 : Int, (∀ W : World, Calls Tryz.prog 65 #[.string s, .int .i64 ((k : Int) + 3)] W fun e w' => e = .returned (.int .i64 at1) ∧ W = w') ∧
        (∀ W : World, Calls Tryz.prog 65 #[.string s, .int .i64 at1] W fun e w' => e = .returned (.int .i64 (-1)) ∧ W = w')) := by
      intro g1 g2
      rcases yes_or_no (s.data.toList.drop (k + 3)) with ⟨z, r1, hz, e1⟩ | hno
      · have hl := drop_len (s := s) (k := k + 3) (by omega) e1
        refine ⟨((k + 3 + (text z).length : Nat) : Int), fun W => end_yes s hs z hz (k + 3) (by omega) r1 e1 W, fun W => ?_⟩
        have e2 : s.data.toList.drop (k + 3 + (text z).length) = r1 := drop_more _ e1 rfl
        refine ih (k + 3 + (text z).length) (by omega) (by omega) ?_ W
        rw [e2]
        intro o r2 ho e3
        obtain ⟨a, ha⟩ := who_or _ hwho
        refine No.say (a := a) (x := s[k + 1]'hk1') (y := s[k + 2]'hk2') (z := z) (o := o) (r := r2) ?_ g1 g2 hz ho
        rw [← e3, ← e1, ← hd2, ← hd1, ← ha, ← hd]
        exact h
      · refine ⟨-1, fun W => ih (k + 3) (by omega) (by omega) hno W, HB.out⟩
    have HW := Lib.hid hwho
    have g1 := hexV_ge (s[k + 1]'hk1')
    have g2 := hexV_ge (s[k + 2]'hk2')
    generalize hexV (s[k + 1]'hk1') = v1 at *
    generalize hexV (s[k + 2]'hk2') = v2 at *
    clear h HB ih hd hd1 hd2 hdig hwho N48 N49 N50
    obtain ⟨x, hx⟩ : ∃ x : Nat, (s[k]'hk1).toNat = x := ⟨_, rfl⟩
    have hx2 : x = 65 ∨ x = 66 := by rcases HW.out with e | e <;> rw [← hx, e] <;> simp
    clear HW
    by_cases hv : 0 ≤ v1 ∧ 0 ≤ v2
    · obtain ⟨at1, HC1, HC2⟩ := HE.out hv.1 hv.2
      have HC1 := Lib.hid HC1
      have HC2 := Lib.hid HC2
      clear HE
      obtain ⟨hv1, hv2⟩ := hv
      rcases hx2 with rfl | rfl
      all_goals
        go_enter Tryz.func65, Tryz.ntmps65
        go_wp2_with fail
        refine (H1.out _).mono ?_
        rintro e w' ⟨rfl, rfl⟩
        go_wp2_with fail
        refine (H2.out _).mono ?_
        rintro e w' ⟨rfl, rfl⟩
        go_wp2_with fail
        refine (HC1.out _).mono ?_
        rintro e w' ⟨rfl, rfl⟩
        go_wp2_with fail
        refine (HC2.out _).mono ?_
        rintro e w' ⟨rfl, rfl⟩
        go_wp2_with fail
        go_ret
        exact ⟨rfl, rfl⟩
    · clear HE
      by_cases hv1 : v1 < 0
      · clear hv
        rcases hx2 with rfl | rfl
        all_goals
          go_enter Tryz.func65, Tryz.ntmps65
          go_wp2_with fail
          refine (H1.out _).mono ?_
          rintro e w' ⟨rfl, rfl⟩
          go_wp2_with fail
          go_ret
          exact ⟨rfl, rfl⟩
      · have hv2 : v2 < 0 := by omega
        have hv1 : 0 ≤ v1 := by omega
        clear hv
        rcases hx2 with rfl | rfl
        all_goals
          go_enter Tryz.func65, Tryz.ntmps65
          go_wp2_with fail
          refine (H1.out _).mono ?_
          rintro e w' ⟨rfl, rfl⟩
          go_wp2_with fail
          refine (H2.out _).mono ?_
          rintro e w' ⟨rfl, rfl⟩
          go_wp2_with fail
          go_ret
          exact ⟨rfl, rfl⟩
end Go.Proofs.YtbccachkkflceaaGreatDoor.Hex

