/-
  Texts of one seat, joined: FmB, FmRead.
-/
import Derived.Test.YtbccachkkflceaaGreatDoorJn1
import Derived.Test.YtbccachkkflceaaGreatDoorRows
import Derived.Test.YtbccachkkflceaaGreatDoorJn5
import Derived.WalkKit
import Derived.WalkSpells
import Derived.Lib.Hide
import Derived.Handy
import Derived.Outline
import Derived.Test.YtbccachkkflceaaGreatDoorJn6
import Derived.Below
import Derived.Deep.QuietTactic
import Derived.BigQuiet
/-
  Plain facts on bytes, on texts and their parts; the reference's search for a byte.
-/
namespace Go.Proofs.YtbccachkkflceaaGreatDoor.FmB
open Go.RowKit Go.Proofs.YtbccachkkflceaaGreatDoor.Plain Go.Proofs.YtbccachkkflceaaGreatDoor.Fm
set_option linter.unusedVariables false

theorem idx_first : ∀ (l : List UInt8) (c : UInt8) (k : Nat) (hk : k < l.length), (∀ j (hj : j < l.length), j < k → l[j] ≠ c) → l[k] = c → Lib.indexByte l c = (k : Int)
  | [], _, _, hk, _, _ => by simp at hk
  | b :: l, c, 0, _, _, he => by
    have he' : b = c := he
    rw [Lib.indexByte, he']
    simp
  | b :: l, c, k + 1, hk, hn, he => by
    have h0 : b ≠ c := hn 0 (by simp) (by omega)
    have ih := idx_first l c k (by simpa using hk) (fun j hj hjk => hn (j + 1) (by simpa using hj) (by omega)) (by simpa using he)
    rw [Lib.indexByte, ih, if_neg (by simpa using h0), if_neg (by simp <;> omega)]
    omega
theorem idx_none : ∀ (l : List UInt8) (c : UInt8), (∀ j (hj : j < l.length), l[j] ≠ c) → Lib.indexByte l c = -1
  | [], _, _ => rfl
  | b :: l, c, hn => by
    have h0 : b ≠ c := hn 0 (by simp)
    have ih := idx_none l c (fun j hj => hn (j + 1) (by simpa using hj))
    rw [Lib.indexByte, ih, if_neg (by simpa using h0)]
    rfl
/-- the byte at a place as a number -/
theorem byte_ne {s : ByteArray} {k : Nat} (hk : k < s.size) (c : UInt8) : ((s[k].toNat : Int) == (c.toNat : Int)) = decide (s.data.toList[k]'(by simpa using hk) = c) := by
  have e : s.data.toList[k]'(by simpa using hk) = s[k] := by simp; rfl
  rw [e, Bool.eq_iff_iff, beq_iff_eq, decide_eq_true_iff]
  constructor
  · intro h; exact UInt8.toNat_inj.1 (by omega)
  · intro h; rw [h]
set_option maxHeartbeats 1000000 in
theorem find_at (s : ByteArray) (hs : s.size ≤ maxLen) (c : UInt8) (w : World) :
    Calls Tryz.prog 88 #[.string s, .int .u8 (c.toNat : Int)] w fun e w' => e = .returned (.int .i64 (Lib.indexByte s.data.toList c)) ∧ w = w' := by
  unfold maxLen at hs
  obtain ⟨cn, hcn⟩ : ∃ cn, (c.toNat : Int) = cn := ⟨_, rfl⟩
  have HC := Lib.hid hcn
  rw [hcn]
  clear hcn
  go_enter Tryz.func88, Tryz.ntmps88
  go_wp2_with fail
  go_loop [5] (fun i => ∃ k : Nat, k ≤ s.size ∧ i = .int .i64 (k : Int) ∧ Hid (∀ j (hj : j < s.data.toList.length), j < k → s.data.toList[j] ≠ c)) (fun i => s.size - (intOf i).toNat)
  case atStart => exact ⟨0, Nat.zero_le _, rfl, fun j _ h => absurd h (by omega)⟩
  case round =>
    obtain ⟨k, hk, rfl, hno⟩ := hrel
    by_cases hkl : k < s.size
    · have HE := Lib.hid (byte_ne hkl c)
      have hkl' : k < s.data.toList.length := by simpa using hkl
      obtain ⟨b, hb⟩ : ∃ b, ((s[k].toNat : Int) == cn) = b := ⟨_, rfl⟩
      have HB := Lib.hid hb
      cases b
      · have HN : Hid (∀ j (hj : j < s.data.toList.length), j < k + 1 → s.data.toList[j] ≠ c) := fun j hj hjk => by
          by_cases e : j = k
          · subst e
            have h := HE.out
            rw [HC.out, HB.out] at h
            exact of_decide_eq_false h.symm
          · exact hno.out j hj (by omega)
        clear hno HE
        go_wp2_with fail
        go_round
        case rel => exact ⟨k + 1, by omega, by go_num, HN⟩
        case measure => simp [intOf]; omega
      · have HI : Hid (Lib.indexByte s.data.toList c = (k : Int)) := by
          have h := HE.out
          rw [HC.out, HB.out] at h
          exact idx_first _ _ k hkl' (fun j hj hjk => hno.out j hj hjk) (of_decide_eq_true h.symm)
        clear hno HE
        go_wp2_with fail
        go_ret
        exact ⟨by rw [HI.out]; rfl, rfl⟩
    · obtain rfl : k = s.size := by omega
      have HI : Hid (Lib.indexByte s.data.toList c = -1) := idx_none _ _ fun j hj => hno.out j hj (by simpa using hj)
      clear hno
      go_wp2_with fail
      go_ret
      exact ⟨by rw [HI.out]; rfl, rfl⟩
/-- the byte at an index, told by what stands from there on -/
theorem at_drop {s : ByteArray} {k : Nat} {c : UInt8} {r : List UInt8} (h : s.data.toList.drop k = c :: r) : ∃ hk : k < s.size, s[k] = c := by
  have hk : k < s.data.toList.length := by
    apply Classical.byContradiction
    intro hn
    rw [List.drop_eq_nil_of_le (by omega)] at h
    cases h
  have hk2 : k < s.size := by simpa using hk
  refine ⟨hk2, ?_⟩
  have e : s.data.toList[k]'hk = s[k] := by simp; rfl
  rw [← e]
  have := List.drop_eq_getElem_cons hk
  rw [this] at h
  exact (List.cons.inj h).1
theorem drop_more {s : ByteArray} {k : Nat} (n : Nat) {x r : List UInt8} (h : s.data.toList.drop k = x ++ r) (hn : x.length = n) : s.data.toList.drop (k + n) = r := by
  rw [← List.drop_drop, h, ← hn, List.drop_left]
theorem drop_len {s : ByteArray} {k : Nat} {x r : List UInt8} (hk : k ≤ s.size) (h : s.data.toList.drop k = x ++ r) : k + x.length + r.length = s.size := by
  have := congrArg List.length h
  simp at this
  omega
theorem at_drop' {s : ByteArray} {k : Nat} (hk : k < s.size) : s.data.toList.drop k = s[k] :: s.data.toList.drop (k + 1) := by
  have hk' : k < s.data.toList.length := by simpa using hk
  rw [List.drop_eq_getElem_cons hk']
  congr 1
theorem not_byte {x : UInt8} {n : UInt8} (h : x ≠ n) : ((x.toNat : Int) == (n.toNat : Int)) = false := by
  apply beq_false_of_ne
  intro e
  exact h (UInt8.toNat_inj.1 (by omega))
theorem eq_str {q : ByteArray} {r : List UInt8} (h : q.data.toList = r) : q = str r := by
  apply ByteArray.ext
  apply Array.ext'
  simp only [str]
  exact h
theorem data_extract (s : ByteArray) (i j : Nat) : (s.extract i j).data.toList = (s.data.toList.drop i).take (j - i) := by
  simp [ByteArray.data_extract, List.extract_eq_take_drop]
theorem extract_rest (s : ByteArray) (i : Nat) {r : List UInt8} (h : s.data.toList.drop i = r) : s.extract i s.size = str r := by
  apply eq_str
  rw [data_extract, h]
  apply List.take_of_length_le
  rw [← h]
  simp
theorem not_empty {s : ByteArray} (h : 0 < s.size) : s.toList.isEmpty = false := by
  rw [ByteArray.toList_eq]
  cases hl : s.data.toList with
  | nil =>
    have h2 : s.data.toList.length = 0 := by rw [hl]; rfl
    have h3 : s.data.toList.length = s.size := by simp
    omega
  | cons a l => rfl
theorem is_empty {s : ByteArray} (h : s.size = 0) : s.toList.isEmpty = true := by
  rw [ByteArray.toList_eq]
  cases hl : s.data.toList with
  | nil => rfl
  | cons a l =>
    have h2 : s.data.toList.length = s.size := by simp
    rw [hl, h] at h2
    cases h2
end Go.Proofs.YtbccachkkflceaaGreatDoor.FmB

/-
  The program's reading of a formula: a tree of letters and gates, where there is one.
-/
namespace Go.Proofs.YtbccachkkflceaaGreatDoor.FmRead
open Go.RowKit Go.Shelf Go.Proofs.YtbccachkkflceaaGreatDoor.Plain Go.Proofs.YtbccachkkflceaaGreatDoor.Fm Go.Proofs.YtbccachkkflceaaGreatDoor.FmB Go.Proofs.YtbccachkkflceaaGreatDoor.Rect
set_option linter.unusedVariables false

theorem drawn_at (w : World) (q : Nat) : Below w.heap.size w (w.drewN q) := ⟨rfl, rfl, rfl, Nat.le_refl _, fun _ _ => rfl⟩
/-- a formula as a value -/
def litV (k : Int) (v : Bool) : Value := .agg #[.int .i64 k, .int .i64 (bitI v)]
def gateV (a : Bool) (f g : Value) : Value := .agg #[f, g, .int .u8 ((sgn a).toNat : Int)]
def tree : F → Value
  | .lit k v => .iface 64 (litV (k : Int) v)
  | .gate a f g => .iface 69 (gateV a (tree f) (tree g))
theorem tree_iface (t : F) : ∃ ty v, tree t = .iface ty v := by
  cases t
  · exact ⟨_, _, rfl⟩
  · exact ⟨_, _, rfl⟩

theorem index_byte (s : ByteArray) (c : Int) (w : World) :
    Calls Tryz.prog 87 #[.string s, .int .u8 c] w fun e w' => e = .returned (.int .i64 (Lib.indexByte s.data.toList c.toNat.toUInt8)) ∧ w' = w :=
  Any.strings_IndexByte Tryz.lays137 s c w
theorem index_lets (c : UInt8) (w : World) :
    Calls Tryz.prog 87 #[.string ⟨#[88, 89, 90, 120, 121, 122]⟩, .int .u8 (c.toNat : Int)] w fun e w' => e = .returned (.int .i64 (ixB c)) ∧ w = w' := by
  refine (index_byte _ _ w).mono ?_
  rintro e w' ⟨rfl, rfl⟩
  refine ⟨?_, rfl⟩
  have e : ((c.toNat : Int)).toNat.toUInt8 = c := by simp
  rw [e]
  rfl
theorem index_sgn (c : UInt8) (w : World) :
    Calls Tryz.prog 87 #[.string ⟨#[38, 124]⟩, .int .u8 (c.toNat : Int)] w fun e w' => e = .returned (.int .i64 (Lib.indexByte [38, 124] c)) ∧ w = w' := by
  refine (index_byte _ _ w).mono ?_
  rintro e w' ⟨rfl, rfl⟩
  refine ⟨?_, rfl⟩
  have e : ((c.toNat : Int)).toNat.toUInt8 = c := by simp
  rw [e]
theorem ix_sgn (a : Bool) : Lib.indexByte [38, 124] (sgn a) = bitI (!a) := by cases a <;> decide
theorem ix_sgn_no (c : UInt8) (h : ∀ a, c ≠ sgn a) : Lib.indexByte [38, 124] c = -1 := by
  apply idx_none
  intro j hj
  have h1 := h true
  have h2 := h false
  have : j = 0 ∨ j = 1 := by simp at hj; omega
  rcases this with rfl | rfl
  · intro e; exact h1 e.symm
  · intro e; exact h2 e.symm

set_option maxHeartbeats 1000000 in
theorem letter_yes (k : Nat) (v : Bool) (hk : k < 3) (b : Nat) (hb : k < b) (w : World) :
    Calls Tryz.prog 86 #[.int .u8 ((litB k v).toNat : Int), .int .i64 (b : Int)] w fun e w' => e = .returned (.tuple #[litV (k : Int) v, .bool true]) ∧ Below w.heap.size w w' := by
  have HI := Lib.hid (index_lets (litB k v))
  rw [ixB_lit k v hk] at HI
  obtain ⟨m, hm⟩ : ∃ m : Nat, k + 3 * v.toNat = m := ⟨_, rfl⟩
  rw [hm] at HI
  have hv2 : v.toNat < 2 := by cases v <;> decide
  have h1 : (m : Int).tmod 3 = (k : Int) := by rw [Int.tmod_eq_emod_of_nonneg (by omega)]; omega
  have h2 : IntKind.i64.wrap ((m : Int) / 3) = bitI v := by
    have e : (m : Int) / 3 = (v.toNat : Int) := by omega
    rw [e, IntKind.wrap_i64]
    cases v <;> rfl
  unfold litV
  generalize bitI v = bv at *
  generalize ((litB k v).toNat : Int) = c at *
  clear hm hv2
  go_enter Tryz.func86, Tryz.ntmps86
  go_wp2_with fail
  refine (HI.out _).mono ?_
  rintro e w' ⟨rfl, rfl⟩
  go_wp2_with fail
  go_returns
  exact ⟨rfl, by go_grown⟩

set_option maxHeartbeats 1000000 in
theorem letter_no (c : UInt8) (b : Nat) (h : ∀ k v, k < b → c ≠ litB k v) (w : World) :
    Calls Tryz.prog 86 #[.int .u8 (c.toNat : Int), .int .i64 (b : Int)] w fun e w' => e = .returned (.tuple #[.agg #[.int .i64 0, .int .i64 0], .bool false]) ∧ Below w.heap.size w w' := by
  have HI := Lib.hid (index_lets c)
  rcases ixB_no b c h with e | ⟨k, v, hk1, hk2, e⟩
  · rw [e] at HI
    clear h e
    go_enter Tryz.func86, Tryz.ntmps86
    go_wp2_with fail
    refine (HI.out _).mono ?_
    rintro e w' ⟨rfl, rfl⟩
    go_wp2_with fail
    go_returns
    exact ⟨rfl, by go_grown⟩
  · rw [e] at HI
    obtain ⟨m, hm⟩ : ∃ m : Nat, k + 3 * v.toNat = m := ⟨_, rfl⟩
    rw [hm] at HI
    have hv2 : v.toNat < 2 := by cases v <;> decide
    have h1 : (m : Int).tmod 3 = (k : Int) := by rw [Int.tmod_eq_emod_of_nonneg (by omega)]; omega
    clear h e hm hv2
    go_enter Tryz.func86, Tryz.ntmps86
    go_wp2_with fail
    refine (HI.out _).mono ?_
    rintro e w' ⟨rfl, rfl⟩
    go_wp2_with fail
    go_returns
    exact ⟨rfl, by go_grown⟩

set_option maxHeartbeats 2000000 in
set_option maxRecDepth 100000 in
theorem read_yes (b : Nat) (hb3 : b ≤ 3) (t : F) : wf b t → ∀ (s : ByteArray) (hs : s.size ≤ 1048576) (r : List UInt8) (h : s.data.toList = text t ++ r) (w : World),
    Calls Tryz.prog 46 #[.string s, .int .i64 (b : Int)] w fun e w' => e = .returned (.tuple #[tree t, .string (str r)]) ∧ Below w.heap.size w w' := by
  induction t with
  | lit k v =>
    intro hw s hs r h w
    obtain ⟨hk, hx⟩ := at_drop (k := 0) (show s.data.toList.drop 0 = litB k v :: r from h)
    have hkb : k < b := hw
    have hr : s.extract 1 s.size = str r := extract_rest s 1 (by rw [h]; rfl)
    have he := not_empty hk
    have HL : Hid (∀ W, Calls Tryz.prog 86 #[.int .u8 ((s[0]'hk).toNat : Int), .int .i64 (b : Int)] W fun e w' => e = .returned (.tuple #[.agg #[.int .i64 (k : Int), .int .i64 (bitI v)], .bool true]) ∧ Below W.heap.size W w') := fun W => by
      rw [hx]; exact letter_yes k v (by omega) b hkb W
    have HT : Hid (tree (.lit k v) = .iface 64 (.agg #[.int .i64 (k : Int), .int .i64 (bitI v)])) := rfl
    generalize bitI v = bv at *
    clear hx h hw
    go_enter Tryz.func46, Tryz.ntmps46
    go_wp2_with fail
    refine (HL.out _).mono ?_
    rintro e w1 ⟨rfl, hb1⟩
    have HB := Lib.hid hb1
    clear hb1
    go_wp2_with fail
    go_quiet (fail)
    go_wp2_with fail
    go_returns
    exact ⟨by rw [HT.out, ← hr]; rfl, (HB.out.alloc HB.out.size _).trans (drawn_at _ _ |>.mono (by have := HB.out.size; simp at this ⊢; omega))⟩
  | gate a f g ihz iho =>
    intro hw s hs r h w
    have h0 : s.data.toList = [sgn a] ++ (text f ++ (text g ++ r)) := by rw [h]; simp [text]
    obtain ⟨hk, hx⟩ := at_drop (k := 0) (show s.data.toList.drop 0 = sgn a :: (text f ++ (text g ++ r)) from h0)
    have hl : 1 + (text f ++ (text g ++ r)).length = s.size := by have := congrArg List.length h0; simp at this ⊢; omega
    have hz : s.extract 1 s.size = str (text f ++ (text g ++ r)) := extract_rest s 1 (by rw [h0]; rfl)
    have he := not_empty hk
    have HL : Hid (∀ W, Calls Tryz.prog 86 #[.int .u8 ((s[0]'hk).toNat : Int), .int .i64 (b : Int)] W fun e w' => e = .returned (.tuple #[.agg #[.int .i64 0, .int .i64 0], .bool false]) ∧ Below W.heap.size W w') := fun W => by
      rw [hx]; exact letter_no _ b (fun k v hk e => lit_sgn (by omega) e.symm) W
    have HG : Hid (∀ W, Calls Tryz.prog 87 #[.string ⟨#[38, 124]⟩, .int .u8 ((s[0]'hk).toNat : Int)] W fun e w' => e = .returned (.int .i64 (bitI (!a))) ∧ W = w') := fun W => by
      rw [hx, ← ix_sgn a]; exact index_sgn _ W
    have HZ : Hid (∀ W, Calls Tryz.prog 46 #[.string (s.extract 1 s.size), .int .i64 (b : Int)] W fun e w' => e = .returned (.tuple #[tree f, .string (str (text g ++ r))]) ∧ Below W.heap.size W w') := fun W => by
      rw [hz]
      exact ihz hw.1 _ (by rw [str_size]; omega) _ (by simp [str]) W
    have HO : Hid (∀ W, Calls Tryz.prog 46 #[.string (str (text g ++ r)), .int .i64 (b : Int)] W fun e w' => e = .returned (.tuple #[tree g, .string (str r)]) ∧ Below W.heap.size W w') := fun W => by
      exact iho hw.2 _ (by rw [str_size]; simp at hl ⊢; omega) _ (by simp [str]) W
    have hn : (s[0]'hk).toNat = (sgn a).toNat := by rw [hx]
    have hl1 : 1 ≤ s.size := by omega
    obtain ⟨tz, vz, ez⟩ := tree_iface f
    obtain ⟨to, vo, eo⟩ := tree_iface g
    have HT : Hid (tree (.gate a f g) = .iface 69 (.agg #[.iface tz vz, .iface to vo, .int .u8 ((s[0]'hk).toNat : Int)])) := by
      show tree (.gate a f g) = _
      simp only [tree, gateV, ez, eo, hn]
    have hba : 0 ≤ bitI (!a) := by cases a <;> decide
    rw [ez] at HZ
    rw [eo] at HO
    rw [HT.out]
    generalize str (text g ++ r) = q1 at *
    generalize str r = q2 at *
    generalize bitI (!a) = ba at *
    clear hx h h0 hn hl hz hw ihz iho ez eo HT
    go_enter Tryz.func46, Tryz.ntmps46
    go_wp2_with fail
    refine (HL.out _).mono ?_
    rintro e w1 ⟨rfl, hb1⟩
    have HB := Lib.hid hb1
    clear hb1
    go_wp2_with fail
    refine (HG.out _).mono ?_
    rintro e w' ⟨rfl, rfl⟩
    go_wp2_with fail
    refine (HZ.out _).mono ?_
    rintro e w2 ⟨rfl, hb2⟩
    have HB2 : Hid (Below w.heap.size w w2) := rstep (rstepA HB.out _) hb2
    clear hb2 HB
    go_wp2_with fail
    refine (HO.out _).mono ?_
    rintro e w3 ⟨rfl, hb3⟩
    have HB3 : Hid (Below w.heap.size w w3) := rstep HB2.out hb3
    clear hb3 HB2
    go_wp2_with fail
    go_returns
    exact ⟨rfl, HB3.out⟩
end Go.Proofs.YtbccachkkflceaaGreatDoor.FmRead

