/-
  Plain facts on bytes, on texts and their parts; the reference's search for a byte.
-/
import Derived.Test.YtbccachkkflceaaDoorRows
import Derived.Test.YtbccachkkflceaaDoorFm
import Derived.WalkKit
import Derived.WalkSpells
import Derived.Lib.Hide
import Derived.Handy
import Derived.Outline
namespace Go.Proofs.YtbccachkkflceaaDoor.FmB
open Go.RowKit Go.Proofs.YtbccachkkflceaaDoor.Plain Go.Proofs.YtbccachkkflceaaDoor.Fm
set_option linter.unusedVariables false

theorem idx_first : ∀ (l : List UInt8) (c : UInt8) (k : Nat) (hk : k < l.length), (∀ j (hj : j < l.length), j < k → l[j] ≠ c) → l[k] = c → Lib.indexByte l c = (k : Int)
  | [], _, _, hk, _, _ => by simp at hk
  | b :: l, c, 0, _, _, he => by
    have he' : b = c := he
    rw [Lib.indexByte, he']
    simp
  | b :: l, c, k + 1, hk, hn, he => by
    have h0 : b ≠ c := hn 0 (by simp) (by omega)
    have ih := idx_first l c k (by simpa using hk) (fun j hj hjk => hn (j + 1) (by simpa using hj) (by omega)) (by simpa using he)
    rw [Lib.indexByte, ih, if_neg (by simpa using h0), if_neg (by simp <;> omega)]
    omega
theorem idx_none : ∀ (l : List UInt8) (c : UInt8), (∀ j (hj : j < l.length), l[j] ≠ c) → Lib.indexByte l c = -1
  | [], _, _ => rfl
  | b :: l, c, hn => by
    have h0 : b ≠ c := hn 0 (by simp)
    have ih := idx_none l c (fun j hj => hn (j + 1) (by simpa using hj))
    rw [Lib.indexByte, ih, if_neg (by simpa using h0)]
    rfl
/-- the byte at a place as a number -/
theorem byte_ne {s : ByteArray} {k : Nat} (hk : k < s.size) (c : UInt8) : ((s[k].toNat : Int) == (c.toNat : Int)) = decide (s.data.toList[k]'(by simpa using hk) = c) := by
  have e : s.data.toList[k]'(by simpa using hk) = s[k] := by simp; rfl
  rw [e, Bool.eq_iff_iff, beq_iff_eq, decide_eq_true_iff]
  constructor
  · intro h; exact UInt8.toNat_inj.1 (by omega)
  · intro h; rw [h]
set_option maxHeartbeats 1000000 in
theorem find_at (s : ByteArray) (hs : s.size ≤ maxLen) (c : UInt8) (w : World) :
    Calls Tryd.prog 72 #[.string s, .int .u8 (c.toNat : Int)] w fun e w' => e = .returned (.int .i64 (Lib.indexByte s.data.toList c)) ∧ w = w' := by
  unfold maxLen at hs
  obtain ⟨cn, hcn⟩ : ∃ cn, (c.toNat : Int) = cn := ⟨_, rfl⟩
  have HC := Lib.hid hcn
  rw [hcn]
  clear hcn
  go_enter Tryd.func72, Tryd.ntmps72
  go_wp2_with fail
  go_loop [5] (fun i => ∃ k : Nat, k ≤ s.size ∧ i = .int .i64 (k : Int) ∧ Hid (∀ j (hj : j < s.data.toList.length), j < k → s.data.toList[j] ≠ c)) (fun i => s.size - (intOf i).toNat)
  case atStart => exact ⟨0, Nat.zero_le _, rfl, fun j _ h => absurd h (by omega)⟩
  case round =>
    obtain ⟨k, hk, rfl, hno⟩ := hrel
    by_cases hkl : k < s.size
    · have HE := Lib.hid (byte_ne hkl c)
      have hkl' : k < s.data.toList.length := by simpa using hkl
      obtain ⟨b, hb⟩ : ∃ b, ((s[k].toNat : Int) == cn) = b := ⟨_, rfl⟩
      have HB := Lib.hid hb
      cases b
      · have HN : Hid (∀ j (hj : j < s.data.toList.length), j < k + 1 → s.data.toList[j] ≠ c) := fun j hj hjk => by
          by_cases e : j = k
          · subst e
            have h := HE.out
            rw [HC.out, HB.out] at h
            exact of_decide_eq_false h.symm
          · exact hno.out j hj (by omega)
        clear hno HE
        go_wp2_with fail
        go_round
        case rel => exact ⟨k + 1, by omega, by go_num, HN⟩
        case measure => simp [intOf]; omega
      · have HI : Hid (Lib.indexByte s.data.toList c = (k : Int)) := by
          have h := HE.out
          rw [HC.out, HB.out] at h
          exact idx_first _ _ k hkl' (fun j hj hjk => hno.out j hj hjk) (of_decide_eq_true h.symm)
        clear hno HE
        go_wp2_with fail
        go_ret
        exact ⟨by rw [HI.out]; rfl, rfl⟩
    · obtain rfl : k = s.size := by omega
      have HI : Hid (Lib.indexByte s.data.toList c = -1) := idx_none _ _ fun j hj => hno.out j hj (by simpa using hj)
      clear hno
      go_wp2_with fail
      go_ret
      exact ⟨by rw [HI.out]; rfl, rfl⟩
/-- the byte at an index, told by what stands from there on -/
theorem at_drop {s : ByteArray} {k : Nat} {c : UInt8} {r : List UInt8} (h : s.data.toList.drop k = c :: r) : ∃ hk : k < s.size, s[k] = c := by
  have hk : k < s.data.toList.length := by
    apply Classical.byContradiction
    intro hn
    rw [List.drop_eq_nil_of_le (by omega)] at h
    cases h
  have hk2 : k < s.size := by simpa using hk
  refine ⟨hk2, ?_⟩
  have e : s.data.toList[k]'hk = s[k] := by simp; rfl
  rw [← e]
  have := List.drop_eq_getElem_cons hk
  rw [this] at h
  exact (List.cons.inj h).1
theorem drop_more {s : ByteArray} {k : Nat} (n : Nat) {x r : List UInt8} (h : s.data.toList.drop k = x ++ r) (hn : x.length = n) : s.data.toList.drop (k + n) = r := by
  rw [← List.drop_drop, h, ← hn, List.drop_left]
theorem drop_len {s : ByteArray} {k : Nat} {x r : List UInt8} (hk : k ≤ s.size) (h : s.data.toList.drop k = x ++ r) : k + x.length + r.length = s.size := by
  have := congrArg List.length h
  simp at this
  omega
theorem at_drop' {s : ByteArray} {k : Nat} (hk : k < s.size) : s.data.toList.drop k = s[k] :: s.data.toList.drop (k + 1) := by
  have hk' : k < s.data.toList.length := by simpa using hk
  rw [List.drop_eq_getElem_cons hk']
  congr 1
theorem not_byte {x : UInt8} {n : UInt8} (h : x ≠ n) : ((x.toNat : Int) == (n.toNat : Int)) = false := by
  apply beq_false_of_ne
  intro e
  exact h (UInt8.toNat_inj.1 (by omega))
theorem eq_str {q : ByteArray} {r : List UInt8} (h : q.data.toList = r) : q = str r := by
  apply ByteArray.ext
  apply Array.ext'
  simp only [str]
  exact h
theorem data_extract (s : ByteArray) (i j : Nat) : (s.extract i j).data.toList = (s.data.toList.drop i).take (j - i) := by
  simp [ByteArray.data_extract, List.extract_eq_take_drop]
theorem extract_rest (s : ByteArray) (i : Nat) {r : List UInt8} (h : s.data.toList.drop i = r) : s.extract i s.size = str r := by
  apply eq_str
  rw [data_extract, h]
  apply List.take_of_length_le
  rw [← h]
  simp
theorem not_empty {s : ByteArray} (h : 0 < s.size) : s.toList.isEmpty = false := by
  rw [ByteArray.toList_eq]
  cases hl : s.data.toList with
  | nil =>
    have h2 : s.data.toList.length = 0 := by rw [hl]; rfl
    have h3 : s.data.toList.length = s.size := by simp
    omega
  | cons a l => rfl
theorem is_empty {s : ByteArray} (h : s.size = 0) : s.toList.isEmpty = true := by
  rw [ByteArray.toList_eq]
  cases hl : s.data.toList with
  | nil => rfl
  | cons a l =>
    have h2 : s.data.toList.length = s.size := by simp
    rw [hl, h] at h2
    cases h2
end Go.Proofs.YtbccachkkflceaaDoor.FmB
