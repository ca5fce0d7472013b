/-
  Parts of ParseRect: the index of a byte, the set of a text's digits; of the reference and of the program.
-/
import Derived.Test.YtalechngagkklaaFormat
import Derived.Test.YtalechngagkklaaWhere
import Derived.Test.YtalechngagkklaaShelf
import Derived.Shelf.Strings.Cut
import Derived.Lib.IndexAny
namespace Go.Proofs.Ytalechngagkklaa.Parse
open Go.RowKit Go.Proofs.Ytalechngagkklaa.Plain Go.Proofs.Ytalechngagkklaa.Pat Go.Proofs.Ytalechngagkklaa.Rect Go.Proofs.Ytalechngagkklaa.Base Go.Proofs.Ytalechngagkklaa.Where Go.Proofs.Ytalechngagkklaa.Format
set_option linter.unusedVariables false

theorem idx_first : ∀ (l : List UInt8) (c : UInt8) (k : Nat) (hk : k < l.length), (∀ j (hj : j < l.length), j < k → l[j] ≠ c) → l[k] = c → Lib.indexByte l c = (k : Int)
  | [], _, _, hk, _, _ => by simp at hk
  | b :: l, c, 0, _, _, he => by
    have he' : b = c := he
    rw [Lib.indexByte, he']
    simp
  | b :: l, c, k + 1, hk, hn, he => by
    have h0 : b ≠ c := hn 0 (by simp) (by omega)
    have ih := idx_first l c k (by simpa using hk) (fun j hj hjk => hn (j + 1) (by simpa using hj) (by omega)) (by simpa using he)
    rw [Lib.indexByte, ih, if_neg (by simpa using h0), if_neg (by simp <;> omega)]
    omega
theorem idx_none : ∀ (l : List UInt8) (c : UInt8), (∀ j (hj : j < l.length), l[j] ≠ c) → Lib.indexByte l c = -1
  | [], _, _ => rfl
  | b :: l, c, hn => by
    have h0 : b ≠ c := hn 0 (by simp)
    have ih := idx_none l c (fun j hj => hn (j + 1) (by simpa using hj))
    rw [Lib.indexByte, ih, if_neg (by simpa using h0)]
    rfl
theorem idx_index (l : List UInt8) (c : UInt8) : Lib.index l [c] = Lib.indexByte l c := by
  induction l with
  | nil => rfl
  | cons b l ih =>
    rw [Lib.index, Lib.indexByte, ih]
    by_cases h : b = c
    · subst h; simp
    · have h2 : (c == b) = false := beq_false_of_ne fun e => h e.symm
      have h3 : (b == c) = false := beq_false_of_ne h
      simp [List.isPrefixOf, h2, h3]
theorem idx_lt : ∀ (l : List UInt8) (c : UInt8), Lib.indexByte l c < l.length
  | [], _ => by show (-1 : Int) < 0; omega
  | b :: l, c => by
    have := idx_lt l c
    rw [Lib.indexByte]
    simp only [List.length_cons]
    split
    · omega
    · split <;> omega

/-- the byte at a place as a number -/
theorem byte_ne {s : ByteArray} {k : Nat} (hk : k < s.size) (c : UInt8) : ((s[k].toNat : Int) == (c.toNat : Int)) = decide (s.data.toList[k]'(by simpa using hk) = c) := by
  have e : s.data.toList[k]'(by simpa using hk) = s[k] := by simp; rfl
  rw [e, Bool.eq_iff_iff, beq_iff_eq, decide_eq_true_iff]
  constructor
  · intro h; exact UInt8.toNat_inj.1 (by omega)
  · intro h; rw [h]

set_option maxHeartbeats 1000000 in
theorem find_any (s : ByteArray) (hs : s.size ≤ maxLen) (w : World) :
    Calls Try.prog 26 #[.string s, .int .u8 58] w fun e w' => e = .returned (.int .i64 (Lib.indexByte s.data.toList 58)) ∧ w = w' := by
  unfold maxLen at hs
  go_enter Try.func26, Try.ntmps26
  go_wp2_with fail
  go_loop [5] (fun i => ∃ k : Nat, k ≤ s.size ∧ i = .int .i64 (k : Int) ∧ Hid (∀ j (hj : j < s.data.toList.length), j < k → s.data.toList[j] ≠ 58)) (fun i => s.size - (intOf i).toNat)
  case atStart => exact ⟨0, Nat.zero_le _, rfl, fun j _ h => absurd h (by omega)⟩
  case round =>
    obtain ⟨k, hk, rfl, hno⟩ := hrel
    by_cases hkl : k < s.size
    · have HE := Lib.hid (byte_ne hkl 58)
      have hkl' : k < s.data.toList.length := by simpa using hkl
      obtain ⟨b, hb⟩ : ∃ b, ((s[k].toNat : Int) == 58) = b := ⟨_, rfl⟩
      have HB := Lib.hid hb
      cases b
      · have HN : Hid (∀ j (hj : j < s.data.toList.length), j < k + 1 → s.data.toList[j] ≠ 58) := fun j hj hjk => by
          by_cases e : j = k
          · subst e
            have h := HE.out
            rw [show ((58 : UInt8).toNat : Int) = 58 from rfl, HB.out] at h
            exact of_decide_eq_false h.symm
          · exact hno.out j hj (by omega)
        clear hno HE
        go_wp2_with fail
        go_round
        case rel => exact ⟨k + 1, by omega, by go_num, HN⟩
        case measure => simp [intOf]; omega
      · have HI : Hid (Lib.indexByte s.data.toList 58 = (k : Int)) := by
          have h := HE.out
          rw [show ((58 : UInt8).toNat : Int) = 58 from rfl, HB.out] at h
          exact idx_first _ _ k hkl' (fun j hj hjk => hno.out j hj hjk) (of_decide_eq_true h.symm)
        clear hno HE
        go_wp2_with fail
        go_ret
        exact ⟨by rw [HI.out]; rfl, rfl⟩
    · obtain rfl : k = s.size := by omega
      have HI : Hid (Lib.indexByte s.data.toList 58 = -1) := idx_none _ _ fun j hj => hno.out j hj (by simpa using hj)
      clear hno
      go_wp2_with fail
      go_ret
      exact ⟨by rw [HI.out]; rfl, rfl⟩

/-- the set of a text's digits -/
def dstep (t : Nat) (u : UInt8) : Nat := if 48 ≤ u.toNat ∧ u.toNat < 56 then t ||| 2 ^ (u.toNat - 48) else t
def dset (l : List UInt8) : Nat := l.foldl dstep 0
theorem dset_next (l : List UInt8) (u : UInt8) : dset (l ++ [u]) = dstep (dset l) u := by simp [dset]
theorem dstep_lt {t : Nat} (h : t < 256) (u : UInt8) : dstep t u < 256 := by
  unfold dstep
  split
  · exact Nat.or_lt_two_pow (n := 8) h (Nat.pow_lt_pow_right (by decide) (by omega))
  · exact h
theorem dset_lt (l : List UInt8) : dset l < 256 := by
  unfold dset
  suffices h : ∀ (l : List UInt8) (t : Nat), t < 256 → l.foldl dstep t < 256 from h l 0 (by omega)
  intro l
  induction l with
  | nil => intro t h; exact h
  | cons u l ih => intro t h; exact ih _ (dstep_lt h u)
theorem dset_bit (l : List UInt8) (i : Nat) (hi : i < 8) : (dset l).testBit i = l.contains (UInt8.ofNat (48 + i)) := by
  suffices h : ∀ (l : List UInt8) (t : Nat), (l.foldl dstep t).testBit i = (t.testBit i || l.contains (UInt8.ofNat (48 + i))) by
    have := h l 0
    rw [Nat.zero_testBit, Bool.false_or] at this
    exact this
  intro l
  induction l with
  | nil => intro t; simp
  | cons u l ih =>
    intro t
    rw [List.foldl_cons, ih, List.contains_cons]
    have hu : (UInt8.ofNat (48 + i) == u) = decide (u.toNat = 48 + i) := by
      rw [Bool.eq_iff_iff, beq_iff_eq, decide_eq_true_iff]
      constructor
      · intro e; rw [← e]; show (48 + i) % 256 = _; omega
      · intro e; exact UInt8.toNat_inj.1 (by show (48 + i) % 256 = _; omega)
    rw [hu, ← Bool.or_assoc]
    congr 1
    unfold dstep
    split
    · rename_i h
      rw [Nat.testBit_or, Nat.testBit_two_pow]
      congr 1
      rw [decide_eq_decide]
      omega
    · rename_i h
      rw [decide_eq_false (by omega), Bool.or_false]
theorem dset_setB (l : List UInt8) : setB (fun i => decide (0 ≤ Lib.indexByte l (UInt8.ofNat (48 + i)))) 8 = dset l := by
  apply Nat.eq_of_testBit_eq
  intro i
  rw [setB_bit]
  by_cases h : i < 8
  · rw [decide_eq_true h, Bool.true_and, dset_bit l i h, Lib.contains_iff_indexByte]
  · rw [decide_eq_false h, Bool.false_and, bit_high _ i (dset_lt l) (by omega)]

theorem wr8 (n : Nat) (h : n < 256) : wrap64 (n : Int) = (n : Int) := by unfold wrap64; omega
set_option maxHeartbeats 1000000 in
theorem l2Set_any (s : ByteArray) (hs : s.size ≤ maxLen) (w : World) :
    Calls Try.prog 27 #[.string s] w fun e w' => e = .returned (.int .i64 (dset s.data.toList : Nat)) ∧ w = w' := by
  unfold maxLen at hs
  go_enter Try.func27, Try.ntmps27
  go_wp2_with fail
  go_loop [3, 4] (fun t i => ∃ k m : Nat, k ≤ s.size ∧ i = .int .i64 (k : Int) ∧ t = .int .i64 (m : Int) ∧ m < 256 ∧ Hid (m = dset (s.data.toList.take k))) (fun _ i => s.size - (intOf i).toNat)
  case atStart => exact ⟨0, 0, Nat.zero_le _, rfl, rfl, by omega, rfl⟩
  case round =>
    obtain ⟨k, m, hk, rfl, rfl, hm, hset⟩ := hrel
    by_cases hkl : k < s.size
    · have HN : Hid (dset (s.data.toList.take (k + 1)) = dstep m s[k]) := by
        unfold Hid
        rw [hset.out, ← dset_next, List.take_succ_eq_append_getElem (by simpa using hkl)]
        rfl
      clear hset
      have hlt := dstep_lt hm s[k]
      have hu := s[k].toNat_lt
      have HU : Hid (dstep m s[k] = if 48 ≤ s[k].toNat ∧ s[k].toNat < 56 then m ||| 2 ^ (s[k].toNat - 48) else m) := rfl
      generalize dstep m s[k] = m2 at *
      by_cases h1 : 48 ≤ s[k].toNat
      · by_cases h2 : s[k].toNat < 56
        · have hX : 2 ^ (s[k].toNat - 48) < 256 := Nat.lt_of_lt_of_le (Nat.pow_lt_pow_right (by decide) (show s[k].toNat - 48 < 8 by omega)) (by decide)
          have hsh : wrap64 (2 ^ (s[k].toNat - 48)) = ((2 ^ (s[k].toNat - 48) : Nat) : Int) := by rw [show ((2 : Int) ^ (s[k].toNat - 48)) = ((2 ^ (s[k].toNat - 48) : Nat) : Int) by simp]; exact wr8 _ hX
          have hor := or8 m (2 ^ (s[k].toNat - 48)) hm hX
          have HU2 : Hid (m2 = m ||| 2 ^ (s[k].toNat - 48)) := by
            unfold Hid
            rw [HU.out, if_pos ⟨h1, h2⟩]
          clear HU
          generalize 2 ^ (s[k].toNat - 48) = X at *
          have hm2 : m ||| X = m2 := HU2.out.symm
          rw [hm2] at hor
          clear HU2 hm2
          go_wp2_with fail
          go_round
          case rel => exact ⟨k + 1, m2, by omega, by go_num, by go_num, hlt, HN.out.symm⟩
          case measure => simp [intOf]; omega
        · have HU2 : Hid (m2 = m) := by
            unfold Hid
            rw [HU.out, if_neg (by omega)]
          clear HU
          go_wp2_with fail
          go_round
          case rel => exact ⟨k + 1, m, by omega, by go_num, by go_num, hm, by unfold Hid; rw [HN.out, HU2.out]⟩
          case measure => simp [intOf]; omega
      · have HU2 : Hid (m2 = m) := by
          unfold Hid
          rw [HU.out, if_neg (by omega)]
        clear HU
        go_wp2_with fail
        go_round
        case rel => exact ⟨k + 1, m, by omega, by go_num, by go_num, hm, by unfold Hid; rw [HN.out, HU2.out]⟩
        case measure => simp [intOf]; omega
    · obtain rfl : k = s.size := by omega
      go_wp2_with fail
      go_ret
      exact ⟨by rw [hset.out, List.take_of_length_le (by simp)]; rfl, rfl⟩

theorem indexb_any (s : ByteArray) (c : Int) (w : World) :
    Calls Try.prog 39 #[.string s, .int .u8 c] w fun e w' => e = .returned (.int .i64 (Lib.indexByte s.data.toList c.toNat.toUInt8)) ∧ w' = w :=
  Any.strings_IndexByte Try.lays137 s c w

set_option maxHeartbeats 1000000 in
theorem clos_any (s : ByteArray) (b i : Nat) (hi : i < 8) (W : World) (hb : W.cell? ⟨b, 0, none⟩ = some (.string s)) :
    Calls Try.prog 38 #[.int .i64 (i : Int), .pointer (some ⟨b, 0, none⟩)] W fun e w' => e = .returned (.bool (decide (0 ≤ Lib.indexByte s.data.toList (UInt8.ofNat (48 + i))))) ∧ Below W.heap.size W w' := by
  have HI := Lib.hid (fun W => indexb_any s (48 + (i : Int)) W)
  have e : (48 + (i : Int)).toNat.toUInt8 = UInt8.ofNat (48 + i) := by
    have : (48 + (i : Int)).toNat = 48 + i := by omega
    rw [this]
  rw [e] at HI
  clear e
  generalize Lib.indexByte s.data.toList (UInt8.ofNat (48 + i)) = r at *
  go_enter Try.func38, Try.ntmps38
  go_wp2_with fail
  refine (HI.out _).mono ?_
  rintro e w' ⟨rfl, rfl⟩
  go_wp2_with fail
  go_ret
  exact ⟨rfl, Below.refl _ _⟩
theorem clos_enters (args : Array Value) (W : World) : (callFunc 38 args).run Try.prog W = .ok (.enter 38 args) W := by kernel_rfl

set_option maxHeartbeats 1000000 in
theorem parse_any (s : ByteArray) (w : World) :
    Calls Try.prog 19 #[.string s] w fun e w' => e = .returned (.int .i64 (dset s.data.toList : Nat)) ∧ Below w.heap.size w w' := by
  have eg := clos_enters
  go_enter Try.func19, Try.ntmps19
  go_wp2_with fail
  have hc : (w.alloc (.cells #[.string s] 9)).cell? ⟨w.heap.size, 0, none⟩ = some (.string s) := by simp
  have HT : Hid (Says 38 #[.pointer (some ⟨w.heap.size, 0, none⟩)] 8 (fun i => decide (0 ≤ Lib.indexByte s.data.toList (UInt8.ofNat (48 + i)))) (w.alloc (.cells #[.string s] 9))) :=
    fun W i hi hb => clos_any s w.heap.size i hi W ((hb.cell (p := ⟨w.heap.size, 0, none⟩) (by simp)).trans hc)
  have HW := Lib.hid (where_any 38 #[.pointer (some ⟨w.heap.size, 0, none⟩)] 8 (by omega) _ _ eg HT)
  rw [dset_setB] at HW
  clear HT hc
  refine HW.out.mono ?_
  rintro e w2 ⟨rfl, hb2⟩
  have HB : Hid (Below w.heap.size w w2) := rstep ((Below.refl w.heap.size w).alloc (Nat.le_refl _) _) hb2
  clear hb2 HW
  go_wp2_with fail
  go_ret
  exact ⟨rfl, HB.out⟩
end Go.Proofs.Ytalechngagkklaa.Parse
