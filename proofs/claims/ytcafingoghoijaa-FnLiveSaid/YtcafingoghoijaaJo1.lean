/-
  Texts of one seat, joined: App, Plain, Base, Valid.
-/
import Derived.Test.YtcafingoghoijaaRows
import Derived.Below
import Derived.WalkKit
import Derived.OwnWalk
import Derived.Laws.OwnMore
import Derived.Lib.Hide
import Derived.WalkSpells
import Derived.Handy
import Derived.Outline
import Derived.Deep.QuietTactic
import Derived.BigQuiet
import Derived.Lib.Strings
/-
  What a function keeps of a slice that it builds by append: whatever the elements.
-/
namespace Go.Proofs.Ytcafingoghoijaa.App
open Go.RowKit
set_option linter.unusedVariables false

/-- wr holds the slice v of n elements, laid since w0; what lay in w0 lies as it lay -/
structure Own (w0 wr : World) (e : TypeId) (k : Nat) (v : Value) (n : Nat) (xs : List Value) : Prop where
  row : wr.ownsRow w0.heap.size e k v n xs
  below : Below w0.heap.size w0 wr
theorem Own.later {w0 wr w2 : World} {e : TypeId} {k n : Nat} {v : Value} {xs : List Value} (h : Own w0 wr e k v n xs) (hb : Below wr.heap.size wr w2) : Own w0 w2 e k v n xs := by
  refine ⟨⟨h.row.1, ?_⟩, h.below.trans (hb.mono h.below.size)⟩
  rcases h.row.2 with h1 | ⟨g, cap, cur, h2, h3, h4, h5⟩
  · exact .inl h1
  · exact .inr ⟨g, cap, cur, h2, h3, (hb.block g (Array.getElem?_eq_some_iff.1 h4).1).trans h4, h5⟩
theorem Own.none (w0 : World) (e : TypeId) (k : Nat) : Own w0 w0 e k (.slice .none 0 0) 0 [] := ⟨⟨by simp, .inl ⟨rfl, rfl⟩⟩, Below.refl _ _⟩
theorem Own.lit (w0 : World) (e : TypeId) (k : Nat) : Own w0 (w0.alloc (.cells #[] e)) e k (.slice (some ⟨w0.heap.size, 0, .none⟩) 0 0) 0 [] :=
  ⟨World.ownsRow_lit w0 #[] 0 (Nat.le_refl _) (by unfold maxLen; omega) (by simp), (Below.refl _ _).alloc (Nat.le_refl _) _⟩
theorem Own.next {w0 w2 w3 : World} {e : TypeId} {k n m : Nat} {v v3 : Value} {xs ys : List Value} (h : Own w0 w2 e k v n xs) (o : Obj)
    (h3 : w3.ownsRow w0.heap.size e k v3 m ys) (hg : (w2.alloc o).grownBy w3 v.ownBlock) : Own w0 w3 e k v3 m ys :=
  ⟨h3, (h.below.alloc h.below.size o).grown hg (by have := h.below.size; simp at this ⊢; omega) fun j hj => (h.row.lt j hj).1⟩
theorem Own.slice {w0 wr : World} {e : TypeId} {k n : Nat} {v : Value} {xs : List Value} (h : Own w0 wr e k v n xs) : ∃ p c, v = .slice p n c := by
  rcases h.row.2 with ⟨rfl, rfl⟩ | ⟨g, cap, cur, rfl, _⟩
  · exact ⟨_, _, rfl⟩
  · exact ⟨_, _, rfl⟩
/-- the elements' cells -/
theorem Own.cell {w0 wr : World} {e : TypeId} {k n : Nat} {p : Option Addr} {c : Nat} {xs : List Value} (h : Own w0 wr e k (.slice p n c) n xs) (j : Nat) (hj : j < n * k) : ∃ g, p = some ⟨g, 0, .none⟩ ∧ w0.heap.size ≤ g ∧ g < wr.heap.size ∧ wr.cell? ⟨g, j, .none⟩ = xs[j]? := by
  rcases h.row.2 with ⟨e1, rfl⟩ | ⟨g, cap, cur, e1, h1, h2, h3⟩
  · simp at hj
  · injection e1 with e1 _ e3
    subst e1
    exact ⟨g, rfl, h1, (Array.getElem?_eq_some_iff.1 h2).1, World.ownsRow.cellAt (cap := cap) (by rw [← e3]; exact h.row) j hj⟩
end Go.Proofs.Ytcafingoghoijaa.App

/-
  Plain facts on lists of digits; nothing of the program.
-/
namespace Go.Proofs.Ytcafingoghoijaa.Plain
open Go.RowKit

/-- the digit of a truth value -/
def dig (b : Bool) : UInt8 := if b then 49 else 48
/-- a truth value as a number -/
def bitI (b : Bool) : Int := if b then 1 else 0
theorem bitI_false : bitI false = 0 := rfl
theorem bitI_true : bitI true = 1 := rfl
/-- the digits of a row -/
def rowB (E : Nat → Nat → Bool) (x c : Nat) : List UInt8 := (List.range c).map fun y => dig (E x y)
/-- the digits of so many rows -/
def rowsB (E : Nat → Nat → Bool) (r c : Nat) : List UInt8 := (List.range r).flatMap fun x => rowB E x c

theorem rowB_zero (E : Nat → Nat → Bool) (x : Nat) : rowB E x 0 = [] := rfl
theorem rowB_succ (E : Nat → Nat → Bool) (x c : Nat) : rowB E x (c + 1) = rowB E x c ++ [dig (E x c)] := by
  simp [rowB, List.range_succ]
theorem rowsB_zero (E : Nat → Nat → Bool) (c : Nat) : rowsB E 0 c = [] := rfl
theorem rowsB_succ (E : Nat → Nat → Bool) (r c : Nat) : rowsB E (r + 1) c = rowsB E r c ++ rowB E r c := by
  simp [rowsB, List.range_succ]
theorem rowB_length (E : Nat → Nat → Bool) (x c : Nat) : (rowB E x c).length = c := by simp [rowB]
theorem rowsB_length (E : Nat → Nat → Bool) (r c : Nat) : (rowsB E r c).length = r * c := by
  induction r with
  | zero => simp [rowsB_zero]
  | succ r ih => rw [rowsB_succ, List.length_append, ih, rowB_length, Nat.succ_mul]
theorem rowB_congr {E F : Nat → Nat → Bool} {x c : Nat} (h : ∀ y, y < c → E x y = F x y) : rowB E x c = rowB F x c := by
  unfold rowB
  apply List.map_congr_left
  intro y hy
  rw [h y (List.mem_range.1 hy)]
theorem rowsB_congr {E F : Nat → Nat → Bool} {r c : Nat} (h : ∀ x y, x < r → y < c → E x y = F x y) : rowsB E r c = rowsB F r c := by
  induction r with
  | zero => rfl
  | succ r ih => rw [rowsB_succ, rowsB_succ, ih (fun x y hx hy => h x y (by omega) hy), rowB_congr (fun y hy => h r y (by omega) hy)]

/-- the number of ones of a number below 8 -/
def ones (n : Nat) : Nat := n % 2 + n / 2 % 2 + n / 4 % 2

/-- a string of so many digits -/
def str (l : List UInt8) : ByteArray := ⟨l.toArray⟩
theorem str_append (l m : List UInt8) : str l ++ str m = str (l ++ m) := by
  apply ByteArray.ext
  simp [str]
theorem str_nil : str [] = ByteArray.empty := rfl
theorem str_one (u : UInt8) : (⟨#[u]⟩ : ByteArray) = str [u] := rfl
theorem str_size (l : List UInt8) : (str l).size = l.length := by simp [str, ByteArray.size]
theorem part_size (E : Nat → Nat → Bool) {k j r c : Nat} (hr : r ≤ 8) (hc : c ≤ 8) (hk : k < r) (hj : j < c) : (str (rowsB E k c ++ rowB E k j)).size ≤ 64 := by
  rw [str_size, List.length_append, rowsB_length, rowB_length]
  have : k * c ≤ 7 * 8 := Nat.mul_le_mul (by omega) hc
  omega
theorem part_next (E : Nat → Nat → Bool) (k j c : Nat) : str (rowsB E k c ++ rowB E k j) ++ ⟨#[dig (E k j)]⟩ = str (rowsB E k c ++ rowB E k (j + 1)) := by
  rw [str_one, str_append, rowB_succ, List.append_assoc]
theorem part_done (E : Nat → Nat → Bool) (k c : Nat) : str (rowsB E k c ++ rowB E k c) = str (rowsB E (k + 1) c) := by rw [rowsB_succ]
theorem part_start (E : Nat → Nat → Bool) (k c : Nat) : str (rowsB E k c) = str (rowsB E k c ++ rowB E k 0) := by rw [rowB_zero, List.append_nil]
theorem prod_le {r c : Nat} (hr : r ≤ 8) (hc : c ≤ 8) : r * c ≤ 64 := Nat.mul_le_mul hr hc
theorem wrap_prod (r c : Nat) (hr : r ≤ 8) (hc : c ≤ 8) : wrap64 ((r : Int) * (c : Int)) = ((r * c : Nat) : Int) := by
  have h := prod_le hr hc
  rw [← Int.natCast_mul]
  unfold wrap64
  omega
end Go.Proofs.Ytcafingoghoijaa.Plain

/-
  Contracts of the small functions: l1In, l1Bit, bitOf, sideValid, eqMatrix.
-/
namespace Go.Proofs.Ytcafingoghoijaa.Base
open Go.RowKit Go.Proofs.Ytcafingoghoijaa.Plain

set_option maxHeartbeats 400000 in
theorem l1In_true (n a b : Int) (h1 : a ≤ n) (h2 : n ≤ b) (w : World) :
    Calls Try.prog 54 #[.int .i64 n, .int .i64 a, .int .i64 b] w fun e w' => e = .returned (.bool true) ∧ w = w' := by
  go_enter Try.func54, Try.ntmps54
  go_wp2
  go_ret
  exact ⟨rfl, rfl⟩

set_option maxHeartbeats 400000 in
theorem l1In_false (n a b : Int) (h1 : n < a ∨ b < n) (w : World) :
    Calls Try.prog 54 #[.int .i64 n, .int .i64 a, .int .i64 b] w fun e w' => e = .returned (.bool false) ∧ w = w' := by
  by_cases h : a ≤ n
  · have h2 : b < n := by omega
    clear h1
    go_enter Try.func54, Try.ntmps54
    go_wp2
    go_ret
    exact ⟨by simp; omega, rfl⟩
  · have h2 : n < a := by omega
    clear h1 h
    go_enter Try.func54, Try.ntmps54
    go_wp2
    go_ret
    exact ⟨rfl, rfl⟩

set_option maxHeartbeats 400000 in
theorem l1Bit_any (b : Bool) (w : World) :
    Calls Try.prog 84 #[.bool b] w fun e w' => e = .returned (.string ⟨#[dig b]⟩) ∧ w = w' := by
  cases b
  all_goals
    go_enter Try.func84, Try.ntmps84
    go_wp2
    go_ret
    exact ⟨rfl, rfl⟩


theorem and_one : ∀ m : Nat, m < 8 → Go.bits .and .i64 (m : Int) 1 = ((m % 2 : Nat) : Int) := by
  have h : ∀ k : Fin 8, Go.bits .and .i64 ((k.val : Nat) : Int) 1 = ((k.val % 2 : Nat) : Int) := by decide +kernel
  intro k hk
  exact h ⟨k, hk⟩
set_option maxHeartbeats 400000 in
theorem ones_any (n : Nat) (hn : n < 8) (w : World) :
    Calls Try.prog 93 #[.int .i64 (n : Int)] w fun e w' => e = .returned (.int .i64 (ones n : Int)) ∧ w = w' := by
  go_enter Try.func93, Try.ntmps93
  go_wp2_with fail
  go_loop [0, 3] (fun m k => ∃ (a t : Nat), a < 8 ∧ t ≤ 8 ∧ m = .int .i64 (a : Int) ∧ k = .int .i64 (t : Int) ∧ Hid (ones a + t = ones n)) (fun m _ => (intOf m).toNat)
  case atStart => exact ⟨n, 0, hn, by omega, rfl, rfl, rfl⟩
  case round =>
    obtain ⟨a, t, ha, ht, rfl, rfl, hs⟩ := hrel
    by_cases h0 : 0 < a
    · have hbit := and_one a ha
      go_wp2_with fail
      have ho := hs.out
      unfold ones at ho
      go_round
      case rel => exact ⟨a / 2, t + a % 2, by omega, by omega, by go_num, by go_num, by unfold Hid ones; omega⟩
      case measure => simp [intOf]; omega
    · obtain rfl : a = 0 := by omega
      have ho := hs.out
      have HO := Lib.hid (show t = ones n by unfold ones at ho ⊢; omega)
      clear hs ho
      go_wp2_with fail
      go_ret
      exact ⟨by rw [← HO.out]; rfl, rfl⟩

/-- a matrix as a value -/
abbrev mat (r c : Int) (s : ByteArray) : Value := .agg #[.int .i64 r, .int .i64 c, .string s]

end Go.Proofs.Ytcafingoghoijaa.Base

/-
  When a matrix is valid: the contracts of spec.l1Bits, spec.MatrixValid, impl.MatrixValid.
-/
namespace Go.Proofs.Ytcafingoghoijaa.Valid
open Go.RowKit Go.Proofs.Ytcafingoghoijaa.Plain Go.Proofs.Ytcafingoghoijaa.Base
set_option linter.unusedVariables false

/-- a byte that is a digit of a matrix -/
def isBit (b : UInt8) : Bool := b == 48 || b == 49
/-- all bytes are digits -/
def okB (s : ByteArray) : Bool := s.data.toList.all isBit

theorem okB_true {s : ByteArray} (h : ∀ j (hj : j < s.size), isBit s[j] = true) : okB s = true := by
  unfold okB
  rw [List.all_eq_true]
  intro b hb
  obtain ⟨j, hj, rfl⟩ := List.getElem_of_mem hb
  exact h j (by simpa using hj)
theorem okB_false {s : ByteArray} (k : Nat) (hk : k < s.size) (h : isBit s[k] = false) : okB s = false := by
  unfold okB
  rw [List.all_eq_false]
  exact ⟨s[k], by simp [ByteArray.getElem_eq_getElem_data], by simp [h]⟩
theorem bit_of {b : UInt8} (h : b.toNat = 48 ∨ b.toNat = 49) : isBit b = true := by
  unfold isBit
  rcases h with h | h
  · rw [show b = 48 from UInt8.toNat_inj.1 h]; rfl
  · rw [show b = 49 from UInt8.toNat_inj.1 h]; rfl
theorem bit_not {b : UInt8} (h1 : b.toNat ≠ 48) (h2 : b.toNat ≠ 49) : isBit b = false := by
  unfold isBit
  rw [Bool.or_eq_false_iff]
  exact ⟨beq_eq_false_iff_ne.2 fun e => h1 (by rw [e]; rfl), beq_eq_false_iff_ne.2 fun e => h2 (by rw [e]; rfl)⟩

set_option maxHeartbeats 1000000 in
theorem bits_any (s : ByteArray) (hs : s.size ≤ maxLen) (n : Int) (w : World) :
    Calls Try.prog 94 #[.string s, .int .i64 n] w fun e w' => e = .returned (.bool (okB s && ((s.size : Int) == n))) ∧ w = w' := by
  unfold maxLen at hs
  go_enter Try.func94, Try.ntmps94
  go_wp2_with fail
  go_loop [5] (fun i => ∃ k : Nat, k ≤ s.size ∧ i = .int .i64 (k : Int) ∧ Hid (∀ j (hj : j < s.size), j < k → isBit s[j] = true)) (fun i => s.size - (intOf i).toNat)
  case atStart => exact ⟨0, Nat.zero_le _, rfl, fun j _ h => absurd h (by omega)⟩
  case round =>
    obtain ⟨k, hk, rfl, hall⟩ := hrel
    by_cases hlt : k < s.size
    · by_cases h48 : s[k].toNat = 48
      · have hb1 : ((s[k].toNat : Int) != 48) = false := by rw [h48]; rfl
        have H := Lib.hid h48
        clear h48
        go_wp2_with fail
        go_round
        case rel => exact ⟨k + 1, by omega, by go_num, fun j hj hjk => by
          by_cases e : j = k
          · subst e; exact bit_of (.inl H.out)
          · exact hall.out j hj (by omega)⟩
        case measure => simp [intOf]; omega
      · have hb1 : ((s[k].toNat : Int) != 48) = true := by rw [bne_iff_ne]; omega
        by_cases h49 : s[k].toNat = 49
        · have hb2 : ((s[k].toNat : Int) != 49) = false := by rw [h49]; rfl
          have H := Lib.hid h49
          clear h48 h49
          go_wp2_with fail
          go_round
          case rel => exact ⟨k + 1, by omega, by go_num, fun j hj hjk => by
            by_cases e : j = k
            · subst e; exact bit_of (.inr H.out)
            · exact hall.out j hj (by omega)⟩
          case measure => simp [intOf]; omega
        · have hb2 : ((s[k].toNat : Int) != 49) = true := by rw [bne_iff_ne]; omega
          have HF := Lib.hid (okB_false k hlt (bit_not h48 h49))
          clear h48 h49
          go_wp2_with fail
          go_ret
          exact ⟨by rw [HF.out]; rfl, rfl⟩
    · obtain rfl : k = s.size := by omega
      have HT := Lib.hid (okB_true fun j hj => hall.out j hj hj)
      go_wp2_with fail
      go_ret
      exact ⟨by rw [HT.out]; rfl, rfl⟩

/-- when the reference calls a matrix valid -/
def validB (r c : Int) (s : ByteArray) : Bool := decide (1 ≤ r ∧ r ≤ 8 ∧ 1 ≤ c ∧ c ≤ 8) && (okB s && ((s.size : Int) == r * c))
theorem validB_r {r c : Int} {s : ByteArray} (h : r < 1 ∨ 8 < r) : validB r c s = false := by
  unfold validB; rw [show decide (1 ≤ r ∧ r ≤ 8 ∧ 1 ≤ c ∧ c ≤ 8) = false from decide_eq_false (by omega)]; rfl
theorem validB_c {r c : Int} {s : ByteArray} (h : c < 1 ∨ 8 < c) : validB r c s = false := by
  unfold validB; rw [show decide (1 ≤ r ∧ r ≤ 8 ∧ 1 ≤ c ∧ c ≤ 8) = false from decide_eq_false (by omega)]; rfl
theorem validB_in {r c : Int} {s : ByteArray} (h1 : 1 ≤ r) (h2 : r ≤ 8) (h3 : 1 ≤ c) (h4 : c ≤ 8) : validB r c s = (okB s && ((s.size : Int) == r * c)) := by
  unfold validB; rw [decide_eq_true ⟨h1, h2, h3, h4⟩]; rfl
theorem wrap_prodI (r c : Int) (h1 : 1 ≤ r) (h2 : r ≤ 8) (h3 : 1 ≤ c) (h4 : c ≤ 8) : wrap64 (r * c) = r * c ∧ 1 ≤ r * c ∧ r * c ≤ 64 := by
  obtain ⟨a, rfl⟩ := Int.eq_ofNat_of_zero_le (show 0 ≤ r by omega)
  obtain ⟨b, rfl⟩ := Int.eq_ofNat_of_zero_le (show 0 ≤ c by omega)
  have h := wrap_prod a b (by omega) (by omega)
  have h5 := prod_le (r := a) (c := b) (by omega) (by omega)
  have h6 : 1 ≤ a * b := Nat.mul_le_mul (show 1 ≤ a by omega) (show 1 ≤ b by omega)
  rw [h, Int.natCast_mul]
  rw [← Int.natCast_mul]
  omega

set_option maxHeartbeats 1000000 in
theorem spec_valid (r c : Int) (s : ByteArray) (hs : s.size ≤ maxLen) (w : World) :
    Calls Try.prog 85 #[mat r c s] w fun e w' => e = .returned (.bool (validB r c s)) ∧ Below w.heap.size w w' := by
  by_cases hr : r < 1 ∨ 8 < r
  · have HR := Lib.hid hr
    clear hr
    go_enter Try.func85, Try.ntmps85
    go_wp2_with fail
    refine (l1In_false _ _ _ HR.out _).mono ?_
    rintro e w' ⟨rfl, rfl⟩
    go_wp2_with fail
    go_ret
    exact ⟨by rw [validB_r HR.out]; rfl, by go_grown⟩
  · have h1 : 1 ≤ r := by omega
    have h2 : r ≤ 8 := by omega
    clear hr
    by_cases hc : c < 1 ∨ 8 < c
    · have HC := Lib.hid hc
      clear hc
      go_enter Try.func85, Try.ntmps85
      go_wp2_with fail
      refine (l1In_true _ _ _ h1 h2 _).mono ?_
      rintro e w' ⟨rfl, rfl⟩
      go_wp2_with fail
      refine (l1In_false _ _ _ HC.out _).mono ?_
      rintro e w' ⟨rfl, rfl⟩
      go_wp2_with fail
      go_ret
      exact ⟨by rw [validB_c HC.out]; rfl, by go_grown⟩
    · have h3 : 1 ≤ c := by omega
      have h4 : c ≤ 8 := by omega
      clear hc
      have HW := Lib.hid (wrap_prodI r c h1 h2 h3 h4)
      go_enter Try.func85, Try.ntmps85
      go_wp2_with fail
      refine (l1In_true _ _ _ h1 h2 _).mono ?_
      rintro e w' ⟨rfl, rfl⟩
      go_wp2_with fail
      refine (l1In_true _ _ _ h3 h4 _).mono ?_
      rintro e w' ⟨rfl, rfl⟩
      go_wp2_with fail
      refine (bits_any s hs _ _).mono ?_
      rintro e w' ⟨rfl, rfl⟩
      go_wp2_with fail
      go_ret
      exact ⟨by rw [validB_in h1 h2 h3 h4]; rw [HW.out.1]; rfl, by go_grown⟩
end Go.Proofs.Ytcafingoghoijaa.Valid

