/-
  Texts of one seat, joined: Shelf, Pat, Rect.
-/
import Derived.Shelf.Strings.Trim
import Derived.Shelf.Small.Utf8
import Derived.Shelf.Small.Strs
import Derived.Shelf.Utf8.RuneCount
import Derived.Shelf.Strings.Search1
import Derived.Shelf.Strings.Search2
import Derived.Shelf.Strings.Search3
import Derived.Shelf.Strings.Count
import Derived.Shelf.LaysM
import Derived.Shelf.Strings.Shaped
import Derived.Shelf.Strings.Split
import Derived.Shelf.Unicode.Decode
import Derived.Shelf.Strings.Runes
import Derived.Shelf.Strings.RuneCount
import Derived.Shelf.Strings.AsciiSet
import Derived.Shelf.Unicode.DecodeSlow
import Derived.Shelf.Unicode.DecodeAny
import Derived.Shelf.Unicode.DecodeLast
import Derived.Test.YtgfhahlkffagaaaDoorProg
import Derived.Test.YtgfhahlkffagaaaDoorJ1
import Derived.Laws.BitsAllLaws
import Derived.Test.YtgfhahlkffagaaaDoorRows
import Derived.WalkKit
import Derived.WalkSpells
import Derived.Lib.Hide
import Derived.Handy
import Derived.Outline
import Derived.Deep.QuietTactic
import Derived.BigQuiet
/-
  The numbers of the library's functions in this program, by which the library's contracts are taken; laid by program.
-/
namespace Go.Proofs
open Go.Shelf
def Tryd.lays160_ren : Go.Shelf.Ren := ⟨fun | 160 => 86 | 232 => 113 | 231 => 112 | 227 => 114 | 234 => 116 | 233 => 115 | 236 => 118 | 235 => 117 | 228 => 131 | 271 => 134 | 151 => 133 | 197 => 132 | 120 => 144 | 152 => 143 | 260 => 142 | 137 => 145 | 119 => 148 | 224 => 139 | 225 => 138 | 217 => 137 | 266 => 146 | n => n, fun | 9 => 9 | 4 => 4 | 3 => 3 | 5 => 5 | 117 => 144 | 116 => 143 | 0 => 0 | 124 => 147 | 21 => 21 | 105 => 158 | 46 => 74 | 119 => 168 | 139 => 171 | 138 => 170 | n => n, fun | 3 => 1 | 4 => 2 | n => n⟩
theorem Tryd.lays160 : Go.Proofs.Lays.n160 Tryd.prog Tryd.lays160_ren := {
  mixed := by kernel_rfl
  f119 := Tryd.func148.trans (congrArg some (by kernel_rfl))
  f120 := Tryd.func144.trans (congrArg some (by kernel_rfl))
  f137 := Tryd.func145.trans (congrArg some (by kernel_rfl))
  f151 := Tryd.func133.trans (congrArg some (by kernel_rfl))
  f152 := Tryd.func143.trans (congrArg some (by kernel_rfl))
  f160 := Tryd.func86.trans (congrArg some (by kernel_rfl))
  f197 := Tryd.func132.trans (congrArg some (by kernel_rfl))
  f217 := Tryd.func137.trans (congrArg some (by kernel_rfl))
  f224 := Tryd.func139.trans (congrArg some (by kernel_rfl))
  f225 := Tryd.func138.trans (congrArg some (by kernel_rfl))
  f227 := Tryd.func114.trans (congrArg some (by kernel_rfl))
  f228 := Tryd.func131.trans (congrArg some (by kernel_rfl))
  f231 := Tryd.func112.trans (congrArg some (by kernel_rfl))
  f232 := Tryd.func113.trans (congrArg some (by kernel_rfl))
  f233 := Tryd.func115.trans (congrArg some (by kernel_rfl))
  f234 := Tryd.func116.trans (congrArg some (by kernel_rfl))
  f235 := Tryd.func117.trans (congrArg some (by kernel_rfl))
  f236 := Tryd.func118.trans (congrArg some (by kernel_rfl))
  f260 := Tryd.func142.trans (congrArg some (by kernel_rfl))
  f266 := Tryd.func146.trans (congrArg some (by kernel_rfl))
  f271 := Tryd.func134.trans (congrArg some (by kernel_rfl))
  t0 := Tryd.underlying0
  a0 := Tryd.isAgg0
  z0 := Tryd.sizeOf0
  v0 := Tryd.zeroValue0
  t3 := Tryd.underlying3
  a3 := Tryd.isAgg3
  z3 := Tryd.sizeOf3
  v3 := Tryd.zeroValue3
  t4 := Tryd.underlying4
  a4 := Tryd.isAgg4
  z4 := Tryd.sizeOf4
  v4 := Tryd.zeroValue4
  t5 := Tryd.underlying5
  a5 := Tryd.isAgg5
  z5 := Tryd.sizeOf5
  v5 := Tryd.zeroValue5
  t9 := Tryd.underlying9
  a9 := Tryd.isAgg9
  z9 := Tryd.sizeOf9
  v9 := Tryd.zeroValue9
  t21 := Tryd.underlying21
  a21 := Tryd.isAgg21
  z21 := Tryd.sizeOf21
  v21 := Tryd.zeroValue21
  t46 := Tryd.underlying74
  a46 := Tryd.isAgg74
  z46 := Tryd.sizeOf74
  v46 := Tryd.zeroValue74
  t105 := Tryd.underlying158
  a105 := Tryd.isAgg158
  z105 := Tryd.sizeOf158
  v105 := Tryd.zeroValue158
  t116 := Tryd.underlying143
  a116 := Tryd.isAgg143
  z116 := Tryd.sizeOf143
  t117 := Tryd.underlying144
  a117 := Tryd.isAgg144
  z117 := Tryd.sizeOf144
  v117 := Tryd.zeroValue144
  t119 := Tryd.underlying168
  a119 := Tryd.isAgg168
  z119 := Tryd.sizeOf168
  t124 := Tryd.underlying147
  a124 := Tryd.isAgg147
  z124 := Tryd.sizeOf147
  v124 := Tryd.zeroValue147
  t138 := Tryd.underlying170
  a138 := Tryd.isAgg170
  z138 := Tryd.sizeOf170
  v138 := Tryd.zeroValue170
  t139 := Tryd.underlying171
  a139 := Tryd.isAgg171
  z139 := Tryd.sizeOf171
  v139 := Tryd.zeroValue171
  g3 := by kernel_rfl
  g4 := by kernel_rfl }
def Tryd.lays137_ren : Go.Shelf.Ren := ⟨fun | 137 => 145 | 217 => 137 | 266 => 146 | n => n, fun | 9 => 9 | 5 => 5 | 3 => 3 | n => n, fun | n => n⟩
theorem Tryd.lays137 : Go.Proofs.Lays.n137 Tryd.prog Tryd.lays137_ren := {
  mixed := by kernel_rfl
  f137 := Tryd.func145.trans (congrArg some (by kernel_rfl))
  f217 := Tryd.func137.trans (congrArg some (by kernel_rfl))
  f266 := Tryd.func146.trans (congrArg some (by kernel_rfl))
  t3 := Tryd.underlying3
  a3 := Tryd.isAgg3
  z3 := Tryd.sizeOf3
  v3 := Tryd.zeroValue3
  t5 := Tryd.underlying5
  a5 := Tryd.isAgg5
  z5 := Tryd.sizeOf5
  v5 := Tryd.zeroValue5
  t9 := Tryd.underlying9
  a9 := Tryd.isAgg9
  z9 := Tryd.sizeOf9
  v9 := Tryd.zeroValue9 }
def Tryd.lays138_ren : Go.Shelf.Ren := ⟨fun | 138 => 76 | 195 => 100 | 218 => 101 | 143 => 102 | 219 => 125 | 217 => 137 | 225 => 138 | 224 => 139 | 267 => 140 | 266 => 146 | 314 => 147 | n => n, fun | 9 => 9 | 3 => 3 | 4 => 4 | 5 => 5 | 0 => 0 | 46 => 74 | 146 => 166 | 51 => 165 | n => n, fun | 1 => 0 | n => n⟩
theorem Tryd.lays138 : Go.Proofs.Lays.n138 Tryd.prog Tryd.lays138_ren := {
  mixed := by kernel_rfl
  f138 := Tryd.func76.trans (congrArg some (by kernel_rfl))
  f143 := Tryd.func102.trans (congrArg some (by kernel_rfl))
  f195 := Tryd.func100.trans (congrArg some (by kernel_rfl))
  f217 := Tryd.func137.trans (congrArg some (by kernel_rfl))
  f218 := Tryd.func101.trans (congrArg some (by kernel_rfl))
  f219 := Tryd.func125.trans (congrArg some (by kernel_rfl))
  f224 := Tryd.func139.trans (congrArg some (by kernel_rfl))
  f225 := Tryd.func138.trans (congrArg some (by kernel_rfl))
  f266 := Tryd.func146.trans (congrArg some (by kernel_rfl))
  f267 := Tryd.func140.trans (congrArg some (by kernel_rfl))
  f314 := Tryd.func147.trans (congrArg some (by kernel_rfl))
  t0 := Tryd.underlying0
  a0 := Tryd.isAgg0
  z0 := Tryd.sizeOf0
  v0 := Tryd.zeroValue0
  t3 := Tryd.underlying3
  a3 := Tryd.isAgg3
  z3 := Tryd.sizeOf3
  v3 := Tryd.zeroValue3
  t4 := Tryd.underlying4
  a4 := Tryd.isAgg4
  z4 := Tryd.sizeOf4
  v4 := Tryd.zeroValue4
  t5 := Tryd.underlying5
  a5 := Tryd.isAgg5
  z5 := Tryd.sizeOf5
  v5 := Tryd.zeroValue5
  t9 := Tryd.underlying9
  a9 := Tryd.isAgg9
  z9 := Tryd.sizeOf9
  v9 := Tryd.zeroValue9
  t46 := Tryd.underlying74
  a46 := Tryd.isAgg74
  z46 := Tryd.sizeOf74
  v46 := Tryd.zeroValue74
  t51 := Tryd.underlying165
  a51 := Tryd.isAgg165
  z51 := Tryd.sizeOf165
  v51 := Tryd.zeroValue165
  t146 := Tryd.underlying166
  a146 := Tryd.isAgg166
  z146 := Tryd.sizeOf166
  v146 := Tryd.zeroValue166
  g1 := by kernel_rfl }
end Go.Proofs

/-
  Plain facts on sets of entries as numbers: eight bytes, one for each row. Nothing of the program.
-/
namespace Go.Proofs.YtgfhahlkffagaaaDoor.Pat
open Go.RowKit Go.Proofs.YtgfhahlkffagaaaDoor.Plain

/-- the number whose bytes are f 0, f 1 .. -/
def pat (f : Nat → Nat) : Nat → Nat
  | 0 => 0
  | k + 1 => pat (fun x => f (x + 1)) k * 256 + f 0

theorem pat_lt (k : Nat) : ∀ (f : Nat → Nat), (∀ x, f x < 256) → pat f k < 256 ^ k := by
  induction k with
  | zero => intro f _; simp [pat]
  | succ k ih =>
    intro f h
    have h1 := ih (fun x => f (x + 1)) (fun x => h _)
    have h0 := h 0
    rw [pat, Nat.pow_succ]
    omega
theorem pat_congr (k : Nat) : ∀ (f g : Nat → Nat), (∀ x, x < k → f x = g x) → pat f k = pat g k := by
  induction k with
  | zero => intro f g _; rfl
  | succ k ih =>
    intro f g h
    rw [pat, pat, ih (fun x => f (x + 1)) (fun x => g (x + 1)) (fun x hx => h _ (by omega)), h 0 (by omega)]

theorem pat_mono (k : Nat) : ∀ (f g : Nat → Nat), (∀ x, f x ≤ g x) → pat f k ≤ pat g k := by
  induction k with
  | zero => intro f g _; exact Nat.le_refl _
  | succ k ih =>
    intro f g h
    have h1 := ih (fun x => f (x + 1)) (fun x => g (x + 1)) (fun x => h _)
    have h0 := h 0
    rw [pat, pat]
    omega

theorem split_bit (a b j : Nat) (hb : b < 256) : (a * 256 + b).testBit j = if j < 8 then b.testBit j else a.testBit (j - 8) := by
  rw [show a * 256 = 2 ^ 8 * a by omega]
  exact Nat.testBit_two_pow_mul_add a hb j
theorem split_and (h l H L : Nat) (hl : l < 256) (hL : L < 256) : (h * 256 + l) &&& (H * 256 + L) = (h &&& H) * 256 + (l &&& L) := by
  apply Nat.eq_of_testBit_eq
  intro j
  have hlt : l &&& L < 256 := Nat.and_lt_two_pow (n := 8) l hL
  rw [Nat.testBit_and, split_bit _ _ _ hl, split_bit _ _ _ hL, split_bit _ _ _ hlt]
  split <;> rw [Nat.testBit_and]
theorem split_or (h l H L : Nat) (hl : l < 256) (hL : L < 256) : (h * 256 + l) ||| (H * 256 + L) = (h ||| H) * 256 + (l ||| L) := by
  apply Nat.eq_of_testBit_eq
  intro j
  have hlt : l ||| L < 256 := Nat.or_lt_two_pow (n := 8) hl hL
  rw [Nat.testBit_or, split_bit _ _ _ hl, split_bit _ _ _ hL, split_bit _ _ _ hlt]
  split <;> rw [Nat.testBit_or]
theorem pat_and (k : Nat) : ∀ (f g : Nat → Nat), (∀ x, f x < 256) → (∀ x, g x < 256) → pat f k &&& pat g k = pat (fun x => f x &&& g x) k := by
  induction k with
  | zero => intro f g _ _; simp [pat]
  | succ k ih =>
    intro f g hf hg
    rw [pat, pat, pat, split_and _ _ _ _ (hf 0) (hg 0), ih _ _ (fun x => hf _) (fun x => hg _)]
theorem pat_or (k : Nat) : ∀ (f g : Nat → Nat), (∀ x, f x < 256) → (∀ x, g x < 256) → pat f k ||| pat g k = pat (fun x => f x ||| g x) k := by
  induction k with
  | zero => intro f g _ _; simp [pat]
  | succ k ih =>
    intro f g hf hg
    rw [pat, pat, pat, split_or _ _ _ _ (hf 0) (hg 0), ih _ _ (fun x => hf _) (fun x => hg _)]
theorem pat_not (k : Nat) : ∀ (f : Nat → Nat), (∀ x, f x < 256) → 256 ^ k - 1 - pat f k = pat (fun x => 255 - f x) k := by
  induction k with
  | zero => intro f _; simp [pat]
  | succ k ih =>
    intro f hf
    have h := ih (fun x => f (x + 1)) (fun x => hf _)
    have hlt := pat_lt k (fun x => f (x + 1)) (fun x => hf _)
    have h0 := hf 0
    rw [pat, pat, ← h, Nat.pow_succ]
    omega
theorem pat_zero (k : Nat) : ∀ (f : Nat → Nat), pat f k = 0 ↔ ∀ x, x < k → f x = 0 := by
  induction k with
  | zero => intro f; simp [pat]
  | succ k ih =>
    intro f
    rw [pat]
    constructor
    · intro h x hx
      cases x with
      | zero => omega
      | succ x => exact (ih (fun x => f (x + 1))).1 (by omega) x (by omega)
    · intro h
      rw [(ih (fun x => f (x + 1))).2 (fun x hx => h _ (by omega)), h 0 (by omega)]
/-- one byte at its place -/
theorem pat_one (x c : Nat) (hx : x < 8) : pat (fun j => if j = x then c else 0) 8 = c * 2 ^ (x * 8) := by
  have h : x = 0 ∨ x = 1 ∨ x = 2 ∨ x = 3 ∨ x = 4 ∨ x = 5 ∨ x = 6 ∨ x = 7 := by omega
  rcases h with rfl | rfl | rfl | rfl | rfl | rfl | rfl | rfl <;> simp [pat] <;> omega
theorem pat_none (k : Nat) : pat (fun _ => 0) k = 0 := (pat_zero k _).2 fun _ _ => rfl
theorem pat64 (f : Nat → Nat) (h : ∀ x, f x < 256) : pat f 8 < 18446744073709551616 := pat_lt 8 f h

/-! ### the number of ones -/
theorem s1_low : ∀ b l : Nat, b < 2 → l < 256 → (b * 128 + l / 2) &&& 85 = (l / 2 &&& 85) := by
  have h : ∀ b : Fin 2, ∀ l : Fin 256, (b.val * 128 + l.val / 2) &&& 85 = (l.val / 2 &&& 85) := by decide +kernel
  intro b l hb hl
  exact h ⟨b, hb⟩ ⟨l, hl⟩
theorem s2_low : ∀ b l : Nat, b < 4 → l < 256 → (b * 64 + l / 4) &&& 51 = (l / 4 &&& 51) := by
  have h : ∀ b : Fin 4, ∀ l : Fin 256, (b.val * 64 + l.val / 4) &&& 51 = (l.val / 4 &&& 51) := by decide +kernel
  intro b l hb hl
  exact h ⟨b, hb⟩ ⟨l, hl⟩
def b1 (l : Nat) : Nat := (l / 2 &&& 85) + (l &&& 85)
def b2 (l : Nat) : Nat := (l / 4 &&& 51) + (l &&& 51)
def b3 (l : Nat) : Nat := (l / 16 + l) % 16
theorem s1 (k : Nat) : ∀ (f : Nat → Nat), (∀ x, f x < 256) → (pat f k / 2 &&& pat (fun _ => 85) k) + (pat f k &&& pat (fun _ => 85) k) = pat (fun x => b1 (f x)) k := by
  induction k with
  | zero => intro f _; simp [pat]
  | succ k ih =>
    intro f hf
    have h := ih (fun x => f (x + 1)) (fun x => hf _)
    have h0 := hf 0
    rw [pat, pat, pat]
    generalize pat (fun x => f (x + 1)) k = p at *
    generalize pat (fun _ => 85) k = m at *
    have e : (p * 256 + f 0) / 2 = (p / 2) * 256 + (p % 2 * 128 + f 0 / 2) := by omega
    rw [e, split_and _ _ _ _ (by omega) (by omega), split_and _ _ _ _ h0 (by omega), s1_low _ _ (by omega) h0, ← h]
    unfold b1
    omega
theorem s2 (k : Nat) : ∀ (f : Nat → Nat), (∀ x, f x < 256) → (pat f k / 4 &&& pat (fun _ => 51) k) + (pat f k &&& pat (fun _ => 51) k) = pat (fun x => b2 (f x)) k := by
  induction k with
  | zero => intro f _; simp [pat]
  | succ k ih =>
    intro f hf
    have h := ih (fun x => f (x + 1)) (fun x => hf _)
    have h0 := hf 0
    rw [pat, pat, pat]
    generalize pat (fun x => f (x + 1)) k = p at *
    generalize pat (fun _ => 51) k = m at *
    have e : (p * 256 + f 0) / 4 = (p / 4) * 256 + (p % 4 * 64 + f 0 / 4) := by omega
    rw [e, split_and _ _ _ _ (by omega) (by omega), split_and _ _ _ _ h0 (by omega), s2_low _ _ (by omega) h0, ← h]
    unfold b2
    omega
theorem low4 (k : Nat) (f : Nat → Nat) (h : ∀ x, f x % 16 ≤ 4) : pat f k % 16 ≤ 4 := by
  cases k with
  | zero => simp [pat]
  | succ k =>
    have := h 0
    rw [pat]
    omega
theorem s3 (k : Nat) : ∀ (f : Nat → Nat), (∀ x, f x % 16 ≤ 4 ∧ f x / 16 ≤ 4) → (pat f k / 16 + pat f k) &&& pat (fun _ => 15) k = pat (fun x => b3 (f x)) k := by
  induction k with
  | zero => intro f _; simp [pat]
  | succ k ih =>
    intro f hf
    have h := ih (fun x => f (x + 1)) (fun x => hf _)
    have h4 := low4 k (fun x => f (x + 1)) (fun x => (hf _).1)
    have h0 := hf 0
    rw [pat, pat, pat]
    generalize pat (fun x => f (x + 1)) k = p at *
    generalize pat (fun _ => 15) k = m at *
    have e : (p * 256 + f 0) / 16 + (p * 256 + f 0) = (p / 16 + p) * 256 + (p % 16 * 16 + (f 0 / 16 + f 0)) := by omega
    rw [e, split_and _ _ _ _ (by omega) (by omega), ← h]
    have e2 : (p % 16 * 16 + (f 0 / 16 + f 0)) &&& 15 = b3 (f 0) := by
      rw [nat_mask4]
      unfold b3
      omega
    rw [e2]
/-- the number of ones of a byte -/
def pop8 (l : Nat) : Nat := l % 2 + l / 2 % 2 + l / 4 % 2 + l / 8 % 2 + l / 16 % 2 + l / 32 % 2 + l / 64 % 2 + l / 128 % 2
theorem pop8_le (l : Nat) : pop8 l ≤ 8 := by unfold pop8; omega
theorem b_facts : ∀ l : Nat, l < 256 → b1 l < 256 ∧ b2 (b1 l) % 16 ≤ 4 ∧ b2 (b1 l) / 16 ≤ 4 ∧ b3 (b2 (b1 l)) = pop8 l := by
  have h : ∀ l : Fin 256, b1 l.val < 256 ∧ b2 (b1 l.val) % 16 ≤ 4 ∧ b2 (b1 l.val) / 16 ≤ 4 ∧ b3 (b2 (b1 l.val)) = pop8 l.val := by decide +kernel
  intro l hl
  exact h ⟨l, hl⟩
/-- what the first three steps make of a number -/
def m1 (x : Nat) : Nat := (x / 2 &&& 6148914691236517205) + (x &&& 6148914691236517205)
def m2 (x : Nat) : Nat := (x / 4 &&& 3689348814741910323) + (x &&& 3689348814741910323)
def m3 (x : Nat) : Nat := (x / 16 + x) &&& 1085102592571150095
theorem m1_pat (f : Nat → Nat) (hf : ∀ x, f x < 256) : m1 (pat f 8) = pat (fun x => b1 (f x)) 8 := s1 8 f hf
theorem m2_pat (f : Nat → Nat) (hf : ∀ x, f x < 256) : m2 (pat f 8) = pat (fun x => b2 (f x)) 8 := s2 8 f hf
theorem m3_pat (f : Nat → Nat) (hf : ∀ x, f x % 16 ≤ 4 ∧ f x / 16 ≤ 4) : m3 (pat f 8) = pat (fun x => b3 (f x)) 8 := s3 8 f hf
theorem m123_pat (f : Nat → Nat) (hf : ∀ x, f x < 256) : m3 (m2 (m1 (pat f 8))) = pat (fun x => pop8 (f x)) 8 := by
  rw [m1_pat f hf, m2_pat _ (fun x => (b_facts _ (hf x)).1), m3_pat _ (fun x => ⟨(b_facts _ (hf x)).2.1, (b_facts _ (hf x)).2.2.1⟩)]
  exact pat_congr 8 _ _ fun x _ => (b_facts _ (hf x)).2.2.2
/-- the sum of so many numbers -/
def sumN (f : Nat → Nat) : Nat → Nat
  | 0 => 0
  | k + 1 => sumN f k + f k
theorem sumN_le (f : Nat → Nat) (b : Nat) (h : ∀ x, f x ≤ b) : ∀ k, sumN f k ≤ k * b
  | 0 => by simp [sumN]
  | k + 1 => by
    have := sumN_le f b h k
    have := h k
    rw [sumN, Nat.succ_mul]
    omega
theorem sumN_congr (f g : Nat → Nat) : ∀ k, (∀ x, x < k → f x = g x) → sumN f k = sumN g k
  | 0, _ => rfl
  | k + 1, h => by rw [sumN, sumN, sumN_congr f g k (fun x hx => h x (by omega)), h k (by omega)]
/-- the last three steps -/
theorem fold_pat (f : Nat → Nat) (h : ∀ x, f x ≤ 8) :
    ∃ y1 y2 y3 : Nat, y1 = pat f 8 + pat f 8 / 256 ∧ y2 = y1 + y1 / 65536 ∧ y3 = y2 + y2 / 4294967296 ∧ y1 < 18446744073709551616 ∧ y2 < 18446744073709551616 ∧ y3 < 9223372036854775808 ∧ y3 % 128 = sumN f 8 := by
  have h0 := h 0
  have h1 := h 1
  have h2 := h 2
  have h3 := h 3
  have h4 := h 4
  have h5 := h 5
  have h6 := h 6
  have h7 := h 7
  refine ⟨_, _, _, rfl, rfl, rfl, ?_⟩
  simp only [pat, sumN, Nat.zero_add, Nat.zero_mul, Nat.reduceAdd]
  generalize f 0 = a0 at *
  generalize f 1 = a1 at *
  generalize f 2 = a2 at *
  generalize f 3 = a3 at *
  generalize f 4 = a4 at *
  generalize f 5 = a5 at *
  generalize f 6 = a6 at *
  generalize f 7 = a7 at *
  obtain ⟨x, hx⟩ : ∃ x, (((((((a7 * 256 + a6) * 256 + a5) * 256 + a4) * 256 + a3) * 256 + a2) * 256 + a1) * 256 + a0) = x := ⟨_, rfl⟩
  rw [hx]
  have q1 : x / 256 = ((((((a7 * 256 + a6) * 256 + a5) * 256 + a4) * 256 + a3) * 256 + a2) * 256 + a1) := by omega
  rw [q1]
  obtain ⟨y, hy⟩ : ∃ y, x + ((((((a7 * 256 + a6) * 256 + a5) * 256 + a4) * 256 + a3) * 256 + a2) * 256 + a1) = y := ⟨_, rfl⟩
  rw [hy]
  have q2 : y / 65536 = (((((a7 * 256 + (a6 + a7)) * 256 + (a5 + a6)) * 256 + (a4 + a5)) * 256 + (a3 + a4)) * 256 + (a2 + a3)) := by omega
  rw [q2]
  obtain ⟨z, hz⟩ : ∃ z, y + (((((a7 * 256 + (a6 + a7)) * 256 + (a5 + a6)) * 256 + (a4 + a5)) * 256 + (a3 + a4)) * 256 + (a2 + a3)) = z := ⟨_, rfl⟩
  rw [hz]
  have q3 : z / 4294967296 = (((a7 * 256 + (a6 + a7)) * 256 + (a5 + a6 + a7)) * 256 + (a4 + a5 + a6 + a7)) := by omega
  rw [q3]
  clear q1 q2 q3
  refine ⟨?_, ?_, ?_, ?_⟩ <;> omega

/-! ### sets as numbers -/
/-- the set of the numbers less than c for which P holds -/
def setB (P : Nat → Bool) : Nat → Nat
  | 0 => 0
  | c + 1 => setB P c + (if P c then 2 ^ c else 0)
theorem setB_lt (P : Nat → Bool) : ∀ c, setB P c < 2 ^ c
  | 0 => by simp [setB]
  | c + 1 => by
    have := setB_lt P c
    rw [setB, Nat.pow_succ]
    split <;> omega
theorem setB_lt8 (P : Nat → Bool) (c : Nat) (h : c ≤ 8) : setB P c < 256 :=
  Nat.lt_of_lt_of_le (setB_lt P c) (Nat.pow_le_pow_right (by decide) h)
theorem setB_or (P : Nat → Bool) (c : Nat) : setB P c ||| (if P c then 2 ^ c else 0) = setB P (c + 1) := by
  rw [setB]
  have := setB_lt P c
  split
  · rw [Nat.or_comm, Nat.add_comm]
    have h := Nat.two_pow_add_eq_or_of_lt this 1
    rw [Nat.mul_one] at h
    exact h.symm
  · simp
theorem setB_bit (P : Nat → Bool) (i : Nat) : ∀ c, (setB P c).testBit i = (decide (i < c) && P i)
  | 0 => by simp [setB]
  | c + 1 => by
    rw [← setB_or, Nat.testBit_or, setB_bit P i c]
    by_cases h : i = c
    · subst h
      cases hp : P i <;> simp
    · have h2 : (if P c then 2 ^ c else 0).testBit i = false := by
        split
        · rw [Nat.testBit_two_pow]; simp; omega
        · simp
      rw [h2, Bool.or_false]
      congr 1
      rw [decide_eq_decide]
      omega
theorem pop8_bits (n : Nat) (h : n < 256) : pop8 n = sumN (fun i => (n.testBit i).toNat) 8 := by
  have hh : ∀ l : Fin 256, pop8 l.val = sumN (fun i => (l.val.testBit i).toNat) 8 := by decide +kernel
  exact hh ⟨n, h⟩
theorem bit_high (n i : Nat) (h : n < 256) (hi : 8 ≤ i) : n.testBit i = false :=
  Nat.testBit_lt_two_pow (Nat.lt_of_lt_of_le h (Nat.pow_le_pow_right (n := 2) (by decide) hi))
theorem bit_beyond (n i c : Nat) (h : n < 2 ^ c) (hi : c ≤ i) : n.testBit i = false :=
  Nat.testBit_lt_two_pow (Nat.lt_of_lt_of_le h (Nat.pow_le_pow_right (n := 2) (by decide) hi))
end Go.Proofs.YtgfhahlkffagaaaDoor.Pat

/-
  Contracts of the small functions on rectangles: l1In, l2Some, l2In, setValid, isRect, rectFrom, isIndex, inSet; toRect, eqRect.
-/
namespace Go.Proofs.YtgfhahlkffagaaaDoor.Rect
open Go.RowKit Go.Proofs.YtgfhahlkffagaaaDoor.Plain Go.Proofs.YtgfhahlkffagaaaDoor.Pat
set_option linter.unusedVariables false

/-- a rectangle as a value -/
abbrev rect (r c : Int) : Value := .agg #[.int .i64 r, .int .i64 c]

/-- what a callee leaves alone, one step more -/
theorem rstep {w a b : World} (h : Below w.heap.size w a) (h2 : Below a.heap.size a b) : Below w.heap.size w b := h.trans (h2.mono h.size)
theorem rstepA {w a : World} (h : Below w.heap.size w a) (o : Obj) : Below w.heap.size w (a.alloc o) := h.alloc h.size o

/-- two new blocks of two cells, behind a call that leaves them alone -/
theorem two_two {w w1 : World} {a b c d : Value} {T U : TypeId} (hb : Below ((w.alloc (.cells #[a, b] T)).alloc (.cells #[c, d] U)).heap.size ((w.alloc (.cells #[a, b] T)).alloc (.cells #[c, d] U)) w1) :
    w1.cell? ⟨w.heap.size, 0, none⟩ = some a ∧ w1.cell? ⟨w.heap.size, 1, none⟩ = some b ∧ w1.cell? ⟨w.heap.size + 1, 0, none⟩ = some c ∧ w1.cell? ⟨w.heap.size + 1, 1, none⟩ = some d ∧
      w1.frozen? ⟨w.heap.size, 0, none⟩ = false ∧ w1.frozen? ⟨w.heap.size, 1, none⟩ = false ∧ w.heap.size + 1 < w1.heap.size ∧ Below w.heap.size w w1 := by
  have hs : ((w.alloc (.cells #[a, b] T)).alloc (.cells #[c, d] U)).heap.size = w.heap.size + 2 := by simp
  refine ⟨?_, ?_, ?_, ?_, ?_, ?_, by have := hb.size; omega, ?_⟩
  · exact (hb.cell (p := ⟨w.heap.size, 0, none⟩) (by show w.heap.size < _; omega)).trans (by simp)
  · exact (hb.cell (p := ⟨w.heap.size, 1, none⟩) (by show w.heap.size < _; omega)).trans (by simp)
  · exact (hb.cell (p := ⟨w.heap.size + 1, 0, none⟩) (by show w.heap.size + 1 < _; omega)).trans (by simp)
  · exact (hb.cell (p := ⟨w.heap.size + 1, 1, none⟩) (by show w.heap.size + 1 < _; omega)).trans (by simp)
  · exact (hb.frozen (p := ⟨w.heap.size, 0, none⟩) (by show w.heap.size < _; omega)).trans (by simp)
  · exact (hb.frozen (p := ⟨w.heap.size, 1, none⟩) (by show w.heap.size < _; omega)).trans (by simp)
  · exact (((Below.refl w.heap.size w).alloc (Nat.le_refl _) _).alloc (by simp) _).trans (hb.mono (by omega))

/-- one box of two cells, behind a call that leaves it alone -/
theorem box2 {w w1 : World} {a b : Value} {T : TypeId} (hb : Below (w.alloc (.cells #[a, b] T)).heap.size (w.alloc (.cells #[a, b] T)) w1) :
    w1.cell? ⟨w.heap.size, 0, none⟩ = some a ∧ w1.cell? ⟨w.heap.size, 1, none⟩ = some b ∧ w.heap.size < w1.heap.size ∧ Hid (Below w.heap.size w w1) := by
  have hs : (w.alloc (.cells #[a, b] T)).heap.size = w.heap.size + 1 := by simp
  refine ⟨?_, ?_, by have := hb.size; omega, ?_⟩
  · exact (hb.cell (p := ⟨w.heap.size, 0, none⟩) (by show w.heap.size < _; omega)).trans (by simp)
  · exact (hb.cell (p := ⟨w.heap.size, 1, none⟩) (by show w.heap.size < _; omega)).trans (by simp)
  · exact ((Below.refl w.heap.size w).alloc (Nat.le_refl _) _).trans (hb.mono (by omega))
theorem two_on {w1 w2 : World} {g : Nat} {a b : Value} (hb : Below w1.heap.size w1 w2) (hg : g < w1.heap.size)
    (h0 : w1.cell? ⟨g, 0, none⟩ = some a) (h1 : w1.cell? ⟨g, 1, none⟩ = some b) : w2.cell? ⟨g, 0, none⟩ = some a ∧ w2.cell? ⟨g, 1, none⟩ = some b :=
  ⟨(hb.cell (p := ⟨g, 0, none⟩) hg).trans h0, (hb.cell (p := ⟨g, 1, none⟩) hg).trans h1⟩

set_option maxHeartbeats 400000 in
theorem in_any (n a b : Int) (w : World) :
    Calls Tryd.prog 51 #[.int .i64 n, .int .i64 a, .int .i64 b] w fun e w' => e = .returned (.bool (decide (a ≤ n ∧ n ≤ b))) ∧ w = w' := by
  by_cases h : a ≤ n
  · by_cases h2 : n ≤ b
    · rw [decide_eq_true ⟨h, h2⟩]
      go_enter Tryd.func51, Tryd.ntmps51
      go_wp2
      go_ret
      exact ⟨rfl, rfl⟩
    · rw [decide_eq_false (fun x => h2 x.2)]
      have h3 : b < n := by omega
      clear h2
      go_enter Tryd.func51, Tryd.ntmps51
      go_wp2
      go_ret
      exact ⟨by simp; omega, rfl⟩
  · rw [decide_eq_false (fun x => h x.1)]
    have h3 : n < a := by omega
    clear h
    go_enter Tryd.func51, Tryd.ntmps51
    go_wp2
    go_ret
    exact ⟨rfl, rfl⟩

/-- when both call two numbers a rectangle -/
def someB (r c : Int) : Bool := decide (1 ≤ r ∧ r ≤ 255) && decide (1 ≤ c ∧ c ≤ 255)
theorem someB_iff (r c : Int) : someB r c = true ↔ (1 ≤ r ∧ r ≤ 255) ∧ (1 ≤ c ∧ c ≤ 255) := by
  unfold someB
  rw [Bool.and_eq_true, decide_eq_true_iff, decide_eq_true_iff]

set_option maxHeartbeats 400000 in
theorem some_any (r c : Int) (w : World) :
    Calls Tryd.prog 126 #[rect r c] w fun e w' => e = .returned (.bool (someB r c)) ∧ Below w.heap.size w w' := by
  unfold someB
  by_cases h : 1 ≤ r ∧ r ≤ 255
  · rw [decide_eq_true h, Bool.true_and]
    obtain ⟨b, hb⟩ : ∃ b, decide (1 ≤ c ∧ c ≤ 255) = b := ⟨_, rfl⟩
    rw [hb]
    have HB := Lib.hid hb
    have H := Lib.hid h
    clear h hb
    go_enter Tryd.func126, Tryd.ntmps126
    go_wp2_with fail
    refine (in_any _ _ _ _).mono ?_
    rintro e w' ⟨rfl, rfl⟩
    rw [decide_eq_true H.out]
    go_wp2_with fail
    refine (in_any _ _ _ _).mono ?_
    rintro e w' ⟨rfl, rfl⟩
    rw [HB.out]
    go_wp2_with fail
    go_ret
    exact ⟨rfl, by go_grown⟩
  · rw [decide_eq_false h, Bool.false_and]
    have H := Lib.hid h
    clear h
    go_enter Tryd.func126, Tryd.ntmps126
    go_wp2_with fail
    refine (in_any _ _ _ _).mono ?_
    rintro e w' ⟨rfl, rfl⟩
    rw [decide_eq_false H.out]
    go_wp2_with fail
    go_ret
    exact ⟨rfl, by go_grown⟩

set_option maxHeartbeats 400000 in
theorem valid_any (s : Int) (c : Nat) (hc : c ≤ 8) (w : World) :
    Calls Tryd.prog 119 #[.int .i64 s, .int .i64 (c : Int)] w fun e w' => e = .returned (.bool (decide (1 ≤ s ∧ s ≤ 2 ^ c - 1))) ∧ w = w' := by
  have h : c = 0 ∨ c = 1 ∨ c = 2 ∨ c = 3 ∨ c = 4 ∨ c = 5 ∨ c = 6 ∨ c = 7 ∨ c = 8 := by omega
  by_cases h1 : 0 < s
  · obtain ⟨b, hb⟩ : ∃ b, decide (1 ≤ s ∧ s ≤ 2 ^ c - 1) = b := ⟨_, rfl⟩
    rw [hb]
    have HB := Lib.hid hb
    clear hb
    rcases h with rfl | rfl | rfl | rfl | rfl | rfl | rfl | rfl | rfl
    all_goals
      go_enter Tryd.func119, Tryd.ntmps119
      go_wp2
      go_ret
      refine ⟨congrArg (fun b => Ending.returned (Value.bool b)) (Eq.trans ?_ HB.out), rfl⟩
      rw [decide_eq_decide]
      omega
  · rw [decide_eq_false (by omega)]
    have h3 : s ≤ 0 := by omega
    clear h h1
    go_enter Tryd.func119, Tryd.ntmps119
    go_wp2
    go_ret
    exact ⟨rfl, rfl⟩

set_option maxHeartbeats 400000 in
theorem rect_any (r c : Int) (w : World) :
    Calls Tryd.prog 89 #[rect r c] w fun e w' => e = .returned (.bool (someB r c)) ∧ Below w.heap.size w w' := by
  unfold someB
  by_cases h : 1 ≤ r ∧ r ≤ 255
  · rw [decide_eq_true h, Bool.true_and]
    obtain ⟨b, hb⟩ : ∃ b, decide (1 ≤ c ∧ c ≤ 255) = b := ⟨_, rfl⟩
    rw [hb]
    have HB := Lib.hid hb
    have H := Lib.hid h
    clear h hb
    go_enter Tryd.func89, Tryd.ntmps89
    go_wp2_with fail
    refine (valid_any _ 8 (by omega) _).mono ?_
    rintro e w' ⟨rfl, rfl⟩
    rw [decide_eq_true (show 1 ≤ r ∧ r ≤ 2 ^ 8 - 1 from H.out)]
    go_wp2_with fail
    refine (valid_any _ 8 (by omega) _).mono ?_
    rintro e w' ⟨rfl, rfl⟩
    rw [show decide (1 ≤ c ∧ c ≤ 2 ^ 8 - 1) = b from HB.out]
    go_wp2_with fail
    go_ret
    exact ⟨rfl, by go_grown⟩
  · rw [decide_eq_false h, Bool.false_and]
    have H := Lib.hid h
    clear h
    go_enter Tryd.func89, Tryd.ntmps89
    go_wp2_with fail
    refine (valid_any _ 8 (by omega) _).mono ?_
    rintro e w' ⟨rfl, rfl⟩
    rw [decide_eq_false (show ¬ (1 ≤ r ∧ r ≤ 2 ^ 8 - 1) from H.out)]
    go_wp2_with fail
    go_ret
    exact ⟨rfl, by go_grown⟩


set_option maxHeartbeats 400000 in
theorem index_any (i : Int) (c : Int) (w : World) :
    Calls Tryd.prog 135 #[.int .i64 i, .int .i64 c] w fun e w' => e = .returned (.bool (decide (0 ≤ i ∧ i < c))) ∧ w = w' := by
  by_cases h : 0 ≤ i
  · by_cases h2 : i < c
    · rw [decide_eq_true ⟨h, h2⟩]
      go_enter Tryd.func135, Tryd.ntmps135
      go_wp2
      go_ret
      exact ⟨rfl, rfl⟩
    · rw [decide_eq_false (fun x => h2 x.2)]
      have h3 : c ≤ i := by omega
      clear h2
      go_enter Tryd.func135, Tryd.ntmps135
      go_wp2
      go_ret
      exact ⟨by simp; omega, rfl⟩
  · rw [decide_eq_false (fun x => h x.1)]
    have h3 : i < 0 := by omega
    clear h
    go_enter Tryd.func135, Tryd.ntmps135
    go_wp2
    go_ret
    exact ⟨rfl, rfl⟩

theorem bit_test (s i : Nat) (hs : s < 256) (hi : i < 8) : (Go.bits .and .i64 ((s : Int) / 2 ^ i) 1 == 1) = s.testBit i := by
  have h : ∀ k : Fin 256, ∀ j : Fin 8, (Go.bits .and .i64 (((k.val : Nat) : Int) / 2 ^ j.val) 1 == 1) = k.val.testBit j.val := by decide +kernel
  exact h ⟨s, hs⟩ ⟨i, hi⟩

set_option maxHeartbeats 400000 in
theorem l2In_any (s i : Nat) (hs : s < 256) (hi : i < 8) (w : World) :
    Calls Tryd.prog 110 #[.int .i64 (s : Int), .int .i64 (i : Int)] w fun e w' => e = .returned (.bool (s.testBit i)) ∧ w = w' := by
  have HB := Lib.hid (bit_test s i hs hi)
  go_enter Tryd.func110, Tryd.ntmps110
  go_wp2
  go_ret
  exact ⟨congrArg (fun b => Ending.returned (.bool b)) HB.out, rfl⟩

set_option maxHeartbeats 400000 in
theorem inSet_yes (s i : Nat) (hs : s < 256) (hi : i < 8) (w : World) :
    Calls Tryd.prog 124 #[.int .i64 (s : Int), .int .i64 (i : Int)] w fun e w' => e = .returned (.bool (s.testBit i)) ∧ w = w' := by
  have HB := Lib.hid (bit_test s i hs hi)
  go_enter Tryd.func124, Tryd.ntmps124
  go_wp2_with fail
  refine (index_any _ _ _).mono ?_
  rintro e w' ⟨rfl, rfl⟩
  rw [decide_eq_true (by omega)]
  go_wp2_with fail
  go_ret
  exact ⟨congrArg (fun b => Ending.returned (.bool b)) HB.out, rfl⟩
set_option maxHeartbeats 400000 in
theorem inSet_no (s i : Int) (hi : i < 0 ∨ 8 ≤ i) (w : World) :
    Calls Tryd.prog 124 #[.int .i64 s, .int .i64 i] w fun e w' => e = .returned (.bool false) ∧ w = w' := by
  have HI := Lib.hid hi
  clear hi
  go_enter Tryd.func124, Tryd.ntmps124
  go_wp2_with fail
  refine (index_any _ _ _).mono ?_
  rintro e w' ⟨rfl, rfl⟩
  rw [decide_eq_false (by have := HI.out; omega)]
  go_wp2_with fail
  go_ret
  exact ⟨rfl, rfl⟩

end Go.Proofs.YtgfhahlkffagaaaDoor.Rect

