/-
  Texts of one seat, joined: FreeP, Pat.
-/
import Derived.Test.YtbccachkkflceaaGreatDoorJn1
import Derived.Test.YtbccachkkflceaaGreatDoorFreeL
import Derived.Test.YtbccachkkflceaaGreatDoorJn2
import Derived.Laws.BitsAllLaws
/-
  The law at a region that draws its order and whose operations read through one reader, as often as they like: what they yield is told by a relation
  that stays true while other blocks lie as they lay. The order of the reads does not matter: of each number only its bounds are told.
-/
namespace Go.Proofs.YtbccachkkflceaaGreatDoor.FreeP
open Go Go.RowKit Go.Proofs.YtbccachkkflceaaGreatDoor.Free Go.Proofs.YtbccachkkflceaaGreatDoor.FreeL Go.Proofs.YtbccachkkflceaaGreatDoor.Rd Go.Proofs.YtbccachkkflceaaGreatDoor.Rd2
set_option linter.unusedVariables false

/-- how many have come up -/
def cnt (l : Nat → Bool) : Nat → Nat
  | 0 => 0
  | n + 1 => cnt l n + (l n).toNat
theorem cnt_le (l : Nat → Bool) : ∀ n, cnt l n ≤ n
  | 0 => Nat.le_refl _
  | n + 1 => by
    have := cnt_le l n
    rw [cnt]
    cases l n <;> simp <;> omega
theorem cnt_none (l : Nat → Bool) (h : ∀ i, l i = false) : ∀ n, cnt l n = 0
  | 0 => rfl
  | n + 1 => by rw [cnt, cnt_none l h n, h n]; rfl
theorem cnt_high (l : Nat → Bool) (i : Nat) : ∀ n, n ≤ i → cnt (fun j => if j = i then true else l j) n = cnt l n
  | 0, _ => rfl
  | n + 1, h => by
    rw [cnt, cnt, cnt_high l i n (by omega)]
    rw [if_neg (by omega)]
theorem cnt_set (l : Nat → Bool) (i : Nat) (hl : l i = false) : ∀ n, i < n → cnt (fun j => if j = i then true else l j) n = cnt l n + 1
  | 0, h => absurd h (by omega)
  | n + 1, h => by
    rw [cnt, cnt]
    by_cases e : n = i
    · subst e
      rw [cnt_high l n n (Nat.le_refl _), if_pos rfl, hl]
      rfl
    · rw [cnt_set l i hl n (by omega), if_neg e]
      omega
set_option maxRecDepth 20000 in
theorem count_up {p0 p p' c : Nat} (h2 : p ≤ p0 + 400 * c) (h4 : p' ≤ p + 400) : p' ≤ p0 + 400 * (c + 1) := by omega
set_option maxRecDepth 20000 in
theorem count_to {p0 p c n : Nat} (h2 : p ≤ p0 + 400 * c) (h4 : c ≤ n) : p ≤ p0 + 400 * n := by omega
theorem wp_enterP {P : Program} {o : Oper} {a : Act} {w : World} {K : Act → World → Prop} {Q : Exit → Act → World → Prop} (f : FuncId) (args : Array Value) (R : Value → World → Prop) (h : (execOp a.eval o).run P w = .ok (.enter f args) w)
    (hc : Calls P f args w fun e w' => ∃ v, e = .returned v ∧ R v w') (hK : ∀ v w', R v w' → K (a.put o.dst v) w') : o.wp P a w K Q := by
  unfold Oper.wp
  rw [h]
  refine Calls.mono hc ?_
  rintro e w' ⟨v, rfl, hR⟩
  exact hK v w' hR

section
variable {P : Program} {ops : Array Oper}
/-- what an operation may know of the slots -/
def FactsP (ops : Array Oper) (a0 : Act) (R : Nat → Value → World → Prop) (o : Oper) (a : Act) (w : World) : Prop :=
  (∀ e ∈ o.after, Region.binds .any e = true → ∀ (oj : Oper) (dj : Tmp), ops[e.on]? = some oj → oj.dst = some dj → R e.on (a.tmps[dj]?.getD undef) w) ∧
  (∀ k, (ops.toList.all fun o => o.dst != some k) = true → a.tmps[k]?.getD undef = a0.tmps[k]?.getD undef)

/-- THE LAW -/
theorem wp_region_draws {lo : Nat} {id n : Nat} {a0 : Act} {w0 : World} {Q : Exit → Act → World → Prop} (g p0 : Nat) (R : Nat → Value → World → Prop) (hR : ∀ (i : Nat) (v : Value) (w w' : World), Apt g w w' → R i v w → R i v w')
    (hm : P.follows .mixedOrders = true) (hB : freeB ops n = true) (hn : a0.tmps.size = n) (h0 : Rdr lo w0 g p0)
    (hcon : ∀ (i : Nat) (o : Oper), ops[i]? = some o → ∀ (a : Act) (w : World) (p : Nat), p0 ≤ p → p ≤ p0 + 400 * ops.size → Apt g w0 w → Rdr lo w g p → FactsP ops a0 R o a w →
      o.wp P a w (fun a' w' => ∃ v p', a' = a.put o.dst v ∧ R i v w' ∧ Apt g w w' ∧ Rdr lo w' g p' ∧ p ≤ p' ∧ p' ≤ p + 400) Q)
    (hend : ∀ (vs : Nat → Value) (w : World) (p : Nat), p0 ≤ p → p ≤ p0 + 400 * ops.size → Apt g w0 w → Rdr lo w g p → (∀ (i : Nat) (o : Oper), ops[i]? = some o → R i (vs i) w) → Q .normal (fill ops.toList vs 0 a0) w) :
    (Code.region id ops true).wp P Q a0 w0 := by
  refine wp_region_freeL (Y := fun i v a w => R i v w) (S := fun l w => Apt g w0 w ∧ ∃ p, Rdr lo w g p ∧ p0 ≤ p ∧ p ≤ p0 + 400 * cnt l ops.size) hm hB hn
    ⟨(Apt.refl g w0).drew, p0, h0.later (drawn_at w0 1), Nat.le_refl _, by omega⟩ ?_ ?_
  · intro i o ho listed a w hM hu hdp
    have hi : i < ops.size := (Array.getElem?_eq_some_iff.1 ho).1
    obtain ⟨ha, p, hr, hp1, hp2⟩ := hM.world
    have hc := cnt_set (fun j => listed.getD j false) i hu ops.size hi
    have hl := cnt_le (fun j => listed.getD j false) ops.size
    have hf : FactsP ops a0 R o a w := by
      refine ⟨fun e he hb oj dj hoj hdj => ?_, fun k hk => ?_⟩
      · obtain ⟨v, hv, hvd⟩ := hM.new e.on oj hoj (hdp e he hb)
        rw [hvd dj hdj]
        exact hv
      · rw [hM.old k fun i o' ho' hd' => ?_]
        have := List.all_eq_true.1 hk o' (by simpa using Array.mem_of_getElem? ho')
        simp [hd'] at this
    have hp3 : p ≤ p0 + 400 * ops.size := count_to hp2 hl
    refine Oper.wp_mono ?_ (hcon i o ho a w p hp1 hp3 ha hr hf)
    rintro a' w' ⟨v, p', rfl, hRv, ha', hr', h3, h4⟩
    have h5 : p' ≤ p0 + 400 * cnt (fun j => if j = i then true else listed.getD j false) ops.size := by
      rw [hc]
      exact count_up hp2 h4
    exact ⟨v, rfl, hRv, ⟨ha.trans ha', p', hr', Nat.le_trans hp1 h3, h5⟩, fun j u _ _ hY => hR j u w w' ha' hY⟩
  · intro vs w hS hall
    obtain ⟨ha, p, hr, hp1, hp2⟩ := hS
    have hl := cnt_le (fun i => decide (i < ops.size)) ops.size
    exact hend vs w p hp1 (count_to hp2 hl) ha hr hall
end
end Go.Proofs.YtbccachkkflceaaGreatDoor.FreeP

/-
  Plain facts on sets of entries as numbers: eight bytes, one for each row. Nothing of the program.
-/
namespace Go.Proofs.YtbccachkkflceaaGreatDoor.Pat
open Go.RowKit Go.Proofs.YtbccachkkflceaaGreatDoor.Plain

/-- the number whose bytes are f 0, f 1 .. -/
def pat (f : Nat → Nat) : Nat → Nat
  | 0 => 0
  | k + 1 => pat (fun x => f (x + 1)) k * 256 + f 0

theorem pat_lt (k : Nat) : ∀ (f : Nat → Nat), (∀ x, f x < 256) → pat f k < 256 ^ k := by
  induction k with
  | zero => intro f _; simp [pat]
  | succ k ih =>
    intro f h
    have h1 := ih (fun x => f (x + 1)) (fun x => h _)
    have h0 := h 0
    rw [pat, Nat.pow_succ]
    omega
theorem pat_congr (k : Nat) : ∀ (f g : Nat → Nat), (∀ x, x < k → f x = g x) → pat f k = pat g k := by
  induction k with
  | zero => intro f g _; rfl
  | succ k ih =>
    intro f g h
    rw [pat, pat, ih (fun x => f (x + 1)) (fun x => g (x + 1)) (fun x hx => h _ (by omega)), h 0 (by omega)]

theorem pat_mono (k : Nat) : ∀ (f g : Nat → Nat), (∀ x, f x ≤ g x) → pat f k ≤ pat g k := by
  induction k with
  | zero => intro f g _; exact Nat.le_refl _
  | succ k ih =>
    intro f g h
    have h1 := ih (fun x => f (x + 1)) (fun x => g (x + 1)) (fun x => h _)
    have h0 := h 0
    rw [pat, pat]
    omega

theorem split_bit (a b j : Nat) (hb : b < 256) : (a * 256 + b).testBit j = if j < 8 then b.testBit j else a.testBit (j - 8) := by
  rw [show a * 256 = 2 ^ 8 * a by omega]
  exact Nat.testBit_two_pow_mul_add a hb j
theorem split_and (h l H L : Nat) (hl : l < 256) (hL : L < 256) : (h * 256 + l) &&& (H * 256 + L) = (h &&& H) * 256 + (l &&& L) := by
  apply Nat.eq_of_testBit_eq
  intro j
  have hlt : l &&& L < 256 := Nat.and_lt_two_pow (n := 8) l hL
  rw [Nat.testBit_and, split_bit _ _ _ hl, split_bit _ _ _ hL, split_bit _ _ _ hlt]
  split <;> rw [Nat.testBit_and]
theorem split_or (h l H L : Nat) (hl : l < 256) (hL : L < 256) : (h * 256 + l) ||| (H * 256 + L) = (h ||| H) * 256 + (l ||| L) := by
  apply Nat.eq_of_testBit_eq
  intro j
  have hlt : l ||| L < 256 := Nat.or_lt_two_pow (n := 8) hl hL
  rw [Nat.testBit_or, split_bit _ _ _ hl, split_bit _ _ _ hL, split_bit _ _ _ hlt]
  split <;> rw [Nat.testBit_or]
theorem pat_and (k : Nat) : ∀ (f g : Nat → Nat), (∀ x, f x < 256) → (∀ x, g x < 256) → pat f k &&& pat g k = pat (fun x => f x &&& g x) k := by
  induction k with
  | zero => intro f g _ _; simp [pat]
  | succ k ih =>
    intro f g hf hg
    rw [pat, pat, pat, split_and _ _ _ _ (hf 0) (hg 0), ih _ _ (fun x => hf _) (fun x => hg _)]
theorem pat_or (k : Nat) : ∀ (f g : Nat → Nat), (∀ x, f x < 256) → (∀ x, g x < 256) → pat f k ||| pat g k = pat (fun x => f x ||| g x) k := by
  induction k with
  | zero => intro f g _ _; simp [pat]
  | succ k ih =>
    intro f g hf hg
    rw [pat, pat, pat, split_or _ _ _ _ (hf 0) (hg 0), ih _ _ (fun x => hf _) (fun x => hg _)]
theorem pat_not (k : Nat) : ∀ (f : Nat → Nat), (∀ x, f x < 256) → 256 ^ k - 1 - pat f k = pat (fun x => 255 - f x) k := by
  induction k with
  | zero => intro f _; simp [pat]
  | succ k ih =>
    intro f hf
    have h := ih (fun x => f (x + 1)) (fun x => hf _)
    have hlt := pat_lt k (fun x => f (x + 1)) (fun x => hf _)
    have h0 := hf 0
    rw [pat, pat, ← h, Nat.pow_succ]
    omega
theorem pat_zero (k : Nat) : ∀ (f : Nat → Nat), pat f k = 0 ↔ ∀ x, x < k → f x = 0 := by
  induction k with
  | zero => intro f; simp [pat]
  | succ k ih =>
    intro f
    rw [pat]
    constructor
    · intro h x hx
      cases x with
      | zero => omega
      | succ x => exact (ih (fun x => f (x + 1))).1 (by omega) x (by omega)
    · intro h
      rw [(ih (fun x => f (x + 1))).2 (fun x hx => h _ (by omega)), h 0 (by omega)]
/-- one byte at its place -/
theorem pat_one (x c : Nat) (hx : x < 8) : pat (fun j => if j = x then c else 0) 8 = c * 2 ^ (x * 8) := by
  have h : x = 0 ∨ x = 1 ∨ x = 2 ∨ x = 3 ∨ x = 4 ∨ x = 5 ∨ x = 6 ∨ x = 7 := by omega
  rcases h with rfl | rfl | rfl | rfl | rfl | rfl | rfl | rfl <;> simp [pat] <;> omega
theorem pat_none (k : Nat) : pat (fun _ => 0) k = 0 := (pat_zero k _).2 fun _ _ => rfl
theorem pat64 (f : Nat → Nat) (h : ∀ x, f x < 256) : pat f 8 < 18446744073709551616 := pat_lt 8 f h

/-! ### the number of ones -/
theorem s1_low : ∀ b l : Nat, b < 2 → l < 256 → (b * 128 + l / 2) &&& 85 = (l / 2 &&& 85) := by
  have h : ∀ b : Fin 2, ∀ l : Fin 256, (b.val * 128 + l.val / 2) &&& 85 = (l.val / 2 &&& 85) := by decide +kernel
  intro b l hb hl
  exact h ⟨b, hb⟩ ⟨l, hl⟩
theorem s2_low : ∀ b l : Nat, b < 4 → l < 256 → (b * 64 + l / 4) &&& 51 = (l / 4 &&& 51) := by
  have h : ∀ b : Fin 4, ∀ l : Fin 256, (b.val * 64 + l.val / 4) &&& 51 = (l.val / 4 &&& 51) := by decide +kernel
  intro b l hb hl
  exact h ⟨b, hb⟩ ⟨l, hl⟩
def b1 (l : Nat) : Nat := (l / 2 &&& 85) + (l &&& 85)
def b2 (l : Nat) : Nat := (l / 4 &&& 51) + (l &&& 51)
def b3 (l : Nat) : Nat := (l / 16 + l) % 16
theorem s1 (k : Nat) : ∀ (f : Nat → Nat), (∀ x, f x < 256) → (pat f k / 2 &&& pat (fun _ => 85) k) + (pat f k &&& pat (fun _ => 85) k) = pat (fun x => b1 (f x)) k := by
  induction k with
  | zero => intro f _; simp [pat]
  | succ k ih =>
    intro f hf
    have h := ih (fun x => f (x + 1)) (fun x => hf _)
    have h0 := hf 0
    rw [pat, pat, pat]
    generalize pat (fun x => f (x + 1)) k = p at *
    generalize pat (fun _ => 85) k = m at *
    have e : (p * 256 + f 0) / 2 = (p / 2) * 256 + (p % 2 * 128 + f 0 / 2) := by omega
    rw [e, split_and _ _ _ _ (by omega) (by omega), split_and _ _ _ _ h0 (by omega), s1_low _ _ (by omega) h0, ← h]
    unfold b1
    omega
theorem s2 (k : Nat) : ∀ (f : Nat → Nat), (∀ x, f x < 256) → (pat f k / 4 &&& pat (fun _ => 51) k) + (pat f k &&& pat (fun _ => 51) k) = pat (fun x => b2 (f x)) k := by
  induction k with
  | zero => intro f _; simp [pat]
  | succ k ih =>
    intro f hf
    have h := ih (fun x => f (x + 1)) (fun x => hf _)
    have h0 := hf 0
    rw [pat, pat, pat]
    generalize pat (fun x => f (x + 1)) k = p at *
    generalize pat (fun _ => 51) k = m at *
    have e : (p * 256 + f 0) / 4 = (p / 4) * 256 + (p % 4 * 64 + f 0 / 4) := by omega
    rw [e, split_and _ _ _ _ (by omega) (by omega), split_and _ _ _ _ h0 (by omega), s2_low _ _ (by omega) h0, ← h]
    unfold b2
    omega
theorem low4 (k : Nat) (f : Nat → Nat) (h : ∀ x, f x % 16 ≤ 4) : pat f k % 16 ≤ 4 := by
  cases k with
  | zero => simp [pat]
  | succ k =>
    have := h 0
    rw [pat]
    omega
theorem s3 (k : Nat) : ∀ (f : Nat → Nat), (∀ x, f x % 16 ≤ 4 ∧ f x / 16 ≤ 4) → (pat f k / 16 + pat f k) &&& pat (fun _ => 15) k = pat (fun x => b3 (f x)) k := by
  induction k with
  | zero => intro f _; simp [pat]
  | succ k ih =>
    intro f hf
    have h := ih (fun x => f (x + 1)) (fun x => hf _)
    have h4 := low4 k (fun x => f (x + 1)) (fun x => (hf _).1)
    have h0 := hf 0
    rw [pat, pat, pat]
    generalize pat (fun x => f (x + 1)) k = p at *
    generalize pat (fun _ => 15) k = m at *
    have e : (p * 256 + f 0) / 16 + (p * 256 + f 0) = (p / 16 + p) * 256 + (p % 16 * 16 + (f 0 / 16 + f 0)) := by omega
    rw [e, split_and _ _ _ _ (by omega) (by omega), ← h]
    have e2 : (p % 16 * 16 + (f 0 / 16 + f 0)) &&& 15 = b3 (f 0) := by
      rw [nat_mask4]
      unfold b3
      omega
    rw [e2]
/-- the number of ones of a byte -/
def pop8 (l : Nat) : Nat := l % 2 + l / 2 % 2 + l / 4 % 2 + l / 8 % 2 + l / 16 % 2 + l / 32 % 2 + l / 64 % 2 + l / 128 % 2
theorem pop8_le (l : Nat) : pop8 l ≤ 8 := by unfold pop8; omega
theorem b_facts : ∀ l : Nat, l < 256 → b1 l < 256 ∧ b2 (b1 l) % 16 ≤ 4 ∧ b2 (b1 l) / 16 ≤ 4 ∧ b3 (b2 (b1 l)) = pop8 l := by
  have h : ∀ l : Fin 256, b1 l.val < 256 ∧ b2 (b1 l.val) % 16 ≤ 4 ∧ b2 (b1 l.val) / 16 ≤ 4 ∧ b3 (b2 (b1 l.val)) = pop8 l.val := by decide +kernel
  intro l hl
  exact h ⟨l, hl⟩
/-- what the first three steps make of a number -/
def m1 (x : Nat) : Nat := (x / 2 &&& 6148914691236517205) + (x &&& 6148914691236517205)
def m2 (x : Nat) : Nat := (x / 4 &&& 3689348814741910323) + (x &&& 3689348814741910323)
def m3 (x : Nat) : Nat := (x / 16 + x) &&& 1085102592571150095
theorem m1_pat (f : Nat → Nat) (hf : ∀ x, f x < 256) : m1 (pat f 8) = pat (fun x => b1 (f x)) 8 := s1 8 f hf
theorem m2_pat (f : Nat → Nat) (hf : ∀ x, f x < 256) : m2 (pat f 8) = pat (fun x => b2 (f x)) 8 := s2 8 f hf
theorem m3_pat (f : Nat → Nat) (hf : ∀ x, f x % 16 ≤ 4 ∧ f x / 16 ≤ 4) : m3 (pat f 8) = pat (fun x => b3 (f x)) 8 := s3 8 f hf
theorem m123_pat (f : Nat → Nat) (hf : ∀ x, f x < 256) : m3 (m2 (m1 (pat f 8))) = pat (fun x => pop8 (f x)) 8 := by
  rw [m1_pat f hf, m2_pat _ (fun x => (b_facts _ (hf x)).1), m3_pat _ (fun x => ⟨(b_facts _ (hf x)).2.1, (b_facts _ (hf x)).2.2.1⟩)]
  exact pat_congr 8 _ _ fun x _ => (b_facts _ (hf x)).2.2.2
/-- the sum of so many numbers -/
def sumN (f : Nat → Nat) : Nat → Nat
  | 0 => 0
  | k + 1 => sumN f k + f k
theorem sumN_le (f : Nat → Nat) (b : Nat) (h : ∀ x, f x ≤ b) : ∀ k, sumN f k ≤ k * b
  | 0 => by simp [sumN]
  | k + 1 => by
    have := sumN_le f b h k
    have := h k
    rw [sumN, Nat.succ_mul]
    omega
theorem sumN_congr (f g : Nat → Nat) : ∀ k, (∀ x, x < k → f x = g x) → sumN f k = sumN g k
  | 0, _ => rfl
  | k + 1, h => by rw [sumN, sumN, sumN_congr f g k (fun x hx => h x (by omega)), h k (by omega)]
/-- the last three steps -/
theorem fold_pat (f : Nat → Nat) (h : ∀ x, f x ≤ 8) :
    ∃ y1 y2 y3 : Nat, y1 = pat f 8 + pat f 8 / 256 ∧ y2 = y1 + y1 / 65536 ∧ y3 = y2 + y2 / 4294967296 ∧ y1 < 18446744073709551616 ∧ y2 < 18446744073709551616 ∧ y3 < 9223372036854775808 ∧ y3 % 128 = sumN f 8 := by
  have h0 := h 0
  have h1 := h 1
  have h2 := h 2
  have h3 := h 3
  have h4 := h 4
  have h5 := h 5
  have h6 := h 6
  have h7 := h 7
  refine ⟨_, _, _, rfl, rfl, rfl, ?_⟩
  simp only [pat, sumN, Nat.zero_add, Nat.zero_mul, Nat.reduceAdd]
  generalize f 0 = a0 at *
  generalize f 1 = a1 at *
  generalize f 2 = a2 at *
  generalize f 3 = a3 at *
  generalize f 4 = a4 at *
  generalize f 5 = a5 at *
  generalize f 6 = a6 at *
  generalize f 7 = a7 at *
  obtain ⟨x, hx⟩ : ∃ x, (((((((a7 * 256 + a6) * 256 + a5) * 256 + a4) * 256 + a3) * 256 + a2) * 256 + a1) * 256 + a0) = x := ⟨_, rfl⟩
  rw [hx]
  have q1 : x / 256 = ((((((a7 * 256 + a6) * 256 + a5) * 256 + a4) * 256 + a3) * 256 + a2) * 256 + a1) := by omega
  rw [q1]
  obtain ⟨y, hy⟩ : ∃ y, x + ((((((a7 * 256 + a6) * 256 + a5) * 256 + a4) * 256 + a3) * 256 + a2) * 256 + a1) = y := ⟨_, rfl⟩
  rw [hy]
  have q2 : y / 65536 = (((((a7 * 256 + (a6 + a7)) * 256 + (a5 + a6)) * 256 + (a4 + a5)) * 256 + (a3 + a4)) * 256 + (a2 + a3)) := by omega
  rw [q2]
  obtain ⟨z, hz⟩ : ∃ z, y + (((((a7 * 256 + (a6 + a7)) * 256 + (a5 + a6)) * 256 + (a4 + a5)) * 256 + (a3 + a4)) * 256 + (a2 + a3)) = z := ⟨_, rfl⟩
  rw [hz]
  have q3 : z / 4294967296 = (((a7 * 256 + (a6 + a7)) * 256 + (a5 + a6 + a7)) * 256 + (a4 + a5 + a6 + a7)) := by omega
  rw [q3]
  clear q1 q2 q3
  refine ⟨?_, ?_, ?_, ?_⟩ <;> omega

/-! ### sets as numbers -/
/-- the set of the numbers less than c for which P holds -/
def setB (P : Nat → Bool) : Nat → Nat
  | 0 => 0
  | c + 1 => setB P c + (if P c then 2 ^ c else 0)
theorem setB_lt (P : Nat → Bool) : ∀ c, setB P c < 2 ^ c
  | 0 => by simp [setB]
  | c + 1 => by
    have := setB_lt P c
    rw [setB, Nat.pow_succ]
    split <;> omega
theorem setB_lt8 (P : Nat → Bool) (c : Nat) (h : c ≤ 8) : setB P c < 256 :=
  Nat.lt_of_lt_of_le (setB_lt P c) (Nat.pow_le_pow_right (by decide) h)
theorem setB_or (P : Nat → Bool) (c : Nat) : setB P c ||| (if P c then 2 ^ c else 0) = setB P (c + 1) := by
  rw [setB]
  have := setB_lt P c
  split
  · rw [Nat.or_comm, Nat.add_comm]
    have h := Nat.two_pow_add_eq_or_of_lt this 1
    rw [Nat.mul_one] at h
    exact h.symm
  · simp
theorem setB_bit (P : Nat → Bool) (i : Nat) : ∀ c, (setB P c).testBit i = (decide (i < c) && P i)
  | 0 => by simp [setB]
  | c + 1 => by
    rw [← setB_or, Nat.testBit_or, setB_bit P i c]
    by_cases h : i = c
    · subst h
      cases hp : P i <;> simp
    · have h2 : (if P c then 2 ^ c else 0).testBit i = false := by
        split
        · rw [Nat.testBit_two_pow]; simp; omega
        · simp
      rw [h2, Bool.or_false]
      congr 1
      rw [decide_eq_decide]
      omega
theorem pop8_bits (n : Nat) (h : n < 256) : pop8 n = sumN (fun i => (n.testBit i).toNat) 8 := by
  have hh : ∀ l : Fin 256, pop8 l.val = sumN (fun i => (l.val.testBit i).toNat) 8 := by decide +kernel
  exact hh ⟨n, h⟩
theorem bit_high (n i : Nat) (h : n < 256) (hi : 8 ≤ i) : n.testBit i = false :=
  Nat.testBit_lt_two_pow (Nat.lt_of_lt_of_le h (Nat.pow_le_pow_right (n := 2) (by decide) hi))
theorem bit_beyond (n i c : Nat) (h : n < 2 ^ c) (hi : c ≤ i) : n.testBit i = false :=
  Nat.testBit_lt_two_pow (Nat.lt_of_lt_of_le h (Nat.pow_le_pow_right (n := 2) (by decide) hi))
end Go.Proofs.YtbccachkkflceaaGreatDoor.Pat

