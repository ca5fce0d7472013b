/-
  Texts of one seat, joined: PlM, GTurnC.
-/
import Derived.Test.YtbccachkkflceaaGreatDoorJn1
import Derived.Test.YtbccachkkflceaaGreatDoorJn27
import Derived.Test.YtbccachkkflceaaGreatDoorJn18
import Derived.Test.YtbccachkkflceaaGreatDoorJn23
import Derived.Test.YtbccachkkflceaaGreatDoorFreeL
import Derived.Deep.MidRow
import Derived.Deep.WholeRow
/-
  Which protocols play the game of a table. Nothing of the program.
-/
namespace Go.Proofs.YtbccachkkflceaaGreatDoor.PlM
open Go.RowKit Go.Proofs.YtbccachkkflceaaGreatDoor.Plain Go.Proofs.YtbccachkkflceaaGreatDoor.Pat Go.Proofs.YtbccachkkflceaaGreatDoor.Tree Go.Proofs.YtbccachkkflceaaGreatDoor.TrimT Go.Proofs.YtbccachkkflceaaGreatDoor.Leaf Go.Proofs.YtbccachkkflceaaGreatDoor.Talk
open Go.Proofs.YtbccachkkflceaaGreatDoor.Fm (F val)
set_option linter.unusedVariables false

theorem meet_bit (a b i : Nat) (h : a < 256) : (meetN a b).testBit i = (a.testBit i && b.testBit i) := by
  unfold meetN
  have h64 : a < 2 ^ 64 := Nat.lt_trans h (by decide)
  rw [BitVec.toNat_and, Nat.testBit_and, BitVec.toNat_ofNat, BitVec.toNat_ofNat, Nat.mod_eq_of_lt h64, Nat.testBit_mod_two_pow]
  by_cases hi : i < 64
  · simp [hi]
  · have : a.testBit i = false := Nat.testBit_lt_two_pow (Nat.lt_of_lt_of_le h (by
      have : (2 : Nat) ^ 8 ≤ 2 ^ i := Nat.pow_le_pow_right (by decide) (by omega)
      exact this))
    simp [this]
theorem minus_bit (a b i : Nat) (h : a < 256) : (minusN a b).testBit i = (a.testBit i && !b.testBit i) := by
  unfold minusN
  rw [BitVec.toNat_and, Nat.testBit_and]
  by_cases hi : i < 64
  · have e : (~~~BitVec.ofNat 64 b).toNat.testBit i = !b.testBit i := by
      have h1 : (~~~BitVec.ofNat 64 b).getLsbD i = (decide (i < 64) && !(BitVec.ofNat 64 b).getLsbD i) := BitVec.getLsbD_not
      rw [BitVec.testBit_toNat, h1, BitVec.getLsbD_ofNat]
      simp [hi]
    rw [e, BitVec.testBit_toNat, BitVec.getLsbD_ofNat]
    simp [hi]
  · have : a.testBit i = false := Nat.testBit_lt_two_pow (Nat.lt_of_lt_of_le h (by
      have : (2 : Nat) ^ 8 ≤ 2 ^ i := Nat.pow_le_pow_right (by decide) (by omega)
      exact this))
    rw [BitVec.testBit_toNat, BitVec.getLsbD_ofNat]
    simp [hi, this]
theorem high_bit {a i : Nat} (h : a < 256) (hi : 8 ≤ i) : a.testBit i = false := Nat.testBit_lt_two_pow (Nat.lt_of_lt_of_le h (by
  have : (2 : Nat) ^ 8 ≤ 2 ^ i := Nat.pow_le_pow_right (by decide) hi
  exact this))
theorem zero_iff {a : Nat} : a = 0 ↔ ∀ i, a.testBit i = false := by
  constructor
  · rintro rfl i; simp
  · intro h
    apply Nat.eq_of_testBit_eq
    intro i
    rw [h i]; simp
theorem some_bit {a : Nat} (h : a ≠ 0) : ∃ i, a.testBit i = true := by
  apply Classical.byContradiction
  intro hn
  apply h
  apply zero_iff.2
  intro i
  cases hb : a.testBit i with
  | false => rfl
  | true => exact absurd ⟨i, hb⟩ hn

/-- the numbers of which a letter is true -/
def truN (k : Nat) (v : Bool) : Nat := setB (val (.lit k v)) 8
theorem tru_bit (k : Nat) (v : Bool) (i : Nat) (h : i < 8) : (truN k v).testBit i = (i.testBit k == v) := by
  unfold truN
  rw [setB_bit, decide_eq_true h, Bool.true_and]
  rfl
theorem tru_lt (k : Nat) (v : Bool) : truN k v < 256 := setB_lt8 _ 8 (Nat.le_refl _)
/-- a letter is true of all rows and of no column -/
def partB (k : Nat) (v : Bool) (R C : Nat) : Prop := minusN R (truN k v) = 0 ∧ meetN C (truN k v) = 0
instance (k : Nat) (v : Bool) (R C : Nat) : Decidable (partB k v R C) := inferInstanceAs (Decidable (_ ∧ _))
/-- the first such letter -/
def partL (k R C : Nat) : Option Bool := if partB k false R C then some false else if partB k true R C then some true else none
theorem part_iff {k : Nat} {v : Bool} {R C : Nat} (hR : R < 256) (hC : C < 256) : partB k v R C ↔ (∀ x, R.testBit x = true → x.testBit k = v) ∧ (∀ y, C.testBit y = true → y.testBit k = !v) := by
  unfold partB
  rw [zero_iff, zero_iff]
  constructor
  · rintro ⟨h1, h2⟩
    refine ⟨fun x hx => ?_, fun y hy => ?_⟩
    · have hx8 : x < 8 := by
        apply Classical.byContradiction
        intro h
        rw [high_bit hR (by omega)] at hx
        cases hx
      have h := h1 x
      rw [minus_bit R _ x hR, tru_bit k v x hx8, hx] at h
      cases hb : x.testBit k <;> cases v <;> simp [hb] at h ⊢
    · have hy8 : y < 8 := by
        apply Classical.byContradiction
        intro h
        rw [high_bit hC (by omega)] at hy
        cases hy
      have h := h2 y
      rw [meet_bit C _ y hC, tru_bit k v y hy8, hy] at h
      cases hb : y.testBit k <;> cases v <;> simp [hb] at h ⊢
  · rintro ⟨h1, h2⟩
    refine ⟨fun x => ?_, fun y => ?_⟩
    · rw [minus_bit R _ x hR]
      cases hx : R.testBit x with
      | false => rfl
      | true =>
        have hx8 : x < 8 := by
          apply Classical.byContradiction
          intro h
          rw [high_bit hR (by omega)] at hx
          cases hx
        rw [tru_bit k v x hx8, h1 x hx]
        simp
    · rw [meet_bit C _ y hC]
      cases hy : C.testBit y with
      | false => rfl
      | true =>
        have hy8 : y < 8 := by
          apply Classical.byContradiction
          intro h
          rw [high_bit hC (by omega)] at hy
          cases hy
        rw [tru_bit k v y hy8, h2 y hy]
        cases v <;> rfl
theorem partL_iff {k R C : Nat} (hR : R < 256) (hC : C < 256) (hR0 : R ≠ 0) (hC0 : C ≠ 0) : (partL k R C).isSome = true ↔ ∀ x y, R.testBit x = true → C.testBit y = true → x.testBit k ≠ y.testBit k := by
  have key : (∃ v, partB k v R C) ↔ ∀ x y, R.testBit x = true → C.testBit y = true → x.testBit k ≠ y.testBit k := by
    constructor
    · rintro ⟨v, h⟩ x y hx hy
      obtain ⟨h1, h2⟩ := (part_iff hR hC).1 h
      rw [h1 x hx, h2 y hy]
      cases v <;> decide
    · intro h
      obtain ⟨x0, hx0⟩ := some_bit hR0
      obtain ⟨y0, hy0⟩ := some_bit hC0
      refine ⟨x0.testBit k, (part_iff hR hC).2 ⟨fun x hx => ?_, fun y hy => ?_⟩⟩
      · have h1 := h x y0 hx hy0
        have h2 := h x0 y0 hx0 hy0
        cases hb : x.testBit k <;> cases hb0 : x0.testBit k <;> cases hby : y0.testBit k <;> simp [hb, hb0, hby] at h1 h2 ⊢
      · have h1 := h x0 y hx0 hy
        cases hb : y.testBit k <;> cases hb0 : x0.testBit k <;> simp [hb, hb0] at h1 ⊢
  rw [← key]
  unfold partL
  by_cases h1 : partB k false R C
  · rw [if_pos h1]; exact ⟨fun _ => ⟨false, h1⟩, fun _ => rfl⟩
  · rw [if_neg h1]
    by_cases h2 : partB k true R C
    · rw [if_pos h2]; exact ⟨fun _ => ⟨true, h2⟩, fun _ => rfl⟩
    · rw [if_neg h2]
      constructor
      · intro h; cases h
      · rintro ⟨v, hv⟩
        cases v
        · exact absurd hv h1
        · exact absurd hv h2

/-- a protocol plays for the numbers of both players -/
def playB (t : T) (R C : Nat) : Bool := (leavesT t R C).all fun p => (partL (gN p.2.2) p.1 p.2.1).isSome
theorem play_iff : ∀ (t : T) (R C : Nat), R < 256 → C < 256 → (playB t R C = true ↔ ∀ x y, R.testBit x = true → C.testBit y = true → x.testBit (gN (talkT t x y).2) ≠ y.testBit (gN (talkT t x y).2))
  | .leaf b, R, C, hR, hC => by
    unfold playB
    simp only [leavesT]
    by_cases h0 : R = 0 ∨ C = 0
    · rw [if_pos h0]
      refine ⟨fun _ x y hx hy => ?_, fun _ => rfl⟩
      rcases h0 with rfl | rfl
      · simp at hx
      · simp at hy
    · rw [if_neg h0]
      simp only [List.all_cons, List.all_nil, Bool.and_true, talkT]
      exact partL_iff hR hC (by omega) (by omega)
  | .say a s z o, R, C, hR, hC => by
    obtain ⟨h1, h2, h3, h4⟩ := parts_lt a s hR hC
    have iz := play_iff z _ _ h1 h2
    have io := play_iff o _ _ h3 h4
    have e : playB (.say a s z o) R C = (playB z (outR a s R) (outC a s C) && playB o (inR a s R) (inC a s C)) := by
      unfold playB
      simp only [leavesT, List.all_append]
    rw [e, Bool.and_eq_true, iz, io]
    have hbits : ∀ x y, ((outR a s R).testBit x = true ∧ (outC a s C).testBit y = true ↔ R.testBit x = true ∧ C.testBit y = true ∧ saysB a s x y = false) ∧ ((inR a s R).testBit x = true ∧ (inC a s C).testBit y = true ↔ R.testBit x = true ∧ C.testBit y = true ∧ saysB a s x y = true) := by
      intro x y
      cases a
      · simp only [saysB, outR, outC, inR, inC, if_false, Bool.false_eq_true, minus_bit C s y hC, meet_bit C s y hC, Bool.and_eq_true, Bool.not_eq_true']
        first | trivial | exact ⟨trivial, trivial⟩ | exact ⟨Iff.rfl, trivial⟩ | exact ⟨trivial, Iff.rfl⟩
      · simp only [saysB, outR, outC, inR, inC, if_true, minus_bit R s x hR, meet_bit R s x hR, Bool.and_eq_true, Bool.not_eq_true']
        constructor
        · exact ⟨fun h => ⟨h.1.1, h.2, h.1.2⟩, fun h => ⟨⟨h.1, h.2.2⟩, h.2.1⟩⟩
        · exact ⟨fun h => ⟨h.1.1, h.2, h.1.2⟩, fun h => ⟨⟨h.1, h.2.2⟩, h.2.1⟩⟩
    have ht : ∀ x y, (talkT (.say a s z o) x y).2 = if saysB a s x y then (talkT o x y).2 else (talkT z x y).2 := by
      intro x y
      simp only [talkT]
      split <;> rfl
    constructor
    · rintro ⟨g1, g2⟩ x y hx hy
      rw [ht]
      cases hb : saysB a s x y
      · simp only [Bool.false_eq_true, if_false]
        have := ((hbits x y).1.2 ⟨hx, hy, hb⟩)
        exact g1 x y this.1 this.2
      · simp only [if_true]
        have := ((hbits x y).2.2 ⟨hx, hy, hb⟩)
        exact g2 x y this.1 this.2
    · intro g
      refine ⟨fun x y hx hy => ?_, fun x y hx hy => ?_⟩
      · obtain ⟨k1, k2, k3⟩ := (hbits x y).1.1 ⟨hx, hy⟩
        have := g x y k1 k2
        rw [ht, k3] at this
        simpa using this
      · obtain ⟨k1, k2, k3⟩ := (hbits x y).2.1 ⟨hx, hy⟩
        have := g x y k1 k2
        rw [ht, k3] at this
        simpa using this
end Go.Proofs.YtbccachkkflceaaGreatDoor.PlM

/-
  Stores into a node's block; the change that exchanges both players.
-/
namespace Go.Proofs.YtbccachkkflceaaGreatDoor.TurnC
open Go.RowKit Go.Shelf Go.Proofs.YtbccachkkflceaaGreatDoor.Plain Go.Proofs.YtbccachkkflceaaGreatDoor.Tree Go.Proofs.YtbccachkkflceaaGreatDoor.Read
open Go.Proofs.YtbccachkkflceaaGreatDoor.Count (cells4)
set_option linter.unusedVariables false
set_option linter.unusedSimpArgs false

/-- a store of two cells is a store of the row -/
theorem set2 {w : World} {B : Nat} {c0 c1 c2 c3 : Value} {T : TypeId} {fr : Nat × Nat} (h : w.heap[B]? = some (.cells #[c0, c1, c2, c3] T fr)) (x y : Value) : w.setCells B 2 [x, y] = w.setRow B #[c0, c1, x, y] := by
  have e : (w.setCells B 2 [x, y]).heap = (w.setRow B #[c0, c1, x, y]).heap := by
    apply Array.ext_getElem?
    intro k
    simp only [World.setCells, World.setCell, World.setRow, Array.getElem?_modify]
    by_cases hk : B = k
    · subst hk
      simp [h]
    · simp [hk]
  simp only [World.setCells, World.setCell, World.setRow] at e ⊢
  rw [e]
theorem setRow_at' {w : World} {B : Nat} {cs cs' : Array Value} {T : TypeId} (h : w.heap[B]? = some (.cells cs T (0, 0))) : (w.setRow B cs').heap[B]? = some (.cells cs' T (0, 0)) := by
  simp [World.setRow, Array.getElem?_modify, h]
theorem setRow_below' {b : Nat} {w w1 : World} {B : Nat} (h : Below b w w1) (hB : b ≤ B) (cs : Array Value) : Below b w (w1.setRow B cs) :=
  h.trans ⟨rfl, rfl, rfl, by simp [World.setRow], fun k hk => by simp only [World.setRow, Array.getElem?_modify]; rw [if_neg (by omega)]⟩
theorem info_say (c0 c1 c2 c3 : Value) : (Tryz.prog.info? 72).map (·.size) = some (#[c0, c1, c2, c3] : Array Value).size := by kernel_rfl

end Go.Proofs.YtbccachkkflceaaGreatDoor.TurnC

