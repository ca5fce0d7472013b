/-
  Parts of a rectangle behind a bit; a protocol without what is never said. Nothing of the program.
-/
import Derived.Test.YtbccachkkflceaaDoorGTree
import Derived.Laws.Entries
namespace Go.Proofs.YtbccachkkflceaaDoor.TrimT
open Go.RowKit Go.Proofs.YtbccachkkflceaaDoor.Plain Go.Proofs.YtbccachkkflceaaDoor.Tree
set_option linter.unusedVariables false

def meetN (a b : Nat) : Nat := (BitVec.ofNat 64 a &&& BitVec.ofNat 64 b).toNat
def minusN (a b : Nat) : Nat := (BitVec.ofNat 64 a &&& ~~~ BitVec.ofNat 64 b).toNat
theorem ofInt_nat (a : Nat) : BitVec.ofInt 64 (a : Int) = BitVec.ofNat 64 a := by
  apply BitVec.eq_of_toNat_eq
  simp
theorem meet_le (a b : Nat) (h : a < 256) : meetN a b ≤ a := by
  unfold meetN
  rw [BitVec.toNat_and]
  refine Nat.le_trans Nat.and_le_left ?_
  rw [BitVec.toNat_ofNat, Nat.mod_eq_of_lt (by omega)]
  exact Nat.le_refl _
theorem minus_le (a b : Nat) (h : a < 256) : minusN a b ≤ a := by
  unfold minusN
  rw [BitVec.toNat_and]
  refine Nat.le_trans Nat.and_le_left ?_
  rw [BitVec.toNat_ofNat, Nat.mod_eq_of_lt (by omega)]
  exact Nat.le_refl _
theorem wrap_small (n : Nat) (h : n < 256) : IntKind.i64.wrap (n : Int) = (n : Int) := by
  simp only [IntKind.wrap_i64]
  omega
theorem bit_and (a b : Nat) (h : a < 256) : bits .and .i64 (a : Int) (b : Int) = (meetN a b : Int) := by
  show IntKind.i64.wrap ((BitVec.ofInt 64 (a : Int) &&& BitVec.ofInt 64 (b : Int)).toNat : Int) = _
  rw [ofInt_nat, ofInt_nat]
  exact wrap_small _ (Nat.lt_of_le_of_lt (meet_le a b h) h)
theorem bit_minus (a b : Nat) (h : a < 256) : bits .andNot .i64 (a : Int) (b : Int) = (minusN a b : Int) := by
  show IntKind.i64.wrap ((BitVec.ofInt 64 (a : Int) &&& ~~~ BitVec.ofInt 64 (b : Int)).toNat : Int) = _
  rw [ofInt_nat, ofInt_nat]
  exact wrap_small _ (Nat.lt_of_le_of_lt (minus_le a b h) h)
theorem ofInt_wrap (v : BitVec 64) : BitVec.ofInt 64 (IntKind.i64.wrap (v.toNat : Int)) = v := by
  apply BitVec.eq_of_toNat_eq
  have hv := v.isLt
  simp only [IntKind.wrap_i64]
  rw [BitVec.toNat_ofInt]
  have e : (2 : Nat) ^ 64 = 18446744073709551616 := by decide
  rw [e] at hv ⊢
  omega
theorem not_xor (b : Nat) : BitVec.ofInt 64 (-1) ^^^ BitVec.ofNat 64 b = ~~~ BitVec.ofNat 64 b := by
  have e : BitVec.ofInt 64 (-1) = BitVec.allOnes 64 := by decide
  rw [e, BitVec.allOnes_xor]
theorem bit_not_and (a b : Nat) (h : a < 256) : bits .and .i64 (a : Int) (bits .xor .i64 (-1) (b : Int)) = (minusN a b : Int) := by
  show IntKind.i64.wrap ((BitVec.ofInt 64 (a : Int) &&& BitVec.ofInt 64 (IntKind.i64.wrap ((BitVec.ofInt 64 (-1) ^^^ BitVec.ofInt 64 (b : Int)).toNat : Int))).toNat : Int) = _
  rw [ofInt_wrap, ofInt_nat, ofInt_nat, not_xor]
  exact wrap_small _ (Nat.lt_of_le_of_lt (minus_le a b h) h)
theorem both_zero (a b : Nat) (h : a < 256) (h1 : meetN a b = 0) (h2 : minusN a b = 0) : a = 0 := by
  unfold meetN at h1
  unfold minusN at h2
  have e1 : BitVec.ofNat 64 a &&& BitVec.ofNat 64 b = 0#64 := BitVec.eq_of_toNat_eq (by rw [h1]; rfl)
  have e2 : BitVec.ofNat 64 a &&& ~~~ BitVec.ofNat 64 b = 0#64 := BitVec.eq_of_toNat_eq (by rw [h2]; rfl)
  have e3 : BitVec.ofNat 64 a = 0#64 := by
    apply BitVec.eq_of_getLsbD_eq
    intro i hi
    have g1 := congrArg (fun v => v.getLsbD i) e1
    have g2 := congrArg (fun v => v.getLsbD i) e2
    simp only [BitVec.getLsbD_and, BitVec.getLsbD_not, BitVec.getLsbD_zero, hi, decide_true, Bool.true_and] at g1 g2 ⊢
    cases hx : (BitVec.ofNat 64 a).getLsbD i <;> cases hy : (BitVec.ofNat 64 b).getLsbD i <;> simp [hx, hy] at g1 g2 ⊢
  have := congrArg BitVec.toNat e3
  rw [BitVec.toNat_ofNat, Nat.mod_eq_of_lt (by omega)] at this
  simpa using this

/-- what is left of the rows and columns behind the bit 0, and behind the bit 1 -/
def outR (a : Bool) (s R : Nat) : Nat := if a then minusN R s else R
def outC (a : Bool) (s C : Nat) : Nat := if a then C else minusN C s
def inR (a : Bool) (s R : Nat) : Nat := if a then meetN R s else R
def inC (a : Bool) (s C : Nat) : Nat := if a then C else meetN C s
theorem parts_lt (a : Bool) (s : Nat) {R C : Nat} (hR : R < 256) (hC : C < 256) : outR a s R < 256 ∧ outC a s C < 256 ∧ inR a s R < 256 ∧ inC a s C < 256 := by
  have h1 := meet_le R s hR
  have h2 := meet_le C s hC
  have h3 := minus_le R s hR
  have h4 := minus_le C s hC
  cases a <;> simp only [outR, outC, inR, inC, if_true, if_false, Bool.false_eq_true] <;> omega
theorem not_both (a : Bool) (s : Nat) {R C : Nat} (hR : R < 256) (hC : C < 256) (hR1 : 1 ≤ R) (hC1 : 1 ≤ C) (h : inR a s R = 0 ∨ inC a s C = 0) : 1 ≤ outR a s R ∧ 1 ≤ outC a s C := by
  cases a
  · simp only [outR, outC, inR, inC, if_false, Bool.false_eq_true] at h ⊢
    rcases h with h | h
    · omega
    · have := fun h2 => both_zero C s hC h h2
      omega
  · simp only [outR, outC, inR, inC, if_true] at h ⊢
    rcases h with h | h
    · have := fun h2 => both_zero R s hR h h2
      omega
    · omega
/-- without what is never said -/
def trimT : T → Nat → Nat → T
  | .leaf b, _, _ => .leaf b
  | .say a s z o, R, C =>
    if inR a s R = 0 ∨ inC a s C = 0 then trimT z (outR a s R) (outC a s C)
    else if outR a s R = 0 ∨ outC a s C = 0 then trimT o (inR a s R) (inC a s C)
    else .say a (if a then inR a s R else inC a s C) (trimT z (outR a s R) (outC a s C)) (trimT o (inR a s R) (inC a s C))
theorem trim_wf : ∀ (t : T) (R C : Nat), R < 256 → C < 256 → wf t → wf (trimT t R C)
  | .leaf _, _, _, _, _, _ => trivial
  | .say a s z o, R, C, hR, hC, hw => by
    obtain ⟨h1, h2, h3, h4⟩ := parts_lt a s hR hC
    have iz := trim_wf z _ _ h1 h2 hw.2.1
    have io := trim_wf o _ _ h3 h4 hw.2.2
    unfold trimT
    split
    · exact iz
    · split
      · exact io
      · refine ⟨?_, iz, io⟩
        cases a
        · exact h4
        · exact h3
theorem trim_length : ∀ (t : T) (R C : Nat), (text (trimT t R C)).length ≤ (text t).length
  | .leaf _, _, _ => Nat.le_refl _
  | .say a s z o, R, C => by
    have iz := trim_length z (outR a s R) (outC a s C)
    have io := trim_length o (inR a s R) (inC a s C)
    unfold trimT
    split
    · simp only [text, List.length_cons, List.length_append]; omega
    · split
      · simp only [text, List.length_cons, List.length_append]; omega
      · simp only [text, List.length_cons, List.length_append]; omega
end Go.Proofs.YtbccachkkflceaaDoor.TrimT
