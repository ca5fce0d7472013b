/-
  Texts of one seat, joined: GameEndsWalk, GTrimT.
-/
import Derived.Test.YtbccachkkflceaaGreatDoorJn1
import Derived.Test.YtbccachkkflceaaGreatDoorJn25
import Derived.Test.YtbccachkkflceaaGreatDoorJn21
import Derived.Test.YtbccachkkflceaaGreatDoorJn17
import Derived.Laws.Entries
/-
  The walk of the law on GameEnds.
-/
namespace Go.Proofs.YtbccachkkflceaaGreatDoor.fnExactGameEnds
open Go.RowKit Go.Shelf Go.Proofs.YtbccachkkflceaaGreatDoor.Plain Go.Proofs.YtbccachkkflceaaGreatDoor.Tree Go.Proofs.YtbccachkkflceaaGreatDoor.Read Go.Proofs.YtbccachkkflceaaGreatDoor.TreeOf Go.Proofs.YtbccachkkflceaaGreatDoor.Parts
open Go.Proofs.YtbccachkkflceaaGreatDoor.Count (count_ends)
set_option linter.unusedVariables false
set_option linter.unusedSimpArgs false

theorem text_ends : ∀ t : T, (text t).length + 3 = 4 * ends t
  | .leaf _ => rfl
  | .say _ _ z o => by
    have h1 := text_ends z
    have h2 := text_ends o
    simp only [text, ends, List.length_cons, List.length_append]
    omega
set_option maxHeartbeats 1000000 in
theorem impl_yes (s : ByteArray) (t : T) (hw : wf t) (h : s.data.toList = text t) (hs : s.size ≤ 2000) (w : World) :
    Calls Tryz.prog 13 #[.string s] w fun e w' => e = .returned (.int .i64 (ends t : Int)) ∧ Below w.heap.size w w' := by
  have HT := Lib.hid (tree_yes s t hw h hs)
  have hl : (text t).length = s.size := by rw [← h]; simp
  have hC := count_ends t (by omega)
  clear h hl hw
  rcases hC with ⟨V, ev, hv⟩ | ⟨V, ev, hv⟩
  all_goals
    have HC := Lib.hid hv
    rw [ev] at HT
    clear ev hv
    go_enter Tryz.func13, Tryz.ntmps13
    go_wp2_with fail
    refine (HT.out _).mono ?_
    rintro e w1 ⟨rfl, hb1⟩
    go_wp2_with fail
    refine (HC.out _).mono ?_
    rintro e w2 ⟨rfl, hb2⟩
    have HB := Lib.hid (hb1.trans (hb2.mono hb1.size))
    clear hb1 hb2
    go_wp2_with fail
    go_ret
    exact ⟨rfl, HB.out⟩
set_option maxHeartbeats 1000000 in
theorem impl_no (s : ByteArray) (h : ¬ Ok s) (hs : s.size ≤ 1048576) (w : World) :
    Calls Tryz.prog 13 #[.string s] w fun e w' => e = .returned (.int .i64 (-1)) ∧ Below w.heap.size w w' := by
  have HT := Lib.hid (tree_no s h hs)
  clear h
  go_enter Tryz.func13, Tryz.ntmps13
  go_wp2_with fail
  refine (HT.out _).mono ?_
  rintro e w1 ⟨rfl, hb1⟩
  have HB := Lib.hid hb1
  clear hb1
  go_wp2_with fail
  go_ret
  exact ⟨rfl, HB.out⟩
end Go.Proofs.YtbccachkkflceaaGreatDoor.fnExactGameEnds

/-
  Parts of a rectangle behind a bit; a protocol without what is never said. Nothing of the program.
-/
namespace Go.Proofs.YtbccachkkflceaaGreatDoor.TrimT
open Go.RowKit Go.Proofs.YtbccachkkflceaaGreatDoor.Plain Go.Proofs.YtbccachkkflceaaGreatDoor.Tree
set_option linter.unusedVariables false

def meetN (a b : Nat) : Nat := (BitVec.ofNat 64 a &&& BitVec.ofNat 64 b).toNat
def minusN (a b : Nat) : Nat := (BitVec.ofNat 64 a &&& ~~~ BitVec.ofNat 64 b).toNat
theorem ofInt_nat (a : Nat) : BitVec.ofInt 64 (a : Int) = BitVec.ofNat 64 a := by
  apply BitVec.eq_of_toNat_eq
  simp
theorem meet_le (a b : Nat) (h : a < 256) : meetN a b ≤ a := by
  unfold meetN
  rw [BitVec.toNat_and]
  refine Nat.le_trans Nat.and_le_left ?_
  rw [BitVec.toNat_ofNat, Nat.mod_eq_of_lt (by omega)]
  exact Nat.le_refl _
theorem minus_le (a b : Nat) (h : a < 256) : minusN a b ≤ a := by
  unfold minusN
  rw [BitVec.toNat_and]
  refine Nat.le_trans Nat.and_le_left ?_
  rw [BitVec.toNat_ofNat, Nat.mod_eq_of_lt (by omega)]
  exact Nat.le_refl _
theorem wrap_small (n : Nat) (h : n < 256) : IntKind.i64.wrap (n : Int) = (n : Int) := by
  simp only [IntKind.wrap_i64]
  omega
theorem bit_and (a b : Nat) (h : a < 256) : bits .and .i64 (a : Int) (b : Int) = (meetN a b : Int) := by
  show IntKind.i64.wrap ((BitVec.ofInt 64 (a : Int) &&& BitVec.ofInt 64 (b : Int)).toNat : Int) = _
  rw [ofInt_nat, ofInt_nat]
  exact wrap_small _ (Nat.lt_of_le_of_lt (meet_le a b h) h)
theorem bit_minus (a b : Nat) (h : a < 256) : bits .andNot .i64 (a : Int) (b : Int) = (minusN a b : Int) := by
  show IntKind.i64.wrap ((BitVec.ofInt 64 (a : Int) &&& ~~~ BitVec.ofInt 64 (b : Int)).toNat : Int) = _
  rw [ofInt_nat, ofInt_nat]
  exact wrap_small _ (Nat.lt_of_le_of_lt (minus_le a b h) h)
theorem ofInt_wrap (v : BitVec 64) : BitVec.ofInt 64 (IntKind.i64.wrap (v.toNat : Int)) = v := by
  apply BitVec.eq_of_toNat_eq
  have hv := v.isLt
  simp only [IntKind.wrap_i64]
  rw [BitVec.toNat_ofInt]
  have e : (2 : Nat) ^ 64 = 18446744073709551616 := by decide
  rw [e] at hv ⊢
  omega
theorem not_xor (b : Nat) : BitVec.ofInt 64 (-1) ^^^ BitVec.ofNat 64 b = ~~~ BitVec.ofNat 64 b := by
  have e : BitVec.ofInt 64 (-1) = BitVec.allOnes 64 := by decide
  rw [e, BitVec.allOnes_xor]
theorem bit_not_and (a b : Nat) (h : a < 256) : bits .and .i64 (a : Int) (bits .xor .i64 (-1) (b : Int)) = (minusN a b : Int) := by
  show IntKind.i64.wrap ((BitVec.ofInt 64 (a : Int) &&& BitVec.ofInt 64 (IntKind.i64.wrap ((BitVec.ofInt 64 (-1) ^^^ BitVec.ofInt 64 (b : Int)).toNat : Int))).toNat : Int) = _
  rw [ofInt_wrap, ofInt_nat, ofInt_nat, not_xor]
  exact wrap_small _ (Nat.lt_of_le_of_lt (minus_le a b h) h)
theorem both_zero (a b : Nat) (h : a < 256) (h1 : meetN a b = 0) (h2 : minusN a b = 0) : a = 0 := by
  unfold meetN at h1
  unfold minusN at h2
  have e1 : BitVec.ofNat 64 a &&& BitVec.ofNat 64 b = 0#64 := BitVec.eq_of_toNat_eq (by rw [h1]; rfl)
  have e2 : BitVec.ofNat 64 a &&& ~~~ BitVec.ofNat 64 b = 0#64 := BitVec.eq_of_toNat_eq (by rw [h2]; rfl)
  have e3 : BitVec.ofNat 64 a = 0#64 := by
    apply BitVec.eq_of_getLsbD_eq
    intro i hi
    have g1 := congrArg (fun v => v.getLsbD i) e1
    have g2 := congrArg (fun v => v.getLsbD i) e2
    simp only [BitVec.getLsbD_and, BitVec.getLsbD_not, BitVec.getLsbD_zero, hi, decide_true, Bool.true_and] at g1 g2 ⊢
    cases hx : (BitVec.ofNat 64 a).getLsbD i <;> cases hy : (BitVec.ofNat 64 b).getLsbD i <;> simp [hx, hy] at g1 g2 ⊢
  have := congrArg BitVec.toNat e3
  rw [BitVec.toNat_ofNat, Nat.mod_eq_of_lt (by omega)] at this
  simpa using this

/-- what is left of the rows and columns behind the bit 0, and behind the bit 1 -/
def outR (a : Bool) (s R : Nat) : Nat := if a then minusN R s else R
def outC (a : Bool) (s C : Nat) : Nat := if a then C else minusN C s
def inR (a : Bool) (s R : Nat) : Nat := if a then meetN R s else R
def inC (a : Bool) (s C : Nat) : Nat := if a then C else meetN C s
theorem parts_lt (a : Bool) (s : Nat) {R C : Nat} (hR : R < 256) (hC : C < 256) : outR a s R < 256 ∧ outC a s C < 256 ∧ inR a s R < 256 ∧ inC a s C < 256 := by
  have h1 := meet_le R s hR
  have h2 := meet_le C s hC
  have h3 := minus_le R s hR
  have h4 := minus_le C s hC
  cases a <;> simp only [outR, outC, inR, inC, if_true, if_false, Bool.false_eq_true] <;> omega
theorem not_both (a : Bool) (s : Nat) {R C : Nat} (hR : R < 256) (hC : C < 256) (hR1 : 1 ≤ R) (hC1 : 1 ≤ C) (h : inR a s R = 0 ∨ inC a s C = 0) : 1 ≤ outR a s R ∧ 1 ≤ outC a s C := by
  cases a
  · simp only [outR, outC, inR, inC, if_false, Bool.false_eq_true] at h ⊢
    rcases h with h | h
    · omega
    · have := fun h2 => both_zero C s hC h h2
      omega
  · simp only [outR, outC, inR, inC, if_true] at h ⊢
    rcases h with h | h
    · have := fun h2 => both_zero R s hR h h2
      omega
    · omega
/-- without what is never said -/
def trimT : T → Nat → Nat → T
  | .leaf b, _, _ => .leaf b
  | .say a s z o, R, C =>
    if inR a s R = 0 ∨ inC a s C = 0 then trimT z (outR a s R) (outC a s C)
    else if outR a s R = 0 ∨ outC a s C = 0 then trimT o (inR a s R) (inC a s C)
    else .say a (if a then inR a s R else inC a s C) (trimT z (outR a s R) (outC a s C)) (trimT o (inR a s R) (inC a s C))
theorem trim_wf : ∀ (t : T) (R C : Nat), R < 256 → C < 256 → wf t → wf (trimT t R C)
  | .leaf _, _, _, _, _, _ => trivial
  | .say a s z o, R, C, hR, hC, hw => by
    obtain ⟨h1, h2, h3, h4⟩ := parts_lt a s hR hC
    have iz := trim_wf z _ _ h1 h2 hw.2.1
    have io := trim_wf o _ _ h3 h4 hw.2.2
    unfold trimT
    split
    · exact iz
    · split
      · exact io
      · refine ⟨?_, iz, io⟩
        cases a
        · exact h4
        · exact h3
theorem trim_length : ∀ (t : T) (R C : Nat), (text (trimT t R C)).length ≤ (text t).length
  | .leaf _, _, _ => Nat.le_refl _
  | .say a s z o, R, C => by
    have iz := trim_length z (outR a s R) (outC a s C)
    have io := trim_length o (inR a s R) (inC a s C)
    unfold trimT
    split
    · simp only [text, List.length_cons, List.length_append]; omega
    · split
      · simp only [text, List.length_cons, List.length_append]; omega
      · simp only [text, List.length_cons, List.length_append]; omega
end Go.Proofs.YtbccachkkflceaaGreatDoor.TrimT

