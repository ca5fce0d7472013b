/-
  Texts of one seat, joined: TrimT, CutT, Free, FreeL.
-/
import Derived.Test.YtbbgibbpeibhiaaGreatDoorJn2
import Derived.Laws.Entries
import Derived.Orders
import Derived.Still
import Derived.WalkKit
import Derived.Laws.Rows
import Derived.Laws.Tables
import Derived.OrdersIn
import Derived.StillTail
/-
  Parts of a rectangle behind a bit; a protocol without what is never said. Nothing of the program.
-/
namespace Go.Proofs.YtbbgibbpeibhiaaGreatDoor.TrimT
open Go.RowKit Go.Proofs.YtbbgibbpeibhiaaGreatDoor.Plain Go.Proofs.YtbbgibbpeibhiaaGreatDoor.Tree
set_option linter.unusedVariables false

def meetN (a b : Nat) : Nat := (BitVec.ofNat 64 a &&& BitVec.ofNat 64 b).toNat
def minusN (a b : Nat) : Nat := (BitVec.ofNat 64 a &&& ~~~ BitVec.ofNat 64 b).toNat
theorem ofInt_nat (a : Nat) : BitVec.ofInt 64 (a : Int) = BitVec.ofNat 64 a := by
  apply BitVec.eq_of_toNat_eq
  simp
theorem meet_le (a b : Nat) (h : a < 256) : meetN a b ≤ a := by
  unfold meetN
  rw [BitVec.toNat_and]
  refine Nat.le_trans Nat.and_le_left ?_
  rw [BitVec.toNat_ofNat, Nat.mod_eq_of_lt (by omega)]
  exact Nat.le_refl _
theorem minus_le (a b : Nat) (h : a < 256) : minusN a b ≤ a := by
  unfold minusN
  rw [BitVec.toNat_and]
  refine Nat.le_trans Nat.and_le_left ?_
  rw [BitVec.toNat_ofNat, Nat.mod_eq_of_lt (by omega)]
  exact Nat.le_refl _
theorem wrap_small (n : Nat) (h : n < 256) : IntKind.i64.wrap (n : Int) = (n : Int) := by
  simp only [IntKind.wrap_i64]
  omega
theorem bit_and (a b : Nat) (h : a < 256) : bits .and .i64 (a : Int) (b : Int) = (meetN a b : Int) := by
  show IntKind.i64.wrap ((BitVec.ofInt 64 (a : Int) &&& BitVec.ofInt 64 (b : Int)).toNat : Int) = _
  rw [ofInt_nat, ofInt_nat]
  exact wrap_small _ (Nat.lt_of_le_of_lt (meet_le a b h) h)
theorem bit_minus (a b : Nat) (h : a < 256) : bits .andNot .i64 (a : Int) (b : Int) = (minusN a b : Int) := by
  show IntKind.i64.wrap ((BitVec.ofInt 64 (a : Int) &&& ~~~ BitVec.ofInt 64 (b : Int)).toNat : Int) = _
  rw [ofInt_nat, ofInt_nat]
  exact wrap_small _ (Nat.lt_of_le_of_lt (minus_le a b h) h)
theorem ofInt_wrap (v : BitVec 64) : BitVec.ofInt 64 (IntKind.i64.wrap (v.toNat : Int)) = v := by
  apply BitVec.eq_of_toNat_eq
  have hv := v.isLt
  simp only [IntKind.wrap_i64]
  rw [BitVec.toNat_ofInt]
  have e : (2 : Nat) ^ 64 = 18446744073709551616 := by decide
  rw [e] at hv ⊢
  omega
theorem not_xor (b : Nat) : BitVec.ofInt 64 (-1) ^^^ BitVec.ofNat 64 b = ~~~ BitVec.ofNat 64 b := by
  have e : BitVec.ofInt 64 (-1) = BitVec.allOnes 64 := by decide
  rw [e, BitVec.allOnes_xor]
theorem bit_not_and (a b : Nat) (h : a < 256) : bits .and .i64 (a : Int) (bits .xor .i64 (-1) (b : Int)) = (minusN a b : Int) := by
  show IntKind.i64.wrap ((BitVec.ofInt 64 (a : Int) &&& BitVec.ofInt 64 (IntKind.i64.wrap ((BitVec.ofInt 64 (-1) ^^^ BitVec.ofInt 64 (b : Int)).toNat : Int))).toNat : Int) = _
  rw [ofInt_wrap, ofInt_nat, ofInt_nat, not_xor]
  exact wrap_small _ (Nat.lt_of_le_of_lt (minus_le a b h) h)
theorem both_zero (a b : Nat) (h : a < 256) (h1 : meetN a b = 0) (h2 : minusN a b = 0) : a = 0 := by
  unfold meetN at h1
  unfold minusN at h2
  have e1 : BitVec.ofNat 64 a &&& BitVec.ofNat 64 b = 0#64 := BitVec.eq_of_toNat_eq (by rw [h1]; rfl)
  have e2 : BitVec.ofNat 64 a &&& ~~~ BitVec.ofNat 64 b = 0#64 := BitVec.eq_of_toNat_eq (by rw [h2]; rfl)
  have e3 : BitVec.ofNat 64 a = 0#64 := by
    apply BitVec.eq_of_getLsbD_eq
    intro i hi
    have g1 := congrArg (fun v => v.getLsbD i) e1
    have g2 := congrArg (fun v => v.getLsbD i) e2
    simp only [BitVec.getLsbD_and, BitVec.getLsbD_not, BitVec.getLsbD_zero, hi, decide_true, Bool.true_and] at g1 g2 ⊢
    cases hx : (BitVec.ofNat 64 a).getLsbD i <;> cases hy : (BitVec.ofNat 64 b).getLsbD i <;> simp [hx, hy] at g1 g2 ⊢
  have := congrArg BitVec.toNat e3
  rw [BitVec.toNat_ofNat, Nat.mod_eq_of_lt (by omega)] at this
  simpa using this

/-- what is left of the rows and columns behind the bit 0, and behind the bit 1 -/
def outR (a : Bool) (s R : Nat) : Nat := if a then minusN R s else R
def outC (a : Bool) (s C : Nat) : Nat := if a then C else minusN C s
def inR (a : Bool) (s R : Nat) : Nat := if a then meetN R s else R
def inC (a : Bool) (s C : Nat) : Nat := if a then C else meetN C s
theorem parts_lt (a : Bool) (s : Nat) {R C : Nat} (hR : R < 256) (hC : C < 256) : outR a s R < 256 ∧ outC a s C < 256 ∧ inR a s R < 256 ∧ inC a s C < 256 := by
  have h1 := meet_le R s hR
  have h2 := meet_le C s hC
  have h3 := minus_le R s hR
  have h4 := minus_le C s hC
  cases a <;> simp only [outR, outC, inR, inC, if_true, if_false, Bool.false_eq_true] <;> omega
theorem not_both (a : Bool) (s : Nat) {R C : Nat} (hR : R < 256) (hC : C < 256) (hR1 : 1 ≤ R) (hC1 : 1 ≤ C) (h : inR a s R = 0 ∨ inC a s C = 0) : 1 ≤ outR a s R ∧ 1 ≤ outC a s C := by
  cases a
  · simp only [outR, outC, inR, inC, if_false, Bool.false_eq_true] at h ⊢
    rcases h with h | h
    · omega
    · have := fun h2 => both_zero C s hC h h2
      omega
  · simp only [outR, outC, inR, inC, if_true] at h ⊢
    rcases h with h | h
    · have := fun h2 => both_zero R s hR h h2
      omega
    · omega
/-- without what is never said -/
def trimT : T → Nat → Nat → T
  | .leaf b, _, _ => .leaf b
  | .say a s z o, R, C =>
    if inR a s R = 0 ∨ inC a s C = 0 then trimT z (outR a s R) (outC a s C)
    else if outR a s R = 0 ∨ outC a s C = 0 then trimT o (inR a s R) (inC a s C)
    else .say a (if a then inR a s R else inC a s C) (trimT z (outR a s R) (outC a s C)) (trimT o (inR a s R) (inC a s C))
theorem trim_wf : ∀ (t : T) (R C : Nat), R < 256 → C < 256 → wf t → wf (trimT t R C)
  | .leaf _, _, _, _, _, _ => trivial
  | .say a s z o, R, C, hR, hC, hw => by
    obtain ⟨h1, h2, h3, h4⟩ := parts_lt a s hR hC
    have iz := trim_wf z _ _ h1 h2 hw.2.1
    have io := trim_wf o _ _ h3 h4 hw.2.2
    unfold trimT
    split
    · exact iz
    · split
      · exact io
      · refine ⟨?_, iz, io⟩
        cases a
        · exact h4
        · exact h3
theorem trim_length : ∀ (t : T) (R C : Nat), (text (trimT t R C)).length ≤ (text t).length
  | .leaf _, _, _ => Nat.le_refl _
  | .say a s z o, R, C => by
    have iz := trim_length z (outR a s R) (outC a s C)
    have io := trim_length o (inR a s R) (inC a s C)
    unfold trimT
    split
    · simp only [text, List.length_cons, List.length_append]; omega
    · split
      · simp only [text, List.length_cons, List.length_append]; omega
      · simp only [text, List.length_cons, List.length_append]; omega
end Go.Proofs.YtbbgibbpeibhiaaGreatDoor.TrimT

/-
  Where a protocol is cut, what is left of it, and what comes of balancing it. Nothing of the program.
-/
namespace Go.Proofs.YtbbgibbpeibhiaaGreatDoor.CutT
open Go.RowKit Go.Proofs.YtbbgibbpeibhiaaGreatDoor.Plain Go.Proofs.YtbbgibbpeibhiaaGreatDoor.Tree Go.Proofs.YtbbgibbpeibhiaaGreatDoor.TrimT
set_option linter.unusedVariables false

theorem ends_pos : ∀ t : T, 1 ≤ ends t
  | .leaf _ => Nat.le_refl _
  | .say _ _ z o => by
    have h1 := ends_pos z
    simp only [ends]
    omega
theorem text_ends : ∀ t : T, (text t).length + 3 = 4 * ends t
  | .leaf _ => rfl
  | .say _ _ z o => by
    have h1 := text_ends z
    have h2 := text_ends o
    simp only [text, ends, List.length_cons, List.length_append]
    omega

/-! sets as numbers -/
theorem of_meet (a b : Nat) : BitVec.ofNat 64 (meetN a b) = BitVec.ofNat 64 a &&& BitVec.ofNat 64 b := by
  unfold meetN
  rw [BitVec.ofNat_toNat, BitVec.setWidth_eq]
theorem of_minus (a b : Nat) : BitVec.ofNat 64 (minusN a b) = BitVec.ofNat 64 a &&& ~~~ BitVec.ofNat 64 b := by
  unfold minusN
  rw [BitVec.ofNat_toNat, BitVec.setWidth_eq]
theorem nat_eq {a b : Nat} (ha : a < 256) (hb : b < 256) (h : BitVec.ofNat 64 a = BitVec.ofNat 64 b) : a = b := by
  have := congrArg BitVec.toNat h
  rw [BitVec.toNat_ofNat, BitVec.toNat_ofNat, Nat.mod_eq_of_lt (by omega), Nat.mod_eq_of_lt (by omega)] at this
  exact this
/-- the bit at a place -/
def at_ (a i : Nat) : Bool := (BitVec.ofNat 64 a).getLsbD i
theorem at_meet (a b i : Nat) : at_ (meetN a b) i = (at_ a i && at_ b i) := by
  unfold at_
  rw [of_meet, BitVec.getLsbD_and]
theorem at_minus (a b i : Nat) (hi : i < 64) : at_ (minusN a b) i = (at_ a i && !at_ b i) := by
  unfold at_
  rw [of_minus, BitVec.getLsbD_and, BitVec.getLsbD_not]
  simp [hi]
theorem at_eq {a b : Nat} (ha : a < 256) (hb : b < 256) (h : ∀ i, i < 64 → at_ a i = at_ b i) : a = b :=
  nat_eq ha hb (BitVec.eq_of_getLsbD_eq fun i hi => h i hi)
/-- a set within another one -/
def Sub (a b : Nat) : Prop := ∀ i, i < 64 → at_ a i = true → at_ b i = true
theorem Sub.refl (a : Nat) : Sub a a := fun _ _ h => h
theorem Sub.trans {a b c : Nat} (h : Sub a b) (k : Sub b c) : Sub a c := fun i hi x => k i hi (h i hi x)
theorem Sub.meet_left {a b : Nat} (c : Nat) (h : Sub a b) : Sub (meetN a c) b := fun i hi x => by
  rw [at_meet, Bool.and_eq_true] at x
  exact h i hi x.1
theorem Sub.meet_right (a c : Nat) : Sub (meetN a c) c := fun i hi x => by
  rw [at_meet, Bool.and_eq_true] at x
  exact x.2
theorem Sub.minus {a b : Nat} (c : Nat) (h : Sub a b) : Sub (minusN a c) b := fun i hi x => by
  rw [at_minus _ _ _ hi, Bool.and_eq_true] at x
  exact h i hi x.1
theorem meet_self {a b : Nat} (ha : a < 256) (h : Sub a b) : meetN a b = a := by
  refine at_eq (Nat.lt_of_le_of_lt (meet_le a b ha) ha) ha fun i hi => ?_
  rw [at_meet]
  have := h i hi
  cases h1 : at_ a i
  · rfl
  · rw [this h1]; rfl
theorem minus_zero {a b : Nat} (ha : a < 256) (h : Sub a b) : minusN a b = 0 := by
  refine at_eq (Nat.lt_of_le_of_lt (minus_le a b ha) ha) (by decide) fun i hi => ?_
  rw [at_minus _ _ _ hi]
  have := h i hi
  have z : at_ 0 i = false := by unfold at_; simp
  rw [z]
  cases h1 : at_ a i
  · rfl
  · rw [this h1]; rfl
theorem meet_meet (a b : Nat) (ha : a < 256) : meetN a (meetN a b) = meetN a b := by
  have h1 := meet_le a b ha
  refine at_eq (Nat.lt_of_le_of_lt (meet_le _ _ ha) ha) (by omega) fun i _ => ?_
  rw [at_meet, at_meet]
  cases at_ a i <;> rfl
theorem minus_meet (a b : Nat) (ha : a < 256) : minusN a (meetN a b) = minusN a b := by
  refine at_eq (Nat.lt_of_le_of_lt (minus_le _ _ ha) ha) (Nat.lt_of_le_of_lt (minus_le _ _ ha) ha) fun i hi => ?_
  rw [at_minus _ _ _ hi, at_minus _ _ _ hi, at_meet]
  cases at_ a i <;> rfl

/-! protocols that say nothing in vain -/
def Tight : T → Nat → Nat → Prop
  | .leaf _, _, _ => True
  | .say a s z o, R, C => (1 ≤ inR a s R ∧ 1 ≤ inC a s C ∧ 1 ≤ outR a s R ∧ 1 ≤ outC a s C ∧ (if a then inR a s R else inC a s C) = s) ∧
      Tight z (outR a s R) (outC a s C) ∧ Tight o (inR a s R) (inC a s C)
theorem tight_trim : ∀ (t : T) (R C : Nat), Tight t R C → trimT t R C = t
  | .leaf _, _, _, _ => rfl
  | .say a s z o, R, C, h => by
    obtain ⟨⟨h1, h2, h3, h4, h5⟩, hz, ho⟩ := h
    have iz := tight_trim z _ _ hz
    have io := tight_trim o _ _ ho
    unfold trimT
    rw [if_neg (by omega), if_neg (by omega), iz, io, h5]
theorem same_parts (a : Bool) (s R C : Nat) (hR : R < 256) (hC : C < 256) :
    inR a (if a then inR a s R else inC a s C) R = inR a s R ∧ inC a (if a then inR a s R else inC a s C) C = inC a s C ∧
    outR a (if a then inR a s R else inC a s C) R = outR a s R ∧ outC a (if a then inR a s R else inC a s C) C = outC a s C := by
  cases a
  · simp only [inR, inC, outR, outC, if_false, Bool.false_eq_true]
    exact ⟨trivial, meet_meet C s hC, trivial, minus_meet C s hC⟩
  · simp only [inR, inC, outR, outC, if_true]
    exact ⟨meet_meet R s hR, trivial, minus_meet R s hR, trivial⟩
theorem trim_tight : ∀ (t : T) (R C : Nat), R < 256 → C < 256 → 1 ≤ R → 1 ≤ C → Tight (trimT t R C) R C
  | .leaf _, _, _, _, _, _, _ => trivial
  | .say a s z o, R, C, hR, hC, h1, h2 => by
    obtain ⟨p1, p2, p3, p4⟩ := parts_lt a s hR hC
    have hnb := not_both a s hR hC h1 h2
    unfold trimT
    by_cases hi : inR a s R = 0 ∨ inC a s C = 0
    · rw [if_pos hi]
      obtain ⟨q1, q2⟩ := hnb hi
      -- nothing of this rectangle is left out: the other side is empty
      have he : outR a s R = R ∧ outC a s C = C := by
        cases a
        · simp only [inR, inC, outR, outC, if_false, Bool.false_eq_true] at hi q1 q2 ⊢
          refine ⟨trivial, ?_⟩
          rcases hi with hi | hi
          · omega
          · refine at_eq (Nat.lt_of_le_of_lt (minus_le _ _ hC) hC) hC fun i hx => ?_
            have z := congrArg (fun n => at_ n i) hi
            have z0 : at_ 0 i = false := by unfold at_; simp
            simp only [at_meet, z0] at z
            rw [at_minus _ _ _ hx]
            cases h : at_ C i <;> cases k : at_ s i <;> simp [h, k] at z ⊢
        · simp only [inR, inC, outR, outC, if_true] at hi q1 q2 ⊢
          refine ⟨?_, trivial⟩
          rcases hi with hi | hi
          · refine at_eq (Nat.lt_of_le_of_lt (minus_le _ _ hR) hR) hR fun i hx => ?_
            have z := congrArg (fun n => at_ n i) hi
            have z0 : at_ 0 i = false := by unfold at_; simp
            simp only [at_meet, z0] at z
            rw [at_minus _ _ _ hx]
            cases h : at_ R i <;> cases k : at_ s i <;> simp [h, k] at z ⊢
          · omega
      rw [he.1, he.2]
      exact trim_tight z R C hR hC h1 h2
    rw [if_neg hi]
    by_cases ho : outR a s R = 0 ∨ outC a s C = 0
    · rw [if_pos ho]
      have he : inR a s R = R ∧ inC a s C = C := by
        cases a
        · simp only [inR, inC, outR, outC, if_false, Bool.false_eq_true] at ho ⊢
          refine ⟨trivial, ?_⟩
          rcases ho with ho | ho
          · omega
          · refine at_eq (Nat.lt_of_le_of_lt (meet_le _ _ hC) hC) hC fun i hx => ?_
            have z := congrArg (fun n => at_ n i) ho
            have z0 : at_ 0 i = false := by unfold at_; simp
            simp only [at_minus _ _ _ hx, z0] at z
            rw [at_meet]
            cases h : at_ C i <;> cases k : at_ s i <;> simp [h, k] at z ⊢
        · simp only [inR, inC, outR, outC, if_true] at ho ⊢
          refine ⟨?_, trivial⟩
          rcases ho with ho | ho
          · refine at_eq (Nat.lt_of_le_of_lt (meet_le _ _ hR) hR) hR fun i hx => ?_
            have z := congrArg (fun n => at_ n i) ho
            have z0 : at_ 0 i = false := by unfold at_; simp
            simp only [at_minus _ _ _ hx, z0] at z
            rw [at_meet]
            cases h : at_ R i <;> cases k : at_ s i <;> simp [h, k] at z ⊢
          · omega
      rw [he.1, he.2]
      exact trim_tight o R C hR hC h1 h2
    rw [if_neg ho]
    obtain ⟨e1, e2, e3, e4⟩ := same_parts a s R C hR hC
    refine ⟨⟨?_, ?_, ?_, ?_, ?_⟩, ?_, ?_⟩
    · rw [e1]; omega
    · rw [e2]; omega
    · rw [e3]; omega
    · rw [e4]; omega
    · rw [e1, e2]
    · rw [e3, e4]
      exact trim_tight z _ _ p1 p2 (by omega) (by omega)
    · rw [e1, e2]
      exact trim_tight o _ _ p3 p4 (by omega) (by omega)

/-! the cut -/
structure Cut where
  part : T
  rows : Nat
  cols : Nat
  rest : T
def cutT (n : Nat) : T → Nat → Nat → Cut
  | .leaf b, R, C => ⟨.leaf b, R, C, .leaf false⟩
  | .say a s z o, R, C =>
    if 3 * (ends z + ends o) ≤ 2 * n then ⟨.say a s z o, R, C, .leaf false⟩
    else if ends z < ends o then
      ⟨(cutT n o (inR a s R) (inC a s C)).part, (cutT n o (inR a s R) (inC a s C)).rows, (cutT n o (inR a s R) (inC a s C)).cols, .say a s z (cutT n o (inR a s R) (inC a s C)).rest⟩
    else
      ⟨(cutT n z (outR a s R) (outC a s C)).part, (cutT n z (outR a s R) (outC a s C)).rows, (cutT n z (outR a s R) (outC a s C)).cols, .say a s (cutT n z (outR a s R) (outC a s C)).rest o⟩
theorem cut_ends (n : Nat) : ∀ (t : T) (R C : Nat), ends (cutT n t R C).part + ends (cutT n t R C).rest = ends t + 1
  | .leaf _, _, _ => rfl
  | .say a s z o, R, C => by
    have iz := cut_ends n z (outR a s R) (outC a s C)
    have io := cut_ends n o (inR a s R) (inC a s C)
    unfold cutT
    split
    · rfl
    · split
      · simp only [ends]; omega
      · simp only [ends]; omega
theorem cut_wf (n : Nat) : ∀ (t : T) (R C : Nat), wf t → wf (cutT n t R C).part ∧ wf (cutT n t R C).rest
  | .leaf _, _, _, _ => ⟨trivial, trivial⟩
  | .say a s z o, R, C, h => by
    have iz := cut_wf n z (outR a s R) (outC a s C) h.2.1
    have io := cut_wf n o (inR a s R) (inC a s C) h.2.2
    unfold cutT
    split
    · exact ⟨h, trivial⟩
    · split
      · exact ⟨io.1, h.1, h.2.1, io.2⟩
      · exact ⟨iz.1, h.1, iz.2, h.2.2⟩
/-- the part has at most two thirds of the ends, and more than one third -/
theorem cut_most (n : Nat) (hn : 2 ≤ n) : ∀ (t : T) (R C : Nat), 3 * ends (cutT n t R C).part ≤ 2 * n
  | .leaf _, _, _ => by show 3 * 1 ≤ _; omega
  | .say a s z o, R, C => by
    have iz := cut_most n hn z (outR a s R) (outC a s C)
    have io := cut_most n hn o (inR a s R) (inC a s C)
    unfold cutT
    split
    · assumption
    · split
      · exact io
      · exact iz
theorem cut_least (n : Nat) : ∀ (t : T) (R C : Nat), n < 3 * ends t → n < 3 * ends (cutT n t R C).part
  | .leaf _, _, _, h => h
  | .say a s z o, R, C, h => by
    have iz := cut_least n z (outR a s R) (outC a s C)
    have io := cut_least n o (inR a s R) (inC a s C)
    simp only [ends] at h
    unfold cutT
    split
    · exact h
    · split
      · exact io (by omega)
      · exact iz (by omega)
theorem cut_rect (n : Nat) : ∀ (t : T) (R C : Nat), R < 256 → C < 256 → 1 ≤ R → 1 ≤ C → Tight t R C →
    (cutT n t R C).rows < 256 ∧ (cutT n t R C).cols < 256 ∧ 1 ≤ (cutT n t R C).rows ∧ 1 ≤ (cutT n t R C).cols ∧ Sub (cutT n t R C).rows R ∧ Sub (cutT n t R C).cols C ∧
    Tight (cutT n t R C).part (cutT n t R C).rows (cutT n t R C).cols ∧ Tight (cutT n t R C).rest R C
  | .leaf _, R, C, hR, hC, h1, h2, _ => ⟨hR, hC, h1, h2, Sub.refl _, Sub.refl _, trivial, trivial⟩
  | .say a s z o, R, C, hR, hC, h1, h2, ht => by
    obtain ⟨p1, p2, p3, p4⟩ := parts_lt a s hR hC
    have hs := ht.1
    have iz := cut_rect n z (outR a s R) (outC a s C) p1 p2 hs.2.2.1 hs.2.2.2.1 ht.2.1
    have io := cut_rect n o (inR a s R) (inC a s C) p3 p4 hs.1 hs.2.1 ht.2.2
    have k1 : Sub (inR a s R) R := by cases a; exact Sub.refl _; exact Sub.meet_left _ (Sub.refl _)
    have k2 : Sub (inC a s C) C := by cases a; exact Sub.meet_left _ (Sub.refl _); exact Sub.refl _
    have k3 : Sub (outR a s R) R := by cases a; exact Sub.refl _; exact Sub.minus _ (Sub.refl _)
    have k4 : Sub (outC a s C) C := by cases a; exact Sub.minus _ (Sub.refl _); exact Sub.refl _
    unfold cutT
    split
    · exact ⟨hR, hC, h1, h2, Sub.refl _, Sub.refl _, ht, trivial⟩
    · split
      · obtain ⟨g1, g2, g3, g4, g5, g6, g7, g8⟩ := io
        exact ⟨g1, g2, g3, g4, g5.trans k1, g6.trans k2, g7, hs, ht.2.1, g8⟩
      · obtain ⟨g1, g2, g3, g4, g5, g6, g7, g8⟩ := iz
        exact ⟨g1, g2, g3, g4, g5.trans k3, g6.trans k4, g7, hs, g8, ht.2.2⟩

/-! balancing -/
/-- as the program does it -/
def balI : Nat → T → Nat → Nat → T
  | 0, t, _, _ => t
  | k + 1, t, R, C => if ends t ≤ 2 then t else
      .say true (cutT (ends t) t R C).rows (balI k (cutT (ends t) t R C).rest R C)
        (.say false (cutT (ends t) t R C).cols (balI k (cutT (ends t) t R C).rest R C) (balI k (cutT (ends t) t R C).part (cutT (ends t) t R C).rows (cutT (ends t) t R C).cols))
/-- as the reference does it -/
def balS : Nat → T → Nat → Nat → T
  | 0, t, _, _ => t
  | k + 1, t, R, C => if ends t ≤ 2 then t else
      if (cutT (ends t) t R C).cols = C then
        .say true (cutT (ends t) t R C).rows (balS k (cutT (ends t) t R C).rest R C) (balS k (cutT (ends t) t R C).part (cutT (ends t) t R C).rows (cutT (ends t) t R C).cols)
      else if (cutT (ends t) t R C).rows = R then
        .say false (cutT (ends t) t R C).cols (balS k (cutT (ends t) t R C).rest R C) (balS k (cutT (ends t) t R C).part (cutT (ends t) t R C).rows (cutT (ends t) t R C).cols)
      else
        .say true (cutT (ends t) t R C).rows (balS k (cutT (ends t) t R C).rest R C)
          (.say false (cutT (ends t) t R C).cols (balS k (cutT (ends t) t R C).rest R C) (balS k (cutT (ends t) t R C).part (cutT (ends t) t R C).rows (cutT (ends t) t R C).cols))

theorem in_pos {R c : Nat} (h : ¬ meetN R c = 0) : 1 ≤ meetN R c := by omega
/-- two bits with the same two protocols behind them, trimmed -/
theorem same_say (a : Bool) (s : Nat) (X Y X' Y' : T) (R C : Nat) (hR : R < 256) (hC : C < 256) (h1 : 1 ≤ R) (h2 : 1 ≤ C)
    (hX : 1 ≤ outR a s R → 1 ≤ outC a s C → trimT X (outR a s R) (outC a s C) = trimT X' (outR a s R) (outC a s C))
    (hY : 1 ≤ inR a s R → 1 ≤ inC a s C → trimT Y (inR a s R) (inC a s C) = trimT Y' (inR a s R) (inC a s C)) :
    trimT (.say a s X Y) R C = trimT (.say a s X' Y') R C := by
  have hnb := not_both a s hR hC h1 h2
  simp only [trimT]
  by_cases hi : inR a s R = 0 ∨ inC a s C = 0
  · obtain ⟨q1, q2⟩ := hnb hi
    rw [if_pos hi, if_pos hi, hX q1 q2]
  rw [if_neg hi, if_neg hi]
  by_cases ho : outR a s R = 0 ∨ outC a s C = 0
  · rw [if_pos ho, if_pos ho, hY (by omega) (by omega)]
  · rw [if_neg ho, if_neg ho, hX (by omega) (by omega), hY (by omega) (by omega)]
/-- a bit that is always 1 -/
theorem all_in (a : Bool) (s : Nat) (X Y : T) (R C : Nat) (hR : R < 256) (hC : C < 256) (h1 : 1 ≤ R) (h2 : 1 ≤ C) (hs : if a then Sub R s else Sub C s) :
    trimT (.say a s X Y) R C = trimT Y R C := by
  simp only [trimT]
  cases a
  · replace hs : Sub C s := hs
    simp only [inR, inC, outR, outC, if_false, Bool.false_eq_true]
    rw [meet_self hC hs, minus_zero hC hs, if_neg (by omega), if_pos (.inr rfl)]
  · replace hs : Sub R s := hs
    simp only [inR, inC, outR, outC, if_true]
    rw [meet_self hR hs, minus_zero hR hs, if_neg (by omega), if_pos (.inl rfl)]
theorem bal_same : ∀ (k : Nat) (t : T) (R C R' C' : Nat), R < 256 → C < 256 → 1 ≤ R → 1 ≤ C → Tight t R C → Sub R' R → Sub C' C → R' < 256 → C' < 256 → 1 ≤ R' → 1 ≤ C' →
    trimT (balI k t R C) R' C' = trimT (balS k t R C) R' C'
  | 0, _, _, _, _, _, _, _, _, _, _, _, _, _, _, _, _ => rfl
  | k + 1, t, R, C, R', C', hR, hC, h1, h2, ht, s1, s2, hR', hC', h1', h2' => by
    obtain ⟨g1, g2, g3, g4, g5, g6, g7, g8⟩ := cut_rect (ends t) t R C hR hC h1 h2 ht
    unfold balI balS
    by_cases he : ends t ≤ 2
    · rw [if_pos he, if_pos he]
    rw [if_neg he, if_neg he]
    generalize cutT (ends t) t R C = c at *
    have hX : ∀ R2 C2, Sub R2 R → Sub C2 C → R2 < 256 → C2 < 256 → 1 ≤ R2 → 1 ≤ C2 → trimT (balI k c.rest R C) R2 C2 = trimT (balS k c.rest R C) R2 C2 :=
      fun R2 C2 a b x y z u => bal_same k c.rest R C R2 C2 hR hC h1 h2 g8 a b x y z u
    have hY : ∀ R2 C2, Sub R2 c.rows → Sub C2 c.cols → R2 < 256 → C2 < 256 → 1 ≤ R2 → 1 ≤ C2 → trimT (balI k c.part c.rows c.cols) R2 C2 = trimT (balS k c.part c.rows c.cols) R2 C2 :=
      fun R2 C2 a b x y z u => bal_same k c.part c.rows c.cols R2 C2 g1 g2 g3 g4 g7 a b x y z u
    have lt1 := fun (a : Bool) (s : Nat) => parts_lt a s hR' hC'
    -- the inner bit in a rectangle within both
    have inner : ∀ R2 C2, Sub R2 c.rows → Sub C2 C → R2 < 256 → C2 < 256 → 1 ≤ R2 → 1 ≤ C2 →
        trimT (.say false c.cols (balI k c.rest R C) (balI k c.part c.rows c.cols)) R2 C2 = trimT (.say false c.cols (balS k c.rest R C) (balS k c.part c.rows c.cols)) R2 C2 := by
      intro R2 C2 a b x y z u
      refine same_say false c.cols _ _ _ _ R2 C2 x y z u (fun q1 q2 => ?_) (fun q1 q2 => ?_)
      · exact hX _ _ (a.trans g5) (b.minus _) x (Nat.lt_of_le_of_lt (minus_le _ _ y) y) q1 q2
      · exact hY _ _ a (Sub.meet_right _ _) x (Nat.lt_of_le_of_lt (meet_le _ _ y) y) q1 q2
    by_cases hc : c.cols = C
    · rw [if_pos hc]
      refine same_say true c.rows _ _ _ _ R' C' hR' hC' h1' h2' (fun q1 q2 => ?_) (fun q1 q2 => ?_)
      · exact hX _ _ (s1.minus _) s2 (Nat.lt_of_le_of_lt (minus_le _ _ hR') hR') hC' q1 q2
      · have hm : inR true c.rows R' < 256 := Nat.lt_of_le_of_lt (meet_le _ _ hR') hR'
        show trimT _ (inR true c.rows R') C' = trimT _ (inR true c.rows R') C'
        rw [all_in false c.cols _ _ _ C' hm hC' q1 h2' (by show Sub C' c.cols; rw [hc]; exact s2)]
        exact hY _ _ (Sub.meet_right _ _) (by rw [hc]; exact s2) hm hC' q1 h2'
    rw [if_neg hc]
    by_cases hr : c.rows = R
    · rw [if_pos hr, all_in true c.rows _ _ R' C' hR' hC' h1' h2' (by show Sub R' c.rows; rw [hr]; exact s1)]
      exact inner R' C' (by rw [hr]; exact s1) s2 hR' hC' h1' h2'
    rw [if_neg hr]
    refine same_say true c.rows _ _ _ _ R' C' hR' hC' h1' h2' (fun q1 q2 => ?_) (fun q1 q2 => ?_)
    · exact hX _ _ (s1.minus _) s2 (Nat.lt_of_le_of_lt (minus_le _ _ hR') hR') hC' q1 q2
    · exact inner _ _ (Sub.meet_right _ _) s2 (Nat.lt_of_le_of_lt (meet_le _ _ hR') hR') hC' q1 q2

/-- how many ends there are at most -/
def most : Nat → Nat := fun n => [1, 1, 2, 6, 14, 30, 34, 66, 74, 90, 146, 162, 178, 210, 322, 326, 358].getD n 0
theorem most_step : ∀ n : Fin 17, ∀ k : Fin 17, 3 ≤ n.1 → n.1 < 3 * k.1 → 3 * k.1 ≤ 2 * n.1 → 2 * most (n.1 - k.1 + 1) + most k.1 ≤ most n.1 := by decide
theorem most_le : ∀ n : Fin 17, most n.1 ≤ 358 := by decide
theorem most_id : ∀ n : Fin 17, n.1 ≤ most n.1 := by decide
theorem balI_ends : ∀ (k : Nat) (t : T) (R C : Nat), ends t ≤ 16 → ends (balI k t R C) ≤ most (ends t)
  | 0, t, _, _, h => most_id ⟨ends t, by omega⟩
  | k + 1, t, R, C, h => by
    have e1 := cut_ends (ends t) t R C
    unfold balI
    by_cases he : ends t ≤ 2
    · rw [if_pos he]
      exact most_id ⟨ends t, by omega⟩
    rw [if_neg he]
    have e2 := cut_most (ends t) (by omega) t R C
    have e3 := cut_least (ends t) t R C (by omega)
    generalize cutT (ends t) t R C = c at *
    have iz := balI_ends k c.rest R C (by omega)
    have io := balI_ends k c.part c.rows c.cols (by omega)
    have hs := most_step ⟨ends t, by omega⟩ ⟨ends c.part, by omega⟩ (by show 3 ≤ ends t; omega) e3 e2
    have er : ends c.rest = ends t - ends c.part + 1 := by omega
    rw [er] at iz
    simp only [ends]
    simp only at hs
    omega
theorem balS_ends : ∀ (k : Nat) (t : T) (R C : Nat), ends t ≤ 16 → ends (balS k t R C) ≤ most (ends t)
  | 0, t, _, _, h => most_id ⟨ends t, by omega⟩
  | k + 1, t, R, C, h => by
    have e1 := cut_ends (ends t) t R C
    unfold balS
    by_cases he : ends t ≤ 2
    · rw [if_pos he]
      exact most_id ⟨ends t, by omega⟩
    rw [if_neg he]
    have e2 := cut_most (ends t) (by omega) t R C
    have e3 := cut_least (ends t) t R C (by omega)
    generalize cutT (ends t) t R C = c at *
    have iz := balS_ends k c.rest R C (by omega)
    have io := balS_ends k c.part c.rows c.cols (by omega)
    have hs := most_step ⟨ends t, by omega⟩ ⟨ends c.part, by omega⟩ (by show 3 ≤ ends t; omega) e3 e2
    have er : ends c.rest = ends t - ends c.part + 1 := by omega
    rw [er] at iz
    simp only at hs
    split
    · simp only [ends]; omega
    · split
      · simp only [ends]; omega
      · simp only [ends]; omega
theorem bal_wf : ∀ (k : Nat) (t : T) (R C : Nat), R < 256 → C < 256 → 1 ≤ R → 1 ≤ C → Tight t R C → wf t → wf (balI k t R C) ∧ wf (balS k t R C)
  | 0, _, _, _, _, _, _, _, _, h => ⟨h, h⟩
  | k + 1, t, R, C, hR, hC, h1, h2, ht, hw => by
    obtain ⟨g1, g2, g3, g4, g5, g6, g7, g8⟩ := cut_rect (ends t) t R C hR hC h1 h2 ht
    obtain ⟨w1, w2⟩ := cut_wf (ends t) t R C hw
    unfold balI balS
    by_cases he : ends t ≤ 2
    · rw [if_pos he, if_pos he]
      exact ⟨hw, hw⟩
    rw [if_neg he, if_neg he]
    generalize cutT (ends t) t R C = c at *
    have iz := bal_wf k c.rest R C hR hC h1 h2 g8 w2
    have io := bal_wf k c.part c.rows c.cols g1 g2 g3 g4 g7 w1
    refine ⟨⟨g1, iz.1, g2, iz.1, io.1⟩, ?_⟩
    split
    · exact ⟨g1, iz.2, io.2⟩
    · split
      · exact ⟨g2, iz.2, io.2⟩
      · exact ⟨g1, iz.2, g2, iz.2, io.2⟩
theorem trim_ends : ∀ (t : T) (R C : Nat), ends (trimT t R C) ≤ ends t
  | .leaf _, _, _ => Nat.le_refl _
  | .say a s z o, R, C => by
    have iz := trim_ends z (outR a s R) (outC a s C)
    have io := trim_ends o (inR a s R) (inC a s C)
    unfold trimT
    split
    · simp only [ends]; omega
    · split
      · simp only [ends]; omega
      · simp only [ends]; omega
end Go.Proofs.YtbbgibbpeibhiaaGreatDoor.CutT

/-
  A region that draws its order, whose operations call functions that make memory, lay a block, store into it: each operation is walked ONCE, at whatever time it comes up, under an invariant that names the value of each operation that has come up.
-/
namespace Go.Proofs.YtbbgibbpeibhiaaGreatDoor.Free
open Go Go.RowKit
set_option linter.unusedVariables false

section
variable {P : Program} {ops : Array Oper}

/-- what is known in the midst of the region -/
structure Mid (ops : Array Oper) (a0 : Act) (Y : Nat → Value → Act → World → Prop) (S : World → Prop) (listed : Array Bool) (a : Act) (w : World) : Prop where
  defers : a.defers = a0.defers
  size : a.tmps.size = a0.tmps.size
  world : S w
  old : ∀ k, (∀ (i : Nat) (o : Oper), ops[i]? = some o → o.dst ≠ some k) → a.tmps[k]? = a0.tmps[k]?
  closed : ∀ (i : Nat) (o : Oper), ops[i]? = some o → listed.getD i false = true → ∀ e ∈ o.after, Region.binds .any e = true → listed.getD e.on false = true
  new : ∀ (i : Nat) (o : Oper), ops[i]? = some o → listed.getD i false = true → ∃ v, Y i v a w ∧ ∀ d, o.dst = some d → a.tmps[d]? = some v

/-- no guard; each slot written once, and there; no edge forward -/
def freeB (ops : Array Oper) (n : Nat) : Bool :=
  (ops.toList.all fun o => o.guard.isNone && (match o.dst with | some d => decide (d < n) | none => true)) &&
  decide (ops.toList.filterMap (·.dst)).Nodup &&
  (List.range ops.size).all fun i => (ops[i]?).all fun o => o.after.all fun e => !Region.binds .any e || decide (e.on < i)

/-- how many of the first n have not come up -/
def left (listed : Array Bool) : Nat → Nat
  | 0 => 0
  | n + 1 => left listed n + (if listed.getD n false then 0 else 1)
theorem left_high (listed : Array Bool) (i : Nat) : ∀ n, n ≤ i → left (listed.setIfInBounds i true) n = left listed n
  | 0, _ => rfl
  | n + 1, h => by
    rw [left, left, left_high listed i n (by omega)]
    have : (listed.setIfInBounds i true).getD n false = listed.getD n false := by
      simp [Array.getD_eq_getD_getElem?, Array.getElem?_setIfInBounds_ne (show i ≠ n by omega)]
    rw [this]
theorem left_set (listed : Array Bool) (i : Nat) (hi : i < listed.size) (hu : listed.getD i false = false) : ∀ n, i < n → left (listed.setIfInBounds i true) n + 1 = left listed n
  | 0, h => absurd h (by omega)
  | n + 1, h => by
    rw [left, left]
    by_cases e : i = n
    · subst e
      rw [left_high listed i i (Nat.le_refl _), hu]
      have : (listed.setIfInBounds i true).getD i false = true := by
        simp [Array.getD_eq_getD_getElem?, hi]
      rw [this]
      simp
    · have h2 := left_set listed i hi hu n (by omega)
      have : (listed.setIfInBounds i true).getD n false = listed.getD n false := by
        simp [Array.getD_eq_getD_getElem?, Array.getElem?_setIfInBounds_ne e]
      rw [this]
      omega
theorem left_zero (listed : Array Bool) : ∀ n, left listed n = 0 → ∀ i, i < n → listed.getD i false = true
  | 0, _, i, hi => absurd hi (by omega)
  | n + 1, h, i, hi => by
    rw [left] at h
    by_cases e : i = n
    · subst e
      by_cases hl : listed.getD i false = true
      · exact hl
      · rw [if_neg hl] at h
        omega
    · exact left_zero listed n (by omega) i (by omega)

theorem wpAny_mid {n : Nat} {a0 : Act} {Y : Nat → Value → Act → World → Prop} {S : World → Prop} {Q : Exit → Act → World → Prop} (hB : freeB ops n = true) (hn : a0.tmps.size = n)
    (hstep : ∀ (i : Nat) (o : Oper), ops[i]? = some o → ∀ (listed : Array Bool) (a : Act) (w : World), Mid ops a0 Y S listed a w → listed.getD i false = false → (∀ e ∈ o.after, Region.binds .any e = true → listed.getD e.on false = true) →
      o.wp P a w (fun a' w' => ∃ v, a' = a.put o.dst v ∧ Y i v a' w' ∧ S w' ∧ ∀ j u, j ≠ i → listed.getD j false = true → Y j u a w → Y j u a' w') Q)
    (hend : ∀ a w, (∀ listed : Array Bool, (∀ i, listed.getD i false = decide (i < ops.size)) → Mid ops a0 Y S listed a w) → Q .normal a w) :
    ∀ (fuel : Nat) (listed : Array Bool) (a : Act) (w : World), listed.size = ops.size → left listed ops.size ≤ fuel → Mid ops a0 Y S listed a w → wpAny P .any ops Q fuel listed a w := by
  simp only [freeB, Bool.and_eq_true, decide_eq_true_eq] at hB
  obtain ⟨⟨h1, h2⟩, h3⟩ := hB
  have hg : ∀ (i : Nat) (o : Oper), ops[i]? = some o → o.guard = none := fun i o ho => by
    have := List.all_eq_true.1 h1 o (by simpa using Array.mem_of_getElem? ho)
    simp only [Bool.and_eq_true] at this
    simpa using this.1
  have hd : ∀ (i : Nat) (o : Oper) (d : Tmp), ops[i]? = some o → o.dst = some d → d < n := fun i o d ho hdst => by
    have := List.all_eq_true.1 h1 o (by simpa using Array.mem_of_getElem? ho)
    simp only [Bool.and_eq_true, hdst] at this
    simpa using this.2
  have hac : ∀ (i : Nat) (o : Oper), ops[i]? = some o → ∀ e ∈ o.after, Region.binds .any e = true → e.on < i := fun i o ho e he hb => by
    have hi : i < ops.size := (Array.getElem?_eq_some_iff.1 ho).1
    have := List.all_eq_true.1 h3 i (List.mem_range.2 hi)
    rw [ho] at this
    have h4 : ∀ e ∈ o.after, (!Region.binds .any e || decide (e.on < i)) = true := by
      have h5 : (o.after.all fun e => !Region.binds .any e || decide (e.on < i)) = true := this
      exact fun e he => Array.all_eq_true_iff_forall_mem.1 h5 e he
    have := h4 e he
    simpa [hb] using this
  have hdd : ∀ (i j : Nat) (oi oj : Oper) (d : Tmp), ops[i]? = some oi → ops[j]? = some oj → oi.dst = some d → oj.dst = some d → i = j := fun i j oi oj d hi hj di dj => by
    have hi' : ops.toList[i]? = some oi := by simpa using hi
    have hj' : ops.toList[j]? = some oj := by simpa using hj
    clear hd hac hg h1 h3 hstep hend hi hj
    generalize ops.toList = l at *
    induction l generalizing i j with
    | nil => simp at hi'
    | cons o l ih =>
      cases i with
      | zero =>
        cases j with
        | zero => rfl
        | succ j =>
          exfalso
          simp only [List.getElem?_cons_zero, Option.some.injEq] at hi'
          subst hi'
          simp only [List.getElem?_cons_succ] at hj'
          rw [List.filterMap_cons_some di, List.nodup_cons] at h2
          exact h2.1 (List.mem_filterMap.2 ⟨oj, List.mem_of_getElem? hj', dj⟩)
      | succ i =>
        cases j with
        | zero =>
          exfalso
          simp only [List.getElem?_cons_zero, Option.some.injEq] at hj'
          subst hj'
          simp only [List.getElem?_cons_succ] at hi'
          rw [List.filterMap_cons_some dj, List.nodup_cons] at h2
          exact h2.1 (List.mem_filterMap.2 ⟨oi, List.mem_of_getElem? hi', di⟩)
        | succ j =>
          simp only [List.getElem?_cons_succ] at hi' hj'
          have : (l.filterMap (·.dst)).Nodup := by
            cases hod : o.dst with
            | none => rwa [List.filterMap_cons_none hod] at h2
            | some x => rw [List.filterMap_cons_some hod, List.nodup_cons] at h2; exact h2.2
          rw [ih i j this hi' hj']
  have hall : ∀ (listed : Array Bool), listed.size = ops.size → Region.ready .any ops listed = [] → ∀ m, ∀ i, i < m → i < ops.size → listed.getD i false = true := by
    intro listed hsz hr m
    induction m with
    | zero => intro i hi; omega
    | succ m ih =>
      intro i hi hio
      by_cases e : i = m
      · subst e
        by_cases hl : listed.getD i false = true
        · exact hl
        · exfalso
          have hl2 : listed.getD i true = false := by
            have hlt : i < listed.size := by omega
            simp [hlt] at hl ⊢
            exact hl
          have : i ∈ Region.ready .any ops listed := by
            refine mem_ready.2 ⟨hl2, ops[i], by simp [hio], fun e he hb => ?_⟩
            have := hac i ops[i] (by simp [hio]) e he hb
            exact ih e.on this (by omega)
          rw [hr] at this
          cases this
      · exact ih i (by omega) hio
  intro fuel
  induction fuel with
  | zero =>
    intro listed a w hsz hc hM
    have hz := left_zero listed ops.size (by omega)
    refine ⟨?_, hend a w fun l' hl' => ⟨hM.defers, hM.size, hM.world, hM.old, fun i o ho _ e he hb => by rw [hl']; exact decide_eq_true (Nat.lt_trans (hac i o ho e he hb) (Array.getElem?_eq_some_iff.1 ho).1), fun i o ho _ => hM.new i o ho (hz i (Array.getElem?_eq_some_iff.1 ho).1)⟩⟩
    cases hr : Region.ready .any ops listed with
    | nil => rfl
    | cons i l =>
      exfalso
      have hi : i ∈ Region.ready .any ops listed := by rw [hr]; exact List.mem_cons_self
      obtain ⟨hu, o, ho, _⟩ := mem_ready.1 hi
      have hio : i < ops.size := (Array.getElem?_eq_some_iff.1 ho).1
      have := hz i hio
      have hlt : i < listed.size := by omega
      simp [hlt] at hu this
      rw [hu] at this
      cases this
  | succ fuel ih =>
    intro listed a w hsz hc hM
    refine ⟨fun hr => hend a w fun l' hl' => ⟨hM.defers, hM.size, hM.world, hM.old, fun i o ho _ e he hb => by rw [hl']; exact decide_eq_true (Nat.lt_trans (hac i o ho e he hb) (Array.getElem?_eq_some_iff.1 ho).1), fun i o ho _ => hM.new i o ho (hall listed hsz hr ops.size i (Array.getElem?_eq_some_iff.1 ho).1 (Array.getElem?_eq_some_iff.1 ho).1)⟩, fun i hi => ?_⟩
    obtain ⟨hu, o, ho, hdep⟩ := mem_ready.1 hi
    have hio : i < ops.size := (Array.getElem?_eq_some_iff.1 ho).1
    have hu2 : listed.getD i false = false := by
      have hlt : i < listed.size := by omega
      simp [hlt] at hu ⊢
      exact hu
    unfold wpOp
    simp only [ho]
    have hw : Region.wanted o (yielded ops a.tmps) = true := by simp [Region.wanted, hg i o ho]
    rw [if_pos hw]
    refine .inl (Oper.wp_mono ?_ (hstep i o ho listed a w hM hu2 hdep))
    rintro a' w' ⟨v, rfl, hY, hS, hst⟩
    refine ih _ _ _ (by simpa using hsz) (by have := left_set listed i (by omega) hu2 ops.size hio; omega) ⟨?_, ?_, hS, ?_, ?_, ?_⟩
    · rw [← hM.defers]
      cases o.dst <;> rfl
    · rw [← hM.size]
      cases o.dst <;> simp [Act.put]
    · intro k hk
      rw [← hM.old k hk]
      cases hod : o.dst with
      | none => rfl
      | some d =>
        have : d ≠ k := fun e => hk i o ho (by rw [hod, e])
        simp [Act.put, Array.getElem?_setIfInBounds_ne this]
    · intro j oj hoj hl e he hb
      have hl' : listed.getD e.on false = true := by
        by_cases e2 : j = i
        · subst e2
          obtain rfl : o = oj := Option.some.inj (ho.symm.trans hoj)
          exact hdep e he hb
        · have hl2 : listed.getD j false = true := by
            rw [← hl]
            simp [Array.getD_eq_getD_getElem?, Array.getElem?_setIfInBounds_ne (Ne.symm e2)]
          exact hM.closed j oj hoj hl2 e he hb
      exact getD_set_true hl'
    · intro j oj hoj hl
      by_cases e : j = i
      · subst e
        obtain rfl : o = oj := Option.some.inj (ho.symm.trans hoj)
        refine ⟨v, hY, fun d hdd' => ?_⟩
        have hdn := hd j o d ho hdd'
        rw [← hn, ← hM.size] at hdn
        simp [hdd', Act.put, hdn]
      · have hl2 : listed.getD j false = true := by
          rw [← hl]
          simp [Array.getD_eq_getD_getElem?, Array.getElem?_setIfInBounds_ne (Ne.symm e)]
        obtain ⟨u, hu', hd'⟩ := hM.new j oj hoj hl2
        refine ⟨u, hst j u e hl2 hu', fun d hdj => ?_⟩
        rw [← hd' d hdj]
        cases hod : o.dst with
        | none => rfl
        | some d2 =>
          have : d2 ≠ d := fun e2 => e (hdd j i oj o d hoj ho hdj (by rw [hod, e2]))
          simp [Act.put, Array.getElem?_setIfInBounds_ne this]

/-- the lexical filling of the slots -/
def fill : List Oper → (Nat → Value) → Nat → Act → Act
  | [], _, _, a => a
  | o :: l, vs, b, a => fill l vs (b + 1) (a.put o.dst (vs b))
theorem put_size (a : Act) (d : Option Tmp) (v : Value) : (a.put d v).tmps.size = a.tmps.size := by cases d <;> simp [Act.put]
theorem put_defers (a : Act) (d : Option Tmp) (v : Value) : (a.put d v).defers = a.defers := by cases d <;> rfl
theorem fill_size : ∀ (l : List Oper) (vs : Nat → Value) (b : Nat) (a : Act), (fill l vs b a).tmps.size = a.tmps.size
  | [], _, _, _ => rfl
  | o :: l, vs, b, a => by rw [fill, fill_size l, put_size]
theorem fill_defers : ∀ (l : List Oper) (vs : Nat → Value) (b : Nat) (a : Act), (fill l vs b a).defers = a.defers
  | [], _, _, _ => rfl
  | o :: l, vs, b, a => by rw [fill, fill_defers l, put_defers]
theorem fill_not (k : Nat) : ∀ (l : List Oper) (vs : Nat → Value) (b : Nat) (a : Act), (∀ o ∈ l, o.dst ≠ some k) → (fill l vs b a).tmps[k]? = a.tmps[k]?
  | [], _, _, _, _ => rfl
  | o :: l, vs, b, a, h => by
    rw [fill, fill_not k l vs (b + 1) _ (fun o' ho' => h o' (List.mem_cons_of_mem _ ho'))]
    have := h o List.mem_cons_self
    cases hod : o.dst with
    | none => rfl
    | some d =>
      have : d ≠ k := fun e => this (by rw [hod, e])
      simp [Act.put, Array.getElem?_setIfInBounds_ne this]
theorem fill_at (k : Nat) : ∀ (l : List Oper) (vs : Nat → Value) (b : Nat) (a : Act) (i : Nat) (o : Oper), l[i]? = some o → o.dst = some k → (l.filterMap (·.dst)).Nodup → k < a.tmps.size → (fill l vs b a).tmps[k]? = some (vs (b + i))
  | [], _, _, _, i, o, h, _, _, _ => by simp at h
  | o' :: l, vs, b, a, i, o, h, hd, hn, hk => by
    rw [fill]
    cases i with
    | zero =>
      simp only [List.getElem?_cons_zero, Option.some.injEq] at h
      subst h
      rw [List.filterMap_cons_some hd, List.nodup_cons] at hn
      rw [fill_not k l vs (b + 1) _ (fun o2 ho2 e => hn.1 (List.mem_filterMap.2 ⟨o2, ho2, e⟩)), hd]
      simp [Act.put, hk]
    | succ i =>
      simp only [List.getElem?_cons_succ] at h
      have hn2 : (l.filterMap (·.dst)).Nodup := by
        cases hod : o'.dst with
        | none => rwa [List.filterMap_cons_none hod] at hn
        | some x => rw [List.filterMap_cons_some hod, List.nodup_cons] at hn; exact hn.2
      rw [fill_at k l vs (b + 1) _ i o h hd hn2 (by rw [put_size]; exact hk)]
      congr 2
      omega

/-- THE LAW -/
theorem wp_region_free {id n : Nat} {a0 : Act} {w0 : World} {Y : Nat → Value → Act → World → Prop} {S : World → Prop} {Q : Exit → Act → World → Prop} (hm : P.follows .mixedOrders = true) (hB : freeB ops n = true) (hn : a0.tmps.size = n)
    (hS : S { w0 with drawn := w0.drawn + 1 })
    (hstep : ∀ (i : Nat) (o : Oper), ops[i]? = some o → ∀ (listed : Array Bool) (a : Act) (w : World), Mid ops a0 Y S listed a w → listed.getD i false = false → (∀ e ∈ o.after, Region.binds .any e = true → listed.getD e.on false = true) →
      o.wp P a w (fun a' w' => ∃ v, a' = a.put o.dst v ∧ Y i v a' w' ∧ S w' ∧ ∀ j u, j ≠ i → listed.getD j false = true → Y j u a w → Y j u a' w') Q)
    (hend : ∀ (vs : Nat → Value) (w : World), S w → (∀ (i : Nat) (o : Oper), ops[i]? = some o → Y i (vs i) (fill ops.toList vs 0 a0) w) → Q .normal (fill ops.toList vs 0 a0) w) : (Code.region id ops true).wp P Q a0 w0 := by
  refine wp_region_any hm ?_
  have hB2 := hB
  simp only [freeB, Bool.and_eq_true, decide_eq_true_eq] at hB2
  obtain ⟨⟨h1, h2⟩, _⟩ := hB2
  refine wpAny_mid hB hn hstep (fun a w hM => ?_) _ _ _ _ (by simp) ?_ ⟨rfl, rfl, hS, fun _ _ => rfl, fun i o _ hl => ?_, fun i o _ hl => ?_⟩
  · have M := hM (Array.replicate ops.size true) (fun i => by by_cases hi : i < ops.size <;> simp [Array.getD_eq_getD_getElem?, hi])
    have hl : ∀ (i : Nat) (o : Oper), ops[i]? = some o → (Array.replicate ops.size true).getD i false = true := fun i o ho => by
      have hi : i < ops.size := (Array.getElem?_eq_some_iff.1 ho).1
      simp [Array.getD_eq_getD_getElem?, hi]
    classical
    obtain ⟨vs, hvs⟩ : ∃ vs : Nat → Value, ∀ (i : Nat) (o : Oper), ops[i]? = some o → Y i (vs i) a w ∧ ∀ d, o.dst = some d → a.tmps[d]? = some (vs i) := by
      refine ⟨fun i => if h : ∃ v : Value, ∀ o : Oper, ops[i]? = some o → Y i v a w ∧ ∀ d, o.dst = some d → a.tmps[d]? = some v then h.choose else undef, fun i o ho => ?_⟩
      have hex : ∃ v : Value, ∀ o : Oper, ops[i]? = some o → Y i v a w ∧ ∀ d, o.dst = some d → a.tmps[d]? = some v := by
        obtain ⟨v, hv⟩ := M.new i o ho (hl i o ho)
        exact ⟨v, fun o' ho' => by obtain rfl : o = o' := Option.some.inj (ho.symm.trans ho'); exact hv⟩
      dsimp only
      rw [dif_pos hex]
      exact hex.choose_spec o ho
    have ha : a = fill ops.toList vs 0 a0 := by
      have ht : a.tmps = (fill ops.toList vs 0 a0).tmps := by
        apply Array.ext_getElem?
        intro k
        by_cases hk : ∃ (i : Nat) (o : Oper), ops[i]? = some o ∧ o.dst = some k
        · obtain ⟨i, o, ho, hd⟩ := hk
          have hkn : k < a0.tmps.size := by
            have := List.all_eq_true.1 h1 o (by simpa using Array.mem_of_getElem? ho)
            simp only [Bool.and_eq_true, hd] at this
            rw [hn]
            simpa using this.2
          rw [fill_at k ops.toList vs 0 a0 i o (by simpa using ho) hd h2 hkn, (hvs i o ho).2 k hd, Nat.zero_add]
        · have hk2 : ∀ (i : Nat) (o : Oper), ops[i]? = some o → o.dst ≠ some k := fun i o ho e => hk ⟨i, o, ho, e⟩
          rw [M.old k hk2, fill_not k ops.toList vs 0 a0]
          intro o ho e
          obtain ⟨i, hi, rfl⟩ := List.getElem_of_mem ho
          exact hk2 i _ (by simp at hi; simp [hi]) e
      have hdf := M.defers
      rw [← fill_defers ops.toList vs 0 a0] at hdf
      cases a
      cases hfl : fill ops.toList vs 0 a0
      rw [hfl] at ht hdf
      simp only at ht hdf
      rw [ht, hdf]
    rw [ha]
    refine hend vs w M.world fun i o ho => ?_
    rw [← ha]
    exact (hvs i o ho).1
  · clear hstep hend
    have : ∀ n, left (Array.replicate ops.size false) n ≤ n := fun n => by
      induction n with
      | zero => simp [left]
      | succ n ih => rw [left]; split <;> omega
    exact this _
  all_goals
    exfalso
    simp [Array.getD_eq_getD_getElem?, Array.getElem?_replicate] at hl
    split at hl <;> simp at hl
/-! ### one operation at a time -/
theorem wp_value {o : Oper} {a : Act} {w : World} {K : Act → World → Prop} {Q : Exit → Act → World → Prop} (v : Value) (h : (execOp a.eval o).run P w = .ok (.value v) w) (hK : K (a.put o.dst v) w) : o.wp P a w K Q := by
  unfold Oper.wp
  rw [h]
  exact hK
theorem wp_enter {o : Oper} {a : Act} {w : World} {K : Act → World → Prop} {Q : Exit → Act → World → Prop} (f : FuncId) (args : Array Value) (v : Value) (R : World → Prop) (h : (execOp a.eval o).run P w = .ok (.enter f args) w)
    (hc : Calls P f args w fun e w' => e = .returned v ∧ R w') (hK : ∀ w', R w' → K (a.put o.dst v) w') : o.wp P a w K Q := by
  unfold Oper.wp
  rw [h]
  refine Calls.mono hc ?_
  rintro e w' ⟨rfl, hR⟩
  exact hK w' hR
theorem wp_load_row {o : Oper} {a : Act} {w : World} {K : Act → World → Prop} {Q : Exit → Act → World → Prop} (ty : TypeId) (x : Operand) (ho : o.op = .load ty x)
    (g : Nat) (hx : a.eval x = .pointer (some ⟨g, 0, none⟩)) (t : TypeId) (cs : Array Value) (fr : Nat × Nat) (d : TypeDesc) (hg : w.heap[g]? = some (.cells cs t fr))
    (hu : P.underlying ty = some d) (hd : (match d with | .struct _ | .array _ _ => true | _ => false) = true) (hi : (P.info? ty).map (·.size) = some cs.size) (hK : K (a.put o.dst (.agg cs)) w) : o.wp P a w K Q := by
  refine wp_value (.agg cs) ?_ hK
  unfold execOp
  simp only [ho, hx, Instr.loadAt, Instr.sureAddr, Sem.run_bind, Sem.run_pure, Result.andThen_ok, run_loadVar_row w g t ty cs fr d hg hu hd hi]

theorem setRow_kept {w : World} {g : Nat} {t : TypeId} {cs : Array Value} (h : w.heap[g]? = some (.cells cs t (0, 0))) (cs' : Array Value) : (w.setRow g cs').heap[g]? = some (.cells cs' t (0, 0)) := by
  simp [World.setRow, Array.getElem?_modify, h]
theorem setRow_below {B : Nat} {w w1 : World} {g : Nat} (h : Below B w w1) (hg : B ≤ g) (cs : Array Value) : Below B w (w1.setRow g cs) :=
  h.trans ⟨rfl, rfl, rfl, by simp, fun k hk => by simp only [World.setRow, Array.getElem?_modify]; rw [if_neg (by omega)]⟩
theorem setRow_other {w : World} {g k : Nat} (h : k ≠ g) (cs : Array Value) : (w.setRow g cs).heap[k]? = w.heap[k]? := by
  simp only [World.setRow, Array.getElem?_modify]
  rw [if_neg (by omega)]

theorem fill_congr : ∀ (l : List Oper) (vs us : Nat → Value) (b : Nat) (a : Act), (∀ i, i < l.length → vs (b + i) = us (b + i)) → fill l vs b a = fill l us b a
  | [], _, _, _, _, _ => rfl
  | o :: l, vs, us, b, a, h => by
    rw [fill, fill]
    have h0 := h 0 (by simp)
    rw [Nat.add_zero] at h0
    rw [h0]
    exact fill_congr l vs us (b + 1) _ fun i hi => by
      have := h (i + 1) (by simp; omega)
      rwa [show b + (i + 1) = b + 1 + i by omega] at this

/-- what an operation may know of the slots -/
def Facts (ops : Array Oper) (a0 : Act) (con : Nat → Value) (ia is : Nat) (o : Oper) (a : Act) : Prop :=
  (∀ e ∈ o.after, Region.binds .any e = true → ∀ (oj : Oper) (dj : Tmp), ops[e.on]? = some oj → oj.dst = some dj → e.on ≠ ia → e.on ≠ is → a.eval (.tmp dj) = con e.on) ∧
  (∀ k, (ops.toList.all fun o => o.dst != some k) = true → a.eval (.tmp k) = a0.eval (.tmp k))
theorem eval_of {a : Act} {d : Tmp} {v : Value} (h : a.tmps[d]? = some v) : a.eval (.tmp d) = v := by
  show a.tmps.getD d undef = v
  simp [Array.getD_eq_getD_getElem?, h]
theorem get_of {a : Act} {d : Tmp} {v : Value} (h : a.eval (.tmp d) = v) : a.tmps[d]?.getD undef = v := by
  rw [← h]
  show _ = a.tmps.getD d undef
  simp [Array.getD_eq_getD_getElem?]
theorem eval_same {a b : Act} {d : Tmp} (h : a.tmps[d]? = b.tmps[d]?) : a.eval (.tmp d) = b.eval (.tmp d) := by
  show a.tmps.getD d undef = b.tmps.getD d undef
  simp [Array.getD_eq_getD_getElem?, h]

/-- THE LAW AT ONE NEW BLOCK AND ONE STORE INTO IT: all else yields a value that is known ahead -/
theorem wp_region_one {id n : Nat} {a0 : Act} {w0 : World} {Q : Exit → Act → World → Prop} (con : Nat → Value) (ia is d : Nat) (T : TypeId) (zs cells : Array Value) (oa os : Oper)
    (hm : P.follows .mixedOrders = true) (hB : freeB ops n = true) (hn : a0.tmps.size = n)
    (ha : ops[ia]? = some oa) (had : oa.dst = some d) (hs : ops[is]? = some os) (hsd : os.dst = none) (hne : ia ≠ is)
    (hdep : ∃ e ∈ os.after, Region.binds .any e = true ∧ e.on = ia) (hz : zs.size = cells.size)
    (hal : ∀ (a : Act) (w : World), (execOp a.eval oa).run P w = .ok (.value (.pointer (some ⟨w.heap.size, 0, none⟩))) (w.alloc (.cells zs T)))
    (hst : ∀ (a : Act) (w : World) (b : Nat) (old : Array Value), Facts ops a0 con ia is os a → a.eval (.tmp d) = .pointer (some ⟨b, 0, none⟩) → w.heap[b]? = some (.cells old T (0, 0)) → old.size = cells.size →
      os.wp P a w (fun a' w' => a' = a ∧ w' = w.setRow b cells) Q)
    (hcon : ∀ (i : Nat) (o : Oper), ops[i]? = some o → i ≠ ia → i ≠ is → ∀ (a : Act) (w : World), Below w0.heap.size w0 w → Facts ops a0 con ia is o a →
      o.wp P a w (fun a' w' => a' = a.put o.dst (con i) ∧ Below w.heap.size w w') Q)
    (hend : ∀ (b : Nat) (w : World), Below w0.heap.size w0 w → w0.heap.size ≤ b → w.heap[b]? = some (.cells cells T (0, 0)) →
      Q .normal (fill ops.toList (fun i => if i = ia then .pointer (some ⟨b, 0, none⟩) else if i = is then undef else con i) 0 a0) w) : (Code.region id ops true).wp P Q a0 w0 := by
  have hB2 := hB
  simp only [freeB, Bool.and_eq_true, decide_eq_true_eq] at hB2
  obtain ⟨⟨h1, h2⟩, _⟩ := hB2
  have hdn : ∀ (o : Oper) (k : Tmp), o ∈ ops.toList → o.dst = some k → k < n := fun o k ho hk => by
    have := List.all_eq_true.1 h1 o ho
    simp only [Bool.and_eq_true, hk] at this
    simpa using this.2
  let Y : Nat → Value → Act → World → Prop := fun i v a w =>
    if i = ia then ∃ b, v = .pointer (some ⟨b, 0, none⟩) ∧ w0.heap.size ≤ b ∧ ∃ old, w.heap[b]? = some (.cells old T (0, 0)) ∧ old.size = cells.size
    else if i = is then v = undef ∧ ∃ b, a.tmps[d]? = some (.pointer (some ⟨b, 0, none⟩)) ∧ w.heap[b]? = some (.cells cells T (0, 0))
    else v = con i
  have facts : ∀ (listed : Array Bool) (o : Oper) (a : Act) (w : World), Mid ops a0 Y (fun w => Below w0.heap.size w0 w) listed a w → (∀ e ∈ o.after, Region.binds .any e = true → listed.getD e.on false = true) → Facts ops a0 con ia is o a := by
    intro listed o a w hM hdl
    refine ⟨fun e he hb oj dj hoj hdj n1 n2 => ?_, fun k hk => eval_same (hM.old k fun i o' ho' hd' => ?_)⟩
    · obtain ⟨v, hv, hvd⟩ := hM.new e.on oj hoj (hdl e he hb)
      simp only [Y, if_neg n1, if_neg n2] at hv
      rw [← hv]
      exact eval_of (hvd dj hdj)
    · have := List.all_eq_true.1 hk o' (by simpa using Array.mem_of_getElem? ho')
      simp [hd'] at this
  have stay : ∀ (w w' : World) (b : Nat) (old : Array Value), Below w.heap.size w w' → w.heap[b]? = some (.cells old T (0, 0)) → w'.heap[b]? = some (.cells old T (0, 0)) := fun w w' b old hb h =>
    (hb.block b (Array.getElem?_eq_some_iff.1 h).1).trans h
  refine wp_region_free (Y := Y) (S := fun w => Below w0.heap.size w0 w) hm hB hn (Below.refl w0.heap.size w0).drew ?_ ?_
  · intro i o ho listed a w hM hu hdl
    by_cases hia : i = ia
    · subst hia
      obtain rfl : o = oa := Option.some.inj (ho.symm.trans ha)
      unfold Oper.wp
      rw [hal a w]
      refine ⟨_, rfl, ?_, hM.world.alloc hM.world.size _, ?_⟩
      · simp only [Y, if_true]
        exact ⟨_, rfl, hM.world.size, zs, heap_alloc_new w _, hz⟩
      · intro j u hj hl hY
        simp only [Y, if_neg hj] at hY ⊢
        by_cases hjs : j = is
        · subst hjs
          exfalso
          obtain ⟨e, he, hb, heq⟩ := hdep
          have := hM.closed j os hs hl e he hb
          rw [heq, hu] at this
          cases this
        · rw [if_neg hjs] at hY ⊢
          exact hY
    · by_cases his : i = is
      · subst his
        obtain rfl : o = os := Option.some.inj (ho.symm.trans hs)
        obtain ⟨e, he, hb, heq⟩ := hdep
        have hl := hdl e he hb
        rw [heq] at hl
        obtain ⟨v, hv, hvd⟩ := hM.new ia oa ha hl
        simp only [Y, if_true] at hv
        obtain ⟨b, rfl, hbw, old, hold, hosz⟩ := hv
        refine Oper.wp_mono ?_ (hst a w b old (facts listed o a w hM hdl) (eval_of (hvd d had)) hold hosz)
        rintro a' w' ⟨rfl, rfl⟩
        refine ⟨undef, by rw [hsd]; rfl, ?_, setRow_below hM.world hbw _, ?_⟩
        · simp only [Y, if_neg (Ne.symm hne), if_true]
          exact ⟨trivial, b, hvd d had, setRow_kept hold _⟩
        · intro j u hj hlj hY
          by_cases hja : j = ia
          · subst hja
            simp only [Y, if_true] at hY ⊢
            obtain ⟨b2, rfl, hb2, old2, ho2, hs2⟩ := hY
            refine ⟨b2, rfl, hb2, ?_⟩
            by_cases e2 : b2 = b
            · subst e2
              exact ⟨cells, setRow_kept hold _, rfl⟩
            · exact ⟨old2, (setRow_other e2 _).trans ho2, hs2⟩
          · simp only [Y, if_neg hja, if_neg hj] at hY ⊢
            exact hY
      · refine Oper.wp_mono ?_ (hcon i o ho hia his a w hM.world (facts listed o a w hM hdl))
        rintro a' w' ⟨rfl, hbl⟩
        refine ⟨con i, rfl, ?_, hM.world.trans (hbl.mono hM.world.size), ?_⟩
        · simp only [Y, if_neg hia, if_neg his]
        · intro j u hj hlj hY
          by_cases hja : j = ia
          · subst hja
            simp only [Y, if_true] at hY ⊢
            obtain ⟨b2, rfl, hb2, old2, ho2, hs2⟩ := hY
            exact ⟨b2, rfl, hb2, old2, stay w w' b2 old2 hbl ho2, hs2⟩
          · by_cases hjs : j = is
            · subst hjs
              simp only [Y, if_neg hja, if_true] at hY ⊢
              obtain ⟨rfl, b2, ht, ho2⟩ := hY
              refine ⟨rfl, b2, ?_, stay w w' b2 cells hbl ho2⟩
              rw [← ht]
              have hnd : o.dst ≠ some d := fun e => by
                have hi' : ops.toList[i]? = some o := by simpa using ho
                have ha' : ops.toList[ia]? = some oa := by simpa using ha
                have hf1 := fill_at d ops.toList (fun k => .int .i64 k) 0 a0 i o hi' e h2 (by rw [hn]; exact hdn o d (by simpa using Array.mem_of_getElem? ho) e)
                have hf2 := fill_at d ops.toList (fun k => .int .i64 k) 0 a0 ia oa ha' had h2 (by rw [hn]; exact hdn o d (by simpa using Array.mem_of_getElem? ho) e)
                rw [hf1] at hf2
                simp only [Option.some.injEq, Value.int.injEq, true_and] at hf2
                omega
              cases hod : o.dst with
              | none => rfl
              | some x =>
                have : x ≠ d := fun e2 => hnd (by rw [hod, e2])
                simp [Act.put, Array.getElem?_setIfInBounds_ne this]
            · simp only [Y, if_neg hja, if_neg hjs] at hY ⊢
              exact hY
  · intro vs w hS hall
    have hYa := hall ia oa ha
    simp only [Y, if_true] at hYa
    obtain ⟨b, hvb, hbw, _⟩ := hYa
    have hYs := hall is os hs
    simp only [Y, if_neg (Ne.symm hne), if_true] at hYs
    obtain ⟨hvs, b2, ht, hcells⟩ := hYs
    have ha' : ops.toList[ia]? = some oa := by simpa using ha
    have hf := fill_at d ops.toList vs 0 a0 ia oa ha' had h2 (by rw [hn]; exact hdn oa d (by simpa using Array.mem_of_getElem? ha) had)
    rw [Nat.zero_add, hvb, ht] at hf
    obtain rfl : b2 = b := by simpa using hf
    have hc := fill_congr ops.toList vs (fun i => if i = ia then .pointer (some ⟨b2, 0, none⟩) else if i = is then undef else con i) 0 a0 (fun i hi => by
      simp only [Nat.zero_add]
      by_cases hia : i = ia
      · subst hia; rw [if_pos rfl]; exact hvb
      · by_cases his : i = is
        · subst his; rw [if_neg hia, if_pos rfl]; exact hvs
        · rw [if_neg hia, if_neg his]
          have hio : i < ops.size := by simpa using hi
          have := hall i ops[i] (by simp [hio])
          simp only [Y, if_neg hia, if_neg his] at this
          exact this)
    rw [hc]
    exact hend b2 w hS hbw hcells
end
end Go.Proofs.YtbbgibbpeibhiaaGreatDoor.Free

/-
  The same law, the world's part told by what has come up: a region that draws its order, whose operations call functions that make memory, lay a block, store into it: each operation is walked ONCE, at whatever time it comes up, under an invariant that names the value of each operation that has come up.
-/
namespace Go.Proofs.YtbbgibbpeibhiaaGreatDoor.FreeL
open Go Go.RowKit Go.Proofs.YtbbgibbpeibhiaaGreatDoor.Free
set_option linter.unusedVariables false

section
variable {P : Program} {ops : Array Oper}

/-- what is known in the midst of the region; S: of the world, by what has come up -/
structure MidL (ops : Array Oper) (a0 : Act) (Y : Nat → Value → Act → World → Prop) (S : (Nat → Bool) → World → Prop) (listed : Array Bool) (a : Act) (w : World) : Prop where
  defers : a.defers = a0.defers
  size : a.tmps.size = a0.tmps.size
  world : S (fun i => listed.getD i false) w
  old : ∀ k, (∀ (i : Nat) (o : Oper), ops[i]? = some o → o.dst ≠ some k) → a.tmps[k]? = a0.tmps[k]?
  closed : ∀ (i : Nat) (o : Oper), ops[i]? = some o → listed.getD i false = true → ∀ e ∈ o.after, Region.binds .any e = true → listed.getD e.on false = true
  new : ∀ (i : Nat) (o : Oper), ops[i]? = some o → listed.getD i false = true → ∃ v, Y i v a w ∧ ∀ d, o.dst = some d → a.tmps[d]? = some v

theorem wpAnyL_mid {n : Nat} {a0 : Act} {Y : Nat → Value → Act → World → Prop} {S : (Nat → Bool) → World → Prop} {Q : Exit → Act → World → Prop} (hB : freeB ops n = true) (hn : a0.tmps.size = n)
    (hstep : ∀ (i : Nat) (o : Oper), ops[i]? = some o → ∀ (listed : Array Bool) (a : Act) (w : World), MidL ops a0 Y S listed a w → listed.getD i false = false → (∀ e ∈ o.after, Region.binds .any e = true → listed.getD e.on false = true) →
      o.wp P a w (fun a' w' => ∃ v, a' = a.put o.dst v ∧ Y i v a' w' ∧ S (fun j => if j = i then true else listed.getD j false) w' ∧ ∀ j u, j ≠ i → listed.getD j false = true → Y j u a w → Y j u a' w') Q)
    (hend : ∀ a w, (∀ listed : Array Bool, (∀ i, listed.getD i false = decide (i < ops.size)) → MidL ops a0 Y S listed a w) → Q .normal a w) :
    ∀ (fuel : Nat) (listed : Array Bool) (a : Act) (w : World), listed.size = ops.size → left listed ops.size ≤ fuel → MidL ops a0 Y S listed a w → wpAny P .any ops Q fuel listed a w := by
  simp only [freeB, Bool.and_eq_true, decide_eq_true_eq] at hB
  obtain ⟨⟨h1, h2⟩, h3⟩ := hB
  have hg : ∀ (i : Nat) (o : Oper), ops[i]? = some o → o.guard = none := fun i o ho => by
    have := List.all_eq_true.1 h1 o (by simpa using Array.mem_of_getElem? ho)
    simp only [Bool.and_eq_true] at this
    simpa using this.1
  have hd : ∀ (i : Nat) (o : Oper) (d : Tmp), ops[i]? = some o → o.dst = some d → d < n := fun i o d ho hdst => by
    have := List.all_eq_true.1 h1 o (by simpa using Array.mem_of_getElem? ho)
    simp only [Bool.and_eq_true, hdst] at this
    simpa using this.2
  have hac : ∀ (i : Nat) (o : Oper), ops[i]? = some o → ∀ e ∈ o.after, Region.binds .any e = true → e.on < i := fun i o ho e he hb => by
    have hi : i < ops.size := (Array.getElem?_eq_some_iff.1 ho).1
    have := List.all_eq_true.1 h3 i (List.mem_range.2 hi)
    rw [ho] at this
    have h4 : ∀ e ∈ o.after, (!Region.binds .any e || decide (e.on < i)) = true := by
      have h5 : (o.after.all fun e => !Region.binds .any e || decide (e.on < i)) = true := this
      exact fun e he => Array.all_eq_true_iff_forall_mem.1 h5 e he
    have := h4 e he
    simpa [hb] using this
  have hdd : ∀ (i j : Nat) (oi oj : Oper) (d : Tmp), ops[i]? = some oi → ops[j]? = some oj → oi.dst = some d → oj.dst = some d → i = j := fun i j oi oj d hi hj di dj => by
    have hi' : ops.toList[i]? = some oi := by simpa using hi
    have hj' : ops.toList[j]? = some oj := by simpa using hj
    clear hd hac hg h1 h3 hstep hend hi hj
    generalize ops.toList = l at *
    induction l generalizing i j with
    | nil => simp at hi'
    | cons o l ih =>
      cases i with
      | zero =>
        cases j with
        | zero => rfl
        | succ j =>
          exfalso
          simp only [List.getElem?_cons_zero, Option.some.injEq] at hi'
          subst hi'
          simp only [List.getElem?_cons_succ] at hj'
          rw [List.filterMap_cons_some di, List.nodup_cons] at h2
          exact h2.1 (List.mem_filterMap.2 ⟨oj, List.mem_of_getElem? hj', dj⟩)
      | succ i =>
        cases j with
        | zero =>
          exfalso
          simp only [List.getElem?_cons_zero, Option.some.injEq] at hj'
          subst hj'
          simp only [List.getElem?_cons_succ] at hi'
          rw [List.filterMap_cons_some dj, List.nodup_cons] at h2
          exact h2.1 (List.mem_filterMap.2 ⟨oi, List.mem_of_getElem? hi', di⟩)
        | succ j =>
          simp only [List.getElem?_cons_succ] at hi' hj'
          have : (l.filterMap (·.dst)).Nodup := by
            cases hod : o.dst with
            | none => rwa [List.filterMap_cons_none hod] at h2
            | some x => rw [List.filterMap_cons_some hod, List.nodup_cons] at h2; exact h2.2
          rw [ih i j this hi' hj']
  have hall : ∀ (listed : Array Bool), listed.size = ops.size → Region.ready .any ops listed = [] → ∀ m, ∀ i, i < m → i < ops.size → listed.getD i false = true := by
    intro listed hsz hr m
    induction m with
    | zero => intro i hi; omega
    | succ m ih =>
      intro i hi hio
      by_cases e : i = m
      · subst e
        by_cases hl : listed.getD i false = true
        · exact hl
        · exfalso
          have hl2 : listed.getD i true = false := by
            have hlt : i < listed.size := by omega
            simp [hlt] at hl ⊢
            exact hl
          have : i ∈ Region.ready .any ops listed := by
            refine mem_ready.2 ⟨hl2, ops[i], by simp [hio], fun e he hb => ?_⟩
            have := hac i ops[i] (by simp [hio]) e he hb
            exact ih e.on this (by omega)
          rw [hr] at this
          cases this
      · exact ih i (by omega) hio
  intro fuel
  induction fuel with
  | zero =>
    intro listed a w hsz hc hM
    have hz := left_zero listed ops.size (by omega)
    have wEnd : ∀ l' : Array Bool, (∀ i, l'.getD i false = decide (i < ops.size)) → S (fun i => l'.getD i false) w := fun l' hl' => by
      have e : (fun i => l'.getD i false) = fun i => listed.getD i false := funext fun i => by
        rw [hl']
        by_cases hi : i < ops.size
        · rw [hz i hi]; exact decide_eq_true hi
        · rw [decide_eq_false hi]; simp [Array.getD_eq_getD_getElem?, Array.getElem?_eq_none (show listed.size ≤ i by omega)]
      rw [e]; exact hM.world
    refine ⟨?_, hend a w fun l' hl' => ⟨hM.defers, hM.size, wEnd l' hl', hM.old, fun i o ho _ e he hb => by rw [hl']; exact decide_eq_true (Nat.lt_trans (hac i o ho e he hb) (Array.getElem?_eq_some_iff.1 ho).1), fun i o ho _ => hM.new i o ho (hz i (Array.getElem?_eq_some_iff.1 ho).1)⟩⟩
    cases hr : Region.ready .any ops listed with
    | nil => rfl
    | cons i l =>
      exfalso
      have hi : i ∈ Region.ready .any ops listed := by rw [hr]; exact List.mem_cons_self
      obtain ⟨hu, o, ho, _⟩ := mem_ready.1 hi
      have hio : i < ops.size := (Array.getElem?_eq_some_iff.1 ho).1
      have := hz i hio
      have hlt : i < listed.size := by omega
      simp [hlt] at hu this
      rw [hu] at this
      cases this
  | succ fuel ih =>
    intro listed a w hsz hc hM
    refine ⟨fun hr => hend a w fun l' hl' => ⟨hM.defers, hM.size, (by
      have e : (fun i => l'.getD i false) = fun i => listed.getD i false := funext fun i => by
        rw [hl']
        by_cases hi : i < ops.size
        · rw [hall listed hsz hr ops.size i hi hi]; exact decide_eq_true hi
        · rw [decide_eq_false hi]; simp [Array.getD_eq_getD_getElem?, Array.getElem?_eq_none (show listed.size ≤ i by omega)]
      rw [e]; exact hM.world), hM.old, fun i o ho _ e he hb => by rw [hl']; exact decide_eq_true (Nat.lt_trans (hac i o ho e he hb) (Array.getElem?_eq_some_iff.1 ho).1), fun i o ho _ => hM.new i o ho (hall listed hsz hr ops.size i (Array.getElem?_eq_some_iff.1 ho).1 (Array.getElem?_eq_some_iff.1 ho).1)⟩, fun i hi => ?_⟩
    obtain ⟨hu, o, ho, hdep⟩ := mem_ready.1 hi
    have hio : i < ops.size := (Array.getElem?_eq_some_iff.1 ho).1
    have hu2 : listed.getD i false = false := by
      have hlt : i < listed.size := by omega
      simp [hlt] at hu ⊢
      exact hu
    unfold wpOp
    simp only [ho]
    have hw : Region.wanted o (yielded ops a.tmps) = true := by simp [Region.wanted, hg i o ho]
    rw [if_pos hw]
    refine .inl (Oper.wp_mono ?_ (hstep i o ho listed a w hM hu2 hdep))
    rintro a' w' ⟨v, rfl, hY, hS, hst⟩
    refine ih _ _ _ (by simpa using hsz) (by have := left_set listed i (by omega) hu2 ops.size hio; omega) ⟨?_, ?_, ?_, ?_, ?_, ?_⟩
    · rw [← hM.defers]
      cases o.dst <;> rfl
    · rw [← hM.size]
      cases o.dst <;> simp [Act.put]
    · have e : (fun j => (listed.setIfInBounds i true).getD j false) = fun j => if j = i then true else listed.getD j false := funext fun j => by
        by_cases hj : j = i
        · subst hj
          have hlt : j < listed.size := by omega
          simp [Array.getD_eq_getD_getElem?, hlt]
        · simp [Array.getD_eq_getD_getElem?, Array.getElem?_setIfInBounds_ne (Ne.symm hj), hj]
      rw [e]; exact hS
    · intro k hk
      rw [← hM.old k hk]
      cases hod : o.dst with
      | none => rfl
      | some d =>
        have : d ≠ k := fun e => hk i o ho (by rw [hod, e])
        simp [Act.put, Array.getElem?_setIfInBounds_ne this]
    · intro j oj hoj hl e he hb
      have hl' : listed.getD e.on false = true := by
        by_cases e2 : j = i
        · subst e2
          obtain rfl : o = oj := Option.some.inj (ho.symm.trans hoj)
          exact hdep e he hb
        · have hl2 : listed.getD j false = true := by
            rw [← hl]
            simp [Array.getD_eq_getD_getElem?, Array.getElem?_setIfInBounds_ne (Ne.symm e2)]
          exact hM.closed j oj hoj hl2 e he hb
      exact getD_set_true hl'
    · intro j oj hoj hl
      by_cases e : j = i
      · subst e
        obtain rfl : o = oj := Option.some.inj (ho.symm.trans hoj)
        refine ⟨v, hY, fun d hdd' => ?_⟩
        have hdn := hd j o d ho hdd'
        rw [← hn, ← hM.size] at hdn
        simp [hdd', Act.put, hdn]
      · have hl2 : listed.getD j false = true := by
          rw [← hl]
          simp [Array.getD_eq_getD_getElem?, Array.getElem?_setIfInBounds_ne (Ne.symm e)]
        obtain ⟨u, hu', hd'⟩ := hM.new j oj hoj hl2
        refine ⟨u, hst j u e hl2 hu', fun d hdj => ?_⟩
        rw [← hd' d hdj]
        cases hod : o.dst with
        | none => rfl
        | some d2 =>
          have : d2 ≠ d := fun e2 => e (hdd j i oj o d hoj ho hdj (by rw [hod, e2]))
          simp [Act.put, Array.getElem?_setIfInBounds_ne this]

/-- THE LAW -/
theorem wp_region_freeL {id n : Nat} {a0 : Act} {w0 : World} {Y : Nat → Value → Act → World → Prop} {S : (Nat → Bool) → World → Prop} {Q : Exit → Act → World → Prop} (hm : P.follows .mixedOrders = true) (hB : freeB ops n = true) (hn : a0.tmps.size = n)
    (hS : S (fun _ => false) { w0 with drawn := w0.drawn + 1 })
    (hstep : ∀ (i : Nat) (o : Oper), ops[i]? = some o → ∀ (listed : Array Bool) (a : Act) (w : World), MidL ops a0 Y S listed a w → listed.getD i false = false → (∀ e ∈ o.after, Region.binds .any e = true → listed.getD e.on false = true) →
      o.wp P a w (fun a' w' => ∃ v, a' = a.put o.dst v ∧ Y i v a' w' ∧ S (fun j => if j = i then true else listed.getD j false) w' ∧ ∀ j u, j ≠ i → listed.getD j false = true → Y j u a w → Y j u a' w') Q)
    (hend : ∀ (vs : Nat → Value) (w : World), S (fun i => decide (i < ops.size)) w → (∀ (i : Nat) (o : Oper), ops[i]? = some o → Y i (vs i) (fill ops.toList vs 0 a0) w) → Q .normal (fill ops.toList vs 0 a0) w) : (Code.region id ops true).wp P Q a0 w0 := by
  refine wp_region_any hm ?_
  have hB2 := hB
  simp only [freeB, Bool.and_eq_true, decide_eq_true_eq] at hB2
  obtain ⟨⟨h1, h2⟩, _⟩ := hB2
  refine wpAnyL_mid hB hn hstep (fun a w hM => ?_) _ _ _ _ (by simp) ?_ ⟨rfl, rfl, (by
    have e : (fun i => (Array.replicate ops.size false).getD i false) = fun _ => false := funext fun i => by
      by_cases hi : i < ops.size <;> simp [Array.getD_eq_getD_getElem?, hi]
    rw [e]; exact hS), fun _ _ => rfl, fun i o _ hl => ?_, fun i o _ hl => ?_⟩
  · have M := hM (Array.replicate ops.size true) (fun i => by by_cases hi : i < ops.size <;> simp [Array.getD_eq_getD_getElem?, hi])
    have hl : ∀ (i : Nat) (o : Oper), ops[i]? = some o → (Array.replicate ops.size true).getD i false = true := fun i o ho => by
      have hi : i < ops.size := (Array.getElem?_eq_some_iff.1 ho).1
      simp [Array.getD_eq_getD_getElem?, hi]
    classical
    obtain ⟨vs, hvs⟩ : ∃ vs : Nat → Value, ∀ (i : Nat) (o : Oper), ops[i]? = some o → Y i (vs i) a w ∧ ∀ d, o.dst = some d → a.tmps[d]? = some (vs i) := by
      refine ⟨fun i => if h : ∃ v : Value, ∀ o : Oper, ops[i]? = some o → Y i v a w ∧ ∀ d, o.dst = some d → a.tmps[d]? = some v then h.choose else undef, fun i o ho => ?_⟩
      have hex : ∃ v : Value, ∀ o : Oper, ops[i]? = some o → Y i v a w ∧ ∀ d, o.dst = some d → a.tmps[d]? = some v := by
        obtain ⟨v, hv⟩ := M.new i o ho (hl i o ho)
        exact ⟨v, fun o' ho' => by obtain rfl : o = o' := Option.some.inj (ho.symm.trans ho'); exact hv⟩
      dsimp only
      rw [dif_pos hex]
      exact hex.choose_spec o ho
    have ha : a = fill ops.toList vs 0 a0 := by
      have ht : a.tmps = (fill ops.toList vs 0 a0).tmps := by
        apply Array.ext_getElem?
        intro k
        by_cases hk : ∃ (i : Nat) (o : Oper), ops[i]? = some o ∧ o.dst = some k
        · obtain ⟨i, o, ho, hd⟩ := hk
          have hkn : k < a0.tmps.size := by
            have := List.all_eq_true.1 h1 o (by simpa using Array.mem_of_getElem? ho)
            simp only [Bool.and_eq_true, hd] at this
            rw [hn]
            simpa using this.2
          rw [fill_at k ops.toList vs 0 a0 i o (by simpa using ho) hd h2 hkn, (hvs i o ho).2 k hd, Nat.zero_add]
        · have hk2 : ∀ (i : Nat) (o : Oper), ops[i]? = some o → o.dst ≠ some k := fun i o ho e => hk ⟨i, o, ho, e⟩
          rw [M.old k hk2, fill_not k ops.toList vs 0 a0]
          intro o ho e
          obtain ⟨i, hi, rfl⟩ := List.getElem_of_mem ho
          exact hk2 i _ (by simp at hi; simp [hi]) e
      have hdf := M.defers
      rw [← fill_defers ops.toList vs 0 a0] at hdf
      cases a
      cases hfl : fill ops.toList vs 0 a0
      rw [hfl] at ht hdf
      simp only at ht hdf
      rw [ht, hdf]
    rw [ha]
    refine hend vs w (by
      have e : (fun i => (Array.replicate ops.size true).getD i false) = fun i => decide (i < ops.size) := funext fun i => by
        by_cases hi : i < ops.size <;> simp [Array.getD_eq_getD_getElem?, hi]
      have M2 := M.world
      rw [e] at M2; exact M2) fun i o ho => ?_
    rw [← ha]
    exact (hvs i o ho).1
  · clear hstep hend
    have : ∀ n, left (Array.replicate ops.size false) n ≤ n := fun n => by
      induction n with
      | zero => simp [left]
      | succ n ih => rw [left]; split <;> omega
    exact this _
  all_goals
    exfalso
    simp [Array.getD_eq_getD_getElem?, Array.getElem?_replicate] at hl
    split at hl <;> simp at hl
/-- what an operation may know of the slots -/
def FactsL (ops : Array Oper) (a0 : Act) (con : Nat → Value) (o : Oper) (a : Act) : Prop :=
  (∀ e ∈ o.after, Region.binds .any e = true → ∀ (oj : Oper) (dj : Tmp), ops[e.on]? = some oj → oj.dst = some dj → a.tmps[dj]?.getD undef = con e.on) ∧
  (∀ k, (ops.toList.all fun o => o.dst != some k) = true → a.tmps[k]?.getD undef = a0.tmps[k]?.getD undef)

/-- what has come up has come behind all that it waits for, and so on -/
theorem sink_listed {last : Nat} {listed : Array Bool} (hw : Region.sinkB .any ops last = true)
    (hc : ∀ (i : Nat) (o : Oper), ops[i]? = some o → listed.getD i false = true → ∀ e ∈ o.after, Region.binds .any e = true → listed.getD e.on false = true)
    (hl : listed.getD last false = true) : ∀ (d i : Nat), last - i ≤ d → i ≤ last → listed.getD i false = true
  | 0, i, h1, h2 => by
    obtain rfl : i = last := by omega
    exact hl
  | d + 1, i, h1, h2 => by
    by_cases e : i = last
    · subst e; exact hl
    · have h3 := List.all_eq_true.1 hw i (List.mem_range.2 (by omega))
      obtain ⟨j, hj, h4⟩ := List.any_eq_true.1 h3
      simp only [Bool.and_eq_true, decide_eq_true_eq] at h4
      have hjl : j < last + 1 := List.mem_range.1 hj
      obtain ⟨oj, hoj, e2, he2, hb2, hon⟩ := Region.waitsFor_spec h4.2
      have := hc j oj hoj (sink_listed hw hc hl d j (by omega) (by omega)) e2 he2 hb2
      rwa [hon] at this

/-- THE LAW AT OPERATIONS THAT ONLY MAKE MEMORY AND ONE STORE THAT COMES LAST -/
theorem wp_region_last {id n : Nat} {a0 : Act} {w0 : World} {Q : Exit → Act → World → Prop} (con : Nat → Value) (last : Nat) (f : World → World) (os : Oper)
    (hm : P.follows .mixedOrders = true) (hB : freeB ops n = true) (hn : a0.tmps.size = n) (hs : ops[last]? = some os) (hsd : os.dst = none) (hsz : ops.size = last + 1)
    (hw : Region.sinkB .any ops last = true)
    (hcon : ∀ (i : Nat) (o : Oper), ops[i]? = some o → i < last → ∀ (a : Act) (w : World), Below w0.heap.size w0 w → FactsL ops a0 con o a →
      o.wp P a w (fun a' w' => a' = a.put o.dst (con i) ∧ Below w.heap.size w w') Q)
    (hst : ∀ (a : Act) (w : World), Below w0.heap.size w0 w → FactsL ops a0 con os a → os.wp P a w (fun a' w' => a' = a ∧ w' = f w) Q)
    (hend : ∀ w, Below w0.heap.size w0 w → Q .normal (fill ops.toList con 0 a0) (f w)) : (Code.region id ops true).wp P Q a0 w0 := by
  let Y : Nat → Value → Act → World → Prop := fun i v a w => i < last → v = con i
  let S : (Nat → Bool) → World → Prop := fun g w => (g last = false → Below w0.heap.size w0 w) ∧ (g last = true → ∃ w1, Below w0.heap.size w0 w1 ∧ w = f w1)
  have facts : ∀ (listed : Array Bool) (o : Oper) (i : Nat) (a : Act) (w : World), ops[i]? = some o → MidL ops a0 Y S listed a w →
      (∀ e ∈ o.after, Region.binds .any e = true → listed.getD e.on false = true) → (∀ e ∈ o.after, Region.binds .any e = true → e.on < last) → FactsL ops a0 con o a := by
    intro listed o i a w ho hM hdl hlt
    refine ⟨fun e he hb oj dj hoj hdj => ?_, fun k hk => ?_⟩
    · obtain ⟨v, hv, hvd⟩ := hM.new e.on oj hoj (hdl e he hb)
      rw [hvd dj hdj, ← hv (hlt e he hb)]
      rfl
    · rw [hM.old k fun i o' ho' hd' => ?_]
      have := List.all_eq_true.1 hk o' (by simpa using Array.mem_of_getElem? ho')
      simp [hd'] at this
  have hB2 := hB
  simp only [freeB, Bool.and_eq_true, decide_eq_true_eq] at hB2
  obtain ⟨⟨_, _⟩, h3⟩ := hB2
  have hac : ∀ (i : Nat) (o : Oper), ops[i]? = some o → ∀ e ∈ o.after, Region.binds .any e = true → e.on < i := fun i o ho e he hb => by
    have hi : i < ops.size := (Array.getElem?_eq_some_iff.1 ho).1
    have := List.all_eq_true.1 h3 i (List.mem_range.2 hi)
    rw [ho] at this
    have h5 : (o.after.all fun e => !Region.binds .any e || decide (e.on < i)) = true := this
    have := Array.all_eq_true_iff_forall_mem.1 h5 e he
    simpa [hb] using this
  refine wp_region_freeL (Y := Y) (S := S) hm hB hn ⟨fun _ => (Below.refl w0.heap.size w0).drew, fun h => (by cases h)⟩ ?_ ?_
  · intro i o ho listed a w hM hu hdl
    have hi : i < ops.size := (Array.getElem?_eq_some_iff.1 ho).1
    by_cases hil : i = last
    · subst hil
      obtain rfl : o = os := Option.some.inj (ho.symm.trans hs)
      have hw1 : Below w0.heap.size w0 w := hM.world.1 hu
      refine Oper.wp_mono ?_ (hst a w hw1 (facts listed o i a _ ho hM hdl (hac i o ho)))
      rintro a' w' ⟨rfl, rfl⟩
      exact ⟨undef, by rw [hsd]; rfl, fun h => absurd h (by omega), ⟨fun h => (by simp at h), fun _ => ⟨w, hw1, rfl⟩⟩, fun j u hj _ hY => hY⟩
    · have hlt : i < last := by omega
      have hnl : listed.getD last false = false := by
        cases hl : listed.getD last false with
        | false => rfl
        | true =>
          exfalso
          have := sink_listed hw hM.closed hl (last - i) i (Nat.le_refl _) (by omega)
          rw [hu] at this
          cases this
      have hw1 : Below w0.heap.size w0 w := hM.world.1 hnl
      refine Oper.wp_mono ?_ (hcon i o ho hlt a w hw1 (facts listed o i a _ ho hM hdl (fun e he hb => Nat.lt_trans (hac i o ho e he hb) hlt)))
      rintro a' w' ⟨rfl, hb⟩
      refine ⟨con i, rfl, fun _ => rfl, ?_, fun j u hj _ hY => hY⟩
      refine ⟨fun _ => hw1.trans (hb.mono hw1.size), fun h => ?_⟩
      dsimp only at h
      rw [if_neg (Ne.symm hil), hnl] at h
      cases h
  · intro vs w hw1 hall
    obtain ⟨w1, hb1, rfl⟩ := hw1.2 (decide_eq_true (by omega))
    have hc : fill ops.toList vs 0 a0 = fill ops.toList con 0 a0 := by
      have hl : ops.toList = ops.toList.take last ++ [os] := by
        have h1 : ops.toList[last]? = some os := by simpa using hs
        have h2 : ops.toList.length = last + 1 := by simpa using hsz
        apply List.ext_getElem?
        intro k
        by_cases hk : k < last
        · rw [List.getElem?_append_left (by simp; omega), List.getElem?_take, if_pos hk]
        · by_cases hk2 : k = last
          · subst hk2
            rw [h1, List.getElem?_append_right (by simp; omega)]
            simp [show min k (k + 1) = k by omega, hsz]
          · rw [List.getElem?_eq_none (by omega), List.getElem?_eq_none (by simp; omega)]
      have hf : ∀ (l : List Oper) (us : Nat → Value) (b : Nat) (a : Act), fill (l ++ [os]) us b a = fill l us b a := by
        intro l
        induction l with
        | nil => intro us b a; simp [fill, hsd, Act.put]
        | cons o l ih => intro us b a; rw [List.cons_append, fill, fill, ih]
      rw [hl, hf, hf]
      refine fill_congr _ _ _ 0 a0 fun i hi => ?_
      simp only [Nat.zero_add]
      have hil : i < last := by simp at hi; omega
      have hio : i < ops.size := by omega
      exact hall i ops[i] (by simp [hio]) hil
    rw [hc]
    exact hend w1 hb1

/-- THE LAW AT OPERATIONS THAT ONLY MAKE MEMORY -/
theorem wp_region_below {id n : Nat} {a0 : Act} {w0 : World} {Q : Exit → Act → World → Prop} (con : Nat → Value)
    (hm : P.follows .mixedOrders = true) (hB : freeB ops n = true) (hn : a0.tmps.size = n)
    (hcon : ∀ (i : Nat) (o : Oper), ops[i]? = some o → ∀ (a : Act) (w : World), Below w0.heap.size w0 w → FactsL ops a0 con o a →
      o.wp P a w (fun a' w' => a' = a.put o.dst (con i) ∧ Below w.heap.size w w') Q)
    (hend : ∀ w, Below w0.heap.size w0 w → Q .normal (fill ops.toList con 0 a0) w) : (Code.region id ops true).wp P Q a0 w0 := by
  let Y : Nat → Value → Act → World → Prop := fun i v a w => v = con i
  refine wp_region_freeL (Y := Y) (S := fun _ w => Below w0.heap.size w0 w) hm hB hn (Below.refl w0.heap.size w0).drew ?_ ?_
  · intro i o ho listed a w hM hu hdl
    have hf : FactsL ops a0 con o a := by
      refine ⟨fun e he hb oj dj hoj hdj => ?_, fun k hk => ?_⟩
      · obtain ⟨v, hv, hvd⟩ := hM.new e.on oj hoj (hdl e he hb)
        have hv' : v = con e.on := hv
        rw [hvd dj hdj, ← hv']
        rfl
      · rw [hM.old k fun i o' ho' hd' => ?_]
        have := List.all_eq_true.1 hk o' (by simpa using Array.mem_of_getElem? ho')
        simp [hd'] at this
    refine Oper.wp_mono ?_ (hcon i o ho a w hM.world hf)
    rintro a' w' ⟨rfl, hb⟩
    exact ⟨con i, rfl, rfl, hM.world.trans (hb.mono hM.world.size), fun j u hj _ hY => hY⟩
  · intro vs w hS hall
    have hc : fill ops.toList vs 0 a0 = fill ops.toList con 0 a0 := fill_congr _ _ _ 0 a0 fun i hi => by
      simp only [Nat.zero_add]
      have hio : i < ops.size := by simpa using hi
      exact hall i ops[i] (by simp [hio])
    rw [hc]
    exact hend w hS
end
end Go.Proofs.YtbbgibbpeibhiaaGreatDoor.FreeL

