/-
  Texts of one seat, joined: Plain, Tree, TrimT.
-/
import Derived.Below
import Derived.WalkKit
import Derived.Lib.IndexLaws
import Derived.Lib.IndexAny
import Derived.Laws.Entries
/-
  Plain facts on lists of digits; nothing of the program.
-/
namespace Go.Proofs.YtgfhahlkffagaaaDoor.Plain
open Go.RowKit

/-- the digit of a truth value -/
def dig (b : Bool) : UInt8 := if b then 49 else 48
/-- a truth value as a number -/
def bitI (b : Bool) : Int := if b then 1 else 0
theorem bitI_false : bitI false = 0 := rfl
theorem bitI_true : bitI true = 1 := rfl
/-- the digits of a row -/
def rowB (E : Nat → Nat → Bool) (x c : Nat) : List UInt8 := (List.range c).map fun y => dig (E x y)
/-- the digits of so many rows -/
def rowsB (E : Nat → Nat → Bool) (r c : Nat) : List UInt8 := (List.range r).flatMap fun x => rowB E x c

theorem rowB_zero (E : Nat → Nat → Bool) (x : Nat) : rowB E x 0 = [] := rfl
theorem rowB_succ (E : Nat → Nat → Bool) (x c : Nat) : rowB E x (c + 1) = rowB E x c ++ [dig (E x c)] := by
  simp [rowB, List.range_succ]
theorem rowsB_zero (E : Nat → Nat → Bool) (c : Nat) : rowsB E 0 c = [] := rfl
theorem rowsB_succ (E : Nat → Nat → Bool) (r c : Nat) : rowsB E (r + 1) c = rowsB E r c ++ rowB E r c := by
  simp [rowsB, List.range_succ]
theorem rowB_length (E : Nat → Nat → Bool) (x c : Nat) : (rowB E x c).length = c := by simp [rowB]
theorem rowsB_length (E : Nat → Nat → Bool) (r c : Nat) : (rowsB E r c).length = r * c := by
  induction r with
  | zero => simp [rowsB_zero]
  | succ r ih => rw [rowsB_succ, List.length_append, ih, rowB_length, Nat.succ_mul]
theorem rowB_congr {E F : Nat → Nat → Bool} {x c : Nat} (h : ∀ y, y < c → E x y = F x y) : rowB E x c = rowB F x c := by
  unfold rowB
  apply List.map_congr_left
  intro y hy
  rw [h y (List.mem_range.1 hy)]
theorem rowsB_congr {E F : Nat → Nat → Bool} {r c : Nat} (h : ∀ x y, x < r → y < c → E x y = F x y) : rowsB E r c = rowsB F r c := by
  induction r with
  | zero => rfl
  | succ r ih => rw [rowsB_succ, rowsB_succ, ih (fun x y hx hy => h x y (by omega) hy), rowB_congr (fun y hy => h r y (by omega) hy)]

/-- the number of ones of a number below 8 -/
def ones (n : Nat) : Nat := n % 2 + n / 2 % 2 + n / 4 % 2

/-- a string of so many digits -/
def str (l : List UInt8) : ByteArray := ⟨l.toArray⟩
theorem str_append (l m : List UInt8) : str l ++ str m = str (l ++ m) := by
  apply ByteArray.ext
  simp [str]
theorem str_nil : str [] = ByteArray.empty := rfl
theorem str_one (u : UInt8) : (⟨#[u]⟩ : ByteArray) = str [u] := rfl
theorem str_size (l : List UInt8) : (str l).size = l.length := by simp [str, ByteArray.size]
theorem part_size (E : Nat → Nat → Bool) {k j r c : Nat} (hr : r ≤ 8) (hc : c ≤ 8) (hk : k < r) (hj : j < c) : (str (rowsB E k c ++ rowB E k j)).size ≤ 64 := by
  rw [str_size, List.length_append, rowsB_length, rowB_length]
  have : k * c ≤ 7 * 8 := Nat.mul_le_mul (by omega) hc
  omega
theorem part_next (E : Nat → Nat → Bool) (k j c : Nat) : str (rowsB E k c ++ rowB E k j) ++ ⟨#[dig (E k j)]⟩ = str (rowsB E k c ++ rowB E k (j + 1)) := by
  rw [str_one, str_append, rowB_succ, List.append_assoc]
theorem part_done (E : Nat → Nat → Bool) (k c : Nat) : str (rowsB E k c ++ rowB E k c) = str (rowsB E (k + 1) c) := by rw [rowsB_succ]
theorem part_start (E : Nat → Nat → Bool) (k c : Nat) : str (rowsB E k c) = str (rowsB E k c ++ rowB E k 0) := by rw [rowB_zero, List.append_nil]
theorem prod_le {r c : Nat} (hr : r ≤ 8) (hc : c ≤ 8) : r * c ≤ 64 := Nat.mul_le_mul hr hc
theorem wrap_prod (r c : Nat) (hr : r ≤ 8) (hc : c ≤ 8) : wrap64 ((r : Int) * (c : Int)) = ((r * c : Nat) : Int) := by
  have h := prod_le hr hc
  rw [← Int.natCast_mul]
  unfold wrap64
  omega
end Go.Proofs.YtgfhahlkffagaaaDoor.Plain

/-
  Protocols as trees: their texts, what is read of a text, and what is told of a tree. Nothing of the program.
-/
namespace Go.Proofs.YtgfhahlkffagaaaDoor.Tree
open Go.RowKit Go.Proofs.YtgfhahlkffagaaaDoor.Plain
set_option linter.unusedVariables false

/-- a protocol: an end, or a bit of a player (true: the first one) about a set, with what follows -/
inductive T where
  | leaf (b : Bool)
  | say (a : Bool) (s : Nat) (z o : T)

/-- the digits of 16 values -/
def hexL : List UInt8 := [48, 49, 50, 51, 52, 53, 54, 55, 56, 57, 97, 98, 99, 100, 101, 102]
def hexD (n : Nat) : UInt8 := hexL.getD n 0
def hexV (c : UInt8) : Int := Lib.indexByte hexL c
/-- the letter of a player -/
def whoB (a : Bool) : UInt8 := if a then 65 else 66

theorem hexV_D (n : Nat) (h : n < 16) : hexV (hexD n) = (n : Int) := by
  have : ∀ k : Fin 16, hexV (hexD k.1) = (k.1 : Int) := by decide
  exact this ⟨n, h⟩
theorem hexV_ge (c : UInt8) : -1 ≤ hexV c := Lib.indexByte_ge hexL c
theorem hexD_V (c : UInt8) (h : 0 ≤ hexV c) : hexD (hexV c).toNat = c ∧ (hexV c).toNat < 16 := by
  obtain ⟨o, ho⟩ : ∃ o : Nat, hexV c = o := ⟨(hexV c).toNat, by omega⟩
  have h1 := (Lib.indexByte_some (l := hexL) (c := c) (o := o) ho).1
  have h2 : o < hexL.length := (List.getElem?_eq_some_iff.1 h1).1
  rw [ho]
  refine ⟨?_, h2⟩
  show hexL.getD o 0 = c
  rw [List.getD_eq_getElem?_getD, h1]
  rfl

theorem idx_hi (c : UInt8) : hexV c < 16 := by
  by_cases h : 0 ≤ hexV c
  · have := (hexD_V c h).2
    omega
  · omega

/-- the text of a protocol -/
def text : T → List UInt8
  | .leaf b => [dig b]
  | .say a s z o => whoB a :: hexD (s / 16) :: hexD (s % 16) :: (text z ++ text o)
/-- its sets are told by two digits -/
def wf : T → Prop
  | .leaf _ => True
  | .say _ s z o => s < 256 ∧ wf z ∧ wf o
/-- no protocol stands at the begin of a text -/
def No (l : List UInt8) : Prop := ∀ t r, wf t → l ≠ text t ++ r
theorem yes_or_no (l : List UInt8) : (∃ t r, wf t ∧ l = text t ++ r) ∨ No l := by
  by_cases h : ∃ t r, wf t ∧ l = text t ++ r
  · exact .inl h
  · exact .inr fun t r hw e => h ⟨t, r, hw, e⟩
/-- a text is a protocol -/
def Is (l : List UInt8) : Prop := ∃ t, wf t ∧ l = text t

theorem text_pos (t : T) : 0 < (text t).length := by cases t <;> simp [text]
theorem No.nil : No [] := by
  intro t r _ e
  have := text_pos t
  have h := congrArg List.length e
  simp at h
  omega
theorem text_head (t : T) (r : List UInt8) : (∃ b, t = .leaf b ∧ text t ++ r = dig b :: r) ∨
    (∃ a s z o, t = .say a s z o ∧ text t ++ r = whoB a :: hexD (s / 16) :: hexD (s % 16) :: (text z ++ (text o ++ r))) := by
  cases t with
  | leaf b => exact .inl ⟨b, rfl, rfl⟩
  | say a s z o => exact .inr ⟨a, s, z, o, rfl, by simp [text]⟩
theorem dig_or (c : UInt8) (h : c = 48 ∨ c = 49) : ∃ b, c = dig b := by
  rcases h with rfl | rfl
  · exact ⟨false, rfl⟩
  · exact ⟨true, rfl⟩
theorem who_or (c : UInt8) (h : c = 65 ∨ c = 66) : ∃ a, c = whoB a := by
  rcases h with rfl | rfl
  · exact ⟨true, rfl⟩
  · exact ⟨false, rfl⟩
theorem No.not_dig {c : UInt8} {r : List UInt8} (h : No (c :: r)) : c ≠ 48 ∧ c ≠ 49 := by
  constructor
  · rintro rfl; exact h (.leaf false) r trivial rfl
  · rintro rfl; exact h (.leaf true) r trivial rfl
/-- a letter, two digits and two protocols are a protocol -/
theorem No.say {a : Bool} {x y : UInt8} {z o : T} {r : List UInt8} (h : No (whoB a :: x :: y :: (text z ++ (text o ++ r)))) (hx : 0 ≤ hexV x) (hy : 0 ≤ hexV y) (hz : wf z) (ho : wf o) : False := by
  obtain ⟨ex, lx⟩ := hexD_V x hx
  obtain ⟨ey, ly⟩ := hexD_V y hy
  refine h (.say a (16 * (hexV x).toNat + (hexV y).toNat) z o) r ⟨by omega, hz, ho⟩ ?_
  have e1 : (16 * (hexV x).toNat + (hexV y).toNat) / 16 = (hexV x).toNat := by omega
  have e2 : (16 * (hexV x).toNat + (hexV y).toNat) % 16 = (hexV y).toNat := by omega
  simp only [text, e1, e2, ex, ey, List.cons_append, List.append_assoc]
theorem set_hex (s : Nat) (h : s < 256) : (16 * (hexV (hexD (s / 16))) + hexV (hexD (s % 16)) : Int) = s := by
  rw [hexV_D _ (by omega), hexV_D _ (by omega)]
  omega

/-- two texts that begin with a protocol: the same protocol -/
theorem text_inj : ∀ (t u : T) (r q : List UInt8), wf t → wf u → text t ++ r = text u ++ q → t = u ∧ r = q
  | .leaf b, u, r, q, _, hu, e => by
    rcases text_head u q with ⟨b2, rfl, h2⟩ | ⟨a, s, z, o, rfl, h2⟩
    · rw [h2] at e
      simp only [text, List.singleton_append, List.cons.injEq] at e
      refine ⟨?_, e.2⟩
      have := e.1
      cases b <;> cases b2 <;> simp [dig] at this ⊢
    · rw [h2] at e
      simp only [text, List.singleton_append, List.cons.injEq] at e
      have := e.1
      cases b <;> cases a <;> simp [dig, whoB] at this
  | .say a s z o, u, r, q, ht, hu, e => by
    rcases text_head u q with ⟨b2, rfl, h2⟩ | ⟨a2, s2, z2, o2, rfl, h2⟩
    · rw [h2] at e
      simp only [text, List.cons_append, List.cons.injEq] at e
      have := e.1
      cases b2 <;> cases a <;> simp [dig, whoB] at this
    · rw [h2] at e
      simp only [text, List.cons_append, List.append_assoc, List.cons.injEq] at e
      obtain ⟨e1, e2, e3, e4⟩ := e
      obtain ⟨ez, e5⟩ := text_inj z z2 _ _ ht.2.1 hu.2.1 e4
      obtain ⟨eo, e6⟩ := text_inj o o2 _ _ ht.2.2 hu.2.2 e5
      have ha : a = a2 := by cases a <;> cases a2 <;> simp [whoB] at e1 ⊢
      have hs : s = s2 := by
        have h1 := set_hex s ht.1
        have h3 := set_hex s2 hu.1
        rw [e2, e3] at h1
        omega
      exact ⟨by rw [ha, hs, ez, eo], e6⟩

/-- the greatest number of bits -/
def bits : T → Nat
  | .leaf _ => 0
  | .say _ _ z o => 1 + max (bits z) (bits o)
/-- the number of ends -/
def ends : T → Nat
  | .leaf _ => 1
  | .say _ _ z o => ends z + ends o
theorem bits_lt : ∀ t, bits t < (text t).length
  | .leaf _ => by simp [bits, text]
  | .say _ _ z o => by
    have h1 := bits_lt z
    have h2 := bits_lt o
    simp only [bits, text, List.length_cons, List.length_append]
    omega
theorem ends_le : ∀ t, ends t ≤ (text t).length
  | .leaf _ => by simp [ends, text]
  | .say _ _ z o => by
    have h1 := ends_le z
    have h2 := ends_le o
    simp only [ends, text, List.length_cons, List.length_append]
    omega
/-- players exchanged -/
def turnT : T → T
  | .leaf b => .leaf b
  | .say a s z o => .say (!a) s (turnT z) (turnT o)
theorem turn_wf : ∀ t, wf t → wf (turnT t)
  | .leaf _, _ => trivial
  | .say _ _ z o, h => ⟨h.1, turn_wf z h.2.1, turn_wf o h.2.2⟩
theorem turn_length : ∀ t, (text (turnT t)).length = (text t).length
  | .leaf _ => rfl
  | .say _ _ z o => by simp only [turnT, text, List.length_cons, List.length_append, turn_length z, turn_length o]
/-- other protocols at the ends -/
def graftT (zero one : T) : T → T
  | .leaf b => if b then one else zero
  | .say a s z o => .say a s (graftT zero one z) (graftT zero one o)
theorem graft_wf (zero one : T) (h0 : wf zero) (h1 : wf one) : ∀ t, wf t → wf (graftT zero one t)
  | .leaf b, _ => by cases b <;> assumption
  | .say _ _ z o, h => ⟨h.1, graft_wf zero one h0 h1 z h.2.1, graft_wf zero one h0 h1 o h.2.2⟩
/-- how many ends have a value -/
def endsOf (v : Bool) : T → Nat
  | .leaf b => if b = v then 1 else 0
  | .say _ _ z o => endsOf v z + endsOf v o
theorem ends_sum : ∀ t, endsOf false t + endsOf true t = ends t
  | .leaf b => by cases b <;> rfl
  | .say _ _ z o => by
    have h1 := ends_sum z
    have h2 := ends_sum o
    simp only [endsOf, ends]
    omega
theorem graft_length (zero one : T) : ∀ t, (text (graftT zero one t)).length = (text t).length + endsOf false t * ((text zero).length - 1) + endsOf true t * ((text one).length - 1)
  | .leaf b => by
    have h0 := text_pos zero
    have h1 := text_pos one
    cases b <;> simp [graftT, endsOf, text] <;> omega
  | .say _ _ z o => by
    have h1 := graft_length zero one z
    have h2 := graft_length zero one o
    simp only [graftT, endsOf, text, List.length_cons, List.length_append, Nat.add_mul, h1, h2]
    omega
end Go.Proofs.YtgfhahlkffagaaaDoor.Tree

/-
  Parts of a rectangle behind a bit; a protocol without what is never said. Nothing of the program.
-/
namespace Go.Proofs.YtgfhahlkffagaaaDoor.TrimT
open Go.RowKit Go.Proofs.YtgfhahlkffagaaaDoor.Plain Go.Proofs.YtgfhahlkffagaaaDoor.Tree
set_option linter.unusedVariables false

def meetN (a b : Nat) : Nat := (BitVec.ofNat 64 a &&& BitVec.ofNat 64 b).toNat
def minusN (a b : Nat) : Nat := (BitVec.ofNat 64 a &&& ~~~ BitVec.ofNat 64 b).toNat
theorem ofInt_nat (a : Nat) : BitVec.ofInt 64 (a : Int) = BitVec.ofNat 64 a := by
  apply BitVec.eq_of_toNat_eq
  simp
theorem meet_le (a b : Nat) (h : a < 256) : meetN a b ≤ a := by
  unfold meetN
  rw [BitVec.toNat_and]
  refine Nat.le_trans Nat.and_le_left ?_
  rw [BitVec.toNat_ofNat, Nat.mod_eq_of_lt (by omega)]
  exact Nat.le_refl _
theorem minus_le (a b : Nat) (h : a < 256) : minusN a b ≤ a := by
  unfold minusN
  rw [BitVec.toNat_and]
  refine Nat.le_trans Nat.and_le_left ?_
  rw [BitVec.toNat_ofNat, Nat.mod_eq_of_lt (by omega)]
  exact Nat.le_refl _
theorem wrap_small (n : Nat) (h : n < 256) : IntKind.i64.wrap (n : Int) = (n : Int) := by
  simp only [IntKind.wrap_i64]
  omega
theorem bit_and (a b : Nat) (h : a < 256) : bits .and .i64 (a : Int) (b : Int) = (meetN a b : Int) := by
  show IntKind.i64.wrap ((BitVec.ofInt 64 (a : Int) &&& BitVec.ofInt 64 (b : Int)).toNat : Int) = _
  rw [ofInt_nat, ofInt_nat]
  exact wrap_small _ (Nat.lt_of_le_of_lt (meet_le a b h) h)
theorem bit_minus (a b : Nat) (h : a < 256) : bits .andNot .i64 (a : Int) (b : Int) = (minusN a b : Int) := by
  show IntKind.i64.wrap ((BitVec.ofInt 64 (a : Int) &&& ~~~ BitVec.ofInt 64 (b : Int)).toNat : Int) = _
  rw [ofInt_nat, ofInt_nat]
  exact wrap_small _ (Nat.lt_of_le_of_lt (minus_le a b h) h)
theorem ofInt_wrap (v : BitVec 64) : BitVec.ofInt 64 (IntKind.i64.wrap (v.toNat : Int)) = v := by
  apply BitVec.eq_of_toNat_eq
  have hv := v.isLt
  simp only [IntKind.wrap_i64]
  rw [BitVec.toNat_ofInt]
  have e : (2 : Nat) ^ 64 = 18446744073709551616 := by decide
  rw [e] at hv ⊢
  omega
theorem not_xor (b : Nat) : BitVec.ofInt 64 (-1) ^^^ BitVec.ofNat 64 b = ~~~ BitVec.ofNat 64 b := by
  have e : BitVec.ofInt 64 (-1) = BitVec.allOnes 64 := by decide
  rw [e, BitVec.allOnes_xor]
theorem bit_not_and (a b : Nat) (h : a < 256) : bits .and .i64 (a : Int) (bits .xor .i64 (-1) (b : Int)) = (minusN a b : Int) := by
  show IntKind.i64.wrap ((BitVec.ofInt 64 (a : Int) &&& BitVec.ofInt 64 (IntKind.i64.wrap ((BitVec.ofInt 64 (-1) ^^^ BitVec.ofInt 64 (b : Int)).toNat : Int))).toNat : Int) = _
  rw [ofInt_wrap, ofInt_nat, ofInt_nat, not_xor]
  exact wrap_small _ (Nat.lt_of_le_of_lt (minus_le a b h) h)
theorem both_zero (a b : Nat) (h : a < 256) (h1 : meetN a b = 0) (h2 : minusN a b = 0) : a = 0 := by
  unfold meetN at h1
  unfold minusN at h2
  have e1 : BitVec.ofNat 64 a &&& BitVec.ofNat 64 b = 0#64 := BitVec.eq_of_toNat_eq (by rw [h1]; rfl)
  have e2 : BitVec.ofNat 64 a &&& ~~~ BitVec.ofNat 64 b = 0#64 := BitVec.eq_of_toNat_eq (by rw [h2]; rfl)
  have e3 : BitVec.ofNat 64 a = 0#64 := by
    apply BitVec.eq_of_getLsbD_eq
    intro i hi
    have g1 := congrArg (fun v => v.getLsbD i) e1
    have g2 := congrArg (fun v => v.getLsbD i) e2
    simp only [BitVec.getLsbD_and, BitVec.getLsbD_not, BitVec.getLsbD_zero, hi, decide_true, Bool.true_and] at g1 g2 ⊢
    cases hx : (BitVec.ofNat 64 a).getLsbD i <;> cases hy : (BitVec.ofNat 64 b).getLsbD i <;> simp [hx, hy] at g1 g2 ⊢
  have := congrArg BitVec.toNat e3
  rw [BitVec.toNat_ofNat, Nat.mod_eq_of_lt (by omega)] at this
  simpa using this

/-- what is left of the rows and columns behind the bit 0, and behind the bit 1 -/
def outR (a : Bool) (s R : Nat) : Nat := if a then minusN R s else R
def outC (a : Bool) (s C : Nat) : Nat := if a then C else minusN C s
def inR (a : Bool) (s R : Nat) : Nat := if a then meetN R s else R
def inC (a : Bool) (s C : Nat) : Nat := if a then C else meetN C s
theorem parts_lt (a : Bool) (s : Nat) {R C : Nat} (hR : R < 256) (hC : C < 256) : outR a s R < 256 ∧ outC a s C < 256 ∧ inR a s R < 256 ∧ inC a s C < 256 := by
  have h1 := meet_le R s hR
  have h2 := meet_le C s hC
  have h3 := minus_le R s hR
  have h4 := minus_le C s hC
  cases a <;> simp only [outR, outC, inR, inC, if_true, if_false, Bool.false_eq_true] <;> omega
theorem not_both (a : Bool) (s : Nat) {R C : Nat} (hR : R < 256) (hC : C < 256) (hR1 : 1 ≤ R) (hC1 : 1 ≤ C) (h : inR a s R = 0 ∨ inC a s C = 0) : 1 ≤ outR a s R ∧ 1 ≤ outC a s C := by
  cases a
  · simp only [outR, outC, inR, inC, if_false, Bool.false_eq_true] at h ⊢
    rcases h with h | h
    · omega
    · have := fun h2 => both_zero C s hC h h2
      omega
  · simp only [outR, outC, inR, inC, if_true] at h ⊢
    rcases h with h | h
    · have := fun h2 => both_zero R s hR h h2
      omega
    · omega
/-- without what is never said -/
def trimT : T → Nat → Nat → T
  | .leaf b, _, _ => .leaf b
  | .say a s z o, R, C =>
    if inR a s R = 0 ∨ inC a s C = 0 then trimT z (outR a s R) (outC a s C)
    else if outR a s R = 0 ∨ outC a s C = 0 then trimT o (inR a s R) (inC a s C)
    else .say a (if a then inR a s R else inC a s C) (trimT z (outR a s R) (outC a s C)) (trimT o (inR a s R) (inC a s C))
theorem trim_wf : ∀ (t : T) (R C : Nat), R < 256 → C < 256 → wf t → wf (trimT t R C)
  | .leaf _, _, _, _, _, _ => trivial
  | .say a s z o, R, C, hR, hC, hw => by
    obtain ⟨h1, h2, h3, h4⟩ := parts_lt a s hR hC
    have iz := trim_wf z _ _ h1 h2 hw.2.1
    have io := trim_wf o _ _ h3 h4 hw.2.2
    unfold trimT
    split
    · exact iz
    · split
      · exact io
      · refine ⟨?_, iz, io⟩
        cases a
        · exact h4
        · exact h3
theorem trim_length : ∀ (t : T) (R C : Nat), (text (trimT t R C)).length ≤ (text t).length
  | .leaf _, _, _ => Nat.le_refl _
  | .say a s z o, R, C => by
    have iz := trim_length z (outR a s R) (outC a s C)
    have io := trim_length o (inR a s R) (inC a s C)
    unfold trimT
    split
    · simp only [text, List.length_cons, List.length_append]; omega
    · split
      · simp only [text, List.length_cons, List.length_append]; omega
      · simp only [text, List.length_cons, List.length_append]; omega
end Go.Proofs.YtgfhahlkffagaaaDoor.TrimT

