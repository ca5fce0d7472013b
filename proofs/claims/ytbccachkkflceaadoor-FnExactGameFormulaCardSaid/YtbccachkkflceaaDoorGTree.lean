/-
  Protocols as trees: their texts, what is read of a text, and what is told of a tree. Nothing of the program.
-/
import Derived.Test.YtbccachkkflceaaDoorPlain
import Derived.Lib.IndexLaws
import Derived.Lib.IndexAny
namespace Go.Proofs.YtbccachkkflceaaDoor.Tree
open Go.RowKit Go.Proofs.YtbccachkkflceaaDoor.Plain
set_option linter.unusedVariables false

/-- the values of ends -/
inductive V3 where
  | v0
  | v1
  | v2
def gN : V3 → Nat
  | .v0 => 0
  | .v1 => 1
  | .v2 => 2
def gI (b : V3) : Int := (gN b : Int)
def gD : V3 → UInt8
  | .v0 => 48
  | .v1 => 49
  | .v2 => 50
theorem gN_lt (b : V3) : gN b < 3 := by cases b <;> decide
/-- a protocol of a game: an end, or a bit of a player (true: the first one) about a set, with what follows -/
inductive T where
  | leaf (b : V3)
  | say (a : Bool) (s : Nat) (z o : T)

/-- the digits of 16 values -/
def hexL : List UInt8 := [48, 49, 50, 51, 52, 53, 54, 55, 56, 57, 97, 98, 99, 100, 101, 102]
def hexD (n : Nat) : UInt8 := hexL.getD n 0
def hexV (c : UInt8) : Int := Lib.indexByte hexL c
/-- the letter of a player -/
def whoB (a : Bool) : UInt8 := if a then 65 else 66

theorem hexV_D (n : Nat) (h : n < 16) : hexV (hexD n) = (n : Int) := by
  have : ∀ k : Fin 16, hexV (hexD k.1) = (k.1 : Int) := by decide
  exact this ⟨n, h⟩
theorem hexV_ge (c : UInt8) : -1 ≤ hexV c := Lib.indexByte_ge hexL c
theorem hexD_V (c : UInt8) (h : 0 ≤ hexV c) : hexD (hexV c).toNat = c ∧ (hexV c).toNat < 16 := by
  obtain ⟨o, ho⟩ : ∃ o : Nat, hexV c = o := ⟨(hexV c).toNat, by omega⟩
  have h1 := (Lib.indexByte_some (l := hexL) (c := c) (o := o) ho).1
  have h2 : o < hexL.length := (List.getElem?_eq_some_iff.1 h1).1
  rw [ho]
  refine ⟨?_, h2⟩
  show hexL.getD o 0 = c
  rw [List.getD_eq_getElem?_getD, h1]
  rfl

theorem idx_hi (c : UInt8) : hexV c < 16 := by
  by_cases h : 0 ≤ hexV c
  · have := (hexD_V c h).2
    omega
  · omega

/-- the text of a protocol -/
def text : T → List UInt8
  | .leaf b => [gD b]
  | .say a s z o => whoB a :: hexD (s / 16) :: hexD (s % 16) :: (text z ++ text o)
/-- its sets are told by two digits -/
def wf : T → Prop
  | .leaf _ => True
  | .say _ s z o => s < 256 ∧ wf z ∧ wf o
/-- no protocol stands at the begin of a text -/
def No (l : List UInt8) : Prop := ∀ t r, wf t → l ≠ text t ++ r
theorem yes_or_no (l : List UInt8) : (∃ t r, wf t ∧ l = text t ++ r) ∨ No l := by
  by_cases h : ∃ t r, wf t ∧ l = text t ++ r
  · exact .inl h
  · exact .inr fun t r hw e => h ⟨t, r, hw, e⟩
/-- a text is a protocol -/
def Is (l : List UInt8) : Prop := ∃ t, wf t ∧ l = text t

theorem text_pos (t : T) : 0 < (text t).length := by cases t <;> simp [text]
theorem No.nil : No [] := by
  intro t r _ e
  have := text_pos t
  have h := congrArg List.length e
  simp at h
  omega
theorem text_head (t : T) (r : List UInt8) : (∃ b, t = .leaf b ∧ text t ++ r = gD b :: r) ∨
    (∃ a s z o, t = .say a s z o ∧ text t ++ r = whoB a :: hexD (s / 16) :: hexD (s % 16) :: (text z ++ (text o ++ r))) := by
  cases t with
  | leaf b => exact .inl ⟨b, rfl, rfl⟩
  | say a s z o => exact .inr ⟨a, s, z, o, rfl, by simp [text]⟩
theorem dig_or (c : UInt8) (h : c = 48 ∨ c = 49 ∨ c = 50) : ∃ b, c = gD b := by
  rcases h with rfl | rfl | rfl
  · exact ⟨.v0, rfl⟩
  · exact ⟨.v1, rfl⟩
  · exact ⟨.v2, rfl⟩
theorem who_or (c : UInt8) (h : c = 65 ∨ c = 66) : ∃ a, c = whoB a := by
  rcases h with rfl | rfl
  · exact ⟨true, rfl⟩
  · exact ⟨false, rfl⟩
theorem No.not_dig {c : UInt8} {r : List UInt8} (h : No (c :: r)) : c ≠ 48 ∧ c ≠ 49 ∧ c ≠ 50 := by
  refine ⟨?_, ?_, ?_⟩
  · rintro rfl; exact h (.leaf .v0) r trivial rfl
  · rintro rfl; exact h (.leaf .v1) r trivial rfl
  · rintro rfl; exact h (.leaf .v2) r trivial rfl
/-- a letter, two digits and two protocols are a protocol -/
theorem No.say {a : Bool} {x y : UInt8} {z o : T} {r : List UInt8} (h : No (whoB a :: x :: y :: (text z ++ (text o ++ r)))) (hx : 0 ≤ hexV x) (hy : 0 ≤ hexV y) (hz : wf z) (ho : wf o) : False := by
  obtain ⟨ex, lx⟩ := hexD_V x hx
  obtain ⟨ey, ly⟩ := hexD_V y hy
  refine h (.say a (16 * (hexV x).toNat + (hexV y).toNat) z o) r ⟨by omega, hz, ho⟩ ?_
  have e1 : (16 * (hexV x).toNat + (hexV y).toNat) / 16 = (hexV x).toNat := by omega
  have e2 : (16 * (hexV x).toNat + (hexV y).toNat) % 16 = (hexV y).toNat := by omega
  simp only [text, e1, e2, ex, ey, List.cons_append, List.append_assoc]
theorem set_hex (s : Nat) (h : s < 256) : (16 * (hexV (hexD (s / 16))) + hexV (hexD (s % 16)) : Int) = s := by
  rw [hexV_D _ (by omega), hexV_D _ (by omega)]
  omega

/-- two texts that begin with a protocol: the same protocol -/
theorem text_inj : ∀ (t u : T) (r q : List UInt8), wf t → wf u → text t ++ r = text u ++ q → t = u ∧ r = q
  | .leaf b, u, r, q, _, hu, e => by
    rcases text_head u q with ⟨b2, rfl, h2⟩ | ⟨a, s, z, o, rfl, h2⟩
    · rw [h2] at e
      simp only [text, List.singleton_append, List.cons.injEq] at e
      refine ⟨?_, e.2⟩
      have := e.1
      cases b <;> cases b2 <;> simp [gD] at this ⊢
    · rw [h2] at e
      simp only [text, List.singleton_append, List.cons.injEq] at e
      have := e.1
      cases b <;> cases a <;> simp [gD, whoB] at this
  | .say a s z o, u, r, q, ht, hu, e => by
    rcases text_head u q with ⟨b2, rfl, h2⟩ | ⟨a2, s2, z2, o2, rfl, h2⟩
    · rw [h2] at e
      simp only [text, List.cons_append, List.cons.injEq] at e
      have := e.1
      cases b2 <;> cases a <;> simp [gD, whoB] at this
    · rw [h2] at e
      simp only [text, List.cons_append, List.append_assoc, List.cons.injEq] at e
      obtain ⟨e1, e2, e3, e4⟩ := e
      obtain ⟨ez, e5⟩ := text_inj z z2 _ _ ht.2.1 hu.2.1 e4
      obtain ⟨eo, e6⟩ := text_inj o o2 _ _ ht.2.2 hu.2.2 e5
      have ha : a = a2 := by cases a <;> cases a2 <;> simp [whoB] at e1 ⊢
      have hs : s = s2 := by
        have h1 := set_hex s ht.1
        have h3 := set_hex s2 hu.1
        rw [e2, e3] at h1
        omega
      exact ⟨by rw [ha, hs, ez, eo], e6⟩

/-- the greatest number of bits -/
def bits : T → Nat
  | .leaf _ => 0
  | .say _ _ z o => 1 + max (bits z) (bits o)
/-- the number of ends -/
def ends : T → Nat
  | .leaf _ => 1
  | .say _ _ z o => ends z + ends o
theorem bits_lt : ∀ t, bits t < (text t).length
  | .leaf _ => by simp [bits, text]
  | .say _ _ z o => by
    have h1 := bits_lt z
    have h2 := bits_lt o
    simp only [bits, text, List.length_cons, List.length_append]
    omega
theorem ends_le : ∀ t, ends t ≤ (text t).length
  | .leaf _ => by simp [ends, text]
  | .say _ _ z o => by
    have h1 := ends_le z
    have h2 := ends_le o
    simp only [ends, text, List.length_cons, List.length_append]
    omega
/-- players exchanged -/
def turnT : T → T
  | .leaf b => .leaf b
  | .say a s z o => .say (!a) s (turnT z) (turnT o)
theorem turn_wf : ∀ t, wf t → wf (turnT t)
  | .leaf _, _ => trivial
  | .say _ _ z o, h => ⟨h.1, turn_wf z h.2.1, turn_wf o h.2.2⟩
theorem turn_length : ∀ t, (text (turnT t)).length = (text t).length
  | .leaf _ => rfl
  | .say _ _ z o => by simp only [turnT, text, List.length_cons, List.length_append, turn_length z, turn_length o]
end Go.Proofs.YtbccachkkflceaaDoor.Tree
