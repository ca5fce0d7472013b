/-
  Formulas of bits as trees: their texts, where they are true, depth, size and dual. Nothing of the program.
-/
import Derived.Test.YtbccachkkflceaaDoorPlain
import Derived.Test.YtbccachkkflceaaDoorPat
import Derived.Lib.IndexLaws
import Derived.Lib.IndexAny
namespace Go.Proofs.YtbccachkkflceaaDoor.Fm
open Go.RowKit Go.Proofs.YtbccachkkflceaaDoor.Plain Go.Proofs.YtbccachkkflceaaDoor.Pat
set_option linter.unusedVariables false

/-- a formula: a letter of a bit (true: where the bit is 1), or a gate (true: and) of two formulas -/
inductive F where
  | lit (k : Nat) (v : Bool)
  | gate (a : Bool) (f g : F)

/-- the six letters: those of bits that are 0, then those of bits that are 1 -/
def lets : List UInt8 := [88, 89, 90, 120, 121, 122]
def litB (k : Nat) (v : Bool) : UInt8 := lets.getD (k + 3 * v.toNat) 0
def sgn (a : Bool) : UInt8 := if a then 38 else 124
def ixB (c : UInt8) : Int := Lib.indexByte lets c

theorem ixB_lit (k : Nat) (v : Bool) (h : k < 3) : ixB (litB k v) = ((k + 3 * v.toNat : Nat) : Int) := by
  have : ∀ (k : Fin 3) (v : Bool), ixB (litB k.1 v) = ((k.1 + 3 * v.toNat : Nat) : Int) := by decide
  exact this ⟨k, h⟩ v
theorem ixB_ge (c : UInt8) : -1 ≤ ixB c := Lib.indexByte_ge lets c
theorem ixB_some (c : UInt8) (h : 0 ≤ ixB c) : ∃ k v, k < 3 ∧ c = litB k v ∧ ixB c = ((k + 3 * Bool.toNat v : Nat) : Int) := by
  obtain ⟨o, ho⟩ : ∃ o : Nat, ixB c = o := ⟨(ixB c).toNat, by omega⟩
  have h1 := (Lib.indexByte_some (l := lets) (c := c) (o := o) ho).1
  have h2 : o < lets.length := (List.getElem?_eq_some_iff.1 h1).1
  have h3 : o < 6 := h2
  have hc : c = lets.getD o 0 := by rw [List.getD_eq_getElem?_getD, h1]; rfl
  have : ∀ o : Fin 6, ∃ (k : Fin 3) (v : Bool), o.1 = k.1 + 3 * v.toNat := by decide
  obtain ⟨k, v, e⟩ := this ⟨o, h3⟩
  have e' : o = k.1 + 3 * v.toNat := e
  refine ⟨k.1, v, k.2, ?_, ?_⟩
  · rw [hc, e']; rfl
  · rw [ho, e']
theorem lit_inj {k k2 : Nat} {v v2 : Bool} (h : k < 3) (h2 : k2 < 3) (e : litB k v = litB k2 v2) : k = k2 ∧ v = v2 := by
  have : ∀ (k k2 : Fin 3) (v v2 : Bool), litB k.1 v = litB k2.1 v2 → k.1 = k2.1 ∧ v = v2 := by decide
  exact this ⟨k, h⟩ ⟨k2, h2⟩ v v2 e
theorem lit_sgn {k : Nat} {v a : Bool} (h : k < 3) : litB k v ≠ sgn a := by
  have : ∀ (k : Fin 3) (v a : Bool), litB k.1 v ≠ sgn a := by decide
  exact this ⟨k, h⟩ v a
theorem sgn_inj {a b : Bool} (h : sgn a = sgn b) : a = b := by cases a <;> cases b <;> simp [sgn] at h ⊢

/-- the text of a formula -/
def text : F → List UInt8
  | .lit k v => [litB k v]
  | .gate a f g => sgn a :: (text f ++ text g)
/-- its letters are of so many bits -/
def wf (n : Nat) : F → Prop
  | .lit k _ => k < n
  | .gate _ f g => wf n f ∧ wf n g
theorem wf_mono {n m : Nat} (h : n ≤ m) : ∀ t, wf n t → wf m t
  | .lit k _, hw => Nat.lt_of_lt_of_le hw h
  | .gate _ f g, hw => ⟨wf_mono h f hw.1, wf_mono h g hw.2⟩
theorem text_pos (t : F) : 0 < (text t).length := by cases t <;> simp [text]
/-- no formula stands at the begin of a text -/
def No (n : Nat) (l : List UInt8) : Prop := ∀ t r, wf n t → l ≠ text t ++ r
theorem yes_or_no (n : Nat) (l : List UInt8) : (∃ t r, wf n t ∧ l = text t ++ r) ∨ No n l := by
  by_cases h : ∃ t r, wf n t ∧ l = text t ++ r
  · exact .inl h
  · exact .inr fun t r hw e => h ⟨t, r, hw, e⟩
theorem No.nil (n : Nat) : No n [] := by
  intro t r _ e
  have := text_pos t
  have h := congrArg List.length e
  simp at h
  omega
theorem No.not_lit {n : Nat} {c : UInt8} {r : List UInt8} (h : No n (c :: r)) : ∀ k v, k < n → c ≠ litB k v := by
  rintro k v hk rfl
  exact h (.lit k v) r hk rfl
theorem No.not_gate {n : Nat} {a : Bool} {f g : F} {r : List UInt8} (h : No n (sgn a :: (text f ++ (text g ++ r)))) (hf : wf n f) (hg : wf n g) : False :=
  h (.gate a f g) r ⟨hf, hg⟩ (by simp [text])
theorem text_head (t : F) (r : List UInt8) : (∃ k v, t = .lit k v ∧ text t ++ r = litB k v :: r) ∨ (∃ a f g, t = .gate a f g ∧ text t ++ r = sgn a :: (text f ++ (text g ++ r))) := by
  cases t with
  | lit k v => exact .inl ⟨k, v, rfl, rfl⟩
  | gate a f g => exact .inr ⟨a, f, g, rfl, by simp [text]⟩
/-- two texts that begin with a formula: the same formula -/
theorem text_inj : ∀ (t u : F) (r q : List UInt8), wf 3 t → wf 3 u → text t ++ r = text u ++ q → t = u ∧ r = q
  | .lit k v, u, r, q, ht, hu, e => by
    rcases text_head u q with ⟨k2, v2, rfl, h2⟩ | ⟨a, f, g, rfl, h2⟩
    · rw [h2] at e
      simp only [text, List.singleton_append, List.cons.injEq] at e
      obtain ⟨rfl, rfl⟩ := lit_inj ht hu e.1
      exact ⟨rfl, e.2⟩
    · rw [h2] at e
      simp only [text, List.singleton_append, List.cons.injEq] at e
      exact absurd e.1 (lit_sgn ht)
  | .gate a f g, u, r, q, ht, hu, e => by
    rcases text_head u q with ⟨k2, v2, rfl, h2⟩ | ⟨a2, f2, g2, rfl, h2⟩
    · rw [h2] at e
      simp only [text, List.cons_append, List.cons.injEq] at e
      exact absurd e.1.symm (lit_sgn hu)
    · rw [h2] at e
      simp only [text, List.cons_append, List.append_assoc, List.cons.injEq] at e
      obtain ⟨e1, e2⟩ := e
      obtain ⟨rfl, e3⟩ := text_inj f f2 _ _ ht.1 hu.1 e2
      obtain ⟨rfl, e4⟩ := text_inj g g2 _ _ ht.2 hu.2 e3
      exact ⟨by rw [sgn_inj e1], e4⟩
/-- a text is a formula of so many bits -/
def Is (n : Nat) (l : List UInt8) : Prop := ∃ t, wf n t ∧ l = text t

/-- the number of letters, and how many gates are in one another -/
def size : F → Nat
  | .lit _ _ => 1
  | .gate _ f g => size f + size g
def deep : F → Nat
  | .lit _ _ => 0
  | .gate _ f g => 1 + max (deep f) (deep g)
theorem size_pos : ∀ t, 1 ≤ size t
  | .lit _ _ => Nat.le_refl _
  | .gate _ f g => by have := size_pos f; simp only [size]; omega
theorem text_size : ∀ t, (text t).length + 1 = 2 * size t
  | .lit _ _ => rfl
  | .gate _ f g => by
    have h1 := text_size f
    have h2 := text_size g
    simp only [text, size, List.length_cons, List.length_append]
    omega
theorem deep_lt : ∀ t, deep t < size t
  | .lit _ _ => by simp [deep, size]
  | .gate _ f g => by
    have h1 := deep_lt f
    have h2 := deep_lt g
    simp only [deep, size]
    omega
theorem size_le : ∀ t, size t ≤ 2 ^ deep t
  | .lit _ _ => by simp [deep, size]
  | .gate _ f g => by
    have h1 := size_le f
    have h2 := size_le g
    have m1 : 2 ^ deep f ≤ 2 ^ max (deep f) (deep g) := Nat.pow_le_pow_right (by decide) (by omega)
    have m2 : 2 ^ deep g ≤ 2 ^ max (deep f) (deep g) := Nat.pow_le_pow_right (by decide) (by omega)
    have e : 2 ^ (1 + max (deep f) (deep g)) = 2 * 2 ^ max (deep f) (deep g) := by rw [Nat.pow_add]
    simp only [deep, size, e]
    omega

/-- where it is true -/
def val : F → Nat → Bool
  | .lit k v, n => n.testBit k == v
  | .gate a f g, n => if a then val f n && val g n else val f n || val g n
theorem set_and (f g : F) : setB (val f) 8 &&& setB (val g) 8 = setB (val (.gate true f g)) 8 := by
  apply Nat.eq_of_testBit_eq
  intro i
  rw [Nat.testBit_and, setB_bit, setB_bit, setB_bit]
  simp only [val, if_true]
  cases decide (i < 8) <;> simp
theorem set_or (f g : F) : setB (val f) 8 ||| setB (val g) 8 = setB (val (.gate false f g)) 8 := by
  apply Nat.eq_of_testBit_eq
  intro i
  rw [Nat.testBit_or, setB_bit, setB_bit, setB_bit]
  simp only [val]
  cases decide (i < 8) <;> simp

/-- the formula of the other values -/
def dual : F → F
  | .lit k v => .lit k (!v)
  | .gate a f g => .gate (!a) (dual f) (dual g)
theorem dual_wf (n : Nat) : ∀ t, wf n t → wf n (dual t)
  | .lit _ _, h => h
  | .gate _ f g, h => ⟨dual_wf n f h.1, dual_wf n g h.2⟩
theorem dual_dual : ∀ t, dual (dual t) = t
  | .lit _ v => by simp [dual]
  | .gate a f g => by simp [dual, dual_dual f, dual_dual g]
theorem dual_size : ∀ t, size (dual t) = size t
  | .lit _ _ => rfl
  | .gate _ f g => by simp only [dual, size, dual_size f, dual_size g]
theorem dual_deep : ∀ t, deep (dual t) = deep t
  | .lit _ _ => rfl
  | .gate _ f g => by simp only [dual, deep, dual_deep f, dual_deep g]
theorem dual_length (t : F) : (text (dual t)).length = (text t).length := by
  have h1 := text_size t
  have h2 := text_size (dual t)
  rw [dual_size] at h2
  omega
theorem dual_val (n : Nat) : ∀ t, val (dual t) n = !val t n
  | .lit k v => by simp only [dual, val]; cases n.testBit k <;> cases v <;> rfl
  | .gate a f g => by
    simp only [dual, val, dual_val n f, dual_val n g]
    cases a <;> cases val f n <;> cases val g n <;> rfl
/-- the other one of a byte -/
def swapB (c : UInt8) : UInt8 := ([88, 89, 90, 120, 121, 122, 124, 38] : List UInt8).getD (Lib.indexByte [120, 121, 122, 88, 89, 90, 38, 124] c).toNat 0
theorem swap_lit (k : Nat) (v : Bool) (h : k < 3) : swapB (litB k v) = litB k (!v) := by
  have : ∀ (k : Fin 3) (v : Bool), swapB (litB k.1 v) = litB k.1 (!v) := by decide
  exact this ⟨k, h⟩ v
theorem swap_sgn (a : Bool) : swapB (sgn a) = sgn (!a) := by cases a <;> decide
theorem dual_text : ∀ t, wf 3 t → text (dual t) = (text t).map swapB
  | .lit k v, h => by simp only [dual, text, List.map_cons, List.map_nil, swap_lit k v h]
  | .gate a f g, h => by simp only [dual, text, List.map_cons, List.map_append, swap_sgn, dual_text f h.1, dual_text g h.2]
/-- the bytes of a formula have another one -/
def known (c : UInt8) : Prop := c ∈ ([120, 121, 122, 88, 89, 90, 38, 124] : List UInt8)
theorem known_lit (k : Nat) (v : Bool) (h : k < 3) : known (litB k v) := by
  have : ∀ (k : Fin 3) (v : Bool), litB k.1 v ∈ ([120, 121, 122, 88, 89, 90, 38, 124] : List UInt8) := by decide
  exact this ⟨k, h⟩ v
theorem known_text : ∀ t, wf 3 t → ∀ c ∈ text t, known c
  | .lit k v, h, c, hc => by
    simp only [text, List.mem_singleton] at hc
    subst hc
    exact known_lit k v h
  | .gate a f g, h, c, hc => by
    simp only [text, List.mem_cons, List.mem_append] at hc
    rcases hc with rfl | hc | hc
    · unfold known; cases a <;> decide
    · exact known_text f h.1 c hc
    · exact known_text g h.2 c hc
/-- the table of a formula -/
def tabB (f : F) (w : Nat) : List UInt8 := (List.range (2 ^ w)).map fun n => dig (val f n)

/-- a letter as the reference finds it -/
def letK (c : UInt8) : Int := if 0 ≤ Lib.indexByte [120, 121, 122] c then Lib.indexByte [120, 121, 122] c else Lib.indexByte [88, 89, 90] c
def letN (c : UInt8) : Bool := decide (Lib.indexByte [120, 121, 122] c < 0)
theorem letK_lit (k : Nat) (v : Bool) (h : k < 3) : letK (litB k v) = (k : Int) ∧ letN (litB k v) = !v := by
  have : ∀ (k : Fin 3) (v : Bool), letK (litB k.1 v) = (k.1 : Int) ∧ letN (litB k.1 v) = !v := by decide
  exact this ⟨k, h⟩ v
theorem letK_some (c : UInt8) (h : 0 ≤ letK c) : ∃ k v, k < 3 ∧ c = litB k v := by
  have key : ∀ (l : List UInt8) (b : Bool), (∀ o : Fin 3, l[o.1]? = some (litB o.1 b)) → l.length = 3 → 0 ≤ Lib.indexByte l c → ∃ k v, k < 3 ∧ c = litB k v := by
    intro l b hl h3 h0
    obtain ⟨o, ho⟩ : ∃ o : Nat, Lib.indexByte l c = o := ⟨(Lib.indexByte l c).toNat, by omega⟩
    have h1 := (Lib.indexByte_some (l := l) (c := c) (o := o) ho).1
    have h2 : o < l.length := (List.getElem?_eq_some_iff.1 h1).1
    rw [h3] at h2
    refine ⟨o, b, h2, ?_⟩
    have h4 := hl ⟨o, h2⟩
    simp only at h4
    rw [h1] at h4
    exact Option.some.inj h4
  unfold letK at h
  by_cases h0 : 0 ≤ Lib.indexByte [120, 121, 122] c
  · exact key _ true (by decide) rfl h0
  · rw [if_neg h0] at h
    exact key _ false (by decide) rfl h
theorem letK_no (n : Nat) (c : UInt8) (h : ∀ k v, k < n → c ≠ litB k v) : letK c < 0 ∨ (n : Int) ≤ letK c := by
  by_cases h0 : 0 ≤ letK c
  · right
    obtain ⟨k, v, hk, rfl⟩ := letK_some c h0
    rw [(letK_lit k v hk).1]
    have : ¬ k < n := fun hkn => h k v hkn rfl
    omega
  · left; omega
theorem ixB_no (n : Nat) (c : UInt8) (h : ∀ k v, k < n → c ≠ litB k v) : ixB c = -1 ∨ ∃ k : Nat, ∃ v : Bool, n ≤ k ∧ k < 3 ∧ ixB c = ((k + 3 * v.toNat : Nat) : Int) := by
  by_cases h0 : 0 ≤ ixB c
  · right
    obtain ⟨k, v, hk, rfl, e⟩ := ixB_some c h0
    refine ⟨k, v, ?_, hk, e⟩
    have : ¬ k < n := fun hkn => h k v hkn rfl
    omega
  · left
    have := ixB_ge c
    omega
end Go.Proofs.YtbccachkkflceaaDoor.Fm
