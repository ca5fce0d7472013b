/-
  Texts of one seat, joined: Fm, DrawFm.
-/
import Derived.Test.YtbccachkkflceaaGreatDoorJn1
import Derived.Test.YtbccachkkflceaaGreatDoorJn4
import Derived.Lib.IndexLaws
import Derived.Lib.IndexAny
import Derived.Test.YtbccachkkflceaaGreatDoorJn3
import Derived.Handy
/-
  Formulas of bits as trees: their texts, where they are true, depth, size and dual. Nothing of the program.
-/
namespace Go.Proofs.YtbccachkkflceaaGreatDoor.Fm
open Go.RowKit Go.Proofs.YtbccachkkflceaaGreatDoor.Plain Go.Proofs.YtbccachkkflceaaGreatDoor.Pat
set_option linter.unusedVariables false

/-- a formula: a letter of a bit (true: where the bit is 1), or a gate (true: and) of two formulas -/
inductive F where
  | lit (k : Nat) (v : Bool)
  | gate (a : Bool) (f g : F)

/-- the six letters: those of bits that are 0, then those of bits that are 1 -/
def lets : List UInt8 := [88, 89, 90, 120, 121, 122]
def litB (k : Nat) (v : Bool) : UInt8 := lets.getD (k + 3 * v.toNat) 0
def sgn (a : Bool) : UInt8 := if a then 38 else 124
def ixB (c : UInt8) : Int := Lib.indexByte lets c

theorem ixB_lit (k : Nat) (v : Bool) (h : k < 3) : ixB (litB k v) = ((k + 3 * v.toNat : Nat) : Int) := by
  have : ∀ (k : Fin 3) (v : Bool), ixB (litB k.1 v) = ((k.1 + 3 * v.toNat : Nat) : Int) := by decide
  exact this ⟨k, h⟩ v
theorem ixB_ge (c : UInt8) : -1 ≤ ixB c := Lib.indexByte_ge lets c
theorem ixB_some (c : UInt8) (h : 0 ≤ ixB c) : ∃ k v, k < 3 ∧ c = litB k v ∧ ixB c = ((k + 3 * Bool.toNat v : Nat) : Int) := by
  obtain ⟨o, ho⟩ : ∃ o : Nat, ixB c = o := ⟨(ixB c).toNat, by omega⟩
  have h1 := (Lib.indexByte_some (l := lets) (c := c) (o := o) ho).1
  have h2 : o < lets.length := (List.getElem?_eq_some_iff.1 h1).1
  have h3 : o < 6 := h2
  have hc : c = lets.getD o 0 := by rw [List.getD_eq_getElem?_getD, h1]; rfl
  have : ∀ o : Fin 6, ∃ (k : Fin 3) (v : Bool), o.1 = k.1 + 3 * v.toNat := by decide
  obtain ⟨k, v, e⟩ := this ⟨o, h3⟩
  have e' : o = k.1 + 3 * v.toNat := e
  refine ⟨k.1, v, k.2, ?_, ?_⟩
  · rw [hc, e']; rfl
  · rw [ho, e']
theorem lit_inj {k k2 : Nat} {v v2 : Bool} (h : k < 3) (h2 : k2 < 3) (e : litB k v = litB k2 v2) : k = k2 ∧ v = v2 := by
  have : ∀ (k k2 : Fin 3) (v v2 : Bool), litB k.1 v = litB k2.1 v2 → k.1 = k2.1 ∧ v = v2 := by decide
  exact this ⟨k, h⟩ ⟨k2, h2⟩ v v2 e
theorem lit_sgn {k : Nat} {v a : Bool} (h : k < 3) : litB k v ≠ sgn a := by
  have : ∀ (k : Fin 3) (v a : Bool), litB k.1 v ≠ sgn a := by decide
  exact this ⟨k, h⟩ v a
theorem sgn_inj {a b : Bool} (h : sgn a = sgn b) : a = b := by cases a <;> cases b <;> simp [sgn] at h ⊢

/-- the text of a formula -/
def text : F → List UInt8
  | .lit k v => [litB k v]
  | .gate a f g => sgn a :: (text f ++ text g)
/-- its letters are of so many bits -/
def wf (n : Nat) : F → Prop
  | .lit k _ => k < n
  | .gate _ f g => wf n f ∧ wf n g
theorem wf_mono {n m : Nat} (h : n ≤ m) : ∀ t, wf n t → wf m t
  | .lit k _, hw => Nat.lt_of_lt_of_le hw h
  | .gate _ f g, hw => ⟨wf_mono h f hw.1, wf_mono h g hw.2⟩
theorem text_pos (t : F) : 0 < (text t).length := by cases t <;> simp [text]
/-- no formula stands at the begin of a text -/
def No (n : Nat) (l : List UInt8) : Prop := ∀ t r, wf n t → l ≠ text t ++ r
theorem yes_or_no (n : Nat) (l : List UInt8) : (∃ t r, wf n t ∧ l = text t ++ r) ∨ No n l := by
  by_cases h : ∃ t r, wf n t ∧ l = text t ++ r
  · exact .inl h
  · exact .inr fun t r hw e => h ⟨t, r, hw, e⟩
theorem No.nil (n : Nat) : No n [] := by
  intro t r _ e
  have := text_pos t
  have h := congrArg List.length e
  simp at h
  omega
theorem No.not_lit {n : Nat} {c : UInt8} {r : List UInt8} (h : No n (c :: r)) : ∀ k v, k < n → c ≠ litB k v := by
  rintro k v hk rfl
  exact h (.lit k v) r hk rfl
theorem No.not_gate {n : Nat} {a : Bool} {f g : F} {r : List UInt8} (h : No n (sgn a :: (text f ++ (text g ++ r)))) (hf : wf n f) (hg : wf n g) : False :=
  h (.gate a f g) r ⟨hf, hg⟩ (by simp [text])
theorem text_head (t : F) (r : List UInt8) : (∃ k v, t = .lit k v ∧ text t ++ r = litB k v :: r) ∨ (∃ a f g, t = .gate a f g ∧ text t ++ r = sgn a :: (text f ++ (text g ++ r))) := by
  cases t with
  | lit k v => exact .inl ⟨k, v, rfl, rfl⟩
  | gate a f g => exact .inr ⟨a, f, g, rfl, by simp [text]⟩
/-- two texts that begin with a formula: the same formula -/
theorem text_inj : ∀ (t u : F) (r q : List UInt8), wf 3 t → wf 3 u → text t ++ r = text u ++ q → t = u ∧ r = q
  | .lit k v, u, r, q, ht, hu, e => by
    rcases text_head u q with ⟨k2, v2, rfl, h2⟩ | ⟨a, f, g, rfl, h2⟩
    · rw [h2] at e
      simp only [text, List.singleton_append, List.cons.injEq] at e
      obtain ⟨rfl, rfl⟩ := lit_inj ht hu e.1
      exact ⟨rfl, e.2⟩
    · rw [h2] at e
      simp only [text, List.singleton_append, List.cons.injEq] at e
      exact absurd e.1 (lit_sgn ht)
  | .gate a f g, u, r, q, ht, hu, e => by
    rcases text_head u q with ⟨k2, v2, rfl, h2⟩ | ⟨a2, f2, g2, rfl, h2⟩
    · rw [h2] at e
      simp only [text, List.cons_append, List.cons.injEq] at e
      exact absurd e.1.symm (lit_sgn hu)
    · rw [h2] at e
      simp only [text, List.cons_append, List.append_assoc, List.cons.injEq] at e
      obtain ⟨e1, e2⟩ := e
      obtain ⟨rfl, e3⟩ := text_inj f f2 _ _ ht.1 hu.1 e2
      obtain ⟨rfl, e4⟩ := text_inj g g2 _ _ ht.2 hu.2 e3
      exact ⟨by rw [sgn_inj e1], e4⟩
/-- a text is a formula of so many bits -/
def Is (n : Nat) (l : List UInt8) : Prop := ∃ t, wf n t ∧ l = text t

/-- the number of letters, and how many gates are in one another -/
def size : F → Nat
  | .lit _ _ => 1
  | .gate _ f g => size f + size g
def deep : F → Nat
  | .lit _ _ => 0
  | .gate _ f g => 1 + max (deep f) (deep g)
theorem size_pos : ∀ t, 1 ≤ size t
  | .lit _ _ => Nat.le_refl _
  | .gate _ f g => by have := size_pos f; simp only [size]; omega
theorem text_size : ∀ t, (text t).length + 1 = 2 * size t
  | .lit _ _ => rfl
  | .gate _ f g => by
    have h1 := text_size f
    have h2 := text_size g
    simp only [text, size, List.length_cons, List.length_append]
    omega
theorem deep_lt : ∀ t, deep t < size t
  | .lit _ _ => by simp [deep, size]
  | .gate _ f g => by
    have h1 := deep_lt f
    have h2 := deep_lt g
    simp only [deep, size]
    omega
theorem size_le : ∀ t, size t ≤ 2 ^ deep t
  | .lit _ _ => by simp [deep, size]
  | .gate _ f g => by
    have h1 := size_le f
    have h2 := size_le g
    have m1 : 2 ^ deep f ≤ 2 ^ max (deep f) (deep g) := Nat.pow_le_pow_right (by decide) (by omega)
    have m2 : 2 ^ deep g ≤ 2 ^ max (deep f) (deep g) := Nat.pow_le_pow_right (by decide) (by omega)
    have e : 2 ^ (1 + max (deep f) (deep g)) = 2 * 2 ^ max (deep f) (deep g) := by rw [Nat.pow_add]
    simp only [deep, size, e]
    omega

/-- where it is true -/
def val : F → Nat → Bool
  | .lit k v, n => n.testBit k == v
  | .gate a f g, n => if a then val f n && val g n else val f n || val g n
theorem set_and (f g : F) : setB (val f) 8 &&& setB (val g) 8 = setB (val (.gate true f g)) 8 := by
  apply Nat.eq_of_testBit_eq
  intro i
  rw [Nat.testBit_and, setB_bit, setB_bit, setB_bit]
  simp only [val, if_true]
  cases decide (i < 8) <;> simp
theorem set_or (f g : F) : setB (val f) 8 ||| setB (val g) 8 = setB (val (.gate false f g)) 8 := by
  apply Nat.eq_of_testBit_eq
  intro i
  rw [Nat.testBit_or, setB_bit, setB_bit, setB_bit]
  simp only [val]
  cases decide (i < 8) <;> simp

/-- the formula of the other values -/
def dual : F → F
  | .lit k v => .lit k (!v)
  | .gate a f g => .gate (!a) (dual f) (dual g)
theorem dual_wf (n : Nat) : ∀ t, wf n t → wf n (dual t)
  | .lit _ _, h => h
  | .gate _ f g, h => ⟨dual_wf n f h.1, dual_wf n g h.2⟩
theorem dual_dual : ∀ t, dual (dual t) = t
  | .lit _ v => by simp [dual]
  | .gate a f g => by simp [dual, dual_dual f, dual_dual g]
theorem dual_size : ∀ t, size (dual t) = size t
  | .lit _ _ => rfl
  | .gate _ f g => by simp only [dual, size, dual_size f, dual_size g]
theorem dual_deep : ∀ t, deep (dual t) = deep t
  | .lit _ _ => rfl
  | .gate _ f g => by simp only [dual, deep, dual_deep f, dual_deep g]
theorem dual_length (t : F) : (text (dual t)).length = (text t).length := by
  have h1 := text_size t
  have h2 := text_size (dual t)
  rw [dual_size] at h2
  omega
theorem dual_val (n : Nat) : ∀ t, val (dual t) n = !val t n
  | .lit k v => by simp only [dual, val]; cases n.testBit k <;> cases v <;> rfl
  | .gate a f g => by
    simp only [dual, val, dual_val n f, dual_val n g]
    cases a <;> cases val f n <;> cases val g n <;> rfl
/-- the other one of a byte -/
def swapB (c : UInt8) : UInt8 := ([88, 89, 90, 120, 121, 122, 124, 38] : List UInt8).getD (Lib.indexByte [120, 121, 122, 88, 89, 90, 38, 124] c).toNat 0
theorem swap_lit (k : Nat) (v : Bool) (h : k < 3) : swapB (litB k v) = litB k (!v) := by
  have : ∀ (k : Fin 3) (v : Bool), swapB (litB k.1 v) = litB k.1 (!v) := by decide
  exact this ⟨k, h⟩ v
theorem swap_sgn (a : Bool) : swapB (sgn a) = sgn (!a) := by cases a <;> decide
theorem dual_text : ∀ t, wf 3 t → text (dual t) = (text t).map swapB
  | .lit k v, h => by simp only [dual, text, List.map_cons, List.map_nil, swap_lit k v h]
  | .gate a f g, h => by simp only [dual, text, List.map_cons, List.map_append, swap_sgn, dual_text f h.1, dual_text g h.2]
/-- the bytes of a formula have another one -/
def known (c : UInt8) : Prop := c ∈ ([120, 121, 122, 88, 89, 90, 38, 124] : List UInt8)
theorem known_lit (k : Nat) (v : Bool) (h : k < 3) : known (litB k v) := by
  have : ∀ (k : Fin 3) (v : Bool), litB k.1 v ∈ ([120, 121, 122, 88, 89, 90, 38, 124] : List UInt8) := by decide
  exact this ⟨k, h⟩ v
theorem known_text : ∀ t, wf 3 t → ∀ c ∈ text t, known c
  | .lit k v, h, c, hc => by
    simp only [text, List.mem_singleton] at hc
    subst hc
    exact known_lit k v h
  | .gate a f g, h, c, hc => by
    simp only [text, List.mem_cons, List.mem_append] at hc
    rcases hc with rfl | hc | hc
    · unfold known; cases a <;> decide
    · exact known_text f h.1 c hc
    · exact known_text g h.2 c hc
/-- the table of a formula -/
def tabB (f : F) (w : Nat) : List UInt8 := (List.range (2 ^ w)).map fun n => dig (val f n)

/-- a letter as the reference finds it -/
def letK (c : UInt8) : Int := if 0 ≤ Lib.indexByte [120, 121, 122] c then Lib.indexByte [120, 121, 122] c else Lib.indexByte [88, 89, 90] c
def letN (c : UInt8) : Bool := decide (Lib.indexByte [120, 121, 122] c < 0)
theorem letK_lit (k : Nat) (v : Bool) (h : k < 3) : letK (litB k v) = (k : Int) ∧ letN (litB k v) = !v := by
  have : ∀ (k : Fin 3) (v : Bool), letK (litB k.1 v) = (k.1 : Int) ∧ letN (litB k.1 v) = !v := by decide
  exact this ⟨k, h⟩ v
theorem letK_some (c : UInt8) (h : 0 ≤ letK c) : ∃ k v, k < 3 ∧ c = litB k v := by
  have key : ∀ (l : List UInt8) (b : Bool), (∀ o : Fin 3, l[o.1]? = some (litB o.1 b)) → l.length = 3 → 0 ≤ Lib.indexByte l c → ∃ k v, k < 3 ∧ c = litB k v := by
    intro l b hl h3 h0
    obtain ⟨o, ho⟩ : ∃ o : Nat, Lib.indexByte l c = o := ⟨(Lib.indexByte l c).toNat, by omega⟩
    have h1 := (Lib.indexByte_some (l := l) (c := c) (o := o) ho).1
    have h2 : o < l.length := (List.getElem?_eq_some_iff.1 h1).1
    rw [h3] at h2
    refine ⟨o, b, h2, ?_⟩
    have h4 := hl ⟨o, h2⟩
    simp only at h4
    rw [h1] at h4
    exact Option.some.inj h4
  unfold letK at h
  by_cases h0 : 0 ≤ Lib.indexByte [120, 121, 122] c
  · exact key _ true (by decide) rfl h0
  · rw [if_neg h0] at h
    exact key _ false (by decide) rfl h
theorem letK_no (n : Nat) (c : UInt8) (h : ∀ k v, k < n → c ≠ litB k v) : letK c < 0 ∨ (n : Int) ≤ letK c := by
  by_cases h0 : 0 ≤ letK c
  · right
    obtain ⟨k, v, hk, rfl⟩ := letK_some c h0
    rw [(letK_lit k v hk).1]
    have : ¬ k < n := fun hkn => h k v hkn rfl
    omega
  · left; omega
theorem ixB_no (n : Nat) (c : UInt8) (h : ∀ k v, k < n → c ≠ litB k v) : ixB c = -1 ∨ ∃ k : Nat, ∃ v : Bool, n ≤ k ∧ k < 3 ∧ ixB c = ((k + 3 * v.toNat : Nat) : Int) := by
  by_cases h0 : 0 ≤ ixB c
  · right
    obtain ⟨k, v, hk, rfl, e⟩ := ixB_some c h0
    refine ⟨k, v, ?_, hk, e⟩
    have : ¬ k < n := fun hkn => h k v hkn rfl
    omega
  · left
    have := ixB_ge c
    omega
end Go.Proofs.YtbccachkkflceaaGreatDoor.Fm

/-
  Formulas that are drawn: l9Draw, l9Bad, l9Open.
-/
namespace Go.Proofs.YtbccachkkflceaaGreatDoor.DrawFm
open Go.RowKit Go.Proofs.YtbccachkkflceaaGreatDoor.Plain Go.Proofs.YtbccachkkflceaaGreatDoor.Fm Go.Proofs.YtbccachkkflceaaGreatDoor.Rd Go.Proofs.YtbccachkkflceaaGreatDoor.Rd2 Go.Proofs.YtbccachkkflceaaGreatDoor.Rd3 Go.Proofs.YtbccachkkflceaaGreatDoor.DrawT Go.Proofs.YtbccachkkflceaaGreatDoor.FreeP
open Go.Proofs.YtbccachkkflceaaGreatDoor.Free (fill wp_value freeB)
open Go.Proofs.YtbccachkkflceaaGreatDoor.FreeP (wp_enterP)
set_option linter.unusedVariables false
set_option linter.unusedSimpArgs false

theorem cells_str (w : World) (T : TypeId) (xs : List ByteArray) (j : Nat) (hj : j < xs.length) : (w.alloc (.cells (xs.map fun x : ByteArray => Value.string x).toArray T)).cell? ⟨w.heap.size, j, none⟩ = some (.string xs[j]) :=
  (cell_of_row _ _ j _ _ _ (heap_alloc_new w _)).trans (by simp [hj])
/-- an element of a list of strings that is written there -/
theorem of_lit {lo : Nat} (g p : Nat) (hp : p < 1048576) (xs : List ByteArray) (h1 : 1 ≤ xs.length) (h8 : xs.length ≤ 1000) (c : Nat) (w : World) (h : Rdr lo w g p) :
    Calls Tryz.prog 93 #[.pointer (some ⟨g, 0, none⟩), .slice (some ⟨w.heap.size, 0, none⟩) xs.length c] (w.alloc (.cells (xs.map fun x : ByteArray => Value.string x).toArray 9)) fun e w' => ∃ x : ByteArray, e = .returned (.string x) ∧ x ∈ xs ∧ Rdr lo w' g (p + 1) ∧ Apt g w w' := by
  have hgl := h.lt
  have hb := (Below.refl w.heap.size w).alloc (Nat.le_refl _) (.cells (xs.map fun x : ByteArray => Value.string x).toArray 9)
  exact (of_any g p hp xs h1 h8 w.heap.size c (by omega) _ (h.later hb) (by simp) (fun j hj => cells_str w 9 xs j hj)).mono fun e w' h => by
    obtain ⟨x, h1, h2, h3, h4⟩ := h
    exact ⟨x, h1, h2, h3, (Apt.of_below hb).trans h4⟩
theorem num_lit {lo : Nat} (g p : Nat) (hp : p < 1048576) (xs : List Int) (h1 : 1 ≤ xs.length) (h8 : xs.length ≤ 1000) (c : Nat) (w : World) (h : Rdr lo w g p) :
    Calls Tryz.prog 81 #[.pointer (some ⟨g, 0, none⟩), .slice (some ⟨w.heap.size, 0, none⟩) xs.length c] (w.alloc (.cells (xs.map fun x : Int => Value.int .i64 x).toArray 3)) fun e w' => ∃ x : Int, e = .returned (.int .i64 x) ∧ x ∈ xs ∧ Rdr lo w' g (p + 1) ∧ Apt g w w' := by
  have hgl := h.lt
  have hb := (Below.refl w.heap.size w).alloc (Nat.le_refl _) (.cells (xs.map fun x : Int => Value.int .i64 x).toArray 3)
  exact (num_any g p hp xs h1 h8 w.heap.size c (by omega) _ (h.later hb) (by simp) (fun j hj => cells_lit w 3 xs j hj)).mono fun e w' h => by
    obtain ⟨x, h1, h2, h3, h4⟩ := h
    exact ⟨x, h1, h2, h3, (Apt.of_below hb).trans h4⟩

theorem one_le (u : ByteArray) (h : u ∈ ([⟨#[119]⟩, ⟨#[38]⟩, ⟨#[49]⟩, ⟨#[90]⟩] : List ByteArray)) : u.size ≤ 1 := by
  simp only [List.mem_cons, List.not_mem_nil, or_false] at h
  rcases h with rfl | rfl | rfl | rfl <;> decide
theorem tri_le (u : ByteArray) (h : u ∈ ([⟨#[120]⟩, ⟨#[38]⟩, ⟨#[32]⟩] : List ByteArray)) : u.size ≤ 1 := by
  simp only [List.mem_cons, List.not_mem_nil, or_false] at h
  rcases h with rfl | rfl | rfl <;> decide
theorem wp_made {P : Program} {o : Oper} {a : Act} {w : World} {K : Act → World → Prop} {Q : Exit → Act → World → Prop} (w' : World) (v : Value) (h : (execOp a.eval o).run P w = .ok (.value v) w') (hK : K (a.put o.dst v) w') : o.wp P a w K Q := by
  unfold Oper.wp
  rw [h]
  exact hK
/-- what each operation yields -/
def YB (g : Nat) (s : ByteArray) (k : Nat) : Nat → Value → World → Prop
  | 0, v, _ => v = .string s
  | 1, v, _ => v = .int .i64 (k : Int)
  | 2, v, _ => v = .string (s.extract 0 k)
  | 3, v, _ => v = .pointer (some ⟨g, 0, none⟩)
  | 4, v, w => ∃ b, v = .slice (some ⟨b, 0, none⟩) 4 4 ∧ b ≠ g ∧ b < w.heap.size ∧ ∀ j (hj : j < ([⟨#[119]⟩, ⟨#[38]⟩, ⟨#[49]⟩, ⟨#[90]⟩] : List ByteArray).length), w.cell? ⟨b, j, none⟩ = some (.string ([⟨#[119]⟩, ⟨#[38]⟩, ⟨#[49]⟩, ⟨#[90]⟩] : List ByteArray)[j])
  | 5, v, _ => ∃ u : ByteArray, v = .string u ∧ u.size ≤ 1
  | 6, v, _ => ∃ u : ByteArray, v = .string u ∧ u.size ≤ s.size + 1
  | 7, v, _ => v = .string s
  | 8, v, _ => v = .int .i64 (k : Int)
  | 9, v, _ => v = .int .i64 ((k : Int) + 1)
  | 10, v, _ => ∃ u : ByteArray, v = .string u ∧ u.size ≤ s.size
  | 11, v, _ => ∃ u : ByteArray, v = .string u ∧ u.size ≤ s.size + s.size + 1
  | 12, v, _ => ∃ u : ByteArray, v = .string u ∧ u.size ≤ s.size + s.size + 1
  | _, _, _ => True
theorem YB.on (g : Nat) (s : ByteArray) (k : Nat) (i : Nat) (v : Value) (w w' : World) (ha : Apt g w w') (h : YB g s k i v w) : YB g s k i v w' := by
  match i, h with
  | 4, h =>
    obtain ⟨b, rfl, hg, hb, hc⟩ := h
    exact ⟨b, rfl, hg, Nat.lt_of_lt_of_le hb ha.size, fun j hj => (ha.cell (p := ⟨b, j, none⟩) hb hg).trans (hc j hj)⟩
  | 0, h | 1, h | 2, h | 3, h | 5, h | 6, h | 7, h | 8, h | 9, h | 10, h | 11, h | 12, h => exact h
  | n + 13, _ => trivial

/-- a text, whatever it is -/
def Any (lo g p : Nat) (w : World) (e : Ending) (w' : World) : Prop := ∃ (s : ByteArray) (p' : Nat), e = .returned (.string s) ∧ s.size ≤ 1000 ∧ Rdr lo w' g p' ∧ p' ≤ p + 8000 ∧ Apt g w w'

set_option maxHeartbeats 4000000 in
set_option maxRecDepth 100000 in
theorem bad_any {lo : Nat} (g p : Nat) (hp : p ≤ 100000) (s : ByteArray) (hs1 : 1 ≤ s.size) (hs2 : s.size ≤ 300) (w : World) (h : Rdr lo w g p) :
    Calls Tryz.prog 80 #[.pointer (some ⟨g, 0, none⟩), .string s] w (Any lo g p w) := by
  have HP := Lib.hid (pick_r g p (by omega) 30 w h)
  clear h
  go_enter Tryz.func80, Tryz.ntmps80
  go_wp2_with fail
  refine HP.out.mono ?_
  rintro e w1 ⟨q, rfl, ⟨hq0, -⟩, hq1, hr, ha⟩
  have HA := Lib.hid ha
  clear ha HP
  by_cases h0 : q = 0
  · subst h0
    have HN := Lib.hid (of_lit g (p + 1) (by omega) [⟨#[120]⟩, ⟨#[38]⟩, ⟨#[32]⟩] (by decide) (by decide) 3 w1 hr)
    clear hr hq0 hq1
    go_wp2_with fail
    refine HN.out.mono ?_
    rintro e w2 ⟨u, rfl, hu, hr, ha⟩
    have hu1 := tri_le u hu
    have HR := Lib.hid hr
    have HA2 := Lib.hid (HA.out.trans ha)
    have hcat := fun W => run_string_add_sum (P := Tryz.prog) (w := W) s u (by omega)
    clear hr ha hu HN HA
    go_wp2_with fail
    go_ret
    exact ⟨_, p + 1 + 1, rfl, by rw [ByteArray.size_append]; omega, HR.out, by omega, HA2.out⟩
  by_cases h1 : q = 1
  · subst h1
    have HR := Lib.hid hr
    have hle : (s.size : Int) - 1 ≤ (s.size : Int) := by omega
    have hpos : (0 : Int) ≤ (s.size : Int) - 1 := by omega
    clear hr hq0 hq1 h0
    go_wp2_with fail
    go_ret
    exact ⟨_, p + 1, rfl, by rw [ByteArray.size_extract]; omega, HR.out, by omega, HA.out⟩
  by_cases h2 : q = 2
  · subst h2
    have HQ := Lib.hid (pick_r g (p + 1) (by omega) (s.size : Int) w1 hr)
    clear hr hq0 hq1 h0 h1
    go_wp2_with fail
    refine HQ.out.mono ?_
    rintro e w6 ⟨k, rfl, ⟨hk0, -⟩, hk1, hr, hap⟩
    have HA6 := Lib.hid (HA.out.trans hap)
    obtain ⟨k, rfl⟩ := Int.eq_ofNat_of_zero_le hk0
    have hk : k < s.size := by omega
    have HR6 := Lib.hid hr
    clear hr hap HQ HA hk0 hk1
    go_wp2_with fail
    refine wp_region_draws g (p + 1 + 1) (YB g s k) (YB.on g s k) (by kernel_rfl) (by kernel_rfl) rfl HR6.out ?con ?en
    case con =>
      intro i o ho a wx p9 hp3 hp4 hax hrx hf
      have hp5 : p9 ≤ 120000 := Nat.le_trans hp4 (by show _ + 400 * 13 ≤ _; omega)
      match i, ho with
      | 0, ho =>
        obtain rfl := Option.some.inj ho
        have b1 : a.tmps[1]?.getD undef = .string s := hf.2 1 (by kernel_rfl)
        exact wp_value (.string s) (by unfold execOp; go_simp) ⟨_, p9, rfl, rfl, Apt.refl _ _, hrx, Nat.le_refl _, by omega⟩
      | 1, ho =>
        obtain rfl := Option.some.inj ho
        have b5 : a.tmps[5]?.getD undef = .int .i64 (k : Int) := hf.2 5 (by kernel_rfl)
        exact wp_value (.int .i64 (k : Int)) (by unfold execOp; go_simp) ⟨_, p9, rfl, rfl, Apt.refl _ _, hrx, Nat.le_refl _, by omega⟩
      | 2, ho =>
        obtain rfl := Option.some.inj ho
        have e28 : a.tmps[28]?.getD undef = .string s := hf.1 ⟨0, .data⟩ (by simp) rfl _ 28 rfl rfl
        have e29 : a.tmps[29]?.getD undef = .int .i64 (k : Int) := hf.1 ⟨1, .data⟩ (by simp) rfl _ 29 rfl rfl
        have hki : (k : Int) ≤ (s.size : Int) := by omega
        exact wp_value (.string (s.extract 0 k)) (by unfold execOp; go_simp) ⟨_, p9, rfl, rfl, Apt.refl _ _, hrx, Nat.le_refl _, by omega⟩
      | 3, ho =>
        obtain rfl := Option.some.inj ho
        have b0 : a.tmps[0]?.getD undef = .pointer (some ⟨g, 0, none⟩) := hf.2 0 (by kernel_rfl)
        exact wp_value (.pointer (some ⟨g, 0, none⟩)) (by unfold execOp; go_simp) ⟨_, p9, rfl, rfl, Apt.refl _ _, hrx, Nat.le_refl _, by omega⟩
      | 4, ho =>
        obtain rfl := Option.some.inj ho
        have hgl := hrx.lt
        have hb := (Below.refl wx.heap.size wx).alloc (Nat.le_refl _) (.cells (([⟨#[119]⟩, ⟨#[38]⟩, ⟨#[49]⟩, ⟨#[90]⟩] : List ByteArray).map fun x : ByteArray => Value.string x).toArray 9)
        refine wp_made (wx.alloc (.cells (([⟨#[119]⟩, ⟨#[38]⟩, ⟨#[49]⟩, ⟨#[90]⟩] : List ByteArray).map fun x : ByteArray => Value.string x).toArray 9)) (.slice (some ⟨wx.heap.size, 0, none⟩) 4 4) ?_ ⟨_, p9, rfl, ⟨wx.heap.size, rfl, by omega, by simp, fun j hj => cells_str wx 9 ([⟨#[119]⟩, ⟨#[38]⟩, ⟨#[49]⟩, ⟨#[90]⟩] : List ByteArray) j hj⟩, Apt.of_below hb, hrx.later hb, Nat.le_refl _, by omega⟩
        unfold execOp
        go_simp
      | 5, ho =>
        obtain rfl := Option.some.inj ho
        have e31 : a.tmps[31]?.getD undef = .pointer (some ⟨g, 0, none⟩) := hf.1 ⟨3, .data⟩ (by simp) rfl _ 31 rfl rfl
        obtain ⟨b, e32, hbg, hbl, hbc⟩ : ∃ b, a.tmps[32]?.getD undef = .slice (some ⟨b, 0, none⟩) 4 4 ∧ b ≠ g ∧ b < wx.heap.size ∧ ∀ j (hj : j < ([⟨#[119]⟩, ⟨#[38]⟩, ⟨#[49]⟩, ⟨#[90]⟩] : List ByteArray).length), wx.cell? ⟨b, j, none⟩ = some (.string ([⟨#[119]⟩, ⟨#[38]⟩, ⟨#[49]⟩, ⟨#[90]⟩] : List ByteArray)[j]) := hf.1 ⟨4, .data⟩ (by simp) rfl _ 32 rfl rfl
        exact wp_enterP 93 #[.pointer (some ⟨g, 0, none⟩), .slice (some ⟨b, 0, none⟩) 4 4] (fun v w' => (∃ u : ByteArray, v = .string u ∧ u.size ≤ 1) ∧ Rdr lo w' g (p9 + 1) ∧ Apt g wx w') (by unfold execOp; go_simp)
          ((of_any g p9 (by omega) ([⟨#[119]⟩, ⟨#[38]⟩, ⟨#[49]⟩, ⟨#[90]⟩] : List ByteArray) (by decide) (by decide) b 4 hbg wx hrx hbl hbc).mono fun e w' h => by obtain ⟨x, he, hx, hr, ha⟩ := h; exact ⟨_, he, ⟨x, rfl, one_le x hx⟩, hr, ha⟩)
          (fun v w' h => ⟨v, p9 + 1, rfl, h.1, h.2.2, h.2.1, by omega, by omega⟩)
      | 6, ho =>
        obtain rfl := Option.some.inj ho
        have e30 : a.tmps[30]?.getD undef = .string (s.extract 0 k) := hf.1 ⟨2, .data⟩ (by simp) rfl _ 30 rfl rfl
        obtain ⟨u, e33, hu⟩ : ∃ u : ByteArray, a.tmps[33]?.getD undef = .string u ∧ u.size ≤ 1 := hf.1 ⟨5, .data⟩ (by simp) rfl _ 33 rfl rfl
        have hex : (s.extract 0 k).size ≤ s.size := by rw [ByteArray.size_extract]; omega
        have hcat := run_string_add_sum (P := Tryz.prog) (w := wx) (s.extract 0 k) u (by omega)
        exact wp_value (.string (s.extract 0 k ++ u)) (by unfold execOp; go_simp) ⟨_, p9, rfl, ⟨_, rfl, by rw [ByteArray.size_append]; omega⟩, Apt.refl _ _, hrx, Nat.le_refl _, by omega⟩
      | 7, ho =>
        obtain rfl := Option.some.inj ho
        have b1 : a.tmps[1]?.getD undef = .string s := hf.2 1 (by kernel_rfl)
        exact wp_value (.string s) (by unfold execOp; go_simp) ⟨_, p9, rfl, rfl, Apt.refl _ _, hrx, Nat.le_refl _, by omega⟩
      | 8, ho =>
        obtain rfl := Option.some.inj ho
        have b5 : a.tmps[5]?.getD undef = .int .i64 (k : Int) := hf.2 5 (by kernel_rfl)
        exact wp_value (.int .i64 (k : Int)) (by unfold execOp; go_simp) ⟨_, p9, rfl, rfl, Apt.refl _ _, hrx, Nat.le_refl _, by omega⟩
      | 9, ho =>
        obtain rfl := Option.some.inj ho
        have e36 : a.tmps[36]?.getD undef = .int .i64 (k : Int) := hf.1 ⟨8, .data⟩ (by simp) rfl _ 36 rfl rfl
        have hwr : IntKind.i64.wrap ((k : Int) + 1) = (k : Int) + 1 := by rw [IntWalk.i64_in _ ⟨by omega, by omega⟩]
        exact wp_value (.int .i64 ((k : Int) + 1)) (by unfold execOp; go_simp) ⟨_, p9, rfl, rfl, Apt.refl _ _, hrx, Nat.le_refl _, by omega⟩
      | 10, ho =>
        obtain rfl := Option.some.inj ho
        have e35 : a.tmps[35]?.getD undef = .string s := hf.1 ⟨7, .data⟩ (by simp) rfl _ 35 rfl rfl
        have e37 : a.tmps[37]?.getD undef = .int .i64 ((k : Int) + 1) := hf.1 ⟨9, .data⟩ (by simp) rfl _ 37 rfl rfl
        have hqi : (k : Int) + 1 ≤ (s.size : Int) := by omega
        exact wp_value (.string (s.extract (k + 1) s.size)) (by unfold execOp; go_simp; intro hneg; exact absurd hneg (by omega)) ⟨_, p9, rfl, ⟨_, rfl, by rw [ByteArray.size_extract]; omega⟩, Apt.refl _ _, hrx, Nat.le_refl _, by omega⟩
      | 11, ho =>
        obtain rfl := Option.some.inj ho
        obtain ⟨u, e34, hu⟩ : ∃ u : ByteArray, a.tmps[34]?.getD undef = .string u ∧ u.size ≤ s.size + 1 := hf.1 ⟨6, .data⟩ (by simp) rfl _ 34 rfl rfl
        obtain ⟨u2, e38, hu2⟩ : ∃ u : ByteArray, a.tmps[38]?.getD undef = .string u ∧ u.size ≤ s.size := hf.1 ⟨10, .data⟩ (by simp) rfl _ 38 rfl rfl
        have hcat := run_string_add_sum (P := Tryz.prog) (w := wx) u u2 (by omega)
        exact wp_value (.string (u ++ u2)) (by unfold execOp; go_simp) ⟨_, p9, rfl, ⟨_, rfl, by rw [ByteArray.size_append]; omega⟩, Apt.refl _ _, hrx, Nat.le_refl _, by omega⟩
      | 12, ho =>
        obtain rfl := Option.some.inj ho
        obtain ⟨u, e39, hu⟩ : ∃ u : ByteArray, a.tmps[39]?.getD undef = .string u ∧ u.size ≤ s.size + s.size + 1 := hf.1 ⟨11, .data⟩ (by simp) rfl _ 39 rfl rfl
        exact wp_value (.string u) (by unfold execOp; go_simp) ⟨_, p9, rfl, ⟨_, rfl, hu⟩, Apt.refl _ _, hrx, Nat.le_refl _, by omega⟩
      | q + 13, ho => simp at ho
    case en =>
      intro vs wx p9 hp3 hp4 hax hrx hall
      have hp6 : p9 ≤ p + 8000 := Nat.le_trans hp4 (by show _ + 400 * 13 ≤ _; omega)
      obtain ⟨u, hu, hus⟩ : ∃ u : ByteArray, vs 12 = .string u ∧ u.size ≤ s.size + s.size + 1 := hall 12 _ rfl
      have HA7 := Lib.hid (HA6.out.trans hax)
      have HR7 := Lib.hid hrx
      clear hax hrx hall HR6 HA6 hp3 hp4
      simp only [fill, Act.put, hu]
      go_simp
      go_wp2_with fail
      go_ret
      exact ⟨u, p9, rfl, by omega, HR7.out, hp6, HA7.out⟩
  · have HR := Lib.hid hr
    have b0 : (q == 0) = false := beq_false_of_ne h0
    have b1 : (q == 1) = false := beq_false_of_ne h1
    have b2 : (q == 2) = false := beq_false_of_ne h2
    clear hr hq0 hq1 h0 h1 h2
    go_wp2_with fail
    go_ret
    exact ⟨s, p + 1, rfl, by omega, HR.out, by omega, HA.out⟩


/-- how many numbers are drawn at most for a formula of a depth -/
def cost : Nat → Nat
  | 0 => 2
  | d + 1 => 4 + 2 * cost d
theorem cost_le : ∀ d : Fin 5, cost d.1 ≤ 400 := by decide
theorem sgn_in (u : ByteArray) (h : u ∈ ([⟨#[38]⟩, ⟨#[124]⟩] : List ByteArray)) : ∃ a : Bool, u = str [sgn a] := by
  simp only [List.mem_cons, List.not_mem_nil, or_false] at h
  rcases h with rfl | rfl
  · exact ⟨true, rfl⟩
  · exact ⟨false, rfl⟩
theorem len_pow (t : F) (d : Nat) (h : deep t ≤ d) (hd : d ≤ 4) : (text t).length ≤ 31 := by
  have h1 := text_size t
  have h2 := size_le t
  have h3 : 2 ^ deep t ≤ 2 ^ 4 := Nat.pow_le_pow_right (by decide) (by omega)
  have h4 : (2 : Nat) ^ 4 = 16 := by decide
  omega
/-- what a drawn formula is -/
def Drawn (lo g p d b : Nat) (w : World) (e : Ending) (w' : World) : Prop := ∃ (t : F) (p' : Nat), e = .returned (.string (str (text t))) ∧ wf b t ∧ deep t ≤ d ∧ Rdr lo w' g p' ∧ p' ≤ p + cost d ∧ Apt g w w'

set_option maxHeartbeats 8000000 in
set_option maxRecDepth 100000 in
theorem draw_tree {lo : Nat} (b : Nat) (hb1 : 1 ≤ b) (hb3 : b ≤ 3) : ∀ (d : Nat), d ≤ 4 → ∀ (g p : Nat) (hp : p + cost d ≤ 1040000) (w : World) (h : Rdr lo w g p),
    Calls Tryz.prog 58 #[.pointer (some ⟨g, 0, none⟩), .int .i64 (d : Int), .int .i64 (b : Int)] w (Drawn lo g p d b w) := by
  intro d
  induction d with
  | zero =>
    intro _ g p hp w h
    have hp2 : p + 2 ≤ 1040000 := hp
    clear hp
    show Calls _ _ #[_, .int .i64 0, _] _ _
    go_enter Tryz.func58, Tryz.ntmps58
    have HK := Lib.hid (pick_r g (p) (by omega) (b : Int) w h)
    clear h
    go_wp2_with fail
    refine HK.out.mono ?_
    rintro e wA ⟨x, rfl, ⟨hx0, -⟩, hx1, hrA, haA⟩
    have HAA := Lib.hid (haA)
    have hx : x = 0 ∨ (x = 1 ∧ 1 < b) ∨ (x = 2 ∧ 2 < b) := by omega
    have HQ := Lib.hid (pick_r g (p + 1) (by omega) 3 wA hrA)
    clear hrA haA HK hx0 hx1
    rcases hx with rfl | ⟨rfl, hkb⟩ | ⟨rfl, hkb⟩
    all_goals
      go_wp2_with fail
      refine HQ.out.mono ?_
      rintro e wB ⟨y, rfl, ⟨hy0, -⟩, hy1, hrB, haB⟩
      have HRB := Lib.hid hrB
      have HAB := Lib.hid (HAA.out.trans haB)
      clear hrB haB
      by_cases hy : y = 0
      · subst hy
        clear hy0 hy1
        go_wp2_with fail
        go_ret
        first
          | exact ⟨.lit 0 false, p + 1 + 1, by rfl, by show 0 < b; omega, Nat.le_refl _, HRB.out, by show p + 1 + 1 ≤ p + 2; omega, HAB.out⟩
          | exact ⟨.lit 1 false, p + 1 + 1, by rfl, by show 1 < b; omega, Nat.le_refl _, HRB.out, by show p + 1 + 1 ≤ p + 2; omega, HAB.out⟩
          | exact ⟨.lit 2 false, p + 1 + 1, by rfl, by show 2 < b; omega, Nat.le_refl _, HRB.out, by show p + 1 + 1 ≤ p + 2; omega, HAB.out⟩
      · have hyb : (y == 0) = false := beq_false_of_ne hy
        clear hy0 hy1 hy
        go_wp2_with fail
        go_ret
        first
          | exact ⟨.lit 0 true, p + 1 + 1, by rfl, by show 0 < b; omega, Nat.le_refl _, HRB.out, by show p + 1 + 1 ≤ p + 2; omega, HAB.out⟩
          | exact ⟨.lit 1 true, p + 1 + 1, by rfl, by show 1 < b; omega, Nat.le_refl _, HRB.out, by show p + 1 + 1 ≤ p + 2; omega, HAB.out⟩
          | exact ⟨.lit 2 true, p + 1 + 1, by rfl, by show 2 < b; omega, Nat.le_refl _, HRB.out, by show p + 1 + 1 ≤ p + 2; omega, HAB.out⟩
  | succ d ih =>
    intro hd g p hp w h
    have hc : cost (d + 1) = 4 + 2 * cost d := rfl
    rw [hc] at hp
    have HP := Lib.hid (pick_r g p (by omega) 4 w h)
    have IH := Lib.hid (fun q (hq : q + cost d ≤ 1040000) W hW => ih (by omega) g q hq W hW)
    have hcd : ((d + 1 : Nat) : Int) - 1 = (d : Int) := by omega
    have hd1 : (0 : Int) < ((d + 1 : Nat) : Int) := by omega
    have hdw : ((d + 1 : Nat) : Int) ≤ 4 := by omega
    obtain ⟨D, hD⟩ : ∃ D : Int, ((d + 1 : Nat) : Int) = D := ⟨_, rfl⟩
    rw [hD] at hcd hd1 hdw
    have HCD := Lib.hid hcd
    show Calls _ _ #[_, .int .i64 ((d + 1 : Nat) : Int), _] _ _
    rw [hD]
    clear h ih hc hcd hD
    go_enter Tryz.func58, Tryz.ntmps58
    go_wp2_with fail
    refine HP.out.mono ?_
    rintro e w1 ⟨z, rfl, ⟨hz0, -⟩, hz1, hr, ha⟩
    have HA := Lib.hid ha
    clear ha HP
    by_cases hz : z = 0
    · subst hz
      clear hz0 hz1 IH HCD
      have HK := Lib.hid (pick_r g (p + 1) (by omega) (b : Int) w1 hr)
      clear hr
      go_wp2_with fail
      refine HK.out.mono ?_
      rintro e wA ⟨x, rfl, ⟨hx0, -⟩, hx1, hrA, haA⟩
      have HAA := Lib.hid (HA.out.trans haA)
      have hx : x = 0 ∨ (x = 1 ∧ 1 < b) ∨ (x = 2 ∧ 2 < b) := by omega
      have HQ := Lib.hid (pick_r g (p + 1 + 1) (by omega) 3 wA hrA)
      clear hrA haA HK hx0 hx1 HA
      rcases hx with rfl | ⟨rfl, hkb⟩ | ⟨rfl, hkb⟩
      all_goals
        go_wp2_with fail
        refine HQ.out.mono ?_
        rintro e wB ⟨y, rfl, ⟨hy0, -⟩, hy1, hrB, haB⟩
        have HRB := Lib.hid hrB
        have HAB := Lib.hid (HAA.out.trans haB)
        clear hrB haB
        by_cases hy : y = 0
        · subst hy
          clear hy0 hy1
          go_wp2_with fail
          go_ret
          first
            | exact ⟨.lit 0 false, p + 1 + 1 + 1, by rfl, by show 0 < b; omega, Nat.zero_le _, HRB.out, by show _ ≤ p + (4 + 2 * cost d); omega, HAB.out⟩
            | exact ⟨.lit 1 false, p + 1 + 1 + 1, by rfl, by show 1 < b; omega, Nat.zero_le _, HRB.out, by show _ ≤ p + (4 + 2 * cost d); omega, HAB.out⟩
            | exact ⟨.lit 2 false, p + 1 + 1 + 1, by rfl, by show 2 < b; omega, Nat.zero_le _, HRB.out, by show _ ≤ p + (4 + 2 * cost d); omega, HAB.out⟩
        · have hyb : (y == 0) = false := beq_false_of_ne hy
          clear hy0 hy1 hy
          go_wp2_with fail
          go_ret
          first
            | exact ⟨.lit 0 true, p + 1 + 1 + 1, by rfl, by show 0 < b; omega, Nat.zero_le _, HRB.out, by show _ ≤ p + (4 + 2 * cost d); omega, HAB.out⟩
            | exact ⟨.lit 1 true, p + 1 + 1 + 1, by rfl, by show 1 < b; omega, Nat.zero_le _, HRB.out, by show _ ≤ p + (4 + 2 * cost d); omega, HAB.out⟩
            | exact ⟨.lit 2 true, p + 1 + 1 + 1, by rfl, by show 2 < b; omega, Nat.zero_le _, HRB.out, by show _ ≤ p + (4 + 2 * cost d); omega, HAB.out⟩
    · have hzb : (z == 0) = false := beq_false_of_ne hz
      have hdd : decide (D ≤ 0) = false := decide_eq_false (by omega)
      have HN := Lib.hid (of_lit g (p + 1) (by omega) [⟨#[38]⟩, ⟨#[124]⟩] (by decide) (by decide) 2 w1 hr)
      clear hr hz0 hz1
      go_wp2_with fail
      refine HN.out.mono ?_
      rintro e w2 ⟨u, rfl, hu, hr, ha⟩
      obtain ⟨a, rfl⟩ := sgn_in u hu
      have HA2 := Lib.hid (HA.out.trans ha)
      have HZ := Lib.hid (IH.out (p + 1 + 1) (by omega) w2 hr)
      obtain ⟨q0, hq0⟩ : ∃ q0, str [sgn a] = q0 := ⟨_, rfl⟩
      have hs0 : q0.size = 1 := by rw [← hq0]; rfl
      have HQ0 := Lib.hid hq0
      rw [hq0]
      have hcd := HCD.out
      clear hr ha hu HN HA hz hq0 hzb hdd
      go_wp2_with fail
      refine HZ.out.mono ?_
      rintro e w3 ⟨f, p3, rfl, hwf, hdf, hr, hp3, ha⟩
      have HA3 := Lib.hid (HA2.out.trans ha)
      have HO := Lib.hid (IH.out p3 (by omega) w3 hr)
      have hlf := len_pow f d hdf (by omega)
      have HWF := Lib.hid (And.intro hwf hdf)
      obtain ⟨qz, hqz⟩ : ∃ q, str (text f) = q := ⟨_, rfl⟩
      have hsz : qz.size ≤ 31 := by rw [← hqz, str_size]; omega
      rw [hqz]
      have HQZ := Lib.hid hqz
      have c1 := fun W => run_string_add_sum (P := Tryz.prog) (w := W) q0 qz (by omega)
      clear hr ha HZ HA2 hwf hdf IH hlf hqz
      go_wp2_with fail
      refine HO.out.mono ?_
      rintro e w4 ⟨k, p4, rfl, hwk, hdk, hr, hp4, ha⟩
      have HA4 := Lib.hid (HA3.out.trans ha)
      have HR4 := Lib.hid hr
      have hlk := len_pow k d hdk (by omega)
      have HWK := Lib.hid (And.intro hwk hdk)
      obtain ⟨qk, hqk⟩ : ∃ q, str (text k) = q := ⟨_, rfl⟩
      have hsk : qk.size ≤ 31 := by rw [← hqk, str_size]; omega
      rw [hqk]
      have HQK := Lib.hid hqk
      have c2 := fun W => run_string_add_sum (P := Tryz.prog) (w := W) (q0 ++ qz) qk (by rw [ByteArray.size_append]; omega)
      have HQR : Hid (q0 ++ qz ++ qk = str (text (.gate a f k))) := by
        unfold Hid
        rw [← HQ0.out, ← HQZ.out, ← HQK.out, str_append, str_append]
        simp [text]
      clear hr ha HO HA3 hwk hdk hlk hqk hsk hs0 hsz
      go_wp2_with fail
      go_ret
      refine ⟨.gate a f k, p4, by rw [← HQR.out]; rfl, ⟨HWF.out.1, HWK.out.1⟩, ?_, HR4.out, ?_, HA4.out⟩
      · have b1 := HWF.out.2
        have b2 := HWK.out.2
        show 1 + max (deep f) (deep k) ≤ d + 1
        omega
      · show p4 ≤ p + (4 + 2 * cost d)
        omega

set_option maxHeartbeats 4000000 in
set_option maxRecDepth 100000 in
theorem open9_any {lo : Nat} (g p : Nat) (hp : p ≤ 50000) (w : World) (h : Rdr lo w g p) :
    Calls Tryz.prog 42 #[.pointer (some ⟨g, 0, none⟩)] w fun e w' => ∃ (s : ByteArray) (b : Int) (p' : Nat), e = .returned (.tuple #[.string s, .int .i64 b]) ∧ s.size ≤ 1000 ∧ (-1 ≤ b ∧ b ≤ 4) ∧ Rdr lo w' g p' ∧ p' ≤ p + 9000 ∧ Apt g w w' := by
  have H1 := Lib.hid (pick_r g p (by omega) 3 w h)
  clear h
  go_enter Tryz.func42, Tryz.ntmps42
  go_wp2_with fail
  refine H1.out.mono ?_
  rintro e w1 ⟨x, rfl, ⟨hx0, -⟩, hx1, hr, ha⟩
  have HA := Lib.hid ha
  have H2 := Lib.hid (pick_r g (p + 1) (by omega) 4 w1 hr)
  obtain ⟨X, rfl⟩ := Int.eq_ofNat_of_zero_le hx0
  have hX : X < 3 := by omega
  clear hr ha H1 hx0 hx1
  go_wp2_with fail
  refine H2.out.mono ?_
  rintro e w2 ⟨y, rfl, ⟨hy0, -⟩, hy1, hr, ha⟩
  have HA2 := Lib.hid (HA.out.trans ha)
  obtain ⟨Y, rfl⟩ := Int.eq_ofNat_of_zero_le hy0
  have hY : Y < 4 := by omega
  have hcl : cost (Y + 1) ≤ 400 := cost_le ⟨Y + 1, by omega⟩
  have H3 := Lib.hid (draw_tree (X + 1) (by omega) (by omega) (Y + 1) (by omega) g (p + 1 + 1) (by omega) w2 hr)
  have e1 : ((X + 1 : Nat) : Int) = 1 + (X : Int) := by omega
  have e2 : ((Y + 1 : Nat) : Int) = 1 + (Y : Int) := by omega
  rw [e1, e2] at H3
  clear hr ha H2 HA hy0 hy1 e1 e2
  go_wp2_with fail
  refine H3.out.mono ?_
  rintro e w3 ⟨t, p3, rfl, hwt, hdt, hr, hp3, ha⟩
  have HA3 := Lib.hid (HA2.out.trans ha)
  have hl := len_pow t (Y + 1) hdt (by omega)
  have hl1 := text_pos t
  have H4 := Lib.hid (bad_any g p3 (by omega) (str (text t)) (by rw [str_size]; omega) (by rw [str_size]; omega) w3 hr)
  clear hr ha H3 HA2 hwt hdt hl hl1
  generalize str (text t) = q at *
  go_wp2_with fail
  refine H4.out.mono ?_
  rintro e w4 ⟨s, p4, rfl, hs, hr, hp4, ha⟩
  have HA4 := Lib.hid (HA3.out.trans ha)
  have H5 := Lib.hid (pick_r g p4 (by omega) 20 w4 hr)
  clear hr ha H4 HA3
  go_wp2_with fail
  refine H5.out.mono ?_
  rintro e w5 ⟨z, rfl, ⟨hz0, -⟩, hz1, hr, ha⟩
  have HA5 := Lib.hid (HA4.out.trans ha)
  clear ha H5 HA4
  by_cases hz : z = 0
  · subst hz
    have HN := Lib.hid (num_lit g (p4 + 1) (by omega) [0, 4, -1, 1] (by decide) (by decide) 4 w5 hr)
    clear hr hz0 hz1
    go_wp2_with fail
    refine HN.out.mono ?_
    rintro e w6 ⟨k, rfl, hk, hr, ha⟩
    have hk2 : -1 ≤ k ∧ k ≤ 4 := by simp at hk; omega
    have HR6 := Lib.hid hr
    have HA6 := Lib.hid (HA5.out.trans ha)
    clear hr ha hk HN HA5
    go_wp2_with fail
    go_returns
    exact ⟨s, k, p4 + 1 + 1, rfl, hs, hk2, HR6.out, by omega, HA6.out⟩
  · have hzb : (z == 0) = false := beq_false_of_ne hz
    have HR5 := Lib.hid hr
    clear hr hz hz0 hz1
    go_wp2_with fail
    go_returns
    exact ⟨s, 1 + (X : Int), p4 + 1, rfl, hs, by omega, HR5.out, by omega, HA5.out⟩

set_option maxHeartbeats 1000000 in
theorem draw_deep (v : Value) (n : Nat) (w : World) (h : ByteArg w v n) :
    Calls Tryz.prog 19 #[v] w fun e w' => ∃ (s : ByteArray), e = .returned (.string s) ∧ s.size ≤ 1000 ∧ Below w.heap.size w w' := by
  have HO := Lib.hid (open_any v n w h)
  clear h
  go_enter Tryz.func19, Tryz.ntmps19
  go_wp2_with fail
  refine HO.out.mono ?_
  rintro e w1 ⟨g, rfl, hr, hb, hg⟩
  have HB := Lib.hid hb
  have HS := Lib.hid (open9_any g 0 (by omega) w1 hr)
  clear hr hb HO
  go_wp2_with fail
  refine HS.out.mono ?_
  rintro e w2 ⟨s, b, p2, rfl, hs, hb, hr, hp2, ha⟩
  have HB2 : Hid (Below w.heap.size w w2) := ha.below HB.out (by omega)
  clear hr ha HS HB
  go_wp2_with fail
  go_ret
  exact ⟨s, rfl, hs, HB2.out⟩
end Go.Proofs.YtbccachkkflceaaGreatDoor.DrawFm

