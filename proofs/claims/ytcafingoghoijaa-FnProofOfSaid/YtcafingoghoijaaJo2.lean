/-
  Texts of one seat, joined: Shelf, Valid2, Law, GridPlain.
-/
import Derived.Test.YtcafingoghoijaaJo1
import Derived.Test.YtcafingoghoijaaProg
import Derived.Shelf.Strings.SlTrimAscii
/-
  No library contract is wanted here.
-/

/-
  When the program calls a matrix valid: the contract of impl.MatrixValid. strings.Trim by the library's contract.
-/
namespace Go.Proofs.Ytcafingoghoijaa.Valid
open Go.RowKit Go.Proofs.Ytcafingoghoijaa.Plain Go.Proofs.Ytcafingoghoijaa.Base
set_option linter.unusedVariables false

theorem has_bit (b : UInt8) : ([48, 49] : List UInt8).contains b = isBit b := by
  unfold isBit
  rw [Bool.eq_iff_iff]
  simp
theorem drop_all {l : List UInt8} {p : UInt8 → Bool} : l.dropWhile p = [] ↔ l.all p = true := by
  induction l with
  | nil => simp
  | cons a l ih =>
    by_cases h : p a = true
    · rw [List.dropWhile_cons_of_pos h, ih, List.all_cons, h, Bool.true_and]
    · rw [List.dropWhile_cons_of_neg h]
      simp [h]
theorem trim_none (s : ByteArray) : (Lib.trimS s.data.toList [48, 49] = []) ↔ okB s = true := by
  unfold Lib.trimS Lib.trimLeftS Lib.trimRightS okB
  rw [show (fun x => ([48, 49] : List UInt8).contains x) = isBit from funext has_bit]
  constructor
  · intro h
    rw [drop_all, List.all_reverse] at h
    by_cases h2 : (s.data.toList.reverse.dropWhile isBit) = []
    · rw [drop_all, List.all_reverse] at h2; exact h2
    · exfalso
      have h3 := List.head_dropWhile_not (p := isBit) h2
      rw [List.all_eq_true] at h
      have h4 := h _ (List.head_mem h2)
      rw [h3] at h4
      cases h4
  · intro h
    have h2 : s.data.toList.reverse.dropWhile isBit = [] := by rw [drop_all, List.all_reverse]; exact h
    rw [h2]
    rfl

theorem toList_str (l : List UInt8) : (str l).toList = l := by
  rw [Lib.toList_data]; rfl
theorem trim_test (s : ByteArray) (x : Int) : (str (Lib.trimS s.data.toList [48, 49])).toList.isEmpty = (okB s && (x == x)) := by
  rw [toList_str, beq_self_eq_true, Bool.and_true, Bool.eq_iff_iff, List.isEmpty_iff]
  exact trim_none s
end Go.Proofs.Ytcafingoghoijaa.Valid

/-
  Contracts of the laws' own small functions: szMatrix, toMatrix, eqMatrix.
-/
namespace Go.Proofs.Ytcafingoghoijaa.Law
open Go.RowKit Go.Proofs.Ytcafingoghoijaa.Plain Go.Proofs.Ytcafingoghoijaa.Base
set_option linter.unusedVariables false

theorem bcell {W w1 : World} (hb : Below W.heap.size W w1) : (∀ b o, b < W.heap.size → w1.cell? ⟨b, o, none⟩ = W.cell? ⟨b, o, none⟩) ∧ (∀ b o, b < W.heap.size → w1.frozen? ⟨b, o, none⟩ = W.frozen? ⟨b, o, none⟩) :=
  ⟨fun b o h => hb.cell (p := ⟨b, o, none⟩) h, fun b o h => hb.frozen (p := ⟨b, o, none⟩) h⟩
/-- one step more: what a callee leaves alone -/
theorem bstep {w a b : World} (h : Below w.heap.size w a) (h2 : Below a.heap.size a b) : Below w.heap.size w b := h.trans (h2.mono h.size)
theorem bstepA {w a : World} (h : Below w.heap.size w a) (o : Obj) : Below w.heap.size w (a.alloc o) := h.alloc h.size o

/-- the law's own copy of its argument, later on -/
theorem three_of {w w1 : World} {a b c : Value} {T : TypeId} (hb : Below (w.alloc (.cells #[a, b, c] T)).heap.size (w.alloc (.cells #[a, b, c] T)) w1) :
    w1.cell? ⟨w.heap.size, 0, none⟩ = some a ∧ w1.cell? ⟨w.heap.size, 1, none⟩ = some b ∧ w1.cell? ⟨w.heap.size, 2, none⟩ = some c := by
  have hs : (w.alloc (.cells #[a, b, c] T)).heap.size = w.heap.size + 1 := by simp
  refine ⟨?_, ?_, ?_⟩
  · exact (hb.cell (p := ⟨w.heap.size, 0, none⟩) (by show w.heap.size < _; omega)).trans (by simp)
  · exact (hb.cell (p := ⟨w.heap.size, 1, none⟩) (by show w.heap.size < _; omega)).trans (by simp)
  · exact (hb.cell (p := ⟨w.heap.size, 2, none⟩) (by show w.heap.size < _; omega)).trans (by simp)
theorem three_on {w1 w2 : World} {g : Nat} {a b c : Value} (hb : Below w1.heap.size w1 w2) (hg : g < w1.heap.size)
    (h0 : w1.cell? ⟨g, 0, none⟩ = some a) (h1 : w1.cell? ⟨g, 1, none⟩ = some b) (h2 : w1.cell? ⟨g, 2, none⟩ = some c) :
    w2.cell? ⟨g, 0, none⟩ = some a ∧ w2.cell? ⟨g, 1, none⟩ = some b ∧ w2.cell? ⟨g, 2, none⟩ = some c :=
  ⟨(hb.cell (p := ⟨g, 0, none⟩) hg).trans h0, (hb.cell (p := ⟨g, 1, none⟩) hg).trans h1, (hb.cell (p := ⟨g, 2, none⟩) hg).trans h2⟩

end Go.Proofs.Ytcafingoghoijaa.Law

/-
  Plain facts on a grid's cells: eight a line, one more with each byte that is read. Nothing of the program.
-/
namespace Go.Proofs.Ytcafingoghoijaa.GridPlain
open Go.RowKit Go.Proofs.Ytcafingoghoijaa.Plain

theorem rowB_get (E : Nat → Nat → Bool) (x c j : Nat) (h : j < c) : (rowB E x c)[j]? = some (dig (E x j)) := by
  simp [rowB, h]
theorem rowsB_get (E : Nat → Nat → Bool) (r c k : Nat) (h : k < r * c) : (rowsB E r c)[k]? = some (dig (E (k / c) (k % c))) := by
  induction r with
  | zero => simp at h
  | succ r ih =>
    rw [rowsB_succ]
    by_cases hlt : k < r * c
    · rw [List.getElem?_append_left (by rw [rowsB_length]; exact hlt)]
      exact ih hlt
    · rw [List.getElem?_append_right (by rw [rowsB_length]; omega), rowsB_length]
      have hj : k - r * c < c := by rw [Nat.succ_mul] at h; omega
      rw [rowB_get E r c _ hj]
      obtain ⟨j, rfl⟩ : ∃ j, k = r * c + j := ⟨k - r * c, by omega⟩
      rw [show r * c + j - r * c = j by omega] at hj ⊢
      have hd : (r * c + j) / c = r := by
        rw [Nat.mul_comm, Nat.mul_add_div (by omega), Nat.div_eq_of_lt hj, Nat.add_zero]
      have hm : (r * c + j) % c = j := by
        rw [Nat.mul_comm, Nat.mul_add_mod, Nat.mod_eq_of_lt hj]
      rw [hd, hm]
theorem str_get (l : List UInt8) (k : Nat) (u : UInt8) (h : l[k]? = some u) (hk : k < (str l).size) : (str l)[k] = u := by
  obtain ⟨h1, h2⟩ := List.getElem?_eq_some_iff.1 h
  rw [← h2]
  rfl

/-- what stands at place i of the 64 when so many bytes are read -/
def gpart (E : Nat → Nat → Bool) (c k : Nat) (i : Nat) : Int := if i / 8 * c + i % 8 < k ∧ i % 8 < c then bitI (E (i / 8) (i % 8)) else 0
theorem gpart_zero (E : Nat → Nat → Bool) (c : Nat) : gpart E c 0 = fun _ => 0 := by
  funext i
  simp [gpart]
theorem place (c k i : Nat) (h1 : 1 ≤ c) (h8 : c ≤ 8) : (i / 8 * c + i % 8 = k ∧ i % 8 < c) ↔ i = k / c * 8 + k % c := by
  have h : c = 1 ∨ c = 2 ∨ c = 3 ∨ c = 4 ∨ c = 5 ∨ c = 6 ∨ c = 7 ∨ c = 8 := by omega
  rcases h with rfl | rfl | rfl | rfl | rfl | rfl | rfl | rfl <;> omega
theorem gpart_succ (E : Nat → Nat → Bool) (c k i : Nat) (h1 : 1 ≤ c) (h8 : c ≤ 8) :
    gpart E c (k + 1) i = if i = k / c * 8 + k % c then bitI (E (k / c) (k % c)) else gpart E c k i := by
  have hp := place c k i h1 h8
  unfold gpart
  by_cases h : i = k / c * 8 + k % c
  · have h2 := hp.2 h
    have h3 : i / 8 = k / c ∧ i % 8 = k % c := by
      have : k % c < 8 := Nat.lt_of_lt_of_le (Nat.mod_lt _ h1) h8
      omega
    rw [if_pos h, if_pos ⟨by omega, h2.2⟩, h3.1, h3.2]
  · rw [if_neg h]
    by_cases h4 : i / 8 * c + i % 8 < k ∧ i % 8 < c
    · rw [if_pos h4, if_pos ⟨by omega, h4.2⟩]
    · rw [if_neg h4, if_neg]
      intro h5
      apply h
      apply hp.1
      refine ⟨?_, h5.2⟩
      have : ¬ (i / 8 * c + i % 8 < k) := fun h6 => h4 ⟨h6, h5.2⟩
      omega
/-- when all bytes are read -/
theorem gpart_all (E : Nat → Nat → Bool) (r c x y : Nat) (hx : x < r) (hy : y < c) (h8 : c ≤ 8) : gpart E c (r * c) (8 * x + y) = bitI (E x y) := by
  unfold gpart
  have h1 : (8 * x + y) / 8 = x := by omega
  have h2 : (8 * x + y) % 8 = y := by omega
  rw [h1, h2, if_pos]
  refine ⟨?_, hy⟩
  have : (x + 1) * c ≤ r * c := Nat.mul_le_mul_right c hx
  rw [Nat.succ_mul] at this
  omega
/-- beyond the matrix -/
theorem gpart_none (E : Nat → Nat → Bool) (r c x y : Nat) (hy8 : y < 8) (h : r ≤ x ∨ c ≤ y) : gpart E c (r * c) (8 * x + y) = 0 := by
  unfold gpart
  have h1 : (8 * x + y) / 8 = x := by omega
  have h2 : (8 * x + y) % 8 = y := by omega
  rw [h1, h2, if_neg]
  rintro ⟨h3, h4⟩
  rcases h with h | h
  · have : r * c ≤ x * c := Nat.mul_le_mul_right c h
    omega
  · omega
theorem div_lt_of {k r c : Nat} (h : k < r * c) (hr : r ≤ 8) : k / c < 8 := by
  have : k / c < r := Nat.div_lt_of_lt_mul (by rw [Nat.mul_comm]; exact h)
  omega
theorem mod_lt_of {k c : Nat} (hc : 1 ≤ c) (h8 : c ≤ 8) : k % c < 8 := Nat.lt_of_lt_of_le (Nat.mod_lt _ hc) h8
end Go.Proofs.Ytcafingoghoijaa.GridPlain

