/-
  The ends that the inputs of a rectangle reach; slices that own their elements, one appended to another.
-/
import Derived.Test.YtbccachkkflceaaDoorGTrimT
import Derived.Test.YtbccachkkflceaaDoorApp
import Derived.Laws.AppendOwnNone
namespace Go.Proofs.YtbccachkkflceaaDoor.Leaf
open Go.RowKit Go.Proofs.YtbccachkkflceaaDoor.Plain Go.Proofs.YtbccachkkflceaaDoor.Tree Go.Proofs.YtbccachkkflceaaDoor.TrimT Go.Proofs.YtbccachkkflceaaDoor.App
set_option linter.unusedVariables false
set_option linter.unusedSimpArgs false

/-- the ends that are reached, from left to right -/
def leavesT : T → Nat → Nat → List (Nat × Nat × V3)
  | .leaf b, R, C => if R = 0 ∨ C = 0 then [] else [(R, C, b)]
  | .say a s z o, R, C => leavesT z (outR a s R) (outC a s C) ++ leavesT o (inR a s R) (inC a s C)
theorem minus_zero (s : Nat) : minusN 0 s = 0 := Nat.le_zero.1 (minus_le 0 s (by omega))
theorem meet_zero (s : Nat) : meetN 0 s = 0 := Nat.le_zero.1 (meet_le 0 s (by omega))
theorem leaves_none : ∀ (t : T) (R C : Nat), R = 0 ∨ C = 0 → leavesT t R C = []
  | .leaf _, R, C, h => by simp only [leavesT]; rw [if_pos h]
  | .say a s z o, R, C, h => by
    have h1 : outR a s R = 0 ∨ outC a s C = 0 := by
      rcases h with rfl | rfl
      · left; unfold outR; split
        · exact minus_zero s
        · rfl
      · right; unfold outC; split
        · rfl
        · exact minus_zero s
    have h2 : inR a s R = 0 ∨ inC a s C = 0 := by
      rcases h with rfl | rfl
      · left; unfold inR; split
        · exact meet_zero s
        · rfl
      · right; unfold inC; split
        · rfl
        · exact meet_zero s
    simp only [leavesT, leaves_none z _ _ h1, leaves_none o _ _ h2, List.append_nil]
theorem leaves_length : ∀ (t : T) (R C : Nat), (leavesT t R C).length ≤ (text t).length
  | .leaf _, R, C => by simp only [leavesT]; split <;> simp [text]
  | .say a s z o, R, C => by
    have h1 := leaves_length z (outR a s R) (outC a s C)
    have h2 := leaves_length o (inR a s R) (inC a s C)
    simp only [leavesT, text, List.length_append, List.length_cons]
    omega
/-- rectangles, and ends, as cells -/
def cellsR (l : List (Nat × Nat × V3)) : List Value := l.flatMap fun p => [.int .i64 (p.1 : Int), .int .i64 (p.2.1 : Int)]
def cellsL (l : List (Nat × Nat × V3)) : List Value := l.flatMap fun p => [.int .i64 (p.1 : Int), .int .i64 (p.2.1 : Int), .int .i64 (gI p.2.2)]
theorem cellsR_append (l m : List (Nat × Nat × V3)) : cellsR (l ++ m) = cellsR l ++ cellsR m := by simp [cellsR]
theorem cellsL_append (l m : List (Nat × Nat × V3)) : cellsL (l ++ m) = cellsL l ++ cellsL m := by simp [cellsL]
theorem cellsR_length (l : List (Nat × Nat × V3)) : (cellsR l).length = l.length * 2 := by
  induction l with
  | nil => rfl
  | cons p l ih => simp only [cellsR, List.flatMap_cons, List.length_append, List.length_cons] at ih ⊢; simp only [List.length_nil]; omega
theorem cellsL_length (l : List (Nat × Nat × V3)) : (cellsL l).length = l.length * 3 := by
  induction l with
  | nil => rfl
  | cons p l ih => simp only [cellsL, List.flatMap_cons, List.length_append, List.length_cons] at ih ⊢; simp only [List.length_nil]; omega
theorem cellsR_one (l : List (Nat × Nat × V3)) : ∀ u ∈ cellsR l, u.oneCell' = true := by
  intro u hu
  simp only [cellsR, List.mem_flatMap] at hu
  obtain ⟨p, _, hu⟩ := hu
  simp at hu
  rcases hu with rfl | rfl <;> simp [Value.oneCell']
theorem cellsL_one (l : List (Nat × Nat × V3)) : ∀ u ∈ cellsL l, u.oneCell' = true := by
  intro u hu
  simp only [cellsL, List.mem_flatMap] at hu
  obtain ⟨p, _, hu⟩ := hu
  simp at hu
  rcases hu with rfl | rfl | rfl <;> simp [Value.oneCell']

/-- told of an older world -/
theorem Own.lower {w0 w1 w2 : World} {e : TypeId} {k n : Nat} {v : Value} {xs : List Value} (h : Own w1 w2 e k v n xs) (hb : Below w0.heap.size w0 w1) : Own w0 w2 e k v n xs := by
  refine ⟨⟨h.row.1, ?_⟩, hb.trans (h.below.mono hb.size)⟩
  rcases h.row.2 with h1 | ⟨g, cap, cur, h2, h3, h4⟩
  · exact .inl h1
  · exact .inr ⟨g, cap, cur, h2, Nat.le_trans hb.size h3, h4⟩
theorem wp_append_none {o : Oper} {a : Act} {w : World} {K : Act → World → Prop} {Q : Exit → Act → World → Prop} (s x : Operand) (t : TypeId)
    (ho : o.op = .call { callee := .builtin .append, args := #[s, x], argTypes := #[t, t] })
    (base : Nat) (e : TypeId) (i : TypeInfo) (size : Nat) (ht : Tryd.prog.underlying t = some (.slice e)) (hi : Tryd.prog.info? e = some i)
    (v : Value) (n : Nat) (xs : List Value) (hs : a.eval s = v) (hown : w.ownsRow base e size v n xs) (hx : a.eval x = .slice none 0 0)
    (h : K (a.put o.dst v) w) : o.wp Tryd.prog a w K Q := by
  have hrun := run_append_owned_none (P := Tryd.prog) (w := w) base t o.type e i size ht hi v n xs hown
  unfold Oper.wp
  simp [execOp, ho, resolve, invoke, builtin, hs, hx, hrun, Result.andThen]
  exact h
/-- one slice appended to another, both owned -/
theorem wp_append_two {o : Oper} {a : Act} {w0 w : World} {K : Act → World → Prop} {Q : Exit → Act → World → Prop} (s x : Operand) (t : TypeId)
    (ho : o.op = .call { callee := .builtin .append, args := #[s, x], argTypes := #[t, t] })
    (e : TypeId) (i : TypeInfo) (z : Value) (size bytes : Nat) (ht : Tryd.prog.underlying t = some (.slice e)) (hi : Tryd.prog.info? e = some i) (hz : i.zero = some z)
    (hsize : i.size = size) (hby : i.bytes = bytes) (hzs : z.cells.size = size) (hsz : 0 < size)
    (v u : Value) (n m : Nat) (xs ys : List Value) (hs : a.eval s = v) (hv : Own w0 w e size v n xs) (hx : a.eval x = u) (hu : Own w0 w e size u m ys)
    (hl : ys.length = m * size) (h1 : ∀ u ∈ ys, u.oneCell' = true) (hb : n + m ≤ 8000) (hbb : bytes ≤ 100)
    (h : ∀ v' w', Own w0 w' e size v' (n + m) (xs ++ ys) → K (a.put o.dst v') w') : o.wp Tryd.prog a w K Q := by
  have hbytes : (n + m) * bytes ≤ 140737488355328 := by
    have : (n + m) * bytes ≤ 8000 * 100 := Nat.mul_le_mul hb hbb
    omega
  rcases hu.row.2 with ⟨rfl, rfl⟩ | ⟨g, cap, cur, rfl, hg1, hg2, hg3⟩
  · have hy : ys = [] := List.length_eq_zero_iff.1 (by omega)
    subst hy
    refine wp_append_none s x t ho w0.heap.size e i size ht hi v n xs hs hv.row hx ?_
    exact h v w (by rw [List.append_nil]; exact hv)
  · refine wp_append_own w s x t ho w0.heap.size e i z size bytes ht hi hz hsize hby hzs hsz v n xs hs hv.row ⟨g, 0, none⟩ m cap ys hx hl (fun j y hj => ?_) h1 (by unfold maxLen; omega) hbytes hv.below.size (fun v3 w3 hown3 hgrow3 _ => ?_)
    · have hjl : j < ys.length := (List.getElem?_eq_some_iff.1 hj).1
      obtain ⟨g', hg', _, _, hc⟩ := hu.cell j (by omega)
      simp only [Option.some.injEq, Addr.mk.injEq, and_true] at hg'
      subst hg'
      have ea : ((⟨g, 0, none⟩ : Addr).add j) = ⟨g, j, none⟩ := by
        simp [Addr.add]
        try exact fun h => h.symm
      rw [ea, hc, hj]
    · exact h v3 w3 ⟨hown3, hv.below.grown hgrow3 hv.below.size fun j hj => (hv.row.lt j hj).1⟩
end Go.Proofs.YtbccachkkflceaaDoor.Leaf
