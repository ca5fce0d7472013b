/-
  Texts of one seat, joined: App, Leaf, Hex.
-/
import Derived.Test.YtgfhahlkffagaaaDoorRows
import Derived.Below
import Derived.WalkKit
import Derived.OwnWalk
import Derived.Laws.OwnMore
import Derived.Lib.Hide
import Derived.Test.YtgfhahlkffagaaaDoorJ1
import Derived.Laws.AppendOwnNone
import Derived.WalkSpells
import Derived.Handy
import Derived.Outline
/-
  What a function keeps of a slice that it builds by append: whatever the elements.
-/
namespace Go.Proofs.YtgfhahlkffagaaaDoor.App
open Go.RowKit
set_option linter.unusedVariables false

/-- wr holds the slice v of n elements, laid since w0; what lay in w0 lies as it lay -/
structure Own (w0 wr : World) (e : TypeId) (k : Nat) (v : Value) (n : Nat) (xs : List Value) : Prop where
  row : wr.ownsRow w0.heap.size e k v n xs
  below : Below w0.heap.size w0 wr
theorem Own.later {w0 wr w2 : World} {e : TypeId} {k n : Nat} {v : Value} {xs : List Value} (h : Own w0 wr e k v n xs) (hb : Below wr.heap.size wr w2) : Own w0 w2 e k v n xs := by
  refine ⟨⟨h.row.1, ?_⟩, h.below.trans (hb.mono h.below.size)⟩
  rcases h.row.2 with h1 | ⟨g, cap, cur, h2, h3, h4, h5⟩
  · exact .inl h1
  · exact .inr ⟨g, cap, cur, h2, h3, (hb.block g (Array.getElem?_eq_some_iff.1 h4).1).trans h4, h5⟩
theorem Own.none (w0 : World) (e : TypeId) (k : Nat) : Own w0 w0 e k (.slice .none 0 0) 0 [] := ⟨⟨by simp, .inl ⟨rfl, rfl⟩⟩, Below.refl _ _⟩
theorem Own.lit (w0 : World) (e : TypeId) (k : Nat) : Own w0 (w0.alloc (.cells #[] e)) e k (.slice (some ⟨w0.heap.size, 0, .none⟩) 0 0) 0 [] :=
  ⟨World.ownsRow_lit w0 #[] 0 (Nat.le_refl _) (by unfold maxLen; omega) (by simp), (Below.refl _ _).alloc (Nat.le_refl _) _⟩
theorem Own.next {w0 w2 w3 : World} {e : TypeId} {k n m : Nat} {v v3 : Value} {xs ys : List Value} (h : Own w0 w2 e k v n xs) (o : Obj)
    (h3 : w3.ownsRow w0.heap.size e k v3 m ys) (hg : (w2.alloc o).grownBy w3 v.ownBlock) : Own w0 w3 e k v3 m ys :=
  ⟨h3, (h.below.alloc h.below.size o).grown hg (by have := h.below.size; simp at this ⊢; omega) fun j hj => (h.row.lt j hj).1⟩
theorem Own.slice {w0 wr : World} {e : TypeId} {k n : Nat} {v : Value} {xs : List Value} (h : Own w0 wr e k v n xs) : ∃ p c, v = .slice p n c := by
  rcases h.row.2 with ⟨rfl, rfl⟩ | ⟨g, cap, cur, rfl, _⟩
  · exact ⟨_, _, rfl⟩
  · exact ⟨_, _, rfl⟩
/-- the elements' cells -/
theorem Own.cell {w0 wr : World} {e : TypeId} {k n : Nat} {p : Option Addr} {c : Nat} {xs : List Value} (h : Own w0 wr e k (.slice p n c) n xs) (j : Nat) (hj : j < n * k) : ∃ g, p = some ⟨g, 0, .none⟩ ∧ w0.heap.size ≤ g ∧ g < wr.heap.size ∧ wr.cell? ⟨g, j, .none⟩ = xs[j]? := by
  rcases h.row.2 with ⟨e1, rfl⟩ | ⟨g, cap, cur, e1, h1, h2, h3⟩
  · simp at hj
  · injection e1 with e1 _ e3
    subst e1
    exact ⟨g, rfl, h1, (Array.getElem?_eq_some_iff.1 h2).1, World.ownsRow.cellAt (cap := cap) (by rw [← e3]; exact h.row) j hj⟩
end Go.Proofs.YtgfhahlkffagaaaDoor.App

/-
  The ends that the inputs of a rectangle reach; slices that own their elements, one appended to another.
-/
namespace Go.Proofs.YtgfhahlkffagaaaDoor.Leaf
open Go.RowKit Go.Proofs.YtgfhahlkffagaaaDoor.Plain Go.Proofs.YtgfhahlkffagaaaDoor.Tree Go.Proofs.YtgfhahlkffagaaaDoor.TrimT Go.Proofs.YtgfhahlkffagaaaDoor.App
set_option linter.unusedVariables false
set_option linter.unusedSimpArgs false

/-- the ends that are reached, from left to right -/
def leavesT : T → Nat → Nat → List (Nat × Nat × Bool)
  | .leaf b, R, C => if R = 0 ∨ C = 0 then [] else [(R, C, b)]
  | .say a s z o, R, C => leavesT z (outR a s R) (outC a s C) ++ leavesT o (inR a s R) (inC a s C)
theorem minus_zero (s : Nat) : minusN 0 s = 0 := Nat.le_zero.1 (minus_le 0 s (by omega))
theorem meet_zero (s : Nat) : meetN 0 s = 0 := Nat.le_zero.1 (meet_le 0 s (by omega))
theorem leaves_none : ∀ (t : T) (R C : Nat), R = 0 ∨ C = 0 → leavesT t R C = []
  | .leaf _, R, C, h => by simp only [leavesT]; rw [if_pos h]
  | .say a s z o, R, C, h => by
    have h1 : outR a s R = 0 ∨ outC a s C = 0 := by
      rcases h with rfl | rfl
      · left; unfold outR; split
        · exact minus_zero s
        · rfl
      · right; unfold outC; split
        · rfl
        · exact minus_zero s
    have h2 : inR a s R = 0 ∨ inC a s C = 0 := by
      rcases h with rfl | rfl
      · left; unfold inR; split
        · exact meet_zero s
        · rfl
      · right; unfold inC; split
        · rfl
        · exact meet_zero s
    simp only [leavesT, leaves_none z _ _ h1, leaves_none o _ _ h2, List.append_nil]
theorem leaves_length : ∀ (t : T) (R C : Nat), (leavesT t R C).length ≤ (text t).length
  | .leaf _, R, C => by simp only [leavesT]; split <;> simp [text]
  | .say a s z o, R, C => by
    have h1 := leaves_length z (outR a s R) (outC a s C)
    have h2 := leaves_length o (inR a s R) (inC a s C)
    simp only [leavesT, text, List.length_append, List.length_cons]
    omega
/-- rectangles, and ends, as cells -/
def cellsR (l : List (Nat × Nat × Bool)) : List Value := l.flatMap fun p => [.int .i64 (p.1 : Int), .int .i64 (p.2.1 : Int)]
def cellsL (l : List (Nat × Nat × Bool)) : List Value := l.flatMap fun p => [.int .i64 (p.1 : Int), .int .i64 (p.2.1 : Int), .int .i64 (bitI p.2.2)]
theorem cellsR_append (l m : List (Nat × Nat × Bool)) : cellsR (l ++ m) = cellsR l ++ cellsR m := by simp [cellsR]
theorem cellsL_append (l m : List (Nat × Nat × Bool)) : cellsL (l ++ m) = cellsL l ++ cellsL m := by simp [cellsL]
theorem cellsR_length (l : List (Nat × Nat × Bool)) : (cellsR l).length = l.length * 2 := by
  induction l with
  | nil => rfl
  | cons p l ih => simp only [cellsR, List.flatMap_cons, List.length_append, List.length_cons] at ih ⊢; simp only [List.length_nil]; omega
theorem cellsL_length (l : List (Nat × Nat × Bool)) : (cellsL l).length = l.length * 3 := by
  induction l with
  | nil => rfl
  | cons p l ih => simp only [cellsL, List.flatMap_cons, List.length_append, List.length_cons] at ih ⊢; simp only [List.length_nil]; omega
theorem cellsR_one (l : List (Nat × Nat × Bool)) : ∀ u ∈ cellsR l, u.oneCell' = true := by
  intro u hu
  simp only [cellsR, List.mem_flatMap] at hu
  obtain ⟨p, _, hu⟩ := hu
  simp at hu
  rcases hu with rfl | rfl <;> simp [Value.oneCell']
theorem cellsL_one (l : List (Nat × Nat × Bool)) : ∀ u ∈ cellsL l, u.oneCell' = true := by
  intro u hu
  simp only [cellsL, List.mem_flatMap] at hu
  obtain ⟨p, _, hu⟩ := hu
  simp at hu
  rcases hu with rfl | rfl | rfl <;> simp [Value.oneCell']

/-- told of an older world -/
theorem Own.lower {w0 w1 w2 : World} {e : TypeId} {k n : Nat} {v : Value} {xs : List Value} (h : Own w1 w2 e k v n xs) (hb : Below w0.heap.size w0 w1) : Own w0 w2 e k v n xs := by
  refine ⟨⟨h.row.1, ?_⟩, hb.trans (h.below.mono hb.size)⟩
  rcases h.row.2 with h1 | ⟨g, cap, cur, h2, h3, h4⟩
  · exact .inl h1
  · exact .inr ⟨g, cap, cur, h2, Nat.le_trans hb.size h3, h4⟩
theorem wp_append_none {o : Oper} {a : Act} {w : World} {K : Act → World → Prop} {Q : Exit → Act → World → Prop} (s x : Operand) (t : TypeId)
    (ho : o.op = .call { callee := .builtin .append, args := #[s, x], argTypes := #[t, t] })
    (base : Nat) (e : TypeId) (i : TypeInfo) (size : Nat) (ht : Tryd.prog.underlying t = some (.slice e)) (hi : Tryd.prog.info? e = some i)
    (v : Value) (n : Nat) (xs : List Value) (hs : a.eval s = v) (hown : w.ownsRow base e size v n xs) (hx : a.eval x = .slice none 0 0)
    (h : K (a.put o.dst v) w) : o.wp Tryd.prog a w K Q := by
  have hrun := run_append_owned_none (P := Tryd.prog) (w := w) base t o.type e i size ht hi v n xs hown
  unfold Oper.wp
  simp [execOp, ho, resolve, invoke, builtin, hs, hx, hrun, Result.andThen]
  exact h
/-- one slice appended to another, both owned -/
theorem wp_append_two {o : Oper} {a : Act} {w0 w : World} {K : Act → World → Prop} {Q : Exit → Act → World → Prop} (s x : Operand) (t : TypeId)
    (ho : o.op = .call { callee := .builtin .append, args := #[s, x], argTypes := #[t, t] })
    (e : TypeId) (i : TypeInfo) (z : Value) (size bytes : Nat) (ht : Tryd.prog.underlying t = some (.slice e)) (hi : Tryd.prog.info? e = some i) (hz : i.zero = some z)
    (hsize : i.size = size) (hby : i.bytes = bytes) (hzs : z.cells.size = size) (hsz : 0 < size)
    (v u : Value) (n m : Nat) (xs ys : List Value) (hs : a.eval s = v) (hv : Own w0 w e size v n xs) (hx : a.eval x = u) (hu : Own w0 w e size u m ys)
    (hl : ys.length = m * size) (h1 : ∀ u ∈ ys, u.oneCell' = true) (hb : n + m ≤ 8000) (hbb : bytes ≤ 100)
    (h : ∀ v' w', Own w0 w' e size v' (n + m) (xs ++ ys) → K (a.put o.dst v') w') : o.wp Tryd.prog a w K Q := by
  have hbytes : (n + m) * bytes ≤ 140737488355328 := by
    have : (n + m) * bytes ≤ 8000 * 100 := Nat.mul_le_mul hb hbb
    omega
  rcases hu.row.2 with ⟨rfl, rfl⟩ | ⟨g, cap, cur, rfl, hg1, hg2, hg3⟩
  · have hy : ys = [] := List.length_eq_zero_iff.1 (by omega)
    subst hy
    refine wp_append_none s x t ho w0.heap.size e i size ht hi v n xs hs hv.row hx ?_
    exact h v w (by rw [List.append_nil]; exact hv)
  · refine wp_append_own w s x t ho w0.heap.size e i z size bytes ht hi hz hsize hby hzs hsz v n xs hs hv.row ⟨g, 0, none⟩ m cap ys hx hl (fun j y hj => ?_) h1 (by unfold maxLen; omega) hbytes hv.below.size (fun v3 w3 hown3 hgrow3 _ => ?_)
    · have hjl : j < ys.length := (List.getElem?_eq_some_iff.1 hj).1
      obtain ⟨g', hg', _, _, hc⟩ := hu.cell j (by omega)
      simp only [Option.some.injEq, Addr.mk.injEq, and_true] at hg'
      subst hg'
      have ea : ((⟨g, 0, none⟩ : Addr).add j) = ⟨g, j, none⟩ := by
        simp [Addr.add]
        try exact fun h => h.symm
      rw [ea, hc, hj]
    · exact h v3 w3 ⟨hown3, hv.below.grown hgrow3 hv.below.size fun j hj => (hv.row.lt j hj).1⟩
end Go.Proofs.YtgfhahlkffagaaaDoor.Leaf

/-
  The reference's digits of 16 values, and where a protocol ends that begins at an index of a text.
-/
namespace Go.Proofs.YtgfhahlkffagaaaDoor.Hex
open Go.RowKit Go.Proofs.YtgfhahlkffagaaaDoor.Plain Go.Proofs.YtgfhahlkffagaaaDoor.Tree
set_option linter.unusedVariables false

theorem idx_first : ∀ (l : List UInt8) (c : UInt8) (k : Nat) (hk : k < l.length), (∀ j (hj : j < l.length), j < k → l[j] ≠ c) → l[k] = c → Lib.indexByte l c = (k : Int)
  | [], _, _, hk, _, _ => by simp at hk
  | b :: l, c, 0, _, _, he => by
    have he' : b = c := he
    rw [Lib.indexByte, he']
    simp
  | b :: l, c, k + 1, hk, hn, he => by
    have h0 : b ≠ c := hn 0 (by simp) (by omega)
    have ih := idx_first l c k (by simpa using hk) (fun j hj hjk => hn (j + 1) (by simpa using hj) (by omega)) (by simpa using he)
    rw [Lib.indexByte, ih, if_neg (by simpa using h0), if_neg (by simp <;> omega)]
    omega
theorem idx_none : ∀ (l : List UInt8) (c : UInt8), (∀ j (hj : j < l.length), l[j] ≠ c) → Lib.indexByte l c = -1
  | [], _, _ => rfl
  | b :: l, c, hn => by
    have h0 : b ≠ c := hn 0 (by simp)
    have ih := idx_none l c (fun j hj => hn (j + 1) (by simpa using hj))
    rw [Lib.indexByte, ih, if_neg (by simpa using h0)]
    rfl
/-- the byte at a place as a number -/
theorem byte_ne {s : ByteArray} {k : Nat} (hk : k < s.size) (c : UInt8) : ((s[k].toNat : Int) == (c.toNat : Int)) = decide (s.data.toList[k]'(by simpa using hk) = c) := by
  have e : s.data.toList[k]'(by simpa using hk) = s[k] := by simp; rfl
  rw [e, Bool.eq_iff_iff, beq_iff_eq, decide_eq_true_iff]
  constructor
  · intro h; exact UInt8.toNat_inj.1 (by omega)
  · intro h; rw [h]

set_option maxHeartbeats 1000000 in
theorem find_at (s : ByteArray) (hs : s.size ≤ maxLen) (c : UInt8) (w : World) :
    Calls Tryd.prog 120 #[.string s, .int .u8 (c.toNat : Int)] w fun e w' => e = .returned (.int .i64 (Lib.indexByte s.data.toList c)) ∧ w = w' := by
  unfold maxLen at hs
  obtain ⟨cn, hcn⟩ : ∃ cn, (c.toNat : Int) = cn := ⟨_, rfl⟩
  have HC := Lib.hid hcn
  rw [hcn]
  clear hcn
  go_enter Tryd.func120, Tryd.ntmps120
  go_wp2_with fail
  go_loop [5] (fun i => ∃ k : Nat, k ≤ s.size ∧ i = .int .i64 (k : Int) ∧ Hid (∀ j (hj : j < s.data.toList.length), j < k → s.data.toList[j] ≠ c)) (fun i => s.size - (intOf i).toNat)
  case atStart => exact ⟨0, Nat.zero_le _, rfl, fun j _ h => absurd h (by omega)⟩
  case round =>
    obtain ⟨k, hk, rfl, hno⟩ := hrel
    by_cases hkl : k < s.size
    · have HE := Lib.hid (byte_ne hkl c)
      have hkl' : k < s.data.toList.length := by simpa using hkl
      obtain ⟨b, hb⟩ : ∃ b, ((s[k].toNat : Int) == cn) = b := ⟨_, rfl⟩
      have HB := Lib.hid hb
      cases b
      · have HN : Hid (∀ j (hj : j < s.data.toList.length), j < k + 1 → s.data.toList[j] ≠ c) := fun j hj hjk => by
          by_cases e : j = k
          · subst e
            have h := HE.out
            rw [HC.out, HB.out] at h
            exact of_decide_eq_false h.symm
          · exact hno.out j hj (by omega)
        clear hno HE
        go_wp2_with fail
        go_round
        case rel => exact ⟨k + 1, by omega, by go_num, HN⟩
        case measure => simp [intOf]; omega
      · have HI : Hid (Lib.indexByte s.data.toList c = (k : Int)) := by
          have h := HE.out
          rw [HC.out, HB.out] at h
          exact idx_first _ _ k hkl' (fun j hj hjk => hno.out j hj hjk) (of_decide_eq_true h.symm)
        clear hno HE
        go_wp2_with fail
        go_ret
        exact ⟨by rw [HI.out]; rfl, rfl⟩
    · obtain rfl : k = s.size := by omega
      have HI : Hid (Lib.indexByte s.data.toList c = -1) := idx_none _ _ fun j hj => hno.out j hj (by simpa using hj)
      clear hno
      go_wp2_with fail
      go_ret
      exact ⟨by rw [HI.out]; rfl, rfl⟩

set_option maxHeartbeats 400000 in
theorem hex_w (c : UInt8) (w : World) :
    Calls Tryd.prog 91 #[.int .u8 (c.toNat : Int)] w fun e w' => e = .returned (.int .i64 (hexV c)) ∧ w = w' := by
  go_enter Tryd.func91, Tryd.ntmps91
  go_wp2_with fail
  refine (find_at _ (by decide) c _).mono ?_
  rintro e w' ⟨rfl, rfl⟩
  go_wp2_with fail
  go_ret
  exact ⟨rfl, rfl⟩

/-- the byte at an index, told by what stands from there on -/
theorem at_drop {s : ByteArray} {k : Nat} {c : UInt8} {r : List UInt8} (h : s.data.toList.drop k = c :: r) : ∃ hk : k < s.size, s[k] = c := by
  have hk : k < s.data.toList.length := by
    apply Classical.byContradiction
    intro hn
    rw [List.drop_eq_nil_of_le (by omega)] at h
    cases h
  have hk2 : k < s.size := by simpa using hk
  refine ⟨hk2, ?_⟩
  have e : s.data.toList[k]'hk = s[k] := by simp; rfl
  rw [← e]
  have := List.drop_eq_getElem_cons hk
  rw [this] at h
  exact (List.cons.inj h).1
theorem drop_more {s : ByteArray} {k : Nat} (n : Nat) {x r : List UInt8} (h : s.data.toList.drop k = x ++ r) (hn : x.length = n) : s.data.toList.drop (k + n) = r := by
  rw [← List.drop_drop, h, ← hn, List.drop_left]
theorem drop_len {s : ByteArray} {k : Nat} {x r : List UInt8} (hk : k ≤ s.size) (h : s.data.toList.drop k = x ++ r) : k + x.length + r.length = s.size := by
  have := congrArg List.length h
  simp at this
  omega

set_option maxHeartbeats 2000000 in
set_option maxRecDepth 100000 in
/-- where a protocol stands, its end is found -/
theorem end_yes (s : ByteArray) (hs : s.size ≤ 1048576) (t : T) : wf t → ∀ (k : Nat) (hk : k ≤ s.size) (r : List UInt8) (h : s.data.toList.drop k = text t ++ r) (w : World),
    Calls Tryd.prog 65 #[.string s, .int .i64 (k : Int)] w fun e w' => e = .returned (.int .i64 ((k + (text t).length : Nat) : Int)) ∧ w = w' := by
  induction t with
  | leaf b =>
    intro hw k hk0 r h w
    obtain ⟨hk, hx⟩ := at_drop (show _ = dig b :: r from h)
    have hn : (s[k]'hk).toNat = (dig b).toNat := by rw [hx]
    clear hx h hk0
    cases b
    · replace hn : (s[k]'hk).toNat = 48 := hn
      go_enter Tryd.func65, Tryd.ntmps65
      go_wp2
      go_ret
      exact ⟨by simp [text], rfl⟩
    · replace hn : (s[k]'hk).toNat = 49 := hn
      go_enter Tryd.func65, Tryd.ntmps65
      go_wp2
      go_ret
      exact ⟨by simp [text], rfl⟩
  | say a v z o ihz iho =>
    intro hw k hk0 r h w
    have h0 : s.data.toList.drop k = [whoB a, hexD (v / 16), hexD (v % 16)] ++ (text z ++ (text o ++ r)) := by rw [h]; simp [text]
    have h1 : s.data.toList.drop (k + 1) = hexD (v / 16) :: (hexD (v % 16) :: (text z ++ (text o ++ r))) := drop_more (x := [whoB a]) 1 h0 rfl
    have h2 : s.data.toList.drop (k + 2) = hexD (v % 16) :: (text z ++ (text o ++ r)) := drop_more (x := [whoB a, hexD (v / 16)]) 2 h0 rfl
    have h3 : s.data.toList.drop (k + 3) = text z ++ (text o ++ r) := drop_more 3 h0 rfl
    have h4 : s.data.toList.drop (k + 3 + (text z).length) = text o ++ r := drop_more _ h3 rfl
    obtain ⟨hk, hx0⟩ := at_drop (show _ = whoB a :: (hexD (v / 16) :: (hexD (v % 16) :: (text z ++ (text o ++ r)))) from h0)
    obtain ⟨hk1, hx1⟩ := at_drop h1
    obtain ⟨hk2, hx2⟩ := at_drop h2
    have l3 := drop_len (by omega) h3
    rw [List.length_append] at l3
    have HZ := Lib.hid fun W => ihz hw.2.1 (k + 3) (by omega) _ h3 W
    have HO := Lib.hid fun W => iho hw.2.2 (k + 3 + (text z).length) (by omega) _ h4 W
    have hv : v < 256 := hw.1
    have e1 := hexV_D (v / 16) (by omega)
    have e2 := hexV_D (v % 16) (by omega)
    have H1 : Hid (∀ W, Calls Tryd.prog 91 #[.int .u8 ((s[k + 1]'hk1).toNat : Int)] W fun e w' => e = .returned (.int .i64 ((v / 16 : Nat) : Int)) ∧ W = w') := fun W => by rw [← e1, ← hx1]; exact hex_w _ W
    have H2 : Hid (∀ W, Calls Tryd.prog 91 #[.int .u8 ((s[k + 2]'hk2).toNat : Int)] W fun e w' => e = .returned (.int .i64 ((v % 16 : Nat) : Int)) ∧ W = w') := fun W => by rw [← e2, ← hx2]; exact hex_w _ W
    have HL : Hid ((text (.say a v z o)).length = 3 + (text z).length + (text o).length) := by show _ = _; simp only [text, List.length_cons, List.length_append]; omega
    have hn : (s[k]'hk).toNat = (whoB a).toNat := by rw [hx0]
    generalize (text (.say a v z o)).length = la at *
    generalize v / 16 = v1 at *
    generalize v % 16 = v2 at *
    generalize (text z).length = lz at *
    generalize (text o).length = lo at *
    have HN := Lib.hid hn
    have LA := HL.out
    clear h0 h1 h2 h3 h4 hx0 hx1 hx2 e1 e2 h hv ihz iho hw hn HL
    cases a
    all_goals
      first
        | (have hn : (s[k]'hk).toNat = 66 := HN.out)
        | (have hn : (s[k]'hk).toNat = 65 := HN.out)
      clear HN
      go_enter Tryd.func65, Tryd.ntmps65
      go_wp2_with fail
      refine (H1.out _).mono ?_
      rintro e w' ⟨rfl, rfl⟩
      go_wp2_with fail
      refine (H2.out _).mono ?_
      rintro e w' ⟨rfl, rfl⟩
      go_wp2_with fail
      refine (HZ.out _).mono ?_
      rintro e w' ⟨rfl, rfl⟩
      go_wp2_with fail
      refine (HO.out _).mono ?_
      rintro e w' ⟨rfl, rfl⟩
      go_wp2_with fail
      go_ret
      have E : ((k : Int) + 3 + lz + lo) = ((k + la : Nat) : Int) := by omega
      have E2 : ((k + 3 + lz + lo : Nat) : Int) = ((k + la : Nat) : Int) := by omega
      exact ⟨by first | (rw [E]; rfl) | (rw [E2]; rfl), rfl⟩

theorem at_drop' {s : ByteArray} {k : Nat} (hk : k < s.size) : s.data.toList.drop k = s[k] :: s.data.toList.drop (k + 1) := by
  have hk' : k < s.data.toList.length := by simpa using hk
  rw [List.drop_eq_getElem_cons hk']
  congr 1
theorem not_byte {x : UInt8} {n : UInt8} (h : x ≠ n) : ((x.toNat : Int) == (n.toNat : Int)) = false := by
  apply beq_false_of_ne
  intro e
  exact h (UInt8.toNat_inj.1 (by omega))

set_option maxHeartbeats 4000000 in
set_option maxRecDepth 100000 in
/-- where none stands, -1 is answered -/
theorem end_no (s : ByteArray) (hs : s.size ≤ 1048576) : ∀ (n k : Nat) (hk : k ≤ s.size) (hn : s.size - k ≤ n) (h : No (s.data.toList.drop k)) (w : World),
    Calls Tryd.prog 65 #[.string s, .int .i64 (k : Int)] w fun e w' => e = .returned (.int .i64 (-1)) ∧ w = w' := by
  have HB : Hid (∀ W : World, Calls Tryd.prog 65 #[.string s, .int .i64 (-1)] W fun e w' => e = .returned (.int .i64 (-1)) ∧ W = w') := by
    intro W
    go_enter Tryd.func65, Tryd.ntmps65
    go_wp2
    go_ret
    exact ⟨rfl, rfl⟩
  intro n
  induction n with
  | zero =>
    intro k hk hn h w
    have hks : s.size ≤ k := by omega
    clear h HB
    go_enter Tryd.func65, Tryd.ntmps65
    go_wp2
    go_ret
    exact ⟨rfl, rfl⟩
  | succ n ih =>
    intro k hk hn h w
    by_cases hks : s.size ≤ k
    · clear h HB ih
      go_enter Tryd.func65, Tryd.ntmps65
      go_wp2
      go_ret
      exact ⟨rfl, rfl⟩
    have hk1 : k < s.size := by omega
    have hd := at_drop' hk1
    have hdig : s[k] ≠ 48 ∧ s[k] ≠ 49 := by rw [hd] at h; exact h.not_dig
    have N48 : (((s[k]'hk1).toNat : Int) == 48) = false := not_byte (n := 48) hdig.1
    have N49 : (((s[k]'hk1).toNat : Int) == 49) = false := not_byte (n := 49) hdig.2
    by_cases hwho : ¬ (s[k] = 65 ∨ s[k] = 66)
    · have N65 : (((s[k]'hk1).toNat : Int) == 65) = false := not_byte (n := 65) (fun e => hwho (.inl e))
      have N66 : (((s[k]'hk1).toNat : Int) == 66) = false := not_byte (n := 66) (fun e => hwho (.inr e))
      clear h HB ih hd hdig hwho
      go_enter Tryd.func65, Tryd.ntmps65
      go_wp2_with fail
      go_ret
      exact ⟨rfl, rfl⟩
    replace hwho := Classical.not_not.1 hwho
    by_cases hk3 : s.size ≤ k + 2
    · have HW := Lib.hid hwho
      clear h HB ih hd hdig hwho
      obtain ⟨x, hx⟩ : ∃ x : Nat, (s[k]'hk1).toNat = x := ⟨_, rfl⟩
      have hx2 : x = 65 ∨ x = 66 := by rcases HW.out with e | e <;> rw [← hx, e] <;> simp
      clear HW N48 N49
      rcases hx2 with rfl | rfl
      all_goals
        go_enter Tryd.func65, Tryd.ntmps65
        go_wp2_with fail
        go_ret
        exact ⟨rfl, rfl⟩
    have hk1' : k + 1 < s.size := by omega
    have hk2' : k + 2 < s.size := by omega
    have hd1 := at_drop' hk1'
    have hd2 := at_drop' hk2'
    have H1 : Hid (∀ W, Calls Tryd.prog 91 #[.int .u8 ((s[k + 1]'hk1').toNat : Int)] W fun e w' => e = .returned (.int .i64 (hexV (s[k + 1]'hk1'))) ∧ W = w') := fun W => hex_w _ W
    have H2 : Hid (∀ W, Calls Tryd.prog 91 #[.int .u8 ((s[k + 2]'hk2').toNat : Int)] W fun e w' => e = .returned (.int .i64 (hexV (s[k + 2]'hk2'))) ∧ W = w') := fun W => hex_w _ W
    -- what is answered about the first part, and about the second one
    have HE : Hid (0 ≤ hexV (s[k + 1]'hk1') → 0 ≤ hexV (s[k + 2]'hk2') → ∃ at1 : Int, (∀ W : World, Calls Tryd.prog 65 #[.string s, .int .i64 ((k : Int) + 3)] W fun e w' => e = .returned (.int .i64 at1) ∧ W = w') ∧
        (∀ W : World, Calls Tryd.prog 65 #[.string s, .int .i64 at1] W fun e w' => e = .returned (.int .i64 (-1)) ∧ W = w')) := by
      intro g1 g2
      rcases yes_or_no (s.data.toList.drop (k + 3)) with ⟨z, r1, hz, e1⟩ | hno
      · have hl := drop_len (s := s) (k := k + 3) (by omega) e1
        refine ⟨((k + 3 + (text z).length : Nat) : Int), fun W => end_yes s hs z hz (k + 3) (by omega) r1 e1 W, fun W => ?_⟩
        have e2 : s.data.toList.drop (k + 3 + (text z).length) = r1 := drop_more _ e1 rfl
        refine ih (k + 3 + (text z).length) (by omega) (by omega) ?_ W
        rw [e2]
        intro o r2 ho e3
        obtain ⟨a, ha⟩ := who_or _ hwho
        refine No.say (a := a) (x := s[k + 1]'hk1') (y := s[k + 2]'hk2') (z := z) (o := o) (r := r2) ?_ g1 g2 hz ho
        rw [← e3, ← e1, ← hd2, ← hd1, ← ha, ← hd]
        exact h
      · refine ⟨-1, fun W => ih (k + 3) (by omega) (by omega) hno W, HB.out⟩
    have HW := Lib.hid hwho
    have g1 := hexV_ge (s[k + 1]'hk1')
    have g2 := hexV_ge (s[k + 2]'hk2')
    generalize hexV (s[k + 1]'hk1') = v1 at *
    generalize hexV (s[k + 2]'hk2') = v2 at *
    clear h HB ih hd hd1 hd2 hdig hwho N48 N49
    obtain ⟨x, hx⟩ : ∃ x : Nat, (s[k]'hk1).toNat = x := ⟨_, rfl⟩
    have hx2 : x = 65 ∨ x = 66 := by rcases HW.out with e | e <;> rw [← hx, e] <;> simp
    clear HW
    by_cases hv : 0 ≤ v1 ∧ 0 ≤ v2
    · obtain ⟨at1, HC1, HC2⟩ := HE.out hv.1 hv.2
      have HC1 := Lib.hid HC1
      have HC2 := Lib.hid HC2
      clear HE
      obtain ⟨hv1, hv2⟩ := hv
      rcases hx2 with rfl | rfl
      all_goals
        go_enter Tryd.func65, Tryd.ntmps65
        go_wp2_with fail
        refine (H1.out _).mono ?_
        rintro e w' ⟨rfl, rfl⟩
        go_wp2_with fail
        refine (H2.out _).mono ?_
        rintro e w' ⟨rfl, rfl⟩
        go_wp2_with fail
        refine (HC1.out _).mono ?_
        rintro e w' ⟨rfl, rfl⟩
        go_wp2_with fail
        refine (HC2.out _).mono ?_
        rintro e w' ⟨rfl, rfl⟩
        go_wp2_with fail
        go_ret
        exact ⟨rfl, rfl⟩
    · clear HE
      by_cases hv1 : v1 < 0
      · clear hv
        rcases hx2 with rfl | rfl
        all_goals
          go_enter Tryd.func65, Tryd.ntmps65
          go_wp2_with fail
          refine (H1.out _).mono ?_
          rintro e w' ⟨rfl, rfl⟩
          go_wp2_with fail
          go_ret
          exact ⟨rfl, rfl⟩
      · have hv2 : v2 < 0 := by omega
        have hv1 : 0 ≤ v1 := by omega
        clear hv
        rcases hx2 with rfl | rfl
        all_goals
          go_enter Tryd.func65, Tryd.ntmps65
          go_wp2_with fail
          refine (H1.out _).mono ?_
          rintro e w' ⟨rfl, rfl⟩
          go_wp2_with fail
          refine (H2.out _).mono ?_
          rintro e w' ⟨rfl, rfl⟩
          go_wp2_with fail
          go_ret
          exact ⟨rfl, rfl⟩
end Go.Proofs.YtgfhahlkffagaaaDoor.Hex

