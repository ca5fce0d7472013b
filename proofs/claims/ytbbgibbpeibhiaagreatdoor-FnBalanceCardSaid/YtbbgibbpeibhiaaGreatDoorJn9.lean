/-
  Texts of one seat, joined: Leaf, Talk, MatT, FreeIn.
-/
import Derived.Test.YtbbgibbpeibhiaaGreatDoorJn5
import Derived.Test.YtbbgibbpeibhiaaGreatDoorJn8
import Derived.Laws.AppendOwnNone
import Derived.Test.YtbbgibbpeibhiaaGreatDoorJn4
import Derived.Test.YtbbgibbpeibhiaaGreatDoorJn3
import Derived.OrdersIn
import Derived.Still
import Derived.StillTail
import Derived.WalkKit
import Derived.Laws.Rows
import Derived.Laws.Tables
/-
  The ends that the inputs of a rectangle reach; slices that own their elements, one appended to another.
-/
namespace Go.Proofs.YtbbgibbpeibhiaaGreatDoor.Leaf
open Go.RowKit Go.Proofs.YtbbgibbpeibhiaaGreatDoor.Plain Go.Proofs.YtbbgibbpeibhiaaGreatDoor.Tree Go.Proofs.YtbbgibbpeibhiaaGreatDoor.TrimT Go.Proofs.YtbbgibbpeibhiaaGreatDoor.App
set_option linter.unusedVariables false
set_option linter.unusedSimpArgs false

/-- the ends that are reached, from left to right -/
def leavesT : T → Nat → Nat → List (Nat × Nat × Bool)
  | .leaf b, R, C => if R = 0 ∨ C = 0 then [] else [(R, C, b)]
  | .say a s z o, R, C => leavesT z (outR a s R) (outC a s C) ++ leavesT o (inR a s R) (inC a s C)
theorem minus_zero (s : Nat) : minusN 0 s = 0 := Nat.le_zero.1 (minus_le 0 s (by omega))
theorem meet_zero (s : Nat) : meetN 0 s = 0 := Nat.le_zero.1 (meet_le 0 s (by omega))
theorem leaves_none : ∀ (t : T) (R C : Nat), R = 0 ∨ C = 0 → leavesT t R C = []
  | .leaf _, R, C, h => by simp only [leavesT]; rw [if_pos h]
  | .say a s z o, R, C, h => by
    have h1 : outR a s R = 0 ∨ outC a s C = 0 := by
      rcases h with rfl | rfl
      · left; unfold outR; split
        · exact minus_zero s
        · rfl
      · right; unfold outC; split
        · rfl
        · exact minus_zero s
    have h2 : inR a s R = 0 ∨ inC a s C = 0 := by
      rcases h with rfl | rfl
      · left; unfold inR; split
        · exact meet_zero s
        · rfl
      · right; unfold inC; split
        · rfl
        · exact meet_zero s
    simp only [leavesT, leaves_none z _ _ h1, leaves_none o _ _ h2, List.append_nil]
theorem leaves_length : ∀ (t : T) (R C : Nat), (leavesT t R C).length ≤ (text t).length
  | .leaf _, R, C => by simp only [leavesT]; split <;> simp [text]
  | .say a s z o, R, C => by
    have h1 := leaves_length z (outR a s R) (outC a s C)
    have h2 := leaves_length o (inR a s R) (inC a s C)
    simp only [leavesT, text, List.length_append, List.length_cons]
    omega
/-- rectangles, and ends, as cells -/
def cellsR (l : List (Nat × Nat × Bool)) : List Value := l.flatMap fun p => [.int .i64 (p.1 : Int), .int .i64 (p.2.1 : Int)]
def cellsL (l : List (Nat × Nat × Bool)) : List Value := l.flatMap fun p => [.int .i64 (p.1 : Int), .int .i64 (p.2.1 : Int), .int .i64 (bitI p.2.2)]
theorem cellsR_append (l m : List (Nat × Nat × Bool)) : cellsR (l ++ m) = cellsR l ++ cellsR m := by simp [cellsR]
theorem cellsL_append (l m : List (Nat × Nat × Bool)) : cellsL (l ++ m) = cellsL l ++ cellsL m := by simp [cellsL]
theorem cellsR_length (l : List (Nat × Nat × Bool)) : (cellsR l).length = l.length * 2 := by
  induction l with
  | nil => rfl
  | cons p l ih => simp only [cellsR, List.flatMap_cons, List.length_append, List.length_cons] at ih ⊢; simp only [List.length_nil]; omega
theorem cellsL_length (l : List (Nat × Nat × Bool)) : (cellsL l).length = l.length * 3 := by
  induction l with
  | nil => rfl
  | cons p l ih => simp only [cellsL, List.flatMap_cons, List.length_append, List.length_cons] at ih ⊢; simp only [List.length_nil]; omega
theorem cellsR_one (l : List (Nat × Nat × Bool)) : ∀ u ∈ cellsR l, u.oneCell' = true := by
  intro u hu
  simp only [cellsR, List.mem_flatMap] at hu
  obtain ⟨p, _, hu⟩ := hu
  simp at hu
  rcases hu with rfl | rfl <;> simp [Value.oneCell']
theorem cellsL_one (l : List (Nat × Nat × Bool)) : ∀ u ∈ cellsL l, u.oneCell' = true := by
  intro u hu
  simp only [cellsL, List.mem_flatMap] at hu
  obtain ⟨p, _, hu⟩ := hu
  simp at hu
  rcases hu with rfl | rfl | rfl <;> simp [Value.oneCell']

/-- told of an older world -/
theorem Own.lower {w0 w1 w2 : World} {e : TypeId} {k n : Nat} {v : Value} {xs : List Value} (h : Own w1 w2 e k v n xs) (hb : Below w0.heap.size w0 w1) : Own w0 w2 e k v n xs := by
  refine ⟨⟨h.row.1, ?_⟩, hb.trans (h.below.mono hb.size)⟩
  rcases h.row.2 with h1 | ⟨g, cap, cur, h2, h3, h4⟩
  · exact .inl h1
  · exact .inr ⟨g, cap, cur, h2, Nat.le_trans hb.size h3, h4⟩
theorem wp_append_none {o : Oper} {a : Act} {w : World} {K : Act → World → Prop} {Q : Exit → Act → World → Prop} (s x : Operand) (t : TypeId)
    (ho : o.op = .call { callee := .builtin .append, args := #[s, x], argTypes := #[t, t] })
    (base : Nat) (e : TypeId) (i : TypeInfo) (size : Nat) (ht : Tryz.prog.underlying t = some (.slice e)) (hi : Tryz.prog.info? e = some i)
    (v : Value) (n : Nat) (xs : List Value) (hs : a.eval s = v) (hown : w.ownsRow base e size v n xs) (hx : a.eval x = .slice none 0 0)
    (h : K (a.put o.dst v) w) : o.wp Tryz.prog a w K Q := by
  have hrun := run_append_owned_none (P := Tryz.prog) (w := w) base t o.type e i size ht hi v n xs hown
  unfold Oper.wp
  simp [execOp, ho, resolve, invoke, builtin, hs, hx, hrun, Result.andThen]
  exact h
/-- one slice appended to another, both owned -/
theorem wp_append_two {o : Oper} {a : Act} {w0 w : World} {K : Act → World → Prop} {Q : Exit → Act → World → Prop} (s x : Operand) (t : TypeId)
    (ho : o.op = .call { callee := .builtin .append, args := #[s, x], argTypes := #[t, t] })
    (e : TypeId) (i : TypeInfo) (z : Value) (size bytes : Nat) (ht : Tryz.prog.underlying t = some (.slice e)) (hi : Tryz.prog.info? e = some i) (hz : i.zero = some z)
    (hsize : i.size = size) (hby : i.bytes = bytes) (hzs : z.cells.size = size) (hsz : 0 < size)
    (v u : Value) (n m : Nat) (xs ys : List Value) (hs : a.eval s = v) (hv : Own w0 w e size v n xs) (hx : a.eval x = u) (hu : Own w0 w e size u m ys)
    (hl : ys.length = m * size) (h1 : ∀ u ∈ ys, u.oneCell' = true) (hb : n + m ≤ 8000) (hbb : bytes ≤ 100)
    (h : ∀ v' w', Own w0 w' e size v' (n + m) (xs ++ ys) → K (a.put o.dst v') w') : o.wp Tryz.prog a w K Q := by
  have hbytes : (n + m) * bytes ≤ 140737488355328 := by
    have : (n + m) * bytes ≤ 8000 * 100 := Nat.mul_le_mul hb hbb
    omega
  rcases hu.row.2 with ⟨rfl, rfl⟩ | ⟨g, cap, cur, rfl, hg1, hg2, hg3⟩
  · have hy : ys = [] := List.length_eq_zero_iff.1 (by omega)
    subst hy
    refine wp_append_none s x t ho w0.heap.size e i size ht hi v n xs hs hv.row hx ?_
    exact h v w (by rw [List.append_nil]; exact hv)
  · refine wp_append_own w s x t ho w0.heap.size e i z size bytes ht hi hz hsize hby hzs hsz v n xs hs hv.row ⟨g, 0, none⟩ m cap ys hx hl (fun j y hj => ?_) h1 (by unfold maxLen; omega) hbytes hv.below.size (fun v3 w3 hown3 hgrow3 _ => ?_)
    · have hjl : j < ys.length := (List.getElem?_eq_some_iff.1 hj).1
      obtain ⟨g', hg', _, _, hc⟩ := hu.cell j (by omega)
      simp only [Option.some.injEq, Addr.mk.injEq, and_true] at hg'
      subst hg'
      have ea : ((⟨g, 0, none⟩ : Addr).add j) = ⟨g, j, none⟩ := by
        simp [Addr.add]
        try exact fun h => h.symm
      rw [ea, hc, hj]
    · exact h v3 w3 ⟨hown3, hv.below.grown hgrow3 hv.below.size fun j hj => (hv.row.lt j hj).1⟩
end Go.Proofs.YtbbgibbpeibhiaaGreatDoor.Leaf

/-
  What the reference says of a talk: the bits for two inputs, and the value.
-/
namespace Go.Proofs.YtbbgibbpeibhiaaGreatDoor.Talk
open Go.RowKit Go.Shelf Go.Proofs.YtbbgibbpeibhiaaGreatDoor.Plain Go.Proofs.YtbbgibbpeibhiaaGreatDoor.Tree Go.Proofs.YtbbgibbpeibhiaaGreatDoor.Hex Go.Proofs.YtbbgibbpeibhiaaGreatDoor.Read Go.Proofs.YtbbgibbpeibhiaaGreatDoor.Parts Go.Proofs.YtbbgibbpeibhiaaGreatDoor.SetW Go.Proofs.YtbbgibbpeibhiaaGreatDoor.Rect
set_option linter.unusedVariables false
set_option linter.unusedSimpArgs false

/-- whether a bit is 1 -/
def saysB (a : Bool) (s x y : Nat) : Bool := if a then s.testBit x else s.testBit y
/-- the bits that are said for two inputs, and the value -/
def talkT : T → Nat → Nat → List Bool × Bool
  | .leaf b, _, _ => ([], b)
  | .say a s z o, x, y => if saysB a s x y then (true :: (talkT o x y).1, (talkT o x y).2) else (false :: (talkT z x y).1, (talkT z x y).2)
theorem talk_length : ∀ (t : T) (x y : Nat), (talkT t x y).1.length ≤ (text t).length
  | .leaf _, _, _ => by simp [talkT]
  | .say a s z o, x, y => by
    have h1 := talk_length z x y
    have h2 := talk_length o x y
    unfold talkT
    split <;> simp only [text, List.length_cons, List.length_append] <;> omega
/-- bits as a text -/
def bitsS (l : List Bool) : ByteArray := str (l.map dig)
theorem bitsS_next (l : List Bool) (b : Bool) : bitsS l ++ ⟨#[dig b]⟩ = bitsS (l ++ [b]) := by
  unfold bitsS
  rw [str_one, str_append, List.map_append]
  rfl
theorem bitsS_size (l : List Bool) : (bitsS l).size = l.length := by unfold bitsS; rw [str_size]; simp

end Go.Proofs.YtbbgibbpeibhiaaGreatDoor.Talk

/-
  The entries that the ends of a value cover are those at which the talk finds it. Nothing of the program.
-/
namespace Go.Proofs.YtbbgibbpeibhiaaGreatDoor.MatT
open Go.RowKit Go.Proofs.YtbbgibbpeibhiaaGreatDoor.Plain Go.Proofs.YtbbgibbpeibhiaaGreatDoor.Tree Go.Proofs.YtbbgibbpeibhiaaGreatDoor.TrimT Go.Proofs.YtbbgibbpeibhiaaGreatDoor.Leaf Go.Proofs.YtbbgibbpeibhiaaGreatDoor.Talk
set_option linter.unusedVariables false

theorem meet_bit (a b i : Nat) (h : a < 256) : (meetN a b).testBit i = (a.testBit i && b.testBit i) := by
  unfold meetN
  have h64 : a < 2 ^ 64 := Nat.lt_trans h (by decide)
  rw [BitVec.toNat_and, Nat.testBit_and, BitVec.toNat_ofNat, BitVec.toNat_ofNat, Nat.mod_eq_of_lt h64, Nat.testBit_mod_two_pow]
  by_cases hi : i < 64
  · simp [hi]
  · have : a.testBit i = false := Nat.testBit_lt_two_pow (Nat.lt_of_lt_of_le h (by
      have : (2 : Nat) ^ 8 ≤ 2 ^ i := Nat.pow_le_pow_right (by decide) (by omega)
      exact this))
    simp [this]
theorem minus_bit (a b i : Nat) (h : a < 256) : (minusN a b).testBit i = (a.testBit i && !b.testBit i) := by
  unfold minusN
  rw [BitVec.toNat_and, Nat.testBit_and]
  by_cases hi : i < 64
  · have e : (~~~BitVec.ofNat 64 b).toNat.testBit i = !b.testBit i := by
      have h1 : (~~~BitVec.ofNat 64 b).getLsbD i = (decide (i < 64) && !(BitVec.ofNat 64 b).getLsbD i) := BitVec.getLsbD_not
      rw [BitVec.testBit_toNat, h1, BitVec.getLsbD_ofNat]
      simp [hi]
    rw [e, BitVec.testBit_toNat, BitVec.getLsbD_ofNat]
    simp [hi]
  · have : a.testBit i = false := Nat.testBit_lt_two_pow (Nat.lt_of_lt_of_le h (by
      have : (2 : Nat) ^ 8 ≤ 2 ^ i := Nat.pow_le_pow_right (by decide) (by omega)
      exact this))
    rw [BitVec.testBit_toNat, BitVec.getLsbD_ofNat]
    simp [hi, this]
/-- an entry is covered by an end of a value -/
def covered (v : Bool) (l : List (Nat × Nat × Bool)) (x y : Nat) : Bool := l.any fun p => p.2.2 == v && (p.1.testBit x && p.2.1.testBit y)
theorem covered_append (v : Bool) (l m : List (Nat × Nat × Bool)) (x y : Nat) : covered v (l ++ m) x y = (covered v l x y || covered v m x y) := by simp [covered]
theorem not_covered (v : Bool) : ∀ (t : T) (R C x y : Nat), R < 256 → C < 256 → (R.testBit x && C.testBit y) = false → covered v (leavesT t R C) x y = false
  | .leaf b, R, C, x, y, _, _, h => by
    simp only [leavesT]
    split
    · rfl
    · simp only [covered, List.any_cons, List.any_nil, h, Bool.and_false, Bool.or_false]
  | .say a s z o, R, C, x, y, hR, hC, h => by
    obtain ⟨h1, h2, h3, h4⟩ := parts_lt a s hR hC
    have iz := not_covered v z (outR a s R) (outC a s C) x y h1 h2 (by
      cases a
      · simp only [outR, outC, if_false, Bool.false_eq_true]
        rw [minus_bit C s y hC, ← Bool.and_assoc, h, Bool.false_and]
      · simp only [outR, outC, if_true]
        rw [minus_bit R s x hR, Bool.and_assoc, Bool.and_comm (!_), ← Bool.and_assoc, h, Bool.false_and])
    have io := not_covered v o (inR a s R) (inC a s C) x y h3 h4 (by
      cases a
      · simp only [inR, inC, if_false, Bool.false_eq_true]
        rw [meet_bit C s y hC, ← Bool.and_assoc, h, Bool.false_and]
      · simp only [inR, inC, if_true]
        rw [meet_bit R s x hR, Bool.and_assoc, Bool.and_comm (Nat.testBit s x), ← Bool.and_assoc, h, Bool.false_and])
    simp only [leavesT, covered_append, iz, io, Bool.or_false]
/-- an entry of the rectangle is covered by an end of a value exactly if the talk finds it -/
theorem covered_talk (v : Bool) : ∀ (t : T) (R C x y : Nat), R < 256 → C < 256 → R.testBit x = true → C.testBit y = true → covered v (leavesT t R C) x y = ((talkT t x y).2 == v)
  | .leaf b, R, C, x, y, _, _, hx, hy => by
    have hR : R ≠ 0 := fun e => by rw [e] at hx; simp at hx
    have hC : C ≠ 0 := fun e => by rw [e] at hy; simp at hy
    simp only [leavesT]
    rw [if_neg (by omega)]
    simp [covered, hx, hy, talkT]
  | .say a s z o, R, C, x, y, hR, hC, hx, hy => by
    obtain ⟨h1, h2, h3, h4⟩ := parts_lt a s hR hC
    simp only [leavesT, covered_append]
    obtain ⟨b, hb⟩ : ∃ b, saysB a s x y = b := ⟨_, rfl⟩
    have ht : talkT (.say a s z o) x y = if b then (true :: (talkT o x y).1, (talkT o x y).2) else (false :: (talkT z x y).1, (talkT z x y).2) := by rw [← hb]; rfl
    rw [ht]
    have hoR : (outR a s R).testBit x = (if a then !b else true) ∧ (outC a s C).testBit y = (if a then true else !b) ∧ (inR a s R).testBit x = (if a then b else true) ∧ (inC a s C).testBit y = (if a then true else b) := by
      cases a
      · simp only [saysB, if_false, Bool.false_eq_true] at hb
        simp only [outR, outC, inR, inC, if_false, Bool.false_eq_true, minus_bit C s y hC, meet_bit C s y hC, hx, hy, hb, Bool.true_and, and_self]
      · simp only [saysB, if_true] at hb
        simp only [outR, outC, inR, inC, if_true, minus_bit R s x hR, meet_bit R s x hR, hx, hy, hb, Bool.true_and, and_self]
    obtain ⟨k1, k2, k3, k4⟩ := hoR
    cases b
    · rw [not_covered v o _ _ x y h3 h4 (by rw [k3, k4]; cases a <;> rfl), covered_talk v z _ _ x y h1 h2 (by rw [k1]; cases a <;> rfl) (by rw [k2]; cases a <;> rfl)]
      simp
    · rw [not_covered v z _ _ x y h1 h2 (by rw [k1, k2]; cases a <;> rfl), covered_talk v o _ _ x y h3 h4 (by rw [k3]; cases a <;> rfl) (by rw [k4]; cases a <;> rfl)]
      simp
end Go.Proofs.YtbbgibbpeibhiaaGreatDoor.MatT

/-
  The same law in a round of a range over a function: a region that draws its order, whose operations call functions that make memory, lay a block, store into it: each operation is walked ONCE, at whatever time it comes up, under an invariant that names the value of each operation that has come up.
-/
namespace Go.Proofs.YtbbgibbpeibhiaaGreatDoor.FreeIn
open Go Go.RowKit Go.Proofs.YtbbgibbpeibhiaaGreatDoor.Free
set_option linter.unusedVariables false

section
variable {P : Program} {ops : Array Oper}

/-- what is known in the midst of the region; S: of the world, by what has come up -/
structure MidIn (ops : Array Oper) (a0 : Act) (Y : Nat → Value → Act → World → Prop) (S : (Nat → Bool) → World → Prop) (listed : Array Bool) (a : Act) (w : World) : Prop where
  defers : a.defers = a0.defers
  size : a.tmps.size = a0.tmps.size
  world : S (fun i => listed.getD i false) w
  old : ∀ k, (∀ (i : Nat) (o : Oper), ops[i]? = some o → o.dst ≠ some k) → a.tmps[k]? = a0.tmps[k]?
  closed : ∀ (i : Nat) (o : Oper), ops[i]? = some o → listed.getD i false = true → ∀ e ∈ o.after, Region.binds .any e = true → listed.getD e.on false = true
  new : ∀ (i : Nat) (o : Oper), ops[i]? = some o → listed.getD i false = true → ∃ v, Y i v a w ∧ ∀ d, o.dst = some d → a.tmps[d]? = some v

theorem wpAnyIn_mid {F : Fence} {m n : Nat} {a0 : Act} {Y : Nat → Value → Act → World → Prop} {S : (Nat → Bool) → World → Prop} {Q : Exit → Act → World → Prop} (hB : freeB ops n = true) (hn : a0.tmps.size = n)
    (hstep : ∀ (i : Nat) (o : Oper), ops[i]? = some o → ∀ (listed : Array Bool) (a : Act) (w : World), MidIn ops a0 Y S listed a w → listed.getD i false = false → (∀ e ∈ o.after, Region.binds .any e = true → listed.getD e.on false = true) →
      o.wpIn F m P a w (fun a' w' => ∃ v, a' = a.put o.dst v ∧ Y i v a' w' ∧ S (fun j => if j = i then true else listed.getD j false) w' ∧ ∀ j u, j ≠ i → listed.getD j false = true → Y j u a w → Y j u a' w') Q)
    (hend : ∀ a w, (∀ listed : Array Bool, (∀ i, listed.getD i false = decide (i < ops.size)) → MidIn ops a0 Y S listed a w) → Q .normal a w) :
    ∀ (fuel : Nat) (listed : Array Bool) (a : Act) (w : World), listed.size = ops.size → left listed ops.size ≤ fuel → MidIn ops a0 Y S listed a w → wpAnyIn F m P .any ops Q fuel listed a w := by
  simp only [freeB, Bool.and_eq_true, decide_eq_true_eq] at hB
  obtain ⟨⟨h1, h2⟩, h3⟩ := hB
  have hg : ∀ (i : Nat) (o : Oper), ops[i]? = some o → o.guard = none := fun i o ho => by
    have := List.all_eq_true.1 h1 o (by simpa using Array.mem_of_getElem? ho)
    simp only [Bool.and_eq_true] at this
    simpa using this.1
  have hd : ∀ (i : Nat) (o : Oper) (d : Tmp), ops[i]? = some o → o.dst = some d → d < n := fun i o d ho hdst => by
    have := List.all_eq_true.1 h1 o (by simpa using Array.mem_of_getElem? ho)
    simp only [Bool.and_eq_true, hdst] at this
    simpa using this.2
  have hac : ∀ (i : Nat) (o : Oper), ops[i]? = some o → ∀ e ∈ o.after, Region.binds .any e = true → e.on < i := fun i o ho e he hb => by
    have hi : i < ops.size := (Array.getElem?_eq_some_iff.1 ho).1
    have := List.all_eq_true.1 h3 i (List.mem_range.2 hi)
    rw [ho] at this
    have h4 : ∀ e ∈ o.after, (!Region.binds .any e || decide (e.on < i)) = true := by
      have h5 : (o.after.all fun e => !Region.binds .any e || decide (e.on < i)) = true := this
      exact fun e he => Array.all_eq_true_iff_forall_mem.1 h5 e he
    have := h4 e he
    simpa [hb] using this
  have hdd : ∀ (i j : Nat) (oi oj : Oper) (d : Tmp), ops[i]? = some oi → ops[j]? = some oj → oi.dst = some d → oj.dst = some d → i = j := fun i j oi oj d hi hj di dj => by
    have hi' : ops.toList[i]? = some oi := by simpa using hi
    have hj' : ops.toList[j]? = some oj := by simpa using hj
    clear hd hac hg h1 h3 hstep hend hi hj
    generalize ops.toList = l at *
    induction l generalizing i j with
    | nil => simp at hi'
    | cons o l ih =>
      cases i with
      | zero =>
        cases j with
        | zero => rfl
        | succ j =>
          exfalso
          simp only [List.getElem?_cons_zero, Option.some.injEq] at hi'
          subst hi'
          simp only [List.getElem?_cons_succ] at hj'
          rw [List.filterMap_cons_some di, List.nodup_cons] at h2
          exact h2.1 (List.mem_filterMap.2 ⟨oj, List.mem_of_getElem? hj', dj⟩)
      | succ i =>
        cases j with
        | zero =>
          exfalso
          simp only [List.getElem?_cons_zero, Option.some.injEq] at hj'
          subst hj'
          simp only [List.getElem?_cons_succ] at hi'
          rw [List.filterMap_cons_some dj, List.nodup_cons] at h2
          exact h2.1 (List.mem_filterMap.2 ⟨oi, List.mem_of_getElem? hi', di⟩)
        | succ j =>
          simp only [List.getElem?_cons_succ] at hi' hj'
          have : (l.filterMap (·.dst)).Nodup := by
            cases hod : o.dst with
            | none => rwa [List.filterMap_cons_none hod] at h2
            | some x => rw [List.filterMap_cons_some hod, List.nodup_cons] at h2; exact h2.2
          rw [ih i j this hi' hj']
  have hall : ∀ (listed : Array Bool), listed.size = ops.size → Region.ready .any ops listed = [] → ∀ m, ∀ i, i < m → i < ops.size → listed.getD i false = true := by
    intro listed hsz hr m
    induction m with
    | zero => intro i hi; omega
    | succ m ih =>
      intro i hi hio
      by_cases e : i = m
      · subst e
        by_cases hl : listed.getD i false = true
        · exact hl
        · exfalso
          have hl2 : listed.getD i true = false := by
            have hlt : i < listed.size := by omega
            simp [hlt] at hl ⊢
            exact hl
          have : i ∈ Region.ready .any ops listed := by
            refine mem_ready.2 ⟨hl2, ops[i], by simp [hio], fun e he hb => ?_⟩
            have := hac i ops[i] (by simp [hio]) e he hb
            exact ih e.on this (by omega)
          rw [hr] at this
          cases this
      · exact ih i (by omega) hio
  intro fuel
  induction fuel with
  | zero =>
    intro listed a w hsz hc hM
    have hz := left_zero listed ops.size (by omega)
    have wEnd : ∀ l' : Array Bool, (∀ i, l'.getD i false = decide (i < ops.size)) → S (fun i => l'.getD i false) w := fun l' hl' => by
      have e : (fun i => l'.getD i false) = fun i => listed.getD i false := funext fun i => by
        rw [hl']
        by_cases hi : i < ops.size
        · rw [hz i hi]; exact decide_eq_true hi
        · rw [decide_eq_false hi]; simp [Array.getD_eq_getD_getElem?, Array.getElem?_eq_none (show listed.size ≤ i by omega)]
      rw [e]; exact hM.world
    refine ⟨?_, hend a w fun l' hl' => ⟨hM.defers, hM.size, wEnd l' hl', hM.old, fun i o ho _ e he hb => by rw [hl']; exact decide_eq_true (Nat.lt_trans (hac i o ho e he hb) (Array.getElem?_eq_some_iff.1 ho).1), fun i o ho _ => hM.new i o ho (hz i (Array.getElem?_eq_some_iff.1 ho).1)⟩⟩
    cases hr : Region.ready .any ops listed with
    | nil => rfl
    | cons i l =>
      exfalso
      have hi : i ∈ Region.ready .any ops listed := by rw [hr]; exact List.mem_cons_self
      obtain ⟨hu, o, ho, _⟩ := mem_ready.1 hi
      have hio : i < ops.size := (Array.getElem?_eq_some_iff.1 ho).1
      have := hz i hio
      have hlt : i < listed.size := by omega
      simp [hlt] at hu this
      rw [hu] at this
      cases this
  | succ fuel ih =>
    intro listed a w hsz hc hM
    refine ⟨fun hr => hend a w fun l' hl' => ⟨hM.defers, hM.size, (by
      have e : (fun i => l'.getD i false) = fun i => listed.getD i false := funext fun i => by
        rw [hl']
        by_cases hi : i < ops.size
        · rw [hall listed hsz hr ops.size i hi hi]; exact decide_eq_true hi
        · rw [decide_eq_false hi]; simp [Array.getD_eq_getD_getElem?, Array.getElem?_eq_none (show listed.size ≤ i by omega)]
      rw [e]; exact hM.world), hM.old, fun i o ho _ e he hb => by rw [hl']; exact decide_eq_true (Nat.lt_trans (hac i o ho e he hb) (Array.getElem?_eq_some_iff.1 ho).1), fun i o ho _ => hM.new i o ho (hall listed hsz hr ops.size i (Array.getElem?_eq_some_iff.1 ho).1 (Array.getElem?_eq_some_iff.1 ho).1)⟩, fun i hi => ?_⟩
    obtain ⟨hu, o, ho, hdep⟩ := mem_ready.1 hi
    have hio : i < ops.size := (Array.getElem?_eq_some_iff.1 ho).1
    have hu2 : listed.getD i false = false := by
      have hlt : i < listed.size := by omega
      simp [hlt] at hu ⊢
      exact hu
    unfold wpOpIn
    simp only [ho]
    have hw : Region.wanted o (yielded ops a.tmps) = true := by simp [Region.wanted, hg i o ho]
    rw [if_pos hw]
    refine Oper.wpIn_mono ?_ (hstep i o ho listed a w hM hu2 hdep)
    rintro a' w' ⟨v, rfl, hY, hS, hst⟩
    refine ih _ _ _ (by simpa using hsz) (by have := left_set listed i (by omega) hu2 ops.size hio; omega) ⟨?_, ?_, ?_, ?_, ?_, ?_⟩
    · rw [← hM.defers]
      cases o.dst <;> rfl
    · rw [← hM.size]
      cases o.dst <;> simp [Act.put]
    · have e : (fun j => (listed.setIfInBounds i true).getD j false) = fun j => if j = i then true else listed.getD j false := funext fun j => by
        by_cases hj : j = i
        · subst hj
          have hlt : j < listed.size := by omega
          simp [Array.getD_eq_getD_getElem?, hlt]
        · simp [Array.getD_eq_getD_getElem?, Array.getElem?_setIfInBounds_ne (Ne.symm hj), hj]
      rw [e]; exact hS
    · intro k hk
      rw [← hM.old k hk]
      cases hod : o.dst with
      | none => rfl
      | some d =>
        have : d ≠ k := fun e => hk i o ho (by rw [hod, e])
        simp [Act.put, Array.getElem?_setIfInBounds_ne this]
    · intro j oj hoj hl e he hb
      have hl' : listed.getD e.on false = true := by
        by_cases e2 : j = i
        · subst e2
          obtain rfl : o = oj := Option.some.inj (ho.symm.trans hoj)
          exact hdep e he hb
        · have hl2 : listed.getD j false = true := by
            rw [← hl]
            simp [Array.getD_eq_getD_getElem?, Array.getElem?_setIfInBounds_ne (Ne.symm e2)]
          exact hM.closed j oj hoj hl2 e he hb
      exact getD_set_true hl'
    · intro j oj hoj hl
      by_cases e : j = i
      · subst e
        obtain rfl : o = oj := Option.some.inj (ho.symm.trans hoj)
        refine ⟨v, hY, fun d hdd' => ?_⟩
        have hdn := hd j o d ho hdd'
        rw [← hn, ← hM.size] at hdn
        simp [hdd', Act.put, hdn]
      · have hl2 : listed.getD j false = true := by
          rw [← hl]
          simp [Array.getD_eq_getD_getElem?, Array.getElem?_setIfInBounds_ne (Ne.symm e)]
        obtain ⟨u, hu', hd'⟩ := hM.new j oj hoj hl2
        refine ⟨u, hst j u e hl2 hu', fun d hdj => ?_⟩
        rw [← hd' d hdj]
        cases hod : o.dst with
        | none => rfl
        | some d2 =>
          have : d2 ≠ d := fun e2 => e (hdd j i oj o d hoj ho hdj (by rw [hod, e2]))
          simp [Act.put, Array.getElem?_setIfInBounds_ne this]

/-- THE LAW -/
theorem wpIn_region_free {F : Fence} {m id n : Nat} {a0 : Act} {w0 : World} {Y : Nat → Value → Act → World → Prop} {S : (Nat → Bool) → World → Prop} {Q : Exit → Act → World → Prop} (hm : P.follows .mixedOrders = true) (hB : freeB ops n = true) (hn : a0.tmps.size = n)
    (hS : S (fun _ => false) { w0 with drawn := w0.drawn + 1 })
    (hstep : ∀ (i : Nat) (o : Oper), ops[i]? = some o → ∀ (listed : Array Bool) (a : Act) (w : World), MidIn ops a0 Y S listed a w → listed.getD i false = false → (∀ e ∈ o.after, Region.binds .any e = true → listed.getD e.on false = true) →
      o.wpIn F m P a w (fun a' w' => ∃ v, a' = a.put o.dst v ∧ Y i v a' w' ∧ S (fun j => if j = i then true else listed.getD j false) w' ∧ ∀ j u, j ≠ i → listed.getD j false = true → Y j u a w → Y j u a' w') Q)
    (hend : ∀ (vs : Nat → Value) (w : World), S (fun i => decide (i < ops.size)) w → (∀ (i : Nat) (o : Oper), ops[i]? = some o → Y i (vs i) (fill ops.toList vs 0 a0) w) → Q .normal (fill ops.toList vs 0 a0) w) : (Code.region id ops true).wpIn F m P Q a0 w0 := by
  refine wpIn_region_any hm ?_
  have hB2 := hB
  simp only [freeB, Bool.and_eq_true, decide_eq_true_eq] at hB2
  obtain ⟨⟨h1, h2⟩, _⟩ := hB2
  refine wpAnyIn_mid hB hn hstep (fun a w hM => ?_) _ _ _ _ (by simp) ?_ ⟨rfl, rfl, (by
    have e : (fun i => (Array.replicate ops.size false).getD i false) = fun _ => false := funext fun i => by
      by_cases hi : i < ops.size <;> simp [Array.getD_eq_getD_getElem?, hi]
    rw [e]; exact hS), fun _ _ => rfl, fun i o _ hl => ?_, fun i o _ hl => ?_⟩
  · have M := hM (Array.replicate ops.size true) (fun i => by by_cases hi : i < ops.size <;> simp [Array.getD_eq_getD_getElem?, hi])
    have hl : ∀ (i : Nat) (o : Oper), ops[i]? = some o → (Array.replicate ops.size true).getD i false = true := fun i o ho => by
      have hi : i < ops.size := (Array.getElem?_eq_some_iff.1 ho).1
      simp [Array.getD_eq_getD_getElem?, hi]
    classical
    obtain ⟨vs, hvs⟩ : ∃ vs : Nat → Value, ∀ (i : Nat) (o : Oper), ops[i]? = some o → Y i (vs i) a w ∧ ∀ d, o.dst = some d → a.tmps[d]? = some (vs i) := by
      refine ⟨fun i => if h : ∃ v : Value, ∀ o : Oper, ops[i]? = some o → Y i v a w ∧ ∀ d, o.dst = some d → a.tmps[d]? = some v then h.choose else undef, fun i o ho => ?_⟩
      have hex : ∃ v : Value, ∀ o : Oper, ops[i]? = some o → Y i v a w ∧ ∀ d, o.dst = some d → a.tmps[d]? = some v := by
        obtain ⟨v, hv⟩ := M.new i o ho (hl i o ho)
        exact ⟨v, fun o' ho' => by obtain rfl : o = o' := Option.some.inj (ho.symm.trans ho'); exact hv⟩
      dsimp only
      rw [dif_pos hex]
      exact hex.choose_spec o ho
    have ha : a = fill ops.toList vs 0 a0 := by
      have ht : a.tmps = (fill ops.toList vs 0 a0).tmps := by
        apply Array.ext_getElem?
        intro k
        by_cases hk : ∃ (i : Nat) (o : Oper), ops[i]? = some o ∧ o.dst = some k
        · obtain ⟨i, o, ho, hd⟩ := hk
          have hkn : k < a0.tmps.size := by
            have := List.all_eq_true.1 h1 o (by simpa using Array.mem_of_getElem? ho)
            simp only [Bool.and_eq_true, hd] at this
            rw [hn]
            simpa using this.2
          rw [fill_at k ops.toList vs 0 a0 i o (by simpa using ho) hd h2 hkn, (hvs i o ho).2 k hd, Nat.zero_add]
        · have hk2 : ∀ (i : Nat) (o : Oper), ops[i]? = some o → o.dst ≠ some k := fun i o ho e => hk ⟨i, o, ho, e⟩
          rw [M.old k hk2, fill_not k ops.toList vs 0 a0]
          intro o ho e
          obtain ⟨i, hi, rfl⟩ := List.getElem_of_mem ho
          exact hk2 i _ (by simp at hi; simp [hi]) e
      have hdf := M.defers
      rw [← fill_defers ops.toList vs 0 a0] at hdf
      cases a
      cases hfl : fill ops.toList vs 0 a0
      rw [hfl] at ht hdf
      simp only at ht hdf
      rw [ht, hdf]
    rw [ha]
    refine hend vs w (by
      have e : (fun i => (Array.replicate ops.size true).getD i false) = fun i => decide (i < ops.size) := funext fun i => by
        by_cases hi : i < ops.size <;> simp [Array.getD_eq_getD_getElem?, hi]
      have M2 := M.world
      rw [e] at M2; exact M2) fun i o ho => ?_
    rw [← ha]
    exact (hvs i o ho).1
  · clear hstep hend
    have : ∀ n, left (Array.replicate ops.size false) n ≤ n := fun n => by
      induction n with
      | zero => simp [left]
      | succ n ih => rw [left]; split <;> omega
    exact this _
  all_goals
    exfalso
    simp [Array.getD_eq_getD_getElem?, Array.getElem?_replicate] at hl
    split at hl <;> simp at hl
/-! ### one operation at a time -/
theorem wpIn_value {F : Fence} {m : Nat} {o : Oper} {a : Act} {w : World} {K : Act → World → Prop} {Q : Exit → Act → World → Prop} (v : Value) (ha : o.about P w a.eval = none) (h : (o.semAt F.round a.eval).run P w = .ok (.value v) w) (hK : K (a.put o.dst v) w) : o.wpIn F m P a w K Q := by
  unfold Oper.wpIn
  refine ⟨fun f hf => (by rw [ha] at hf; cases hf), ?_⟩
  rw [h]
  exact hK
theorem wpIn_store {F : Fence} {m : Nat} {o : Oper} {a : Act} {w w' : World} {K : Act → World → Prop} {Q : Exit → Act → World → Prop} (ha : o.about P w a.eval = none) (h : (o.semAt F.round a.eval).run P w = .ok .skip w') (hK : K (a.put o.dst undef) w') : o.wpIn F m P a w K Q := by
  unfold Oper.wpIn
  refine ⟨fun f hf => (by rw [ha] at hf; cases hf), ?_⟩
  rw [h]
  exact hK
/-- what an operation may know of the slots -/
def FactsIn (ops : Array Oper) (a0 : Act) (con : Nat → Value) (o : Oper) (a : Act) : Prop :=
  (∀ e ∈ o.after, Region.binds .any e = true → ∀ (oj : Oper) (dj : Tmp), ops[e.on]? = some oj → oj.dst = some dj → a.tmps[dj]?.getD undef = con e.on) ∧
  (∀ k, (ops.toList.all fun o => o.dst != some k) = true → a.tmps[k]?.getD undef = a0.tmps[k]?.getD undef)

/-- what has come up has come behind all that it waits for, and so on -/
theorem sink_listed {last : Nat} {listed : Array Bool} (hw : Region.sinkB .any ops last = true)
    (hc : ∀ (i : Nat) (o : Oper), ops[i]? = some o → listed.getD i false = true → ∀ e ∈ o.after, Region.binds .any e = true → listed.getD e.on false = true)
    (hl : listed.getD last false = true) : ∀ (d i : Nat), last - i ≤ d → i ≤ last → listed.getD i false = true
  | 0, i, h1, h2 => by
    obtain rfl : i = last := by omega
    exact hl
  | d + 1, i, h1, h2 => by
    by_cases e : i = last
    · subst e; exact hl
    · have h3 := List.all_eq_true.1 hw i (List.mem_range.2 (by omega))
      obtain ⟨j, hj, h4⟩ := List.any_eq_true.1 h3
      simp only [Bool.and_eq_true, decide_eq_true_eq] at h4
      have hjl : j < last + 1 := List.mem_range.1 hj
      obtain ⟨oj, hoj, e2, he2, hb2, hon⟩ := Region.waitsFor_spec h4.2
      have := hc j oj hoj (sink_listed hw hc hl d j (by omega) (by omega)) e2 he2 hb2
      rwa [hon] at this

/-- THE LAW AT READS AND ONE STORE THAT COMES LAST -/
theorem wpIn_region_last {F : Fence} {m id n : Nat} {a0 : Act} {w0 : World} {Q : Exit → Act → World → Prop} (con : Nat → Value) (last : Nat) (W2 : World) (os : Oper)
    (hm : P.follows .mixedOrders = true) (hB : freeB ops n = true) (hn : a0.tmps.size = n) (hs : ops[last]? = some os) (hsd : os.dst = none) (hsz : ops.size = last + 1)
    (hw : Region.sinkB .any ops last = true)
    (hcon : ∀ (i : Nat) (o : Oper), ops[i]? = some o → i < last → ∀ (a : Act), FactsIn ops a0 con o a →
      o.wpIn F m P a { w0 with drawn := w0.drawn + 1 } (fun a' w' => a' = a.put o.dst (con i) ∧ w' = { w0 with drawn := w0.drawn + 1 }) Q)
    (hst : ∀ (a : Act), FactsIn ops a0 con os a → os.wpIn F m P a { w0 with drawn := w0.drawn + 1 } (fun a' w' => a' = a ∧ w' = W2) Q)
    (hend : Q .normal (fill ops.toList con 0 a0) W2) : (Code.region id ops true).wpIn F m P Q a0 w0 := by
  let Y : Nat → Value → Act → World → Prop := fun i v a w => i < last → v = con i
  have facts : ∀ (listed : Array Bool) (o : Oper) (i : Nat) (a : Act) (w : World), ops[i]? = some o → MidIn ops a0 Y (fun f w => w = cond (f last) W2 { w0 with drawn := w0.drawn + 1 }) listed a w →
      (∀ e ∈ o.after, Region.binds .any e = true → listed.getD e.on false = true) → (∀ e ∈ o.after, Region.binds .any e = true → e.on < last) → FactsIn ops a0 con o a := by
    intro listed o i a w ho hM hdl hlt
    refine ⟨fun e he hb oj dj hoj hdj => ?_, fun k hk => ?_⟩
    · obtain ⟨v, hv, hvd⟩ := hM.new e.on oj hoj (hdl e he hb)
      rw [hvd dj hdj, ← hv (hlt e he hb)]
      rfl
    · rw [hM.old k fun i o' ho' hd' => ?_]
      have := List.all_eq_true.1 hk o' (by simpa using Array.mem_of_getElem? ho')
      simp [hd'] at this
  have hB2 := hB
  simp only [freeB, Bool.and_eq_true, decide_eq_true_eq] at hB2
  obtain ⟨⟨_, _⟩, h3⟩ := hB2
  have hac : ∀ (i : Nat) (o : Oper), ops[i]? = some o → ∀ e ∈ o.after, Region.binds .any e = true → e.on < i := fun i o ho e he hb => by
    have hi : i < ops.size := (Array.getElem?_eq_some_iff.1 ho).1
    have := List.all_eq_true.1 h3 i (List.mem_range.2 hi)
    rw [ho] at this
    have h5 : (o.after.all fun e => !Region.binds .any e || decide (e.on < i)) = true := this
    have := Array.all_eq_true_iff_forall_mem.1 h5 e he
    simpa [hb] using this
  refine wpIn_region_free (Y := Y) (S := fun f w => w = cond (f last) W2 { w0 with drawn := w0.drawn + 1 }) hm hB hn rfl ?_ ?_
  · intro i o ho listed a w hM hu hdl
    have hi : i < ops.size := (Array.getElem?_eq_some_iff.1 ho).1
    by_cases hil : i = last
    · subst hil
      obtain rfl : o = os := Option.some.inj (ho.symm.trans hs)
      have hw1 := hM.world
      simp only [hu, cond_false] at hw1
      subst hw1
      refine Oper.wpIn_mono ?_ (hst a (facts listed o i a _ ho hM hdl (hac i o ho)))
      rintro a' w' ⟨rfl, rfl⟩
      exact ⟨undef, by rw [hsd]; rfl, fun h => absurd h (by omega), by simp, fun j u hj _ hY => hY⟩
    · have hlt : i < last := by omega
      have hnl : listed.getD last false = false := by
        cases hl : listed.getD last false with
        | false => rfl
        | true =>
          exfalso
          have := sink_listed hw hM.closed hl (last - i) i (Nat.le_refl _) (by omega)
          rw [hu] at this
          cases this
      have hw1 := hM.world
      simp only [hnl, cond_false] at hw1
      subst hw1
      refine Oper.wpIn_mono ?_ (hcon i o ho hlt a (facts listed o i a _ ho hM hdl (fun e he hb => Nat.lt_trans (hac i o ho e he hb) hlt)))
      rintro a' w' ⟨rfl, rfl⟩
      refine ⟨con i, rfl, fun _ => rfl, ?_, fun j u hj _ hY => hY⟩
      dsimp only
      rw [if_neg (Ne.symm hil), hnl]
      rfl
  · intro vs w hw1 hall
    have : (decide (last < ops.size)) = true := decide_eq_true (by omega)
    dsimp only at hw1
    rw [this] at hw1
    replace hw1 : w = W2 := hw1
    subst hw1
    have hc : fill ops.toList vs 0 a0 = fill ops.toList con 0 a0 := by
      have hl : ops.toList = ops.toList.take last ++ [os] := by
        have h1 : ops.toList[last]? = some os := by simpa using hs
        have h2 : ops.toList.length = last + 1 := by simpa using hsz
        apply List.ext_getElem?
        intro k
        by_cases hk : k < last
        · rw [List.getElem?_append_left (by simp; omega), List.getElem?_take, if_pos hk]
        · by_cases hk2 : k = last
          · subst hk2
            rw [h1, List.getElem?_append_right (by simp; omega)]
            simp [show min k (k + 1) = k by omega, hsz]
          · rw [List.getElem?_eq_none (by omega), List.getElem?_eq_none (by simp; omega)]
      have hf : ∀ (l : List Oper) (us : Nat → Value) (b : Nat) (a : Act), fill (l ++ [os]) us b a = fill l us b a := by
        intro l
        induction l with
        | nil => intro us b a; simp [fill, hsd, Act.put]
        | cons o l ih => intro us b a; rw [List.cons_append, fill, fill, ih]
      rw [hl, hf, hf]
      refine fill_congr _ _ _ 0 a0 fun i hi => ?_
      simp only [Nat.zero_add]
      have hil : i < last := by simp at hi; omega
      have hio : i < ops.size := by omega
      exact hall i ops[i] (by simp [hio]) hil
    rw [hc]
    exact hend
end
end Go.Proofs.YtbbgibbpeibhiaaGreatDoor.FreeIn

