/-
  Texts of one seat, joined: Clos, SpecTO, OtherWalk, HvM.
-/
import Derived.Test.YtbbgibbpeibhiaaGreatDoorJn14
import Derived.Test.YtbbgibbpeibhiaaGreatDoorJn10
import Derived.Deep.WholeRow
import Derived.Deep.RegionWith
import Derived.Test.YtbbgibbpeibhiaaGreatDoorJn5
import Derived.Test.YtbbgibbpeibhiaaGreatDoorJn9
/-
  A matrix that is made of one grid's entries: TurnMatrix and OtherMatrix of the program.
-/
namespace Go.Proofs.YtbbgibbpeibhiaaGreatDoor.Clos
open Go.RowKit Go.Proofs.YtbbgibbpeibhiaaGreatDoor.Plain Go.Proofs.YtbbgibbpeibhiaaGreatDoor.Base Go.Proofs.YtbbgibbpeibhiaaGreatDoor.Valid Go.Proofs.YtbbgibbpeibhiaaGreatDoor.Law Go.Proofs.YtbbgibbpeibhiaaGreatDoor.GridPlain Go.Proofs.YtbbgibbpeibhiaaGreatDoor.Grid Go.Proofs.YtbbgibbpeibhiaaGreatDoor.Entry Go.Proofs.YtbbgibbpeibhiaaGreatDoor.From
set_option linter.unusedVariables false

/-- block b holds the grid of so many entries -/
def Holds (w : World) (b : Nat) (r c : Nat) (E : Nat → Nat → Bool) : Prop := w.heap[b]? = some (.cells (gcells r c (gpart E c (r * c))) 109 (0, 0))
theorem Holds.lt {w : World} {b r c : Nat} {E : Nat → Nat → Bool} (h : Holds w b r c E) : b < w.heap.size := (Array.getElem?_eq_some_iff.1 h).1
theorem Holds.below {w w1 : World} {b r c : Nat} {E : Nat → Nat → Bool} (h : Holds w b r c E) (hb : Below w.heap.size w w1) : Holds w1 b r c E := (hb.block b h.lt).trans h

theorem two_blocks {w w1 : World} {o1 o2 : Obj} (hb : Below ((w.alloc o1).alloc o2).heap.size ((w.alloc o1).alloc o2) w1) :
    w1.heap[w.heap.size + 1]? = some o2 ∧ Below w.heap.size w w1 ∧ w.heap.size + 2 ≤ w1.heap.size := by
  have hs : ((w.alloc o1).alloc o2).heap.size = w.heap.size + 2 := by simp
  have h2 : ((w.alloc o1).alloc o2).heap[w.heap.size + 1]? = some o2 := by
    have := heap_alloc_new (w.alloc o1) o2
    rwa [World.size_alloc] at this
  exact ⟨(hb.block _ (by omega)).trans h2, (((Below.refl w.heap.size w).alloc (Nat.le_refl _) _).alloc (by simp) _).trans (hb.mono (by omega)), by have := hb.size; omega⟩

end Go.Proofs.YtbbgibbpeibhiaaGreatDoor.Clos

/-
  The reference's l1Other, l1Turn, OtherMatrix, TurnMatrix.
-/
namespace Go.Proofs.YtbbgibbpeibhiaaGreatDoor.SpecTO
open Go.RowKit Go.Proofs.YtbbgibbpeibhiaaGreatDoor.Plain Go.Proofs.YtbbgibbpeibhiaaGreatDoor.Base Go.Proofs.YtbbgibbpeibhiaaGreatDoor.Valid Go.Proofs.YtbbgibbpeibhiaaGreatDoor.Law Go.Proofs.YtbbgibbpeibhiaaGreatDoor.GridPlain Go.Proofs.YtbbgibbpeibhiaaGreatDoor.Grid Go.Proofs.YtbbgibbpeibhiaaGreatDoor.Entry Go.Proofs.YtbbgibbpeibhiaaGreatDoor.From Go.Proofs.YtbbgibbpeibhiaaGreatDoor.Clos
set_option linter.unusedVariables false

/-- the world in l1Other: m's box, the result's block, out's block -/
abbrev ow (w : World) (r c : Nat) (s t : ByteArray) : World :=
  ((w.alloc (.cells #[.int .i64 (r : Int), .int .i64 (c : Int), .string s] 28)).alloc (.cells #[.int .i64 0, .int .i64 0, .string ⟨#[]⟩] 28)).alloc (.cells #[.int .i64 (r : Int), .int .i64 (c : Int), .string t] 28)
theorem ow_set (w : World) (r c q : Nat) (s t u : ByteArray) : ((ow w r c s t).drewN q).setCell ⟨w.heap.size + 1 + 1, 2, none⟩ (.string u) = (ow w r c s u).drewN q := by
  have h : ((w.alloc (.cells #[.int .i64 (r : Int), .int .i64 (c : Int), .string s] 28)).alloc (.cells #[.int .i64 0, .int .i64 0, .string ⟨#[]⟩] 28)).heap.size = w.heap.size + 1 + 1 := by simp
  show ((ow w r c s t).setCell ⟨w.heap.size + 1 + 1, 2, none⟩ (.string u)).drewN q = _
  unfold ow
  rw [World.setCell_alloc_at _ _ _ _ _ h.symm]
  rfl
theorem ow_below (w : World) (r c q : Nat) (s t : ByteArray) (a b d : Value) : Below w.heap.size w (((((ow w r c s t).drewN q).setCell ⟨w.heap.size + 1, 0, none⟩ a).setCell ⟨w.heap.size + 1, 1, none⟩ b).setCell ⟨w.heap.size + 1, 2, none⟩ d) := by
  have h : Below w.heap.size w (ow w r c s t) := (((Below.refl _ _).alloc (Nat.le_refl _) _).alloc (by simp) _).alloc (by simp; omega) _
  have h2 : Below w.heap.size w ((ow w r c s t).drewN q) := ⟨h.os, h.tape, h.output, h.size, h.block⟩
  exact ((h2.setCell (by simp) _).setCell (by simp) _).setCell (by simp) _
theorem take_next (l : List UInt8) (k : Nat) (u : UInt8) (h : l[k]? = some u) : str (l.take k) ++ ⟨#[u]⟩ = str (l.take (k + 1)) := by
  obtain ⟨h1, h2⟩ := List.getElem?_eq_some_iff.1 h
  rw [str_one, str_append, List.take_succ_eq_append_getElem h1, h2]

theorem two_blocks' {w w1 : World} {o1 o2 : Obj} (hb : Below ((w.alloc o1).alloc o2).heap.size ((w.alloc o1).alloc o2) w1) :
    w1.heap[w.heap.size]? = some o1 ∧ w1.heap[w.heap.size + 1]? = some o2 ∧ Below w.heap.size w w1 ∧ w.heap.size + 2 ≤ w1.heap.size := by
  obtain ⟨h1, h2, h3⟩ := two_blocks hb
  refine ⟨(hb.block _ (by simp; omega)).trans ?_, h1, h2, h3⟩
  rw [Below.heap_alloc _ _ _ (by simp)]
  exact heap_alloc_new w o1
theorem cells3 {w : World} {g : Nat} {T : TypeId} {a b c : Value} (h : w.heap[g]? = some (.cells #[a, b, c] T (0, 0))) :
    w.cell? ⟨g, 0, none⟩ = some a ∧ w.cell? ⟨g, 1, none⟩ = some b ∧ w.cell? ⟨g, 2, none⟩ = some c :=
  ⟨cell_of_row _ _ 0 _ _ _ h, cell_of_row _ _ 1 _ _ _ h, cell_of_row _ _ 2 _ _ _ h⟩
theorem free3 {w : World} {g : Nat} {T : TypeId} {a b c : Value} (h : w.heap[g]? = some (.cells #[a, b, c] T (0, 0))) :
    w.frozen? ⟨g, 0, none⟩ = false ∧ w.frozen? ⟨g, 1, none⟩ = false ∧ w.frozen? ⟨g, 2, none⟩ = false :=
  ⟨frozen_of_row _ _ 0 _ _ h, frozen_of_row _ _ 1 _ _ h, frozen_of_row _ _ 2 _ _ h⟩
/-- what holds while l1Turn runs: out has these bytes -/
def TInv (w wr : World) (r c : Nat) (s t : ByteArray) : Prop :=
  wr.heap[w.heap.size]? = some (.cells #[.int .i64 (r : Int), .int .i64 (c : Int), .string s] 28 (0, 0)) ∧ wr.heap[w.heap.size + 1]? = some (.cells #[.int .i64 0, .int .i64 0, .string ⟨#[]⟩] 28 (0, 0)) ∧
    wr.heap[w.heap.size + 2]? = some (.cells #[.int .i64 (c : Int), .int .i64 (r : Int), .string t] 28 (0, 0)) ∧ Below w.heap.size w wr ∧ w.heap.size + 3 ≤ wr.heap.size
theorem TInv.cells {w wr : World} {r c : Nat} {s t : ByteArray} (h : TInv w wr r c s t) :
    wr.cell? ⟨w.heap.size, 0, none⟩ = some (.int .i64 (r : Int)) ∧ wr.cell? ⟨w.heap.size, 1, none⟩ = some (.int .i64 (c : Int)) ∧ wr.cell? ⟨w.heap.size, 2, none⟩ = some (.string s) ∧
    wr.cell? ⟨w.heap.size + 1 + 1, 0, none⟩ = some (.int .i64 (c : Int)) ∧ wr.cell? ⟨w.heap.size + 1 + 1, 1, none⟩ = some (.int .i64 (r : Int)) ∧ wr.cell? ⟨w.heap.size + 1 + 1, 2, none⟩ = some (.string t) ∧
    wr.frozen? ⟨w.heap.size + 1 + 1, 2, none⟩ = false :=
  ⟨cell_of_row _ _ 0 _ _ _ h.1, cell_of_row _ _ 1 _ _ _ h.1, cell_of_row _ _ 2 _ _ _ h.1, cell_of_row _ _ 0 _ _ _ h.2.2.1, cell_of_row _ _ 1 _ _ _ h.2.2.1, cell_of_row _ _ 2 _ _ _ h.2.2.1, frozen_of_row _ _ 2 _ _ h.2.2.1⟩
theorem TInv.res {w wr : World} {r c : Nat} {s t : ByteArray} (h : TInv w wr r c s t) :
    wr.cell? ⟨w.heap.size + 1, 0, none⟩ = some (.int .i64 0) ∧ wr.cell? ⟨w.heap.size + 1, 1, none⟩ = some (.int .i64 0) ∧ wr.cell? ⟨w.heap.size + 1, 2, none⟩ = some (.string ⟨#[]⟩) ∧
    wr.frozen? ⟨w.heap.size + 1, 0, none⟩ = false ∧ wr.frozen? ⟨w.heap.size + 1, 1, none⟩ = false ∧ wr.frozen? ⟨w.heap.size + 1, 2, none⟩ = false :=
  ⟨cell_of_row _ _ 0 _ _ _ h.2.1, cell_of_row _ _ 1 _ _ _ h.2.1, cell_of_row _ _ 2 _ _ _ h.2.1, frozen_of_row _ _ 0 _ _ h.2.1, frozen_of_row _ _ 1 _ _ h.2.1, frozen_of_row _ _ 2 _ _ h.2.1⟩
theorem TInv.later {w wr w2 : World} {r c : Nat} {s t : ByteArray} (h : TInv w wr r c s t) (hb : Below wr.heap.size wr w2) : TInv w w2 r c s t := by
  obtain ⟨h0, h1, h2, h3, h4⟩ := h
  exact ⟨(hb.block _ (by omega)).trans h0, (hb.block _ (by omega)).trans h1, (hb.block _ (by omega)).trans h2, bstep h3 hb, Nat.le_trans h4 hb.size⟩
theorem TInv.drew {w wr : World} {r c : Nat} {s t : ByteArray} (h : TInv w wr r c s t) (n : Nat) : TInv w (wr.drewN n) r c s t :=
  ⟨h.1, h.2.1, h.2.2.1, ⟨h.2.2.2.1.os, h.2.2.2.1.tape, h.2.2.2.1.output, h.2.2.2.1.size, h.2.2.2.1.block⟩, h.2.2.2.2⟩
theorem TInv.set_ {w wr : World} {r c : Nat} {s t : ByteArray} (h : TInv w wr r c s t) (u : ByteArray) : TInv w (wr.setCell ⟨w.heap.size + 1 + 1, 2, none⟩ (.string u)) r c s u := by
  obtain ⟨h0, h1, h2, h3, h4⟩ := h
  exact ⟨(heap_setCell_other _ _ _ _ (by simp; omega)).trans h0, (heap_setCell_other _ _ _ _ (by simp)).trans h1, (heap_setCell_same _ _ _ _ _ _ h2).trans rfl, h3.setCell (by simp; omega) _, by simpa using h4⟩

end Go.Proofs.YtbbgibbpeibhiaaGreatDoor.SpecTO

/-
  The walk of the law on OtherMatrix.
-/
namespace Go.Proofs.YtbbgibbpeibhiaaGreatDoor.fnExactOtherMatrix
open Go.RowKit Go.Proofs.YtbbgibbpeibhiaaGreatDoor.Plain Go.Proofs.YtbbgibbpeibhiaaGreatDoor.Base Go.Proofs.YtbbgibbpeibhiaaGreatDoor.Valid Go.Proofs.YtbbgibbpeibhiaaGreatDoor.Law Go.Proofs.YtbbgibbpeibhiaaGreatDoor.GridPlain Go.Proofs.YtbbgibbpeibhiaaGreatDoor.Grid Go.Proofs.YtbbgibbpeibhiaaGreatDoor.Entry Go.Proofs.YtbbgibbpeibhiaaGreatDoor.Clos Go.Proofs.YtbbgibbpeibhiaaGreatDoor.SpecTO
set_option linter.unusedVariables false

theorem three_at {w1 w2 : World} {a b c : Value} {T : TypeId} (hb : Below (w1.alloc (.cells #[a, b, c] T)).heap.size (w1.alloc (.cells #[a, b, c] T)) w2) :
    w1.heap.size < w2.heap.size ∧ w2.cell? ⟨w1.heap.size, 0, none⟩ = some a ∧ w2.cell? ⟨w1.heap.size, 1, none⟩ = some b ∧ w2.cell? ⟨w1.heap.size, 2, none⟩ = some c := by
  obtain ⟨h0, h1, h2⟩ := three_of hb
  exact ⟨by have := hb.size; simp at this; omega, h0, h1, h2⟩

end Go.Proofs.YtbbgibbpeibhiaaGreatDoor.fnExactOtherMatrix

/-
  The ends within the part of a protocol that is cut out. Nothing of the program.
-/
namespace Go.Proofs.YtbbgibbpeibhiaaGreatDoor.HvM
open Go.RowKit Go.Proofs.YtbbgibbpeibhiaaGreatDoor.Plain Go.Proofs.YtbbgibbpeibhiaaGreatDoor.Tree Go.Proofs.YtbbgibbpeibhiaaGreatDoor.TrimT Go.Proofs.YtbbgibbpeibhiaaGreatDoor.CutT Go.Proofs.YtbbgibbpeibhiaaGreatDoor.Leaf
set_option linter.unusedVariables false
set_option linter.unusedSimpArgs false

theorem at_zero (i : Nat) : at_ 0 i = false := by unfold at_; simp
/-- where a bit is never 1, or never 0, nothing is taken away -/
theorem all_out (a : Bool) (s R C : Nat) (hR : R < 256) (hC : C < 256) (h1 : 1 ≤ R) (h2 : 1 ≤ C) (hi : inR a s R = 0 ∨ inC a s C = 0) : outR a s R = R ∧ outC a s C = C := by
  cases a
  · simp only [inR, inC, outR, outC, if_false, Bool.false_eq_true] at hi ⊢
    refine ⟨trivial, ?_⟩
    rcases hi with hi | hi
    · omega
    · refine at_eq (Nat.lt_of_le_of_lt (minus_le _ _ hC) hC) hC fun i hx => ?_
      have z := congrArg (fun n => at_ n i) hi
      simp only [at_meet, at_zero] at z
      rw [at_minus _ _ _ hx]
      cases h : at_ C i <;> cases k : at_ s i <;> simp [h, k] at z ⊢
  · simp only [inR, inC, outR, outC, if_true] at hi ⊢
    refine ⟨?_, trivial⟩
    rcases hi with hi | hi
    · refine at_eq (Nat.lt_of_le_of_lt (minus_le _ _ hR) hR) hR fun i hx => ?_
      have z := congrArg (fun n => at_ n i) hi
      simp only [at_meet, at_zero] at z
      rw [at_minus _ _ _ hx]
      cases h : at_ R i <;> cases k : at_ s i <;> simp [h, k] at z ⊢
    · omega
theorem all_inn (a : Bool) (s R C : Nat) (hR : R < 256) (hC : C < 256) (h1 : 1 ≤ R) (h2 : 1 ≤ C) (ho : outR a s R = 0 ∨ outC a s C = 0) : inR a s R = R ∧ inC a s C = C := by
  cases a
  · simp only [inR, inC, outR, outC, if_false, Bool.false_eq_true] at ho ⊢
    refine ⟨trivial, ?_⟩
    rcases ho with ho | ho
    · omega
    · refine at_eq (Nat.lt_of_le_of_lt (meet_le _ _ hC) hC) hC fun i hx => ?_
      have z := congrArg (fun n => at_ n i) ho
      simp only [at_minus _ _ _ hx, at_zero] at z
      rw [at_meet]
      cases h : at_ C i <;> cases k : at_ s i <;> simp [h, k] at z ⊢
  · simp only [inR, inC, outR, outC, if_true] at ho ⊢
    refine ⟨?_, trivial⟩
    rcases ho with ho | ho
    · refine at_eq (Nat.lt_of_le_of_lt (meet_le _ _ hR) hR) hR fun i hx => ?_
      have z := congrArg (fun n => at_ n i) ho
      simp only [at_minus _ _ _ hx, at_zero] at z
      rw [at_meet]
      cases h : at_ R i <;> cases k : at_ s i <;> simp [h, k] at z ⊢
    · omega
/-- a protocol that is trimmed has the same ends -/
theorem leaves_trim : ∀ (t : T) (R C : Nat), R < 256 → C < 256 → 1 ≤ R → 1 ≤ C → leavesT (trimT t R C) R C = leavesT t R C
  | .leaf _, _, _, _, _, _, _ => rfl
  | .say a s z o, R, C, hR, hC, h1, h2 => by
    obtain ⟨p1, p2, p3, p4⟩ := parts_lt a s hR hC
    have hnb := not_both a s hR hC h1 h2
    unfold trimT
    by_cases hi : inR a s R = 0 ∨ inC a s C = 0
    · rw [if_pos hi]
      obtain ⟨q1, q2⟩ := hnb hi
      obtain ⟨e1, e2⟩ := all_out a s R C hR hC h1 h2 hi
      simp only [leavesT]
      rw [leaves_none o _ _ hi, List.append_nil, e1, e2]
      exact leaves_trim z R C hR hC h1 h2
    rw [if_neg hi]
    by_cases ho : outR a s R = 0 ∨ outC a s C = 0
    · rw [if_pos ho]
      obtain ⟨e1, e2⟩ := all_inn a s R C hR hC h1 h2 ho
      simp only [leavesT]
      rw [leaves_none z _ _ ho, List.nil_append, e1, e2]
      exact leaves_trim o R C hR hC h1 h2
    rw [if_neg ho]
    obtain ⟨e1, e2, e3, e4⟩ := same_parts a s R C hR hC
    simp only [leavesT]
    rw [e1, e2, e3, e4, leaves_trim z _ _ p1 p2 (by omega) (by omega), leaves_trim o _ _ p3 p4 (by omega) (by omega)]
theorem tight_leaves : ∀ (t : T) (R C : Nat), 1 ≤ R → 1 ≤ C → Tight t R C → (leavesT t R C).length = ends t
  | .leaf _, R, C, h1, h2, _ => by simp only [leavesT]; rw [if_neg (by omega)]; rfl
  | .say a s z o, R, C, h1, h2, ht => by
    obtain ⟨⟨q1, q2, q3, q4, _⟩, hz, ho⟩ := ht
    simp only [leavesT, List.length_append, ends]
    rw [tight_leaves z _ _ q3 q4 hz, tight_leaves o _ _ q1 q2 ho]
/-- each end's rectangle lies within -/
theorem leaf_in : ∀ (t : T) (R C : Nat), R < 256 → C < 256 → ∀ p ∈ leavesT t R C, (1 ≤ p.1 ∧ p.1 < 256 ∧ 1 ≤ p.2.1 ∧ p.2.1 < 256) ∧ Sub p.1 R ∧ Sub p.2.1 C
  | .leaf b, R, C, hR, hC, p, hp => by
    simp only [leavesT] at hp
    by_cases h : R = 0 ∨ C = 0
    · rw [if_pos h] at hp; cases hp
    · rw [if_neg h] at hp
      have := List.mem_singleton.1 hp
      subst this
      exact ⟨⟨by show 1 ≤ R; omega, hR, by show 1 ≤ C; omega, hC⟩, Sub.refl _, Sub.refl _⟩
  | .say a s z o, R, C, hR, hC, p, hp => by
    obtain ⟨p1, p2, p3, p4⟩ := parts_lt a s hR hC
    have k1 : Sub (inR a s R) R := by cases a; exact Sub.refl _; exact Sub.meet_left _ (Sub.refl _)
    have k2 : Sub (inC a s C) C := by cases a; exact Sub.meet_left _ (Sub.refl _); exact Sub.refl _
    have k3 : Sub (outR a s R) R := by cases a; exact Sub.refl _; exact Sub.minus _ (Sub.refl _)
    have k4 : Sub (outC a s C) C := by cases a; exact Sub.minus _ (Sub.refl _); exact Sub.refl _
    simp only [leavesT, List.mem_append] at hp
    rcases hp with hp | hp
    · obtain ⟨g, g1, g2⟩ := leaf_in z _ _ p1 p2 p hp
      exact ⟨g, g1.trans k3, g2.trans k4⟩
    · obtain ⟨g, g1, g2⟩ := leaf_in o _ _ p3 p4 p hp
      exact ⟨g, g1.trans k1, g2.trans k2⟩
/-- nothing in common -/
def Off (p : Nat × Nat × Bool) (cr cc : Nat) : Prop := meetN p.1 cr = 0 ∨ meetN p.2.1 cc = 0
theorem apart_meet {p c r s : Nat} (hp : p < 256) (h1 : Sub p (minusN r s)) (h2 : Sub c (meetN r s)) : meetN p c = 0 := by
  refine at_eq (Nat.lt_of_le_of_lt (meet_le _ _ hp) hp) (by decide) fun i hi => ?_
  rw [at_meet, at_zero]
  have g1 := h1 i hi
  have g2 := h2 i hi
  rw [at_minus _ _ _ hi] at g1
  rw [at_meet] at g2
  cases x : at_ p i <;> cases y : at_ c i <;> simp only [Bool.and_false, Bool.and_true, Bool.false_and]
  have a1 := g1 x
  have a2 := g2 y
  rw [Bool.and_eq_true] at a1 a2
  rw [a2.2] at a1
  simp at a1
theorem cut_split (n : Nat) : ∀ (t : T) (R C : Nat), R < 256 → C < 256 → 1 ≤ R → 1 ≤ C → Tight t R C →
    ∃ A B, leavesT t R C = A ++ (leavesT (cutT n t R C).part (cutT n t R C).rows (cutT n t R C).cols ++ B) ∧ ∀ p, p ∈ A ∨ p ∈ B → Off p (cutT n t R C).rows (cutT n t R C).cols
  | .leaf _, R, C, _, _, _, _, _ => ⟨[], [], by simp [cutT], fun p hp => by simp at hp⟩
  | .say a s z o, R, C, hR, hC, h1, h2, ht => by
    obtain ⟨p1, p2, p3, p4⟩ := parts_lt a s hR hC
    obtain ⟨⟨q1, q2, q3, q4, _⟩, hz, ho⟩ := ht
    by_cases hb : 3 * (ends z + ends o) ≤ 2 * n
    · have e : cutT n (.say a s z o) R C = ⟨.say a s z o, R, C, .leaf false⟩ := by show (if _ then _ else _) = _; rw [if_pos hb]
      rw [e]
      exact ⟨[], [], by simp, fun p hp => by simp at hp⟩
    by_cases hm : ends z < ends o
    · have e : cutT n (.say a s z o) R C = ⟨(cutT n o (inR a s R) (inC a s C)).part, (cutT n o (inR a s R) (inC a s C)).rows, (cutT n o (inR a s R) (inC a s C)).cols, .say a s z (cutT n o (inR a s R) (inC a s C)).rest⟩ := by
        show (if _ then _ else _) = _; rw [if_neg hb, if_pos hm]
      rw [e]
      obtain ⟨A, B, hl, hp⟩ := cut_split n o _ _ p3 p4 q1 q2 ho
      obtain ⟨_, _, _, _, s1, s2, _, _⟩ := cut_rect n o _ _ p3 p4 q1 q2 ho
      refine ⟨leavesT z (outR a s R) (outC a s C) ++ A, B, ?_, ?_⟩
      · simp only [leavesT]
        rw [hl, List.append_assoc]
      · intro p hx
        simp only [List.mem_append] at hx
        rcases hx with (hx | hx) | hx
        · obtain ⟨g, g1, g2⟩ := leaf_in z _ _ p1 p2 p hx
          show Off p (cutT n o (inR a s R) (inC a s C)).rows (cutT n o (inR a s R) (inC a s C)).cols
          cases a
          · exact .inr (apart_meet g.2.2.2 g2 s2)
          · exact .inl (apart_meet g.2.1 g1 s1)
        · exact hp p (.inl hx)
        · exact hp p (.inr hx)
    · have e : cutT n (.say a s z o) R C = ⟨(cutT n z (outR a s R) (outC a s C)).part, (cutT n z (outR a s R) (outC a s C)).rows, (cutT n z (outR a s R) (outC a s C)).cols, .say a s (cutT n z (outR a s R) (outC a s C)).rest o⟩ := by
        show (if _ then _ else _) = _; rw [if_neg hb, if_neg hm]
      rw [e]
      obtain ⟨A, B, hl, hp⟩ := cut_split n z _ _ p1 p2 q3 q4 hz
      obtain ⟨_, _, _, _, s1, s2, _, _⟩ := cut_rect n z _ _ p1 p2 q3 q4 hz
      refine ⟨A, B ++ leavesT o (inR a s R) (inC a s C), ?_, ?_⟩
      · simp only [leavesT]
        rw [hl, List.append_assoc, List.append_assoc]
      · intro p hx
        simp only [List.mem_append] at hx
        rcases hx with hx | hx | hx
        · exact hp p (.inl hx)
        · exact hp p (.inr hx)
        · obtain ⟨g, g1, g2⟩ := leaf_in o _ _ p3 p4 p hx
          show Off p (cutT n z (outR a s R) (outC a s C)).rows (cutT n z (outR a s R) (outC a s C)).cols
          have sw : ∀ {p c r s : Nat}, p < 256 → Sub p (meetN r s) → Sub c (minusN r s) → meetN p c = 0 := by
            intro p c r s hp h1 h2
            refine at_eq (Nat.lt_of_le_of_lt (meet_le _ _ hp) hp) (by decide) fun i hi => ?_
            rw [at_meet, at_zero]
            have g1 := h1 i hi
            have g2 := h2 i hi
            rw [at_minus _ _ _ hi] at g2
            rw [at_meet] at g1
            cases x : at_ p i <;> cases y : at_ c i <;> simp only [Bool.and_false, Bool.and_true, Bool.false_and]
            have a1 := g1 x
            have a2 := g2 y
            rw [Bool.and_eq_true] at a1 a2
            rw [a1.2] at a2
            simp at a2
          cases a
          · exact .inr (sw g.2.2.2 g2 s2)
          · exact .inl (sw g.2.1 g1 s1)

/-- whether an end has something in common with a rectangle -/
def hits (cr cc : Nat) (p : Nat × Nat × Bool) : Bool := !(meetN p.1 cr == 0) && !(meetN p.2.1 cc == 0)
theorem off_hits {p : Nat × Nat × Bool} {cr cc : Nat} (h : Off p cr cc) : hits cr cc p = false := by
  unfold hits
  rcases h with h | h <;> rw [h] <;> simp
/-- what is known of the ends and the rectangle of the part: each lies within or has nothing in common, and how many lie within -/
theorem heavy (t : T) (R C : Nat) (hR : R < 256) (hC : C < 256) (h1 : 1 ≤ R) (h2 : 1 ≤ C) (he : 2 ≤ ends (trimT t R C)) :
    (∀ p ∈ leavesT t R C, hits (cutT (ends (trimT t R C)) (trimT t R C) R C).rows (cutT (ends (trimT t R C)) (trimT t R C) R C).cols p = true →
      meetN p.1 (cutT (ends (trimT t R C)) (trimT t R C) R C).rows = p.1 ∧ meetN p.2.1 (cutT (ends (trimT t R C)) (trimT t R C) R C).cols = p.2.1) ∧
    3 * (leavesT t R C).countP (hits (cutT (ends (trimT t R C)) (trimT t R C) R C).rows (cutT (ends (trimT t R C)) (trimT t R C) R C).cols) ≤ 2 * (leavesT t R C).length ∧
    (leavesT t R C).length ≤ 3 * (leavesT t R C).countP (hits (cutT (ends (trimT t R C)) (trimT t R C) R C).rows (cutT (ends (trimT t R C)) (trimT t R C) R C).cols) := by
  have hT := trim_tight t R C hR hC h1 h2
  rw [← leaves_trim t R C hR hC h1 h2]
  generalize trimT t R C = u at *
  obtain ⟨A, B, hl, hp⟩ := cut_split (ends u) u R C hR hC h1 h2 hT
  obtain ⟨g1, g2, g3, g4, g5, g6, g7, g8⟩ := cut_rect (ends u) u R C hR hC h1 h2 hT
  have hm := cut_most (ends u) he u R C
  have hs := cut_least (ends u) u R C (by omega)
  have hlen := tight_leaves u R C h1 h2 hT
  rw [hlen, hl]
  generalize cutT (ends u) u R C = c at *
  have hin : ∀ p ∈ leavesT c.part c.rows c.cols, meetN p.1 c.rows = p.1 ∧ meetN p.2.1 c.cols = p.2.1 ∧ hits c.rows c.cols p = true := by
    intro p hx
    obtain ⟨⟨x1, x2, x3, x4⟩, x5, x6⟩ := leaf_in c.part c.rows c.cols g1 g2 p hx
    have e1 := meet_self x2 x5
    have e2 := meet_self x4 x6
    refine ⟨e1, e2, ?_⟩
    unfold hits
    rw [e1, e2, beq_false_of_ne (by omega), beq_false_of_ne (by omega)]
    rfl
  have hcount : (A ++ (leavesT c.part c.rows c.cols ++ B)).countP (hits c.rows c.cols) = ends c.part := by
    rw [List.countP_append, List.countP_append]
    have z1 : A.countP (hits c.rows c.cols) = 0 := List.countP_eq_zero.2 fun p hx => by rw [off_hits (hp p (.inl hx))]; simp
    have z2 : B.countP (hits c.rows c.cols) = 0 := List.countP_eq_zero.2 fun p hx => by rw [off_hits (hp p (.inr hx))]; simp
    have z3 : (leavesT c.part c.rows c.cols).countP (hits c.rows c.cols) = (leavesT c.part c.rows c.cols).length := List.countP_eq_length.2 fun p hx => (hin p hx).2.2
    rw [z1, z2, z3, tight_leaves c.part _ _ g3 g4 g7]
    omega
  rw [hcount]
  refine ⟨?_, hm, by omega⟩
  intro p hx hh
  simp only [List.mem_append] at hx
  rcases hx with hx | hx | hx
  · rw [off_hits (hp p (.inl hx))] at hh; cases hh
  · exact ⟨(hin p hx).1, (hin p hx).2.1⟩
  · rw [off_hits (hp p (.inr hx))] at hh; cases hh
end Go.Proofs.YtbbgibbpeibhiaaGreatDoor.HvM

