/-
  Texts of one seat, joined: DrawT, KeptR, FreeQ.
-/
import Derived.Test.YtemmagkkigdhjaaGreatDoorJn2
import Derived.Test.YtemmagkkigdhjaaGreatDoorJn5
import Derived.Test.YtemmagkkigdhjaaGreatDoorJn4
/-
  The drawing functions: an element of a list of strings; a rectangle of a valid matrix.
-/
namespace Go.Proofs.YtemmagkkigdhjaaGreatDoor.DrawT
open Go.RowKit Go.Proofs.YtemmagkkigdhjaaGreatDoor.Plain Go.Proofs.YtemmagkkigdhjaaGreatDoor.Rd Go.Proofs.YtemmagkkigdhjaaGreatDoor.Rd2 Go.Proofs.YtemmagkkigdhjaaGreatDoor.Rd3
set_option linter.unusedVariables false

theorem shift_le (n : Nat) (h : n ≤ 8) : wrap64 (wrap64 (2 ^ n) - 1) ≤ 255 := by
  have h2 : ∀ k : Fin 9, wrap64 (wrap64 (2 ^ k.val) - 1) ≤ 255 := by decide +kernel
  exact h2 ⟨n, by omega⟩
end Go.Proofs.YtemmagkkigdhjaaGreatDoor.DrawT

/-
  Blocks that are kept while a reader of a drawing function is read; the name of an operation.
-/
namespace Go.Proofs.YtemmagkkigdhjaaGreatDoor.KeptR
open Go.RowKit Go.Proofs.YtemmagkkigdhjaaGreatDoor.Plain Go.Proofs.YtemmagkkigdhjaaGreatDoor.Rd Go.Proofs.YtemmagkkigdhjaaGreatDoor.Rd2 Go.Proofs.YtemmagkkigdhjaaGreatDoor.Rd3 Go.Proofs.YtemmagkkigdhjaaGreatDoor.Rd5 Go.Proofs.YtemmagkkigdhjaaGreatDoor.DrawT
set_option linter.unusedVariables false

/-- these blocks, none of which is the reader g, lie so; what lay before w lies as it lay, and g was made later -/
structure Kr (g : Nat) (w wr : World) (l : List (Nat × Obj)) : Prop where
  all : ∀ p ∈ l, p.1 ≠ g ∧ wr.heap[p.1]? = some p.2
  below : Below w.heap.size w wr
  hg : w.heap.size ≤ g
theorem Kr.later {g : Nat} {w wr w2 : World} {l : List (Nat × Obj)} (h : Kr g w wr l) (ha : Apt g wr w2) : Kr g w w2 l :=
  ⟨fun p hp => ⟨(h.all p hp).1, (ha.block _ (Array.getElem?_eq_some_iff.1 (h.all p hp).2).1 (h.all p hp).1).trans (h.all p hp).2⟩, ha.below h.below h.hg, h.hg⟩
theorem Kr.on {g : Nat} {w wr w2 : World} {l : List (Nat × Obj)} (h : Kr g w wr l) (hb : Below wr.heap.size wr w2) : Kr g w w2 l := h.later (Apt.of_below hb)
theorem Kr.drew {g : Nat} {w wr : World} {l : List (Nat × Obj)} (h : Kr g w wr l) : Kr g w wr.drew l := h.on (drawn_at wr 1)
theorem Kr.put {g : Nat} {w wr : World} {l : List (Nat × Obj)} (h : Kr g w wr l) (o : Obj) {b : Nat} (hb : wr.heap.size = b) (hgl : g < wr.heap.size) : Kr g w (wr.alloc o) ((b, o) :: l) := by
  have h2 := h.on ((Below.refl wr.heap.size wr).alloc (Nat.le_refl _) o)
  refine ⟨fun p hp => ?_, h2.below, h.hg⟩
  rcases List.mem_cons.1 hp with rfl | hp
  · subst hb
    exact ⟨by show wr.heap.size ≠ g; omega, heap_alloc_new wr o⟩
  · exact h2.all p hp
theorem Kr.at {g : Nat} {w wr : World} {l : List (Nat × Obj)} (h : Kr g w wr l) (i : Nat) {p : Nat × Obj} (hi : l[i]? = some p) : wr.heap[p.1]? = some p.2 := (h.all p (List.mem_of_getElem? hi)).2
/-- the first block's cell is stored -/
theorem Kr.set3 {g b : Nat} {w wr : World} {x y z v : Value} {T : TypeId} {l : List (Nat × Obj)} (h : Kr g w wr ((b, .cells #[x, y, z] T (0, 0)) :: l)) (hne : ∀ p ∈ l, p.1 ≠ b) (hb : w.heap.size ≤ b) :
    Kr g w (wr.setCell ⟨b, 2, none⟩ v) ((b, .cells #[x, y, v] T (0, 0)) :: l) := by
  refine ⟨fun p hp => ?_, h.below.setCell (by simpa using hb) _, h.hg⟩
  have hrow := h.all _ List.mem_cons_self
  rcases List.mem_cons.1 hp with rfl | hp
  · exact ⟨hrow.1, (heap_setCell_same _ _ _ _ _ _ hrow.2).trans (by simp)⟩
  · have h3 := h.all p (List.mem_cons_of_mem _ hp)
    exact ⟨h3.1, (heap_setCell_other _ _ _ _ (by have := hne p hp; simpa using this)).trans h3.2⟩

/-- the first block's three cells are stored -/
theorem Kr.sets {g b : Nat} {w wr : World} {x y z v0 v1 v2 : Value} {T : TypeId} {l : List (Nat × Obj)} (h : Kr g w wr ((b, .cells #[x, y, z] T (0, 0)) :: l)) (hne : ∀ p ∈ l, p.1 ≠ b) (hb : w.heap.size ≤ b) :
    Kr g w (((wr.setCell ⟨b, 0, none⟩ v0).setCell ⟨b, 1, none⟩ v1).setCell ⟨b, 2, none⟩ v2) ((b, .cells #[v0, v1, v2] T (0, 0)) :: l) := by
  have hrow := h.all _ List.mem_cons_self
  have l1 : (wr.setCell ⟨b, 0, none⟩ v0).heap[b]? = some (.cells #[v0, y, z] T (0, 0)) := (heap_setCell_same _ _ _ _ _ _ hrow.2).trans (by simp)
  have l2 : ((wr.setCell ⟨b, 0, none⟩ v0).setCell ⟨b, 1, none⟩ v1).heap[b]? = some (.cells #[v0, v1, z] T (0, 0)) := (heap_setCell_same _ _ _ _ _ _ l1).trans (by simp)
  have l3 : (((wr.setCell ⟨b, 0, none⟩ v0).setCell ⟨b, 1, none⟩ v1).setCell ⟨b, 2, none⟩ v2).heap[b]? = some (.cells #[v0, v1, v2] T (0, 0)) := (heap_setCell_same _ _ _ _ _ _ l2).trans (by simp)
  refine ⟨fun p hp => ?_, ((h.below.setCell (by simpa using hb) _).setCell (by simpa using hb) _).setCell (by simpa using hb) _, h.hg⟩
  rcases List.mem_cons.1 hp with rfl | hp
  · exact ⟨hrow.1, l3⟩
  · have h3 := h.all p (List.mem_cons_of_mem _ hp)
    have hn := hne p hp
    refine ⟨h3.1, ?_⟩
    rw [heap_setCell_other _ _ _ _ (by simpa using hn), heap_setCell_other _ _ _ _ (by simpa using hn), heap_setCell_other _ _ _ _ (by simpa using hn)]
    exact h3.2

theorem cells_str (w : World) (T : TypeId) (xs : List ByteArray) (j : Nat) (hj : j < xs.length) : (w.alloc (.cells (xs.map fun x : ByteArray => Value.string x).toArray T)).cell? ⟨w.heap.size, j, none⟩ = some (.string xs[j]) :=
  (cell_of_row _ _ j _ _ _ (heap_alloc_new w _)).trans (by simp [hj])
abbrev names : List ByteArray := [⟨#[97, 110, 100]⟩, ⟨#[111, 114]⟩, ⟨#[120, 111, 114]⟩, ⟨#[97, 110, 100]⟩, ⟨#[111, 114]⟩, ⟨#[120, 111, 114]⟩, ⟨#[97, 110, 100]⟩, ⟨#[]⟩, ⟨#[110, 111, 114]⟩]
theorem names_le (u : ByteArray) (h : u ∈ names) : u.size ≤ 3 := by
  simp only [names, List.mem_cons, List.not_mem_nil, or_false] at h
  rcases h with rfl | rfl | rfl | rfl | rfl | rfl | rfl | rfl | rfl <;> decide

end Go.Proofs.YtemmagkkigdhjaaGreatDoor.KeptR

/-
  The law at a region that draws its order, told by a family of worlds that is indexed by what has come up: each operation is walked once. (The return
  of a drawing function with several results: the family says what is stored, and that the reader still reads while nothing is.)
-/
namespace Go.Proofs.YtemmagkkigdhjaaGreatDoor.FreeQ
open Go Go.RowKit Go.Proofs.YtemmagkkigdhjaaGreatDoor.Free Go.Proofs.YtemmagkkigdhjaaGreatDoor.FreeL Go.Proofs.YtemmagkkigdhjaaGreatDoor.FreeD
set_option linter.unusedVariables false

section
variable {P : Program} {ops : Array Oper}
/-- THE LAW -/
theorem wp_region_family {id n : Nat} {a0 : Act} {w0 : World} {Q : Exit → Act → World → Prop} (R : Nat → Value → Prop) (T : (Nat → Bool) → World → Prop)
    (hm : P.follows .mixedOrders = true) (hB : freeB ops n = true) (hn : a0.tmps.size = n) (hT0 : T (fun _ => false) { w0 with drawn := w0.drawn + 1 })
    (hcon : ∀ (i : Nat) (o : Oper), ops[i]? = some o → ∀ (a : Act) (w : World) (l : Nat → Bool), T l w → l i = false → (∀ (j : Nat) (oj : Oper), ops[j]? = some oj → l j = true → ∀ e ∈ oj.after, Region.binds .any e = true → l e.on = true) → FactsV ops a0 R o a →
      o.wp P a w (fun a' w' => ∃ v, a' = a.put o.dst v ∧ R i v ∧ T (fun j => if j = i then true else l j) w') Q)
    (hend : ∀ (vs : Nat → Value) (w : World), T (fun i => decide (i < ops.size)) w → (∀ (i : Nat) (o : Oper), ops[i]? = some o → R i (vs i)) → Q .normal (fill ops.toList vs 0 a0) w) :
    (Code.region id ops true).wp P Q a0 w0 := by
  refine wp_region_freeL (Y := fun i v a w => R i v) (S := fun l w => T l w) hm hB hn hT0 ?_ ?_
  · intro i o ho listed a w hM hu hdp
    have hf : FactsV ops a0 R o a := by
      refine ⟨fun e he hb oj dj hoj hdj => ?_, fun k hk => ?_⟩
      · obtain ⟨v, hv, hvd⟩ := hM.new e.on oj hoj (hdp e he hb)
        rw [hvd dj hdj]
        exact hv
      · rw [hM.old k fun i o' ho' hd' => ?_]
        have := List.all_eq_true.1 hk o' (by simpa using Array.mem_of_getElem? ho')
        simp [hd'] at this
    refine Oper.wp_mono ?_ (hcon i o ho a w _ hM.world hu hM.closed hf)
    rintro a' w' ⟨v, rfl, hRv, hT'⟩
    exact ⟨v, rfl, hRv, hT', fun j u _ _ hY => hY⟩
  · intro vs w hS hall
    exact hend vs w hS hall
end
end Go.Proofs.YtemmagkkigdhjaaGreatDoor.FreeQ

