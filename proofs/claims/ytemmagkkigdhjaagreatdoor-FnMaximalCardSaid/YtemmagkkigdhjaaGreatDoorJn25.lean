/-
  Texts of one seat, joined: Rects, Marks, MaxC.
-/
import Derived.Test.YtemmagkkigdhjaaGreatDoorJn9
import Derived.Test.YtemmagkkigdhjaaGreatDoorJn6
import Derived.Laws.MakeOwn
import Derived.Deep.MidRow
import Derived.Test.YtemmagkkigdhjaaGreatDoorJn19
import Derived.Test.YtemmagkkigdhjaaGreatDoorJn22
import Derived.Test.YtemmagkkigdhjaaGreatDoorJn24
import Derived.Test.YtemmagkkigdhjaaGreatDoorJn20
/-
  A slice of rectangles as a value; contracts of the laws' own small functions on it: szRectS, toRectS, eqRectS.
-/
namespace Go.Proofs.YtemmagkkigdhjaaGreatDoor.Rects
open Go.RowKit Go.Proofs.YtemmagkkigdhjaaGreatDoor.Plain Go.Proofs.YtemmagkkigdhjaaGreatDoor.Base Go.Proofs.YtemmagkkigdhjaaGreatDoor.Law Go.Proofs.YtemmagkkigdhjaaGreatDoor.Pat Go.Proofs.YtemmagkkigdhjaaGreatDoor.Rect Go.Proofs.YtemmagkkigdhjaaGreatDoor.FreeL Go.Proofs.YtemmagkkigdhjaaGreatDoor.Board
open Go.Proofs.YtemmagkkigdhjaaGreatDoor.Free (fill wp_value wp_enter wp_load_row freeB)
set_option linter.unusedVariables false

/-- v is a slice of these rectangles, in blocks that lie below B -/
def RV (w : World) (B : Nat) (v : Value) (xs : List (Int × Int)) : Prop :=
  xs.length ≤ 9223372036854775807 ∧ ((v = .slice none 0 0 ∧ xs = []) ∨ ∃ b off c, v = .slice (some ⟨b, off, none⟩) xs.length c ∧ b < B ∧
    ∀ j (hj : j < xs.length), w.cell? ⟨b, off + j * 2, none⟩ = some (.int .i64 xs[j].1) ∧ w.cell? ⟨b, off + j * 2 + 1, none⟩ = some (.int .i64 xs[j].2))
theorem RV.later {w w1 : World} {B : Nat} {v : Value} {xs : List (Int × Int)} (h : RV w B v xs) (hB : B ≤ w.heap.size) (hb : Below w.heap.size w w1) : RV w1 B v xs := by
  refine ⟨h.1, ?_⟩
  rcases h.2 with h2 | ⟨b, off, c, rfl, hlt, hc⟩
  · exact .inl h2
  · exact .inr ⟨b, off, c, rfl, hlt, fun j hj => ⟨(hb.cell (p := ⟨b, off + j * 2, none⟩) (by show b < _; omega)).trans (hc j hj).1, (hb.cell (p := ⟨b, off + j * 2 + 1, none⟩) (by show b < _; omega)).trans (hc j hj).2⟩⟩
theorem RV.mono {w : World} {B B' : Nat} {v : Value} {xs : List (Int × Int)} (h : RV w B v xs) (hB : B ≤ B') : RV w B' v xs := by
  refine ⟨h.1, ?_⟩
  rcases h.2 with h2 | ⟨b, off, c, rfl, hlt, hc⟩
  · exact .inl h2
  · exact .inr ⟨b, off, c, rfl, by omega, hc⟩
theorem RV.slice {w : World} {B : Nat} {v : Value} {xs : List (Int × Int)} (h : RV w B v xs) : ∃ p k, v = .slice p xs.length k := by
  rcases h.2 with ⟨rfl, rfl⟩ | ⟨b, off, c, rfl, _, _⟩
  · exact ⟨none, 0, rfl⟩
  · exact ⟨_, _, rfl⟩

theorem rinfos : (Tryz.prog.info? 31).map (fun i => (i.zero, i.size, i.bytes)) = some (some (.agg #[.int .i64 0, .int .i64 0]), 2, 16) := by kernel_rfl

/-- the copy so far -/
structure Out (w wr : World) (b : Nat) (xs : List (Int × Int)) (k : Nat) : Prop where
  cells : ∀ j (hj : j < xs.length), j < k → wr.cell? ⟨b, j * 2, none⟩ = some (.int .i64 xs[j].1) ∧ wr.cell? ⟨b, j * 2 + 1, none⟩ = some (.int .i64 xs[j].2)
  there : wr.there b 0 (xs.length * 2)
  below : Below w.heap.size w wr
  lo : w.heap.size ≤ b
  hi : b < wr.heap.size
theorem Out.later {w wr w2 : World} {b : Nat} {xs : List (Int × Int)} {k : Nat} (h : Out w wr b xs k) (hb : Below wr.heap.size wr w2) : Out w w2 b xs k :=
  ⟨fun j hj hk => ⟨(hb.cell (p := ⟨b, j * 2, none⟩) h.hi).trans (h.cells j hj hk).1, (hb.cell (p := ⟨b, j * 2 + 1, none⟩) h.hi).trans (h.cells j hj hk).2⟩,
   fun j hj => ⟨by rw [hb.cell (p := ⟨b, 0 + j, none⟩) h.hi]; exact (h.there j hj).1, by rw [hb.frozen (p := ⟨b, 0 + j, none⟩) h.hi]; exact (h.there j hj).2⟩,
   rstep h.below hb, h.lo, Nat.lt_of_lt_of_le h.hi hb.size⟩
theorem Out.place {w wr : World} {b : Nat} {xs : List (Int × Int)} {k : Nat} (h : Out w wr b xs k) (hk : k < xs.length) :
    (∃ u, wr.cell? ⟨b, k * 2, none⟩ = some u) ∧ (∃ u, wr.cell? ⟨b, k * 2 + 1, none⟩ = some u) ∧ wr.frozen? ⟨b, k * 2, none⟩ = false ∧ wr.frozen? ⟨b, k * 2 + 1, none⟩ = false := by
  have h0 := h.there (k * 2) (by omega)
  have h1 := h.there (k * 2 + 1) (by omega)
  rw [Nat.zero_add] at h0 h1
  exact ⟨Option.isSome_iff_exists.1 h0.1, Option.isSome_iff_exists.1 h1.1, h0.2, h1.2⟩
theorem Out.set_ {w wr : World} {b : Nat} {xs : List (Int × Int)} {k : Nat} (h : Out w wr b xs k) (hk : k < xs.length) (x y : Int) (hx : xs[k].1 = x) (hy : xs[k].2 = y) :
    Out w ((wr.setCell ⟨b, k * 2, none⟩ (.int .i64 x)).setCell ⟨b, k * 2 + 1, none⟩ (.int .i64 y)) b xs (k + 1) := by
  obtain ⟨⟨u0, h0⟩, ⟨u1, h1⟩, _, _⟩ := h.place hk
  refine ⟨fun j hj hjk => ?_, fun j hj => ?_, (h.below.setCell (p := ⟨b, k * 2, none⟩) h.lo _).setCell (p := ⟨b, k * 2 + 1, none⟩) h.lo _, h.lo, by simpa using h.hi⟩
  · by_cases e : j = k
    · subst e
      refine ⟨?_, ?_⟩
      · rw [World.cell?_setCell_other _ _ _ _ (by simp), World.cell?_setCell_same _ _ _ h0, hx]
      · rw [World.cell?_setCell_same _ _ _ (u := u1) (by rw [World.cell?_setCell_other _ _ _ _ (by simp)]; exact h1), hy]
    · obtain ⟨c0, c1⟩ := h.cells j hj (by omega)
      refine ⟨?_, ?_⟩
      · rw [World.cell?_setCell_other _ _ _ _ (by simp <;> omega), World.cell?_setCell_other _ _ _ _ (by simp <;> omega)]
        exact c0
      · rw [World.cell?_setCell_other _ _ _ _ (by simp <;> omega), World.cell?_setCell_other _ _ _ _ (by simp <;> omega)]
        exact c1
  · have ht : (wr.setCells b (k * 2) [.int .i64 x, .int .i64 y]).there b 0 (xs.length * 2) := World.there_setCells h.there b (k * 2) _
    exact ht j hj

/-- a row of cells read as a rectangle -/
theorem range_two {w : World} {b o : Nat} {x y : Value} (h0 : w.cell? ⟨b, o, none⟩ = some x) (h1 : w.cell? ⟨b, o + 1, none⟩ = some y) : w.rangeAt b o [x, y] := fun j v hv => by
  match j, hv with
  | 0, hv => obtain rfl := Option.some.inj hv; exact h0
  | 1, hv => obtain rfl := Option.some.inj hv; exact h1
  | j + 2, hv => simp at hv
theorem range_on {w w1 : World} {b o : Nat} {cs : List Value} (h : w.rangeAt b o cs) (hb : Below w.heap.size w w1) : w1.rangeAt b o cs := fun j v hv => (hb.cell (p := ⟨b, o + j, none⟩) (World.block_lt_of_cell? w _ (h j v hv))).trans (h j v hv)
theorem rinfo2 : (Tryz.prog.info? 31).map (·.size) = some 2 := by kernel_rfl

end Go.Proofs.YtemmagkkigdhjaaGreatDoor.Rects

/-
  Contracts of the laws' own markRectS and heldRectS over a slice of a call's own.
-/
namespace Go.Proofs.YtemmagkkigdhjaaGreatDoor.Marks
open Go.RowKit Go.Proofs.YtemmagkkigdhjaaGreatDoor.Plain Go.Proofs.YtemmagkkigdhjaaGreatDoor.Base Go.Proofs.YtemmagkkigdhjaaGreatDoor.Law Go.Proofs.YtemmagkkigdhjaaGreatDoor.Pat Go.Proofs.YtemmagkkigdhjaaGreatDoor.Rect Go.Proofs.YtemmagkkigdhjaaGreatDoor.Rects
open Go.Proofs.YtemmagkkigdhjaaGreatDoor.KeysI (flat)
open Go.Proofs.YtemmagkkigdhjaaGreatDoor.SortR (flat_get flat_length)
set_option linter.unusedVariables false

/-- the marks -/
def nums (n : Nat) : List (Int × Int) := (List.range n).map fun j => (((1 + 2 * j : Nat) : Int), ((2 + 2 * j : Nat) : Int))
theorem nums_len (n : Nat) : (nums n).length = n := by simp [nums]
theorem nums_get (n j : Nat) (h : j < (nums n).length) : (nums n)[j] = (((1 + 2 * j : Nat) : Int), ((2 + 2 * j : Nat) : Int)) := by simp [nums]

/-- a slice of the call's own is a slice of these rectangles -/
theorem rv_own {w : World} {B : Nat} {v : Value} {xs : List (Int × Int)} (h : w.ownsRow B 31 2 v xs.length (flat xs)) (hl : xs.length ≤ 1000) : RV w w.heap.size v xs := by
  refine ⟨by omega, ?_⟩
  rcases h.2 with ⟨rfl, h0⟩ | ⟨g, cap, cur, rfl, hg, hheap, hn, hcap, hsz, htake⟩
  · exact .inl ⟨rfl, List.length_eq_zero_iff.1 h0⟩
  · refine .inr ⟨g, 0, cap, rfl, (Array.getElem?_eq_some_iff.1 hheap).1, fun j hj => ?_⟩
    have key : ∀ t, t < xs.length * 2 → w.cell? ⟨g, t, none⟩ = (flat xs)[t]? := by
      intro t ht
      rw [← htake, List.getElem?_take_of_lt ht, Array.getElem?_toList]
      simp [World.cell?, hheap]
    have h1 := key (j * 2) (by omega)
    have h2 := key (j * 2 + 1) (by omega)
    rw [flat_get _ _ (by omega)] at h1 h2
    have e1 : j * 2 / 2 = j := by omega
    have e2 : j * 2 % 2 = 0 := by omega
    have e3 : (j * 2 + 1) / 2 = j := by omega
    have e4 : (j * 2 + 1) % 2 = 1 := by omega
    rw [e1, e2, getElem!_pos xs j hj] at h1
    rw [e3, e4, getElem!_pos xs j hj] at h2
    exact ⟨by rw [Nat.zero_add]; exact h1, by rw [Nat.zero_add]; exact h2⟩

end Go.Proofs.YtemmagkkigdhjaaGreatDoor.Marks

/-
  MaximalRects: both find one list of rectangles; the areas; the first with most entries.
-/
namespace Go.Proofs.YtemmagkkigdhjaaGreatDoor.MaxC
open Go.RowKit Go.Proofs.YtemmagkkigdhjaaGreatDoor.Plain Go.Proofs.YtemmagkkigdhjaaGreatDoor.Base Go.Proofs.YtemmagkkigdhjaaGreatDoor.Valid Go.Proofs.YtemmagkkigdhjaaGreatDoor.Law Go.Proofs.YtemmagkkigdhjaaGreatDoor.GridPlain Go.Proofs.YtemmagkkigdhjaaGreatDoor.Grid Go.Proofs.YtemmagkkigdhjaaGreatDoor.Entry Go.Proofs.YtemmagkkigdhjaaGreatDoor.Pat Go.Proofs.YtemmagkkigdhjaaGreatDoor.Rect Go.Proofs.YtemmagkkigdhjaaGreatDoor.Patch Go.Proofs.YtemmagkkigdhjaaGreatDoor.Board Go.Proofs.YtemmagkkigdhjaaGreatDoor.BoardM Go.Proofs.YtemmagkkigdhjaaGreatDoor.RValid Go.Proofs.YtemmagkkigdhjaaGreatDoor.MaxM Go.Proofs.YtemmagkkigdhjaaGreatDoor.Area
open Go.Proofs.YtemmagkkigdhjaaGreatDoor.KeysI (flat)
set_option linter.unusedVariables false

/-- both find one list of rectangles -/
theorem both2 (r c : Int) (s : ByteArray) (hs : s.size ≤ maxLen) (bit : Int) : ∃ ts : List (Int × Int), ts.length ≤ 1000 ∧ (∀ p ∈ ts, someB p.1 p.2 = true) ∧
    (∀ w, Calls Tryz.prog 6 #[mat r c s, .int .i64 bit] w fun e w' => ∃ v, e = .returned v ∧ w'.ownsRow w.heap.size 31 2 v ts.length (flat ts) ∧ Below w.heap.size w w') ∧
    (∀ w, Calls Tryz.prog 5 #[mat r c s, .int .i64 bit] w fun e w' => ∃ v, e = .returned v ∧ w'.ownsRow w.heap.size 31 2 v ts.length (flat ts) ∧ Below w.heap.size w w') := by
  by_cases hbit : bit = 0 ∨ bit = 1
  · obtain ⟨b, rfl⟩ : ∃ b : Bool, bit = bitI b := by
      rcases hbit with rfl | rfl
      · exact ⟨false, rfl⟩
      · exact ⟨true, rfl⟩
    by_cases hv : validB r c s = true
    · obtain ⟨R, C, E, rfl, rfl, h1, h2, h3, h4, rfl⟩ := valid_form hv
      have hbd := fun W => board_yes R C E h1 h2 h3 h4 hs hv W
      have z64 := pat64 (onB (fun x y => !E x y) R C) (onB_lt _ R C h4)
      have o64 := pat64 (onB E R C) (onB_lt _ R C h4)
      have hl := mx_len E b R C (2 ^ R - 1)
      have h5 := Nat.pow_le_pow_right (n := 2) (by decide) h2
      refine ⟨mx E b R C (2 ^ R - 1), by omega, fun p hp => (someB_iff _ _).2 ?_, fun w => MaxS.spec_yes E R C h1 h2 h3 h4 hs hv b w, fun w => ?_⟩
      · have := mx_wf E b R C _ h4 p hp
        have hp1 := Nat.one_le_two_pow (n := R)
        omega
      · cases b
        · exact MaxB.impl_one E (fun x y => !E x y) false (fun x y => by cases E x y <;> rfl) R C h2 h4 _ _ z64 o64 (.inl ⟨rfl, rfl⟩) R C _ hbd w
        · exact MaxB.impl_one E E true (fun x y => by cases E x y <;> rfl) R C h2 h4 _ _ z64 o64 (.inr ⟨rfl, rfl⟩) R C _ hbd w
    · have hv' : validB r c s = false := by simpa using hv
      have hbn := fun W => board_no r c s hs hv' W
      have z64 := pat64 (onB (fun _ _ => true) 0 0) (onB_lt _ 0 0 (by omega))
      have o64 := pat64 (onB (fun _ _ => false) 0 0) (onB_lt _ 0 0 (by omega))
      refine ⟨[], by simp, fun p hp => (by cases hp), fun w => MaxS.spec_no r c s hs _ false hv' (.inl rfl) w, fun w => ?_⟩
      cases b
      · exact MaxB.impl_one (fun _ _ => false) (fun _ _ => true) false (fun x y => rfl) 0 0 (by omega) (by omega) _ _ z64 o64 (.inl ⟨rfl, rfl⟩) r c s hbn w
      · exact MaxB.impl_one (fun _ _ => false) (fun _ _ => false) true (fun x y => rfl) 0 0 (by omega) (by omega) _ _ z64 o64 (.inr ⟨rfl, rfl⟩) r c s hbn w
  · have h0 : bit ≠ 0 := fun e => hbit (.inl e)
    have h1 : bit ≠ 1 := fun e => hbit (.inr e)
    obtain ⟨b, hb⟩ : ∃ b, validB r c s = b := ⟨_, rfl⟩
    exact ⟨[], by simp, fun p hp => (by cases hp), fun w => MaxS.spec_no r c s hs bit b hb (.inr ⟨h0, h1⟩) w, fun w => MaxB.impl_no_bit r c s bit h0 h1 w⟩

/-- the area -/
def ar (p : Int × Int) : Int := if someB p.1 p.2 then ((pop8 p.1.toNat * pop8 p.2.toNat : Nat) : Int) else -1
theorem ar_zero : ar (0, 0) = -1 := rfl
theorem ar_pos (p : Int × Int) (h : someB p.1 p.2 = true) : 0 ≤ ar p := by
  unfold ar
  rw [if_pos h]
  exact Int.natCast_nonneg _
theorem spec_ar (p : Int × Int) (w : World) : Calls Tryz.prog 37 #[rect p.1 p.2] w fun e w' => e = .returned (.int .i64 (ar p)) ∧ Below w.heap.size w w' := by
  obtain ⟨r, c⟩ := p
  unfold ar
  by_cases h : someB r c = true
  · have hh := (someB_iff r c).1 h
    rw [if_pos h]
    obtain ⟨R, rfl⟩ := Int.eq_ofNat_of_zero_le (show 0 ≤ r by omega)
    obtain ⟨C, rfl⟩ := Int.eq_ofNat_of_zero_le (show 0 ≤ c by omega)
    exact spec_area R C (by omega) (by omega) (by omega) (by omega) w
  · rw [if_neg h]
    exact spec_area_no r c (by simpa using h) w

/-- the first of the first k with most entries -/
def bestTo (ts : List (Int × Int)) : Nat → Int × Int
  | 0 => (0, 0)
  | k + 1 => if ar (bestTo ts k) < ar ts[k]! then ts[k]! else bestTo ts k
theorem best_some (ts : List (Int × Int)) (h : ∀ p ∈ ts, someB p.1 p.2 = true) : ∀ k, 1 ≤ k → k ≤ ts.length → someB (bestTo ts k).1 (bestTo ts k).2 = true
  | 0, h1, _ => absurd h1 (by omega)
  | k + 1, _, hk => by
    have hm : someB ts[k]!.1 ts[k]!.2 = true := h _ (by rw [getElem!_pos ts k (by omega)]; exact List.getElem_mem _)
    rw [bestTo]
    by_cases hc : ar (bestTo ts k) < ar ts[k]!
    · rw [if_pos hc]; exact hm
    · rw [if_neg hc]
      cases k with
      | zero =>
        exfalso
        apply hc
        have := ar_pos _ hm
        rw [show bestTo ts 0 = (0, 0) from rfl, ar_zero]
        omega
      | succ k => exact best_some ts h (k + 1) (by omega) (by omega)
end Go.Proofs.YtemmagkkigdhjaaGreatDoor.MaxC

