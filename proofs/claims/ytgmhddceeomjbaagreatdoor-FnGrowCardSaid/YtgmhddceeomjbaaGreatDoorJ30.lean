/-
  Texts of one seat, joined: Kept, Largest.
-/
import Derived.Test.YtgmhddceeomjbaaGreatDoorJ3
import Derived.Test.YtgmhddceeomjbaaGreatDoorJ5
import Derived.Deep.Quiet
import Derived.Deep.WholeRow
import Derived.Test.YtgmhddceeomjbaaGreatDoorJ29
/-
  Blocks that are kept while calls only make memory; a drawn region walked once in the class of the worlds that keep them.
-/
namespace Go.Proofs.YtgmhddceeomjbaaGreatDoor.Kept
open Go.RowKit Go.Proofs.YtgmhddceeomjbaaGreatDoor.Plain Go.Proofs.YtgmhddceeomjbaaGreatDoor.Rd
set_option linter.unusedVariables false

/-- these blocks lie so, and what lay before w lies as it lay -/
structure Kp (w wr : World) (l : List (Nat × Obj)) : Prop where
  all : ∀ p ∈ l, wr.heap[p.1]? = some p.2
  below : Below w.heap.size w wr
theorem kp_step {B : Nat} {w w1 w2 : World} (h : Below B w w1) (hB : B ≤ w1.heap.size) (h2 : Below w1.heap.size w1 w2) : Below B w w2 := h.trans (h2.mono hB)
theorem Kp.nil (w : World) : Kp w w [] := ⟨fun p hp => (by cases hp), Below.refl _ _⟩
theorem Kp.later {w wr w2 : World} {l : List (Nat × Obj)} (h : Kp w wr l) (hb : Below wr.heap.size wr w2) : Kp w w2 l :=
  ⟨fun p hp => (hb.block _ (Array.getElem?_eq_some_iff.1 (h.all p hp)).1).trans (h.all p hp), kp_step h.below h.below.size hb⟩
theorem Kp.drew {w wr : World} {l : List (Nat × Obj)} (h : Kp w wr l) : Kp w { wr with drawn := wr.drawn + 1 } l := ⟨h.all, ⟨h.below.os, h.below.tape, h.below.output, h.below.size, h.below.block⟩⟩
theorem Kp.put {w wr : World} {l : List (Nat × Obj)} (h : Kp w wr l) (o : Obj) {b : Nat} (hb : wr.heap.size = b) : Kp w (wr.alloc o) ((b, o) :: l) := by
  have h2 := h.later ((Below.refl wr.heap.size wr).alloc (Nat.le_refl _) o)
  refine ⟨fun p hp => ?_, h2.below⟩
  rcases List.mem_cons.1 hp with rfl | hp
  · subst hb
    exact heap_alloc_new wr o
  · exact h2.all p hp
theorem Kp.at {w wr : World} {l : List (Nat × Obj)} (h : Kp w wr l) (i : Nat) {p : Nat × Obj} (hi : l[i]? = some p) : wr.heap[p.1]? = some p.2 := h.all p (List.mem_of_getElem? hi)
theorem Kp.sub {w wr : World} {l m : List (Nat × Obj)} (h : Kp w wr l) (hs : ∀ p ∈ m, p ∈ l) : Kp w wr m := ⟨fun p hp => h.all p (hs p hp), h.below⟩

section
variable {P : Program} {ops : Array Oper} {C : World → Prop}
theorem quiet_gen {Q : Act → Prop} {a : Act} {o : Oper} {rest : List Oper} (hw : Region.wanted o (yielded ops a.tmps) = true) (v : Value) (h : ∀ w, C w → o.quietAt P a C w v) (hn : wpQuiet P ops C Q rest (a.put o.dst v)) :
    wpQuiet P ops C Q (o :: rest) a := by
  refine wpQuiet_step fun K hK => ?_
  rw [if_pos hw]
  exact ⟨v, h, hK _ hn⟩
theorem quiet_skip {Q : Act → Prop} {a : Act} {o : Oper} {rest : List Oper} (hw : Region.wanted o (yielded ops a.tmps) = false) (hn : wpQuiet P ops C Q rest (a.put o.dst undef)) :
    wpQuiet P ops C Q (o :: rest) a := by
  refine wpQuiet_step fun K hK => ?_
  rw [if_neg (by rw [hw]; decide)]
  exact hK _ hn
/-- a value, in each world of the class -/
theorem quiet_value {a : Act} {o : Oper} {w : World} {v : Value} (h : (execOp a.eval o).run P w = .ok (.value v) w) : o.quietAt P a C w v := by
  unfold Oper.quietAt
  rw [h]
  exact ⟨rfl, rfl⟩
/-- a call, in each world of the class -/
theorem quiet_enter {a : Act} {o : Oper} {w : World} {v : Value} (f : FuncId) (args : Array Value) (h : (execOp a.eval o).run P w = .ok (.enter f args) w) (hc : Calls P f args w fun e w' => e = .returned v ∧ C w') : o.quietAt P a C w v := by
  unfold Oper.quietAt
  rw [h]
  exact ⟨rfl, hc⟩
end
/-- the walk of the order of the text, closed: a plain wpQuiet over a list that is written out unfolds by itself where a guard skips operations -/
structure WQ (P : Program) (ops : Array Oper) (C : World → Prop) (Q : Act → Prop) (l : List Oper) (a : Act) : Prop where
  out : wpQuiet P ops C Q l a
theorem wq_step {P : Program} {ops : Array Oper} {C : World → Prop} {Q : Act → Prop} {a : Act} {o : Oper} {rest : List Oper}
    (h : ∀ K : Act → Prop, (∀ a, WQ P ops C Q rest a → K a) → if Region.wanted o (yielded ops a.tmps) then o.quiet P a C K else K (a.put o.dst undef)) : WQ P ops C Q (o :: rest) a :=
  ⟨wpQuiet_step fun K hK => h K fun a h2 => hK a h2.out⟩
theorem wq_nil {P : Program} {ops : Array Oper} {C : World → Prop} {Q : Act → Prop} {a : Act} (h : Q a) : WQ P ops C Q [] a := ⟨wpQuiet_nil h⟩
/-- a region that draws its order and whose callees only make memory: one walk of the order of the text -/
theorem region_kept {P : Program} {C : World → Prop} {id : Nat} {Q : Exit → Act → World → Prop} {a : Act} {w : World} {l : List Oper} (hC : C { w with drawn := w.drawn + 1 }) (hm : P.follows .mixedOrders = true) (hB : Region.lexB .any l.toArray = true)
    (h : WQ P l.toArray C (fun a' => ∀ w', C w' → Q .normal a' w') l a) : (Code.region id l.toArray true).wp P Q a w :=
  wp_region_quiet (C := C) hm hB hC (by simpa using h.out)
/-- a callee that only makes memory, met in a world that keeps some blocks -/
theorem Kp.call {P : Program} {f : FuncId} {args : Array Value} {w wx : World} {v : Value} {l : List (Nat × Obj)} (hC : Kp w wx l) (h : Calls P f args wx fun e w' => e = .returned v ∧ Below wx.heap.size wx w') :
    Calls P f args wx fun e w' => e = .returned v ∧ Kp w w' l := h.mono fun e w' ⟨he, hb⟩ => ⟨he, hC.later hb⟩
end Go.Proofs.YtgmhddceeomjbaaGreatDoor.Kept

/-
  LargestRect, of the reference and of the program.
-/
namespace Go.Proofs.YtgmhddceeomjbaaGreatDoor.Largest
open Go.RowKit Go.Proofs.YtgmhddceeomjbaaGreatDoor.Plain Go.Proofs.YtgmhddceeomjbaaGreatDoor.Base Go.Proofs.YtgmhddceeomjbaaGreatDoor.Valid Go.Proofs.YtgmhddceeomjbaaGreatDoor.Law Go.Proofs.YtgmhddceeomjbaaGreatDoor.GridPlain Go.Proofs.YtgmhddceeomjbaaGreatDoor.Entry Go.Proofs.YtgmhddceeomjbaaGreatDoor.Pat Go.Proofs.YtgmhddceeomjbaaGreatDoor.Rect Go.Proofs.YtgmhddceeomjbaaGreatDoor.Board Go.Proofs.YtgmhddceeomjbaaGreatDoor.BoardM Go.Proofs.YtgmhddceeomjbaaGreatDoor.RValid Go.Proofs.YtgmhddceeomjbaaGreatDoor.Rects Go.Proofs.YtgmhddceeomjbaaGreatDoor.Marks Go.Proofs.YtgmhddceeomjbaaGreatDoor.MaxC Go.Proofs.YtgmhddceeomjbaaGreatDoor.AreaI
open Go.Proofs.YtgmhddceeomjbaaGreatDoor.KeysI (flat)
open Go.Proofs.YtgmhddceeomjbaaGreatDoor.Kept (region_kept wq_step wq_nil)
set_option linter.unusedVariables false

theorem drawn_at (w : World) (n : Nat) : Below w.heap.size w { w with drawn := w.drawn + n } := ⟨rfl, rfl, rfl, Nat.le_refl _, fun _ _ => rfl⟩
theorem cells2 {w : World} {g : Nat} {T : TypeId} {a b : Value} (h : w.heap[g]? = some (.cells #[a, b] T (0, 0))) : w.cell? ⟨g, 0, none⟩ = some a ∧ w.cell? ⟨g, 1, none⟩ = some b ∧ w.frozen? ⟨g, 0, none⟩ = false ∧ w.frozen? ⟨g, 1, none⟩ = false :=
  ⟨cell_of_row _ _ 0 _ _ _ h, cell_of_row _ _ 1 _ _ _ h, frozen_of_row _ _ 0 _ _ h, frozen_of_row _ _ 1 _ _ h⟩
theorem impl_ar (p : Int × Int) (w : World) : Calls Tryz.prog 26 #[rect p.1 p.2] w fun e w' => e = .returned (.int .i64 (ar p)) ∧ Below w.heap.size w w' := by
  obtain ⟨r, c⟩ := p
  unfold ar
  by_cases h : someB r c = true
  · have hh := (someB_iff r c).1 h
    rw [if_pos h]
    obtain ⟨R, rfl⟩ := Int.eq_ofNat_of_zero_le (show 0 ≤ r by omega)
    obtain ⟨C, rfl⟩ := Int.eq_ofNat_of_zero_le (show 0 ≤ c by omega)
    exact impl_area R C (by omega) (by omega) (by omega) (by omega) w
  · rw [if_neg h]
    exact impl_area_no r c (by simpa using h) w

/-- the best one's block; the list lies as it lay -/
structure LI (W1 wr : World) (x y : Int) : Prop where
  best : wr.heap[W1.heap.size]? = some (.cells #[.int .i64 x, .int .i64 y] 34 (0, 0))
  below : Below W1.heap.size W1 wr
theorem LI.later {W1 wr w2 : World} {x y : Int} (h : LI W1 wr x y) (hb : Below wr.heap.size wr w2) : LI W1 w2 x y :=
  ⟨(hb.block _ (Array.getElem?_eq_some_iff.1 h.best).1).trans h.best, rstep h.below hb⟩
theorem LI.put {W1 wr : World} {x y : Int} (h : LI W1 wr x y) (x2 y2 : Int) : LI W1 ((wr.setCell ⟨W1.heap.size, 0, none⟩ (.int .i64 x2)).setCell ⟨W1.heap.size, 1, none⟩ (.int .i64 y2)) x2 y2 := by
  refine ⟨?_, (h.below.setCell (by simp) _).setCell (by simp) _⟩
  have l1 : (wr.setCell ⟨W1.heap.size, 0, none⟩ (.int .i64 x2)).heap[W1.heap.size]? = some (.cells #[.int .i64 x2, .int .i64 y] 34 (0, 0)) := (heap_setCell_same _ _ _ _ _ _ h.best).trans (by simp)
  generalize wr.setCell ⟨W1.heap.size, 0, none⟩ (.int .i64 x2) = w2 at *
  exact (heap_setCell_same _ _ _ _ _ _ l1).trans (by simp)
theorem LI.cells {W1 wr : World} {x y : Int} (h : LI W1 wr x y) : wr.cell? ⟨W1.heap.size, 0, none⟩ = some (.int .i64 x) ∧ wr.cell? ⟨W1.heap.size, 1, none⟩ = some (.int .i64 y) ∧ wr.frozen? ⟨W1.heap.size, 0, none⟩ = false ∧ wr.frozen? ⟨W1.heap.size, 1, none⟩ = false :=
  ⟨cell_of_row _ _ 0 _ _ _ h.best, cell_of_row _ _ 1 _ _ _ h.best, frozen_of_row _ _ 0 _ _ h.best, frozen_of_row _ _ 1 _ _ h.best⟩

set_option maxHeartbeats 4000000 in
set_option maxRecDepth 100000 in
theorem spec_largest (rr cc : Int) (s : ByteArray) (bit : Int) (ts : List (Int × Int)) (hlen : ts.length ≤ 1000) (hts : ∀ p ∈ ts, someB p.1 p.2 = true)
    (hsp : ∀ w, Calls Tryz.prog 30 #[mat rr cc s, .int .i64 bit] w fun e w' => ∃ v, e = .returned v ∧ w'.ownsRow w.heap.size 34 2 v ts.length (flat ts) ∧ Below w.heap.size w w') (w : World) :
    Calls Tryz.prog 31 #[mat rr cc s, .int .i64 bit] w fun e w' => e = .returned (.tuple #[rect (bestTo ts ts.length).1 (bestTo ts ts.length).2, .bool (decide (0 < ts.length))]) ∧ Below w.heap.size w w' := by
  have HS := Lib.hid hsp
  have HTS := Lib.hid hts
  clear hsp hts
  go_enter Tryz.func31, Tryz.ntmps31
  go_wp2_with fail
  refine (HS.out _).mono ?_
  rintro e w1 ⟨v, rfl, ho, hb1⟩
  have RVV := Lib.hid (rv_own ho hlen)
  have h4 : w1.heap[w.heap.size + 1]? = some (.cells #[.int .i64 0, .int .i64 0] 34 (0, 0)) := (hb1.block _ (by simp)).trans (by
    have := heap_alloc_new (w.alloc (.cells #[.int .i64 rr, .int .i64 cc, .string s] 27)) (.cells #[.int .i64 0, .int .i64 0] 34)
    rwa [World.size_alloc] at this)
  have HB1 : Hid (Below w.heap.size w w1) := (((Below.refl w.heap.size w).alloc (Nat.le_refl _) _).alloc (by simp) _).trans (hb1.mono (by simp; omega))
  have H4 := Lib.hid h4
  have hw1 : w.heap.size + 1 < w1.heap.size := (Array.getElem?_eq_some_iff.1 h4).1
  clear ho hb1 h4
  obtain ⟨p, kp, hvv⟩ := RVV.out.slice
  subst hvv
  go_wp2_with fail
  have HL0 : Hid (LI w1 (w1.alloc (.cells #[.int .i64 0, .int .i64 0] 34)) (bestTo ts 0).1 (bestTo ts 0).2) := ⟨heap_alloc_new w1 _, (Below.refl _ _).alloc (Nat.le_refl _) _⟩
  go_loopw [8] (fun i wr => ∃ k : Nat, k ≤ ts.length ∧ i = .int .i64 (k : Int) ∧ Hid (LI w1 wr (bestTo ts k).1 (bestTo ts k).2)) (fun i _ => ts.length - (intOf i).toNat)
  case atStart => exact ⟨0, Nat.zero_le _, rfl, HL0⟩
  case round =>
    obtain ⟨k, hk, rfl, HLI⟩ := hrel
    clear HL0
    by_cases hlt : k < ts.length
    · have hm : someB ts[k].1 ts[k].2 = true := HTS.out _ (List.getElem_mem _)
      have hN : bestTo ts (k + 1) = if ar (bestTo ts k) < ar ts[k] then ts[k] else bestTo ts k := by rw [bestTo, getElem!_pos ts k hlt]
      have hbs : k = 0 ∨ someB (bestTo ts k).1 (bestTo ts k).2 = true := by
        by_cases h : k = 0
        · exact .inl h
        · exact .inr (best_some ts HTS.out k (by omega) hk)
      have hb0 : k = 0 → bestTo ts k = (0, 0) := fun h => by subst h; rfl
      have hrv := RVV.out.later (Nat.le_refl _) HLI.out.below
      rcases hrv.2 with ⟨_, h0⟩ | ⟨b, off, c, e, hb, hcs⟩
      · rw [h0] at hlt; exact absurd hlt (by simp)
      injection e with e1 e2 e3
      subst e1 e3
      obtain ⟨c0, c1⟩ := hcs k hlt
      have hbx : b < w1.heap.size := hb
      clear hrv hcs hb
      generalize ts[k] = P at hm hN c0 c1
      generalize bestTo ts k = B at hN hbs hb0 HLI
      obtain ⟨x, y⟩ := P
      obtain ⟨bx, by'⟩ := B
      have hP := ar_pos (x, y) hm
      have HSX := Lib.hid (fun W => spec_ar (x, y) W)
      have HSB := Lib.hid (fun W => spec_ar (bx, by') W)
      have hHI : -1 ≤ ar (bx, by') := by
        rcases hbs with h | h
        · have := hb0 h; rw [this]; exact Int.le_refl _
        · have := ar_pos (bx, by') h; omega
      simp only at c0 c1 hm HLI
      obtain ⟨q0, q1, f0, f1⟩ := HLI.out.cells
      have HN := Lib.hid hN
      have hbw : w1.heap.size < wr.heap.size := (Array.getElem?_eq_some_iff.1 HLI.out.best).1
      have hbb : b < wr.heap.size := Nat.lt_of_lt_of_le hbx HLI.out.below.size
      have hkl : (k : Int) < (ts.length : Int) := by omega
      have HHB := Lib.hid (And.intro hbw hbb)
      have hcase : (k = 0 ∧ bx = 0) ∨ (1 ≤ k ∧ 1 ≤ bx) := by
        rcases hbs with h | h
        · have h2 := hb0 h
          injection h2 with e1 e2
          exact .inl ⟨h, e1⟩
        · have := (someB_iff bx by').1 h
          by_cases h3 : k = 0
          · have h2 := hb0 h3
            injection h2 with e1 e2
            omega
          · exact .inr ⟨by omega, this.1.1⟩
      have hz : bx = 0 → ar (bx, by') < ar (x, y) := by
        intro e
        rcases hcase with ⟨h, -⟩ | ⟨-, h⟩
        · have h2 := hb0 h
          rw [h2, ar_zero]
          omega
        · omega
      clear hb0 hbs HN hm hcase hbw hbb
      by_cases hgt : ar (bx, by') < ar (x, y)
      all_goals
        first | rw [if_pos hgt] at hN | rw [if_neg hgt] at hN
        have HN2 := Lib.hid hN
        clear hN
        by_cases hx0 : bx = 0
      · subst hx0
        clear hHI hP hgt hz
        go_wp2_with fail
        refine region_kept (C := fun wx => Below wr.heap.size wr wx) (drawn_at wr 1) (by kernel_rfl) (by kernel_rfl) ?_
        repeat
          (refine wq_step (fun K hK => ?_)
           go_simp
           first
             | (refine hK _ ?_; clear hK K)
             | (apply Exists.intro
                refine ⟨fun wx hC => ?_, hK _ ?_⟩
                · first
                  | with_reducible rfl
                  | with_reducible exact ((HSX.out wx).mono fun e w' h => ⟨h.1, hC.trans (h.2.mono hC.size)⟩)
                  | with_reducible exact ((HSB.out wx).mono fun e w' h => ⟨h.1, hC.trans (h.2.mono hC.size)⟩)
                  | (have d0 := (hC.cell (p := ⟨b, off + k * 2, none⟩) HHB.out.2).trans c0; have d1 := (hC.cell (p := ⟨b, off + k * 2 + 1, none⟩) HHB.out.2).trans c1; have d2 := (hC.cell (p := ⟨w1.heap.size, 0, none⟩) HHB.out.1).trans q0; have d3 := (hC.cell (p := ⟨w1.heap.size, 1, none⟩) HHB.out.1).trans q1; go_simp; first | done | rfl)
                clear hK K))
        refine wq_nil ?_
        intro w20 hC
        have HL2 := Lib.hid (HLI.out.later hC)
        have d0 := (hC.cell (p := ⟨b, off + k * 2, none⟩) HHB.out.2).trans c0
        have d1 := (hC.cell (p := ⟨b, off + k * 2 + 1, none⟩) HHB.out.2).trans c1
        obtain ⟨j0, j1, g0, g1⟩ := HL2.out.cells
        clear hC HLI c0 c1 q0 q1 f0 f1
        go_wp2_with fail
        go_roundw
        case rel => exact ⟨k + 1, by omega, by go_num, by rw [HN2.out]; exact HL2.out.put x y⟩
        case measure => simp [intOf]; omega
      · have hx1 : (bx == 0) = false := by simpa using hx0
        generalize ar (bx, by') = A1 at *
        generalize ar (x, y) = A2 at *
        clear hHI hP hz hx0
        go_wp2_with fail
        refine region_kept (C := fun wx => Below wr.heap.size wr wx) (drawn_at wr 1) (by kernel_rfl) (by kernel_rfl) ?_
        repeat
          (refine wq_step (fun K hK => ?_)
           go_simp
           first
             | (refine hK _ ?_; clear hK K)
             | (apply Exists.intro
                refine ⟨fun wx hC => ?_, hK _ ?_⟩
                · first
                  | with_reducible rfl
                  | with_reducible exact ((HSX.out wx).mono fun e w' h => ⟨h.1, hC.trans (h.2.mono hC.size)⟩)
                  | with_reducible exact ((HSB.out wx).mono fun e w' h => ⟨h.1, hC.trans (h.2.mono hC.size)⟩)
                  | (have d0 := (hC.cell (p := ⟨b, off + k * 2, none⟩) HHB.out.2).trans c0; have d1 := (hC.cell (p := ⟨b, off + k * 2 + 1, none⟩) HHB.out.2).trans c1; have d2 := (hC.cell (p := ⟨w1.heap.size, 0, none⟩) HHB.out.1).trans q0; have d3 := (hC.cell (p := ⟨w1.heap.size, 1, none⟩) HHB.out.1).trans q1; go_simp; first | done | rfl)
                clear hK K))
        refine wq_nil ?_
        intro w20 hC
        have HL2 := Lib.hid (HLI.out.later hC)
        have d0 := (hC.cell (p := ⟨b, off + k * 2, none⟩) HHB.out.2).trans c0
        have d1 := (hC.cell (p := ⟨b, off + k * 2 + 1, none⟩) HHB.out.2).trans c1
        obtain ⟨j0, j1, g0, g1⟩ := HL2.out.cells
        clear hC HLI c0 c1 q0 q1 f0 f1
        go_wp2_with fail
        go_roundw
        case rel => exact ⟨k + 1, by omega, by go_num, by rw [HN2.out]; exact HL2.out.put x y⟩
        case measure => simp [intOf]; omega
      · exact absurd (hz hx0) hgt
      · have hx1 : (bx == 0) = false := by simpa using hx0
        have hng : ¬ ar (bx, by') < ar (x, y) := hgt
        generalize ar (bx, by') = A1 at *
        generalize ar (x, y) = A2 at *
        clear hHI hP hz hx0
        go_wp2_with fail
        refine region_kept (C := fun wx => Below wr.heap.size wr wx) (drawn_at wr 1) (by kernel_rfl) (by kernel_rfl) ?_
        repeat
          (refine wq_step (fun K hK => ?_)
           go_simp
           first
             | (refine hK _ ?_; clear hK K)
             | (apply Exists.intro
                refine ⟨fun wx hC => ?_, hK _ ?_⟩
                · first
                  | with_reducible rfl
                  | with_reducible exact ((HSX.out wx).mono fun e w' h => ⟨h.1, hC.trans (h.2.mono hC.size)⟩)
                  | with_reducible exact ((HSB.out wx).mono fun e w' h => ⟨h.1, hC.trans (h.2.mono hC.size)⟩)
                  | (have d0 := (hC.cell (p := ⟨b, off + k * 2, none⟩) HHB.out.2).trans c0; have d1 := (hC.cell (p := ⟨b, off + k * 2 + 1, none⟩) HHB.out.2).trans c1; have d2 := (hC.cell (p := ⟨w1.heap.size, 0, none⟩) HHB.out.1).trans q0; have d3 := (hC.cell (p := ⟨w1.heap.size, 1, none⟩) HHB.out.1).trans q1; go_simp; first | done | rfl)
                clear hK K))
        refine wq_nil ?_
        intro w20 hC
        have HL2 := Lib.hid (HLI.out.later hC)
        clear hC HLI c0 c1 q0 q1 f0 f1
        go_wp2_with fail
        go_roundw
        case rel => exact ⟨k + 1, by omega, by go_num, by rw [HN2.out]; exact HL2⟩
        case measure => simp [intOf]; omega
    · obtain rfl : k = ts.length := by omega
      obtain ⟨q0, q1, -, -⟩ := HLI.out.cells
      have hbw : w1.heap.size < wr.heap.size := (Array.getElem?_eq_some_iff.1 HLI.out.best).1
      have hrow : wr.heap[w.heap.size + 1]? = some (.cells #[.int .i64 0, .int .i64 0] 34 (0, 0)) := (HLI.out.below.block _ hw1).trans H4.out
      obtain ⟨x, y, hxy⟩ : ∃ x y, bestTo ts ts.length = (x, y) := ⟨_, _, rfl⟩
      rw [hxy] at q0 q1 HLI
      have HPE := Lib.hid hxy
      clear hxy
      obtain ⟨o0, o1, f0, f1⟩ := cells2 hrow
      have HB2 : Hid (Below w.heap.size w wr) := HB1.out.trans (HLI.out.below.mono HB1.out.size)
      have HROW := Lib.hid hrow
      have hne : ¬ w.heap.size + 1 = w1.heap.size := by omega
      clear hrow HLI
      have hlen2 : (decide ((0 : Int) < (ts.length : Int))) = decide (0 < ts.length) := by congr 1; exact propext ⟨fun h => by omega, fun h => by omega⟩
      go_wp2_with fail
      refine bodyPost_ret (v := .tuple #[rect x y, .bool (decide (0 < ts.length))]) (by simp [results, Tryz.results31, go_sem, o0, o1]) rfl ⟨?_, ?_⟩
      · rw [HPE.out]
      · exact (HB2.out.setCell (by simp) _).setCell (by simp) _

/-- the program's blocks: the best one's, the result's; the list lies as it lay -/
structure QI (w wr : World) (B : Nat) (p : Option Addr) (ts : List (Int × Int)) (x y : Int) : Prop where
  best : wr.heap[B]? = some (.cells #[.int .i64 x, .int .i64 y] 34 (0, 0))
  res : wr.heap[w.heap.size + 1]? = some (.cells #[.int .i64 0, .int .i64 0] 34 (0, 0))
  list : ∀ j (hj : j < ts.length), ∃ b off, p = some ⟨b, off, none⟩ ∧ b ≠ B ∧ b < wr.heap.size ∧ wr.cell? ⟨b, off + j * 2, none⟩ = some (.int .i64 ts[j].1) ∧ wr.cell? ⟨b, off + j * 2 + 1, none⟩ = some (.int .i64 ts[j].2)
  below : Below w.heap.size w wr
  hB : B = w.heap.size + 2
theorem QI.later {w wr w2 : World} {B : Nat} {p : Option Addr} {ts : List (Int × Int)} {x y : Int} (h : QI w wr B p ts x y) (hb : Below wr.heap.size wr w2) : QI w w2 B p ts x y :=
  ⟨(hb.block _ (Array.getElem?_eq_some_iff.1 h.best).1).trans h.best, (hb.block _ (Array.getElem?_eq_some_iff.1 h.res).1).trans h.res,
   fun j hj => by
    obtain ⟨b, off, h1, h2, h3, h4, h5⟩ := h.list j hj
    exact ⟨b, off, h1, h2, Nat.lt_of_lt_of_le h3 hb.size, (hb.cell (p := ⟨b, _, none⟩) h3).trans h4, (hb.cell (p := ⟨b, _, none⟩) h3).trans h5⟩,
   h.below.trans (hb.mono h.below.size), h.hB⟩
theorem QI.put {w wr : World} {B : Nat} {p : Option Addr} {ts : List (Int × Int)} {x y : Int} (h : QI w wr B p ts x y) (x2 y2 : Int) : QI w ((wr.setCell ⟨B, 0, none⟩ (.int .i64 x2)).setCell ⟨B, 1, none⟩ (.int .i64 y2)) B p ts x2 y2 := by
  have l1 : (wr.setCell ⟨B, 0, none⟩ (.int .i64 x2)).heap[B]? = some (.cells #[.int .i64 x2, .int .i64 y] 34 (0, 0)) := (heap_setCell_same _ _ _ _ _ _ h.best).trans (by simp)
  have l2 : ((wr.setCell ⟨B, 0, none⟩ (.int .i64 x2)).setCell ⟨B, 1, none⟩ (.int .i64 y2)).heap[B]? = some (.cells #[.int .i64 x2, .int .i64 y2] 34 (0, 0)) := (heap_setCell_same _ _ _ _ _ _ l1).trans (by simp)
  have oth : ∀ k, k ≠ B → ((wr.setCell ⟨B, 0, none⟩ (.int .i64 x2)).setCell ⟨B, 1, none⟩ (.int .i64 y2)).heap[k]? = wr.heap[k]? := fun k hk => by
    rw [heap_setCell_other _ _ _ _ (by simpa using hk), heap_setCell_other _ _ _ _ (by simpa using hk)]
  refine ⟨l2, (oth _ (by have := h.hB; omega)).trans h.res, fun j hj => ?_, (h.below.setCell (by have := h.hB; simp; omega) _).setCell (by have := h.hB; simp; omega) _, h.hB⟩
  obtain ⟨b, off, h1, h2, h3, h4, h5⟩ := h.list j hj
  refine ⟨b, off, h1, h2, by simpa using h3, ?_, ?_⟩
  · simp only [World.cell?, oth b h2] at h4 ⊢
    exact h4
  · simp only [World.cell?, oth b h2] at h5 ⊢
    exact h5

set_option maxHeartbeats 4000000 in
set_option maxRecDepth 100000 in
theorem impl_largest (rr cc : Int) (s : ByteArray) (bit : Int) (ts : List (Int × Int)) (hlen : ts.length ≤ 1000) (hts : ∀ p ∈ ts, someB p.1 p.2 = true)
    (hsp : ∀ w, Calls Tryz.prog 19 #[mat rr cc s, .int .i64 bit] w fun e w' => ∃ v, e = .returned v ∧ w'.ownsRow w.heap.size 34 2 v ts.length (flat ts) ∧ Below w.heap.size w w') (w : World) :
    Calls Tryz.prog 25 #[mat rr cc s, .int .i64 bit] w fun e w' => e = .returned (.tuple #[rect (bestTo ts ts.length).1 (bestTo ts ts.length).2, .bool (decide (0 < ts.length))]) ∧ Below w.heap.size w w' := by
  have HS := Lib.hid hsp
  have HTS := Lib.hid hts
  clear hsp hts
  obtain ⟨W0, hW0⟩ : ∃ W0, ((w.alloc (.cells #[.int .i64 rr, .int .i64 cc, .string s] 27)).alloc (.cells #[.int .i64 0, .int .i64 0] 34)).alloc (.cells #[.int .i64 0, .int .i64 0] 34) = W0 := ⟨_, rfl⟩
  have hsz : W0.heap.size = w.heap.size + 3 := by rw [← hW0]; simp
  have z4 : W0.heap[w.heap.size + 1]? = some (.cells #[.int .i64 0, .int .i64 0] 34 (0, 0)) := by
    have := heap_alloc_new (w.alloc (.cells #[.int .i64 rr, .int .i64 cc, .string s] 27)) (.cells #[.int .i64 0, .int .i64 0] 34)
    rw [World.size_alloc] at this
    rw [← hW0]
    exact (Below.heap_alloc _ _ _ (by simp)).trans this
  have z6 : W0.heap[w.heap.size + 2]? = some (.cells #[.int .i64 0, .int .i64 0] 34 (0, 0)) := by
    have := heap_alloc_new ((w.alloc (.cells #[.int .i64 rr, .int .i64 cc, .string s] 27)).alloc (.cells #[.int .i64 0, .int .i64 0] 34)) (.cells #[.int .i64 0, .int .i64 0] 34)
    rw [World.size_alloc, World.size_alloc] at this
    rw [← hW0]
    exact this
  have hb0 : Below w.heap.size w W0 := by rw [← hW0]; exact (((Below.refl w.heap.size w).alloc (Nat.le_refl _) _).alloc (by simp) _).alloc (by simp; omega) _
  have HZ := Lib.hid (And.intro hW0 (And.intro hsz (And.intro z4 (And.intro z6 hb0))))
  clear hW0 hsz z4 z6 hb0
  go_enter Tryz.func25, Tryz.ntmps25
  go_wp2_with fail
  rw [HZ.out.1]
  refine (HS.out _).mono ?_
  rintro e w1 ⟨v, rfl, ho, hb1⟩
  have rvv := rv_own ho hlen
  have hgg : ∀ b off n c, v = .slice (some ⟨b, off, none⟩) n c → ts.length ≠ 0 → w.heap.size + 3 ≤ b := by
    intro b off n c hv hn
    rcases ho.2 with ⟨rfl, h0⟩ | ⟨g, cap, cur, rfl, hg, _⟩
    · exact absurd h0 hn
    · injection hv with e1 _ _
      injection e1 with e1
      injection e1 with e1 _ _
      subst e1
      rw [HZ.out.2.1] at hg
      exact hg
  obtain ⟨p, kp, rfl⟩ := rvv.slice
  have HQ0 : Hid (QI w w1 (w.heap.size + 2) p ts (bestTo ts 0).1 (bestTo ts 0).2) := by
    refine ⟨(hb1.block _ (by rw [HZ.out.2.1]; omega)).trans HZ.out.2.2.2.1, (hb1.block _ (by rw [HZ.out.2.1]; omega)).trans HZ.out.2.2.1, fun j hj => ?_, HZ.out.2.2.2.2.trans (hb1.mono HZ.out.2.2.2.2.size), rfl⟩
    rcases rvv.2 with ⟨_, h0⟩ | ⟨b, off, c, e, hb, hcs⟩
    · rw [h0] at hj; exact absurd hj (by simp)
    · injection e with e1 e2 e3
      subst e1
      have := hgg b off _ _ rfl (by omega)
      exact ⟨b, off, rfl, by omega, hb, (hcs j hj).1, (hcs j hj).2⟩
  clear ho hb1 rvv hgg
  go_wp2_with fail
  go_loopw [13] (fun i wr => ∃ k : Nat, k ≤ ts.length ∧ i = .int .i64 (k : Int) ∧ Hid (QI w wr (w.heap.size + 2) p ts (bestTo ts k).1 (bestTo ts k).2)) (fun i _ => ts.length - (intOf i).toNat)
  case atStart => exact ⟨0, Nat.zero_le _, rfl, HQ0⟩
  case round =>
    obtain ⟨k, hk, rfl, HQ⟩ := hrel
    clear HQ0
    by_cases hlt : k < ts.length
    · have hN : bestTo ts (k + 1) = if ar (bestTo ts k) < ar ts[k] then ts[k] else bestTo ts k := by rw [bestTo, getElem!_pos ts k hlt]
      obtain ⟨b, off, hp, hbB, hbl, c0, c1⟩ := HQ.out.list k hlt
      subst hp
      generalize ts[k] = P at hN c0 c1
      generalize bestTo ts k = D at hN HQ
      obtain ⟨x, y⟩ := P
      obtain ⟨bx, by'⟩ := D
      have HSX := Lib.hid (fun W => impl_ar (x, y) W)
      have HSB := Lib.hid (fun W => impl_ar (bx, by') W)
      simp only at c0 c1 HQ
      have hkl : (k : Int) < (ts.length : Int) := by omega
      obtain ⟨Br, hBr⟩ : ∃ Br, wr.heap.size = Br := ⟨_, rfl⟩
      have HQ2 : Hid (QI w (wr.alloc (.cells #[.int .i64 x, .int .i64 y] 34)) (w.heap.size + 2) (some ⟨b, off, none⟩) ts bx by') := HQ.out.later ((Below.refl _ _).alloc (Nat.le_refl _) _)
      have HR2 : Hid ((wr.alloc (.cells #[.int .i64 x, .int .i64 y] 34)).heap[Br]? = some (.cells #[.int .i64 x, .int .i64 y] 34 (0, 0))) := by
        have := heap_alloc_new wr (.cells #[.int .i64 x, .int .i64 y] 34)
        rwa [hBr] at this
      clear HQ hbB hbl
      have HN := Lib.hid hN
      clear hN
      go_wp2_with fail
      clear hBr c0 c1
      generalize wr.alloc (.cells #[.int .i64 x, .int .i64 y] 34) = wq at *
      obtain ⟨q0, q1, -, -⟩ := cells2 HQ2.out.best
      obtain ⟨r0, r1, -, -⟩ := cells2 HR2.out
      have HLT := Lib.hid (And.intro (Array.getElem?_eq_some_iff.1 HQ2.out.best).1 (Array.getElem?_eq_some_iff.1 HR2.out).1)
      generalize ar (bx, by') = A1 at *
      generalize ar (x, y) = A2 at *
      by_cases hgt : A1 < A2
      all_goals
        refine region_kept (C := fun wx => Below wq.heap.size wq wx) (drawn_at wq 1) (by kernel_rfl) (by kernel_rfl) ?_
        repeat
          (refine wq_step (fun K hK => ?_)
           go_simp
           first
             | (refine hK _ ?_; clear hK K)
             | (apply Exists.intro
                refine ⟨fun wx hC => ?_, hK _ ?_⟩
                · first
                  | with_reducible rfl
                  | with_reducible exact ((HSX.out wx).mono fun e w' h => ⟨h.1, hC.trans (h.2.mono hC.size)⟩)
                  | with_reducible exact ((HSB.out wx).mono fun e w' h => ⟨h.1, hC.trans (h.2.mono hC.size)⟩)
                  | (have d0 := (hC.cell (p := ⟨w.heap.size + 2, 0, none⟩) HLT.out.1).trans q0; have d1 := (hC.cell (p := ⟨w.heap.size + 2, 1, none⟩) HLT.out.1).trans q1; have d2 := (hC.cell (p := ⟨Br, 0, none⟩) HLT.out.2).trans r0; have d3 := (hC.cell (p := ⟨Br, 1, none⟩) HLT.out.2).trans r1; go_simp; first | done | rfl)
                clear hK K))
        refine wq_nil ?_
        intro w20 hC
        have HQ3 := Lib.hid (HQ2.out.later hC)
        have r0' := (hC.cell (p := ⟨Br, 0, none⟩) HLT.out.2).trans r0
        have r1' := (hC.cell (p := ⟨Br, 1, none⟩) HLT.out.2).trans r1
        obtain ⟨q0', q1', f0, f1⟩ := cells2 HQ3.out.best
        clear hC HQ2 HR2 q0 q1 r0 r1 HLT
      · go_wp2_with fail
        go_roundw
        case rel => exact ⟨k + 1, by omega, by go_num, by rw [HN.out, if_pos hgt]; exact HQ3.out.put x y⟩
        case measure => simp [intOf]; omega
      · go_wp2_with fail
        go_roundw
        case rel => exact ⟨k + 1, by omega, by go_num, by rw [HN.out, if_neg hgt]; exact HQ3⟩
        case measure => simp [intOf]; omega
    · obtain rfl : k = ts.length := by omega
      obtain ⟨x, y, hxy⟩ : ∃ x y, bestTo ts ts.length = (x, y) := ⟨_, _, rfl⟩
      rw [hxy] at HQ
      have hsome : (ts.length = 0 ∧ x = 0 ∧ y = 0) ∨ (0 < ts.length ∧ 1 ≤ x) := by
        by_cases h : ts.length = 0
        · rw [h] at hxy
          injection hxy with e1 e2
          exact .inl ⟨h, e1.symm, e2.symm⟩
        · have := best_some ts HTS.out ts.length (by omega) (Nat.le_refl _)
          rw [hxy] at this
          have := (someB_iff _ _).1 this
          exact .inr ⟨by omega, this.1.1⟩
      have HPE := Lib.hid hxy
      have HSO := Lib.hid hsome
      clear hxy hsome
      obtain ⟨q0, q1, -, -⟩ := cells2 HQ.out.best
      obtain ⟨o0, o1, f0, f1⟩ := cells2 HQ.out.res
      go_wp2_with fail
      rcases HSO.out with ⟨h0, rfl, rfl⟩ | ⟨h0, h1⟩
      · go_region
        all_goals
          clear q0 q1 o0 o1 f0 f1
          have l1 : (wr.setCell ⟨w.heap.size + 1, 0, none⟩ (.int .i64 0)).heap[w.heap.size + 1]? = some (.cells #[.int .i64 0, .int .i64 0] 34 (0, 0)) := (heap_setCell_same _ _ _ _ _ _ HQ.out.res).trans (by simp)
          have l2 : ((wr.setCell ⟨w.heap.size + 1, 0, none⟩ (.int .i64 0)).setCell ⟨w.heap.size + 1, 1, none⟩ (.int .i64 0)).heap[w.heap.size + 1]? = some (.cells #[.int .i64 0, .int .i64 0] 34 (0, 0)) := (heap_setCell_same _ _ _ _ _ _ l1).trans (by simp)
          have hb2 : Below w.heap.size w ((wr.setCell ⟨w.heap.size + 1, 0, none⟩ (.int .i64 0)).setCell ⟨w.heap.size + 1, 1, none⟩ (.int .i64 0)) := (HQ.out.below.setCell (by simp) _).setCell (by simp) _
          generalize (wr.setCell ⟨w.heap.size + 1, 0, none⟩ (.int .i64 0)).setCell ⟨w.heap.size + 1, 1, none⟩ (.int .i64 0) = wz at *
          obtain ⟨o0, o1, -, -⟩ := cells2 (show wz.drew.heap[w.heap.size + 1]? = _ from l2)
          have hb3 : Below w.heap.size w wz.drew := hb2.trans ((drawn_at wz 1).mono hb2.size)
          go_wp2_with fail
          refine bodyPost_ret (v := .tuple #[rect 0 0, .bool (decide (0 < ts.length))]) (by simp [results, Tryz.results25, go_sem, o0, o1, h0]) rfl ⟨by first | rw [HPE.out] | (rw [h0]; rfl), hb3⟩
      · have hx1 : (x == 0) = false := by simpa using (show ¬ x = 0 by omega)
        go_region
        all_goals
          clear q0 q1 o0 o1 f0 f1
          have l1 : (wr.setCell ⟨w.heap.size + 1, 0, none⟩ (.int .i64 x)).heap[w.heap.size + 1]? = some (.cells #[.int .i64 x, .int .i64 0] 34 (0, 0)) := (heap_setCell_same _ _ _ _ _ _ HQ.out.res).trans (by simp)
          have l2 : ((wr.setCell ⟨w.heap.size + 1, 0, none⟩ (.int .i64 x)).setCell ⟨w.heap.size + 1, 1, none⟩ (.int .i64 y)).heap[w.heap.size + 1]? = some (.cells #[.int .i64 x, .int .i64 y] 34 (0, 0)) := (heap_setCell_same _ _ _ _ _ _ l1).trans (by simp)
          have hb2 : Below w.heap.size w ((wr.setCell ⟨w.heap.size + 1, 0, none⟩ (.int .i64 x)).setCell ⟨w.heap.size + 1, 1, none⟩ (.int .i64 y)) := (HQ.out.below.setCell (by simp) _).setCell (by simp) _
          generalize (wr.setCell ⟨w.heap.size + 1, 0, none⟩ (.int .i64 x)).setCell ⟨w.heap.size + 1, 1, none⟩ (.int .i64 y) = wz at *
          obtain ⟨o0, o1, -, -⟩ := cells2 (show wz.drew.heap[w.heap.size + 1]? = _ from l2)
          have hb3 : Below w.heap.size w wz.drew := hb2.trans ((drawn_at wz 1).mono hb2.size)
          go_wp2_with fail
          refine bodyPost_ret (v := .tuple #[rect x y, .bool (decide (0 < ts.length))]) (by simp [results, Tryz.results25, go_sem, o0, o1, h0]) rfl ⟨by first | rw [HPE.out] | (rw [h0]; rfl), hb3⟩
end Go.Proofs.YtgmhddceeomjbaaGreatDoor.Largest

