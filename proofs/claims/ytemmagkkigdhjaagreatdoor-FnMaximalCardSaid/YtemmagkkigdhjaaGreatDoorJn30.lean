/-
  Texts of one seat, joined: Largest, TurnM, MxC.
-/
import Derived.Test.YtemmagkkigdhjaaGreatDoorJn25
import Derived.Test.YtemmagkkigdhjaaGreatDoorJn29
import Derived.Test.YtemmagkkigdhjaaGreatDoorJn16
import Derived.Test.YtemmagkkigdhjaaGreatDoorJn26
import Derived.Test.YtemmagkkigdhjaaGreatDoorJn24
import Derived.Test.YtemmagkkigdhjaaGreatDoorJn27
/-
  LargestRect, of the reference and of the program.
-/
namespace Go.Proofs.YtemmagkkigdhjaaGreatDoor.Largest
open Go.RowKit Go.Proofs.YtemmagkkigdhjaaGreatDoor.Plain Go.Proofs.YtemmagkkigdhjaaGreatDoor.Base Go.Proofs.YtemmagkkigdhjaaGreatDoor.Valid Go.Proofs.YtemmagkkigdhjaaGreatDoor.Law Go.Proofs.YtemmagkkigdhjaaGreatDoor.GridPlain Go.Proofs.YtemmagkkigdhjaaGreatDoor.Entry Go.Proofs.YtemmagkkigdhjaaGreatDoor.Pat Go.Proofs.YtemmagkkigdhjaaGreatDoor.Rect Go.Proofs.YtemmagkkigdhjaaGreatDoor.Board Go.Proofs.YtemmagkkigdhjaaGreatDoor.BoardM Go.Proofs.YtemmagkkigdhjaaGreatDoor.RValid Go.Proofs.YtemmagkkigdhjaaGreatDoor.Rects Go.Proofs.YtemmagkkigdhjaaGreatDoor.Marks Go.Proofs.YtemmagkkigdhjaaGreatDoor.MaxC Go.Proofs.YtemmagkkigdhjaaGreatDoor.AreaI
open Go.Proofs.YtemmagkkigdhjaaGreatDoor.KeysI (flat)
open Go.Proofs.YtemmagkkigdhjaaGreatDoor.Kept (region_kept wq_step wq_nil)
set_option linter.unusedVariables false

theorem drawn_at (w : World) (n : Nat) : Below w.heap.size w { w with drawn := w.drawn + n } := ⟨rfl, rfl, rfl, Nat.le_refl _, fun _ _ => rfl⟩
theorem cells2 {w : World} {g : Nat} {T : TypeId} {a b : Value} (h : w.heap[g]? = some (.cells #[a, b] T (0, 0))) : w.cell? ⟨g, 0, none⟩ = some a ∧ w.cell? ⟨g, 1, none⟩ = some b ∧ w.frozen? ⟨g, 0, none⟩ = false ∧ w.frozen? ⟨g, 1, none⟩ = false :=
  ⟨cell_of_row _ _ 0 _ _ _ h, cell_of_row _ _ 1 _ _ _ h, frozen_of_row _ _ 0 _ _ h, frozen_of_row _ _ 1 _ _ h⟩
theorem impl_ar (p : Int × Int) (w : World) : Calls Tryz.prog 10 #[rect p.1 p.2] w fun e w' => e = .returned (.int .i64 (ar p)) ∧ Below w.heap.size w w' := by
  obtain ⟨r, c⟩ := p
  unfold ar
  by_cases h : someB r c = true
  · have hh := (someB_iff r c).1 h
    rw [if_pos h]
    obtain ⟨R, rfl⟩ := Int.eq_ofNat_of_zero_le (show 0 ≤ r by omega)
    obtain ⟨C, rfl⟩ := Int.eq_ofNat_of_zero_le (show 0 ≤ c by omega)
    exact impl_area R C (by omega) (by omega) (by omega) (by omega) w
  · rw [if_neg h]
    exact impl_area_no r c (by simpa using h) w

/-- the best one's block; the list lies as it lay -/
structure LI (W1 wr : World) (x y : Int) : Prop where
  best : wr.heap[W1.heap.size]? = some (.cells #[.int .i64 x, .int .i64 y] 31 (0, 0))
  below : Below W1.heap.size W1 wr
theorem LI.later {W1 wr w2 : World} {x y : Int} (h : LI W1 wr x y) (hb : Below wr.heap.size wr w2) : LI W1 w2 x y :=
  ⟨(hb.block _ (Array.getElem?_eq_some_iff.1 h.best).1).trans h.best, rstep h.below hb⟩
theorem LI.put {W1 wr : World} {x y : Int} (h : LI W1 wr x y) (x2 y2 : Int) : LI W1 ((wr.setCell ⟨W1.heap.size, 0, none⟩ (.int .i64 x2)).setCell ⟨W1.heap.size, 1, none⟩ (.int .i64 y2)) x2 y2 := by
  refine ⟨?_, (h.below.setCell (by simp) _).setCell (by simp) _⟩
  have l1 : (wr.setCell ⟨W1.heap.size, 0, none⟩ (.int .i64 x2)).heap[W1.heap.size]? = some (.cells #[.int .i64 x2, .int .i64 y] 31 (0, 0)) := (heap_setCell_same _ _ _ _ _ _ h.best).trans (by simp)
  generalize wr.setCell ⟨W1.heap.size, 0, none⟩ (.int .i64 x2) = w2 at *
  exact (heap_setCell_same _ _ _ _ _ _ l1).trans (by simp)
theorem LI.cells {W1 wr : World} {x y : Int} (h : LI W1 wr x y) : wr.cell? ⟨W1.heap.size, 0, none⟩ = some (.int .i64 x) ∧ wr.cell? ⟨W1.heap.size, 1, none⟩ = some (.int .i64 y) ∧ wr.frozen? ⟨W1.heap.size, 0, none⟩ = false ∧ wr.frozen? ⟨W1.heap.size, 1, none⟩ = false :=
  ⟨cell_of_row _ _ 0 _ _ _ h.best, cell_of_row _ _ 1 _ _ _ h.best, frozen_of_row _ _ 0 _ _ h.best, frozen_of_row _ _ 1 _ _ h.best⟩

set_option maxHeartbeats 4000000 in
set_option maxRecDepth 100000 in
theorem spec_largest (rr cc : Int) (s : ByteArray) (bit : Int) (ts : List (Int × Int)) (hlen : ts.length ≤ 1000) (hts : ∀ p ∈ ts, someB p.1 p.2 = true)
    (hsp : ∀ w, Calls Tryz.prog 6 #[mat rr cc s, .int .i64 bit] w fun e w' => ∃ v, e = .returned v ∧ w'.ownsRow w.heap.size 31 2 v ts.length (flat ts) ∧ Below w.heap.size w w') (w : World) :
    Calls Tryz.prog 12 #[mat rr cc s, .int .i64 bit] w fun e w' => e = .returned (.tuple #[rect (bestTo ts ts.length).1 (bestTo ts ts.length).2, .bool (decide (0 < ts.length))]) ∧ Below w.heap.size w w' := by
  have HS := Lib.hid hsp
  have HTS := Lib.hid hts
  clear hsp hts
  go_enter Tryz.func12, Tryz.ntmps12
  go_wp2_with fail
  refine (HS.out _).mono ?_
  rintro e w1 ⟨v, rfl, ho, hb1⟩
  have RVV := Lib.hid (rv_own ho hlen)
  have h4 : w1.heap[w.heap.size + 1]? = some (.cells #[.int .i64 0, .int .i64 0] 31 (0, 0)) := (hb1.block _ (by simp)).trans (by
    have := heap_alloc_new (w.alloc (.cells #[.int .i64 rr, .int .i64 cc, .string s] 24)) (.cells #[.int .i64 0, .int .i64 0] 31)
    rwa [World.size_alloc] at this)
  have HB1 : Hid (Below w.heap.size w w1) := (((Below.refl w.heap.size w).alloc (Nat.le_refl _) _).alloc (by simp) _).trans (hb1.mono (by simp; omega))
  have H4 := Lib.hid h4
  have hw1 : w.heap.size + 1 < w1.heap.size := (Array.getElem?_eq_some_iff.1 h4).1
  clear ho hb1 h4
  obtain ⟨p, kp, hvv⟩ := RVV.out.slice
  subst hvv
  go_wp2_with fail
  have HL0 : Hid (LI w1 (w1.alloc (.cells #[.int .i64 0, .int .i64 0] 31)) (bestTo ts 0).1 (bestTo ts 0).2) := ⟨heap_alloc_new w1 _, (Below.refl _ _).alloc (Nat.le_refl _) _⟩
  go_loopw [8] (fun i wr => ∃ k : Nat, k ≤ ts.length ∧ i = .int .i64 (k : Int) ∧ Hid (LI w1 wr (bestTo ts k).1 (bestTo ts k).2)) (fun i _ => ts.length - (intOf i).toNat)
  case atStart => exact ⟨0, Nat.zero_le _, rfl, HL0⟩
  case round =>
    obtain ⟨k, hk, rfl, HLI⟩ := hrel
    clear HL0
    by_cases hlt : k < ts.length
    · have hm : someB ts[k].1 ts[k].2 = true := HTS.out _ (List.getElem_mem _)
      have hN : bestTo ts (k + 1) = if ar (bestTo ts k) < ar ts[k] then ts[k] else bestTo ts k := by rw [bestTo, getElem!_pos ts k hlt]
      have hbs : k = 0 ∨ someB (bestTo ts k).1 (bestTo ts k).2 = true := by
        by_cases h : k = 0
        · exact .inl h
        · exact .inr (best_some ts HTS.out k (by omega) hk)
      have hb0 : k = 0 → bestTo ts k = (0, 0) := fun h => by subst h; rfl
      have hrv := RVV.out.later (Nat.le_refl _) HLI.out.below
      rcases hrv.2 with ⟨_, h0⟩ | ⟨b, off, c, e, hb, hcs⟩
      · rw [h0] at hlt; exact absurd hlt (by simp)
      injection e with e1 e2 e3
      subst e1 e3
      obtain ⟨c0, c1⟩ := hcs k hlt
      have hbx : b < w1.heap.size := hb
      clear hrv hcs hb
      generalize ts[k] = P at hm hN c0 c1
      generalize bestTo ts k = B at hN hbs hb0 HLI
      obtain ⟨x, y⟩ := P
      obtain ⟨bx, by'⟩ := B
      have hP := ar_pos (x, y) hm
      have HSX := Lib.hid (fun W => spec_ar (x, y) W)
      have HSB := Lib.hid (fun W => spec_ar (bx, by') W)
      have hHI : -1 ≤ ar (bx, by') := by
        rcases hbs with h | h
        · have := hb0 h; rw [this]; exact Int.le_refl _
        · have := ar_pos (bx, by') h; omega
      simp only at c0 c1 hm HLI
      obtain ⟨q0, q1, f0, f1⟩ := HLI.out.cells
      have HN := Lib.hid hN
      have hbw : w1.heap.size < wr.heap.size := (Array.getElem?_eq_some_iff.1 HLI.out.best).1
      have hbb : b < wr.heap.size := Nat.lt_of_lt_of_le hbx HLI.out.below.size
      have hkl : (k : Int) < (ts.length : Int) := by omega
      have HHB := Lib.hid (And.intro hbw hbb)
      have hcase : (k = 0 ∧ bx = 0) ∨ (1 ≤ k ∧ 1 ≤ bx) := by
        rcases hbs with h | h
        · have h2 := hb0 h
          injection h2 with e1 e2
          exact .inl ⟨h, e1⟩
        · have := (someB_iff bx by').1 h
          by_cases h3 : k = 0
          · have h2 := hb0 h3
            injection h2 with e1 e2
            omega
          · exact .inr ⟨by omega, this.1.1⟩
      have hz : bx = 0 → ar (bx, by') < ar (x, y) := by
        intro e
        rcases hcase with ⟨h, -⟩ | ⟨-, h⟩
        · have h2 := hb0 h
          rw [h2, ar_zero]
          omega
        · omega
      clear hb0 hbs HN hm hcase hbw hbb
      by_cases hgt : ar (bx, by') < ar (x, y)
      all_goals
        first | rw [if_pos hgt] at hN | rw [if_neg hgt] at hN
        have HN2 := Lib.hid hN
        clear hN
        by_cases hx0 : bx = 0
      · subst hx0
        clear hHI hP hgt hz
        go_wp2_with fail
        refine region_kept (C := fun wx => Below wr.heap.size wr wx) (drawn_at wr 1) (by kernel_rfl) (by kernel_rfl) ?_
        repeat
          (refine wq_step (fun K hK => ?_)
           go_simp
           first
             | (refine hK _ ?_; clear hK K)
             | (apply Exists.intro
                refine ⟨fun wx hC => ?_, hK _ ?_⟩
                · first
                  | with_reducible rfl
                  | with_reducible exact ((HSX.out wx).mono fun e w' h => ⟨h.1, hC.trans (h.2.mono hC.size)⟩)
                  | with_reducible exact ((HSB.out wx).mono fun e w' h => ⟨h.1, hC.trans (h.2.mono hC.size)⟩)
                  | (have d0 := (hC.cell (p := ⟨b, off + k * 2, none⟩) HHB.out.2).trans c0; have d1 := (hC.cell (p := ⟨b, off + k * 2 + 1, none⟩) HHB.out.2).trans c1; have d2 := (hC.cell (p := ⟨w1.heap.size, 0, none⟩) HHB.out.1).trans q0; have d3 := (hC.cell (p := ⟨w1.heap.size, 1, none⟩) HHB.out.1).trans q1; go_simp; first | done | rfl)
                clear hK K))
        refine wq_nil ?_
        intro w20 hC
        have HL2 := Lib.hid (HLI.out.later hC)
        have d0 := (hC.cell (p := ⟨b, off + k * 2, none⟩) HHB.out.2).trans c0
        have d1 := (hC.cell (p := ⟨b, off + k * 2 + 1, none⟩) HHB.out.2).trans c1
        obtain ⟨j0, j1, g0, g1⟩ := HL2.out.cells
        clear hC HLI c0 c1 q0 q1 f0 f1
        go_wp2_with fail
        go_roundw
        case rel => exact ⟨k + 1, by omega, by go_num, by rw [HN2.out]; exact HL2.out.put x y⟩
        case measure => simp [intOf]; omega
      · have hx1 : (bx == 0) = false := by simpa using hx0
        generalize ar (bx, by') = A1 at *
        generalize ar (x, y) = A2 at *
        clear hHI hP hz hx0
        go_wp2_with fail
        refine region_kept (C := fun wx => Below wr.heap.size wr wx) (drawn_at wr 1) (by kernel_rfl) (by kernel_rfl) ?_
        repeat
          (refine wq_step (fun K hK => ?_)
           go_simp
           first
             | (refine hK _ ?_; clear hK K)
             | (apply Exists.intro
                refine ⟨fun wx hC => ?_, hK _ ?_⟩
                · first
                  | with_reducible rfl
                  | with_reducible exact ((HSX.out wx).mono fun e w' h => ⟨h.1, hC.trans (h.2.mono hC.size)⟩)
                  | with_reducible exact ((HSB.out wx).mono fun e w' h => ⟨h.1, hC.trans (h.2.mono hC.size)⟩)
                  | (have d0 := (hC.cell (p := ⟨b, off + k * 2, none⟩) HHB.out.2).trans c0; have d1 := (hC.cell (p := ⟨b, off + k * 2 + 1, none⟩) HHB.out.2).trans c1; have d2 := (hC.cell (p := ⟨w1.heap.size, 0, none⟩) HHB.out.1).trans q0; have d3 := (hC.cell (p := ⟨w1.heap.size, 1, none⟩) HHB.out.1).trans q1; go_simp; first | done | rfl)
                clear hK K))
        refine wq_nil ?_
        intro w20 hC
        have HL2 := Lib.hid (HLI.out.later hC)
        have d0 := (hC.cell (p := ⟨b, off + k * 2, none⟩) HHB.out.2).trans c0
        have d1 := (hC.cell (p := ⟨b, off + k * 2 + 1, none⟩) HHB.out.2).trans c1
        obtain ⟨j0, j1, g0, g1⟩ := HL2.out.cells
        clear hC HLI c0 c1 q0 q1 f0 f1
        go_wp2_with fail
        go_roundw
        case rel => exact ⟨k + 1, by omega, by go_num, by rw [HN2.out]; exact HL2.out.put x y⟩
        case measure => simp [intOf]; omega
      · exact absurd (hz hx0) hgt
      · have hx1 : (bx == 0) = false := by simpa using hx0
        have hng : ¬ ar (bx, by') < ar (x, y) := hgt
        generalize ar (bx, by') = A1 at *
        generalize ar (x, y) = A2 at *
        clear hHI hP hz hx0
        go_wp2_with fail
        refine region_kept (C := fun wx => Below wr.heap.size wr wx) (drawn_at wr 1) (by kernel_rfl) (by kernel_rfl) ?_
        repeat
          (refine wq_step (fun K hK => ?_)
           go_simp
           first
             | (refine hK _ ?_; clear hK K)
             | (apply Exists.intro
                refine ⟨fun wx hC => ?_, hK _ ?_⟩
                · first
                  | with_reducible rfl
                  | with_reducible exact ((HSX.out wx).mono fun e w' h => ⟨h.1, hC.trans (h.2.mono hC.size)⟩)
                  | with_reducible exact ((HSB.out wx).mono fun e w' h => ⟨h.1, hC.trans (h.2.mono hC.size)⟩)
                  | (have d0 := (hC.cell (p := ⟨b, off + k * 2, none⟩) HHB.out.2).trans c0; have d1 := (hC.cell (p := ⟨b, off + k * 2 + 1, none⟩) HHB.out.2).trans c1; have d2 := (hC.cell (p := ⟨w1.heap.size, 0, none⟩) HHB.out.1).trans q0; have d3 := (hC.cell (p := ⟨w1.heap.size, 1, none⟩) HHB.out.1).trans q1; go_simp; first | done | rfl)
                clear hK K))
        refine wq_nil ?_
        intro w20 hC
        have HL2 := Lib.hid (HLI.out.later hC)
        clear hC HLI c0 c1 q0 q1 f0 f1
        go_wp2_with fail
        go_roundw
        case rel => exact ⟨k + 1, by omega, by go_num, by rw [HN2.out]; exact HL2⟩
        case measure => simp [intOf]; omega
    · obtain rfl : k = ts.length := by omega
      obtain ⟨q0, q1, -, -⟩ := HLI.out.cells
      have hbw : w1.heap.size < wr.heap.size := (Array.getElem?_eq_some_iff.1 HLI.out.best).1
      have hrow : wr.heap[w.heap.size + 1]? = some (.cells #[.int .i64 0, .int .i64 0] 31 (0, 0)) := (HLI.out.below.block _ hw1).trans H4.out
      obtain ⟨x, y, hxy⟩ : ∃ x y, bestTo ts ts.length = (x, y) := ⟨_, _, rfl⟩
      rw [hxy] at q0 q1 HLI
      have HPE := Lib.hid hxy
      clear hxy
      obtain ⟨o0, o1, f0, f1⟩ := cells2 hrow
      have HB2 : Hid (Below w.heap.size w wr) := HB1.out.trans (HLI.out.below.mono HB1.out.size)
      have HROW := Lib.hid hrow
      have hne : ¬ w.heap.size + 1 = w1.heap.size := by omega
      clear hrow HLI
      have hlen2 : (decide ((0 : Int) < (ts.length : Int))) = decide (0 < ts.length) := by congr 1; exact propext ⟨fun h => by omega, fun h => by omega⟩
      go_wp2_with fail
      refine bodyPost_ret (v := .tuple #[rect x y, .bool (decide (0 < ts.length))]) (by simp [results, Tryz.results12, go_sem, o0, o1]) rfl ⟨?_, ?_⟩
      · rw [HPE.out]
      · exact (HB2.out.setCell (by simp) _).setCell (by simp) _

/-- the program's blocks: the best one's, the result's; the list lies as it lay -/
structure QI (w wr : World) (B : Nat) (p : Option Addr) (ts : List (Int × Int)) (x y : Int) : Prop where
  best : wr.heap[B]? = some (.cells #[.int .i64 x, .int .i64 y] 31 (0, 0))
  res : wr.heap[w.heap.size + 1]? = some (.cells #[.int .i64 0, .int .i64 0] 31 (0, 0))
  list : ∀ j (hj : j < ts.length), ∃ b off, p = some ⟨b, off, none⟩ ∧ b ≠ B ∧ b < wr.heap.size ∧ wr.cell? ⟨b, off + j * 2, none⟩ = some (.int .i64 ts[j].1) ∧ wr.cell? ⟨b, off + j * 2 + 1, none⟩ = some (.int .i64 ts[j].2)
  below : Below w.heap.size w wr
  hB : B = w.heap.size + 2
theorem QI.later {w wr w2 : World} {B : Nat} {p : Option Addr} {ts : List (Int × Int)} {x y : Int} (h : QI w wr B p ts x y) (hb : Below wr.heap.size wr w2) : QI w w2 B p ts x y :=
  ⟨(hb.block _ (Array.getElem?_eq_some_iff.1 h.best).1).trans h.best, (hb.block _ (Array.getElem?_eq_some_iff.1 h.res).1).trans h.res,
   fun j hj => by
    obtain ⟨b, off, h1, h2, h3, h4, h5⟩ := h.list j hj
    exact ⟨b, off, h1, h2, Nat.lt_of_lt_of_le h3 hb.size, (hb.cell (p := ⟨b, _, none⟩) h3).trans h4, (hb.cell (p := ⟨b, _, none⟩) h3).trans h5⟩,
   h.below.trans (hb.mono h.below.size), h.hB⟩
theorem QI.put {w wr : World} {B : Nat} {p : Option Addr} {ts : List (Int × Int)} {x y : Int} (h : QI w wr B p ts x y) (x2 y2 : Int) : QI w ((wr.setCell ⟨B, 0, none⟩ (.int .i64 x2)).setCell ⟨B, 1, none⟩ (.int .i64 y2)) B p ts x2 y2 := by
  have l1 : (wr.setCell ⟨B, 0, none⟩ (.int .i64 x2)).heap[B]? = some (.cells #[.int .i64 x2, .int .i64 y] 31 (0, 0)) := (heap_setCell_same _ _ _ _ _ _ h.best).trans (by simp)
  have l2 : ((wr.setCell ⟨B, 0, none⟩ (.int .i64 x2)).setCell ⟨B, 1, none⟩ (.int .i64 y2)).heap[B]? = some (.cells #[.int .i64 x2, .int .i64 y2] 31 (0, 0)) := (heap_setCell_same _ _ _ _ _ _ l1).trans (by simp)
  have oth : ∀ k, k ≠ B → ((wr.setCell ⟨B, 0, none⟩ (.int .i64 x2)).setCell ⟨B, 1, none⟩ (.int .i64 y2)).heap[k]? = wr.heap[k]? := fun k hk => by
    rw [heap_setCell_other _ _ _ _ (by simpa using hk), heap_setCell_other _ _ _ _ (by simpa using hk)]
  refine ⟨l2, (oth _ (by have := h.hB; omega)).trans h.res, fun j hj => ?_, (h.below.setCell (by have := h.hB; simp; omega) _).setCell (by have := h.hB; simp; omega) _, h.hB⟩
  obtain ⟨b, off, h1, h2, h3, h4, h5⟩ := h.list j hj
  refine ⟨b, off, h1, h2, by simpa using h3, ?_, ?_⟩
  · simp only [World.cell?, oth b h2] at h4 ⊢
    exact h4
  · simp only [World.cell?, oth b h2] at h5 ⊢
    exact h5

set_option maxHeartbeats 4000000 in
set_option maxRecDepth 100000 in
theorem impl_largest (rr cc : Int) (s : ByteArray) (bit : Int) (ts : List (Int × Int)) (hlen : ts.length ≤ 1000) (hts : ∀ p ∈ ts, someB p.1 p.2 = true)
    (hsp : ∀ w, Calls Tryz.prog 5 #[mat rr cc s, .int .i64 bit] w fun e w' => ∃ v, e = .returned v ∧ w'.ownsRow w.heap.size 31 2 v ts.length (flat ts) ∧ Below w.heap.size w w') (w : World) :
    Calls Tryz.prog 11 #[mat rr cc s, .int .i64 bit] w fun e w' => e = .returned (.tuple #[rect (bestTo ts ts.length).1 (bestTo ts ts.length).2, .bool (decide (0 < ts.length))]) ∧ Below w.heap.size w w' := by
  have HS := Lib.hid hsp
  have HTS := Lib.hid hts
  clear hsp hts
  obtain ⟨W0, hW0⟩ : ∃ W0, ((w.alloc (.cells #[.int .i64 rr, .int .i64 cc, .string s] 24)).alloc (.cells #[.int .i64 0, .int .i64 0] 31)).alloc (.cells #[.int .i64 0, .int .i64 0] 31) = W0 := ⟨_, rfl⟩
  have hsz : W0.heap.size = w.heap.size + 3 := by rw [← hW0]; simp
  have z4 : W0.heap[w.heap.size + 1]? = some (.cells #[.int .i64 0, .int .i64 0] 31 (0, 0)) := by
    have := heap_alloc_new (w.alloc (.cells #[.int .i64 rr, .int .i64 cc, .string s] 24)) (.cells #[.int .i64 0, .int .i64 0] 31)
    rw [World.size_alloc] at this
    rw [← hW0]
    exact (Below.heap_alloc _ _ _ (by simp)).trans this
  have z6 : W0.heap[w.heap.size + 2]? = some (.cells #[.int .i64 0, .int .i64 0] 31 (0, 0)) := by
    have := heap_alloc_new ((w.alloc (.cells #[.int .i64 rr, .int .i64 cc, .string s] 24)).alloc (.cells #[.int .i64 0, .int .i64 0] 31)) (.cells #[.int .i64 0, .int .i64 0] 31)
    rw [World.size_alloc, World.size_alloc] at this
    rw [← hW0]
    exact this
  have hb0 : Below w.heap.size w W0 := by rw [← hW0]; exact (((Below.refl w.heap.size w).alloc (Nat.le_refl _) _).alloc (by simp) _).alloc (by simp; omega) _
  have HZ := Lib.hid (And.intro hW0 (And.intro hsz (And.intro z4 (And.intro z6 hb0))))
  clear hW0 hsz z4 z6 hb0
  go_enter Tryz.func11, Tryz.ntmps11
  go_wp2_with fail
  rw [HZ.out.1]
  refine (HS.out _).mono ?_
  rintro e w1 ⟨v, rfl, ho, hb1⟩
  have rvv := rv_own ho hlen
  have hgg : ∀ b off n c, v = .slice (some ⟨b, off, none⟩) n c → ts.length ≠ 0 → w.heap.size + 3 ≤ b := by
    intro b off n c hv hn
    rcases ho.2 with ⟨rfl, h0⟩ | ⟨g, cap, cur, rfl, hg, _⟩
    · exact absurd h0 hn
    · injection hv with e1 _ _
      injection e1 with e1
      injection e1 with e1 _ _
      subst e1
      rw [HZ.out.2.1] at hg
      exact hg
  obtain ⟨p, kp, rfl⟩ := rvv.slice
  have HQ0 : Hid (QI w w1 (w.heap.size + 2) p ts (bestTo ts 0).1 (bestTo ts 0).2) := by
    refine ⟨(hb1.block _ (by rw [HZ.out.2.1]; omega)).trans HZ.out.2.2.2.1, (hb1.block _ (by rw [HZ.out.2.1]; omega)).trans HZ.out.2.2.1, fun j hj => ?_, HZ.out.2.2.2.2.trans (hb1.mono HZ.out.2.2.2.2.size), rfl⟩
    rcases rvv.2 with ⟨_, h0⟩ | ⟨b, off, c, e, hb, hcs⟩
    · rw [h0] at hj; exact absurd hj (by simp)
    · injection e with e1 e2 e3
      subst e1
      have := hgg b off _ _ rfl (by omega)
      exact ⟨b, off, rfl, by omega, hb, (hcs j hj).1, (hcs j hj).2⟩
  clear ho hb1 rvv hgg
  go_wp2_with fail
  go_loopw [13] (fun i wr => ∃ k : Nat, k ≤ ts.length ∧ i = .int .i64 (k : Int) ∧ Hid (QI w wr (w.heap.size + 2) p ts (bestTo ts k).1 (bestTo ts k).2)) (fun i _ => ts.length - (intOf i).toNat)
  case atStart => exact ⟨0, Nat.zero_le _, rfl, HQ0⟩
  case round =>
    obtain ⟨k, hk, rfl, HQ⟩ := hrel
    clear HQ0
    by_cases hlt : k < ts.length
    · have hN : bestTo ts (k + 1) = if ar (bestTo ts k) < ar ts[k] then ts[k] else bestTo ts k := by rw [bestTo, getElem!_pos ts k hlt]
      obtain ⟨b, off, hp, hbB, hbl, c0, c1⟩ := HQ.out.list k hlt
      subst hp
      generalize ts[k] = P at hN c0 c1
      generalize bestTo ts k = D at hN HQ
      obtain ⟨x, y⟩ := P
      obtain ⟨bx, by'⟩ := D
      have HSX := Lib.hid (fun W => impl_ar (x, y) W)
      have HSB := Lib.hid (fun W => impl_ar (bx, by') W)
      simp only at c0 c1 HQ
      have hkl : (k : Int) < (ts.length : Int) := by omega
      obtain ⟨Br, hBr⟩ : ∃ Br, wr.heap.size = Br := ⟨_, rfl⟩
      have HQ2 : Hid (QI w (wr.alloc (.cells #[.int .i64 x, .int .i64 y] 31)) (w.heap.size + 2) (some ⟨b, off, none⟩) ts bx by') := HQ.out.later ((Below.refl _ _).alloc (Nat.le_refl _) _)
      have HR2 : Hid ((wr.alloc (.cells #[.int .i64 x, .int .i64 y] 31)).heap[Br]? = some (.cells #[.int .i64 x, .int .i64 y] 31 (0, 0))) := by
        have := heap_alloc_new wr (.cells #[.int .i64 x, .int .i64 y] 31)
        rwa [hBr] at this
      clear HQ hbB hbl
      have HN := Lib.hid hN
      clear hN
      go_wp2_with fail
      clear hBr c0 c1
      generalize wr.alloc (.cells #[.int .i64 x, .int .i64 y] 31) = wq at *
      obtain ⟨q0, q1, -, -⟩ := cells2 HQ2.out.best
      obtain ⟨r0, r1, -, -⟩ := cells2 HR2.out
      have HLT := Lib.hid (And.intro (Array.getElem?_eq_some_iff.1 HQ2.out.best).1 (Array.getElem?_eq_some_iff.1 HR2.out).1)
      generalize ar (bx, by') = A1 at *
      generalize ar (x, y) = A2 at *
      by_cases hgt : A1 < A2
      all_goals
        refine region_kept (C := fun wx => Below wq.heap.size wq wx) (drawn_at wq 1) (by kernel_rfl) (by kernel_rfl) ?_
        repeat
          (refine wq_step (fun K hK => ?_)
           go_simp
           first
             | (refine hK _ ?_; clear hK K)
             | (apply Exists.intro
                refine ⟨fun wx hC => ?_, hK _ ?_⟩
                · first
                  | with_reducible rfl
                  | with_reducible exact ((HSX.out wx).mono fun e w' h => ⟨h.1, hC.trans (h.2.mono hC.size)⟩)
                  | with_reducible exact ((HSB.out wx).mono fun e w' h => ⟨h.1, hC.trans (h.2.mono hC.size)⟩)
                  | (have d0 := (hC.cell (p := ⟨w.heap.size + 2, 0, none⟩) HLT.out.1).trans q0; have d1 := (hC.cell (p := ⟨w.heap.size + 2, 1, none⟩) HLT.out.1).trans q1; have d2 := (hC.cell (p := ⟨Br, 0, none⟩) HLT.out.2).trans r0; have d3 := (hC.cell (p := ⟨Br, 1, none⟩) HLT.out.2).trans r1; go_simp; first | done | rfl)
                clear hK K))
        refine wq_nil ?_
        intro w20 hC
        have HQ3 := Lib.hid (HQ2.out.later hC)
        have r0' := (hC.cell (p := ⟨Br, 0, none⟩) HLT.out.2).trans r0
        have r1' := (hC.cell (p := ⟨Br, 1, none⟩) HLT.out.2).trans r1
        obtain ⟨q0', q1', f0, f1⟩ := cells2 HQ3.out.best
        clear hC HQ2 HR2 q0 q1 r0 r1 HLT
      · go_wp2_with fail
        go_roundw
        case rel => exact ⟨k + 1, by omega, by go_num, by rw [HN.out, if_pos hgt]; exact HQ3.out.put x y⟩
        case measure => simp [intOf]; omega
      · go_wp2_with fail
        go_roundw
        case rel => exact ⟨k + 1, by omega, by go_num, by rw [HN.out, if_neg hgt]; exact HQ3⟩
        case measure => simp [intOf]; omega
    · obtain rfl : k = ts.length := by omega
      obtain ⟨x, y, hxy⟩ : ∃ x y, bestTo ts ts.length = (x, y) := ⟨_, _, rfl⟩
      rw [hxy] at HQ
      have hsome : (ts.length = 0 ∧ x = 0 ∧ y = 0) ∨ (0 < ts.length ∧ 1 ≤ x) := by
        by_cases h : ts.length = 0
        · rw [h] at hxy
          injection hxy with e1 e2
          exact .inl ⟨h, e1.symm, e2.symm⟩
        · have := best_some ts HTS.out ts.length (by omega) (Nat.le_refl _)
          rw [hxy] at this
          have := (someB_iff _ _).1 this
          exact .inr ⟨by omega, this.1.1⟩
      have HPE := Lib.hid hxy
      have HSO := Lib.hid hsome
      clear hxy hsome
      obtain ⟨q0, q1, -, -⟩ := cells2 HQ.out.best
      obtain ⟨o0, o1, f0, f1⟩ := cells2 HQ.out.res
      go_wp2_with fail
      rcases HSO.out with ⟨h0, rfl, rfl⟩ | ⟨h0, h1⟩
      · go_region
        all_goals
          clear q0 q1 o0 o1 f0 f1
          have l1 : (wr.setCell ⟨w.heap.size + 1, 0, none⟩ (.int .i64 0)).heap[w.heap.size + 1]? = some (.cells #[.int .i64 0, .int .i64 0] 31 (0, 0)) := (heap_setCell_same _ _ _ _ _ _ HQ.out.res).trans (by simp)
          have l2 : ((wr.setCell ⟨w.heap.size + 1, 0, none⟩ (.int .i64 0)).setCell ⟨w.heap.size + 1, 1, none⟩ (.int .i64 0)).heap[w.heap.size + 1]? = some (.cells #[.int .i64 0, .int .i64 0] 31 (0, 0)) := (heap_setCell_same _ _ _ _ _ _ l1).trans (by simp)
          have hb2 : Below w.heap.size w ((wr.setCell ⟨w.heap.size + 1, 0, none⟩ (.int .i64 0)).setCell ⟨w.heap.size + 1, 1, none⟩ (.int .i64 0)) := (HQ.out.below.setCell (by simp) _).setCell (by simp) _
          generalize (wr.setCell ⟨w.heap.size + 1, 0, none⟩ (.int .i64 0)).setCell ⟨w.heap.size + 1, 1, none⟩ (.int .i64 0) = wz at *
          obtain ⟨o0, o1, -, -⟩ := cells2 (show wz.drew.heap[w.heap.size + 1]? = _ from l2)
          have hb3 : Below w.heap.size w wz.drew := hb2.trans ((drawn_at wz 1).mono hb2.size)
          go_wp2_with fail
          refine bodyPost_ret (v := .tuple #[rect 0 0, .bool (decide (0 < ts.length))]) (by simp [results, Tryz.results11, go_sem, o0, o1, h0]) rfl ⟨by first | rw [HPE.out] | (rw [h0]; rfl), hb3⟩
      · have hx1 : (x == 0) = false := by simpa using (show ¬ x = 0 by omega)
        go_region
        all_goals
          clear q0 q1 o0 o1 f0 f1
          have l1 : (wr.setCell ⟨w.heap.size + 1, 0, none⟩ (.int .i64 x)).heap[w.heap.size + 1]? = some (.cells #[.int .i64 x, .int .i64 0] 31 (0, 0)) := (heap_setCell_same _ _ _ _ _ _ HQ.out.res).trans (by simp)
          have l2 : ((wr.setCell ⟨w.heap.size + 1, 0, none⟩ (.int .i64 x)).setCell ⟨w.heap.size + 1, 1, none⟩ (.int .i64 y)).heap[w.heap.size + 1]? = some (.cells #[.int .i64 x, .int .i64 y] 31 (0, 0)) := (heap_setCell_same _ _ _ _ _ _ l1).trans (by simp)
          have hb2 : Below w.heap.size w ((wr.setCell ⟨w.heap.size + 1, 0, none⟩ (.int .i64 x)).setCell ⟨w.heap.size + 1, 1, none⟩ (.int .i64 y)) := (HQ.out.below.setCell (by simp) _).setCell (by simp) _
          generalize (wr.setCell ⟨w.heap.size + 1, 0, none⟩ (.int .i64 x)).setCell ⟨w.heap.size + 1, 1, none⟩ (.int .i64 y) = wz at *
          obtain ⟨o0, o1, -, -⟩ := cells2 (show wz.drew.heap[w.heap.size + 1]? = _ from l2)
          have hb3 : Below w.heap.size w wz.drew := hb2.trans ((drawn_at wz 1).mono hb2.size)
          go_wp2_with fail
          refine bodyPost_ret (v := .tuple #[rect x y, .bool (decide (0 < ts.length))]) (by simp [results, Tryz.results11, go_sem, o0, o1, h0]) rfl ⟨by first | rw [HPE.out] | (rw [h0]; rfl), hb3⟩
end Go.Proofs.YtemmagkkigdhjaaGreatDoor.Largest

/-
  The ones of a matrix told by its entries, turned and exchanged; what turning, taking the other matrix and counting answer.
-/
namespace Go.Proofs.YtemmagkkigdhjaaGreatDoor.TurnM
open Go.RowKit Go.Proofs.YtemmagkkigdhjaaGreatDoor.Plain Go.Proofs.YtemmagkkigdhjaaGreatDoor.Base Go.Proofs.YtemmagkkigdhjaaGreatDoor.Valid Go.Proofs.YtemmagkkigdhjaaGreatDoor.Law Go.Proofs.YtemmagkkigdhjaaGreatDoor.GridPlain Go.Proofs.YtemmagkkigdhjaaGreatDoor.Grid Go.Proofs.YtemmagkkigdhjaaGreatDoor.Entry Go.Proofs.YtemmagkkigdhjaaGreatDoor.Pat Go.Proofs.YtemmagkkigdhjaaGreatDoor.Clos Go.Proofs.YtemmagkkigdhjaaGreatDoor.SpecTO Go.Proofs.YtemmagkkigdhjaaGreatDoor.ColF
set_option linter.unusedVariables false
set_option linter.unusedSectionVars false

theorem row_cnt (E : Nat → Nat → Bool) (x : Nat) : ∀ c, (rowB E x c).count 49 = sumN (fun y => (E x y).toNat) c
  | 0 => rfl
  | c + 1 => by rw [rowB_succ, List.count_append, row_cnt E x c, sumN]; cases E x c <;> rfl
/-- how many ones -/
def onesN (E : Nat → Nat → Bool) (r c : Nat) : Nat := sumN (fun x => sumN (fun y => (E x y).toNat) c) r
theorem rows_cnt (E : Nat → Nat → Bool) (c : Nat) : ∀ r, (rowsB E r c).count 49 = onesN E r c
  | 0 => rfl
  | r + 1 => by
    have := rows_cnt E c r
    unfold onesN at this ⊢
    rw [rowsB_succ, List.count_append, this, sumN, row_cnt]
theorem sum_add (f g : Nat → Nat) : ∀ n, sumN (fun x => f x + g x) n = sumN f n + sumN g n
  | 0 => rfl
  | n + 1 => by rw [sumN, sumN, sumN, sum_add f g n]; omega
theorem sum_zero : ∀ n, sumN (fun _ => 0) n = 0
  | 0 => rfl
  | n + 1 => by rw [sumN, sum_zero n]
theorem sum_one : ∀ n, sumN (fun _ => 1) n = n
  | 0 => rfl
  | n + 1 => by rw [sumN, sum_one n]
theorem sum_const (b : Nat) : ∀ n, sumN (fun _ => b) n = n * b
  | 0 => by simp [sumN]
  | n + 1 => by rw [sumN, sum_const b n, Nat.succ_mul]
theorem sum_swap (f : Nat → Nat → Nat) (c : Nat) : ∀ r, sumN (fun x => sumN (fun y => f x y) c) r = sumN (fun y => sumN (fun x => f x y) r) c
  | 0 => (sum_zero c).symm
  | r + 1 => by
    rw [sumN, sum_swap f c r, ← sum_add]
    rfl
theorem ones_turn (E : Nat → Nat → Bool) (r c : Nat) : onesN (fun x y => E y x) c r = onesN E r c := sum_swap (fun x y => (E y x).toNat) r c
theorem ones_other (E : Nat → Nat → Bool) (r c : Nat) : onesN (fun x y => !E x y) r c + onesN E r c = r * c := by
  unfold onesN
  rw [← sum_add, sumN_congr _ (fun _ => c) r, sum_const]
  intro x _
  rw [← sum_add, sumN_congr _ (fun _ => 1) c, sum_one]
  intro y _
  show (!E x y).toNat + (E x y).toNat = 1
  cases E x y <;> rfl
theorem ones_le (E : Nat → Nat → Bool) (r c : Nat) : onesN E r c ≤ r * c := by
  have := ones_other E r c
  omega
section
variable (E : Nat → Nat → Bool) (R C : Nat) (h1 : 1 ≤ R) (h2 : R ≤ 8) (h3 : 1 ≤ C) (h4 : C ≤ 8)
include h1 h2 h3 h4
theorem turn_yes (w : World) : Calls Tryz.prog 13 #[mat R C (str (rowsB E R C))] w fun e w' => e = .returned (.tuple #[mat C R (str (rowsB (fun x y => E y x) C R)), .bool true]) ∧ Below w.heap.size w w' :=
  turn_impl E R C h1 h2 h3 h4 _ w fun W => grid_yes E R C h1 h2 h3 h4 _ rfl (rows_max E R C h2 h4) (rows_small E R C h2 h4) (valid_rows E R C h1 h2 h3 h4) W
end
end Go.Proofs.YtemmagkkigdhjaaGreatDoor.TurnM

/-
  What the functions of a valid matrix answer that the law on maximal rectangles asks.
-/
namespace Go.Proofs.YtemmagkkigdhjaaGreatDoor.MxC
open Go.RowKit Go.Proofs.YtemmagkkigdhjaaGreatDoor.Plain Go.Proofs.YtemmagkkigdhjaaGreatDoor.Base Go.Proofs.YtemmagkkigdhjaaGreatDoor.Valid Go.Proofs.YtemmagkkigdhjaaGreatDoor.Law Go.Proofs.YtemmagkkigdhjaaGreatDoor.GridPlain Go.Proofs.YtemmagkkigdhjaaGreatDoor.Grid Go.Proofs.YtemmagkkigdhjaaGreatDoor.Entry Go.Proofs.YtemmagkkigdhjaaGreatDoor.Pat Go.Proofs.YtemmagkkigdhjaaGreatDoor.Rect Go.Proofs.YtemmagkkigdhjaaGreatDoor.Patch Go.Proofs.YtemmagkkigdhjaaGreatDoor.Board Go.Proofs.YtemmagkkigdhjaaGreatDoor.BoardM Go.Proofs.YtemmagkkigdhjaaGreatDoor.RValid Go.Proofs.YtemmagkkigdhjaaGreatDoor.MaxM Go.Proofs.YtemmagkkigdhjaaGreatDoor.MaxC Go.Proofs.YtemmagkkigdhjaaGreatDoor.Largest Go.Proofs.YtemmagkkigdhjaaGreatDoor.ColF Go.Proofs.YtemmagkkigdhjaaGreatDoor.MxM Go.Proofs.YtemmagkkigdhjaaGreatDoor.FreeL Go.Proofs.YtemmagkkigdhjaaGreatDoor.Area Go.Proofs.YtemmagkkigdhjaaGreatDoor.Bal Go.Proofs.YtemmagkkigdhjaaGreatDoor.Colour Go.Proofs.YtemmagkkigdhjaaGreatDoor.Where Go.Proofs.YtemmagkkigdhjaaGreatDoor.With Go.Proofs.YtemmagkkigdhjaaGreatDoor.Cols Go.Proofs.YtemmagkkigdhjaaGreatDoor.Grow Go.Proofs.YtemmagkkigdhjaaGreatDoor.GrowOf Go.Proofs.YtemmagkkigdhjaaGreatDoor.Meet Go.Proofs.YtemmagkkigdhjaaGreatDoor.GrowY
open Go.Proofs.YtemmagkkigdhjaaGreatDoor.KeysI (flat)
open Go.Proofs.YtemmagkkigdhjaaGreatDoor.Rects (RV)
open Go.Proofs.YtemmagkkigdhjaaGreatDoor.IcM (goodB)
set_option linter.unusedVariables false
set_option linter.unusedSectionVars false

section
variable (E : Nat → Nat → Bool) (R C : Nat) (h1 : 1 ≤ R) (h2 : R ≤ 8) (h3 : 1 ≤ C) (h4 : C ≤ 8)
include h1 h2 h3 h4
theorem max_impl (b : Bool) (w : World) : Calls Tryz.prog 5 #[mat R C (str (rowsB E R C)), .int .i64 (bitI b)] w fun e w' => ∃ v, e = .returned v ∧ w'.ownsRow w.heap.size 31 2 v (mx E b R C (2 ^ R - 1)).length (flat (mx E b R C (2 ^ R - 1))) ∧ Below w.heap.size w w' := by
  have hbd := fun W => board_yes R C E h1 h2 h3 h4 (rows_max E R C h2 h4) (valid_rows E R C h1 h2 h3 h4) W
  have z64 := pat64 (onB (fun x y => !E x y) R C) (onB_lt _ R C h4)
  have o64 := pat64 (onB E R C) (onB_lt _ R C h4)
  cases b
  · exact MaxB.impl_one E (fun x y => !E x y) false (fun x y => by cases E x y <;> rfl) R C h2 h4 _ _ z64 o64 (.inl ⟨rfl, rfl⟩) R C _ hbd w
  · exact MaxB.impl_one E E true (fun x y => by cases E x y <;> rfl) R C h2 h4 _ _ z64 o64 (.inr ⟨rfl, rfl⟩) R C _ hbd w
theorem max_len (b : Bool) : (mx E b R C (2 ^ R - 1)).length ≤ 1000 := by
  have hl := mx_len E b R C (2 ^ R - 1)
  have h5 := Nat.pow_le_pow_right (n := 2) (by decide) h2
  omega
theorem max_some (b : Bool) : ∀ p ∈ mx E b R C (2 ^ R - 1), someB p.1 p.2 = true := fun p hp => (someB_iff _ _).2 (by
  have := mx_wf E b R C _ h4 p hp
  have h5 := Nat.pow_le_pow_right (n := 2) (by decide) h2
  have hp1 := Nat.one_le_two_pow (n := R)
  omega)
theorem spec_max (b : Bool) (w : World) : Calls Tryz.prog 6 #[mat R C (str (rowsB E R C)), .int .i64 (bitI b)] w fun e w' => ∃ v, e = .returned v ∧ w'.ownsRow w.heap.size 31 2 v (mx E b R C (2 ^ R - 1)).length (flat (mx E b R C (2 ^ R - 1))) ∧ Below w.heap.size w w' :=
  MaxS.spec_yes E R C h1 h2 h3 h4 (rows_max E R C h2 h4) (valid_rows E R C h1 h2 h3 h4) b w
theorem large_impl (b : Bool) (w : World) : Calls Tryz.prog 11 #[mat R C (str (rowsB E R C)), .int .i64 (bitI b)] w fun e w' => e = .returned (.tuple #[rect (bestTo (mx E b R C (2 ^ R - 1)) (mx E b R C (2 ^ R - 1)).length).1 (bestTo (mx E b R C (2 ^ R - 1)) (mx E b R C (2 ^ R - 1)).length).2, .bool (decide (0 < (mx E b R C (2 ^ R - 1)).length))]) ∧ Below w.heap.size w w' :=
  impl_largest R C _ (bitI b) _ (max_len E R C h1 h2 h3 h4 b) (max_some E R C h1 h2 h3 h4 b) (fun W => max_impl E R C h1 h2 h3 h4 b W) w
theorem large_spec (b : Bool) (w : World) : Calls Tryz.prog 12 #[mat R C (str (rowsB E R C)), .int .i64 (bitI b)] w fun e w' => e = .returned (.tuple #[rect (bestTo (mx E b R C (2 ^ R - 1)) (mx E b R C (2 ^ R - 1)).length).1 (bestTo (mx E b R C (2 ^ R - 1)) (mx E b R C (2 ^ R - 1)).length).2, .bool (decide (0 < (mx E b R C (2 ^ R - 1)).length))]) ∧ Below w.heap.size w w' :=
  spec_largest R C _ (bitI b) _ (max_len E R C h1 h2 h3 h4 b) (max_some E R C h1 h2 h3 h4 b) (fun W => spec_max E R C h1 h2 h3 h4 b W) w
end
theorem rows_inj (E E' : Nat → Nat → Bool) (R C : Nat) (h : str (rowsB E R C) = str (rowsB E' R C)) (x y : Nat) (hx : x < R) (hy : y < C) : E x y = E' x y := by
  have hl : rowsB E R C = rowsB E' R C := by
    have h2 := congrArg (fun s : ByteArray => s.data.toList) h
    simpa [str] using h2
  have hk : x * C + y < R * C := by
    have : (x + 1) * C ≤ R * C := Nat.mul_le_mul_right C hx
    rw [Nat.succ_mul] at this
    omega
  have g1 := rowsB_get E R C (x * C + y) hk
  have g2 := rowsB_get E' R C (x * C + y) hk
  rw [hl, g2] at g1
  have hd : (x * C + y) / C = x := by rw [Nat.mul_comm, Nat.mul_add_div (by omega), Nat.div_eq_of_lt hy]; omega
  have hm : (x * C + y) % C = y := by rw [Nat.mul_comm, Nat.mul_add_mod, Nat.mod_eq_of_lt hy]
  rw [hd, hm] at g1
  have g3 := Option.some.inj g1
  cases e1 : E x y <;> cases e2 : E' x y <;> rw [e1, e2] at g3 <;> first | rfl | (simp [dig] at g3)
theorem good_congr (E E' : Nat → Nat → Bool) (b : Bool) (xs : List (Int × Int)) (R C : Nat) (h : ∀ x y, x < R → y < C → E x y = E' x y) : goodB E b xs R C = goodB E' b xs R C := by
  have key : ∀ n (f g : Nat → Bool), (∀ x, x < n → f x = g x) → (List.range n).all f = (List.range n).all g := by
    intro n f g hfg
    rw [Bool.eq_iff_iff, List.all_eq_true, List.all_eq_true]
    constructor
    · intro h1 x hx; rw [← hfg x (List.mem_range.1 hx)]; exact h1 x hx
    · intro h1 x hx; rw [hfg x (List.mem_range.1 hx)]; exact h1 x hx
  unfold goodB
  congr 1
  unfold IcM.allTo
  refine key _ _ _ fun x hx => ?_
  unfold IcM.rowTo
  refine key _ _ _ fun y hy => ?_
  unfold IcM.cellOK
  rw [h x y hx hy]
theorem cover_yes (E : Nat → Nat → Bool) (R C : Nat) (h1 : 1 ≤ R) (h2 : R ≤ 8) (h3 : 1 ≤ C) (h4 : C ≤ 8) (b : Bool) (v : Value) (w : World) (hv : RV w w.heap.size v (mx E b R C (2 ^ R - 1))) :
    Calls Tryz.prog 15 #[mat R C (str (rowsB E R C)), .int .i64 (bitI b), v] w fun e w' => e = .returned (.bool true) ∧ Below w.heap.size w w' := by
  have good := mx_cover E b R C h1 h2 h3 h4
  have hbd := fun W => board_yes R C E h1 h2 h3 h4 (rows_max E R C h2 h4) (valid_rows E R C h1 h2 h3 h4) W
  have z64 := pat64 (onB (fun x y => !E x y) R C) (onB_lt _ R C h4)
  have o64 := pat64 (onB E R C) (onB_lt _ R C h4)
  cases b with
  | false =>
    have hg := IcM.cov_good E false (fun x y => !E x y) (fun x y => by cases E x y <;> rfl) R C h2 h4 (mx E false R C (2 ^ R - 1)) (CovM.colR_zero E R C h2 h4)
    rw [show bitI false = 0 from rfl] at hg
    have := Cover.impl_cover R C h1 h2 h4 _ _ _ z64 0 (.inl ⟨rfl, rfl⟩) _ _ _ hbd (fun RS CS k5 k6 W => plain0 R C _ _ z64 o64 RS CS k5 k6 W) (mx E false R C (2 ^ R - 1)) v w hv
    rw [← CovM.cover_eq E (fun x y => !E x y) 0 (fun x y => by cases E x y <;> rfl) R C h2 h4 _ (CovM.colR_zero E R C h2 h4), hg, good] at this
    exact this
  | true =>
    have hg := IcM.cov_good E true E (fun x y => by cases E x y <;> rfl) R C h2 h4 (mx E true R C (2 ^ R - 1)) (CovM.colR_one E R C h2 h4)
    rw [show bitI true = 1 from rfl] at hg
    have := Cover.impl_cover R C h1 h2 h4 _ _ _ o64 1 (.inr ⟨rfl, rfl⟩) _ _ _ hbd (fun RS CS k5 k6 W => plain1 R C _ _ z64 o64 RS CS k5 k6 W) (mx E true R C (2 ^ R - 1)) v w hv
    rw [← CovM.cover_eq E E 1 (fun x y => by cases E x y <;> rfl) R C h2 h4 _ (CovM.colR_one E R C h2 h4), hg, good] at this
    exact this
section
variable (E : Nat → Nat → Bool) (R C : Nat) (h1 : 1 ≤ R) (h2 : R ≤ 8) (h3 : 1 ≤ C) (h4 : C ≤ 8) (RS CS : Nat) (k1 : 1 ≤ RS) (k2 : RS < 2 ^ R) (k3 : 1 ≤ CS) (k4 : CS < 2 ^ C) (k5 : RS < 256) (k6 : CS < 256)
include h1 h2 h3 h4 k1 k2 k3 k4 k5 k6
theorem col_im : ∀ w, Calls Tryz.prog 9 #[mat R C (str (rowsB E R C)), rect RS CS] w fun e w' => e = .returned (.int .i64 (colV (bal E RS CS R C) ((pop8 RS * pop8 CS : Nat) : Int))) ∧ Below w.heap.size w w' := by
  have hs := rows_max E R C h2 h4
  have hv := valid_rows E R C h1 h2 h3 h4
  have ht := rv_yes R C h2 h4 RS CS k1 k2 k3 k4
  have hbd := fun W => board_yes R C E h1 h2 h3 h4 hs hv W
  have him := impl_col_yes R C h2 h4 _ _ (pat64 _ (onB_lt _ R C h4)) (pat64 _ (onB_lt _ R C h4)) _ _ _ RS CS k5 k6 hbd ht _ _ rfl rfl
  have e0 := plain_pat (fun x y => !E x y) R C RS CS h2 h4 k5 k6
  have e1 := plain_pat E R C RS CS h2 h4 k5 k6
  have a1 := bal_area E RS CS R C h2 h4 k2 k4
  have a0 := bal_area (fun x y => !E x y) RS CS R C h2 h4 k2 k4
  rw [← bal_not] at a0
  have hin : ∀ x y, RS.testBit x = true → CS.testBit y = true → x < R ∧ y < C := fun x y hx hy => by
    constructor
    · rcases Nat.lt_or_ge x R with h | h
      · exact h
      · rw [bit_beyond RS x R k2 h] at hx; cases hx
    · rcases Nat.lt_or_ge y C with h | h
      · exact h
      · rw [bit_beyond CS y C k4 h] at hy; cases hy
  have g1 : (bal E RS CS R C = ((pop8 RS * pop8 CS : Nat) : Int)) ↔ (pat (rectB RS CS) 8 &&& (18446744073709551615 - pat (onB E R C) 8) = 0) := by
    rw [e1, a1]
    exact ⟨fun h x y hx hy => ⟨hin x y hx hy, h x y hx hy⟩, fun h x y hx hy => (h x y hx hy).2⟩
  have g0 : (- bal E RS CS R C = ((pop8 RS * pop8 CS : Nat) : Int)) ↔ (pat (rectB RS CS) 8 &&& (18446744073709551615 - pat (onB (fun x y => !E x y) R C) 8) = 0) := by
    rw [e0, a0]
    exact ⟨fun h x y hx hy => ⟨hin x y hx hy, h x y hx hy⟩, fun h x y hx hy => (h x y hx hy).2⟩
  have hpos : 1 ≤ pop8 RS * pop8 CS := Nat.mul_le_mul (pop8_pos RS k1 k5) (pop8_pos CS k3 k6)
  intro w
  have e : colV (bal E RS CS R C) ((pop8 RS * pop8 CS : Nat) : Int) = (if decide (pat (rectB RS CS) 8 &&& (18446744073709551615 - pat (onB (fun x y => !E x y) R C) 8) = 0) = true then 0 else if decide (pat (rectB RS CS) 8 &&& (18446744073709551615 - pat (onB E R C) 8) = 0) = true then 1 else -1) := by
    unfold colV
    by_cases hA : bal E RS CS R C = ((pop8 RS * pop8 CS : Nat) : Int)
    · rw [if_pos hA, decide_eq_true (g1.1 hA), decide_eq_false (fun h => by have := g0.2 h; omega)]
      rfl
    · rw [if_neg hA, decide_eq_false (fun h => hA (g1.2 h))]
      by_cases hB : bal E RS CS R C = - ((pop8 RS * pop8 CS : Nat) : Int)
      · rw [if_pos hB, decide_eq_true (g0.1 (by omega))]
        rfl
      · rw [if_neg hB, decide_eq_false (fun h => hB (by have := g0.2 h; omega))]
        rfl
  rw [e]
  exact him w
theorem col_plain_im (b : Bool) (hp : plainE E b RS CS) : ∀ w, Calls Tryz.prog 9 #[mat R C (str (rowsB E R C)), rect RS CS] w fun e w' => e = .returned (.int .i64 (bitI b)) ∧ Below w.heap.size w w' := by
  have hcol := col_im E R C h1 h2 h3 h4 RS CS k1 k2 k3 k4 k5 k6
  rw [colV_plain E b RS CS R C h2 h4 k1 k2 k3 k4 k5 k6 hp] at hcol
  exact hcol
theorem grow_im (b : Bool) (hp : plainE E b RS CS) : ∀ w, Calls Tryz.prog 8 #[mat R C (str (rowsB E R C)), rect RS CS] w fun e w' => e = .returned (.tuple #[rect ((rS E b R C CS : Nat) : Int) ((cS E b R C (rS E b R C CS) : Nat) : Int), .bool true]) ∧ Below w.heap.size w w' := by
  have hcol := col_im E R C h1 h2 h3 h4 RS CS k1 k2 k3 k4 k5 k6
  rw [colV_plain E b RS CS R C h2 h4 k1 k2 k3 k4 k5 k6 hp] at hcol
  have hbd := fun W => board_yes R C E h1 h2 h3 h4 (rows_max E R C h2 h4) (valid_rows E R C h1 h2 h3 h4) W
  have z64 := pat64 (onB (fun x y => !E x y) R C) (onB_lt _ R C h4)
  have o64 := pat64 (onB E R C) (onB_lt _ R C h4)
  have hcs : ∀ y, CS.testBit y = true → y < C := fun y hy => by
    rcases Nat.lt_or_ge y C with h | h
    · exact h
    · rw [bit_beyond CS y C k4 h] at hy; cases hy
  cases b
  · have hP : ∀ x y, (!E x y) = (E x y == false) := fun x y => by cases E x y <;> rfl
    have him : ∀ w, Calls Tryz.prog 9 #[mat R C (str (rowsB E R C)), rect RS CS] w fun e w' => e = .returned (.int .i64 0) ∧ Below w.heap.size w w' := hcol
    have er := rows_eq E (fun x y => !E x y) false hP R C CS h2 h4 k6 hcs
    have hrb : ∀ x, (rS E false R C CS).testBit x = true → x < R := fun x hx => ((rS_bit ..).1 hx).1
    have ec := cols_eq E (fun x y => !E x y) false hP R C _ h2 h4 (setB_lt8 _ R h2) hrb
    have ir := fun W => rows_with0 R C h2 h4 _ _ z64 o64 CS k6 W
    have ic := fun W => cols_with0 R C h2 h4 _ _ z64 o64 _ (setB_lt8 (fun x => allTo (fun y x => E x y) CS false x C) R h2) W
    have er' := fun W => (by rw [← er]; exact ir W : Calls Tryz.prog 50 #[brd R C (pat (onB (fun x y => !E x y) R C) 8) (pat (onB E R C) 8), .int .i64 (CS : Int), .int .i64 0] W fun e w' => e = .returned (.int .i64 ((setB (fun x => allTo (fun y x => E x y) CS false x C) R : Nat) : Int)) ∧ Below W.heap.size W w')
    have ec' := fun W => (by rw [← ec]; exact ic W : Calls Tryz.prog 49 #[brd R C (pat (onB (fun x y => !E x y) R C) 8) (pat (onB E R C) 8), .int .i64 ((setB (fun x => allTo (fun y x => E x y) CS false x C) R : Nat) : Int), .int .i64 0] W fun e w' => e = .returned (.int .i64 ((setB (fun y => allTo E (setB (fun x => allTo (fun y x => E x y) CS false x C) R) false y R) C : Nat) : Int)) ∧ Below W.heap.size W w')
    have ig := fun W => impl_grow R C _ _ RS CS _ _ 0 er' ec' W
    exact impl_growOf_yes _ _ _ _ _ _ _ _ _ 0 _ _ (by omega) (by omega) him hbd ig
  · have hP : ∀ x y, (E x y) = (E x y == true) := fun x y => by cases E x y <;> rfl
    have him : ∀ w, Calls Tryz.prog 9 #[mat R C (str (rowsB E R C)), rect RS CS] w fun e w' => e = .returned (.int .i64 1) ∧ Below w.heap.size w w' := hcol
    have er := rows_eq E (fun x y => E x y) true hP R C CS h2 h4 k6 hcs
    have hrb : ∀ x, (rS E true R C CS).testBit x = true → x < R := fun x hx => ((rS_bit ..).1 hx).1
    have ec := cols_eq E (fun x y => E x y) true hP R C _ h2 h4 (setB_lt8 _ R h2) hrb
    have ir := fun W => rows_with1 R C h2 h4 _ _ z64 o64 CS k6 W
    have ic := fun W => cols_with1 R C h2 h4 _ _ z64 o64 _ (setB_lt8 (fun x => allTo (fun y x => E x y) CS true x C) R h2) W
    have er' := fun W => (by rw [← er]; exact ir W : Calls Tryz.prog 50 #[brd R C (pat (onB (fun x y => !E x y) R C) 8) (pat (onB E R C) 8), .int .i64 (CS : Int), .int .i64 1] W fun e w' => e = .returned (.int .i64 ((setB (fun x => allTo (fun y x => E x y) CS true x C) R : Nat) : Int)) ∧ Below W.heap.size W w')
    have ec' := fun W => (by rw [← ec]; exact ic W : Calls Tryz.prog 49 #[brd R C (pat (onB (fun x y => !E x y) R C) 8) (pat (onB E R C) 8), .int .i64 ((setB (fun x => allTo (fun y x => E x y) CS true x C) R : Nat) : Int), .int .i64 1] W fun e w' => e = .returned (.int .i64 ((setB (fun y => allTo E (setB (fun x => allTo (fun y x => E x y) CS true x C) R) true y R) C : Nat) : Int)) ∧ Below W.heap.size W w')
    have ig := fun W => impl_grow R C _ _ RS CS _ _ 1 er' ec' W
    exact impl_growOf_yes _ _ _ _ _ _ _ _ _ 1 _ _ (by omega) (by omega) him hbd ig
end
end Go.Proofs.YtemmagkkigdhjaaGreatDoor.MxC

