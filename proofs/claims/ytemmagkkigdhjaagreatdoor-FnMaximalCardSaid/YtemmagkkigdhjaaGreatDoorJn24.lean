/-
  Texts of one seat, joined: MaxS, MaxI, MaxB.
-/
import Derived.Test.YtemmagkkigdhjaaGreatDoorJn12
import Derived.Test.YtemmagkkigdhjaaGreatDoorJn21
import Derived.Test.YtemmagkkigdhjaaGreatDoorJn22
import Derived.Test.YtemmagkkigdhjaaGreatDoorJn20
import Derived.Test.YtemmagkkigdhjaaGreatDoorJn23
import Derived.Maps.OwnSet
import Derived.Carry
/-
  The reference's l2Maximal and MaximalRects.
-/
namespace Go.Proofs.YtemmagkkigdhjaaGreatDoor.MaxS
open Go.RowKit Go.Proofs.YtemmagkkigdhjaaGreatDoor.Plain Go.Proofs.YtemmagkkigdhjaaGreatDoor.Base Go.Proofs.YtemmagkkigdhjaaGreatDoor.Valid Go.Proofs.YtemmagkkigdhjaaGreatDoor.Law Go.Proofs.YtemmagkkigdhjaaGreatDoor.GridPlain Go.Proofs.YtemmagkkigdhjaaGreatDoor.Grid Go.Proofs.YtemmagkkigdhjaaGreatDoor.Entry Go.Proofs.YtemmagkkigdhjaaGreatDoor.Pat Go.Proofs.YtemmagkkigdhjaaGreatDoor.Rect Go.Proofs.YtemmagkkigdhjaaGreatDoor.Board Go.Proofs.YtemmagkkigdhjaaGreatDoor.BoardM Go.Proofs.YtemmagkkigdhjaaGreatDoor.RValid Go.Proofs.YtemmagkkigdhjaaGreatDoor.Colour Go.Proofs.YtemmagkkigdhjaaGreatDoor.Where Go.Proofs.YtemmagkkigdhjaaGreatDoor.Turn1 Go.Proofs.YtemmagkkigdhjaaGreatDoor.Cols Go.Proofs.YtemmagkkigdhjaaGreatDoor.MaxM Go.Proofs.YtemmagkkigdhjaaGreatDoor.App
open Go.Proofs.YtemmagkkigdhjaaGreatDoor.KeysI (flat flat_next infoK two_new)
set_option linter.unusedVariables false

theorem own_lower {w : World} {B B' : Nat} {e : TypeId} {k n : Nat} {v : Value} {xs : List Value} (h : w.ownsRow B e k v n xs) (hB : B' ≤ B) : w.ownsRow B' e k v n xs := by
  refine ⟨h.1, ?_⟩
  rcases h.2 with h2 | ⟨g, cap, cur, h2, h3, h4⟩
  · exact .inl h2
  · exact .inr ⟨g, cap, cur, h2, Nat.le_trans hB h3, h4⟩

set_option maxHeartbeats 4000000 in
set_option maxRecDepth 100000 in
theorem l2_maximal (E : Nat → Nat → Bool) (R C : Nat) (hR1 : 1 ≤ R) (hR : R ≤ 8) (hC1 : 1 ≤ C) (hC : C ≤ 8) (b : Bool) (w : World) :
    Calls Tryz.prog 29 #[mat R C (str (rowsB E R C)), .int .i64 (bitI b)] w fun e w' => ∃ v, e = .returned v ∧ w'.ownsRow w.heap.size 31 2 v (mx E b R C (2 ^ R - 1)).length (flat (mx E b R C (2 ^ R - 1))) ∧ Below w.heap.size w w' := by
  obtain ⟨i0, hi, hz0, hz1, hz2⟩ := info_parts infoK
  have HCOL := Lib.hid (fun S hS W => cols_any E R C hR1 hR hC1 hC S hS b W)
  have HROW := Lib.hid (fun S hS W => rows_any E R C hR1 hR hC1 hC S hS b W)
  have HLEN := Lib.hid (fun k => mx_len E b R C k)
  have HN0 : Hid (mx E b R C 0 = []) := rfl
  have HNX : Hid (∀ q, mx E b R C (q + 1) = mx E b R C q ++ (if 0 < cS E b R C (q + 1) ∧ rS E b R C (cS E b R C (q + 1)) = q + 1 then [(((q + 1 : Nat) : Int), ((cS E b R C (q + 1) : Nat) : Int))] else [])) := fun q => rfl
  have HCL : Hid (∀ S, cS E b R C S < 256) := fun S => Nat.lt_of_lt_of_le (cS_lt E b R C S) (Nat.pow_le_pow_right (n := 2) (by decide) hC)
  have HRL : Hid (∀ T, rS E b R C T < 256) := fun T => Nat.lt_of_lt_of_le (rS_lt E b R C T) (Nat.pow_le_pow_right (n := 2) (by decide) hR)
  obtain ⟨hpw, hp1, hp2⟩ := pow8 R hR
  have hp3 : 2 ≤ 2 ^ R := by
    have := Nat.pow_le_pow_right (n := 2) (by decide) hR1
    omega
  generalize str (rowsB E R C) = s at *
  generalize 2 ^ R = N at *
  obtain ⟨bi, hbi⟩ : ∃ bi, bitI b = bi := ⟨_, rfl⟩
  rw [hbi] at HCOL HROW ⊢
  clear hbi
  go_enter Tryz.func29, Tryz.ntmps29
  go_wp2_with fail
  have e0 : MHolds (w.alloc (.cells #[.int .i64 (R : Int), .int .i64 (C : Int), .string s] 24)) w.heap.size 24 R C s := heap_alloc_new w _
  have hb0 : Below w.heap.size w (w.alloc (.cells #[.int .i64 (R : Int), .int .i64 (C : Int), .string s] 24)) := (Below.refl w.heap.size w).alloc (Nat.le_refl _) _
  have hs0 : w.heap.size ≤ (w.alloc (.cells #[.int .i64 (R : Int), .int .i64 (C : Int), .string s] 24)).heap.size := hb0.size
  have hsz : (w.alloc (.cells #[.int .i64 (R : Int), .int .i64 (C : Int), .string s] 24)).heap.size = w.heap.size + 1 := by simp
  generalize w.alloc (.cells #[.int .i64 (R : Int), .int .i64 (C : Int), .string s] 24) = W0 at *
  have HO0 : Hid (App.Own W0 (W0.alloc (.cells #[] 31)) 31 2 (.slice (some ⟨w.heap.size + 1, 0, none⟩) 0 0) (mx E b R C 0).length (flat (mx E b R C 0))) := by
    have h := App.Own.lit W0 31 2
    rw [hsz] at h
    exact h
  have HE := Lib.hid e0
  have HB0 := Lib.hid (And.intro hb0 hs0)
  clear e0 hb0 hs0 hsz
  go_loopw [5, 6] (fun v i wr => ∃ q : Nat, q + 1 ≤ N ∧ i = .int .i64 ((q + 1 : Nat) : Int) ∧ Hid (App.Own W0 wr 31 2 v (mx E b R C q).length (flat (mx E b R C q)))) (fun _ i _ => N - (intOf i).toNat)
  case atStart => exact ⟨0, by omega, rfl, HO0⟩
  case round =>
    obtain ⟨q, hq, rfl, HO⟩ := hrel
    clear HO0
    have hml := HLEN.out q
    obtain ⟨q0, q1, q2⟩ := mh_c (mh_on HE.out HO.out.below)
    obtain ⟨p, cp, rfl⟩ := HO.out.slice
    by_cases hlt : q + 1 < N
    · have HCC := Lib.hid (fun W => HCOL.out (q + 1) (by omega) W)
      have HRR := Lib.hid (fun W => HROW.out (cS E b R C (q + 1)) (HCL.out _) W)
      have hcl := HCL.out (q + 1)
      have hrl := HRL.out (cS E b R C (q + 1))
      have HX := Lib.hid (HNX.out q)
      have e1 : (setB (fun y => allTo E (q + 1) b y R) C : Nat) = cS E b R C (q + 1) := rfl
      have e2 : (setB (fun x => allTo (fun y x => E x y) (cS E b R C (q + 1)) b x C) R : Nat) = rS E b R C (cS E b R C (q + 1)) := rfl
      rw [e1] at HCC
      rw [e2] at HRR
      clear e1 e2
      generalize rS E b R C (cS E b R C (q + 1)) = r' at HRR hrl HX
      generalize cS E b R C (q + 1) = c at HCC HRR hcl HX
      obtain ⟨l0, hl0⟩ : ∃ l0, mx E b R C q = l0 := ⟨_, rfl⟩
      rw [hl0] at HX HO hml ⊢
      obtain ⟨k, hk⟩ : ∃ k, q + 1 = k := ⟨_, rfl⟩
      have HQ := Lib.hid (And.intro hl0 hk)
      rw [hk] at HCC HX hlt ⊢
      have hk1 : 1 ≤ k := by omega
      have hlk : l0.length ≤ 300 := by omega
      have hkl : (k : Int) < (N : Int) := by omega
      clear hl0 hk hq hml
      generalize hnn : l0.length = nn at HO hlk ⊢
      have HNN := Lib.hid hnn
      clear hnn
      go_wp2_with fail
      refine (HCC.out _).mono ?_
      rintro e w2 ⟨rfl, hb2⟩
      have HO2 := Lib.hid (HO.out.later hb2)
      clear hb2 q0 q1 q2 HO HCC
      obtain ⟨q0, q1, q2⟩ := mh_c (mh_on HE.out HO2.out.below)
      by_cases hc0 : 0 < c
      · have hci : (0 : Int) < (c : Int) := by omega
        go_wp2_with fail
        refine (HRR.out _).mono ?_
        rintro e w3 ⟨rfl, hb3⟩
        have HO3 := Lib.hid (HO2.out.later hb3)
        clear hb3 q0 q1 q2 HO2 HRR
        by_cases hrk : r' = k
        · subst hrk
          have HX1 := Lib.hid (HX.out.trans (by rw [if_pos ⟨hc0, rfl⟩]))
          have hbe : (((r' : Nat) : Int) == ((r' : Nat) : Int)) = true := by simp
          go_wp2_with (at_builtin; have HH := HO3.out; refine wpList_append_own _ rfl (.tmp 31) (.tmp 35) 27 rfl W0.heap.size 31 i0 (.agg #[.int .i64 0, .int .i64 0]) 2 16 Tryz.underlying27 hi hz0 hz1 hz2 rfl (by decide) _ _ _ rfl (HH.row.alloc _) ⟨w3.heap.size, 0, none⟩ 1 1 [.int .i64 (r' : Int), .int .i64 (c : Int)] rfl rfl ?a1 ?a2 ?a3 ?a4 ?a5 ?a6; go_must (case a1 => exact (two_new _ _ _ _)); go_must (case a2 => simp [Value.oneCell']); go_must (case a3 => (unfold maxLen; omega)); go_must (case a4 => omega); go_must (case a5 => (have := HH.below.size; simp at this ⊢; omega)); go_must (clear HH; intro v3 w3 hown3 hgrow3 _; have H3 := Lib.hid (App.Own.next HO3.out _ hown3 hgrow3); clear HO3 hown3 hgrow3))
          go_roundw
          case rel => exact ⟨r', by omega, by go_num, by rw [HX1.out, List.length_append, HNN.out, flat_next]; exact H3⟩
          case measure => simp [intOf]; omega
        · have hne : (((r' : Nat) : Int) == ((k : Nat) : Int)) = false := by simp; omega
          have HX1 := Lib.hid (HX.out.trans (by rw [if_neg (fun h => hrk h.2), List.append_nil]))
          go_wp2_with fail
          go_roundw
          case rel => exact ⟨k, by omega, by go_num, by rw [HX1.out, HNN.out]; exact HO3⟩
          case measure => simp [intOf]; omega
      · have hci : ¬ (0 : Int) < (c : Int) := by omega
        have HX1 := Lib.hid (HX.out.trans (by rw [if_neg (fun h => hc0 h.1), List.append_nil]))
        go_wp2_with fail
        go_roundw
        case rel => exact ⟨k, by omega, by go_num, by rw [HX1.out, HNN.out]; exact HO2⟩
        case measure => simp [intOf]; omega
    · obtain rfl : N = q + 1 := by omega
      go_wp2_with fail
      go_ret
      exact ⟨_, rfl, own_lower (by rw [show q + 1 - 1 = q by omega]; exact HO.out.row) HB0.out.2, HB0.out.1.trans (HO.out.below.mono HB0.out.2)⟩

set_option maxHeartbeats 1000000 in
theorem spec_no (r c : Int) (s : ByteArray) (hs : s.size ≤ maxLen) (bit : Int) (b : Bool) (hb : validB r c s = b) (h : b = false ∨ (bit ≠ 0 ∧ bit ≠ 1)) (w : World) :
    Calls Tryz.prog 6 #[mat r c s, .int .i64 bit] w fun e w' => ∃ v, e = .returned v ∧ w'.ownsRow w.heap.size 31 2 v 0 (flat []) ∧ Below w.heap.size w w' := by
  have HV := Lib.hid hb
  have HH := Lib.hid h
  clear hb h
  have own0 : ∀ W : World, w.heap.size ≤ W.heap.size → (W.alloc (.cells #[] 31)).ownsRow w.heap.size 31 2 (.slice (some ⟨W.heap.size, 0, none⟩) 0 0) 0 (flat []) := fun W hW => own_lower (App.Own.lit W 31 2).row hW
  have HO := Lib.hid own0
  clear own0
  go_enter Tryz.func6, Tryz.ntmps6
  go_wp2_with fail
  refine (spec_valid r c s hs _).mono ?_
  rintro e w1 ⟨rfl, hb1⟩
  rw [HV.out]
  have HB := Lib.hid (bstep ((Below.refl w.heap.size w).alloc (Nat.le_refl _) _) hb1)
  clear hb1
  cases b
  · go_wp2_with fail
    go_ret
    exact ⟨_, rfl, HO.out _ HB.out.size, HB.out.alloc HB.out.size _⟩
  · have HN : Hid (decide (0 ≤ bit ∧ bit ≤ 1) = false) := decide_eq_false (by have := HH.out; simp at this; omega)
    go_wp2_with fail
    refine (in_any bit 0 1 _).mono ?_
    rintro e w' ⟨rfl, rfl⟩
    rw [HN.out]
    go_wp2_with fail
    go_ret
    exact ⟨_, rfl, HO.out _ HB.out.size, HB.out.alloc HB.out.size _⟩

set_option maxHeartbeats 1000000 in
theorem spec_yes (E : Nat → Nat → Bool) (R C : Nat) (hR1 : 1 ≤ R) (hR : R ≤ 8) (hC1 : 1 ≤ C) (hC : C ≤ 8) (hs : (str (rowsB E R C)).size ≤ maxLen) (hv : validB R C (str (rowsB E R C)) = true) (b : Bool) (w : World) :
    Calls Tryz.prog 6 #[mat R C (str (rowsB E R C)), .int .i64 (bitI b)] w fun e w' => ∃ v, e = .returned v ∧ w'.ownsRow w.heap.size 31 2 v (mx E b R C (2 ^ R - 1)).length (flat (mx E b R C (2 ^ R - 1))) ∧ Below w.heap.size w w' := by
  have HL := Lib.hid (fun W => l2_maximal E R C hR1 hR hC1 hC b W)
  have HV := Lib.hid hv
  generalize mx E b R C (2 ^ R - 1) = l at *
  generalize str (rowsB E R C) = s at *
  have HN : Hid (decide (0 ≤ bitI b ∧ bitI b ≤ 1) = true) := decide_eq_true (by cases b <;> decide)
  generalize bitI b = bit at *
  clear hv
  go_enter Tryz.func6, Tryz.ntmps6
  go_wp2_with fail
  refine (spec_valid R C s hs _).mono ?_
  rintro e w1 ⟨rfl, hb1⟩
  rw [HV.out]
  have hm := mh_on (w1 := w1) (show MHolds (w.alloc (.cells #[.int .i64 (R : Int), .int .i64 (C : Int), .string s] 24)) w.heap.size 24 R C s from heap_alloc_new w _) hb1
  have HB := Lib.hid (bstep ((Below.refl w.heap.size w).alloc (Nat.le_refl _) _) hb1)
  clear hb1
  obtain ⟨q0, q1, q2⟩ := mh_c hm
  clear hm
  go_wp2_with fail
  refine (in_any bit 0 1 _).mono ?_
  rintro e w' ⟨rfl, rfl⟩
  rw [HN.out]
  go_wp2_with fail
  refine (HL.out _).mono ?_
  rintro e w2 ⟨v, rfl, ho, hb2⟩
  have HO := Lib.hid (And.intro (own_lower ho HB.out.size) (HB.out.trans (hb2.mono HB.out.size)))
  clear ho hb2
  go_wp2_with fail
  go_ret
  exact ⟨_, rfl, HO.out.1, HO.out.2⟩
end Go.Proofs.YtemmagkkigdhjaaGreatDoor.MaxS

/-
  The program's MaximalRects.
-/
namespace Go.Proofs.YtemmagkkigdhjaaGreatDoor.MaxI
open Go.RowKit Go.Maps Go.Proofs.YtemmagkkigdhjaaGreatDoor.Plain Go.Proofs.YtemmagkkigdhjaaGreatDoor.Base Go.Proofs.YtemmagkkigdhjaaGreatDoor.Valid Go.Proofs.YtemmagkkigdhjaaGreatDoor.Pat Go.Proofs.YtemmagkkigdhjaaGreatDoor.Rect Go.Proofs.YtemmagkkigdhjaaGreatDoor.Board Go.Proofs.YtemmagkkigdhjaaGreatDoor.BoardM Go.Proofs.YtemmagkkigdhjaaGreatDoor.KeysR Go.Proofs.YtemmagkkigdhjaaGreatDoor.KeysI Go.Proofs.YtemmagkkigdhjaaGreatDoor.Widest Go.Proofs.YtemmagkkigdhjaaGreatDoor.Range
open Go.Proofs.YtemmagkkigdhjaaGreatDoor.EachS (upS)
open Go.Proofs.YtemmagkkigdhjaaGreatDoor.FreeInV
open Go.Proofs.YtemmagkkigdhjaaGreatDoor.FreeIn (wpIn_value wpIn_store)
set_option linter.unusedVariables false
attribute [local go_sem] Oper.semAt_some

/-- what the loop keeps: the boxes of the value, the board and the map; the map's keys -/
structure MI (w0 : World) (Bt Bb Bm mb : Nat) (R C : Int) (z o : Nat) (bit : Int) (gp : Nat → Int × Int) (pre : List (Fin 256)) (W : World) : Prop where
  t : W.heap[Bt]? = some (.cells #[.int .i64 bit] 3 (0, 0))
  b : W.heap[Bb]? = some (.cells #[.int .i64 R, .int .i64 C, .int .u64 (z : Int), .int .u64 (o : Int)] 50 (0, 0))
  m : W.heap[Bm]? = some (.cells #[.map (some mb)] 52 (0, 0))
  map : ∃ D, W.ownsMap Tryz.prog 31 (plainElem (H := Unit) Tryz.prog 4) mb pre.length D ∧ KeysAre D (pre.map fun x => gp x.val)
  below : Below w0.heap.size w0 W
theorem below_row {n B : Nat} {w0 W W' : World} {row : Option Nat} (hn : n ≤ W.heap.size) (h : Below n w0 W) (hg : W.grownBy W' row) (hr : ∀ r, row = some r → n ≤ r) : Below n w0 W' :=
  h.trans ⟨hg.os, hg.tape, hg.output, hg.size, fun k hk => hg.block k (by omega) (fun e => by have := hr k e.symm; omega)⟩
theorem MI.own {B : Nat} {w0 : World} {Bt Bb Bm mb : Nat} {R C : Int} {z o : Nat} {bit : Int} {gp : Nat → Int × Int} (hB : w0.heap.size ≤ B) (hm : mb < B) : OwnFrom B (fun pre W => MI w0 Bt Bb Bm mb R C z o bit gp pre W) :=
  fun pre W W' row hs hg hr => ⟨row_kept hs.t hg (fun r e => (hr r e).2), row_kept hs.b hg (fun r e => (hr r e).2), row_kept hs.m hg (fun r e => (hr r e).2),
    (by obtain ⟨D, h1, h2⟩ := hs.map; exact ⟨D, h1.kept hg (fun e => by have := (hr mb e.symm).1; omega), h2⟩),
    below_row (B := B) hs.below.size hs.below hg (fun r e => by have := (hr r e).1; omega)⟩
theorem MI.later {w0 : World} {Bt Bb Bm mb : Nat} {R C : Int} {z o : Nat} {bit : Int} {gp : Nat → Int × Int} {pre : List (Fin 256)} {A W : World} (h : MI w0 Bt Bb Bm mb R C z o bit gp pre A) (hb : Below A.heap.size A W) : MI w0 Bt Bb Bm mb R C z o bit gp pre W :=
  ⟨(hb.block _ (Array.getElem?_eq_some_iff.1 h.t).1).trans h.t, (hb.block _ (Array.getElem?_eq_some_iff.1 h.b).1).trans h.b, (hb.block _ (Array.getElem?_eq_some_iff.1 h.m).1).trans h.m,
    (by obtain ⟨D, h1, h2⟩ := h.map; exact ⟨D, h1.kept (grown_of_below hb) (by simp), h2⟩), rstep h.below hb⟩
theorem MI.put {w0 : World} {Bt Bb Bm mb : Nat} {R C : Int} {z o : Nat} {bit : Int} {gp : Nat → Int × Int} {pre : List (Fin 256)} {x : Fin 256} {A W : World} (h : MI w0 Bt Bb Bm mb R C z o bit gp pre A) (hg : A.grownBy W (some mb))
    (hmap : ∃ D, W.ownsMap Tryz.prog 31 (plainElem (H := Unit) Tryz.prog 4) mb (pre.length + 1) D ∧ KeysAre D ((pre.map fun x => gp x.val) ++ [gp x.val])) (h1 : mb ≠ Bt) (h2 : mb ≠ Bb) (h3 : mb ≠ Bm) (h4 : w0.heap.size ≤ mb) : MI w0 Bt Bb Bm mb R C z o bit gp (pre ++ [x]) W := by
  have hk := KeepBut.of_grown (l := mb) hg
  obtain ⟨D, hm1, hm2⟩ := hmap
  refine ⟨hk.obj h.t (Ne.symm h1) (Ne.symm h1), hk.obj h.b (Ne.symm h2) (Ne.symm h2), hk.obj h.m (Ne.symm h3) (Ne.symm h3), ⟨D, ?_, ?_⟩, below_row (B := 0) h.below.size h.below hg (fun r e => by cases e; exact h4)⟩
  · rw [List.length_append]; exact hm1
  · rw [List.map_append]; exact hm2
theorem MI.cells {w0 : World} {Bt Bb Bm mb : Nat} {R C : Int} {z o : Nat} {bit : Int} {gp : Nat → Int × Int} {pre : List (Fin 256)} {W : World} (h : MI w0 Bt Bb Bm mb R C z o bit gp pre W) :
    W.cell? ⟨Bt, 0, none⟩ = some (.int .i64 bit) ∧ (W.cell? ⟨Bb, 0, none⟩ = some (.int .i64 R) ∧ W.cell? ⟨Bb, 1, none⟩ = some (.int .i64 C) ∧ W.cell? ⟨Bb, 2, none⟩ = some (.int .u64 (z : Int)) ∧ W.cell? ⟨Bb, 3, none⟩ = some (.int .u64 (o : Int))) ∧ W.cell? ⟨Bm, 0, none⟩ = some (.map (some mb)) :=
  ⟨cell_of_row _ _ 0 _ _ _ h.t, ⟨cell_of_row _ _ 0 _ _ _ h.b, cell_of_row _ _ 1 _ _ _ h.b, cell_of_row _ _ 2 _ _ _ h.b, cell_of_row _ _ 3 _ _ _ h.b⟩, cell_of_row _ _ 0 _ _ _ h.m⟩

/-- the blocks that are laid ahead of the loop -/
theorem five (w1 : World) (X Y Z X2 : Obj) :
    let W0 := ((((w1.alloc X).alloc (.map #[] 0)).alloc Y).alloc X2).alloc Z
    W0.heap.size = w1.heap.size + 5 ∧ W0.heap[w1.heap.size]? = some X ∧ W0.heap[w1.heap.size + 1 + 1]? = some Y ∧ W0.heap[w1.heap.size + 1 + 1 + 1]? = some X2 ∧ W0.heap[w1.heap.size + 1 + 1 + 1 + 1]? = some Z ∧
      W0.ownsMap Tryz.prog 31 (plainElem (H := Unit) Tryz.prog 4) (w1.heap.size + 1) 0 (.map []) ∧ Below w1.heap.size w1 W0 := by
  intro W0
  have hm := World.ownsMap_made (H := Unit) (w1.alloc X) Tryz.prog 31 (plainElem (H := Unit) Tryz.prog 4)
  rw [World.size_alloc] at hm
  refine ⟨by simp [W0], ?_, ?_, ?_, ?_, ((hm.alloc Y).alloc X2).alloc Z, ((((Below.refl _ _).alloc (Nat.le_refl _) X).alloc (by simp) _).alloc (by simp; omega) Y |>.alloc (by simp; omega) X2).alloc (by simp; omega) Z⟩
  · exact (Below.heap_alloc _ _ _ (by simp; omega)).trans ((Below.heap_alloc _ _ _ (by simp; omega)).trans ((Below.heap_alloc _ _ _ (by simp; omega)).trans ((Below.heap_alloc _ _ _ (by simp)).trans (heap_alloc_new w1 X))))
  · have h := heap_alloc_new ((w1.alloc X).alloc (.map #[] 0)) Y
    rw [World.size_alloc, World.size_alloc] at h
    exact (Below.heap_alloc _ _ _ (by simp)).trans ((Below.heap_alloc _ _ _ (by simp)).trans h)
  · have h := heap_alloc_new (((w1.alloc X).alloc (.map #[] 0)).alloc Y) X2
    rw [World.size_alloc, World.size_alloc, World.size_alloc] at h
    exact (Below.heap_alloc _ _ _ (by simp)).trans h
  · have h := heap_alloc_new ((((w1.alloc X).alloc (.map #[] 0)).alloc Y).alloc X2) Z
    rw [World.size_alloc, World.size_alloc, World.size_alloc, World.size_alloc] at h
    exact h

/-- a box of one number -/
structure TB (w : World) (b : Nat) (x : Int) : Prop where
  blk : w.heap[b]? = some (.cells #[.int .i64 x] 3 (0, 0))
  cell : w.cell? ⟨b, 0, none⟩ = some (.int .i64 x)
  lt : b < w.heap.size
theorem TB.later {w : World} {b : Nat} {x : Int} (h : TB w b x) (X Y Z : Obj) : (((w.alloc X).alloc Y).alloc Z).cell? ⟨b, 0, none⟩ = some (.int .i64 x) := by
  have hb := (((Below.refl w.heap.size w).alloc (Nat.le_refl _) X).alloc (by simp) Y).alloc (by simp; omega) Z
  exact (hb.cell (p := ⟨b, 0, none⟩) h.lt).trans h.cell
theorem bit_box {w w1 : World} {X : Obj} {x : Int} (hb : Below ((w.alloc X).alloc (.cells #[.int .i64 x] 3)).heap.size ((w.alloc X).alloc (.cells #[.int .i64 x] 3)) w1) : TB w1 (w.heap.size + 1) x := by
  have h : w1.heap[w.heap.size + 1]? = some (.cells #[.int .i64 x] 3 (0, 0)) := (hb.block _ (by simp)).trans (by have := heap_alloc_new (w.alloc X) (.cells #[.int .i64 x] 3); rwa [World.size_alloc] at this)
  exact ⟨h, cell_of_row _ _ 0 _ _ _ h, (Array.getElem?_eq_some_iff.1 h).1⟩

set_option maxRecDepth 100000 in
set_option maxHeartbeats 4000000 in
theorem maximal_in (R C : Nat) (hR : R ≤ 8) (z o : Nat) (rr cc : Int) (s : ByteArray) (bit : Int) (hbit : bit = 0 ∨ bit = 1) (cs : Nat → Nat) (gp : Nat → Int × Int)
    (hbo : ∀ W : World, Calls Tryz.prog 20 #[mat rr cc s] W fun e w' => e = .returned (brd R C z o) ∧ Below W.heap.size W w')
    (hcols : ∀ S : Nat, S < 256 → ∀ W : World, Calls Tryz.prog 49 #[brd R C z o, .int .i64 (S : Int), .int .i64 bit] W fun e w' => e = .returned (.int .i64 (cs S : Nat)) ∧ Below W.heap.size W w')
    (hgrow : ∀ S : Nat, S < 256 → ∀ W : World, Calls Tryz.prog 22 #[brd R C z o, rect (S : Int) (cs S : Nat), .int .i64 bit] W fun e w' => e = .returned (rect (gp S).1 (gp S).2) ∧ Below W.heap.size W w')
    (hwf : ∀ S : Nat, S < 256 → WF (gp S).1 ∧ WF (gp S).2) (hlen : ∀ ss, AllOf ((wide cs (upS (2 ^ R - 1))).map fun x => gp x.val) ss → ss.length ≤ 1000)
    (w : World) :
    CallsIn Fence.wide 9 Tryz.prog 5 #[mat rr cc s, .int .i64 bit] w fun e w' => ∃ v ts, e = .returned v ∧ AllOf ((wide cs (upS (2 ^ R - 1))).map fun x => gp x.val) ts ∧ ts.Pairwise (fun p q => p.1 ≤ q.1) ∧
      w'.ownsRow w.heap.size 31 2 v ts.length (flat ts) ∧ Below w.heap.size w w' := by
  have HBO := Lib.hid hbo
  have HC := Lib.hid hcols
  have HG := Lib.hid hgrow
  have HWF := Lib.hid hwf
  have HBit := Lib.hid hbit
  have HIS := Lib.hid (fun W => Go.Proofs.YtemmagkkigdhjaaGreatDoor.Grow.isBit_any bit (by omega) W)
  have HD := Lib.hid (decide_eq_true (show 0 ≤ bit by omega))
  clear hbo hcols hgrow hwf hbit
  refine callsIn_of_wp_marks Tryz.func5 rfl trivial ?_ rfl
  simp only [Tryz.ntmps5, List.size_toArray, List.length_cons, List.length_nil, Nat.reduceAdd, Nat.reduceSub, Array.replicate_succ, Array.replicate_zero, List.push_toArray, List.append_toArray, List.nil_append, List.cons_append]
  have hmm := @run_makeMap Tryz.prog
  gi_wp2_with (first
    | (refine ⟨trivial, ?_⟩; gi_at_call 19; refine (callsIn_wide.2 (HIS.out _)).mono ?_; rintro e w' ⟨rfl, rfl⟩; rw [HD.out])
    | (refine ⟨trivial, ?_⟩; gi_at_call 20; refine (callsIn_wide.2 (HBO.out _)).mono ?_; rintro e w1 ⟨rfl, hb1⟩; have ht1 := bit_box hb1; have ht2 := ht1.cell; have ht3 := ht1.lt; have ht4 := ht1.later; have HT1 := Lib.hid ht1; have HB1 := Lib.hid hb1; clear hb1 ht1)
    | (refine ⟨trivial, ?_⟩; gi_at_call 21; refine (callsIn_wide.2 (widest_call _ _ _ _ _ _)).mono ?_; rintro e w2 ⟨rfl, rfl⟩))
  have hLEN := Lib.hid hlen
  clear hlen ht2 ht3 ht4 hmm HIS HBO HD
  have h5 := five w1 (.cells #[.int .i64 (R : Int), .int .i64 (C : Int), .int .u64 (z : Int), .int .u64 (o : Int)] 50) (.cells #[.map (some (w1.heap.size + 1))] 52) (.cells #[.int .i64 bit] 3) (.cells #[.int .i64 (R : Int), .int .i64 (C : Int), .int .u64 (z : Int), .int .u64 (o : Int)] 50)
  simp only at h5
  obtain ⟨W0, hW0⟩ : ∃ W0, ((((w1.alloc (.cells #[.int .i64 (R : Int), .int .i64 (C : Int), .int .u64 (z : Int), .int .u64 (o : Int)] 50)).alloc (.map #[] 0)).alloc (.cells #[.map (some (w1.heap.size + 1))] 52)).alloc (.cells #[.int .i64 (R : Int), .int .i64 (C : Int), .int .u64 (z : Int), .int .u64 (o : Int)] 50)).alloc (.cells #[.int .i64 bit] 3) = W0 := ⟨_, rfl⟩
  rw [hW0] at h5 ⊢
  clear hW0
  obtain ⟨hsz, hx1, hy, hx2, hz, hmap, hb5⟩ := h5
  have hw1 : w.heap.size + 2 ≤ w1.heap.size := by have := HB1.out.size; simpa using this
  have hbw : Below w.heap.size w W0 := (((Below.refl w.heap.size w).alloc (Nat.le_refl _) _).alloc (by simp) _).trans ((HB1.out.mono (by simp; omega)).trans (hb5.mono (by omega)))
  have hst : MI w (w.heap.size + 1) w1.heap.size (w1.heap.size + 1 + 1) (w1.heap.size + 1) R C z o bit gp [] W0 :=
    ⟨(hb5.block _ (by omega)).trans HT1.out.blk, hx1, hy, ⟨_, hmap, KeysAre.start⟩, hbw⟩
  have HST := Lib.hid hst
  generalize w1.heap.size = H at *
  have hseq := widest_all 8 (by decide) R C hR z o bit cs HC.out (H + 1 + 1 + 1) (H + 1 + 1 + 1 + 1) (H + 1) W0 hx2 hz (by omega) (by omega) (by omega)
  have HSEQ := Lib.hid hseq
  clear hseq hx1 hx2 hy hz hmap hb5 hbw hst HC HT1 HB1
  refine wp_range_all rfl (by decide) (gf := 47) (lb := #[.pointer (some ⟨H + 1 + 1 + 1, 0, none⟩), .pointer (some ⟨H + 1 + 1 + 1 + 1, 0, none⟩)]) rfl trivial (enters_of Tryz.func47 (by kernel_rfl) rfl)
    HSEQ.out (Below.refl _ _) (fun _ => rfl)
    (fun pre W => MI w (w.heap.size + 1) H (H + 1 + 1) (H + 1) R C z o bit gp pre W) (MI.own (by omega) (by omega)) HST.out
    (fun x a' W => ∃ Bx, W.heap[Bx]? = some (.cells #[.int .i64 (x.val : Int), .int .i64 ((cs x.val : Nat) : Int)] 31 (0, 0)) ∧ a' = { tmps := #[mat rr cc s, .int .i64 bit, .pointer (some ⟨w.heap.size, 0, none⟩), .pointer (some ⟨w.heap.size + 1, 0, none⟩), .slice none 0 0,
      .pointer (some ⟨H, 0, none⟩), .pointer (some ⟨H + 1 + 1, 0, none⟩), .pointer (some ⟨Bx, 0, none⟩), .int .i64 bit, .bool true, .bool false, .agg #[.int .i64 rr, .int .i64 cc, .string s], brd R C z o, .map (some (H + 1)), brd R C z o, .int .i64 bit,
      .func (.func 47) #[] #[.pointer (some ⟨H + 1 + 1 + 1, 0, none⟩), .pointer (some ⟨H + 1 + 1 + 1 + 1, 0, none⟩)], rect (x.val : Int) ((cs x.val : Nat) : Int), undef, undef, undef, undef, undef, undef, undef, undef], defers := [] })
    (fun x a' _ A B row hs hg hr => by
      obtain ⟨Bx, hbx, ha⟩ := hs
      exact ⟨Bx, row_kept hbx hg (fun r e => (hr r e).2), ha⟩) ?assign ?body ?done
  case assign =>
    intro l pre x W K hl hI hK
    gi_wp2
    have hb := (Below.refl W.heap.size W).alloc (Nat.le_refl _) (.cells #[.int .i64 (x.val : Int), .int .i64 ((cs x.val : Nat) : Int)] 31)
    exact hK _ _ ((KeepsOthers.of_below hb).from _) (KeepBut.of_below hb) (hI.later hb) ⟨W.heap.size, heap_alloc_new W _, rfl⟩
  case body =>
    rintro l pre x a' W hl hlW hI ⟨Bx, hbx, rfl⟩ hlen
    gi_wp2
    have HI := Lib.hid hI
    have HX := Lib.hid hbx
    have hx8 := x.isLt
    have HGX := Lib.hid (fun W1 => HG.out x.val hx8 W1)
    have HWX := Lib.hid (HWF.out x.val hx8)
    clear hI hbx
    refine wpIn_region_val (fun | 0 => fun v => v = .map (some (H + 1)) | 1 => fun v => v = brd R C z o | 2 => fun v => v = rect (x.val : Int) ((cs x.val : Nat) : Int) | 3 => fun v => v = .int .i64 bit | 4 => fun v => v = rect (gp x.val).1 (gp x.val).2 | _ => fun _ => True) 5
      (fun wa wb => wa.grownBy wb (some (H + 1)) ∧ ∃ D, wb.ownsMap Tryz.prog 31 (plainElem (H := Unit) Tryz.prog 4) (H + 1) (pre.length + 1) D ∧ KeysAre D ((pre.map fun x => gp x.val) ++ [gp x.val])) _ (by kernel_rfl) (by kernel_rfl) rfl rfl rfl rfl (by kernel_rfl) ?con ?st ?en
    case con =>
      intro i o' ho hi a wx hbx hf
      have hM := HI.out.later hbx
      obtain ⟨t0, ⟨q0, q1, q2, q3⟩, m0⟩ := hM.cells
      match i, ho with
      | 0, ho =>
        obtain rfl := Option.some.inj ho
        have b6 : a.tmps[6]?.getD undef = .pointer (some ⟨H + 1 + 1, 0, none⟩) := hf.2 6 (by kernel_rfl)
        exact wpIn_value (.map (some (H + 1))) rfl (by go_simp) ⟨_, rfl, rfl, Below.refl _ _⟩
      | 1, ho =>
        obtain rfl := Option.some.inj ho
        have b5 : a.tmps[5]?.getD undef = .pointer (some ⟨H, 0, none⟩) := hf.2 5 (by kernel_rfl)
        exact wpIn_value (brd R C z o) rfl (by go_simp) ⟨_, rfl, rfl, Below.refl _ _⟩
      | 2, ho =>
        obtain rfl := Option.some.inj ho
        have b7 : a.tmps[7]?.getD undef = .pointer (some ⟨Bx, 0, none⟩) := hf.2 7 (by kernel_rfl)
        have hx := (hbx.block _ (Array.getElem?_eq_some_iff.1 HX.out).1).trans HX.out
        have x0 : wx.cell? ⟨Bx, 0, none⟩ = some (.int .i64 (x.val : Int)) := cell_of_row _ _ 0 _ _ _ hx
        have x1 : wx.cell? ⟨Bx, 1, none⟩ = some (.int .i64 ((cs x.val : Nat) : Int)) := cell_of_row _ _ 1 _ _ _ hx
        exact wpIn_value (rect (x.val : Int) ((cs x.val : Nat) : Int)) rfl (by go_simp) ⟨_, rfl, rfl, Below.refl _ _⟩
      | 3, ho =>
        obtain rfl := Option.some.inj ho
        have b3 : a.tmps[3]?.getD undef = .pointer (some ⟨w.heap.size + 1, 0, none⟩) := hf.2 3 (by kernel_rfl)
        exact wpIn_value (.int .i64 bit) rfl (by go_simp) ⟨_, rfl, rfl, Below.refl _ _⟩
      | 4, ho =>
        obtain rfl := Option.some.inj ho
        have e1 : a.tmps[19]?.getD undef = brd R C z o := hf.1 ⟨1, .data⟩ (by simp) rfl _ 19 rfl rfl
        have e2 : a.tmps[20]?.getD undef = rect (x.val : Int) ((cs x.val : Nat) : Int) := hf.1 ⟨2, .data⟩ (by simp) rfl _ 20 rfl rfl
        have e3 : a.tmps[21]?.getD undef = .int .i64 bit := hf.1 ⟨3, .data⟩ (by simp) rfl _ 21 rfl rfl
        exact wpIn_enterE 22 #[brd R C z o, rect (x.val : Int) ((cs x.val : Nat) : Int), .int .i64 bit] (fun v w' => v = rect (gp x.val).1 (gp x.val).2 ∧ Below wx.heap.size wx w') (fun _ _ => trivial) (by go_simp) (fun _ => by decide)
          (CallsIn.inRound l (callsIn_wide.2 ((HGX.out wx).mono fun e w' h => ⟨_, h.1, rfl, h.2⟩))) (fun v w' h => ⟨_, rfl, h.1, h.2⟩)
      | i + 5, ho => exact absurd hi (by omega)
    case st =>
      intro a wx hbx hf
      obtain ⟨D, hown, hkeys⟩ := (HI.out.later hbx).map
      obtain ⟨kl, hkl⟩ := key_mk (gp x.val).1 (gp x.val).2 HWX.out.1 HWX.out.2
      obtain ⟨w', hrun, hown2, hgrow⟩ := hown.update keyed Tryz.underlying52 (by unfold maxLen; omega) hkl (plainElem_bool Tryz.underlying4 true)
      have e0 : a.tmps[18]?.getD undef = .map (some (H + 1)) := hf.1 ⟨0, .data⟩ (by simp) rfl _ 18 rfl rfl
      have e4 : a.tmps[22]?.getD undef = rect (gp x.val).1 (gp x.val).2 := hf.1 ⟨4, .data⟩ (by simp) rfl _ 22 rfl rfl
      exact wpIn_store (w' := w') rfl (by go_simp) ⟨rfl, hgrow, _, hown2, KeysAre.put hkeys hkl _⟩
    case en =>
      rintro vs wy wz hby ⟨hgrow, hmap⟩ -
      exact (show KeepsFrom W0.heap.size W wz ∧ KeepBut (H + 1) l W wz ∧ MI w (w.heap.size + 1) H (H + 1 + 1) (H + 1) R C z o bit gp (pre ++ [x]) wz from
        ⟨((KeepsOthers.of_below hby).from _).trans ((KeepBut.of_grown (l := H + 1) hgrow).from_ (by omega) (by omega)), (KeepBut.of_below hby).trans (KeepBut.of_grown hgrow), (HI.out.later hby).put hgrow hmap (by omega) (by omega) (by omega) (by omega)⟩)
  case done =>
    rintro D xs Wd hD rfl hI hK
    obtain ⟨DD, hown, hkeys⟩ := hI.map
    have hnn : (wide cs (upS (2 ^ R - 1))).length ≤ 1000 := by
      have h1 := wide_len cs (upS (2 ^ R - 1))
      have h2 := Go.Proofs.YtemmagkkigdhjaaGreatDoor.EachS.upS_len (2 ^ R - 1)
      have h3 := Nat.pow_le_pow_right (n := 2) (by decide) hR
      omega
    have hL : ∀ p ∈ (wide cs (upS (2 ^ R - 1))).map (fun x => gp x.val), WF p.1 ∧ WF p.2 := by
      intro p hp
      obtain ⟨x, -, rfl⟩ := List.mem_map.1 hp
      exact HWF.out x.val x.isLt
    have hb1 : Below Wd.heap.size Wd (Wd.alloc (.cells #[.map (some (H + 1))] 52)) := (Below.refl _ _).alloc (Nat.le_refl _) _
    have HS := Lib.hid (Go.Proofs.YtemmagkkigdhjaaGreatDoor.SortR.sorted Wd.heap.size (H + 1) _ hnn DD _ hkeys hL hLEN.out (Wd.alloc (.cells #[.map (some (H + 1))] 52)) (by simp) (cell_of_row _ _ 0 _ _ _ (heap_alloc_new Wd _)) (hown.alloc _))
    have HB := Lib.hid hI.below
    have HB1 := Lib.hid hb1
    have m0 := hI.cells.2.2
    have HK := Lib.hid hK
    clear hown hkeys hL hnn hI hK hb1
    gi_wp2_with (first
      | (refine ⟨trivial, ?_⟩; gi_at_call 24; refine (callsIn_wide.2 (keys_call _ _)).mono ?_; rintro e w' ⟨rfl, rfl⟩)
      | (refine ⟨trivial, ?_⟩; gi_at_call 23; refine (callsIn_wide.2 HS.out).mono ?_; rintro e w3 ⟨v, ts, rfl, h1, h2, h3, h4⟩; have H3 := Lib.hid (And.intro h1 (And.intro h2 (And.intro h3 h4))); clear h1 h2 h3 h4))
    have hsz3 : Wd.heap.size ≤ (Wd.alloc (.cells #[.map (some (H + 1))] 52)).heap.size := by simp
    have hb3 : Below Wd.heap.size Wd w3 := HB1.out.trans (H3.out.2.2.2.mono hsz3)
    have hD3 : D < Wd.heap.size := (Array.getElem?_eq_some_iff.1 HK.out).1
    have hK3 : w3.heap[D]? = some (.deferred (some [])) := (hb3.block D hD3).trans HK.out
    refine ⟨by simp, .inl ⟨_, _, rfl, run_takeDeferred hK3, ?_⟩⟩
    exact ⟨_, results_tmp rfl _ _ _, v, ts, rfl, H3.out.1, H3.out.2.1, ownsRow_putObj (Go.Proofs.YtemmagkkigdhjaaGreatDoor.MaxS.own_lower H3.out.2.2.1 (by have := HB.out.size; omega)) _ hK3 rfl, (HB.out.trans (hb3.mono HB.out.size)).trans (belowK_b (w := w) (Nat.le_refl _) w3 D _ _ (by omega) hK3 rfl rfl)⟩
end Go.Proofs.YtemmagkkigdhjaaGreatDoor.MaxI

/-
  MaximalRects: both find one list.
-/
namespace Go.Proofs.YtemmagkkigdhjaaGreatDoor.MaxB
open Go.RowKit Go.Proofs.YtemmagkkigdhjaaGreatDoor.Plain Go.Proofs.YtemmagkkigdhjaaGreatDoor.Base Go.Proofs.YtemmagkkigdhjaaGreatDoor.Valid Go.Proofs.YtemmagkkigdhjaaGreatDoor.Law Go.Proofs.YtemmagkkigdhjaaGreatDoor.GridPlain Go.Proofs.YtemmagkkigdhjaaGreatDoor.Grid Go.Proofs.YtemmagkkigdhjaaGreatDoor.Entry Go.Proofs.YtemmagkkigdhjaaGreatDoor.Pat Go.Proofs.YtemmagkkigdhjaaGreatDoor.Rect Go.Proofs.YtemmagkkigdhjaaGreatDoor.Board Go.Proofs.YtemmagkkigdhjaaGreatDoor.BoardM Go.Proofs.YtemmagkkigdhjaaGreatDoor.RValid Go.Proofs.YtemmagkkigdhjaaGreatDoor.Colour Go.Proofs.YtemmagkkigdhjaaGreatDoor.Where Go.Proofs.YtemmagkkigdhjaaGreatDoor.With Go.Proofs.YtemmagkkigdhjaaGreatDoor.Grow Go.Proofs.YtemmagkkigdhjaaGreatDoor.Cols Go.Proofs.YtemmagkkigdhjaaGreatDoor.MaxM
open Go.Proofs.YtemmagkkigdhjaaGreatDoor.KeysI (flat AllOf)
open Go.Proofs.YtemmagkkigdhjaaGreatDoor.KeysR (WF)
open Go.Proofs.YtemmagkkigdhjaaGreatDoor.Widest (wide)
open Go.Proofs.YtemmagkkigdhjaaGreatDoor.EachS (upS)
open Go.Proofs.YtemmagkkigdhjaaGreatDoor.Patch
set_option linter.unusedVariables false

set_option maxHeartbeats 1000000 in
theorem bit_all (v : Int) (w : World) :
    Calls Tryz.prog 19 #[.int .i64 v] w fun e w' => e = .returned (.bool (v == 0 || v == 1)) ∧ w = w' := by
  obtain ⟨b, hb⟩ : ∃ b, (v == 0) = b := ⟨_, rfl⟩
  obtain ⟨d, hd⟩ : ∃ d, (v == 1) = d := ⟨_, rfl⟩
  rw [hb, hd]
  cases b <;> cases d
  all_goals
    go_enter Tryz.func19, Tryz.ntmps19
    go_wp2_with fail
    go_ret
    exact ⟨rfl, rfl⟩

/-- the columns and the rows as the board has them -/
def cB (Z R C S : Nat) : Nat := setB (fun y => decide (pat (rectB S (2 ^ y)) 8 &&& (18446744073709551615 - Z) = 0)) C
def rB (Z R C T : Nat) : Nat := setB (fun x => decide (pat (rectB (2 ^ x) T) 8 &&& (18446744073709551615 - Z) = 0)) R
def gB (Z R C S : Nat) : Int × Int := (((rB Z R C (cB Z R C S) : Nat) : Int), ((cB Z R C (rB Z R C (cB Z R C S)) : Nat) : Int))
theorem cB_lt (Z R C S : Nat) (hC : C ≤ 8) : cB Z R C S < 256 := setB_lt8 _ C hC
theorem rB_lt (Z R C T : Nat) (hR : R ≤ 8) : rB Z R C T < 256 := setB_lt8 _ R hR
theorem gB_wf (Z R C S : Nat) (hR : R ≤ 8) (hC : C ≤ 8) : WF (gB Z R C S).1 ∧ WF (gB Z R C S).2 :=
  ⟨KeysR.WF.mk ⟨Int.natCast_nonneg _, by have := rB_lt Z R C (cB Z R C S) hR; show ((rB Z R C (cB Z R C S) : Nat) : Int) < 256; omega⟩, KeysR.WF.mk ⟨Int.natCast_nonneg _, by have := cB_lt Z R C (rB Z R C (cB Z R C S)) hC; show ((cB Z R C (rB Z R C (cB Z R C S)) : Nat) : Int) < 256; omega⟩⟩
theorem upS_mem : ∀ k, k ≤ 255 → ∀ x : Fin 256, x ∈ upS k ↔ 1 ≤ x.val ∧ x.val ≤ k
  | 0, _, x => ⟨fun h => (by cases h), fun h => by omega⟩
  | k + 1, hk, x => by
    have ih := upS_mem k (by omega) x
    rw [upS, List.mem_append, ih, dif_pos (by omega), List.mem_singleton]
    constructor
    · rintro (h | rfl)
      · omega
      · exact ⟨by show 1 ≤ k + 1; omega, Nat.le_refl _⟩
    · intro h
      by_cases e : x.val = k + 1
      · exact .inr (Fin.ext e)
      · exact .inl (by omega)

/-- what the program finds is what is maximal -/
theorem found (E P : Nat → Nat → Bool) (b : Bool) (hP : ∀ x y, P x y = (E x y == b)) (R C : Nat) (hR : R ≤ 8) (hC : C ≤ 8) (p : Int × Int) :
    p ∈ (wide (cB (pat (onB P R C) 8) R C) (upS (2 ^ R - 1))).map (fun x => gB (pat (onB P R C) 8) R C x.val) ↔ p ∈ mx E b R C (2 ^ R - 1) := by
  have h3 := Nat.pow_le_pow_right (n := 2) (by decide) hR
  have hp := Nat.one_le_two_pow (n := R)
  have hc1 : ∀ S, S ≤ 2 ^ R - 1 → cB (pat (onB P R C) 8) R C S = cS E b R C S := fun S hS =>
    cols_eq E P b hP R C S hR hC (by omega) (fun x hx => by
      rcases Nat.lt_or_ge x R with h | h
      · exact h
      · rw [bit_beyond S x R (by omega) h] at hx; cases hx)
  have hr1 : ∀ T, (∀ y, T.testBit y = true → y < C) → T < 256 → rB (pat (onB P R C) 8) R C T = rS E b R C T := fun T hT h8 => rows_eq E P b hP R C T hR hC h8 hT
  have hg : ∀ S, S ≤ 2 ^ R - 1 → gB (pat (onB P R C) 8) R C S = growP E b R C S := fun S hS => by
    unfold gB growP
    rw [hc1 S hS, hr1 (cS E b R C S) (fun y hy => ((cS_bit E b R C S y).1 hy).1) (setB_lt8 _ C hC), hc1 (rS E b R C (cS E b R C S)) (by have := rS_lt E b R C (cS E b R C S); omega)]
  rw [List.mem_map, ← found_iff]
  constructor
  · rintro ⟨x, hx, rfl⟩
    unfold wide at hx
    rw [List.mem_filter, upS_mem _ (by omega)] at hx
    refine ⟨x.val, hx.1.1, hx.1.2, ?_, hg _ hx.1.2⟩
    have := hx.2
    rw [hc1 _ hx.1.2] at this
    simpa using this
  · rintro ⟨S, h1, h2, h4, rfl⟩
    refine ⟨⟨S, by omega⟩, ?_, hg S h2⟩
    unfold wide
    rw [List.mem_filter, upS_mem _ (by omega)]
    refine ⟨⟨h1, h2⟩, ?_⟩
    show (cB (pat (onB P R C) 8) R C S != 0) = true
    rw [hc1 S h2]
    simpa using h4
theorem found_len (E P : Nat → Nat → Bool) (b : Bool) (hP : ∀ x y, P x y = (E x y == b)) (R C : Nat) (hR : R ≤ 8) (hC : C ≤ 8) (ss : List (Int × Int)) (h : AllOf ((wide (cB (pat (onB P R C) 8) R C) (upS (2 ^ R - 1))).map (fun x => gB (pat (onB P R C) 8) R C x.val)) ss) : ss.length ≤ 1000 := by
  have hn2 : (mx E b R C (2 ^ R - 1)).Nodup := (mx_rises E b R C _).imp (fun {p q} h e => by rw [e] at h; omega)
  have hperm := (List.perm_ext_iff_of_nodup h.1 hn2).2 (fun p => (h.2 p).trans (found E P b hP R C hR hC p))
  rw [hperm.length_eq]
  have := mx_len E b R C (2 ^ R - 1)
  have h3 := Nat.pow_le_pow_right (n := 2) (by decide) hR
  omega

theorem impl_one (E P : Nat → Nat → Bool) (b : Bool) (hP : ∀ x y, P x y = (E x y == b)) (R C : Nat) (hR : R ≤ 8) (hC : C ≤ 8) (z o : Nat) (hz : z < 18446744073709551616) (ho : o < 18446744073709551616) (hZ : (b = false ∧ z = pat (onB P R C) 8) ∨ (b = true ∧ o = pat (onB P R C) 8))
    (rr cc : Int) (s : ByteArray) (hbo : ∀ W : World, Calls Tryz.prog 20 #[mat rr cc s] W fun e w' => e = .returned (brd R C z o) ∧ Below W.heap.size W w') (w : World) :
    Calls Tryz.prog 5 #[mat rr cc s, .int .i64 (bitI b)] w fun e w' => ∃ v, e = .returned v ∧ w'.ownsRow w.heap.size 31 2 v (mx E b R C (2 ^ R - 1)).length (flat (mx E b R C (2 ^ R - 1))) ∧ Below w.heap.size w w' := by
  have hcols : ∀ S : Nat, S < 256 → ∀ W : World, Calls Tryz.prog 49 #[brd R C z o, .int .i64 (S : Int), .int .i64 (bitI b)] W fun e w' => e = .returned (.int .i64 ((cB (pat (onB P R C) 8) R C S : Nat) : Int)) ∧ Below W.heap.size W w' := by
    intro S hS W
    rcases hZ with ⟨rfl, rfl⟩ | ⟨rfl, rfl⟩
    · exact cols_with0 R C hR hC _ o hz ho S hS W
    · exact cols_with1 R C hR hC z _ hz ho S hS W
  have hrows : ∀ S : Nat, S < 256 → ∀ W : World, Calls Tryz.prog 50 #[brd R C z o, .int .i64 (S : Int), .int .i64 (bitI b)] W fun e w' => e = .returned (.int .i64 ((rB (pat (onB P R C) 8) R C S : Nat) : Int)) ∧ Below W.heap.size W w' := by
    intro S hS W
    rcases hZ with ⟨rfl, rfl⟩ | ⟨rfl, rfl⟩
    · exact rows_with0 R C hR hC _ o hz ho S hS W
    · exact rows_with1 R C hR hC z _ hz ho S hS W
  have hgrow : ∀ S : Nat, S < 256 → ∀ W : World, Calls Tryz.prog 22 #[brd R C z o, rect (S : Int) ((cB (pat (onB P R C) 8) R C S : Nat) : Int), .int .i64 (bitI b)] W fun e w' => e = .returned (rect (gB (pat (onB P R C) 8) R C S).1 (gB (pat (onB P R C) 8) R C S).2) ∧ Below W.heap.size W w' :=
    fun S hS W => impl_grow R C z o S _ _ _ (bitI b) (fun W1 => hrows _ (cB_lt _ R C S hC) W1) (fun W1 => hcols _ (rB_lt _ R C _ hR) W1) W
  refine (callsIn_wide.1 (MaxI.maximal_in R C hR z o rr cc s (bitI b) (by cases b <;> simp [bitI]) (cB (pat (onB P R C) 8) R C) (gB (pat (onB P R C) 8) R C) hbo hcols hgrow (fun S _ => gB_wf _ R C S hR hC) (found_len E P b hP R C hR hC) w)).mono ?_
  rintro e w' ⟨v, ts, rfl, hall, hpw, hown, hb⟩
  have := same_list E b R C (2 ^ R - 1) hall.1 hpw (fun p => (hall.2 p).trans (found E P b hP R C hR hC p))
  subst this
  exact ⟨v, rfl, hown, hb⟩

set_option maxHeartbeats 1000000 in
theorem impl_no_bit (rr cc : Int) (s : ByteArray) (bit : Int) (h0 : bit ≠ 0) (h1 : bit ≠ 1) (w : World) :
    Calls Tryz.prog 5 #[mat rr cc s, .int .i64 bit] w fun e w' => ∃ v, e = .returned v ∧ w'.ownsRow w.heap.size 31 2 v 0 (flat []) ∧ Below w.heap.size w w' := by
  have HBIT := Lib.hid (fun W => bit_all bit W)
  rw [show (bit == 0 || bit == 1) = false by rw [beq_false_of_ne h0, beq_false_of_ne h1]; rfl] at HBIT
  clear h0 h1
  go_enter Tryz.func5, Tryz.ntmps5
  go_wp2_with fail
  refine (HBIT.out _).mono ?_
  rintro e w' ⟨rfl, rfl⟩
  go_wp2_with fail
  go_ret
  exact ⟨_, rfl, World.ownsRow_nil _ _ _ _, ((Below.refl w.heap.size w).alloc (Nat.le_refl _) _).alloc (by simp) _⟩

/-- both find one list -/
theorem both (r c : Int) (s : ByteArray) (hs : s.size ≤ maxLen) (bit : Int) : ∃ ts : List (Int × Int), ts.length ≤ 1000 ∧
    (∀ w, Calls Tryz.prog 6 #[mat r c s, .int .i64 bit] w fun e w' => ∃ v, e = .returned v ∧ w'.ownsRow w.heap.size 31 2 v ts.length (flat ts) ∧ Below w.heap.size w w') ∧
    (∀ w, Calls Tryz.prog 5 #[mat r c s, .int .i64 bit] w fun e w' => ∃ v, e = .returned v ∧ w'.ownsRow w.heap.size 31 2 v ts.length (flat ts) ∧ Below w.heap.size w w') := by
  by_cases hbit : bit = 0 ∨ bit = 1
  · obtain ⟨b, rfl⟩ : ∃ b : Bool, bit = bitI b := by
      rcases hbit with rfl | rfl
      · exact ⟨false, rfl⟩
      · exact ⟨true, rfl⟩
    by_cases hv : validB r c s = true
    · obtain ⟨R, C, E, rfl, rfl, h1, h2, h3, h4, rfl⟩ := valid_form hv
      have hbd := fun W => board_yes R C E h1 h2 h3 h4 hs hv W
      have z64 := pat64 (onB (fun x y => !E x y) R C) (onB_lt _ R C h4)
      have o64 := pat64 (onB E R C) (onB_lt _ R C h4)
      have hl := mx_len E b R C (2 ^ R - 1)
      have h5 := Nat.pow_le_pow_right (n := 2) (by decide) h2
      refine ⟨mx E b R C (2 ^ R - 1), by omega, fun w => MaxS.spec_yes E R C h1 h2 h3 h4 hs hv b w, fun w => ?_⟩
      cases b
      · exact impl_one E (fun x y => !E x y) false (fun x y => by cases E x y <;> rfl) R C h2 h4 _ _ z64 o64 (.inl ⟨rfl, rfl⟩) R C _ hbd w
      · exact impl_one E E true (fun x y => by cases E x y <;> rfl) R C h2 h4 _ _ z64 o64 (.inr ⟨rfl, rfl⟩) R C _ hbd w
    · have hv' : validB r c s = false := by simpa using hv
      have hbn := fun W => board_no r c s hs hv' W
      have z64 := pat64 (onB (fun _ _ => true) 0 0) (onB_lt _ 0 0 (by omega))
      have o64 := pat64 (onB (fun _ _ => false) 0 0) (onB_lt _ 0 0 (by omega))
      refine ⟨[], by simp, fun w => MaxS.spec_no r c s hs _ false hv' (.inl rfl) w, fun w => ?_⟩
      cases b
      · exact impl_one (fun _ _ => false) (fun _ _ => true) false (fun x y => rfl) 0 0 (by omega) (by omega) _ _ z64 o64 (.inl ⟨rfl, rfl⟩) r c s hbn w
      · exact impl_one (fun _ _ => false) (fun _ _ => false) true (fun x y => rfl) 0 0 (by omega) (by omega) _ _ z64 o64 (.inr ⟨rfl, rfl⟩) r c s hbn w
  · have h0 : bit ≠ 0 := fun e => hbit (.inl e)
    have h1 : bit ≠ 1 := fun e => hbit (.inr e)
    obtain ⟨b, hb⟩ : ∃ b, validB r c s = b := ⟨_, rfl⟩
    exact ⟨[], by simp, fun w => MaxS.spec_no r c s hs bit b hb (.inr ⟨h0, h1⟩) w, fun w => impl_no_bit r c s bit h0 h1 w⟩
end Go.Proofs.YtemmagkkigdhjaaGreatDoor.MaxB

