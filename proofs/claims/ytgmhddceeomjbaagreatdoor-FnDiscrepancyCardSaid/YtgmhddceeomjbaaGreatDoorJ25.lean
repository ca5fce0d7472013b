/-
  Texts of one seat, joined: Widest, App.
-/
import Derived.RangeFuncNested
import Derived.RangeFuncBound
import Derived.RangeFuncCalls
import Derived.RangeFuncLeaves
import Derived.Shelf.Abstract
import Derived.Shelf.RegionOpen
import Derived.WalkKit
import Derived.OwnWalkIn
import Derived.TacticsInMore
import Derived.LoopNIn
import Derived.LoopIn
import Derived.Test.YtgmhddceeomjbaaGreatDoorJ21
import Derived.Test.YtgmhddceeomjbaaGreatDoorJ24
import Derived.Test.YtgmhddceeomjbaaGreatDoorJ19
import Derived.Test.YtgmhddceeomjbaaGreatDoorJ14
import Derived.Deep.RegionHeld
import Derived.Test.YtgmhddceeomjbaaGreatDoorRows
import Derived.Below
import Derived.OwnWalk
import Derived.Laws.OwnMore
import Derived.Lib.Hide
/-
  The program's iterator over the widest rectangles of a value: widest.
-/
namespace Go.Proofs.YtgmhddceeomjbaaGreatDoor.Widest
open Go.RowKit Go.Shelf Go.Proofs.YtgmhddceeomjbaaGreatDoor.Plain Go.Proofs.YtgmhddceeomjbaaGreatDoor.Pat Go.Proofs.YtgmhddceeomjbaaGreatDoor.Rect Go.Proofs.YtgmhddceeomjbaaGreatDoor.Base Go.Proofs.YtgmhddceeomjbaaGreatDoor.Each Go.Proofs.YtgmhddceeomjbaaGreatDoor.EachS Go.Proofs.YtgmhddceeomjbaaGreatDoor.Board Go.Proofs.YtgmhddceeomjbaaGreatDoor.BoardM Go.Proofs.YtgmhddceeomjbaaGreatDoor.RValid Go.Proofs.YtgmhddceeomjbaaGreatDoor.Range
set_option linter.unusedVariables false
attribute [local go_sem] Oper.semAt_some

theorem round_wide {n m : Nat} {l' : Nat} {P : Program} {l : Nat} {fn : FuncId} {tmps : Array Value} {assign body : Code} {W : World} {R : Ending → World → Prop}
    (h : RoundIn Fence.wide n P l fn tmps assign body W R) : RoundIn (Fence.wide.inRound l') m P l fn tmps assign body W R :=
  ⟨h.1, fun c cs _ => h.2 c cs (fun d hd => by cases hd)⟩
theorem own_mono {β : Type} {B B' : Nat} {I : β → World → Prop} (h : OwnFrom B I) (hB : B ≤ B') : OwnFrom B' I :=
  fun s W W' row hs hg hr => h s W W' row hs hg (fun r e => ⟨Nat.le_trans hB (hr r e).1, (hr r e).2⟩)
theorem grown_of_below {w w' : World} (h : Below w.heap.size w w') : w.grownBy w' none := ⟨h.os, h.tape, h.output, h.size, fun k hk _ => h.block k hk⟩
theorem row_kept {W W' : World} {row : Option Nat} {k : Nat} {cs : Array Value} {T : TypeId} {fr : Nat × Nat} (h : W.heap[k]? = some (.cells cs T fr)) (hg : W.grownBy W' row) (hr : ∀ r, row = some r → ∃ o : Obj, W.heap[r]? = some o ∧ o.isCells = false) : W'.heap[k]? = some (.cells cs T fr) :=
  (grownBy_keeps_cells hg hr h rfl).trans h

theorem KeepsOthers.of_below {A B : World} (h : Below A.heap.size A B) : KeepsOthers A B := ⟨h.size, fun k o hk _ => (h.block k (Array.getElem?_eq_some_iff.1 hk).1).trans hk⟩
/-- a rectangle as yield's argument, told by its rows -/
abbrev encW (cs : Nat → Nat) (x : Fin 256) : Array Value := #[rect (x.val : Int) (cs x.val : Nat)]
/-- the sets of rows that have such columns -/
def wide (cs : Nat → Nat) (ys : List (Fin 256)) : List (Fin 256) := ys.filter fun x => cs x.val != 0
theorem wide_next (cs : Nat → Nat) (pre : List (Fin 256)) (x : Fin 256) : wide cs (pre ++ [x]) = wide cs pre ++ (if cs x.val = 0 then [] else [x]) := by
  unfold wide
  rw [List.filter_append]
  by_cases h : cs x.val = 0 <;> simp [h]
theorem wide_len (cs : Nat → Nat) (pre : List (Fin 256)) : (wide cs pre).length ≤ pre.length := List.length_filter_le _ _

set_option maxHeartbeats 1000000 in
theorem widest_call (R C : Int) (z o : Nat) (bit : Int) (w : World) :
    Calls Tryz.prog 56 #[brd R C z o, .int .i64 bit] w fun e w' => e = .returned (.func (.func 94) #[] #[.pointer (some ⟨w.heap.size, 0, none⟩), .pointer (some ⟨w.heap.size + 1, 0, none⟩)]) ∧
      w' = (w.alloc (.cells #[.int .i64 R, .int .i64 C, .int .u64 (z : Int), .int .u64 (o : Int)] 62)).alloc (.cells #[.int .i64 bit] 3) := by
  go_enter Tryz.func56, Tryz.ntmps56
  go_wp2_with fail
  go_ret
  exact ⟨rfl, rfl⟩

/-- what the iterator keeps: the board's box, the value's, that of the function that it calls -/
structure WK (Bb Bt Y l : Nat) (R C : Int) (z o : Nat) (bit : Int) (W : World) : Prop where
  b : W.heap[Bb]? = some (.cells #[.int .i64 R, .int .i64 C, .int .u64 (z : Int), .int .u64 (o : Int)] 62 (0, 0))
  t : W.heap[Bt]? = some (.cells #[.int .i64 bit] 3 (0, 0))
  y : W.heap[Y]? = some (.cells #[.func (.yield l) #[] #[]] 78 (0, 0))
theorem WK.own {Bb Bt Y l : Nat} {R C : Int} {z o : Nat} {bit : Int} {β : Type} : Own (fun (_ : β) W => WK Bb Bt Y l R C z o bit W) :=
  fun _ A B row hs hg hr => ⟨row_kept hs.b hg hr, row_kept hs.t hg hr, row_kept hs.y hg hr⟩
theorem WK.later {Bb Bt Y l : Nat} {R C : Int} {z o : Nat} {bit : Int} {A B : World} (h : WK Bb Bt Y l R C z o bit A) (hb : Below A.heap.size A B) : WK Bb Bt Y l R C z o bit B :=
  ⟨(hb.block _ (Array.getElem?_eq_some_iff.1 h.b).1).trans h.b, (hb.block _ (Array.getElem?_eq_some_iff.1 h.t).1).trans h.t, (hb.block _ (Array.getElem?_eq_some_iff.1 h.y).1).trans h.y⟩
theorem WK.but {Bb Bt Y l mb : Nat} {R C : Int} {z o : Nat} {bit : Int} {A B : World} (h : WK Bb Bt Y l R C z o bit A) (hk : KeepBut mb l A B) (h1 : mb ≠ Bb ∧ l ≠ Bb) (h2 : mb ≠ Bt ∧ l ≠ Bt) (h3 : mb ≠ Y ∧ l ≠ Y) : WK Bb Bt Y l R C z o bit B :=
  ⟨hk.obj h.b (Ne.symm h1.2) (Ne.symm h1.1), hk.obj h.t (Ne.symm h2.2) (Ne.symm h2.1), hk.obj h.y (Ne.symm h3.2) (Ne.symm h3.1)⟩
theorem WK.cells {Bb Bt Y l : Nat} {R C : Int} {z o : Nat} {bit : Int} {W : World} (h : WK Bb Bt Y l R C z o bit W) :
    (W.cell? ⟨Bb, 0, none⟩ = some (.int .i64 R) ∧ W.cell? ⟨Bb, 1, none⟩ = some (.int .i64 C) ∧ W.cell? ⟨Bb, 2, none⟩ = some (.int .u64 (z : Int)) ∧ W.cell? ⟨Bb, 3, none⟩ = some (.int .u64 (o : Int))) ∧
    W.cell? ⟨Bt, 0, none⟩ = some (.int .i64 bit) ∧ W.cell? ⟨Y, 0, none⟩ = some (.func (.yield l) #[] #[]) :=
  ⟨⟨cell_of_row _ _ 0 _ _ _ h.b, cell_of_row _ _ 1 _ _ _ h.b, cell_of_row _ _ 2 _ _ _ h.b, cell_of_row _ _ 3 _ _ _ h.b⟩, cell_of_row _ _ 0 _ _ _ h.t, cell_of_row _ _ 0 _ _ _ h.y⟩

theorem keepC_of_but {Bn mb l : Nat} {A B : World} (hk : KeepBut mb l A B) (h1 : Bn ≠ l) (h2 : Bn ≠ mb) : KeepC Bn A B := fun v hv => hk.cell (p := ⟨Bn, 0, none⟩) hv h1 h2

set_option maxRecDepth 100000 in
set_option maxHeartbeats 4000000 in
theorem widest_all (n : Nat) (hn : 3 ≤ n) (R C : Nat) (hR : R ≤ 8) (z o : Nat) (bit : Int) (cs : Nat → Nat)
    (hcols : ∀ S : Nat, S < 256 → ∀ W : World, Calls Tryz.prog 88 #[brd R C z o, .int .i64 (S : Int), .int .i64 bit] W fun e w' => e = .returned (.int .i64 (cs S : Nat)) ∧ Below W.heap.size W w')
    (Bb Bt mb : Nat) (w : World) (hb : w.heap[Bb]? = some (.cells #[.int .i64 R, .int .i64 C, .int .u64 (z : Int), .int .u64 (o : Int)] 62 (0, 0)))
    (ht : w.heap[Bt]? = some (.cells #[.int .i64 bit] 3 (0, 0))) (hmb : mb < w.heap.size) (h1 : mb ≠ Bb) (h2 : mb ≠ Bt) :
    SeqAll Fence.wide n Tryz.prog 94 #[.pointer (some ⟨Bb, 0, none⟩), .pointer (some ⟨Bt, 0, none⟩)] (encW cs) mb (fun ys => ys = wide cs (upS (2 ^ R - 1))) 256 w := by
  intro l J W hW hl1 hl2 hJ hY h0
  have hsw := hW.size
  have hBb : Bb < w.heap.size := (Array.getElem?_eq_some_iff.1 hb).1
  have hBt : Bt < w.heap.size := (Array.getElem?_eq_some_iff.1 ht).1
  have hbW := (hW.block Bb hBb).trans hb
  have htW := (hW.block Bt hBt).trans ht
  have HC := Lib.hid hcols
  have HY := Lib.hid hY
  have HJ := Lib.hid hJ
  clear hcols hY hJ hb ht
  have g0 : 1 ≤ n := by omega
  have q0 : W.cell? ⟨Bb, 0, none⟩ = some (.int .i64 (R : Int)) := cell_of_row _ _ 0 _ _ _ hbW
  have hBbW : Bb < W.heap.size := by omega
  refine callsIn_of_wp_marks Tryz.func94 rfl trivial ?_ rfl
  simp only [Tryz.ntmps94, List.size_toArray, List.length_cons, List.length_nil, Nat.reduceAdd, Nat.reduceSub, Array.replicate_succ, Array.replicate_zero, List.push_toArray, List.append_toArray, List.nil_append, List.cons_append]
  have HW0 := Lib.hid h0
  have HbW := Lib.hid hbW
  have HtW := Lib.hid htW
  clear h0 hbW htW
  gi_wp2_with (refine ⟨trivial, ?_⟩; gi_at_call 60; refine (callsIn_wide.2 (set_each _ _)).mono ?_; rintro e w' ⟨rfl, rfl⟩)
  obtain ⟨W0, hW0⟩ : ∃ W0, (W.alloc (.cells #[.func (.yield l) #[] #[]] 78)).alloc (.cells #[.int .i64 (R : Int)] 3) = W0 := ⟨_, rfl⟩
  have hsz : W0.heap.size = W.heap.size + 2 := by rw [← hW0]; simp
  have hb0 : Below W.heap.size W W0 := by rw [← hW0]; exact ((Below.refl W.heap.size W).alloc (Nat.le_refl _) _).alloc (by simp) _
  have e1 : W0.heap[W.heap.size]? = some (.cells #[.func (.yield l) #[] #[]] 78 (0, 0)) := by
    rw [← hW0]; exact (Below.heap_alloc _ _ _ (by simp)).trans (heap_alloc_new W _)
  have e2 : W0.heap[W.heap.size + 1]? = some (.cells #[.int .i64 (R : Int)] 3 (0, 0)) := by
    rw [← hW0]; have := heap_alloc_new (W.alloc (.cells #[.func (.yield l) #[] #[]] 78)) (.cells #[.int .i64 (R : Int)] 3); rwa [World.size_alloc] at this
  have HK0 : Hid (WK Bb Bt W.heap.size l R C z o bit W0) := ⟨(hb0.block _ hBbW).trans HbW.out, (hb0.block _ (by omega)).trans HtW.out, e1⟩
  have HJ0 : Hid (J [] W0) := HJ.out [] W W0 none HW0.out (grown_of_below hb0) (fun r e => by cases e)
  rw [hW0]
  have HC2 : Hid (W0.cell? ⟨W.heap.size + 1, 0, none⟩ = some (.int .i64 (R : Int))) := cell_of_row _ _ 0 _ _ _ e2
  clear hW0 e1 e2 HW0 HbW HtW q0
  generalize hYb : W.heap.size = Yb at *
  refine wpIn_rangeFunc_ownG rfl g0 (gf := 98) (lb := #[.pointer (some ⟨Yb + 1, 0, none⟩)]) rfl trivial (enters_of Tryz.func98 (by kernel_rfl) rfl)
    (set_stops (n - 1) (by omega) (Yb + 1) R hR W0 (by omega) HC2.out) keepC_t keepC_b (Below.refl _ _) (fun _ => rfl)
    (fun pre Wx => J (wide cs pre) Wx ∧ WK Bb Bt Yb l R C z o bit Wx)
    (fun _ _ _ => False)
    (OwnFrom.and (fun s A B row hs hg hr => HJ.out (wide cs s) A B row hs hg (fun r e => ⟨by have := (hr r e).1; omega, (hr r e).2⟩)) (WK.own.from _))
    (fun _ _ _ _ _ hs _ _ => hs)
    ⟨HJ0.out, HK0.out⟩
    (fun x => { tmps := #[.func (.yield l) #[] #[], .pointer (some ⟨Bb, 0, none⟩), .pointer (some ⟨Bt, 0, none⟩), .pointer (some ⟨Yb, 0, none⟩), .int .i64 (x.val : Int), undef, .pointer (some ⟨Bb, 0, none⟩), .int .i64 (R : Int), .func (.func 98) #[] #[.pointer (some ⟨Yb + 1, 0, none⟩)], .int .i64 (x.val : Int), undef, undef, undef, undef, undef, undef, undef, undef, undef, undef, undef, undef, undef, undef, undef], defers := [] }) ?assign ?body ?done ?stop
  case assign =>
    intro l' x Wx K hK
    gi_wp2
    exact hK
  case body =>
    rintro l' pre x Wx ⟨hj, hk⟩ hlen
    have hx8 := x.isLt
    have HWN := Lib.hid (wide_next cs pre x)
    have HWL := Lib.hid (Nat.lt_of_le_of_lt (wide_len cs pre) hlen)
    have HY1 := Lib.hid (fun W1 hw => HY.out (wide cs pre) x W1 hw HWL.out)
    have HCX := Lib.hid (fun W1 => HC.out x.val hx8 W1)
    obtain ⟨⟨q0, q1, q2, q3⟩, qt, qy⟩ := hk.cells
    have HKX := Lib.hid hk
    have HJX := Lib.hid hj
    clear hk hj hlen HC HY HJ0 HK0 HC2
    obtain ⟨xv, hxv⟩ : ∃ xv, x.val = xv := ⟨_, rfl⟩
    rw [hxv] at hx8 HWN HCX ⊢
    have HXV := Lib.hid hxv
    clear hxv
    obtain ⟨cv, hcv⟩ : ∃ cv, cs xv = cv := ⟨_, rfl⟩
    rw [hcv] at HCX HWN
    have HCV := Lib.hid hcv
    clear hcv
    have g1 : 1 ≤ n - 1 - 1 := by omega
    by_cases hc0 : cv = 0
    · subst hc0
      gi_wp2_with (refine ⟨trivial, ?_⟩; gi_at_call 88; refine (CallsIn.inRound l' (callsIn_wide.2 (HCX.out _))).mono ?_; rintro e w1 ⟨rfl, hb1⟩; clear q0 q1 q2 q3 qt qy; have HK1 := Lib.hid (HKX.out.later hb1); have hY1 := HK1.out.cells.2.2; have HB1 := Lib.hid hb1; clear hb1)
      refine ⟨fun _ h => (by cases h), ?_⟩
      gi_wp2
      have hb2 : Below Wx.heap.size Wx (w1.alloc (.cells #[.int .i64 (xv : Int), .int .i64 0] 34)) := HB1.out.alloc HB1.out.size _
      refine ⟨(KeepsOthers.of_below hb2).from _, fun v hv => (hb2.cell (p := ⟨Yb + 1, 0, none⟩) (World.block_lt_of_cell? Wx _ hv)).trans hv, ?_, HKX.out.later hb2⟩
      have hw := HWN.out
      simp only [if_true, List.append_nil] at hw
      rw [hw]
      exact HJ.out _ Wx _ none HJX.out (grown_of_below hb2) (fun r e => by cases e)
    · have hci : ((cv : Int) != 0) = true := by rw [bne_iff_ne]; omega
      gi_wp2_with (refine ⟨trivial, ?_⟩; gi_at_call 88; refine (CallsIn.inRound l' (callsIn_wide.2 (HCX.out _))).mono ?_; rintro e w1 ⟨rfl, hb1⟩; clear q0 q1 q2 q3 qt qy; have HK1 := Lib.hid (HKX.out.later hb1); have hY1 := HK1.out.cells.2.2; have HB1 := Lib.hid hb1; clear hb1; have hb2 : Below Wx.heap.size Wx (w1.alloc (.cells #[.int .i64 (xv : Int), .int .i64 (cv : Int)] 34)) := HB1.out.alloc HB1.out.size _; have HB2 := Lib.hid hb2; obtain ⟨fn, tmps, assign, body, hy, hR⟩ := HY1.out _ (HJ.out _ Wx _ none HJX.out (grown_of_below hb2) (fun r e => by cases e)); have HR := Lib.hid hR; clear hR; dsimp only [encW] at hy; rw [HXV.out, HCV.out] at hy; have hY2 := (HKX.out.later hb2).cells.2.2; clear hb2)
      refine (round_wide HR.out).mono ?_
      rintro e W3 ⟨rfl, hJ3, hk3⟩
      gi_wp2
      have hb2 := HB2.out
      refine ⟨((KeepsOthers.of_below hb2).from _).trans (hk3.from_ (by omega) (by omega)), fun v hv => hk3.cell (p := ⟨Yb + 1, 0, none⟩) ((hb2.cell (p := ⟨Yb + 1, 0, none⟩) (World.block_lt_of_cell? Wx _ hv)).trans hv) (by show Yb + 1 ≠ l; omega) (by show Yb + 1 ≠ mb; omega), ?_,
        (HKX.out.later hb2).but hk3 ⟨h1, by omega⟩ ⟨h2, by omega⟩ ⟨by omega, by omega⟩⟩
      rw [HWN.out, if_neg hc0]
      exact hJ3
  case done =>
    rintro D ys Wd hD rfl ⟨hj, hk⟩ hK
    gi_wp2
    refine ⟨by simp, .inl ⟨_, _, rfl, run_takeDeferred hK, ?_⟩⟩
    exact ⟨_, results_none rfl _ _ _, ⟨⟨_, rfl⟩, _, rfl, OwnFrom.putObj (B := Yb) HJ.out _ hj (by omega) hK rfl⟩⟩
  case stop =>
    rintro D c pre W _ _ h _
    exact h.elim
end Go.Proofs.YtgmhddceeomjbaaGreatDoor.Widest

/-
  What a function keeps of a slice that it builds by append: whatever the elements.
-/
namespace Go.Proofs.YtgmhddceeomjbaaGreatDoor.App
open Go.RowKit
set_option linter.unusedVariables false

/-- wr holds the slice v of n elements, laid since w0; what lay in w0 lies as it lay -/
structure Own (w0 wr : World) (e : TypeId) (k : Nat) (v : Value) (n : Nat) (xs : List Value) : Prop where
  row : wr.ownsRow w0.heap.size e k v n xs
  below : Below w0.heap.size w0 wr
theorem Own.later {w0 wr w2 : World} {e : TypeId} {k n : Nat} {v : Value} {xs : List Value} (h : Own w0 wr e k v n xs) (hb : Below wr.heap.size wr w2) : Own w0 w2 e k v n xs := by
  refine ⟨⟨h.row.1, ?_⟩, h.below.trans (hb.mono h.below.size)⟩
  rcases h.row.2 with h1 | ⟨g, cap, cur, h2, h3, h4, h5⟩
  · exact .inl h1
  · exact .inr ⟨g, cap, cur, h2, h3, (hb.block g (Array.getElem?_eq_some_iff.1 h4).1).trans h4, h5⟩
theorem Own.none (w0 : World) (e : TypeId) (k : Nat) : Own w0 w0 e k (.slice .none 0 0) 0 [] := ⟨⟨by simp, .inl ⟨rfl, rfl⟩⟩, Below.refl _ _⟩
theorem Own.lit (w0 : World) (e : TypeId) (k : Nat) : Own w0 (w0.alloc (.cells #[] e)) e k (.slice (some ⟨w0.heap.size, 0, .none⟩) 0 0) 0 [] :=
  ⟨World.ownsRow_lit w0 #[] 0 (Nat.le_refl _) (by unfold maxLen; omega) (by simp), (Below.refl _ _).alloc (Nat.le_refl _) _⟩
theorem Own.next {w0 w2 w3 : World} {e : TypeId} {k n m : Nat} {v v3 : Value} {xs ys : List Value} (h : Own w0 w2 e k v n xs) (o : Obj)
    (h3 : w3.ownsRow w0.heap.size e k v3 m ys) (hg : (w2.alloc o).grownBy w3 v.ownBlock) : Own w0 w3 e k v3 m ys :=
  ⟨h3, (h.below.alloc h.below.size o).grown hg (by have := h.below.size; simp at this ⊢; omega) fun j hj => (h.row.lt j hj).1⟩
theorem Own.slice {w0 wr : World} {e : TypeId} {k n : Nat} {v : Value} {xs : List Value} (h : Own w0 wr e k v n xs) : ∃ p c, v = .slice p n c := by
  rcases h.row.2 with ⟨rfl, rfl⟩ | ⟨g, cap, cur, rfl, _⟩
  · exact ⟨_, _, rfl⟩
  · exact ⟨_, _, rfl⟩
/-- the elements' cells -/
theorem Own.cell {w0 wr : World} {e : TypeId} {k n : Nat} {p : Option Addr} {c : Nat} {xs : List Value} (h : Own w0 wr e k (.slice p n c) n xs) (j : Nat) (hj : j < n * k) : ∃ g, p = some ⟨g, 0, .none⟩ ∧ w0.heap.size ≤ g ∧ g < wr.heap.size ∧ wr.cell? ⟨g, j, .none⟩ = xs[j]? := by
  rcases h.row.2 with ⟨e1, rfl⟩ | ⟨g, cap, cur, e1, h1, h2, h3⟩
  · simp at hj
  · injection e1 with e1 _ e3
    subst e1
    exact ⟨g, rfl, h1, (Array.getElem?_eq_some_iff.1 h2).1, World.ownsRow.cellAt (cap := cap) (by rw [← e3]; exact h.row) j hj⟩
end Go.Proofs.YtgmhddceeomjbaaGreatDoor.App

