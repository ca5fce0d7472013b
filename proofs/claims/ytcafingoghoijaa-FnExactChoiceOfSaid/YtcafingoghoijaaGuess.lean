/-
  Guesses: maps.Collect of slices.All over a list of rectangles, and the deletions of those that are not right.
-/
import Derived.Test.YtcafingoghoijaaGuessI
import Derived.Test.YtcafingoghoijaaRange
import Derived.Test.YtcafingoghoijaaRectsP
import Derived.RangeFuncNested
import Derived.RangeFuncBound
import Derived.RangeFuncCalls
import Derived.RangeFuncLeaves
import Derived.Maps.OwnIn
import Derived.Maps.OwnSet
import Derived.Shelf.Abstract
import Derived.WalkKit
import Derived.OwnWalkIn
import Derived.TacticsInMore
import Derived.LoopNIn
import Derived.LoopIn
import Derived.Carry
namespace Go.Proofs.Ytcafingoghoijaa.Guess
open Go.RowKit Go.Maps Go.Shelf Go.Proofs.Ytcafingoghoijaa.Plain Go.Proofs.Ytcafingoghoijaa.Rect Go.Proofs.Ytcafingoghoijaa.GuessM Go.Proofs.Ytcafingoghoijaa.GuessI Go.Proofs.Ytcafingoghoijaa.Range Go.Proofs.Ytcafingoghoijaa.Rects
set_option linter.unusedVariables false
attribute [local go_sem] Oper.semAt_some

theorem grown_of_below {w w' : World} (h : Below w.heap.size w w') : w.grownBy w' none := ⟨h.os, h.tape, h.output, h.size, fun k hk _ => h.block k hk⟩
theorem row_kept {W W' : World} {row : Option Nat} {k : Nat} {cs : Array Value} {T : TypeId} {fr : Nat × Nat} (h : W.heap[k]? = some (.cells cs T fr)) (hg : W.grownBy W' row) (hr : ∀ r, row = some r → ∃ o : Obj, W.heap[r]? = some o ∧ o.isCells = false) : W'.heap[k]? = some (.cells cs T fr) :=
  (grownBy_keeps_cells hg hr h rfl).trans h
theorem keepsOthers_of_below {A B : World} (h : Below A.heap.size A B) : KeepsOthers A B := ⟨h.size, fun k o hk _ => (h.block k (Array.getElem?_eq_some_iff.1 hk).1).trans hk⟩
theorem rv_but {A W : World} {B b l : Nat} {v : Value} {xs : List (Int × Int)} (h : RV A B v xs) (hk : KeepBut b l A W) (h1 : B ≤ b) (h2 : B ≤ l) : RV W B v xs := by
  refine ⟨h.1, ?_⟩
  rcases h.2 with h2 | ⟨g, off, c, rfl, hlt, hc⟩
  · exact .inl h2
  · exact .inr ⟨g, off, c, rfl, hlt, fun j hj => ⟨hk.cell (p := ⟨g, off + j * 2, none⟩) (hc j hj).1 (by show g ≠ l; omega) (by show g ≠ b; omega), hk.cell (p := ⟨g, off + j * 2 + 1, none⟩) (hc j hj).2 (by show g ≠ l; omega) (by show g ≠ b; omega)⟩⟩

/-- a thing of a list as yield's arguments -/
abbrev encN (xs : List (Int × Int)) (x : Fin xs.length) : Array Value := #[.int .i64 (x.val : Int), rect xs[x.val].1 xs[x.val].2]
/-- all of them, in order -/
def InOrder (xs : List (Int × Int)) (ys : List (Fin xs.length)) : Prop := ys.map (fun x => x.val) = List.range xs.length

set_option maxHeartbeats 1000000 in
theorem all_call (p : Option Addr) (n k : Nat) (w : World) :
    Calls Try.prog 75 #[.slice p n k] w fun e w' => e = .returned (.func (.func 88) #[] #[.pointer (some ⟨w.heap.size, 0, none⟩)]) ∧ w' = w.alloc (.cells #[.slice p n k] 25) := by
  go_enter Try.func75, Try.ntmps75
  go_wp2_with fail
  go_ret
  exact ⟨rfl, rfl⟩

set_option maxRecDepth 100000 in
set_option maxHeartbeats 4000000 in
theorem all_all (n : Nat) (hn : 1 ≤ n) (xs : List (Int × Int)) (hlen : xs.length ≤ 1048576) (p : Option Addr) (k : Nat) (Bs B mb : Nat) (w : World) (hb : w.heap[Bs]? = some (.cells #[.slice p xs.length k] 25 (0, 0)))
    (hv : RV w B (.slice p xs.length k) xs) (hB : B ≤ w.heap.size) (hmb : B ≤ mb) (hne : mb ≠ Bs) :
    SeqAll Fence.wide n Try.prog 88 #[.pointer (some ⟨Bs, 0, none⟩)] (encN xs) mb (InOrder xs) (xs.length + 1) w := by
  intro l J W hW hl1 hl2 hJ hY h0
  have hBs : Bs < w.heap.size := (Array.getElem?_eq_some_iff.1 hb).1
  have hsW : w.heap.size ≤ W.heap.size := hW.size
  have c0 : W.cell? ⟨Bs, 0, none⟩ = some (.slice p xs.length k) := cell_of_row _ _ 0 _ _ _ ((hW.block Bs hBs).trans hb)
  have HV := Lib.hid (hv.later hB hW)
  have HY := Lib.hid hY
  have HJ := Lib.hid hJ
  have H0 := Lib.hid h0
  clear hY hJ hb hW hv h0
  have g0 : 1 ≤ n := hn
  refine callsIn_of_wp Try.func88 rfl trivial ?_ rfl
  simp only [Try.ntmps88, List.size_toArray, List.length_cons, List.length_nil, Nat.reduceAdd, Nat.reduceSub, Array.replicate_succ, Array.replicate_zero, List.push_toArray, List.append_toArray, List.nil_append, List.cons_append]
  gi_wp2
  clear c0
  gi_loopw [7] (fun i wr => ∃ j : Nat, j ≤ xs.length ∧ i = .int .i64 (j : Int) ∧ RV wr B (.slice p xs.length k) xs ∧ W.heap.size ≤ wr.heap.size ∧ ∃ pre : List (Fin xs.length), pre.map (fun x => x.val) = List.range j ∧ J pre wr) (fun i _ => xs.length - (intOf i).toNat)
  case atStart => exact ⟨0, Nat.zero_le _, rfl, HV.out, Nat.le_refl _, [], rfl, H0.out⟩
  case round =>
    obtain ⟨j, hj, rfl, hvr, hsz, pre, hpre, hJs⟩ := hrel
    by_cases hlt : j < xs.length
    · obtain ⟨x, hx⟩ : ∃ x, xs[j].1 = x := ⟨_, rfl⟩
      obtain ⟨y, hy0⟩ : ∃ y, xs[j].2 = y := ⟨_, rfl⟩
      have HVR := Lib.hid hvr
      rcases hvr.2 with ⟨_, h2⟩ | ⟨b, off, c, he, hbB, hc⟩
      · rw [h2] at hlt; simp at hlt
      · injection he with he1 he2 he3
        subst he1 he3
        have c0 := (hc j hlt).1
        have c1 := (hc j hlt).2
        rw [hx] at c0
        rw [hy0] at c1
        have hwid : wr.heap.size ≤ (wr.alloc (.cells #[.int .i64 x, .int .i64 y] 33)).heap.size := by simp
        have hbA : Below wr.heap.size wr (wr.alloc (.cells #[.int .i64 x, .int .i64 y] 33)) := (Below.refl _ _).alloc (Nat.le_refl _) _
        have HBA := Lib.hid hbA
        have HVA := Lib.hid (HVR.out.later (by omega) hbA)
        obtain ⟨fn, tmps, assign, body, hy, hR⟩ := HY.out pre ⟨j, hlt⟩ _ (HJ.out pre wr _ none hJs (grown_of_below hbA) (fun r e => by cases e)) (by
          have := congrArg List.length hpre
          rw [List.length_map, List.length_range] at this
          omega)
        dsimp only [encN] at hy
        rw [hx, hy0] at hy
        have HR := Lib.hid hR
        have HP := Lib.hid hpre
        clear hR hc hvr hJs hpre hbA hx hy0
        gi_wp2
        refine HR.out.mono ?_
        rintro e W3 ⟨rfl, hJ3, hk3⟩
        have HK := Lib.hid hk3
        have HJ3 := Lib.hid hJ3
        clear hJ3 hk3
        gi_wp2
        go_roundw
        case rel =>
          refine ⟨j + 1, by omega, by go_num, rv_but HVA.out HK.out hmb (by omega), Nat.le_trans hsz (Nat.le_trans hwid HK.out.size), pre ++ [⟨j, hlt⟩], ?_, HJ3.out⟩
          rw [List.map_append, HP.out, List.range_succ]; rfl
        case measure => simp [intOf]; omega
    · obtain rfl : j = xs.length := by omega
      gi_wp2
      go_end0
      exact ⟨⟨_, rfl⟩, pre, hpre, hJs⟩
end Go.Proofs.Ytcafingoghoijaa.Guess
