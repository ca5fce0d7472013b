/-
  Texts of one seat, joined: Guess, GuessC, GuessT, Proof.
-/
import Derived.Test.YtcafingoghoijaaJo1
import Derived.Test.YtcafingoghoijaaJo9
import Derived.Test.YtcafingoghoijaaJo14
import Derived.Test.YtcafingoghoijaaJo5
import Derived.RangeFuncNested
import Derived.RangeFuncBound
import Derived.RangeFuncCalls
import Derived.RangeFuncLeaves
import Derived.Maps.OwnIn
import Derived.Maps.OwnSet
import Derived.Shelf.Abstract
import Derived.WalkKit
import Derived.OwnWalkIn
import Derived.TacticsInMore
import Derived.LoopNIn
import Derived.LoopIn
import Derived.Carry
import Derived.OwnWalk
/-
  Guesses: maps.Collect of slices.All over a list of rectangles, and the deletions of those that are not right.
-/
namespace Go.Proofs.Ytcafingoghoijaa.Guess
open Go.RowKit Go.Maps Go.Shelf Go.Proofs.Ytcafingoghoijaa.Plain Go.Proofs.Ytcafingoghoijaa.Rect Go.Proofs.Ytcafingoghoijaa.GuessM Go.Proofs.Ytcafingoghoijaa.GuessI Go.Proofs.Ytcafingoghoijaa.Range Go.Proofs.Ytcafingoghoijaa.Rects
set_option linter.unusedVariables false
attribute [local go_sem] Oper.semAt_some

theorem grown_of_below {w w' : World} (h : Below w.heap.size w w') : w.grownBy w' none := ⟨h.os, h.tape, h.output, h.size, fun k hk _ => h.block k hk⟩
theorem row_kept {W W' : World} {row : Option Nat} {k : Nat} {cs : Array Value} {T : TypeId} {fr : Nat × Nat} (h : W.heap[k]? = some (.cells cs T fr)) (hg : W.grownBy W' row) (hr : ∀ r, row = some r → ∃ o : Obj, W.heap[r]? = some o ∧ o.isCells = false) : W'.heap[k]? = some (.cells cs T fr) :=
  (grownBy_keeps_cells hg hr h rfl).trans h
theorem keepsOthers_of_below {A B : World} (h : Below A.heap.size A B) : KeepsOthers A B := ⟨h.size, fun k o hk _ => (h.block k (Array.getElem?_eq_some_iff.1 hk).1).trans hk⟩
theorem rv_but {A W : World} {B b l : Nat} {v : Value} {xs : List (Int × Int)} (h : RV A B v xs) (hk : KeepBut b l A W) (h1 : B ≤ b) (h2 : B ≤ l) : RV W B v xs := by
  refine ⟨h.1, ?_⟩
  rcases h.2 with h2 | ⟨g, off, c, rfl, hlt, hc⟩
  · exact .inl h2
  · exact .inr ⟨g, off, c, rfl, hlt, fun j hj => ⟨hk.cell (p := ⟨g, off + j * 2, none⟩) (hc j hj).1 (by show g ≠ l; omega) (by show g ≠ b; omega), hk.cell (p := ⟨g, off + j * 2 + 1, none⟩) (hc j hj).2 (by show g ≠ l; omega) (by show g ≠ b; omega)⟩⟩

/-- a thing of a list as yield's arguments -/
abbrev encN (xs : List (Int × Int)) (x : Fin xs.length) : Array Value := #[.int .i64 (x.val : Int), rect xs[x.val].1 xs[x.val].2]
/-- all of them, in order -/
def InOrder (xs : List (Int × Int)) (ys : List (Fin xs.length)) : Prop := ys.map (fun x => x.val) = List.range xs.length

set_option maxHeartbeats 1000000 in
theorem all_call (p : Option Addr) (n k : Nat) (w : World) :
    Calls Try.prog 75 #[.slice p n k] w fun e w' => e = .returned (.func (.func 88) #[] #[.pointer (some ⟨w.heap.size, 0, none⟩)]) ∧ w' = w.alloc (.cells #[.slice p n k] 25) := by
  go_enter Try.func75, Try.ntmps75
  go_wp2_with fail
  go_ret
  exact ⟨rfl, rfl⟩

set_option maxRecDepth 100000 in
set_option maxHeartbeats 4000000 in
theorem all_all (n : Nat) (hn : 1 ≤ n) (xs : List (Int × Int)) (hlen : xs.length ≤ 1048576) (p : Option Addr) (k : Nat) (Bs B mb : Nat) (w : World) (hb : w.heap[Bs]? = some (.cells #[.slice p xs.length k] 25 (0, 0)))
    (hv : RV w B (.slice p xs.length k) xs) (hB : B ≤ w.heap.size) (hmb : B ≤ mb) (hne : mb ≠ Bs) :
    SeqAll Fence.wide n Try.prog 88 #[.pointer (some ⟨Bs, 0, none⟩)] (encN xs) mb (InOrder xs) (xs.length + 1) w := by
  intro l J W hW hl1 hl2 hJ hY h0
  have hBs : Bs < w.heap.size := (Array.getElem?_eq_some_iff.1 hb).1
  have hsW : w.heap.size ≤ W.heap.size := hW.size
  have c0 : W.cell? ⟨Bs, 0, none⟩ = some (.slice p xs.length k) := cell_of_row _ _ 0 _ _ _ ((hW.block Bs hBs).trans hb)
  have HV := Lib.hid (hv.later hB hW)
  have HY := Lib.hid hY
  have HJ := Lib.hid hJ
  have H0 := Lib.hid h0
  clear hY hJ hb hW hv h0
  have g0 : 1 ≤ n := hn
  refine callsIn_of_wp Try.func88 rfl trivial ?_ rfl
  simp only [Try.ntmps88, List.size_toArray, List.length_cons, List.length_nil, Nat.reduceAdd, Nat.reduceSub, Array.replicate_succ, Array.replicate_zero, List.push_toArray, List.append_toArray, List.nil_append, List.cons_append]
  gi_wp2
  clear c0
  gi_loopw [7] (fun i wr => ∃ j : Nat, j ≤ xs.length ∧ i = .int .i64 (j : Int) ∧ RV wr B (.slice p xs.length k) xs ∧ W.heap.size ≤ wr.heap.size ∧ ∃ pre : List (Fin xs.length), pre.map (fun x => x.val) = List.range j ∧ J pre wr) (fun i _ => xs.length - (intOf i).toNat)
  case atStart => exact ⟨0, Nat.zero_le _, rfl, HV.out, Nat.le_refl _, [], rfl, H0.out⟩
  case round =>
    obtain ⟨j, hj, rfl, hvr, hsz, pre, hpre, hJs⟩ := hrel
    by_cases hlt : j < xs.length
    · obtain ⟨x, hx⟩ : ∃ x, xs[j].1 = x := ⟨_, rfl⟩
      obtain ⟨y, hy0⟩ : ∃ y, xs[j].2 = y := ⟨_, rfl⟩
      have HVR := Lib.hid hvr
      rcases hvr.2 with ⟨_, h2⟩ | ⟨b, off, c, he, hbB, hc⟩
      · rw [h2] at hlt; simp at hlt
      · injection he with he1 he2 he3
        subst he1 he3
        have c0 := (hc j hlt).1
        have c1 := (hc j hlt).2
        rw [hx] at c0
        rw [hy0] at c1
        have hwid : wr.heap.size ≤ (wr.alloc (.cells #[.int .i64 x, .int .i64 y] 33)).heap.size := by simp
        have hbA : Below wr.heap.size wr (wr.alloc (.cells #[.int .i64 x, .int .i64 y] 33)) := (Below.refl _ _).alloc (Nat.le_refl _) _
        have HBA := Lib.hid hbA
        have HVA := Lib.hid (HVR.out.later (by omega) hbA)
        obtain ⟨fn, tmps, assign, body, hy, hR⟩ := HY.out pre ⟨j, hlt⟩ _ (HJ.out pre wr _ none hJs (grown_of_below hbA) (fun r e => by cases e)) (by
          have := congrArg List.length hpre
          rw [List.length_map, List.length_range] at this
          omega)
        dsimp only [encN] at hy
        rw [hx, hy0] at hy
        have HR := Lib.hid hR
        have HP := Lib.hid hpre
        clear hR hc hvr hJs hpre hbA hx hy0
        gi_wp2
        refine HR.out.mono ?_
        rintro e W3 ⟨rfl, hJ3, hk3⟩
        have HK := Lib.hid hk3
        have HJ3 := Lib.hid hJ3
        clear hJ3 hk3
        gi_wp2
        go_roundw
        case rel =>
          refine ⟨j + 1, by omega, by go_num, rv_but HVA.out HK.out hmb (by omega), Nat.le_trans hsz (Nat.le_trans hwid HK.out.size), pre ++ [⟨j, hlt⟩], ?_, HJ3.out⟩
          rw [List.map_append, HP.out, List.range_succ]; rfl
        case measure => simp [intOf]; omega
    · obtain rfl : j = xs.length := by omega
      gi_wp2
      go_end0
      exact ⟨⟨_, rfl⟩, pre, hpre, hJs⟩
end Go.Proofs.Ytcafingoghoijaa.Guess

/-
  maps.Insert, maps.Collect and guess.
-/
namespace Go.Proofs.Ytcafingoghoijaa.GuessC
open Go.RowKit Go.Maps Go.Shelf Go.Proofs.Ytcafingoghoijaa.Plain Go.Proofs.Ytcafingoghoijaa.Rect Go.Proofs.Ytcafingoghoijaa.GuessM Go.Proofs.Ytcafingoghoijaa.GuessI Go.Proofs.Ytcafingoghoijaa.Range Go.Proofs.Ytcafingoghoijaa.Rects Go.Proofs.Ytcafingoghoijaa.Guess
set_option linter.unusedVariables false
attribute [local go_sem] Oper.semAt_some

/-- which numbers have come -/
def came {n : Nat} (pre : List (Fin n)) (j : Nat) : Bool := pre.any fun x => x.val == j
theorem came_next {n : Nat} (pre : List (Fin n)) (x : Fin n) (j : Nat) : came (pre ++ [x]) j = (came pre j || j == x.val) := by
  unfold came
  rw [List.any_append]
  simp [Bool.beq_comm]
theorem came_all {xs : List (Int × Int)} {ys : List (Fin xs.length)} (h : InOrder xs ys) (j : Nat) (hj : j < xs.length) : came ys j = true := by
  have hm : j ∈ ys.map (fun x => x.val) := by rw [h]; exact List.mem_range.2 hj
  obtain ⟨x, hx, rfl⟩ := List.mem_map.1 hm
  exact List.any_eq_true.2 ⟨x, hx, by simp⟩

/-- what the loop keeps: the map's box, the map -/
structure CI (w0 : World) (Bm mb : Nat) (xs : List (Int × Int)) (pre : List (Fin xs.length)) (W : World) : Prop where
  m : W.heap[Bm]? = some (.cells #[.map (some mb)] 53 (0, 0))
  map : ∃ D, W.ownsMap Try.prog 3 rectElem mb pre.length D ∧ GuessM.Guess D xs (came pre)
  below : Below mb w0 W
theorem below_row {n : Nat} {w0 W W' : World} {row : Option Nat} (hn : n ≤ W.heap.size) (h : Below n w0 W) (hg : W.grownBy W' row) (hr : ∀ r, row = some r → n ≤ r) : Below n w0 W' :=
  h.trans ⟨hg.os, hg.tape, hg.output, hg.size, fun k hk => hg.block k (by omega) (fun e => by have := hr k e.symm; omega)⟩
theorem CI.own {B : Nat} {w0 : World} {Bm mb : Nat} {xs : List (Int × Int)} (hB : mb < B) : OwnFrom B (fun pre W => CI w0 Bm mb xs pre W) :=
  fun pre W W' row hs hg hr => ⟨row_kept hs.m hg (fun r e => (hr r e).2),
    (by obtain ⟨D, h1, h2⟩ := hs.map; exact ⟨D, h1.kept hg (fun e => by have := (hr mb e.symm).1; omega), h2⟩),
    below_row (by have := hs.map; obtain ⟨D, h1, _⟩ := this; have := h1.lt; omega) hs.below hg (fun r e => by have := (hr r e).1; omega)⟩
theorem CI.later {w0 : World} {Bm mb : Nat} {xs : List (Int × Int)} {pre : List (Fin xs.length)} {A W : World} (h : CI w0 Bm mb xs pre A) (hb : Below A.heap.size A W) : CI w0 Bm mb xs pre W :=
  ⟨(hb.block _ (Array.getElem?_eq_some_iff.1 h.m).1).trans h.m, (by obtain ⟨D, h1, h2⟩ := h.map; exact ⟨D, h1.kept (grown_of_below hb) (by simp), h2⟩),
   by obtain ⟨D, h1, _⟩ := h.map; exact h.below.trans (hb.mono (by have := h1.lt; omega))⟩

set_option maxRecDepth 100000 in
set_option maxHeartbeats 4000000 in
theorem insert (xs : List (Int × Int)) (hlen : xs.length ≤ 1048576) (p : Option Addr) (k : Nat) (Bs B mb : Nat) (w : World) (hb : w.heap[Bs]? = some (.cells #[.slice p xs.length k] 25 (0, 0)))
    (hv : RV w B (.slice p xs.length k) xs) (hB : B ≤ w.heap.size) (hmb : B ≤ mb) (hne : mb ≠ Bs) (hown : w.ownsMap Try.prog 3 rectElem mb 0 (.map [])) :
    CallsIn Fence.wide 9 Try.prog 87 #[.map (some mb), .func (.func 88) #[] #[.pointer (some ⟨Bs, 0, none⟩)]] w
      fun e w' => (∃ v, e = .returned v) ∧ (∃ D, w'.ownsMap Try.prog 3 rectElem mb xs.length D ∧ GuessM.Guess D xs (fun _ => true)) ∧ Below mb w w' := by
  have hml := hown.lt
  have hBs : Bs < w.heap.size := (Array.getElem?_eq_some_iff.1 hb).1
  have hb1 : Below w.heap.size w (w.alloc (.cells #[.map (some mb)] 53)) := (Below.refl _ _).alloc (Nat.le_refl _) _
  have hst : CI w w.heap.size mb xs [] (w.alloc (.cells #[.map (some mb)] 53)) :=
    ⟨heap_alloc_new w _, ⟨_, hown.alloc _, (GuessM.Guess.start xs).congr (fun j _ => rfl)⟩, hb1.mono (by omega)⟩
  have HSEQ := Lib.hid (all_all 8 (by decide) xs hlen p k Bs B mb (w.alloc (.cells #[.map (some mb)] 53)) ((hb1.block Bs hBs).trans hb) (hv.later hB hb1) (by simp; omega) hmb hne)
  have HST := Lib.hid hst
  clear hst hb hv hown hb1
  refine callsIn_of_wp_marks Try.func87 rfl trivial ?_ rfl
  simp only [Try.ntmps87, List.size_toArray, List.length_cons, List.length_nil, Nat.reduceAdd, Nat.reduceSub, Array.replicate_succ, Array.replicate_zero, List.push_toArray, List.append_toArray, List.nil_append, List.cons_append]
  gi_wp2
  obtain ⟨W0, hW0⟩ : ∃ W0, w.alloc (.cells #[.map (some mb)] 53) = W0 := ⟨_, rfl⟩
  have hsz : W0.heap.size = w.heap.size + 1 := by rw [← hW0]; simp
  rw [hW0] at HST HSEQ ⊢
  clear hW0
  refine wp_range_all rfl (by decide) (gf := 88) (lb := #[.pointer (some ⟨Bs, 0, none⟩)]) rfl trivial (enters_of Try.func88 (by kernel_rfl) rfl)
    HSEQ.out (Below.refl _ _) (fun _ => rfl)
    (fun pre W => CI w w.heap.size mb xs pre W) (CI.own (by omega)) HST.out
    (fun x a' W => ∃ Bx, W.heap[Bx]? = some (.cells #[.int .i64 (xs[x.val]'x.isLt).1, .int .i64 (xs[x.val]'x.isLt).2] 33 (0, 0)) ∧ a' = { tmps := #[.map (some mb), .func (.func 88) #[] #[.pointer (some ⟨Bs, 0, none⟩)], .pointer (some ⟨w.heap.size, 0, none⟩), undef,
      .int .i64 (x.val : Int), .pointer (some ⟨Bx, 0, none⟩), .func (.func 88) #[] #[.pointer (some ⟨Bs, 0, none⟩)], .int .i64 (x.val : Int), rect (xs[x.val]'x.isLt).1 (xs[x.val]'x.isLt).2, undef, undef, undef], defers := [] })
    (fun x a' _ A B row hs hg hr => by
      obtain ⟨Bx, hbx, ha⟩ := hs
      exact ⟨Bx, row_kept hbx hg (fun r e => (hr r e).2), ha⟩) ?assign ?body ?done
  case assign =>
    intro l pre x W K hl hI hK
    gi_wp2
    have hb := (Below.refl W.heap.size W).alloc (Nat.le_refl _) (.cells #[.int .i64 (xs[x.val]'x.isLt).1, .int .i64 (xs[x.val]'x.isLt).2] 33)
    exact hK _ _ ((keepsOthers_of_below hb).from _) (KeepBut.of_below hb) (hI.later hb) ⟨W.heap.size, heap_alloc_new W _, rfl⟩
  case body =>
    rintro l pre x a' W hl hlW hI ⟨Bx, hbx, rfl⟩ hpl
    have HI := Lib.hid hI
    obtain ⟨D, hown, hG⟩ := hI.map
    have m0 : W.cell? ⟨w.heap.size, 0, none⟩ = some (.map (some mb)) := cell_of_row _ _ 0 _ _ _ hI.m
    have x0 : W.cell? ⟨Bx, 0, none⟩ = some (.int .i64 (xs[x.val]'x.isLt).1) := cell_of_row _ _ 0 _ _ _ hbx
    have x1 : W.cell? ⟨Bx, 1, none⟩ = some (.int .i64 (xs[x.val]'x.isLt).2) := cell_of_row _ _ 1 _ _ _ hbx
    have hx := x.isLt
    have HG := Lib.hid (hG.put hx)
    clear hI hbx hG
    have hkl : keyOf Try.prog 3 (.int .i64 (x.val : Int)) = some (.int .i64 (x.val : Int)) := keyOf_int_mk Try.underlying3 (by simp [Lit.wf, IntKind.min, IntKind.max, IntKind.bits, IntKind.signed]; omega)
    gi_wp2_with (gi_at_mapUpdate; refine wpListIn_mapUpdate_own _ rfl _ _ _ 53 rfl 3 33 keyI Try.underlying53 _ mb pre.length D rfl hown (by unfold maxLen; omega) _ _ (.int .i64 (x.val : Int)) rfl rfl hkl (pt (xs[x.val]'x.isLt)) [] rfl ?_; intro w1 hown1 hgrow1)
    have hkb := KeepBut.of_grown (l := mb) hgrow1
    refine ⟨hkb.from_ (by omega) (by omega), KeepBut.of_grown hgrow1, hkb.obj HI.out.m (by omega) (by omega), ⟨_, by rw [List.length_append]; exact hown1, HG.out.congr (fun j _ => (came_next pre x j).symm)⟩, below_row (by omega) HI.out.below hgrow1 (fun r e => by cases e; exact Nat.le_refl _)⟩
  case done =>
    rintro D ys Wd hD hS hI hK
    obtain ⟨DD, hown, hG⟩ := hI.map
    have hl : ys.length = xs.length := by have := congrArg List.length hS; simpa using this
    have HB := Lib.hid hI.below
    have HM := Lib.hid (And.intro hown (hG.congr (g := fun _ => true) (fun j hj => came_all hS j hj)))
    have hml2 := hown.lt
    rw [hl] at HM
    clear hown hG hI
    gi_wp2
    refine ⟨by simp, .inl ⟨_, _, rfl, run_takeDeferred hK, ?_⟩⟩
    have hDs : D < Wd.heap.size := (Array.getElem?_eq_some_iff.1 hK).1
    exact ⟨_, results_none rfl _ _ _, ⟨⟨_, rfl⟩, ⟨DD, HM.out.1.kept (grownBy_putObj_a _ _ _) (by intro e; injection e with e; omega), HM.out.2⟩, below_row (by omega) HB.out (grownBy_putObj_a _ _ _) (fun r e => by cases e; omega)⟩⟩
end Go.Proofs.Ytcafingoghoijaa.GuessC

/-
  maps.Collect of a list; guess; the things that are guessed.
-/
namespace Go.Proofs.Ytcafingoghoijaa.GuessT
open Go.RowKit Go.Maps Go.Shelf Go.Proofs.Ytcafingoghoijaa.Plain Go.Proofs.Ytcafingoghoijaa.Rect Go.Proofs.Ytcafingoghoijaa.GuessM Go.Proofs.Ytcafingoghoijaa.GuessI Go.Proofs.Ytcafingoghoijaa.Range Go.Proofs.Ytcafingoghoijaa.Rects Go.Proofs.Ytcafingoghoijaa.Guess Go.Proofs.Ytcafingoghoijaa.GuessC
open Go.Proofs.Ytcafingoghoijaa.Marks (flat encR)
set_option linter.unusedVariables false

set_option maxHeartbeats 1000000 in
theorem collect (xs : List (Int × Int)) (hlen : xs.length ≤ 1048576) (p : Option Addr) (k : Nat) (Bs B : Nat) (w : World) (hb : w.heap[Bs]? = some (.cells #[.slice p xs.length k] 25 (0, 0)))
    (hv : RV w B (.slice p xs.length k) xs) (hB : B ≤ w.heap.size) :
    Calls Try.prog 74 #[.func (.func 88) #[] #[.pointer (some ⟨Bs, 0, none⟩)]] w
      fun e w' => e = .returned (.map (some w.heap.size)) ∧ (∃ D, w'.ownsMap Try.prog 3 rectElem w.heap.size xs.length D ∧ GuessM.Guess D xs (fun _ => true)) ∧ Below w.heap.size w w' := by
  have hBs : Bs < w.heap.size := (Array.getElem?_eq_some_iff.1 hb).1
  have hb1 : Below w.heap.size w (w.alloc (.map #[] 0)) := (Below.refl _ _).alloc (Nat.le_refl _) _
  have HI := Lib.hid (callsIn_wide.1 (insert xs hlen p k Bs B w.heap.size (w.alloc (.map #[] 0)) ((hb1.block Bs hBs).trans hb) (hv.later hB hb1) (by simp; omega) hB (by omega) (World.ownsMap_made w _ _ _)))
  have HB := Lib.hid hb1
  clear hb hv hb1
  go_enter Try.func74, Try.ntmps74
  have hmm := @run_makeMap Try.prog
  go_wp2_with fail
  refine HI.out.mono ?_
  rintro e w1 ⟨⟨v, rfl⟩, hD, hb⟩
  have HD := Lib.hid hD
  have HB2 := Lib.hid hb
  clear hD hb HI hmm
  go_wp2_with fail
  go_ret
  exact ⟨rfl, HD.out, HB.out.trans HB2.out⟩

/-- a function value answers so for each of a list -/
def Right (g : Nat) (lb : Array Value) (xs : List (Int × Int)) (pr : Nat → Bool) (w : World) : Prop :=
  ∀ j (hj : j < xs.length) W, Below w.heap.size w W → Calls Try.prog g (#[rect xs[j].1 xs[j].2] ++ lb) W fun e w' => e = .returned (.bool (pr j)) ∧ Below W.heap.size W w'

set_option maxRecDepth 100000 in
set_option maxHeartbeats 4000000 in
theorem guess_any (g : Nat) (lb : Array Value) (eg : ∀ args W, (callFunc g args).run Try.prog W = .ok (.enter g args) W) (xs : List (Int × Int)) (hlen : xs.length ≤ 1048576) (v : Value) (pr : Nat → Bool) (w : World)
    (hv : RV w w.heap.size v xs) (hR : Right g lb xs pr w) :
    Calls Try.prog 39 #[v, .func (.func g) #[] lb] w fun e w' => ∃ v', e = .returned v' ∧ IsG w.heap.size w' v' xs pr ∧ Below w.heap.size w w' := by
  obtain ⟨p, k, rfl⟩ := hv.slice
  have hb1 : Below w.heap.size w (w.alloc (.cells #[.slice p xs.length k] 25)) := (Below.refl _ _).alloc (Nat.le_refl _) _
  have HC := Lib.hid (collect xs hlen p k w.heap.size w.heap.size (w.alloc (.cells #[.slice p xs.length k] 25)) (heap_alloc_new w _) (hv.later (Nat.le_refl _) hb1) (by simp))
  have HR := Lib.hid hR
  have HV := Lib.hid hv
  have HB := Lib.hid hb1
  clear hv hR hb1
  go_enter Try.func39, Try.ntmps39
  go_wp2_with (first
    | (go_at_call 75; refine (all_call _ _ _ _).mono ?_; rintro e w' ⟨rfl, rfl⟩)
    | (go_at_call 74; refine HC.out.mono ?_; rintro e w1 ⟨rfl, hD, hb⟩; have HD := Lib.hid hD; have HB2 := Lib.hid (HB.out.trans (hb.mono (by simp))); clear hD hb))
  obtain ⟨mb, hmb⟩ : ∃ mb, (w.alloc (.cells #[.slice p xs.length k] 25)).heap.size = mb := ⟨_, rfl⟩
  have hmw : w.heap.size ≤ mb := by rw [← hmb]; simp
  simp only [World.size_alloc] at hmb
  simp only [World.size_alloc] at HD ⊢
  rw [hmb] at HD ⊢
  clear HC HB
  go_loopw [12] (fun i wr => ∃ j : Nat, j ≤ xs.length ∧ i = .int .i64 (j : Int) ∧ (∃ D, wr.ownsMap Try.prog 3 rectElem mb xs.length D ∧ GuessM.Guess D xs (fun t => if t < j then pr t else true)) ∧ Below w.heap.size w wr) (fun i _ => xs.length - (intOf i).toNat)
  case atStart =>
    obtain ⟨D, h1, h2⟩ := HD.out
    exact ⟨0, Nat.zero_le _, rfl, ⟨D, h1, h2.congr (fun t _ => by rw [if_neg (Nat.not_lt_zero t)])⟩, HB2.out⟩
  case round =>
    obtain ⟨j, hj, rfl, ⟨D, hown, hG⟩, hbr⟩ := hrel
    clear HD HB2
    by_cases hlt : j < xs.length
    · obtain ⟨x, hx⟩ : ∃ x, xs[j].1 = x := ⟨_, rfl⟩
      obtain ⟨y, hy⟩ : ∃ y, xs[j].2 = y := ⟨_, rfl⟩
      have hvr := HV.out.later (Nat.le_refl _) hbr
      have hsz := hbr.size
      rcases hvr.2 with ⟨_, h2⟩ | ⟨b, off, c, he, hbB, hc⟩
      · rw [h2] at hlt; simp at hlt
      · injection he with he1 he2 he3
        subst he1 he3
        have c0 := (hc j hlt).1
        have c1 := (hc j hlt).2
        rw [hx] at c0
        rw [hy] at c1
        have hcall := HR.out j hlt
        rw [hx, hy] at hcall
        have HCALL := Lib.hid hcall
        have HBR := Lib.hid hbr
        have HOWN := Lib.hid hown
        have HG := Lib.hid hG
        clear hcall hbr hown hG hc hvr hx hy
        go_wp2_with fail
        refine (HCALL.out _ HBR.out).mono ?_
        rintro e w2 ⟨rfl, hb2⟩
        have hown2 := HOWN.out.kept (grown_of_below hb2) (by simp)
        have HB3 := Lib.hid (HBR.out.trans (hb2.mono hsz))
        clear c0 c1 hb2 HBR HCALL HOWN
        cases hp : pr j with
        | true =>
          have HP := Lib.hid hp
          have HO2 := Lib.hid hown2
          clear hp hown2
          go_wp2_with fail
          go_roundw
          case rel =>
            refine ⟨j + 1, by omega, by go_num, ⟨D, HO2.out, HG.out.congr (fun t ht => ?_)⟩, HB3.out⟩
            by_cases e1 : t < j
            · rw [if_pos e1, if_pos (by omega)]
            · rw [if_neg e1]
              by_cases e2 : t < j + 1
              · obtain rfl : t = j := by omega
                rw [if_pos e2, HP.out]
              · rw [if_neg e2]
          case measure => simp [intOf]; omega
        | false =>
          have HP := Lib.hid hp
          clear hp
          have hkl : keyOf Try.prog 3 (.int .i64 (j : Int)) = some (.int .i64 (j : Int)) := keyOf_int_mk Try.underlying3 (by simp [Lit.wf, IntKind.min, IntKind.max, IntKind.bits, IntKind.signed]; omega)
          go_wp2_with (first
            | (at_delete; refine wpList_delete_own _ rfl _ _ 54 3 rfl 33 keyI Try.underlying54 _ mb xs.length D rfl hown2 _ (.int .i64 (j : Int)) rfl hkl ?_; intro w3 hown3 hturn3; have HO3 := Lib.hid hown3; have HT3 := Lib.hid hturn3; clear hown3 hturn3))
          go_roundw
          case rel =>
            refine ⟨j + 1, by omega, by go_num, ⟨_, HO3.out, (HG.out.del j).congr (fun t ht => ?_)⟩, below_row (by have := HB3.out.size; omega) HB3.out HT3.out.grown (fun r e => by cases e; exact hmw)⟩
            by_cases e1 : t < j
            · have e3 : (t != j) = true := by simp; omega
              rw [if_pos e1, if_pos (by omega), e3, Bool.and_true]
            · rw [if_neg e1]
              by_cases e2 : t < j + 1
              · obtain rfl : t = j := by omega
                rw [if_pos e2, HP.out]; simp
              · have e3 : (t != j) = true := by simp; omega
                rw [if_neg e2, e3]; rfl
          case measure => simp [intOf]; omega
    · obtain rfl : j = xs.length := by omega
      have HO := Lib.hid hown
      have HG := Lib.hid hG
      have HB3 := Lib.hid hbr
      clear hown hG hbr
      go_wp2_with fail
      go_ret
      exact ⟨_, rfl, ⟨hlen, mb, xs.length, D, rfl, hmw, hlen, HO.out, HG.out.congr (fun t ht => by rw [if_pos ht])⟩, HB3.out⟩
end Go.Proofs.Ytcafingoghoijaa.GuessT

/-
  ProofOf: the first rectangle of a list that has an entry; both sides.
-/
namespace Go.Proofs.Ytcafingoghoijaa.Proof
open Go.RowKit Go.Proofs.Ytcafingoghoijaa.Plain Go.Proofs.Ytcafingoghoijaa.Rect Go.Proofs.Ytcafingoghoijaa.GuessM Go.Proofs.Ytcafingoghoijaa.GuessI Go.Proofs.Ytcafingoghoijaa.GuessT Go.Proofs.Ytcafingoghoijaa.Rects
set_option linter.unusedVariables false

/-- whether a side has an input -/
def tb (s i : Int) : Bool := if 0 ≤ i ∧ i ≤ 7 then s.toNat.testBit i.toNat else false
/-- whether an entry is in a rectangle -/
def inR (q : Int × Int) (x y : Int) : Bool := someB q.1 q.2 && (tb q.1 x && tb q.2 y)
theorem tb_set {s : Int} (h : 0 ≤ s ∧ s < 256) (i : Int) (W : World) : Calls Try.prog 57 #[.int .i64 s, .int .i64 i] W fun e w' => e = .returned (.bool (tb s i)) ∧ W = w' := by
  obtain ⟨S, rfl⟩ := Int.eq_ofNat_of_zero_le h.1
  unfold tb
  by_cases hi : 0 ≤ i ∧ i ≤ 7
  · rw [if_pos hi]
    obtain ⟨I, rfl⟩ := Int.eq_ofNat_of_zero_le hi.1
    exact inSet_yes S I (by omega) (by omega) W
  · rw [if_neg hi]
    exact inSet_no S i (by omega) W
theorem inR_spec (q : Int × Int) (x y : Int) (w : World) : Calls Try.prog 38 #[rect q.1 q.2, .int .i64 x, .int .i64 y] w fun e w' => e = .returned (.bool (inR q x y)) ∧ Below w.heap.size w w' := by
  obtain ⟨r, c⟩ := q
  unfold inR
  simp only
  cases h : someB r c with
  | false => exact fnExactInRect.spec_none r c x y h w
  | true =>
    have hh := (someB_iff r c).1 h
    obtain ⟨R, rfl⟩ := Int.eq_ofNat_of_zero_le (show 0 ≤ r by omega)
    obtain ⟨C, rfl⟩ := Int.eq_ofNat_of_zero_le (show 0 ≤ c by omega)
    rw [Bool.true_and]
    by_cases hx : 0 ≤ x ∧ x ≤ 7
    · by_cases hy : 0 ≤ y ∧ y ≤ 7
      · obtain ⟨X, rfl⟩ := Int.eq_ofNat_of_zero_le hx.1
        obtain ⟨Y, rfl⟩ := Int.eq_ofNat_of_zero_le hy.1
        unfold tb
        rw [if_pos hx, if_pos hy]
        exact fnExactInRect.spec_yes R C X Y (by omega) (by omega) (by omega) (by omega) (by omega) (by omega) w
      · have e : tb (C : Int) y = false := by unfold tb; rw [if_neg hy]
        rw [e, Bool.and_false]
        exact fnExactInRect.spec_y R C x y h hx hy w
    · have e : tb (R : Int) x = false := by unfold tb; rw [if_neg hx]
      rw [e, Bool.false_and]
      exact fnExactInRect.spec_x R C x y h hx w
theorem inR_impl (q : Int × Int) (x y : Int) (w : World) : Calls Try.prog 32 #[rect q.1 q.2, .int .i64 x, .int .i64 y] w fun e w' => e = .returned (.bool (inR q x y)) ∧ Below w.heap.size w w' := by
  obtain ⟨r, c⟩ := q
  unfold inR
  simp only
  cases h : someB r c with
  | false => exact fnExactInRect.impl_none r c x y h w
  | true =>
    have hh := (someB_iff r c).1 h
    rw [Bool.true_and]
    exact fnExactInRect.impl_yes r c x y h _ _ (fun W => tb_set (by omega) x W) (fun W => tb_set (by omega) y W) w

theorem leastK_found {f : Nat → Bool} {n j : Nat} (hj : j < n) (h : f j = true) (hb : ∀ t, t < j → f t = false) : leastK f n = (j : Int) := by
  have hm : j ∈ keep f n := (mem_keep f j n).2 ⟨hj, h⟩
  have hr := keep_rises f n
  unfold leastK
  cases hk : keep f n with
  | nil => rw [hk] at hm; cases hm
  | cons a t =>
    rw [hk] at hm hr
    have ha := (mem_keep f a n).1 (by rw [hk]; exact List.mem_cons_self)
    rcases List.mem_cons.1 hm with rfl | h2
    · rfl
    · have h3 := (List.pairwise_cons.1 hr).1 j h2
      have := hb a h3
      rw [ha.2] at this; cases this
theorem leastK_none {f : Nat → Bool} {n : Nat} (hb : ∀ t, t < n → f t = false) : leastK f n = -1 := by
  unfold leastK
  cases hk : keep f n with
  | nil => rfl
  | cons a t =>
    have ha := (mem_keep f a n).1 (by rw [hk]; exact List.mem_cons_self)
    have := hb a ha.1
    rw [ha.2] at this; cases this

/-- whether the j-th rectangle has the entry -/
def has (xs : List (Int × Int)) (x y : Int) (j : Nat) : Bool := inR (xs.getD j (0, 0)) x y
theorem has_at (xs : List (Int × Int)) (x y : Int) (j : Nat) (hj : j < xs.length) : has xs x y j = inR xs[j] x y := by simp [has, List.getD, hj]

set_option maxHeartbeats 1000000 in
theorem right (xs : List (Int × Int)) (x y : Int) (Bx By : Nat) (w : World) (hx : w.cell? ⟨Bx, 0, none⟩ = some (.int .i64 x)) (hy : w.cell? ⟨By, 0, none⟩ = some (.int .i64 y)) (hxl : Bx < w.heap.size) (hyl : By < w.heap.size) :
    Right 40 #[.pointer (some ⟨Bx, 0, none⟩), .pointer (some ⟨By, 0, none⟩)] xs (has xs x y) w := by
  intro j hj W hb
  have c0 := (hb.cell (p := ⟨Bx, 0, none⟩) hxl).trans hx
  have c1 := (hb.cell (p := ⟨By, 0, none⟩) hyl).trans hy
  have hsz := hb.size
  have hbx : Bx < W.heap.size := by omega
  have hby : By < W.heap.size := by omega
  have HI := Lib.hid (fun W => inR_impl xs[j] x y W)
  rw [has_at xs x y j hj]
  obtain ⟨v, hv⟩ : ∃ v, inR xs[j] x y = v := ⟨_, rfl⟩
  rw [hv] at HI ⊢
  obtain ⟨a, ha⟩ : ∃ a, xs[j].1 = a := ⟨_, rfl⟩
  obtain ⟨b, hb2⟩ : ∃ b, xs[j].2 = b := ⟨_, rfl⟩
  rw [ha, hb2] at HI ⊢
  clear hx hy hb hv ha hb2
  show Calls Try.prog 40 #[rect a b, .pointer (some ⟨Bx, 0, none⟩), .pointer (some ⟨By, 0, none⟩)] W _
  go_enter Try.func40, Try.ntmps40
  go_wp2_with fail
  refine (HI.out _).mono ?_
  rintro e w1 ⟨rfl, hb1⟩
  have HB := Lib.hid (((Below.refl W.heap.size W).alloc (Nat.le_refl _) _).trans (hb1.mono (by simp)))
  clear hb1 c0 c1
  go_wp2_with fail
  go_ret
  exact ⟨rfl, HB.out⟩

set_option maxHeartbeats 1000000 in
theorem impl_any (xs : List (Int × Int)) (hlen : xs.length ≤ 1048576) (v : Value) (x y : Int) (w : World) (hv : RV w w.heap.size v xs) :
    Calls Try.prog 16 #[v, .int .i64 x, .int .i64 y] w fun e w' => e = .returned (.int .i64 (leastK (has xs x y) xs.length)) ∧ Below w.heap.size w w' := by
  have hb2 : Below w.heap.size w ((w.alloc (.cells #[.int .i64 x] 3)).alloc (.cells #[.int .i64 y] 3)) := ((Below.refl w.heap.size w).alloc (Nat.le_refl _) _).alloc (by simp) _
  have hbx : ((w.alloc (.cells #[.int .i64 x] 3)).alloc (.cells #[.int .i64 y] 3)).cell? ⟨w.heap.size, 0, none⟩ = some (.int .i64 x) := by simp
  have hby : ((w.alloc (.cells #[.int .i64 x] 3)).alloc (.cells #[.int .i64 y] 3)).cell? ⟨w.heap.size + 1, 0, none⟩ = some (.int .i64 y) := by simp
  have HG := Lib.hid (guess_any 40 #[.pointer (some ⟨w.heap.size, 0, none⟩), .pointer (some ⟨w.heap.size + 1, 0, none⟩)] (enters_of Try.func40 (by kernel_rfl) rfl) xs hlen v (has xs x y) _
    ((hv.later (Nat.le_refl _) hb2).mono hb2.size) (right xs x y w.heap.size (w.heap.size + 1) _ hbx hby (by simp; omega) (by simp)))
  have HB := Lib.hid hb2
  obtain ⟨r, hr⟩ : ∃ r, leastK (has xs x y) xs.length = r := ⟨_, rfl⟩
  have HL := Lib.hid (fun v' B W hg => least xs (has xs x y) v' B W hg)
  rw [hr] at HL ⊢
  clear hv hb2 hbx hby hr
  go_enter Try.func16, Try.ntmps16
  go_wp2_with fail
  refine HG.out.mono ?_
  rintro e w1 ⟨v', rfl, hg, hb1⟩
  have HG1 := Lib.hid hg
  have HB1 := Lib.hid hb1
  clear hg hb1 HG
  go_wp2_with fail
  refine (HL.out _ _ _ HG1.out).mono ?_
  rintro e w2 ⟨rfl, hb3⟩
  have HB3 := Lib.hid (HB.out.trans ((HB1.out.mono HB.out.size).trans (hb3.mono (Nat.le_trans HB.out.size HB1.out.size))))
  clear hb3 HL HG1 HB1 HB
  go_wp2_with fail
  go_ret
  exact ⟨rfl, HB3.out⟩

set_option maxHeartbeats 1000000 in
theorem spec_any (xs : List (Int × Int)) (hlen : xs.length ≤ 1048576) (v : Value) (x y : Int) (w : World) (hv : RV w w.heap.size v xs) :
    Calls Try.prog 14 #[v, .int .i64 x, .int .i64 y] w fun e w' => e = .returned (.int .i64 (leastK (has xs x y) xs.length)) ∧ Below w.heap.size w w' := by
  have HC : Hid (∀ W, Below w.heap.size w W → ∀ j (hj : j < xs.length), ∃ b off c, v = .slice (some ⟨b, off, none⟩) xs.length c ∧ W.cell? ⟨b, off + j * 2, none⟩ = some (.int .i64 xs[j].1) ∧ W.cell? ⟨b, off + j * 2 + 1, none⟩ = some (.int .i64 xs[j].2)) := fun W hb j hj => by
    rcases (hv.later (Nat.le_refl _) hb).2 with ⟨_, rfl⟩ | ⟨b, off, c, rfl, hlt, hc⟩
    · cases hj
    · exact ⟨b, off, c, rfl, hc j hj⟩
  have HF := Lib.hid (fun j hj h hb => leastK_found (f := has xs x y) (n := xs.length) (j := j) hj h hb)
  have HN := Lib.hid (fun hb => leastK_none (f := has xs x y) (n := xs.length) hb)
  obtain ⟨r, hr⟩ : ∃ r, leastK (has xs x y) xs.length = r := ⟨_, rfl⟩
  rw [hr] at HF HN ⊢
  obtain ⟨p, k, rfl⟩ := hv.slice
  clear hv hr
  go_enter Try.func14, Try.ntmps14
  go_wp2_with fail
  go_loopw [7] (fun i wr => ∃ j : Nat, j ≤ xs.length ∧ i = .int .i64 (j : Int) ∧ (∀ t, t < j → has xs x y t = false) ∧ Below w.heap.size w wr) (fun i _ => xs.length - (intOf i).toNat)
  case atStart => exact ⟨0, Nat.zero_le _, rfl, fun t h => absurd h (Nat.not_lt_zero t), Below.refl _ _⟩
  case round =>
    obtain ⟨j, hj, rfl, hno, hbr⟩ := hrel
    have HNO := Lib.hid hno
    have HBR := Lib.hid hbr
    clear hno hbr
    by_cases hlt : j < xs.length
    · obtain ⟨b, off, c, he, c0, c1⟩ := HC.out wr HBR.out j hlt
      injection he with he1 he2 he3
      subst he1 he3
      have HI := Lib.hid (fun W => inR_spec xs[j] x y W)
      have hat := has_at xs x y j hlt
      obtain ⟨v, hv⟩ : ∃ v, inR xs[j] x y = v := ⟨_, rfl⟩
      rw [hv] at HI hat
      obtain ⟨q0, hq0⟩ : ∃ a, xs[j].1 = a := ⟨_, rfl⟩
      obtain ⟨q1, hq1⟩ : ∃ b, xs[j].2 = b := ⟨_, rfl⟩
      rw [hq0, hq1] at HI
      rw [hq0] at c0
      rw [hq1] at c1
      have HAT := Lib.hid hat
      clear hat hv hq0 hq1
      go_wp2_with fail
      refine (HI.out _).mono ?_
      rintro e w1 ⟨rfl, hb1⟩
      have HB1 := Lib.hid (HBR.out.trans (hb1.mono HBR.out.size))
      clear hb1 c0 c1 HI HBR
      cases v with
      | false =>
        go_wp2_with fail
        go_roundw
        case rel =>
          refine ⟨j + 1, by omega, by go_num, fun t ht => ?_, HB1.out⟩
          by_cases e : t = j
          · rw [e]; exact HAT.out
          · exact HNO.out t (by omega)
        case measure => simp [intOf]; omega
      | true =>
        obtain rfl := HF.out j hlt HAT.out HNO.out
        go_wp2_with fail
        go_ret
        exact ⟨rfl, HB1.out⟩
    · obtain rfl : j = xs.length := by omega
      obtain rfl := HN.out HNO.out
      go_wp2_with fail
      go_ret
      exact ⟨rfl, HBR.out⟩
end Go.Proofs.Ytcafingoghoijaa.Proof

