/-
  maps.Insert, maps.Collect and guess.
-/
import Derived.Test.YtcafingoghoijaaGuess
import Derived.Maps.OwnIn
import Derived.Carry
namespace Go.Proofs.Ytcafingoghoijaa.GuessC
open Go.RowKit Go.Maps Go.Shelf Go.Proofs.Ytcafingoghoijaa.Plain Go.Proofs.Ytcafingoghoijaa.Rect Go.Proofs.Ytcafingoghoijaa.GuessM Go.Proofs.Ytcafingoghoijaa.GuessI Go.Proofs.Ytcafingoghoijaa.Range Go.Proofs.Ytcafingoghoijaa.Rects Go.Proofs.Ytcafingoghoijaa.Guess
set_option linter.unusedVariables false
attribute [local go_sem] Oper.semAt_some

/-- which numbers have come -/
def came {n : Nat} (pre : List (Fin n)) (j : Nat) : Bool := pre.any fun x => x.val == j
theorem came_next {n : Nat} (pre : List (Fin n)) (x : Fin n) (j : Nat) : came (pre ++ [x]) j = (came pre j || j == x.val) := by
  unfold came
  rw [List.any_append]
  simp [Bool.beq_comm]
theorem came_all {xs : List (Int × Int)} {ys : List (Fin xs.length)} (h : InOrder xs ys) (j : Nat) (hj : j < xs.length) : came ys j = true := by
  have hm : j ∈ ys.map (fun x => x.val) := by rw [h]; exact List.mem_range.2 hj
  obtain ⟨x, hx, rfl⟩ := List.mem_map.1 hm
  exact List.any_eq_true.2 ⟨x, hx, by simp⟩

/-- what the loop keeps: the map's box, the map -/
structure CI (w0 : World) (Bm mb : Nat) (xs : List (Int × Int)) (pre : List (Fin xs.length)) (W : World) : Prop where
  m : W.heap[Bm]? = some (.cells #[.map (some mb)] 53 (0, 0))
  map : ∃ D, W.ownsMap Try.prog 3 rectElem mb pre.length D ∧ GuessM.Guess D xs (came pre)
  below : Below mb w0 W
theorem below_row {n : Nat} {w0 W W' : World} {row : Option Nat} (hn : n ≤ W.heap.size) (h : Below n w0 W) (hg : W.grownBy W' row) (hr : ∀ r, row = some r → n ≤ r) : Below n w0 W' :=
  h.trans ⟨hg.os, hg.tape, hg.output, hg.size, fun k hk => hg.block k (by omega) (fun e => by have := hr k e.symm; omega)⟩
theorem CI.own {B : Nat} {w0 : World} {Bm mb : Nat} {xs : List (Int × Int)} (hB : mb < B) : OwnFrom B (fun pre W => CI w0 Bm mb xs pre W) :=
  fun pre W W' row hs hg hr => ⟨row_kept hs.m hg (fun r e => (hr r e).2),
    (by obtain ⟨D, h1, h2⟩ := hs.map; exact ⟨D, h1.kept hg (fun e => by have := (hr mb e.symm).1; omega), h2⟩),
    below_row (by have := hs.map; obtain ⟨D, h1, _⟩ := this; have := h1.lt; omega) hs.below hg (fun r e => by have := (hr r e).1; omega)⟩
theorem CI.later {w0 : World} {Bm mb : Nat} {xs : List (Int × Int)} {pre : List (Fin xs.length)} {A W : World} (h : CI w0 Bm mb xs pre A) (hb : Below A.heap.size A W) : CI w0 Bm mb xs pre W :=
  ⟨(hb.block _ (Array.getElem?_eq_some_iff.1 h.m).1).trans h.m, (by obtain ⟨D, h1, h2⟩ := h.map; exact ⟨D, h1.kept (grown_of_below hb) (by simp), h2⟩),
   by obtain ⟨D, h1, _⟩ := h.map; exact h.below.trans (hb.mono (by have := h1.lt; omega))⟩

set_option maxRecDepth 100000 in
set_option maxHeartbeats 4000000 in
theorem insert (xs : List (Int × Int)) (hlen : xs.length ≤ 1048576) (p : Option Addr) (k : Nat) (Bs B mb : Nat) (w : World) (hb : w.heap[Bs]? = some (.cells #[.slice p xs.length k] 25 (0, 0)))
    (hv : RV w B (.slice p xs.length k) xs) (hB : B ≤ w.heap.size) (hmb : B ≤ mb) (hne : mb ≠ Bs) (hown : w.ownsMap Try.prog 3 rectElem mb 0 (.map [])) :
    CallsIn Fence.wide 9 Try.prog 87 #[.map (some mb), .func (.func 88) #[] #[.pointer (some ⟨Bs, 0, none⟩)]] w
      fun e w' => (∃ v, e = .returned v) ∧ (∃ D, w'.ownsMap Try.prog 3 rectElem mb xs.length D ∧ GuessM.Guess D xs (fun _ => true)) ∧ Below mb w w' := by
  have hml := hown.lt
  have hBs : Bs < w.heap.size := (Array.getElem?_eq_some_iff.1 hb).1
  have hb1 : Below w.heap.size w (w.alloc (.cells #[.map (some mb)] 53)) := (Below.refl _ _).alloc (Nat.le_refl _) _
  have hst : CI w w.heap.size mb xs [] (w.alloc (.cells #[.map (some mb)] 53)) :=
    ⟨heap_alloc_new w _, ⟨_, hown.alloc _, (GuessM.Guess.start xs).congr (fun j _ => rfl)⟩, hb1.mono (by omega)⟩
  have HSEQ := Lib.hid (all_all 8 (by decide) xs hlen p k Bs B mb (w.alloc (.cells #[.map (some mb)] 53)) ((hb1.block Bs hBs).trans hb) (hv.later hB hb1) (by simp; omega) hmb hne)
  have HST := Lib.hid hst
  clear hst hb hv hown hb1
  refine callsIn_of_wp_marks Try.func87 rfl trivial ?_ rfl
  simp only [Try.ntmps87, List.size_toArray, List.length_cons, List.length_nil, Nat.reduceAdd, Nat.reduceSub, Array.replicate_succ, Array.replicate_zero, List.push_toArray, List.append_toArray, List.nil_append, List.cons_append]
  gi_wp2
  obtain ⟨W0, hW0⟩ : ∃ W0, w.alloc (.cells #[.map (some mb)] 53) = W0 := ⟨_, rfl⟩
  have hsz : W0.heap.size = w.heap.size + 1 := by rw [← hW0]; simp
  rw [hW0] at HST HSEQ ⊢
  clear hW0
  refine wp_range_all rfl (by decide) (gf := 88) (lb := #[.pointer (some ⟨Bs, 0, none⟩)]) rfl trivial (enters_of Try.func88 (by kernel_rfl) rfl)
    HSEQ.out (Below.refl _ _) (fun _ => rfl)
    (fun pre W => CI w w.heap.size mb xs pre W) (CI.own (by omega)) HST.out
    (fun x a' W => ∃ Bx, W.heap[Bx]? = some (.cells #[.int .i64 (xs[x.val]'x.isLt).1, .int .i64 (xs[x.val]'x.isLt).2] 33 (0, 0)) ∧ a' = { tmps := #[.map (some mb), .func (.func 88) #[] #[.pointer (some ⟨Bs, 0, none⟩)], .pointer (some ⟨w.heap.size, 0, none⟩), undef,
      .int .i64 (x.val : Int), .pointer (some ⟨Bx, 0, none⟩), .func (.func 88) #[] #[.pointer (some ⟨Bs, 0, none⟩)], .int .i64 (x.val : Int), rect (xs[x.val]'x.isLt).1 (xs[x.val]'x.isLt).2, undef, undef, undef], defers := [] })
    (fun x a' _ A B row hs hg hr => by
      obtain ⟨Bx, hbx, ha⟩ := hs
      exact ⟨Bx, row_kept hbx hg (fun r e => (hr r e).2), ha⟩) ?assign ?body ?done
  case assign =>
    intro l pre x W K hl hI hK
    gi_wp2
    have hb := (Below.refl W.heap.size W).alloc (Nat.le_refl _) (.cells #[.int .i64 (xs[x.val]'x.isLt).1, .int .i64 (xs[x.val]'x.isLt).2] 33)
    exact hK _ _ ((keepsOthers_of_below hb).from _) (KeepBut.of_below hb) (hI.later hb) ⟨W.heap.size, heap_alloc_new W _, rfl⟩
  case body =>
    rintro l pre x a' W hl hlW hI ⟨Bx, hbx, rfl⟩ hpl
    have HI := Lib.hid hI
    obtain ⟨D, hown, hG⟩ := hI.map
    have m0 : W.cell? ⟨w.heap.size, 0, none⟩ = some (.map (some mb)) := cell_of_row _ _ 0 _ _ _ hI.m
    have x0 : W.cell? ⟨Bx, 0, none⟩ = some (.int .i64 (xs[x.val]'x.isLt).1) := cell_of_row _ _ 0 _ _ _ hbx
    have x1 : W.cell? ⟨Bx, 1, none⟩ = some (.int .i64 (xs[x.val]'x.isLt).2) := cell_of_row _ _ 1 _ _ _ hbx
    have hx := x.isLt
    have HG := Lib.hid (hG.put hx)
    clear hI hbx hG
    have hkl : keyOf Try.prog 3 (.int .i64 (x.val : Int)) = some (.int .i64 (x.val : Int)) := keyOf_int_mk Try.underlying3 (by simp [Lit.wf, IntKind.min, IntKind.max, IntKind.bits, IntKind.signed]; omega)
    gi_wp2_with (gi_at_mapUpdate; refine wpListIn_mapUpdate_own _ rfl _ _ _ 53 rfl 3 33 keyI Try.underlying53 _ mb pre.length D rfl hown (by unfold maxLen; omega) _ _ (.int .i64 (x.val : Int)) rfl rfl hkl (pt (xs[x.val]'x.isLt)) [] rfl ?_; intro w1 hown1 hgrow1)
    have hkb := KeepBut.of_grown (l := mb) hgrow1
    refine ⟨hkb.from_ (by omega) (by omega), KeepBut.of_grown hgrow1, hkb.obj HI.out.m (by omega) (by omega), ⟨_, by rw [List.length_append]; exact hown1, HG.out.congr (fun j _ => (came_next pre x j).symm)⟩, below_row (by omega) HI.out.below hgrow1 (fun r e => by cases e; exact Nat.le_refl _)⟩
  case done =>
    rintro D ys Wd hD hS hI hK
    obtain ⟨DD, hown, hG⟩ := hI.map
    have hl : ys.length = xs.length := by have := congrArg List.length hS; simpa using this
    have HB := Lib.hid hI.below
    have HM := Lib.hid (And.intro hown (hG.congr (g := fun _ => true) (fun j hj => came_all hS j hj)))
    have hml2 := hown.lt
    rw [hl] at HM
    clear hown hG hI
    gi_wp2
    refine ⟨by simp, .inl ⟨_, _, rfl, run_takeDeferred hK, ?_⟩⟩
    have hDs : D < Wd.heap.size := (Array.getElem?_eq_some_iff.1 hK).1
    exact ⟨_, results_none rfl _ _ _, ⟨⟨_, rfl⟩, ⟨DD, HM.out.1.kept (grownBy_putObj_a _ _ _) (by intro e; injection e with e; omega), HM.out.2⟩, below_row (by omega) HB.out (grownBy_putObj_a _ _ _) (fun r e => by cases e; omega)⟩⟩
end Go.Proofs.Ytcafingoghoijaa.GuessC
