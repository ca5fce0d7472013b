/-
  Texts of one seat, joined: EachS, Range, Widest.
-/
import Derived.Test.YtemmagkkigdhjaaGreatDoorJn1
import Derived.RangeFuncNested
import Derived.RangeFuncBound
import Derived.RangeFuncCalls
import Derived.RangeFuncLeaves
import Derived.Shelf.Abstract
import Derived.Shelf.RegionOpen
import Derived.WalkKit
import Derived.OwnWalkIn
import Derived.TacticsInMore
import Derived.LoopNIn
import Derived.LoopIn
import Derived.Test.YtemmagkkigdhjaaGreatDoorJn18
import Derived.Deep.RegionHeld
import Derived.Test.YtemmagkkigdhjaaGreatDoorJn21
import Derived.Test.YtemmagkkigdhjaaGreatDoorJn19
/-
  The program's iterator over the sets of numbers less than a count: eachSet. Its contract: whatever loop's body.
-/
namespace Go.Proofs.YtemmagkkigdhjaaGreatDoor.EachS
open Go.RowKit Go.Shelf Go.Proofs.YtemmagkkigdhjaaGreatDoor.Plain Go.Proofs.YtemmagkkigdhjaaGreatDoor.Pat Go.Proofs.YtemmagkkigdhjaaGreatDoor.Rect Go.Proofs.YtemmagkkigdhjaaGreatDoor.Each
set_option linter.unusedVariables false
attribute [local go_sem] Oper.semAt_some


/-- the sets from 1 to k -/
def upS : Nat → List (Fin 256)
  | 0 => []
  | k + 1 => upS k ++ (if h : k + 1 < 256 then [⟨k + 1, h⟩] else [])
theorem upS_next (k : Nat) (h1 : 1 ≤ k) (h : k < 256) : upS k = upS (k - 1) ++ [⟨k, h⟩] := by
  obtain ⟨q, rfl⟩ : ∃ q, k = q + 1 := ⟨k - 1, by omega⟩
  rw [upS, dif_pos h]
  rfl
theorem upS_len : ∀ k, (upS k).length ≤ k
  | 0 => Nat.le_refl _
  | k + 1 => by
    have := upS_len k
    rw [upS, List.length_append]
    split <;> simp <;> omega
/-- a set as yield's argument -/
abbrev encS (x : Fin 256) : Array Value := #[.int .i64 (x.val : Int)]

set_option maxHeartbeats 1000000 in
theorem set_each (c : Int) (w : World) :
    Calls Tryz.prog 48 #[.int .i64 c] w fun e w' => e = .returned (.func (.func 74) #[] #[.pointer (some ⟨w.heap.size, 0, none⟩)]) ∧ w' = w.alloc (.cells #[.int .i64 c] 3) := by
  go_enter Tryz.func48, Tryz.ntmps48
  go_wp2_with fail
  go_ret
  exact ⟨rfl, rfl⟩

set_option maxRecDepth 100000 in
set_option maxHeartbeats 1000000 in
theorem set_in (n : Nat) (hn : 1 ≤ n) (l Bn c : Nat) (hc8 : c ≤ 8) (J Jx : List (Fin 256) → World → Prop)
    (hY : ∀ pre x W, J pre W → pre.length < 256 → YieldAt Fence.wide (n - 1) Tryz.prog l (encS x) W fun e W' =>
      (e = .returned (.bool true) ∧ J (pre ++ [x]) W' ∧ KeepC Bn W W') ∨ (e = .returned (.bool false) ∧ Jx (pre ++ [x]) W'))
    (W : World) (hBn : W.cell? ⟨Bn, 0, none⟩ = some (.int .i64 (c : Int))) (h0 : J [] W) :
    CallsIn Fence.wide n Tryz.prog 74 #[.func (.yield l) #[] #[], .pointer (some ⟨Bn, 0, none⟩)] W fun e W' => (∃ v, e = .returned v) ∧
      ((∃ ys, ys = upS (2 ^ c - 1) ∧ J ys W') ∨ (∃ pre, True ∧ Jx pre W')) := by
  have hp8 : 2 ^ c ≤ 256 := Nat.pow_le_pow_right (n := 2) (by decide) hc8
  have hp1 : 1 ≤ 2 ^ c := Nat.one_le_two_pow
  have HSV := Lib.hid (fun (k : Nat) W => valid_any (k : Int) c hc8 W)
  have hpi : ((2 : Int) ^ c) = ((2 ^ c : Nat) : Int) := by simp
  rw [hpi] at HSV
  clear hpi
  generalize 2 ^ c = N at *
  refine callsIn_of_wp Tryz.func74 rfl trivial ?_ rfl
  simp only [Tryz.ntmps74, List.size_toArray, List.length_cons, List.length_nil, Nat.reduceAdd, Nat.reduceSub, Array.replicate_succ, Array.replicate_zero, List.push_toArray, List.append_toArray, List.nil_append, List.cons_append]
  gi_wp2
  gi_loopw [3] (fun p wr => ∃ k : Nat, 1 ≤ k ∧ k ≤ N ∧ p = .int .i64 (k : Int) ∧ wr.cell? ⟨Bn, 0, none⟩ = some (.int .i64 (c : Int)) ∧ J (upS (k - 1)) wr) (fun p _ => N - (intOf p).toNat)
  case atStart => exact ⟨1, Nat.le_refl _, hp1, rfl, hBn, h0⟩
  case round =>
    obtain ⟨k, hk1, hkN, rfl, hc, hJs⟩ := hrel
    by_cases hlt : k < N
    · have HD : Hid (decide (1 ≤ (k : Int) ∧ (k : Int) ≤ (N : Int) - 1) = true) := decide_eq_true (by omega)
      obtain ⟨fn, tmps, assign, body, hy, hR⟩ := hY (upS (k - 1)) ⟨k, by omega⟩ wr hJs (by have := upS_len (k - 1); omega)
      have HU := Lib.hid (upS_next k hk1 (by omega))
      gi_wp2_with (refine ⟨trivial, ?_⟩; gi_at_call 65; refine (callsIn_wide.2 (HSV.out k _)).mono ?_; rintro e w' ⟨rfl, rfl⟩; rw [HD.out])
      refine hR.mono ?_
      rintro e W3 (⟨rfl, hJ3, hk3⟩ | ⟨rfl, hJx3⟩)
      · have hc3 : W3.cell? ⟨Bn, 0, none⟩ = some (.int .i64 (c : Int)) := hk3 _ hc
        gi_wp2
        go_roundw
        case rel => exact ⟨k + 1, by omega, by omega, by go_num, hc3, by show J (upS k) W3; rw [HU.out]; exact hJ3⟩
        case measure => simp [intOf]; omega
      · gi_wp2
        refine bodyPost_ret (results_none rfl _ _ _) rfl ?_
        exact ⟨⟨_, rfl⟩, .inr ⟨_, trivial, hJx3⟩⟩
    · obtain rfl : N = k := by omega
      have HD : Hid (decide (1 ≤ (N : Int) ∧ (N : Int) ≤ (N : Int) - 1) = false) := decide_eq_false (by omega)
      gi_wp2_with (refine ⟨trivial, ?_⟩; gi_at_call 65; refine (callsIn_wide.2 (HSV.out N _)).mono ?_; rintro e w' ⟨rfl, rfl⟩; rw [HD.out])
      gi_wp2
      go_end0
      exact ⟨⟨_, rfl⟩, .inl ⟨_, rfl, hJs⟩⟩

theorem set_stops (n : Nat) (hn : 1 ≤ n) (Bn c : Nat) (hc8 : c ≤ 8) (w : World) (hlt : Bn < w.heap.size) (hc : w.cell? ⟨Bn, 0, none⟩ = some (.int .i64 (c : Int))) :
    SeqStopsK Fence.wide n Tryz.prog 74 #[.pointer (some ⟨Bn, 0, none⟩)] encS (KeepC Bn) (fun ys => ys = upS (2 ^ c - 1)) (fun _ => True) 256 w := fun l J Jx W hW _ _ hY h0 =>
  set_in n hn l Bn c hc8 J Jx hY W ((hW.cell (p := ⟨Bn, 0, none⟩) hlt).trans hc) h0
end Go.Proofs.YtemmagkkigdhjaaGreatDoor.EachS

/-
  A range over a function whose iterator ranges over another one: the contract 'SeqAll' of such an iterator (no round leaves early; all but the
  loop's own record and one named block lies as it lay across a round), and the law for the loop over it.
-/
namespace Go.Proofs.YtemmagkkigdhjaaGreatDoor.Range
open Go Go.RowKit
set_option linter.unusedVariables false

/-- all blocks but l and b lie as they lay -/
structure KeepBut (b l : Nat) (A B : World) : Prop where
  size : A.heap.size ≤ B.heap.size
  same : ∀ k, k < A.heap.size → k ≠ l → k ≠ b → B.heap[k]? = A.heap[k]?
theorem KeepBut.refl (b l : Nat) (A : World) : KeepBut b l A A := ⟨Nat.le_refl _, fun _ _ _ _ => rfl⟩
theorem KeepBut.trans {b l : Nat} {A B C : World} (h : KeepBut b l A B) (k : KeepBut b l B C) : KeepBut b l A C :=
  ⟨Nat.le_trans h.size k.size, fun i hi h1 h2 => (k.same i (Nat.lt_of_lt_of_le hi h.size) h1 h2).trans (h.same i hi h1 h2)⟩
theorem KeepBut.put (b l : Nat) (W : World) (o : Obj) : KeepBut b l W (W.putObj l o) := ⟨by simp, fun k _ hk _ => World.putObj_heap_other hk⟩
theorem KeepBut.of_below {b l : Nat} {A B : World} (h : Below A.heap.size A B) : KeepBut b l A B := ⟨h.size, fun k hk _ _ => h.block k hk⟩
theorem KeepBut.of_grown {b l : Nat} {A B : World} (h : A.grownBy B (some b)) : KeepBut b l A B := ⟨h.size, fun k hk _ hb => h.block k hk (fun e => hb (Option.some.inj e))⟩
theorem KeepBut.cell {b l : Nat} {A B : World} (h : KeepBut b l A B) {p : Addr} {v : Value} (hc : A.cell? p = some v) (h1 : p.block ≠ l) (h2 : p.block ≠ b) : B.cell? p = some v := by
  have hlt : p.block < A.heap.size := World.block_lt_of_cell? A p hc
  exact (World.cell?_of_block (h.same _ hlt h1 h2)).trans hc
theorem KeepBut.obj {b l : Nat} {A B : World} (h : KeepBut b l A B) {k : Nat} {o : Obj} (hk : A.heap[k]? = some o) (h1 : k ≠ l) (h2 : k ≠ b) : B.heap[k]? = some o :=
  (h.same k (Array.getElem?_eq_some_iff.1 hk).1 h1 h2).trans hk
theorem KeepBut.from_ {b l : Nat} {A B : World} (h : KeepBut b l A B) {n : Nat} (h1 : l < n) (h2 : b < n) : KeepsFrom n A B := ⟨h.size, fun k o hk ho _ => h.obj ho (by omega) (by omega)⟩

/-- an iterator whose rounds all go on -/
def SeqAll {α : Type} (F : Fence) (n : Nat) (P : Program) (g : Nat) (lb : Array Value) (encs : α → Array Value) (b : Nat) (S : List α → Prop) (N : Nat) (w : World) : Prop :=
  ∀ (l : Nat) (J : List α → World → Prop) (W : World), Below w.heap.size w W → w.heap.size ≤ l → l < W.heap.size → OwnFrom W.heap.size J →
    (∀ pre x W1, J pre W1 → pre.length < N → YieldAt F (n - 1) P l (encs x) W1 fun e W' => e = .returned (.bool true) ∧ J (pre ++ [x]) W' ∧ KeepBut b l W1 W') →
    J [] W →
    CallsIn F n P g (#[.func (.yield l) #[] #[]] ++ lb) W fun e W' => (∃ v, e = .returned v) ∧ ∃ xs, S xs ∧ J xs W'

/-- how a round's body is left: it goes on -/
def goesOn (B b l : Nat) {α : Type} (I : List α → World → Prop) (xs : List α) (W : World) : Exit → Act → World → Prop
  | .normal, _, W' => KeepsFrom B W W' ∧ KeepBut b l W W' ∧ I xs W'
  | _, _, _ => False

theorem wp_range_all {F : Fence} {n : Nat} {P : Program} {α : Type} {g : Operand} {ps : Array Tmp} {assign body : Code} {Q : Exit → Act → World → Prop} {a : Act} {w : World}
    (hro : F.round = none) (h1 : 1 ≤ n) {gf : Nat} {lb : Array Value} (hg : a.eval g = .func (.func gf) #[] lb) (hFg : F.fn gf) (eg : ∀ args w, (callFunc gf args).run P w = .ok (.enter gf args) w)
    {encs : α → Array Value} {b : Nat} {S : List α → Prop} {N : Nat} {w0 : World} (hseq : SeqAll F (n - 1) P gf lb encs b S N w0)
    (hb0 : Below w0.heap.size w0 w) (hps : ∀ x, (encs x).size = ps.size)
    (I : List α → World → Prop) (hI : OwnFrom w.heap.size I) (h0 : I [] w) (Ax : α → Act → World → Prop) (hAx : ∀ x a', OwnFrom w.heap.size (fun (_ : Unit) W => Ax x a' W))
    (hassign : ∀ (l : Nat) (pre : List α) (x : α) (W : World) (K : Act → World → Prop), w.heap.size < l → I pre W → (∀ a' W', KeepsFrom w.heap.size W W' → KeepBut b l W W' → I pre W' → Ax x a' W' → K a' W') →
      assign.wpIn (F.inRound l) (n - 1 - 1) P (Exit.then K (fun _ _ _ => False)) { tmps := (ps.zip (encs x)).foldl (fun t (p, v) => t.setIfInBounds p v) a.tmps, defers := [] } W)
    (hbody : ∀ (l : Nat) (pre : List α) (x : α) (a' : Act) (W : World), w.heap.size < l → l < W.heap.size → I pre W → Ax x a' W → pre.length < N → body.wpIn (F.inRound l) (n - 1 - 1) P (goesOn w.heap.size b l I (pre ++ [x]) W) a' W)
    (hdone : ∀ (D : Nat) (xs : List α) (W : World), w.heap.size ≤ D → S xs → I xs W → W.heap[D]? = some (.deferred (some [])) → Q .normal { a with defers := { target := .collected D, args := #[] } :: a.defers } W) :
    (Code.rangeFunc g ps assign body).wpIn F n P Q a w := by
  refine wpIn_rangeFunc ?_
  intro fn hfn
  rw [hro]
  obtain ⟨rec, hrec⟩ : ∃ rec : LoopState → Option Code → Loop, rec = fun st pe => { state := st, pending := pe, fn, tmps := a.tmps, params := ps, assign, body, defers := w.heap.size } := ⟨_, rfl⟩
  obtain ⟨W1, hW1⟩ : ∃ W1, (w.alloc (.deferred (some []))).alloc (.loop (rec .ready none)) = W1 := ⟨_, rfl⟩
  have hsz : W1.heap.size = w.heap.size + 2 := by rw [← hW1]; simp
  have hL1 : W1.heap[w.heap.size + 1]? = some (.loop (rec .ready none)) := by
    rw [← hW1]
    have := World.alloc_heap_new (w.alloc (.deferred (some []))) (.loop (rec .ready none))
    rwa [World.size_alloc] at this
  have hK1 : W1.heap[w.heap.size]? = some (.deferred (some [])) := by
    rw [← hW1]
    exact (Below.heap_alloc _ _ _ (by simp)).trans (World.alloc_heap_new w _)
  have hI1 : I [] W1 := by rw [← hW1]; exact hI.alloc _ (hI.alloc _ h0)
  have hb1 : Below w0.heap.size w0 W1 := by
    rw [← hW1]
    exact hb0.trans ((((Below.refl _ w).alloc (Nat.le_refl _) _).alloc (by simp) _).mono hb0.size)
  refine ⟨w.heap.size + 1, [{ target := .collected w.heap.size, args := #[] }], W1, { target := .fn (.func gf) lb, args := #[.func (.yield (w.heap.size + 1)) #[] #[]] }, W1, gf,
    #[.func (.yield (w.heap.size + 1)) #[] #[]] ++ lb, W1, ?_, ?_, ?_, ?_, fun _ => h1, ?_⟩
  · rw [← hW1, hrec]
    exact run_enterLoop_outer _ _ _ _ _
  · simp only [resolve, hg]
    simp [go_sem]
  · intro f' hf'
    simp [Target.leads] at hf'
    subst hf'
    exact hFg
  · simp [invoke, go_sem, eg]
  · have keepB : ∀ {A B : World} {row : Option Nat} {k : Nat} {o : Obj}, A.grownBy B row → (∀ r, row = some r → W1.heap.size ≤ r ∧ ∃ o : Obj, A.heap[r]? = some o ∧ o.isCells = false) → A.heap[k]? = some o → k < W1.heap.size → B.heap[k]? = some o := by
      intro A B row k o hg' hr hk hlt
      refine (hg'.block k (Array.getElem?_eq_some_iff.1 hk).1 (fun e => ?_)).trans hk
      have := (hr k e.symm).1
      omega
    refine (hseq (w.heap.size + 1)
      (fun pre W => I pre W ∧ W.heap[w.heap.size + 1]? = some (.loop (rec .ready none)) ∧ W.heap[w.heap.size]? = some (.deferred (some [])))
      W1 hb1 (by have := hb0.size; omega) (by omega)
      (fun s A B row hs hg' hr => ⟨hI s A B row hs.1 hg' (fun r e => ⟨by have := (hr r e).1; omega, (hr r e).2⟩), keepB hg' hr hs.2.1 (by omega), keepB hg' hr hs.2.2 (by omega)⟩)
      ?_ ⟨hI1, hL1, hK1⟩).mono ?_
    · rintro pre x W ⟨hi, hl, hk⟩ hlen
      have hlt : w.heap.size + 1 < W.heap.size := (Array.getElem?_eq_some_iff.1 hl).1
      have hy := run_yield (P := P) (args := encs x) hl (by rw [hrec]; exact hps x)
      rw [hrec] at hy
      refine ⟨fn, _, assign, body, hy, roundIn_of_wpIn hfn (hassign _ pre x W _ (by omega) hi ?_)⟩
      clear hy
      intro a' Wa hkfa hkpa hia hax
      have hla := hkfa.same _ _ (by omega) hl rfl
      have hka := hkfa.same _ _ (Nat.le_refl _) hk rfl
      have hlta : w.heap.size + 1 < Wa.heap.size := (Array.getElem?_eq_some_iff.1 hla).1
      refine ⟨_, run_beginRound hla (by rw [hrec]), ?_⟩
      have hl2 : (Wa.putObj (w.heap.size + 1) (.loop { rec .ready none with state := .busy })).heap[w.heap.size + 1]? = some (.loop { rec .ready none with state := .busy }) := World.putObj_heap_same hlta
      have hk2 : (Wa.putObj (w.heap.size + 1) (.loop { rec .ready none with state := .busy })).heap[w.heap.size]? = some (.deferred (some [])) := (World.putObj_heap_other (by omega)).trans hka
      refine wpIn_mono (hbody _ pre x a' _ (by omega) (Array.getElem?_eq_some_iff.1 hl2).1 (hI.putObj _ hia (by omega) hla rfl) ((hAx x a').putObj (s := ()) _ hax (by omega) hla rfl) hlen) ?_
      rintro e a3 W3 hp
      cases e with
      | normal =>
        obtain ⟨hk3, hkp3, hi3⟩ := hp
        have hl3 := hk3.same _ _ (by omega) hl2 rfl
        have hr := run_endRound (P := P) none hl3
        rw [hrec] at hr
        rw [hrec] at hl3
        refine ⟨_, _, hr, rfl, ⟨hI.putObj _ hi3 (by omega) hl3 rfl, ?_, (World.putObj_heap_other (by omega)).trans (hk3.same _ _ (Nat.le_refl _) hk2 rfl)⟩, ?_⟩
        · rw [hrec]
          exact World.putObj_heap_same (Array.getElem?_eq_some_iff.1 hl3).1
        · exact (hkpa.trans ((KeepBut.put _ _ _ _).trans hkp3)).trans (KeepBut.put _ _ _ _)
      | ret => exact hp.elim
      | exit id => exact hp.elim
      | goto t => exact hp.elim
      | panic ch => exact hp.elim
      | outgrown => exact hp.elim
    · rintro e W2 ⟨⟨v, rfl⟩, xs, hS, hi, hl, hk⟩
      exact ⟨none, _, by have := run_endLoop (P := P) hl (by rw [hrec]; simp); rw [hrec] at this; exact this, hdone _ xs _ (Nat.le_refl _) hS (hI.putObj _ hi (by omega) hl rfl) ((World.putObj_heap_other (by omega)).trans hk)⟩
end Go.Proofs.YtemmagkkigdhjaaGreatDoor.Range

/-
  The program's iterator over the widest rectangles of a value: widest.
-/
namespace Go.Proofs.YtemmagkkigdhjaaGreatDoor.Widest
open Go.RowKit Go.Shelf Go.Proofs.YtemmagkkigdhjaaGreatDoor.Plain Go.Proofs.YtemmagkkigdhjaaGreatDoor.Pat Go.Proofs.YtemmagkkigdhjaaGreatDoor.Rect Go.Proofs.YtemmagkkigdhjaaGreatDoor.Base Go.Proofs.YtemmagkkigdhjaaGreatDoor.Each Go.Proofs.YtemmagkkigdhjaaGreatDoor.EachS Go.Proofs.YtemmagkkigdhjaaGreatDoor.Board Go.Proofs.YtemmagkkigdhjaaGreatDoor.BoardM Go.Proofs.YtemmagkkigdhjaaGreatDoor.RValid Go.Proofs.YtemmagkkigdhjaaGreatDoor.Range
set_option linter.unusedVariables false
attribute [local go_sem] Oper.semAt_some

theorem round_wide {n m : Nat} {l' : Nat} {P : Program} {l : Nat} {fn : FuncId} {tmps : Array Value} {assign body : Code} {W : World} {R : Ending → World → Prop}
    (h : RoundIn Fence.wide n P l fn tmps assign body W R) : RoundIn (Fence.wide.inRound l') m P l fn tmps assign body W R :=
  ⟨h.1, fun c cs _ => h.2 c cs (fun d hd => by cases hd)⟩
theorem own_mono {β : Type} {B B' : Nat} {I : β → World → Prop} (h : OwnFrom B I) (hB : B ≤ B') : OwnFrom B' I :=
  fun s W W' row hs hg hr => h s W W' row hs hg (fun r e => ⟨Nat.le_trans hB (hr r e).1, (hr r e).2⟩)
theorem grown_of_below {w w' : World} (h : Below w.heap.size w w') : w.grownBy w' none := ⟨h.os, h.tape, h.output, h.size, fun k hk _ => h.block k hk⟩
theorem row_kept {W W' : World} {row : Option Nat} {k : Nat} {cs : Array Value} {T : TypeId} {fr : Nat × Nat} (h : W.heap[k]? = some (.cells cs T fr)) (hg : W.grownBy W' row) (hr : ∀ r, row = some r → ∃ o : Obj, W.heap[r]? = some o ∧ o.isCells = false) : W'.heap[k]? = some (.cells cs T fr) :=
  (grownBy_keeps_cells hg hr h rfl).trans h

theorem KeepsOthers.of_below {A B : World} (h : Below A.heap.size A B) : KeepsOthers A B := ⟨h.size, fun k o hk _ => (h.block k (Array.getElem?_eq_some_iff.1 hk).1).trans hk⟩
/-- a rectangle as yield's argument, told by its rows -/
abbrev encW (cs : Nat → Nat) (x : Fin 256) : Array Value := #[rect (x.val : Int) (cs x.val : Nat)]
/-- the sets of rows that have such columns -/
def wide (cs : Nat → Nat) (ys : List (Fin 256)) : List (Fin 256) := ys.filter fun x => cs x.val != 0
theorem wide_next (cs : Nat → Nat) (pre : List (Fin 256)) (x : Fin 256) : wide cs (pre ++ [x]) = wide cs pre ++ (if cs x.val = 0 then [] else [x]) := by
  unfold wide
  rw [List.filter_append]
  by_cases h : cs x.val = 0 <;> simp [h]
theorem wide_len (cs : Nat → Nat) (pre : List (Fin 256)) : (wide cs pre).length ≤ pre.length := List.length_filter_le _ _

set_option maxHeartbeats 1000000 in
theorem widest_call (R C : Int) (z o : Nat) (bit : Int) (w : World) :
    Calls Tryz.prog 21 #[brd R C z o, .int .i64 bit] w fun e w' => e = .returned (.func (.func 47) #[] #[.pointer (some ⟨w.heap.size, 0, none⟩), .pointer (some ⟨w.heap.size + 1, 0, none⟩)]) ∧
      w' = (w.alloc (.cells #[.int .i64 R, .int .i64 C, .int .u64 (z : Int), .int .u64 (o : Int)] 50)).alloc (.cells #[.int .i64 bit] 3) := by
  go_enter Tryz.func21, Tryz.ntmps21
  go_wp2_with fail
  go_ret
  exact ⟨rfl, rfl⟩

/-- what the iterator keeps: the board's box, the value's, that of the function that it calls -/
structure WK (Bb Bt Y l : Nat) (R C : Int) (z o : Nat) (bit : Int) (W : World) : Prop where
  b : W.heap[Bb]? = some (.cells #[.int .i64 R, .int .i64 C, .int .u64 (z : Int), .int .u64 (o : Int)] 50 (0, 0))
  t : W.heap[Bt]? = some (.cells #[.int .i64 bit] 3 (0, 0))
  y : W.heap[Y]? = some (.cells #[.func (.yield l) #[] #[]] 63 (0, 0))
theorem WK.own {Bb Bt Y l : Nat} {R C : Int} {z o : Nat} {bit : Int} {β : Type} : Own (fun (_ : β) W => WK Bb Bt Y l R C z o bit W) :=
  fun _ A B row hs hg hr => ⟨row_kept hs.b hg hr, row_kept hs.t hg hr, row_kept hs.y hg hr⟩
theorem WK.later {Bb Bt Y l : Nat} {R C : Int} {z o : Nat} {bit : Int} {A B : World} (h : WK Bb Bt Y l R C z o bit A) (hb : Below A.heap.size A B) : WK Bb Bt Y l R C z o bit B :=
  ⟨(hb.block _ (Array.getElem?_eq_some_iff.1 h.b).1).trans h.b, (hb.block _ (Array.getElem?_eq_some_iff.1 h.t).1).trans h.t, (hb.block _ (Array.getElem?_eq_some_iff.1 h.y).1).trans h.y⟩
theorem WK.but {Bb Bt Y l mb : Nat} {R C : Int} {z o : Nat} {bit : Int} {A B : World} (h : WK Bb Bt Y l R C z o bit A) (hk : KeepBut mb l A B) (h1 : mb ≠ Bb ∧ l ≠ Bb) (h2 : mb ≠ Bt ∧ l ≠ Bt) (h3 : mb ≠ Y ∧ l ≠ Y) : WK Bb Bt Y l R C z o bit B :=
  ⟨hk.obj h.b (Ne.symm h1.2) (Ne.symm h1.1), hk.obj h.t (Ne.symm h2.2) (Ne.symm h2.1), hk.obj h.y (Ne.symm h3.2) (Ne.symm h3.1)⟩
theorem WK.cells {Bb Bt Y l : Nat} {R C : Int} {z o : Nat} {bit : Int} {W : World} (h : WK Bb Bt Y l R C z o bit W) :
    (W.cell? ⟨Bb, 0, none⟩ = some (.int .i64 R) ∧ W.cell? ⟨Bb, 1, none⟩ = some (.int .i64 C) ∧ W.cell? ⟨Bb, 2, none⟩ = some (.int .u64 (z : Int)) ∧ W.cell? ⟨Bb, 3, none⟩ = some (.int .u64 (o : Int))) ∧
    W.cell? ⟨Bt, 0, none⟩ = some (.int .i64 bit) ∧ W.cell? ⟨Y, 0, none⟩ = some (.func (.yield l) #[] #[]) :=
  ⟨⟨cell_of_row _ _ 0 _ _ _ h.b, cell_of_row _ _ 1 _ _ _ h.b, cell_of_row _ _ 2 _ _ _ h.b, cell_of_row _ _ 3 _ _ _ h.b⟩, cell_of_row _ _ 0 _ _ _ h.t, cell_of_row _ _ 0 _ _ _ h.y⟩

theorem keepC_of_but {Bn mb l : Nat} {A B : World} (hk : KeepBut mb l A B) (h1 : Bn ≠ l) (h2 : Bn ≠ mb) : KeepC Bn A B := fun v hv => hk.cell (p := ⟨Bn, 0, none⟩) hv h1 h2

set_option maxRecDepth 100000 in
set_option maxHeartbeats 4000000 in
theorem widest_all (n : Nat) (hn : 3 ≤ n) (R C : Nat) (hR : R ≤ 8) (z o : Nat) (bit : Int) (cs : Nat → Nat)
    (hcols : ∀ S : Nat, S < 256 → ∀ W : World, Calls Tryz.prog 49 #[brd R C z o, .int .i64 (S : Int), .int .i64 bit] W fun e w' => e = .returned (.int .i64 (cs S : Nat)) ∧ Below W.heap.size W w')
    (Bb Bt mb : Nat) (w : World) (hb : w.heap[Bb]? = some (.cells #[.int .i64 R, .int .i64 C, .int .u64 (z : Int), .int .u64 (o : Int)] 50 (0, 0)))
    (ht : w.heap[Bt]? = some (.cells #[.int .i64 bit] 3 (0, 0))) (hmb : mb < w.heap.size) (h1 : mb ≠ Bb) (h2 : mb ≠ Bt) :
    SeqAll Fence.wide n Tryz.prog 47 #[.pointer (some ⟨Bb, 0, none⟩), .pointer (some ⟨Bt, 0, none⟩)] (encW cs) mb (fun ys => ys = wide cs (upS (2 ^ R - 1))) 256 w := by
  intro l J W hW hl1 hl2 hJ hY h0
  have hsw := hW.size
  have hBb : Bb < w.heap.size := (Array.getElem?_eq_some_iff.1 hb).1
  have hBt : Bt < w.heap.size := (Array.getElem?_eq_some_iff.1 ht).1
  have hbW := (hW.block Bb hBb).trans hb
  have htW := (hW.block Bt hBt).trans ht
  have HC := Lib.hid hcols
  have HY := Lib.hid hY
  have HJ := Lib.hid hJ
  clear hcols hY hJ hb ht
  have g0 : 1 ≤ n := by omega
  have q0 : W.cell? ⟨Bb, 0, none⟩ = some (.int .i64 (R : Int)) := cell_of_row _ _ 0 _ _ _ hbW
  have hBbW : Bb < W.heap.size := by omega
  refine callsIn_of_wp_marks Tryz.func47 rfl trivial ?_ rfl
  simp only [Tryz.ntmps47, List.size_toArray, List.length_cons, List.length_nil, Nat.reduceAdd, Nat.reduceSub, Array.replicate_succ, Array.replicate_zero, List.push_toArray, List.append_toArray, List.nil_append, List.cons_append]
  have HW0 := Lib.hid h0
  have HbW := Lib.hid hbW
  have HtW := Lib.hid htW
  clear h0 hbW htW
  gi_wp2_with (refine ⟨trivial, ?_⟩; gi_at_call 48; refine (callsIn_wide.2 (set_each _ _)).mono ?_; rintro e w' ⟨rfl, rfl⟩)
  obtain ⟨W0, hW0⟩ : ∃ W0, (W.alloc (.cells #[.func (.yield l) #[] #[]] 63)).alloc (.cells #[.int .i64 (R : Int)] 3) = W0 := ⟨_, rfl⟩
  have hsz : W0.heap.size = W.heap.size + 2 := by rw [← hW0]; simp
  have hb0 : Below W.heap.size W W0 := by rw [← hW0]; exact ((Below.refl W.heap.size W).alloc (Nat.le_refl _) _).alloc (by simp) _
  have e1 : W0.heap[W.heap.size]? = some (.cells #[.func (.yield l) #[] #[]] 63 (0, 0)) := by
    rw [← hW0]; exact (Below.heap_alloc _ _ _ (by simp)).trans (heap_alloc_new W _)
  have e2 : W0.heap[W.heap.size + 1]? = some (.cells #[.int .i64 (R : Int)] 3 (0, 0)) := by
    rw [← hW0]; have := heap_alloc_new (W.alloc (.cells #[.func (.yield l) #[] #[]] 63)) (.cells #[.int .i64 (R : Int)] 3); rwa [World.size_alloc] at this
  have HK0 : Hid (WK Bb Bt W.heap.size l R C z o bit W0) := ⟨(hb0.block _ hBbW).trans HbW.out, (hb0.block _ (by omega)).trans HtW.out, e1⟩
  have HJ0 : Hid (J [] W0) := HJ.out [] W W0 none HW0.out (grown_of_below hb0) (fun r e => by cases e)
  rw [hW0]
  have HC2 : Hid (W0.cell? ⟨W.heap.size + 1, 0, none⟩ = some (.int .i64 (R : Int))) := cell_of_row _ _ 0 _ _ _ e2
  clear hW0 e1 e2 HW0 HbW HtW q0
  generalize hYb : W.heap.size = Yb at *
  refine wpIn_rangeFunc_ownG rfl g0 (gf := 74) (lb := #[.pointer (some ⟨Yb + 1, 0, none⟩)]) rfl trivial (enters_of Tryz.func74 (by kernel_rfl) rfl)
    (set_stops (n - 1) (by omega) (Yb + 1) R hR W0 (by omega) HC2.out) keepC_t keepC_b (Below.refl _ _) (fun _ => rfl)
    (fun pre Wx => J (wide cs pre) Wx ∧ WK Bb Bt Yb l R C z o bit Wx)
    (fun _ _ _ => False)
    (OwnFrom.and (fun s A B row hs hg hr => HJ.out (wide cs s) A B row hs hg (fun r e => ⟨by have := (hr r e).1; omega, (hr r e).2⟩)) (WK.own.from _))
    (fun _ _ _ _ _ hs _ _ => hs)
    ⟨HJ0.out, HK0.out⟩
    (fun x => { tmps := #[.func (.yield l) #[] #[], .pointer (some ⟨Bb, 0, none⟩), .pointer (some ⟨Bt, 0, none⟩), .pointer (some ⟨Yb, 0, none⟩), .int .i64 (x.val : Int), undef, .pointer (some ⟨Bb, 0, none⟩), .int .i64 (R : Int), .func (.func 74) #[] #[.pointer (some ⟨Yb + 1, 0, none⟩)], .int .i64 (x.val : Int), undef, undef, undef, undef, undef, undef, undef, undef, undef, undef, undef, undef, undef, undef, undef], defers := [] }) ?assign ?body ?done ?stop
  case assign =>
    intro l' x Wx K hK
    gi_wp2
    exact hK
  case body =>
    rintro l' pre x Wx ⟨hj, hk⟩ hlen
    have hx8 := x.isLt
    have HWN := Lib.hid (wide_next cs pre x)
    have HWL := Lib.hid (Nat.lt_of_le_of_lt (wide_len cs pre) hlen)
    have HY1 := Lib.hid (fun W1 hw => HY.out (wide cs pre) x W1 hw HWL.out)
    have HCX := Lib.hid (fun W1 => HC.out x.val hx8 W1)
    obtain ⟨⟨q0, q1, q2, q3⟩, qt, qy⟩ := hk.cells
    have HKX := Lib.hid hk
    have HJX := Lib.hid hj
    clear hk hj hlen HC HY HJ0 HK0 HC2
    obtain ⟨xv, hxv⟩ : ∃ xv, x.val = xv := ⟨_, rfl⟩
    rw [hxv] at hx8 HWN HCX ⊢
    have HXV := Lib.hid hxv
    clear hxv
    obtain ⟨cv, hcv⟩ : ∃ cv, cs xv = cv := ⟨_, rfl⟩
    rw [hcv] at HCX HWN
    have HCV := Lib.hid hcv
    clear hcv
    have g1 : 1 ≤ n - 1 - 1 := by omega
    by_cases hc0 : cv = 0
    · subst hc0
      gi_wp2_with (refine ⟨trivial, ?_⟩; gi_at_call 49; refine (CallsIn.inRound l' (callsIn_wide.2 (HCX.out _))).mono ?_; rintro e w1 ⟨rfl, hb1⟩; clear q0 q1 q2 q3 qt qy; have HK1 := Lib.hid (HKX.out.later hb1); have hY1 := HK1.out.cells.2.2; have HB1 := Lib.hid hb1; clear hb1)
      refine ⟨fun _ h => (by cases h), ?_⟩
      gi_wp2
      have hb2 : Below Wx.heap.size Wx (w1.alloc (.cells #[.int .i64 (xv : Int), .int .i64 0] 31)) := HB1.out.alloc HB1.out.size _
      refine ⟨(KeepsOthers.of_below hb2).from _, fun v hv => (hb2.cell (p := ⟨Yb + 1, 0, none⟩) (World.block_lt_of_cell? Wx _ hv)).trans hv, ?_, HKX.out.later hb2⟩
      have hw := HWN.out
      simp only [if_true, List.append_nil] at hw
      rw [hw]
      exact HJ.out _ Wx _ none HJX.out (grown_of_below hb2) (fun r e => by cases e)
    · have hci : ((cv : Int) != 0) = true := by rw [bne_iff_ne]; omega
      gi_wp2_with (refine ⟨trivial, ?_⟩; gi_at_call 49; refine (CallsIn.inRound l' (callsIn_wide.2 (HCX.out _))).mono ?_; rintro e w1 ⟨rfl, hb1⟩; clear q0 q1 q2 q3 qt qy; have HK1 := Lib.hid (HKX.out.later hb1); have hY1 := HK1.out.cells.2.2; have HB1 := Lib.hid hb1; clear hb1; have hb2 : Below Wx.heap.size Wx (w1.alloc (.cells #[.int .i64 (xv : Int), .int .i64 (cv : Int)] 31)) := HB1.out.alloc HB1.out.size _; have HB2 := Lib.hid hb2; obtain ⟨fn, tmps, assign, body, hy, hR⟩ := HY1.out _ (HJ.out _ Wx _ none HJX.out (grown_of_below hb2) (fun r e => by cases e)); have HR := Lib.hid hR; clear hR; dsimp only [encW] at hy; rw [HXV.out, HCV.out] at hy; have hY2 := (HKX.out.later hb2).cells.2.2; clear hb2)
      refine (round_wide HR.out).mono ?_
      rintro e W3 ⟨rfl, hJ3, hk3⟩
      gi_wp2
      have hb2 := HB2.out
      refine ⟨((KeepsOthers.of_below hb2).from _).trans (hk3.from_ (by omega) (by omega)), fun v hv => hk3.cell (p := ⟨Yb + 1, 0, none⟩) ((hb2.cell (p := ⟨Yb + 1, 0, none⟩) (World.block_lt_of_cell? Wx _ hv)).trans hv) (by show Yb + 1 ≠ l; omega) (by show Yb + 1 ≠ mb; omega), ?_,
        (HKX.out.later hb2).but hk3 ⟨h1, by omega⟩ ⟨h2, by omega⟩ ⟨by omega, by omega⟩⟩
      rw [HWN.out, if_neg hc0]
      exact hJ3
  case done =>
    rintro D ys Wd hD rfl ⟨hj, hk⟩ hK
    gi_wp2
    refine ⟨by simp, .inl ⟨_, _, rfl, run_takeDeferred hK, ?_⟩⟩
    exact ⟨_, results_none rfl _ _ _, ⟨⟨_, rfl⟩, _, rfl, OwnFrom.putObj (B := Yb) HJ.out _ hj (by omega) hK rfl⟩⟩
  case stop =>
    rintro D c pre W _ _ h _
    exact h.elim
end Go.Proofs.YtemmagkkigdhjaaGreatDoor.Widest

