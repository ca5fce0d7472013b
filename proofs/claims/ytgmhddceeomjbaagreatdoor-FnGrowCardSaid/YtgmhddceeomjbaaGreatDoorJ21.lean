/-
  Texts of one seat, joined: EachS, DiscI.
-/
import Derived.RangeFuncNested
import Derived.RangeFuncBound
import Derived.RangeFuncCalls
import Derived.RangeFuncLeaves
import Derived.Shelf.Abstract
import Derived.Shelf.RegionOpen
import Derived.WalkKit
import Derived.OwnWalkIn
import Derived.TacticsInMore
import Derived.LoopNIn
import Derived.LoopIn
import Derived.Test.YtgmhddceeomjbaaGreatDoorJ12
import Derived.Deep.RegionHeld
import Derived.Test.YtgmhddceeomjbaaGreatDoorJ18
import Derived.Test.YtgmhddceeomjbaaGreatDoorJ13
/-
  The program's iterator over the sets of numbers less than a count: eachSet. Its contract: whatever loop's body.
-/
namespace Go.Proofs.YtgmhddceeomjbaaGreatDoor.EachS
open Go.RowKit Go.Shelf Go.Proofs.YtgmhddceeomjbaaGreatDoor.Plain Go.Proofs.YtgmhddceeomjbaaGreatDoor.Pat Go.Proofs.YtgmhddceeomjbaaGreatDoor.Rect Go.Proofs.YtgmhddceeomjbaaGreatDoor.Each
set_option linter.unusedVariables false
attribute [local go_sem] Oper.semAt_some


/-- the sets from 1 to k -/
def upS : Nat → List (Fin 256)
  | 0 => []
  | k + 1 => upS k ++ (if h : k + 1 < 256 then [⟨k + 1, h⟩] else [])
theorem upS_next (k : Nat) (h1 : 1 ≤ k) (h : k < 256) : upS k = upS (k - 1) ++ [⟨k, h⟩] := by
  obtain ⟨q, rfl⟩ : ∃ q, k = q + 1 := ⟨k - 1, by omega⟩
  rw [upS, dif_pos h]
  rfl
theorem upS_len : ∀ k, (upS k).length ≤ k
  | 0 => Nat.le_refl _
  | k + 1 => by
    have := upS_len k
    rw [upS, List.length_append]
    split <;> simp <;> omega
/-- a set as yield's argument -/
abbrev encS (x : Fin 256) : Array Value := #[.int .i64 (x.val : Int)]

set_option maxHeartbeats 1000000 in
theorem set_each (c : Int) (w : World) :
    Calls Tryz.prog 60 #[.int .i64 c] w fun e w' => e = .returned (.func (.func 98) #[] #[.pointer (some ⟨w.heap.size, 0, none⟩)]) ∧ w' = w.alloc (.cells #[.int .i64 c] 3) := by
  go_enter Tryz.func60, Tryz.ntmps60
  go_wp2_with fail
  go_ret
  exact ⟨rfl, rfl⟩

set_option maxRecDepth 100000 in
set_option maxHeartbeats 1000000 in
theorem set_in (n : Nat) (hn : 1 ≤ n) (l Bn c : Nat) (hc8 : c ≤ 8) (J Jx : List (Fin 256) → World → Prop)
    (hY : ∀ pre x W, J pre W → pre.length < 256 → YieldAt Fence.wide (n - 1) Tryz.prog l (encS x) W fun e W' =>
      (e = .returned (.bool true) ∧ J (pre ++ [x]) W' ∧ KeepC Bn W W') ∨ (e = .returned (.bool false) ∧ Jx (pre ++ [x]) W'))
    (W : World) (hBn : W.cell? ⟨Bn, 0, none⟩ = some (.int .i64 (c : Int))) (h0 : J [] W) :
    CallsIn Fence.wide n Tryz.prog 98 #[.func (.yield l) #[] #[], .pointer (some ⟨Bn, 0, none⟩)] W fun e W' => (∃ v, e = .returned v) ∧
      ((∃ ys, ys = upS (2 ^ c - 1) ∧ J ys W') ∨ (∃ pre, True ∧ Jx pre W')) := by
  have hp8 : 2 ^ c ≤ 256 := Nat.pow_le_pow_right (n := 2) (by decide) hc8
  have hp1 : 1 ≤ 2 ^ c := Nat.one_le_two_pow
  have HSV := Lib.hid (fun (k : Nat) W => valid_any (k : Int) c hc8 W)
  have hpi : ((2 : Int) ^ c) = ((2 ^ c : Nat) : Int) := by simp
  rw [hpi] at HSV
  clear hpi
  generalize 2 ^ c = N at *
  refine callsIn_of_wp Tryz.func98 rfl trivial ?_ rfl
  simp only [Tryz.ntmps98, List.size_toArray, List.length_cons, List.length_nil, Nat.reduceAdd, Nat.reduceSub, Array.replicate_succ, Array.replicate_zero, List.push_toArray, List.append_toArray, List.nil_append, List.cons_append]
  gi_wp2
  gi_loopw [3] (fun p wr => ∃ k : Nat, 1 ≤ k ∧ k ≤ N ∧ p = .int .i64 (k : Int) ∧ wr.cell? ⟨Bn, 0, none⟩ = some (.int .i64 (c : Int)) ∧ J (upS (k - 1)) wr) (fun p _ => N - (intOf p).toNat)
  case atStart => exact ⟨1, Nat.le_refl _, hp1, rfl, hBn, h0⟩
  case round =>
    obtain ⟨k, hk1, hkN, rfl, hc, hJs⟩ := hrel
    by_cases hlt : k < N
    · have HD : Hid (decide (1 ≤ (k : Int) ∧ (k : Int) ≤ (N : Int) - 1) = true) := decide_eq_true (by omega)
      obtain ⟨fn, tmps, assign, body, hy, hR⟩ := hY (upS (k - 1)) ⟨k, by omega⟩ wr hJs (by have := upS_len (k - 1); omega)
      have HU := Lib.hid (upS_next k hk1 (by omega))
      gi_wp2_with (refine ⟨trivial, ?_⟩; gi_at_call 92; refine (callsIn_wide.2 (HSV.out k _)).mono ?_; rintro e w' ⟨rfl, rfl⟩; rw [HD.out])
      refine hR.mono ?_
      rintro e W3 (⟨rfl, hJ3, hk3⟩ | ⟨rfl, hJx3⟩)
      · have hc3 : W3.cell? ⟨Bn, 0, none⟩ = some (.int .i64 (c : Int)) := hk3 _ hc
        gi_wp2
        go_roundw
        case rel => exact ⟨k + 1, by omega, by omega, by go_num, hc3, by show J (upS k) W3; rw [HU.out]; exact hJ3⟩
        case measure => simp [intOf]; omega
      · gi_wp2
        refine bodyPost_ret (results_none rfl _ _ _) rfl ?_
        exact ⟨⟨_, rfl⟩, .inr ⟨_, trivial, hJx3⟩⟩
    · obtain rfl : N = k := by omega
      have HD : Hid (decide (1 ≤ (N : Int) ∧ (N : Int) ≤ (N : Int) - 1) = false) := decide_eq_false (by omega)
      gi_wp2_with (refine ⟨trivial, ?_⟩; gi_at_call 92; refine (callsIn_wide.2 (HSV.out N _)).mono ?_; rintro e w' ⟨rfl, rfl⟩; rw [HD.out])
      gi_wp2
      go_end0
      exact ⟨⟨_, rfl⟩, .inl ⟨_, rfl, hJs⟩⟩

theorem set_stops (n : Nat) (hn : 1 ≤ n) (Bn c : Nat) (hc8 : c ≤ 8) (w : World) (hlt : Bn < w.heap.size) (hc : w.cell? ⟨Bn, 0, none⟩ = some (.int .i64 (c : Int))) :
    SeqStopsK Fence.wide n Tryz.prog 98 #[.pointer (some ⟨Bn, 0, none⟩)] encS (KeepC Bn) (fun ys => ys = upS (2 ^ c - 1)) (fun _ => True) 256 w := fun l J Jx W hW _ _ hY h0 =>
  set_in n hn l Bn c hc8 J Jx hY W ((hW.cell (p := ⟨Bn, 0, none⟩) hlt).trans hc) h0
end Go.Proofs.YtgmhddceeomjbaaGreatDoor.EachS

/-
  The program's DiscrepancyOf.
-/
namespace Go.Proofs.YtgmhddceeomjbaaGreatDoor.DiscI
open Go.RowKit Go.Shelf Go.Proofs.YtgmhddceeomjbaaGreatDoor.Plain Go.Proofs.YtgmhddceeomjbaaGreatDoor.Pat Go.Proofs.YtgmhddceeomjbaaGreatDoor.Rect Go.Proofs.YtgmhddceeomjbaaGreatDoor.Base Go.Proofs.YtgmhddceeomjbaaGreatDoor.Valid Go.Proofs.YtgmhddceeomjbaaGreatDoor.Law Go.Proofs.YtgmhddceeomjbaaGreatDoor.Each Go.Proofs.YtgmhddceeomjbaaGreatDoor.EachS Go.Proofs.YtgmhddceeomjbaaGreatDoor.Patch Go.Proofs.YtgmhddceeomjbaaGreatDoor.Board Go.Proofs.YtgmhddceeomjbaaGreatDoor.BoardM Go.Proofs.YtgmhddceeomjbaaGreatDoor.RValid Go.Proofs.YtgmhddceeomjbaaGreatDoor.Bal Go.Proofs.YtgmhddceeomjbaaGreatDoor.Colour Go.Proofs.YtgmhddceeomjbaaGreatDoor.Disc Go.Proofs.YtgmhddceeomjbaaGreatDoor.Where
set_option linter.unusedVariables false
attribute [local go_sem] Oper.semAt_some



theorem KeepsOthers.of_below {A B : World} (h : Below A.heap.size A B) : KeepsOthers A B := ⟨h.size, fun k o hk _ => (h.block k (Array.getElem?_eq_some_iff.1 hk).1).trans hk⟩
/-- the greatest of a list of sets of rows, by balances that are given -/
def foldL (mo le : Nat → Int) (pre : List (Fin 256)) : Int := pre.foldl (fun g x => max g (max (mo x.val) (le x.val))) (-1)
theorem foldL_next (mo le : Nat → Int) (pre : List (Fin 256)) (x : Fin 256) : foldL mo le (pre ++ [x]) = max (foldL mo le pre) (max (mo x.val) (le x.val)) := by
  simp [foldL]

/-- the greatest so far; the board -/
structure DInvI (B : Nat) (R C : Int) (z o : Nat) (g : Int) (W : World) : Prop where
  c : W.cell? ⟨B + 1, 0, none⟩ = some (.int .i64 g)
  f : W.frozen? ⟨B + 1, 0, none⟩ = false
  q0 : W.cell? ⟨B, 0, none⟩ = some (.int .i64 R)
  q1 : W.cell? ⟨B, 1, none⟩ = some (.int .i64 C)
  q2 : W.cell? ⟨B, 2, none⟩ = some (.int .u64 (z : Int))
  q3 : W.cell? ⟨B, 3, none⟩ = some (.int .u64 (o : Int))
theorem DInvI.kept {B : Nat} {R C : Int} {z o : Nat} {g : Int} {A A' : World} {row : Option Nat} (h : DInvI B R C z o g A) (hg : A.grownBy A' row) (hr : ∀ r, row = some r → ∃ o, A.heap[r]? = some o ∧ o.isCells = false) : DInvI B R C z o g A' :=
  ⟨cell_kept h.c hg hr, (frozen_kept h.c hg hr).trans h.f, cell_kept h.q0 hg hr, cell_kept h.q1 hg hr, cell_kept h.q2 hg hr, cell_kept h.q3 hg hr⟩

theorem cell_lt {W : World} {b i : Nat} {v : Value} (h : W.cell? ⟨b, i, none⟩ = some v) : b < W.heap.size := by
  rcases Nat.lt_or_ge b W.heap.size with hl | hl
  · exact hl
  · simp [World.cell?, Array.getElem?_eq_none hl] at h
theorem KeepC.of_call {Bn : Nat} {A B : World} (h : Below A.heap.size A B) : KeepC Bn A B := fun v hv => (h.cell (p := ⟨Bn, 0, none⟩) (cell_lt hv)).trans hv
theorem DInvI.later {B : Nat} {R C : Int} {z o : Nat} {g : Int} {A A' : World} (h : DInvI B R C z o g A) (hb : Below A.heap.size A A') : DInvI B R C z o g A' :=
  have h1 := cell_lt h.c
  have h0 := cell_lt h.q0
  ⟨(hb.cell (p := ⟨B + 1, 0, none⟩) h1).trans h.c, (hb.frozen (p := ⟨B + 1, 0, none⟩) h1).trans h.f, (hb.cell (p := ⟨B, 0, none⟩) h0).trans h.q0, (hb.cell (p := ⟨B, 1, none⟩) h0).trans h.q1, (hb.cell (p := ⟨B, 2, none⟩) h0).trans h.q2, (hb.cell (p := ⟨B, 3, none⟩) h0).trans h.q3⟩
/-- what a round keeps -/
structure RInv (Bn B : Nat) (R C : Int) (z o : Nat) (g : Int) (w W wr : World) : Prop where
  ko : KeepsOthers W wr
  kc : KeepC Bn W wr
  i : DInvI B R C z o g wr
  below : Below w.heap.size w wr
theorem RInv.later {Bn B : Nat} {R C : Int} {z o : Nat} {g : Int} {w W wr w2 : World} (h : RInv Bn B R C z o g w W wr) (hb : Below wr.heap.size wr w2) : RInv Bn B R C z o g w W w2 :=
  ⟨h.ko.trans (KeepsOthers.of_below hb), keepC_t h.kc (KeepC.of_call hb), h.i.later hb, h.below.trans (hb.mono h.below.size)⟩
theorem RInv.drew {Bn B : Nat} {R C : Int} {z o : Nat} {g : Int} {w W wr : World} (h : RInv Bn B R C z o g w W wr) : RInv Bn B R C z o g w W wr.drew :=
  ⟨h.ko.trans (KeepsOthers.drew _), h.kc, ⟨h.i.c, h.i.f, h.i.q0, h.i.q1, h.i.q2, h.i.q3⟩, h.below.drew⟩
theorem DInvI.set_ {B : Nat} {R C : Int} {z o : Nat} {g : Int} {A : World} (h : DInvI B R C z o g A) (g' : Int) : DInvI B R C z o g' (A.setCell ⟨B + 1, 0, none⟩ (.int .i64 g')) :=
  ⟨World.cell?_setCell_same' A _ _ (by rw [h.c]; rfl), (World.frozen?_setCell A _ _ _).trans h.f, (World.cell?_setCell_far A _ _ _ (by simp)).trans h.q0, (World.cell?_setCell_far A _ _ _ (by simp)).trans h.q1, (World.cell?_setCell_far A _ _ _ (by simp)).trans h.q2, (World.cell?_setCell_far A _ _ _ (by simp)).trans h.q3⟩
theorem run_max3 {P : Program} (w : World) (ts : Array TypeId) (t : TypeId) (k k' k'' : IntKind) (x y v : Int) : (Builtin.max_ ts t #[.int k x, .int k' y, .int k'' v]).run P w = .ok (.int k (max (max x y) v)) w := by
  have e : (if v > (if y > x then y else x) then v else (if y > x then y else x)) = max (max x y) v := by
    by_cases h1 : y > x
    · rw [if_pos h1]; split <;> omega
    · rw [if_neg h1]; split <;> omega
  rw [← e]
  simp [Builtin.max_, Builtin.max2]
attribute [local go_sem] run_max3
theorem sum_pos (f : Nat → Int) (hf : ∀ y, -72 ≤ f y ∧ f y ≤ 72) : ∀ n : Nat, 0 ≤ sumI (fun y => max (f y) 0) n ∧ sumI (fun y => max (f y) 0) n ≤ 72 * n
  | 0 => ⟨Int.le_refl _, by show (0 : Int) ≤ _; omega⟩
  | n + 1 => by
    have h1 := sum_pos f hf n
    have h2 := hf n
    rw [sumI]
    omega

set_option maxRecDepth 100000 in
set_option maxHeartbeats 4000000 in
theorem disc_in (n : Nat) (hn : 3 ≤ n) (R C : Nat) (hR : R ≤ 8) (hC : C ≤ 8) (z o : Nat) (rr cc : Int) (s : ByteArray) (b : Nat → Nat → Int) (hbd : ∀ S X, -72 ≤ b S X ∧ b S X ≤ 72)
    (hbo : ∀ W : World, Calls Tryz.prog 35 #[mat rr cc s] W fun e w' => e = .returned (brd R C z o) ∧ Below W.heap.size W w')
    (hba : ∀ (S X : Nat), S < 256 → X < 256 → ∀ W : World, Calls Tryz.prog 61 #[brd R C z o, rect S X] W fun e w' => e = .returned (.int .i64 (b S X)) ∧ Below W.heap.size W w') (w : World) :
    CallsIn Fence.wide n Tryz.prog 21 #[mat rr cc s] w fun e W' => e = .returned (.int .i64 (foldL (fun S => sumI (fun y => max (b S (2 ^ y)) 0) C) (fun S => sumI (fun y => max (- b S (2 ^ y)) 0) C) (upS (2 ^ R - 1)))) ∧ Below w.heap.size w W' := by
  have h1 : 1 ≤ n := by omega
  have HBO := Lib.hid hbo
  have HBA := Lib.hid hba
  clear hbo hba
  refine callsIn_of_wp_marks Tryz.func21 rfl trivial ?_ rfl
  simp only [Tryz.ntmps21, List.size_toArray, List.length_cons, List.length_nil, Nat.reduceAdd, Nat.reduceSub, Array.replicate_succ, Array.replicate_zero, List.push_toArray, List.append_toArray, List.nil_append, List.cons_append]
  gi_wp2_with (refine ⟨trivial, ?_⟩; gi_at_call 35; refine (callsIn_wide.2 (HBO.out _)).mono ?_; rintro e w1 ⟨rfl, hb1⟩)
  refine ⟨trivial, ?_⟩
  gi_at_call 60
  refine (callsIn_wide.2 (set_each _ _)).mono ?_
  rintro e w' ⟨rfl, rfl⟩
  gi_wp2
  obtain ⟨W0, hW0⟩ : ∃ W0, ((w1.alloc (.cells #[.int .i64 (R : Int), .int .i64 (C : Int), .int .u64 (z : Int), .int .u64 (o : Int)] 62)).alloc (.cells #[.int .i64 (-1)] 3)).alloc (.cells #[.int .i64 (R : Int)] 3) = W0 := ⟨_, rfl⟩
  rw [hW0]
  have hsz : W0.heap.size = w1.heap.size + 3 := by rw [← hW0]; simp
  have e0 : W0.heap[w1.heap.size]? = some (.cells #[.int .i64 (R : Int), .int .i64 (C : Int), .int .u64 (z : Int), .int .u64 (o : Int)] 62 (0, 0)) := by
    rw [← hW0]; exact (Below.heap_alloc _ _ _ (by simp; omega)).trans ((Below.heap_alloc _ _ _ (by simp)).trans (heap_alloc_new w1 _))
  have e1 : W0.heap[w1.heap.size + 1]? = some (.cells #[.int .i64 (-1)] 3 (0, 0)) := by
    rw [← hW0]; exact (Below.heap_alloc _ _ _ (by simp)).trans (by have := heap_alloc_new (w1.alloc (.cells #[.int .i64 (R : Int), .int .i64 (C : Int), .int .u64 (z : Int), .int .u64 (o : Int)] 62)) (.cells #[.int .i64 (-1)] 3); rwa [World.size_alloc] at this)
  have e2 : W0.heap[w1.heap.size + 1 + 1]? = some (.cells #[.int .i64 (R : Int)] 3 (0, 0)) := by
    rw [← hW0]; have := heap_alloc_new ((w1.alloc (.cells #[.int .i64 (R : Int), .int .i64 (C : Int), .int .u64 (z : Int), .int .u64 (o : Int)] 62)).alloc (.cells #[.int .i64 (-1)] 3)) (.cells #[.int .i64 (R : Int)] 3); rwa [World.size_alloc, World.size_alloc] at this
  have hbw : Below w.heap.size w w1 := ((Below.refl w.heap.size w).alloc (Nat.le_refl _) _).trans (hb1.mono (by simp))
  have hw1 : w.heap.size ≤ w1.heap.size := hbw.size
  have hB0 : Below w.heap.size w W0 := by rw [← hW0]; exact ((hbw.alloc (by omega) _).alloc (by simp; omega) _).alloc (by simp; omega) _
  clear hW0 hb1
  refine wpIn_rangeFunc_ownF rfl h1 (gf := 98) (lb := #[.pointer (some ⟨w1.heap.size + 1 + 1, 0, none⟩)]) rfl trivial (enters_of Tryz.func98 (by kernel_rfl) rfl)
    (set_stops (n - 1) (by omega) (w1.heap.size + 1 + 1) R hR W0 (by omega) (cell_of_box e2).1) keepC_t keepC_b (Below.refl _ _) (fun _ => rfl)
    (fun pre W => DInvI w1.heap.size R C z o (foldL (fun S => sumI (fun y => max (b S (2 ^ y)) 0) C) (fun S => sumI (fun y => max (- b S (2 ^ y)) 0) C) pre) W ∧ Below w.heap.size w W)
    (fun _ _ _ => False)
    (OwnFrom.and (Own.from (fun s A B row hs hg hr => hs.kept hg hr) _) (ownFrom_below (Nat.le_refl _) (by omega)))
    (fun _ _ _ _ _ hs _ _ => hs)
    ⟨⟨(cell_of_box e1).1, (cell_of_box e1).2, cell_of_row _ _ 0 _ _ _ e0, cell_of_row _ _ 1 _ _ _ e0, cell_of_row _ _ 2 _ _ _ e0, cell_of_row _ _ 3 _ _ _ e0⟩, hB0⟩
    (fun x => { tmps := #[mat rr cc s, .pointer (some ⟨w.heap.size, 0, none⟩), .int .i64 0, .pointer (some ⟨w1.heap.size, 0, none⟩), .pointer (some ⟨w1.heap.size + 1, 0, none⟩), .int .i64 (x.val : Int), undef, undef, undef, undef, .agg #[.int .i64 rr, .int .i64 cc, .string s], brd (R : Int) (C : Int) z o, .pointer (some ⟨w1.heap.size, 0, none⟩), .int .i64 (R : Int), .func (.func 98) #[] #[.pointer (some ⟨w1.heap.size + 1 + 1, 0, none⟩)], .int .i64 (x.val : Int), undef, undef, undef, undef, undef, undef, undef, undef, undef, undef, undef, undef, undef, undef, undef, undef, undef, undef, undef, undef, undef, undef, undef, undef, undef, undef], defers := [] }) ?assign ?body ?done ?stop
  case assign =>
    intro l x W K hK
    gi_wp2
    exact hK
  case body =>
    rintro l pre x W ⟨hinv, hB⟩ _
    have hx8 := x.isLt
    obtain ⟨hc, hf0, q0, q1, q2, q3⟩ := hinv
    have HFN := Lib.hid (foldL_next (fun S => sumI (fun y => max (b S (2 ^ y)) 0) C) (fun S => sumI (fun y => max (- b S (2 ^ y)) 0) C) pre x)
    have HS1 := Lib.hid (sum_pos (fun y => b x.val (2 ^ y)) (fun y => hbd _ _))
    have HS2 := Lib.hid (sum_pos (fun y => - b x.val (2 ^ y)) (fun y => by have := hbd x.val (2 ^ y); omega))
    generalize foldL (fun S => sumI (fun y => max (b S (2 ^ y)) 0) C) (fun S => sumI (fun y => max (- b S (2 ^ y)) 0) C) pre = g at *
    obtain ⟨xv, hxv⟩ : ∃ xv, x.val = xv := ⟨_, rfl⟩
    rw [hxv] at hx8 HFN HS1 HS2 ⊢
    have HR0 : Hid (RInv (w1.heap.size + 1 + 1) w1.heap.size R C z o g w W W) := ⟨KeepsOthers.refl _, KeepC.refl _ _, ⟨hc, hf0, q0, q1, q2, q3⟩, hB⟩
    clear hc hf0 hB hsz e0 e1 e2 hbw hB0
    gi_wp2
    gi_loopw [6, 7, 18] (fun p q y wr => ∃ j : Nat, j ≤ C ∧ p = .int .i64 (sumI (fun y => max (b xv (2 ^ y)) 0) j) ∧ q = .int .i64 (sumI (fun y => max (- b xv (2 ^ y)) 0) j) ∧ y = .int .i64 (j : Int) ∧ RInv (w1.heap.size + 1 + 1) w1.heap.size R C z o g w W wr) (fun _ _ y _ => C - (intOf y).toNat)
    case atStart => exact ⟨0, Nat.zero_le _, rfl, rfl, rfl, HR0.out⟩
    case round =>
      obtain ⟨j, hj, rfl, rfl, rfl, hinv⟩ := hrel
      clear HR0 q0 q1 q2 q3
      have q0 := hinv.i.q0
      have q1 := hinv.i.q1
      have q2 := hinv.i.q2
      have q3 := hinv.i.q3
      have HI := Lib.hid hinv
      clear hinv
      have hm := HS1.out j
      have hl := HS2.out j
      by_cases hlt' : j < C
      · have hX8 : 2 ^ j < 256 := Nat.lt_of_lt_of_le (Nat.pow_lt_pow_right (by decide) (show j < 8 by omega)) (by decide)
        have hsh : IntKind.i64.wrap (2 ^ j) = ((2 ^ j : Nat) : Int) := by rw [show ((2 : Int) ^ j) = ((2 ^ j : Nat) : Int) by simp]; exact wrap8 _ (by omega)
        have HBAL := Lib.hid (fun W => HBA.out xv (2 ^ j) hx8 hX8 W)
        have hbb := hbd xv (2 ^ j)
        have HM1 : Hid (sumI (fun y => max (b xv (2 ^ y)) 0) (j + 1) = sumI (fun y => max (b xv (2 ^ y)) 0) j + max (b xv (2 ^ j)) 0) := rfl
        have HL1 : Hid (sumI (fun y => max (- b xv (2 ^ y)) 0) (j + 1) = sumI (fun y => max (- b xv (2 ^ y)) 0) j + max (- b xv (2 ^ j)) 0) := rfl
        generalize b xv (2 ^ j) = bb at *
        generalize sumI (fun y => max (b xv (2 ^ y)) 0) j = m at *
        generalize sumI (fun y => max (- b xv (2 ^ y)) 0) j = l' at *
        generalize 2 ^ j = X at *
        gi_wp2
        have hmix : Tryz.prog.follows .mixedOrders = true := by kernel_rfl
        gi_region_with_o (refine ⟨trivial, fun _ => by omega, ?_⟩; refine (CallsIn.inRound l (callsIn_wide.2 (HBAL.out _))).mono ?_; rintro e w2 ⟨rfl, hb2⟩)
        all_goals
          have HI2 := Lib.hid (RInv.later (RInv.drew HI.out) hb2)
          clear hb2 q0 q1 q2 q3
          gi_wp2
          go_roundw
          case rel => exact ⟨j + 1, by omega, by rw [HM1.out], by rw [HL1.out], by go_num, HI2.out⟩
          case measure => simp [intOf]; omega
      · obtain rfl : j = C := by omega
        generalize sumI (fun y => max (b xv (2 ^ y)) 0) j = m at *
        generalize sumI (fun y => max (- b xv (2 ^ y)) 0) j = l' at *
        have hc := HI.out.i.c
        have hf0 := HI.out.i.f
        gi_wp2
        exact ⟨HI.out.ko.trans (KeepsOthers.setCell _ _ _), KeepC.set HI.out.kc ⟨w1.heap.size + 1, 0, none⟩ _ (by show w1.heap.size + 1 ≠ w1.heap.size + 1 + 1; omega), by rw [HFN.out]; exact HI.out.i.set_ _, HI.out.below.setCell (p := ⟨w1.heap.size + 1, 0, none⟩) (by show w.heap.size ≤ w1.heap.size + 1; omega) _⟩
  case done =>
    rintro D ys W hD rfl ⟨hinv, hB⟩ hK
    have hc := hinv.c
    gi_wp2
    refine ⟨by simp, .inl ⟨_, _, rfl, run_takeDeferred hK, ?_⟩⟩
    exact ⟨_, results_tmp rfl _ _ _, rfl, hB.trans (belowK_b (w := w) (Nat.le_refl _) W D _ _ (by omega) hK rfl rfl)⟩
  case stop =>
    rintro D c pre W _ _ h _
    exact h.elim
end Go.Proofs.YtgmhddceeomjbaaGreatDoor.DiscI

