/-
  Texts of one seat, joined: Each, Patch, Board.
-/
import Derived.RangeFuncNested
import Derived.RangeFuncBound
import Derived.RangeFuncCalls
import Derived.RangeFuncLeaves
import Derived.Shelf.Abstract
import Derived.Shelf.RegionOpen
import Derived.WalkKit
import Derived.OwnWalkIn
import Derived.TacticsInMore
import Derived.LoopNIn
import Derived.LoopIn
import Derived.Test.YtemmagkkigdhjaaGreatDoorJn6
import Derived.Deep.RegionHeld
import Derived.Test.YtemmagkkigdhjaaGreatDoorJn10
import Derived.Test.YtemmagkkigdhjaaGreatDoorJn4
/-
  The program's iterator over the members of a set: eachMember. Its contract: whatever loop's body.
-/
namespace Go.Proofs.YtemmagkkigdhjaaGreatDoor.Each
open Go.RowKit Go.Shelf Go.Proofs.YtemmagkkigdhjaaGreatDoor.Plain Go.Proofs.YtemmagkkigdhjaaGreatDoor.Pat Go.Proofs.YtemmagkkigdhjaaGreatDoor.Rect
set_option linter.unusedVariables false
attribute [local go_sem] Oper.semAt_some

/-- the members below k, in ascending order -/
def upto (S : Nat) : Nat → List (Fin 8)
  | 0 => []
  | k + 1 => upto S k ++ (if h : k < 8 then (if S.testBit k = true then [⟨k, h⟩] else []) else [])
theorem upto_yes (S k : Nat) (h : k < 8) (hb : S.testBit k = true) : upto S (k + 1) = upto S k ++ [⟨k, h⟩] := by
  rw [upto, dif_pos h, if_pos hb]
theorem upto_no (S k : Nat) (hb : S.testBit k = false) : upto S (k + 1) = upto S k := by
  rw [upto]
  split
  · rw [if_neg (by rw [hb]; decide), List.append_nil]
  · rw [List.append_nil]
theorem upto_len (S : Nat) : ∀ k, (upto S k).length ≤ k
  | 0 => Nat.le_refl _
  | k + 1 => by
    have := upto_len S k
    rw [upto, List.length_append]
    split
    · split <;> simp <;> omega
    · simp; omega

/-- the box of the set lies as it lay -/
def KeepC (Bn : Nat) (A B : World) : Prop := ∀ v, A.cell? ⟨Bn, 0, none⟩ = some v → B.cell? ⟨Bn, 0, none⟩ = some v
theorem keepC_t {Bn : Nat} {A B C : World} (h : KeepC Bn A B) (k : KeepC Bn B C) : KeepC Bn A C := fun v hv => k v (h v hv)
theorem keepC_b {Bn n : Nat} (W : World) (l : Nat) (o o' : Obj) (_ : n ≤ l) (h : W.heap[l]? = some o) (hc : o.isCells = false) (_ : o.isWalk = false) : KeepC Bn W (W.putObj l o') := fun v hv =>
  cell_kept hv (grownBy_putObj' W l o') (fun r e => by cases e; exact ⟨o, h, hc⟩)
theorem KeepC.of_below {Bn n : Nat} {A B : World} (hlt : Bn < n) (h : Below n A B) : KeepC Bn A B := fun v hv => (h.cell (p := ⟨Bn, 0, none⟩) hlt).trans hv
theorem KeepC.set {Bn : Nat} {A B : World} (h : KeepC Bn A B) (p : Addr) (v : Value) (hp : p.block ≠ Bn) : KeepC Bn A (B.setCell p v) := fun u hu => (World.cell?_setCell_far B p ⟨Bn, 0, none⟩ v hp).trans (h u hu)
theorem KeepC.refl (Bn : Nat) (A : World) : KeepC Bn A A := fun _ h => h

/-- a member as yield's argument -/
abbrev encF (x : Fin 8) : Array Value := #[.int .i64 (x.val : Int)]

set_option maxHeartbeats 1000000 in
theorem each_any (S : Int) (w : World) :
    Calls Tryz.prog 67 #[.int .i64 S] w fun e w' => e = .returned (.func (.func 89) #[] #[.pointer (some ⟨w.heap.size, 0, none⟩)]) ∧ w' = w.alloc (.cells #[.int .i64 S] 3) := by
  go_enter Tryz.func67, Tryz.ntmps67
  go_wp2_with fail
  go_ret
  exact ⟨rfl, rfl⟩

set_option maxRecDepth 100000 in
set_option maxHeartbeats 1000000 in
theorem mem_in (n : Nat) (hn : 1 ≤ n) (l Bn S : Nat) (hS : S < 256) (J Jx : List (Fin 8) → World → Prop)
    (hY : ∀ pre x W, J pre W → pre.length < 8 → YieldAt Fence.wide (n - 1) Tryz.prog l (encF x) W fun e W' =>
      (e = .returned (.bool true) ∧ J (pre ++ [x]) W' ∧ KeepC Bn W W') ∨ (e = .returned (.bool false) ∧ Jx (pre ++ [x]) W'))
    (W : World) (hBn : W.cell? ⟨Bn, 0, none⟩ = some (.int .i64 (S : Int))) (h0 : J [] W) :
    CallsIn Fence.wide n Tryz.prog 89 #[.func (.yield l) #[] #[], .pointer (some ⟨Bn, 0, none⟩)] W fun e W' => (∃ v, e = .returned v) ∧
      ((∃ ys, ys = upto S 8 ∧ J ys W') ∨ (∃ pre, True ∧ Jx pre W')) := by
  refine callsIn_of_wp Tryz.func89 rfl trivial ?_ rfl
  simp only [Tryz.ntmps89, List.size_toArray, List.length_cons, List.length_nil, Nat.reduceAdd, Nat.reduceSub, Array.replicate_succ, Array.replicate_zero, List.push_toArray, List.append_toArray, List.nil_append, List.cons_append]
  gi_wp2
  gi_loopw [4] (fun p wr => ∃ k : Nat, k ≤ 8 ∧ p = .int .i64 (k : Int) ∧ wr.cell? ⟨Bn, 0, none⟩ = some (.int .i64 (S : Int)) ∧ J (upto S k) wr) (fun p _ => 8 - (intOf p).toNat)
  case atStart => exact ⟨0, Nat.zero_le _, rfl, hBn, h0⟩
  case round =>
    obtain ⟨k, hk, rfl, hc, hJs⟩ := hrel
    by_cases hk8 : k < 8
    · obtain ⟨b, hb⟩ : ∃ b, S.testBit k = b := ⟨_, rfl⟩
      have HB := Lib.hid hb
      have HI := Lib.hid (inSet_yes S k hS hk8)
      cases b
      · rw [← upto_no S k hb] at hJs
        clear hb
        gi_wp2_with (refine ⟨trivial, ?_⟩; gi_at_call 90; refine (callsIn_wide.2 (HI.out _)).mono ?_; rintro e w' ⟨rfl, rfl⟩; rw [HB.out])
        refine ⟨fun _ h => (by cases h), ?_⟩
        gi_wp2
        go_roundw
        case rel => exact ⟨k + 1, by omega, by go_num, hc, hJs⟩
        case measure => simp [intOf]; omega
      · obtain ⟨fn, tmps, assign, body, hy, hR⟩ := hY (upto S k) ⟨k, hk8⟩ wr hJs (by have := upto_len S k; omega)
        have HU := Lib.hid (upto_yes S k hk8 hb)
        clear hb
        gi_wp2_with (refine ⟨trivial, ?_⟩; gi_at_call 90; refine (callsIn_wide.2 (HI.out _)).mono ?_; rintro e w' ⟨rfl, rfl⟩; rw [HB.out])
        refine hR.mono ?_
        rintro e W3 (⟨rfl, hJ3, hk3⟩ | ⟨rfl, hJx3⟩)
        · have hc3 : W3.cell? ⟨Bn, 0, none⟩ = some (.int .i64 (S : Int)) := hk3 _ hc
          gi_wp2
          go_roundw
          case rel => exact ⟨k + 1, by omega, by go_num, hc3, by rw [HU.out]; exact hJ3⟩
          case measure => simp [intOf]; omega
        · gi_wp2
          refine bodyPost_ret (results_none rfl _ _ _) rfl ?_
          exact ⟨⟨_, rfl⟩, .inr ⟨_, trivial, hJx3⟩⟩
    · obtain rfl : k = 8 := by omega
      gi_wp2
      go_end0
      exact ⟨⟨_, rfl⟩, .inl ⟨_, rfl, hJs⟩⟩

theorem mem_stops (n : Nat) (hn : 1 ≤ n) (Bn S : Nat) (hS : S < 256) (w : World) (hlt : Bn < w.heap.size) (hc : w.cell? ⟨Bn, 0, none⟩ = some (.int .i64 (S : Int))) :
    SeqStopsK Fence.wide n Tryz.prog 89 #[.pointer (some ⟨Bn, 0, none⟩)] encF (KeepC Bn) (fun ys => ys = upto S 8) (fun _ => True) 8 w := fun l J Jx W hW _ _ hY h0 =>
  mem_in n hn l Bn S hS J Jx hY W ((hW.cell (p := ⟨Bn, 0, none⟩) hlt).trans hc) h0
end Go.Proofs.YtemmagkkigdhjaaGreatDoor.Each

/-
  The program's set of the entries of a rectangle: patchOf; and the number of its entries: size.
-/
namespace Go.Proofs.YtemmagkkigdhjaaGreatDoor.Patch
open Go.RowKit Go.Shelf Go.Proofs.YtemmagkkigdhjaaGreatDoor.Plain Go.Proofs.YtemmagkkigdhjaaGreatDoor.Pat Go.Proofs.YtemmagkkigdhjaaGreatDoor.Rect Go.Proofs.YtemmagkkigdhjaaGreatDoor.Each Go.Proofs.YtemmagkkigdhjaaGreatDoor.Free Go.Proofs.YtemmagkkigdhjaaGreatDoor.FreeIn
set_option linter.unusedVariables false
attribute [local go_sem] Oper.semAt_some

/-- the bytes of a rectangle -/
def rectB (R C : Nat) : Nat → Nat := fun j => if R.testBit j then C else 0
theorem rectB_lt (R C : Nat) (hC : C < 256) (x : Nat) : rectB R C x < 256 := by
  unfold rectB
  split <;> omega
/-- the bytes when so many rows have come -/
def partB (pre : List (Fin 8)) (C : Nat) : Nat → Nat := fun j => if pre.any (fun x => x.val == j) then C else 0
theorem partB_lt (pre : List (Fin 8)) (C : Nat) (hC : C < 256) (x : Nat) : partB pre C x < 256 := by
  unfold partB
  split <;> omega
theorem partB_nil (C : Nat) : pat (partB [] C) 8 = 0 := (pat_zero 8 _).2 fun x _ => by simp [partB]
theorem partB_next (pre : List (Fin 8)) (x : Fin 8) (C : Nat) (hC : C < 256) : pat (partB pre C) 8 ||| C * 2 ^ (x.val * 8) = pat (partB (pre ++ [x]) C) 8 := by
  rw [← pat_one x.val C x.isLt, pat_or 8 _ _ (partB_lt pre C hC) (fun j => by show (if j = x.val then C else 0) < 256; split <;> omega)]
  apply pat_congr
  intro j hj
  unfold partB
  rw [List.any_append]
  by_cases h : (pre.any fun x => x.val == j) = true
  · rw [h, if_pos rfl, Bool.true_or, if_pos rfl]
    split <;> simp
  · rw [Bool.not_eq_true] at h
    rw [h, Bool.false_or]
    by_cases e : j = x.val
    · subst e; simp
    · have : ¬ (x.val = j) := fun h => e h.symm
      simp [e, this]
theorem shl_fits (x : Fin 8) (C : Nat) (hC : C < 256) : C * 2 ^ (x.val * 8) < 18446744073709551616 := by
  have h : 2 ^ (x.val * 8) ≤ 2 ^ (7 * 8) := Nat.pow_le_pow_right (by decide) (by omega)
  have h2 : C * 2 ^ (x.val * 8) ≤ 255 * 2 ^ (7 * 8) := Nat.mul_le_mul (by omega) h
  omega
theorem any_upto (S j : Nat) : ∀ k, k ≤ 8 → ((upto S k).any fun x => x.val == j) = (decide (j < k) && S.testBit j)
  | 0, _ => by simp [upto]
  | k + 1, h => by
    obtain ⟨b, hb⟩ : ∃ b, S.testBit k = b := ⟨_, rfl⟩
    cases b
    · rw [upto_no S k hb, any_upto S j k (by omega)]
      by_cases e : j = k
      · subst e; simp [hb]
      · congr 1
        rw [decide_eq_decide]
        omega
    · rw [upto_yes S k (by omega) hb, List.any_append, any_upto S j k (by omega)]
      by_cases e : j = k
      · subst e; simp [hb]
      · have : (k == j) = false := beq_eq_false_iff_ne.2 fun h => e h.symm
        rw [List.any_cons, List.any_nil]
        dsimp only
        rw [this, Bool.false_or, Bool.or_false]
        congr 1
        rw [decide_eq_decide]
        omega
theorem partB_all (R C : Nat) : pat (partB (upto R 8) C) 8 = pat (rectB R C) 8 := by
  apply pat_congr
  intro j hj
  unfold partB rectB
  rw [any_upto R j 8 (Nat.le_refl _), decide_eq_true hj, Bool.true_and]

theorem cell_of_box {W : World} {B : Nat} {v : Value} {t : TypeId} (h : W.heap[B]? = some (.cells #[v] t (0, 0))) : W.cell? ⟨B, 0, none⟩ = some v ∧ W.frozen? ⟨B, 0, none⟩ = false := by
  constructor <;> simp [World.cell?, World.frozen?, h]
theorem cell_alloc {W : World} {a : Addr} {v : Value} (o : Obj) (h : W.cell? a = some v) : (W.alloc o).cell? a = some v := cell_kept h (World.grownBy_alloc W o none) (fun r e => by cases e)
theorem frozen_alloc {W : World} {a : Addr} {v : Value} (o : Obj) (h : W.cell? a = some v) (hf : W.frozen? a = false) : (W.alloc o).frozen? a = false := (frozen_kept h (World.grownBy_alloc W o none) (fun r e => by cases e)).trans hf

set_option maxRecDepth 100000 in
set_option maxHeartbeats 4000000 in
theorem patch_in (n : Nat) (hn : 3 ≤ n) (R C : Nat) (hR : R < 256) (hC : C < 256) (w : World) :
    CallsIn Fence.wide n Tryz.prog 35 #[rect R C] w fun e W' => e = .returned (.int .u64 (pat (rectB R C) 8 : Nat)) ∧ Below w.heap.size w W' := by
  have h1 : 1 ≤ n := by omega
  refine callsIn_of_wp_marks Tryz.func35 rfl trivial ?_ rfl
  simp only [Tryz.ntmps35, List.size_toArray, List.length_cons, List.length_nil, Nat.reduceAdd, Nat.reduceSub, Array.replicate_succ, Array.replicate_zero, List.push_toArray, List.append_toArray, List.nil_append, List.cons_append]
  gi_wp2_with (refine ⟨trivial, ?_⟩; gi_at_call 67; refine (callsIn_wide.2 (each_any _ _)).mono ?_; rintro e w' ⟨rfl, rfl⟩)
  obtain ⟨W0, hW0⟩ : ∃ W0, ((w.alloc (.cells #[.int .i64 (R : Int), .int .i64 (C : Int)] 31)).alloc (.cells #[.int .u64 0] 47)).alloc (.cells #[.int .i64 (R : Int)] 3) = W0 := ⟨_, rfl⟩
  rw [hW0]
  have hsz : W0.heap.size = w.heap.size + 3 := by rw [← hW0]; simp
  have e0 : W0.heap[w.heap.size]? = some (.cells #[.int .i64 (R : Int), .int .i64 (C : Int)] 31 (0, 0)) := by
    rw [← hW0]; exact (Below.heap_alloc _ _ _ (by simp; omega)).trans ((Below.heap_alloc _ _ _ (by simp)).trans (heap_alloc_new w _))
  have e1 : W0.heap[w.heap.size + 1]? = some (.cells #[.int .u64 0] 47 (0, 0)) := by
    rw [← hW0]; exact (Below.heap_alloc _ _ _ (by simp)).trans (by have := heap_alloc_new (w.alloc (.cells #[.int .i64 (R : Int), .int .i64 (C : Int)] 31)) (.cells #[.int .u64 0] 47); rwa [World.size_alloc] at this)
  have e2 : W0.heap[w.heap.size + 1 + 1]? = some (.cells #[.int .i64 (R : Int)] 3 (0, 0)) := by
    rw [← hW0]; have := heap_alloc_new ((w.alloc (.cells #[.int .i64 (R : Int), .int .i64 (C : Int)] 31)).alloc (.cells #[.int .u64 0] 47)) (.cells #[.int .i64 (R : Int)] 3); rwa [World.size_alloc, World.size_alloc] at this
  have hB0 : Below w.heap.size w W0 := by rw [← hW0]; exact (((Below.refl _ w).alloc (Nat.le_refl _) _).alloc (by simp) _).alloc (by simp; omega) _
  clear hW0
  refine wpIn_rangeFunc_ownF rfl h1 (gf := 89) (lb := #[.pointer (some ⟨w.heap.size + 1 + 1, 0, none⟩)]) rfl trivial (enters_of Tryz.func89 (by kernel_rfl) rfl)
    (mem_stops (n - 1) (by omega) (w.heap.size + 1 + 1) R hR W0 (by omega) (cell_of_box e2).1) keepC_t keepC_b (Below.refl _ _) (fun _ => rfl)
    (fun pre W => ((W.cell? ⟨w.heap.size + 1, 0, none⟩ = some (.int .u64 (pat (partB pre C) 8 : Nat)) ∧ W.frozen? ⟨w.heap.size + 1, 0, none⟩ = false) ∧ W.cell? ⟨w.heap.size, 1, none⟩ = some (.int .i64 (C : Int))) ∧ Below w.heap.size w W)
    (fun _ _ _ => False)
    (OwnFrom.and (Own.from (fun s A B row hs hg hr => ⟨⟨cell_kept hs.1.1 hg hr, (frozen_kept hs.1.1 hg hr).trans hs.1.2⟩, cell_kept hs.2 hg hr⟩) _) (ownFrom_below (Nat.le_refl _) (by omega)))
    (fun _ _ _ _ _ hs _ _ => hs)
    ⟨⟨⟨by rw [partB_nil]; exact (cell_of_box e1).1, (cell_of_box e1).2⟩, cell_of_row _ _ 1 _ _ _ e0⟩, hB0⟩
    (fun x => { tmps := #[rect (R : Int) (C : Int), .pointer (some ⟨w.heap.size, 0, none⟩), .int .u64 0, .pointer (some ⟨w.heap.size + 1, 0, none⟩), .int .i64 (x.val : Int), .pointer (some ⟨w.heap.size, 0, none⟩), .int .i64 (R : Int), .func (.func 89) #[] #[.pointer (some ⟨w.heap.size + 1 + 1, 0, none⟩)], .int .i64 (x.val : Int), undef, undef, undef, undef, undef, undef, undef, undef, undef], defers := [] }) ?assign ?body ?done ?stop
  case assign =>
    intro l x W K hK
    gi_wp2
    exact hK
  case body =>
    rintro l pre x W ⟨⟨⟨hc, hf0⟩, hC1⟩, hB⟩ _
    have hx8 := x.isLt
    have HN := Lib.hid (partB_next pre x C hC)
    have hlt := pat64 (partB pre C) (partB_lt pre C hC)
    have hsh := shl_fits x C hC
    have HO := Lib.hid (u64_or_nat (pat (partB pre C) 8) (C * 2 ^ (x.val * 8)) hlt hsh)
    have HT : Hid ((C : Int) * 2 ^ (x.val * 8) = ((C * 2 ^ (x.val * 8) : Nat) : Int)) := by unfold Hid; simp
    generalize pat (partB pre C) 8 = p at *
    gi_wp2
    have hcd : ({ W with drawn := W.drawn + 1 } : World).cell? ⟨w.heap.size + 1, 0, none⟩ = some (.int .u64 (p : Int)) := hc
    have hfd : ({ W with drawn := W.drawn + 1 } : World).frozen? ⟨w.heap.size + 1, 0, none⟩ = false := hf0
    have hC1d : ({ W with drawn := W.drawn + 1 } : World).cell? ⟨w.heap.size, 1, none⟩ = some (.int .i64 (C : Int)) := hC1
    refine wpIn_region_last (fun | 0 => .int .u64 (p : Int) | 1 => .pointer (some ⟨w.heap.size, 1, none⟩) | 2 => .int .i64 (C : Int) | 3 => .int .u64 (C : Int) | 4 => .int .i64 (x.val : Int) | 5 => .int .i64 ((x.val * 8 : Nat) : Int) | 6 => .int .u64 ((C * 2 ^ (x.val * 8) : Nat) : Int) | 7 => .int .u64 ((p ||| C * 2 ^ (x.val * 8) : Nat) : Int) | _ => undef) 8 (({ W with drawn := W.drawn + 1 } : World).setCell ⟨w.heap.size + 1, 0, none⟩ (.int .u64 ((p ||| C * 2 ^ (x.val * 8) : Nat) : Int))) _ (by kernel_rfl) (by kernel_rfl) rfl rfl rfl rfl (by kernel_rfl) ?con ?st ?en
    case con =>
      intro i o ho hi a hf
      match i, ho with
      | 0, ho =>
        obtain rfl := Option.some.inj ho
        have b3 : a.tmps[3]?.getD undef = .pointer (some ⟨w.heap.size + 1, 0, none⟩) := hf.2 3 (by kernel_rfl)
        exact wpIn_value (.int .u64 (p : Int)) rfl (by go_simp) ⟨rfl, rfl⟩
      | 1, ho =>
        obtain rfl := Option.some.inj ho
        have b1 : a.tmps[1]?.getD undef = .pointer (some ⟨w.heap.size, 0, none⟩) := hf.2 1 (by kernel_rfl)
        exact wpIn_value (.pointer (some ⟨w.heap.size, 1, none⟩)) rfl (by go_simp) ⟨rfl, rfl⟩
      | 2, ho =>
        obtain rfl := Option.some.inj ho
        have e10 : a.tmps[10]?.getD undef = .pointer (some ⟨w.heap.size, 1, none⟩) := hf.1 ⟨1, .data⟩ (by simp) rfl _ 10 rfl rfl
        exact wpIn_value (.int .i64 (C : Int)) rfl (by go_simp) ⟨rfl, rfl⟩
      | 3, ho =>
        obtain rfl := Option.some.inj ho
        have e11 : a.tmps[11]?.getD undef = .int .i64 (C : Int) := hf.1 ⟨2, .data⟩ (by simp) rfl _ 11 rfl rfl
        exact wpIn_value (.int .u64 (C : Int)) rfl (by go_simp; rw [IntKind.wrap_u64]; omega) ⟨rfl, rfl⟩
      | 4, ho =>
        obtain rfl := Option.some.inj ho
        have b4 : a.tmps[4]?.getD undef = .int .i64 (x.val : Int) := hf.2 4 (by kernel_rfl)
        exact wpIn_value (.int .i64 (x.val : Int)) rfl (by go_simp) ⟨rfl, rfl⟩
      | 5, ho =>
        obtain rfl := Option.some.inj ho
        have e13 : a.tmps[13]?.getD undef = .int .i64 (x.val : Int) := hf.1 ⟨4, .data⟩ (by simp) rfl _ 13 rfl rfl
        exact wpIn_value (.int .i64 ((x.val * 8 : Nat) : Int)) rfl (by go_simp; rw [IntKind.wrap_i64]; omega) ⟨rfl, rfl⟩
      | 6, ho =>
        obtain rfl := Option.some.inj ho
        have e12 : a.tmps[12]?.getD undef = .int .u64 (C : Int) := hf.1 ⟨3, .data⟩ (by simp) rfl _ 12 rfl rfl
        have e14 : a.tmps[14]?.getD undef = .int .i64 ((x.val * 8 : Nat) : Int) := hf.1 ⟨5, .data⟩ (by simp) rfl _ 14 rfl rfl
        have hto : ((x.val : Int) * 8).toNat = x.val * 8 := by omega
        exact wpIn_value (.int .u64 ((C * 2 ^ (x.val * 8) : Nat) : Int)) rfl (by go_simp; rw [HT.out, IntKind.wrap_u64]; omega) ⟨rfl, rfl⟩
      | 7, ho =>
        obtain rfl := Option.some.inj ho
        have e9 : a.tmps[9]?.getD undef = .int .u64 (p : Int) := hf.1 ⟨0, .data⟩ (by simp) rfl _ 9 rfl rfl
        have e15 : a.tmps[15]?.getD undef = .int .u64 ((C * 2 ^ (x.val * 8) : Nat) : Int) := hf.1 ⟨6, .data⟩ (by simp) rfl _ 15 rfl rfl
        exact wpIn_value (.int .u64 ((p ||| C * 2 ^ (x.val * 8) : Nat) : Int)) rfl (by go_simp; rw [HT.out]; exact HO.out) ⟨rfl, rfl⟩
      | n + 8, ho => exact absurd hi (by omega)
    case st =>
      intro a hf
      have e16 : a.tmps[16]?.getD undef = .int .u64 ((p ||| C * 2 ^ (x.val * 8) : Nat) : Int) := hf.1 ⟨7, .data⟩ (by simp) rfl _ 16 rfl rfl
      have b3 : a.tmps[3]?.getD undef = .pointer (some ⟨w.heap.size + 1, 0, none⟩) := hf.2 3 (by kernel_rfl)
      exact wpIn_store rfl (by go_simp) ⟨rfl, rfl⟩
    case en =>
      simp only [fill, Act.put]
      go_simp
      exact ⟨(KeepsOthers.setCell W _ _).trans (KeepsOthers.drew _), KeepC.set (B := W) (KeepC.refl _ W) ⟨w.heap.size + 1, 0, none⟩ _ (by show w.heap.size + 1 ≠ w.heap.size + 1 + 1; omega),
        ⟨⟨by rw [← HN.out]; exact World.cell?_setCell_same' W _ _ (by rw [hc]; rfl), (World.frozen?_setCell W _ _ _).trans hf0⟩, (World.cell?_setCell_far W _ _ _ (by simp)).trans hC1⟩, (hB.setCell (p := ⟨w.heap.size + 1, 0, none⟩) (by show w.heap.size ≤ w.heap.size + 1; omega) _).drew⟩
  case done =>
    rintro D ys W hD rfl ⟨⟨⟨hc, _⟩, _⟩, hB⟩ hK
    gi_wp2
    refine ⟨by simp, .inl ⟨_, _, rfl, run_takeDeferred hK, ?_⟩⟩
    exact ⟨_, results_tmp rfl _ _ _, (by rw [← partB_all]; rfl), hB.trans (belowK_b (w := w) (Nat.le_refl _) W D _ _ (by omega) hK rfl rfl)⟩
  case stop =>
    rintro D c pre W _ _ h _
    exact h.elim
/-- the program's set of the entries of a rectangle -/
theorem patch_any (R C : Nat) (hR : R < 256) (hC : C < 256) (w : World) :
    Calls Tryz.prog 35 #[rect R C] w fun e W' => e = .returned (.int .u64 (pat (rectB R C) 8 : Nat)) ∧ Below w.heap.size w W' :=
  callsIn_wide.1 (patch_in 3 (by omega) R C hR hC w)

set_option maxHeartbeats 1000000 in
theorem count_steps (x y z c y1 y2 y3 s : Nat) (h1 : IntKind.u64.wrap (Go.bits .and .u64 ((x : Int) / 2) 6148914691236517205 + Go.bits .and .u64 (x : Int) 6148914691236517205) = (y : Int))
    (h2 : IntKind.u64.wrap (Go.bits .and .u64 ((y : Int) / 4) 3689348814741910323 + Go.bits .and .u64 (y : Int) 3689348814741910323) = (z : Int))
    (h3 : Go.bits .and .u64 (IntKind.u64.wrap ((z : Int) / 16 + (z : Int))) 1085102592571150095 = (c : Int))
    (h4 : IntKind.u64.wrap ((c : Int) + (c : Int) / 256) = (y1 : Int)) (h5 : IntKind.u64.wrap ((y1 : Int) + (y1 : Int) / 65536) = (y2 : Int)) (h6 : IntKind.u64.wrap ((y2 : Int) + (y2 : Int) / 4294967296) = (y3 : Int))
    (h7 : Go.bits .and .i64 (wrap64 (y3 : Int)) 127 = (s : Int)) (w : World) :
    Calls Tryz.prog 68 #[.int .u64 (x : Int)] w fun e w' => e = .returned (.int .i64 (s : Int)) ∧ w = w' := by
  go_enter Tryz.func68, Tryz.ntmps68
  go_wp2_with fail
  go_ret
  exact ⟨rfl, rfl⟩
theorem and127 (y : Nat) (h : y < 9223372036854775808) : Go.bits .and .i64 (y : Int) 127 = ((y % 128 : Nat) : Int) := by
  have hp : (2 : Int) ^ 63 = 9223372036854775808 := by decide
  have hq : (2 : Nat) ^ 63 = 9223372036854775808 := by decide
  have hk : ∀ n : Int, 0 ≤ n → n < 2 ^ 63 → IntKind.i64.wrap n = n := fun n h0 h1 => by
    rw [hp] at h1
    rw [IntKind.wrap_i64]
    omega
  have h2 := (bits_nat .i64 63 (by decide) hk y 127 (by rw [hq]; exact h) (by rw [hq]; decide)).1
  rw [nat_mask7] at h2
  exact h2
theorem wrap_fits (n : Nat) (h : n < 18446744073709551616) : IntKind.u64.wrap (n : Int) = (n : Int) := by
  rw [IntKind.wrap_u64]
  omega
/-- the number of ones of a number that is told by its bytes -/
theorem count_any (f : Nat → Nat) (hf : ∀ x, f x < 256) (w : World) :
    Calls Tryz.prog 68 #[.int .u64 ((pat f 8 : Nat) : Int)] w fun e w' => e = .returned (.int .i64 ((sumN (fun x => pop8 (f x)) 8 : Nat) : Int)) ∧ w = w' := by
  have hx := pat64 f hf
  have e1 := m1_pat f hf
  have hb1 : ∀ x, b1 (f x) < 256 := fun x => (b_facts _ (hf x)).1
  have hy := pat64 _ hb1
  have e2 := m2_pat _ hb1
  have hb2 : ∀ x, b2 (b1 (f x)) < 256 := fun x => by have := (b_facts _ (hf x)).2; omega
  have hz := pat64 _ hb2
  have e3 := m123_pat f hf
  have hc : ∀ x, pop8 (f x) < 256 := fun x => by have := pop8_le (f x); omega
  have hcl := pat64 _ hc
  obtain ⟨y1, y2, y3, q1, q2, q3, l1, l2, l3, hs⟩ := fold_pat (fun x => pop8 (f x)) (fun x => pop8_le _)
  refine count_steps (pat f 8) (m1 (pat f 8)) (m2 (m1 (pat f 8))) (m3 (m2 (m1 (pat f 8)))) y1 y2 y3 _ ?_ ?_ ?_ ?_ ?_ ?_ ?_ w
  · show IntKind.u64.wrap (Go.bits .and .u64 ((pat f 8 / 2 : Nat) : Int) ((6148914691236517205 : Nat) : Int) + Go.bits .and .u64 ((pat f 8 : Nat) : Int) ((6148914691236517205 : Nat) : Int)) = _
    rw [u64_and_nat _ _ (by omega) (by decide), u64_and_nat _ _ hx (by decide), ← Int.natCast_add]
    refine wrap_fits _ ?_
    show m1 (pat f 8) < _
    rw [e1]; exact hy
  · have hy' : m1 (pat f 8) < 18446744073709551616 := by rw [e1]; exact hy
    show IntKind.u64.wrap (Go.bits .and .u64 ((m1 (pat f 8) / 4 : Nat) : Int) ((3689348814741910323 : Nat) : Int) + Go.bits .and .u64 ((m1 (pat f 8) : Nat) : Int) ((3689348814741910323 : Nat) : Int)) = _
    rw [u64_and_nat _ _ (by omega) (by decide), u64_and_nat _ _ hy' (by decide), ← Int.natCast_add]
    refine wrap_fits _ ?_
    show m2 (m1 (pat f 8)) < _
    rw [e1, e2]; exact hz
  · have hz' : m2 (m1 (pat f 8)) / 16 + m2 (m1 (pat f 8)) < 18446744073709551616 := by
      rw [e1, e2]
      have : pat (fun x => b2 (b1 (f x))) 8 ≤ pat (fun _ => 68) 8 := pat_mono 8 _ _ fun x => by have := (b_facts _ (hf x)).2; omega
      have e : pat (fun _ => 68) 8 = 4919131752989213764 := by decide
      omega
    show Go.bits .and .u64 (IntKind.u64.wrap ((m2 (m1 (pat f 8)) / 16 + m2 (m1 (pat f 8)) : Nat) : Int)) ((1085102592571150095 : Nat) : Int) = _
    rw [wrap_fits _ hz', u64_and_nat _ _ hz' (by decide)]
    rfl
  · rw [e3, IntKind.wrap_u64]; omega
  · rw [IntKind.wrap_u64]; omega
  · rw [IntKind.wrap_u64]; omega
  · have hw : wrap64 (y3 : Int) = (y3 : Int) := by unfold wrap64; omega
    rw [hw]
    rw [and127 y3 l3, hs]

theorem size_any (f : Nat → Nat) (hf : ∀ x, f x < 256) (w : World) :
    Calls Tryz.prog 36 #[.int .u64 ((pat f 8 : Nat) : Int)] w fun e w' => e = .returned (.int .i64 ((sumN (fun x => pop8 (f x)) 8 : Nat) : Int)) ∧ w = w' := by
  have HC := Lib.hid (count_any f hf)
  generalize pat f 8 = p at *
  go_enter Tryz.func36, Tryz.ntmps36
  go_wp2_with fail
  refine (HC.out _).mono ?_
  rintro e w' ⟨rfl, rfl⟩
  go_wp2_with fail
  go_ret
  exact ⟨rfl, rfl⟩

/-- a rectangle has as many entries as rows times columns -/
theorem area_pop (R C : Nat) (hR : R < 256) : sumN (fun x => pop8 (rectB R C x)) 8 = pop8 R * pop8 C := by
  have h : ∀ k, sumN (fun x => pop8 (rectB R C x)) k = sumN (fun i => (R.testBit i).toNat) k * pop8 C := fun k => by
    induction k with
    | zero => simp [sumN]
    | succ k ih =>
      rw [sumN, sumN, ih, Nat.add_mul]
      congr 1
      unfold rectB
      cases R.testBit k <;> simp [pop8]
  rw [h 8, ← pop8_bits R hR]
end Go.Proofs.YtemmagkkigdhjaaGreatDoor.Patch

/-
  The program's board: the entries of a matrix as a set for each value. Its contract, and those of its small methods.
-/
namespace Go.Proofs.YtemmagkkigdhjaaGreatDoor.Board
open Go.RowKit Go.Proofs.YtemmagkkigdhjaaGreatDoor.Plain Go.Proofs.YtemmagkkigdhjaaGreatDoor.Base Go.Proofs.YtemmagkkigdhjaaGreatDoor.Valid Go.Proofs.YtemmagkkigdhjaaGreatDoor.Law Go.Proofs.YtemmagkkigdhjaaGreatDoor.GridPlain Go.Proofs.YtemmagkkigdhjaaGreatDoor.Grid Go.Proofs.YtemmagkkigdhjaaGreatDoor.Entry Go.Proofs.YtemmagkkigdhjaaGreatDoor.Pat Go.Proofs.YtemmagkkigdhjaaGreatDoor.Rect Go.Proofs.YtemmagkkigdhjaaGreatDoor.Patch Go.Proofs.YtemmagkkigdhjaaGreatDoor.FreeL
open Go.Proofs.YtemmagkkigdhjaaGreatDoor.Free (fill wp_value wp_enter wp_load_row freeB)
set_option linter.unusedVariables false

/-- a board's value -/
abbrev brd (r c : Int) (z o : Nat) : Value := .agg #[.int .i64 r, .int .i64 c, .int .u64 (z : Int), .int .u64 (o : Int)]
/-- the bytes of the entries of so many rows, and of so many columns of the next one, for which P holds -/
def wB (P : Nat → Nat → Bool) (c x y : Nat) : Nat → Nat := fun j => if j < x then setB (P j) c else if j = x then setB (P j) y else 0
/-- the bytes of all entries for which P holds -/
def onB (P : Nat → Nat → Bool) (r c : Nat) : Nat → Nat := fun j => if j < r then setB (P j) c else 0
theorem wB_lt (P : Nat → Nat → Bool) (c x y : Nat) (hc : c ≤ 8) (hy : y ≤ 8) (j : Nat) : wB P c x y j < 256 := by
  unfold wB
  split
  · exact setB_lt8 _ _ hc
  · split
    · exact setB_lt8 _ _ hy
    · omega
theorem onB_lt (P : Nat → Nat → Bool) (r c : Nat) (hc : c ≤ 8) (j : Nat) : onB P r c j < 256 := by
  unfold onB
  split
  · exact setB_lt8 _ _ hc
  · omega
theorem wB_start (P : Nat → Nat → Bool) (c : Nat) : pat (wB P c 0 0) 8 = 0 := (pat_zero 8 _).2 fun j _ => by
  unfold wB
  rw [if_neg (by omega)]
  split
  · rfl
  · rfl
theorem wB_row (P : Nat → Nat → Bool) (c x : Nat) : wB P c x c = wB P c (x + 1) 0 := by
  funext j
  unfold wB
  by_cases h : j < x
  · rw [if_pos h, if_pos (by omega)]
  · rw [if_neg h]
    by_cases e : j = x
    · rw [if_pos e, if_pos (by omega)]
    · rw [if_neg e, if_neg (by omega)]
      split <;> rfl
theorem wB_end (P : Nat → Nat → Bool) (r c : Nat) : wB P c r 0 = onB P r c := by
  funext j
  unfold wB onB
  by_cases h : j < r
  · rw [if_pos h, if_pos h]
  · rw [if_neg h, if_neg h]
    split <;> rfl
theorem wB_no (P : Nat → Nat → Bool) (c x y : Nat) (h : P x y = false) : wB P c x (y + 1) = wB P c x y := by
  funext j
  unfold wB
  by_cases hj : j < x
  · rw [if_pos hj, if_pos hj]
  · rw [if_neg hj, if_neg hj]
    by_cases e : j = x
    · subst e
      rw [if_pos rfl, if_pos rfl, setB, if_neg (by rw [h]; decide), Nat.add_zero]
    · rw [if_neg e, if_neg e]
theorem pow_bit (x j : Nat) : (2 ^ x).testBit j = decide (x = j) := Nat.testBit_two_pow
theorem wB_yes (P : Nat → Nat → Bool) (c x y : Nat) (hc : c ≤ 8) (hx : x < 8) (hy : y < 8) (h : P x y = true) : pat (wB P c x y) 8 ||| pat (rectB (2 ^ x) (2 ^ y)) 8 = pat (wB P c x (y + 1)) 8 := by
  have h2 : 2 ^ y < 256 := Nat.lt_of_lt_of_le (Nat.pow_lt_pow_right (by decide) hy) (by decide)
  rw [pat_or 8 _ _ (wB_lt P c x y hc (by omega)) (rectB_lt _ _ h2)]
  apply pat_congr
  intro j hj
  unfold wB rectB
  rw [pow_bit]
  by_cases e : x = j
  · subst e
    simp only [Nat.lt_irrefl, if_false, if_true, decide_true]
    have := setB_or (P x) y
    rwa [if_pos h] at this
  · rw [if_neg (show ¬ (decide (x = j) = true) by simpa using e)]
    by_cases hj2 : j < x
    · rw [if_pos hj2, if_pos hj2, Nat.or_zero]
    · rw [if_neg hj2, if_neg hj2, if_neg (fun h => e h.symm), if_neg (fun h => e h.symm), Nat.or_zero]

/-- block b holds a board -/
def BHolds (w : World) (b : Nat) (r c : Int) (z o : Nat) : Prop := w.heap[b]? = some (.cells #[.int .i64 r, .int .i64 c, .int .u64 (z : Int), .int .u64 (o : Int)] 50 (0, 0))
/-- block g holds a grid -/
def GHolds (w : World) (g : Nat) (r c : Int) (f : Nat → Int) : Prop := w.heap[g]? = some (.cells (gcells r c f) 71 (0, 0))
theorem binfo : (Tryz.prog.info? 50).map (·.size) = some 4 := by kernel_rfl

/-- what the loops keep -/
structure BInv (w wr : World) (g b : Nat) (r c : Int) (f : Nat → Int) (z o : Nat) : Prop where
  res : BHolds wr (w.heap.size + 1) 0 0 0 0
  grid : GHolds wr g r c f
  brd : BHolds wr b r c z o
  low : w.heap.size + 1 < g
  gb : g < b
  below : Below w.heap.size w wr
theorem BInv.later {w wr w2 : World} {g b : Nat} {r c : Int} {f : Nat → Int} {z o : Nat} (h : BInv w wr g b r c f z o) (hb : Below wr.heap.size wr w2) : BInv w w2 g b r c f z o :=
  ⟨(hb.block _ (Array.getElem?_eq_some_iff.1 h.res).1).trans h.res, (hb.block _ (Array.getElem?_eq_some_iff.1 h.grid).1).trans h.grid, (hb.block _ (Array.getElem?_eq_some_iff.1 h.brd).1).trans h.brd, h.low, h.gb, h.below.trans (hb.mono h.below.size)⟩
theorem BInv.set0 {w wr : World} {g b : Nat} {r c : Int} {f : Nat → Int} {z o : Nat} (h : BInv w wr g b r c f z o) (n : Nat) : BInv w (wr.setCell ⟨b, 2, none⟩ (.int .u64 (n : Int))) g b r c f n o :=
  ⟨(heap_setCell_other _ _ _ _ (by show w.heap.size + 1 ≠ b; have := h.low; have := h.gb; omega)).trans h.res, (heap_setCell_other _ _ _ _ (by show g ≠ b; have := h.gb; omega)).trans h.grid,
    heap_setCell_same _ _ _ _ _ _ h.brd, h.low, h.gb, h.below.setCell (by show w.heap.size ≤ b; have := h.low; have := h.gb; omega) _⟩
theorem BInv.set1 {w wr : World} {g b : Nat} {r c : Int} {f : Nat → Int} {z o : Nat} (h : BInv w wr g b r c f z o) (n : Nat) : BInv w (wr.setCell ⟨b, 3, none⟩ (.int .u64 (n : Int))) g b r c f z n :=
  ⟨(heap_setCell_other _ _ _ _ (by show w.heap.size + 1 ≠ b; have := h.low; have := h.gb; omega)).trans h.res, (heap_setCell_other _ _ _ _ (by show g ≠ b; have := h.gb; omega)).trans h.grid,
    heap_setCell_same _ _ _ _ _ _ h.brd, h.low, h.gb, h.below.setCell (by show w.heap.size ≤ b; have := h.low; have := h.gb; omega) _⟩

theorem two_blk {w w1 : World} {o1 o2 : Obj} (hb : Below ((w.alloc o1).alloc o2).heap.size ((w.alloc o1).alloc o2) w1) : w1.heap[w.heap.size + 1]? = some o2 ∧ Below w.heap.size w w1 ∧ w.heap.size + 2 ≤ w1.heap.size := by
  have hs : ((w.alloc o1).alloc o2).heap.size = w.heap.size + 2 := by simp
  have h2 : ((w.alloc o1).alloc o2).heap[w.heap.size + 1]? = some o2 := by
    have := heap_alloc_new (w.alloc o1) o2
    rwa [World.size_alloc] at this
  exact ⟨(hb.block _ (by omega)).trans h2, (((Below.refl w.heap.size w).alloc (Nat.le_refl _) _).alloc (by simp) _).trans (hb.mono (by omega)), by have := hb.size; omega⟩
theorem wrap_small (n : Nat) (h : n < 256) : IntKind.i64.wrap (n : Int) = (n : Int) := by
  rw [IntKind.wrap_i64]
  omega
theorem eval_get {a : Act} {d : Tmp} {v : Value} (h : a.tmps[d]?.getD undef = v) (_ : True) : a.eval (.tmp d) = v := by
  rw [← h]
  show a.tmps.getD d undef = _
  simp [Array.getD_eq_getD_getElem?]
theorem wp_skip {P : Program} {o : Oper} {a : Act} {w w' : World} {K : Act → World → Prop} {Q : Exit → Act → World → Prop} (h : (execOp a.eval o).run P w = .ok .skip w') (hK : K (a.put o.dst undef) w') : o.wp P a w K Q := by
  unfold Oper.wp
  rw [h]
  exact hK

set_option maxHeartbeats 4000000 in
set_option maxRecDepth 100000 in
theorem board_of (R C : Nat) (hR : R ≤ 8) (hC : C ≤ 8) (f : Nat → Int) (E : Nat → Nat → Bool) (hf : ∀ x y, x < R → y < C → f (8 * x + y) = bitI (E x y)) (rr cc : Int) (s : ByteArray)
    (hg : ∀ W : World, Calls Tryz.prog 38 #[mat rr cc s] W fun e w' => e = .returned (gval R C f) ∧ Below W.heap.size W w') (w : World) :
    Calls Tryz.prog 20 #[mat rr cc s] w fun e w' => e = .returned (brd R C (pat (onB (fun x y => !E x y) R C) 8) (pat (onB E R C) 8)) ∧ Below w.heap.size w w' := by
  have HG := Lib.hid hg
  have HF := Lib.hid hf
  clear hg hf
  go_enter Tryz.func20, Tryz.ntmps20
  go_wp2_with fail
  refine (HG.out _).mono ?_
  rintro e w1 ⟨rfl, hb1⟩
  have c0 : (w1.alloc (.cells (gcells R C f) 71)).cell? ⟨w1.heap.size, 0, none⟩ = some (.int .i64 (R : Int)) := cell_of_row _ _ 0 _ _ _ (heap_alloc_new w1 _)
  have c1 : (w1.alloc (.cells (gcells R C f) 71)).cell? ⟨w1.heap.size, 1, none⟩ = some (.int .i64 (C : Int)) := cell_of_row _ _ 1 _ _ _ (heap_alloc_new w1 _)
  have c2 : ((w1.alloc (.cells (gcells R C f) 71)).alloc (.cells #[.int .i64 (R : Int), .int .i64 (C : Int), .int .u64 0, .int .u64 0] 50)).cell? ⟨w1.heap.size, 0, none⟩ = some (.int .i64 (R : Int)) := cell_of_row _ _ 0 _ _ _ ((Below.heap_alloc _ _ _ (by simp)).trans (heap_alloc_new w1 _))
  obtain ⟨b1, hbel, hz⟩ := two_blk hb1
  have HI0 : Hid (BInv w ((w1.alloc (.cells (gcells R C f) 71)).alloc (.cells #[.int .i64 (R : Int), .int .i64 (C : Int), .int .u64 0, .int .u64 0] 50)) w1.heap.size (w1.heap.size + 1) R C f 0 0) :=
    ⟨(Below.heap_alloc _ _ _ (by simp; omega)).trans ((Below.heap_alloc _ _ _ (by omega)).trans b1), (Below.heap_alloc _ _ _ (by simp)).trans (heap_alloc_new w1 _), (by have := heap_alloc_new (w1.alloc (.cells (gcells R C f) 71)) (.cells #[.int .i64 (R : Int), .int .i64 (C : Int), .int .u64 0, .int .u64 0] 50); rwa [World.size_alloc] at this), by omega, by omega,
      bstepA (bstepA hbel _) _⟩
  clear hb1 b1 hbel hz
  go_wp2_with (first | (refine wpList_store_row rfl 71 (.tmp 3) (.tmp 8) rfl w1.heap.size (gcells R C f) rfl rfl 71 _ (heap_alloc_new w1 _) (ginfo' _ _ _) (by rw [gzero, gsize, gsize]) (gone _ _ _) ?_; rw [World.setRow_alloc_new]))
  go_loopw [16] (fun x wr => ∃ k : Nat, k ≤ R ∧ x = .int .i64 (k : Int) ∧ BInv w wr w1.heap.size (w1.heap.size + 1) R C f (pat (wB (fun x y => !E x y) C k 0) 8) (pat (wB E C k 0) 8)) (fun x _ => R - (intOf x).toNat)
  case atStart => exact ⟨0, Nat.zero_le _, rfl, by rw [wB_start, wB_start]; exact HI0.out⟩
  case round =>
    obtain ⟨k, hk, rfl, hinv⟩ := hrel
    clear HI0 c0 c1 c2
    by_cases hlt : k < R
    · have c1 : wr.cell? ⟨w1.heap.size, 1, none⟩ = some (.int .i64 (C : Int)) := cell_of_row _ _ 1 _ _ _ hinv.grid
      have HI := Lib.hid hinv
      clear hinv
      go_wp2_with fail
      go_loopw [21] (fun y wr => ∃ j : Nat, j ≤ C ∧ y = .int .i64 (j : Int) ∧ BInv w wr w1.heap.size (w1.heap.size + 1) R C f (pat (wB (fun x y => !E x y) C k j) 8) (pat (wB E C k j) 8)) (fun y _ => C - (intOf y).toNat)
      case atStart => exact ⟨0, Nat.zero_le _, rfl, HI.out⟩
      case round =>
        obtain ⟨j, hj, rfl, hinv⟩ := hrel
        clear c1 HI
        by_cases hlt' : j < C
        · have HI := Lib.hid hinv
          clear hinv
          have k8 : k < 8 := by omega
          have j8 : j < 8 := by omega
          have hx2 : 2 ^ k < 256 := Nat.lt_of_lt_of_le (Nat.pow_lt_pow_right (by decide) k8) (by decide)
          have hy2 : 2 ^ j < 256 := Nat.lt_of_lt_of_le (Nat.pow_lt_pow_right (by decide) j8) (by decide)
          have HP := Lib.hid (patch_any (2 ^ k) (2 ^ j) hx2 hy2)
          have HX : Hid (IntKind.i64.wrap (2 ^ k) = ((2 ^ k : Nat) : Int)) := by unfold Hid; rw [show ((2 : Int) ^ k) = ((2 ^ k : Nat) : Int) by simp, wrap_small _ hx2]
          have HV : Hid (IntKind.i64.wrap (2 ^ j) = ((2 ^ j : Nat) : Int)) := by unfold Hid; rw [show ((2 : Int) ^ j) = ((2 ^ j : Nat) : Int) by simp, wrap_small _ hy2]
          have hpl := pat64 (rectB (2 ^ k) (2 ^ j)) (rectB_lt _ _ hy2)
          have HEN := Lib.hid (fun W => entry_any (R : Int) (C : Int) f k j k8 j8 W)
          rw [HF.out k j hlt hlt'] at HEN
          obtain ⟨t, ht⟩ : ∃ t, E k j = t := ⟨_, rfl⟩
          rw [ht] at HEN
          cases t
          · have HE : Hid (∀ W : World, Calls Tryz.prog 41 #[gval R C f, .int .i64 (k : Int), .int .i64 (j : Int)] W fun e w' => e = .returned (.int .i64 0) ∧ Below W.heap.size W w') := HEN.out
            have HN := Lib.hid (wB_yes (fun x y => !E x y) C k j hC k8 j8 (by show (!E k j) = true; rw [ht]; rfl))
            have HZ := Lib.hid (wB_no E C k j ht)
            have hol := pat64 (wB (fun x y => !E x y) C k j) (wB_lt _ C k j hC (by omega))
            have HO := Lib.hid (u64_or_nat _ _ hol hpl)
            clear HEN ht
            generalize pat (rectB (2 ^ k) (2 ^ j)) 8 = p at *
            generalize pat (wB (fun x y => !E x y) C k j) 8 = old at *
            generalize 2 ^ k = X at *
            generalize 2 ^ j = V at *
            generalize old ||| p = n at *
            go_wp2_with fail
            refine wp_region_last (fun | 0 => gval R C f | 1 => .int .i64 (k : Int) | 2 => .int .i64 (j : Int) | 3 => .int .i64 0 | 4 => .pointer (some ⟨w1.heap.size + 1, 2, none⟩) | 5 => .pointer (some ⟨w1.heap.size + 1, 2, none⟩) | 6 => .int .u64 (old : Int) | 7 => .int .i64 (k : Int) | 8 => .int .i64 (X : Int) | 9 => .int .i64 (j : Int) | 10 => .int .i64 (V : Int) | 11 => rect X V | 12 => .int .u64 (p : Int) | 13 => .int .u64 (n : Int) | 14 => .pointer (some ⟨w1.heap.size + 1, 2, none⟩) | 15 => .pointer (some ⟨w1.heap.size + 1, 2, none⟩) | _ => undef) 16 (fun w' => w'.setCell ⟨w1.heap.size + 1, 2, none⟩ (.int .u64 (n : Int))) _ (by kernel_rfl) (by kernel_rfl) rfl rfl rfl rfl (by kernel_rfl) ?con0 ?st0 ?en0
            case con0 =>
              intro i o ho hi a w2 hb2 hf
              have HI2 := HI.out.later hb2
              match i, ho with
              | 0, ho =>
                obtain rfl := Option.some.inj ho
                have b3 : a.tmps[3]?.getD undef = .pointer (some ⟨w1.heap.size, 0, none⟩) := hf.2 3 (by kernel_rfl)
                exact wp_load_row 71 (.tmp 3) rfl w1.heap.size (eval_get b3 (by decide)) 71 _ (0, 0) _ HI2.grid Tryz.underlying71 rfl (ginfo' _ _ _) ⟨rfl, Below.refl _ _⟩
              | 1, ho =>
                obtain rfl := Option.some.inj ho
                have b5 : a.tmps[5]?.getD undef = .int .i64 (k : Int) := hf.2 5 (by kernel_rfl)
                exact wp_value (.int .i64 (k : Int)) (by unfold execOp; go_simp) ⟨rfl, Below.refl _ _⟩
              | 2, ho =>
                obtain rfl := Option.some.inj ho
                have b6 : a.tmps[6]?.getD undef = .int .i64 (j : Int) := hf.2 6 (by kernel_rfl)
                exact wp_value (.int .i64 (j : Int)) (by unfold execOp; go_simp) ⟨rfl, Below.refl _ _⟩
              | 3, ho =>
                obtain rfl := Option.some.inj ho
                have e24 : a.tmps[24]?.getD undef = gval R C f := hf.1 ⟨0, .data⟩ (by simp) rfl _ 24 rfl rfl
                have e25 : a.tmps[25]?.getD undef = .int .i64 (k : Int) := hf.1 ⟨1, .data⟩ (by simp) rfl _ 25 rfl rfl
                have e26 : a.tmps[26]?.getD undef = .int .i64 (j : Int) := hf.1 ⟨2, .data⟩ (by simp) rfl _ 26 rfl rfl
                exact wp_enter 41 #[gval R C f, .int .i64 (k : Int), .int .i64 (j : Int)] (.int .i64 0) _ (by unfold execOp; go_simp) (HE.out w2) (fun w' h => ⟨rfl, h⟩)
              | 4, ho =>
                obtain rfl := Option.some.inj ho
                have b4 : a.tmps[4]?.getD undef = .pointer (some ⟨w1.heap.size + 1, 0, none⟩) := hf.2 4 (by kernel_rfl)
                exact wp_value (.pointer (some ⟨w1.heap.size + 1, 2, none⟩)) (by unfold execOp; go_simp) ⟨rfl, Below.refl _ _⟩
              | 5, ho =>
                obtain rfl := Option.some.inj ho
                have e28 : a.tmps[28]?.getD undef = .pointer (some ⟨w1.heap.size + 1, 2, none⟩) := hf.1 ⟨4, .data⟩ (by simp) rfl _ 28 rfl rfl
                have e27 : a.tmps[27]?.getD undef = .int .i64 0 := hf.1 ⟨3, .data⟩ (by simp) rfl _ 27 rfl rfl
                exact wp_value (.pointer (some ⟨w1.heap.size + 1, 2, none⟩)) (by unfold execOp; go_simp) ⟨rfl, Below.refl _ _⟩
              | 6, ho =>
                obtain rfl := Option.some.inj ho
                have e29 : a.tmps[29]?.getD undef = .pointer (some ⟨w1.heap.size + 1, 2, none⟩) := hf.1 ⟨5, .data⟩ (by simp) rfl _ 29 rfl rfl
                have hc : w2.cell? ⟨w1.heap.size + 1, 2, none⟩ = some (.int .u64 (old : Int)) := cell_of_row _ _ 2 _ _ _ HI2.brd
                exact wp_value (.int .u64 (old : Int)) (by unfold execOp; go_simp) ⟨rfl, Below.refl _ _⟩
              | 7, ho =>
                obtain rfl := Option.some.inj ho
                have b5 : a.tmps[5]?.getD undef = .int .i64 (k : Int) := hf.2 5 (by kernel_rfl)
                exact wp_value (.int .i64 (k : Int)) (by unfold execOp; go_simp) ⟨rfl, Below.refl _ _⟩
              | 8, ho =>
                obtain rfl := Option.some.inj ho
                have e31 : a.tmps[31]?.getD undef = .int .i64 (k : Int) := hf.1 ⟨7, .data⟩ (by simp) rfl _ 31 rfl rfl
                have hsh := HX.out
                exact wp_value (.int .i64 (X : Int)) (by unfold execOp; go_simp) ⟨rfl, Below.refl _ _⟩
              | 9, ho =>
                obtain rfl := Option.some.inj ho
                have b6 : a.tmps[6]?.getD undef = .int .i64 (j : Int) := hf.2 6 (by kernel_rfl)
                exact wp_value (.int .i64 (j : Int)) (by unfold execOp; go_simp) ⟨rfl, Below.refl _ _⟩
              | 10, ho =>
                obtain rfl := Option.some.inj ho
                have e33 : a.tmps[33]?.getD undef = .int .i64 (j : Int) := hf.1 ⟨9, .data⟩ (by simp) rfl _ 33 rfl rfl
                have hsh := HV.out
                exact wp_value (.int .i64 (V : Int)) (by unfold execOp; go_simp) ⟨rfl, Below.refl _ _⟩
              | 11, ho =>
                obtain rfl := Option.some.inj ho
                have e32 : a.tmps[32]?.getD undef = .int .i64 (X : Int) := hf.1 ⟨8, .data⟩ (by simp) rfl _ 32 rfl rfl
                have e34 : a.tmps[34]?.getD undef = .int .i64 (V : Int) := hf.1 ⟨10, .data⟩ (by simp) rfl _ 34 rfl rfl
                exact wp_value (rect X V) (by unfold execOp; go_simp) ⟨rfl, Below.refl _ _⟩
              | 12, ho =>
                obtain rfl := Option.some.inj ho
                have e35 : a.tmps[35]?.getD undef = rect X V := hf.1 ⟨11, .data⟩ (by simp) rfl _ 35 rfl rfl
                exact wp_enter 35 #[rect X V] (.int .u64 (p : Int)) _ (by unfold execOp; go_simp) (HP.out w2) (fun w' h => ⟨rfl, h⟩)
              | 13, ho =>
                obtain rfl := Option.some.inj ho
                have e30 : a.tmps[30]?.getD undef = .int .u64 (old : Int) := hf.1 ⟨6, .data⟩ (by simp) rfl _ 30 rfl rfl
                have e36 : a.tmps[36]?.getD undef = .int .u64 (p : Int) := hf.1 ⟨12, .data⟩ (by simp) rfl _ 36 rfl rfl
                exact wp_value (.int .u64 (n : Int)) (by unfold execOp; go_simp; exact HO.out) ⟨rfl, Below.refl _ _⟩
              | 14, ho =>
                obtain rfl := Option.some.inj ho
                have b4 : a.tmps[4]?.getD undef = .pointer (some ⟨w1.heap.size + 1, 0, none⟩) := hf.2 4 (by kernel_rfl)
                exact wp_value (.pointer (some ⟨w1.heap.size + 1, 2, none⟩)) (by unfold execOp; go_simp) ⟨rfl, Below.refl _ _⟩
              | 15, ho =>
                obtain rfl := Option.some.inj ho
                have e38 : a.tmps[38]?.getD undef = .pointer (some ⟨w1.heap.size + 1, 2, none⟩) := hf.1 ⟨14, .data⟩ (by simp) rfl _ 38 rfl rfl
                have e27 : a.tmps[27]?.getD undef = .int .i64 0 := hf.1 ⟨3, .data⟩ (by simp) rfl _ 27 rfl rfl
                exact wp_value (.pointer (some ⟨w1.heap.size + 1, 2, none⟩)) (by unfold execOp; go_simp) ⟨rfl, Below.refl _ _⟩
              | q + 16, ho => exact absurd hi (by omega)
            case st0 =>
              intro a w2 hb2 hf
              have HI2 := HI.out.later hb2
              have e39 : a.tmps[39]?.getD undef = .pointer (some ⟨w1.heap.size + 1, 2, none⟩) := hf.1 ⟨15, .data⟩ (by simp) rfl _ 39 rfl rfl
              have e37 : a.tmps[37]?.getD undef = .int .u64 (n : Int) := hf.1 ⟨13, .data⟩ (by simp) rfl _ 37 rfl rfl
              have hc : w2.cell? ⟨w1.heap.size + 1, 2, none⟩ = some (.int .u64 (old : Int)) := cell_of_row _ _ 2 _ _ _ HI2.brd
              have hfz : w2.frozen? ⟨w1.heap.size + 1, 2, none⟩ = false := frozen_of_row _ _ 2 _ _ HI2.brd
              exact wp_skip (by unfold execOp; go_simp) ⟨rfl, rfl⟩
            case en0 =>
              intro w2 hb2
              have HI3 := Lib.hid ((HI.out.later hb2).set0 n)
              clear hb2
              generalize w2.setCell ⟨w1.heap.size + 1, 2, none⟩ (.int .u64 (n : Int)) = w3 at *
              simp only [fill, Act.put]
              go_simp
              go_wp2_with fail
              go_roundw
              case rel => exact ⟨j + 1, by omega, by go_num, by rw [← HN.out, HZ.out]; exact HI3.out⟩
              case measure => simp [intOf]; omega
          · have HE : Hid (∀ W : World, Calls Tryz.prog 41 #[gval R C f, .int .i64 (k : Int), .int .i64 (j : Int)] W fun e w' => e = .returned (.int .i64 1) ∧ Below W.heap.size W w') := HEN.out
            have HN := Lib.hid (wB_yes E C k j hC k8 j8 ht)
            have HZ := Lib.hid (wB_no (fun x y => !E x y) C k j (by show (!E k j) = false; rw [ht]; rfl))
            have hol := pat64 (wB E C k j) (wB_lt _ C k j hC (by omega))
            have HO := Lib.hid (u64_or_nat _ _ hol hpl)
            clear HEN ht
            generalize pat (rectB (2 ^ k) (2 ^ j)) 8 = p at *
            generalize pat (wB E C k j) 8 = old at *
            generalize 2 ^ k = X at *
            generalize 2 ^ j = V at *
            generalize old ||| p = n at *
            go_wp2_with fail
            refine wp_region_last (fun | 0 => gval R C f | 1 => .int .i64 (k : Int) | 2 => .int .i64 (j : Int) | 3 => .int .i64 1 | 4 => .pointer (some ⟨w1.heap.size + 1, 2, none⟩) | 5 => .pointer (some ⟨w1.heap.size + 1, 3, none⟩) | 6 => .int .u64 (old : Int) | 7 => .int .i64 (k : Int) | 8 => .int .i64 (X : Int) | 9 => .int .i64 (j : Int) | 10 => .int .i64 (V : Int) | 11 => rect X V | 12 => .int .u64 (p : Int) | 13 => .int .u64 (n : Int) | 14 => .pointer (some ⟨w1.heap.size + 1, 2, none⟩) | 15 => .pointer (some ⟨w1.heap.size + 1, 3, none⟩) | _ => undef) 16 (fun w' => w'.setCell ⟨w1.heap.size + 1, 3, none⟩ (.int .u64 (n : Int))) _ (by kernel_rfl) (by kernel_rfl) rfl rfl rfl rfl (by kernel_rfl) ?con1 ?st1 ?en1
            case con1 =>
              intro i o ho hi a w2 hb2 hf
              have HI2 := HI.out.later hb2
              match i, ho with
              | 0, ho =>
                obtain rfl := Option.some.inj ho
                have b3 : a.tmps[3]?.getD undef = .pointer (some ⟨w1.heap.size, 0, none⟩) := hf.2 3 (by kernel_rfl)
                exact wp_load_row 71 (.tmp 3) rfl w1.heap.size (eval_get b3 (by decide)) 71 _ (0, 0) _ HI2.grid Tryz.underlying71 rfl (ginfo' _ _ _) ⟨rfl, Below.refl _ _⟩
              | 1, ho =>
                obtain rfl := Option.some.inj ho
                have b5 : a.tmps[5]?.getD undef = .int .i64 (k : Int) := hf.2 5 (by kernel_rfl)
                exact wp_value (.int .i64 (k : Int)) (by unfold execOp; go_simp) ⟨rfl, Below.refl _ _⟩
              | 2, ho =>
                obtain rfl := Option.some.inj ho
                have b6 : a.tmps[6]?.getD undef = .int .i64 (j : Int) := hf.2 6 (by kernel_rfl)
                exact wp_value (.int .i64 (j : Int)) (by unfold execOp; go_simp) ⟨rfl, Below.refl _ _⟩
              | 3, ho =>
                obtain rfl := Option.some.inj ho
                have e24 : a.tmps[24]?.getD undef = gval R C f := hf.1 ⟨0, .data⟩ (by simp) rfl _ 24 rfl rfl
                have e25 : a.tmps[25]?.getD undef = .int .i64 (k : Int) := hf.1 ⟨1, .data⟩ (by simp) rfl _ 25 rfl rfl
                have e26 : a.tmps[26]?.getD undef = .int .i64 (j : Int) := hf.1 ⟨2, .data⟩ (by simp) rfl _ 26 rfl rfl
                exact wp_enter 41 #[gval R C f, .int .i64 (k : Int), .int .i64 (j : Int)] (.int .i64 1) _ (by unfold execOp; go_simp) (HE.out w2) (fun w' h => ⟨rfl, h⟩)
              | 4, ho =>
                obtain rfl := Option.some.inj ho
                have b4 : a.tmps[4]?.getD undef = .pointer (some ⟨w1.heap.size + 1, 0, none⟩) := hf.2 4 (by kernel_rfl)
                exact wp_value (.pointer (some ⟨w1.heap.size + 1, 2, none⟩)) (by unfold execOp; go_simp) ⟨rfl, Below.refl _ _⟩
              | 5, ho =>
                obtain rfl := Option.some.inj ho
                have e28 : a.tmps[28]?.getD undef = .pointer (some ⟨w1.heap.size + 1, 2, none⟩) := hf.1 ⟨4, .data⟩ (by simp) rfl _ 28 rfl rfl
                have e27 : a.tmps[27]?.getD undef = .int .i64 1 := hf.1 ⟨3, .data⟩ (by simp) rfl _ 27 rfl rfl
                exact wp_value (.pointer (some ⟨w1.heap.size + 1, 3, none⟩)) (by unfold execOp; go_simp) ⟨rfl, Below.refl _ _⟩
              | 6, ho =>
                obtain rfl := Option.some.inj ho
                have e29 : a.tmps[29]?.getD undef = .pointer (some ⟨w1.heap.size + 1, 3, none⟩) := hf.1 ⟨5, .data⟩ (by simp) rfl _ 29 rfl rfl
                have hc : w2.cell? ⟨w1.heap.size + 1, 3, none⟩ = some (.int .u64 (old : Int)) := cell_of_row _ _ 3 _ _ _ HI2.brd
                exact wp_value (.int .u64 (old : Int)) (by unfold execOp; go_simp) ⟨rfl, Below.refl _ _⟩
              | 7, ho =>
                obtain rfl := Option.some.inj ho
                have b5 : a.tmps[5]?.getD undef = .int .i64 (k : Int) := hf.2 5 (by kernel_rfl)
                exact wp_value (.int .i64 (k : Int)) (by unfold execOp; go_simp) ⟨rfl, Below.refl _ _⟩
              | 8, ho =>
                obtain rfl := Option.some.inj ho
                have e31 : a.tmps[31]?.getD undef = .int .i64 (k : Int) := hf.1 ⟨7, .data⟩ (by simp) rfl _ 31 rfl rfl
                have hsh := HX.out
                exact wp_value (.int .i64 (X : Int)) (by unfold execOp; go_simp) ⟨rfl, Below.refl _ _⟩
              | 9, ho =>
                obtain rfl := Option.some.inj ho
                have b6 : a.tmps[6]?.getD undef = .int .i64 (j : Int) := hf.2 6 (by kernel_rfl)
                exact wp_value (.int .i64 (j : Int)) (by unfold execOp; go_simp) ⟨rfl, Below.refl _ _⟩
              | 10, ho =>
                obtain rfl := Option.some.inj ho
                have e33 : a.tmps[33]?.getD undef = .int .i64 (j : Int) := hf.1 ⟨9, .data⟩ (by simp) rfl _ 33 rfl rfl
                have hsh := HV.out
                exact wp_value (.int .i64 (V : Int)) (by unfold execOp; go_simp) ⟨rfl, Below.refl _ _⟩
              | 11, ho =>
                obtain rfl := Option.some.inj ho
                have e32 : a.tmps[32]?.getD undef = .int .i64 (X : Int) := hf.1 ⟨8, .data⟩ (by simp) rfl _ 32 rfl rfl
                have e34 : a.tmps[34]?.getD undef = .int .i64 (V : Int) := hf.1 ⟨10, .data⟩ (by simp) rfl _ 34 rfl rfl
                exact wp_value (rect X V) (by unfold execOp; go_simp) ⟨rfl, Below.refl _ _⟩
              | 12, ho =>
                obtain rfl := Option.some.inj ho
                have e35 : a.tmps[35]?.getD undef = rect X V := hf.1 ⟨11, .data⟩ (by simp) rfl _ 35 rfl rfl
                exact wp_enter 35 #[rect X V] (.int .u64 (p : Int)) _ (by unfold execOp; go_simp) (HP.out w2) (fun w' h => ⟨rfl, h⟩)
              | 13, ho =>
                obtain rfl := Option.some.inj ho
                have e30 : a.tmps[30]?.getD undef = .int .u64 (old : Int) := hf.1 ⟨6, .data⟩ (by simp) rfl _ 30 rfl rfl
                have e36 : a.tmps[36]?.getD undef = .int .u64 (p : Int) := hf.1 ⟨12, .data⟩ (by simp) rfl _ 36 rfl rfl
                exact wp_value (.int .u64 (n : Int)) (by unfold execOp; go_simp; exact HO.out) ⟨rfl, Below.refl _ _⟩
              | 14, ho =>
                obtain rfl := Option.some.inj ho
                have b4 : a.tmps[4]?.getD undef = .pointer (some ⟨w1.heap.size + 1, 0, none⟩) := hf.2 4 (by kernel_rfl)
                exact wp_value (.pointer (some ⟨w1.heap.size + 1, 2, none⟩)) (by unfold execOp; go_simp) ⟨rfl, Below.refl _ _⟩
              | 15, ho =>
                obtain rfl := Option.some.inj ho
                have e38 : a.tmps[38]?.getD undef = .pointer (some ⟨w1.heap.size + 1, 2, none⟩) := hf.1 ⟨14, .data⟩ (by simp) rfl _ 38 rfl rfl
                have e27 : a.tmps[27]?.getD undef = .int .i64 1 := hf.1 ⟨3, .data⟩ (by simp) rfl _ 27 rfl rfl
                exact wp_value (.pointer (some ⟨w1.heap.size + 1, 3, none⟩)) (by unfold execOp; go_simp) ⟨rfl, Below.refl _ _⟩
              | q + 16, ho => exact absurd hi (by omega)
            case st1 =>
              intro a w2 hb2 hf
              have HI2 := HI.out.later hb2
              have e39 : a.tmps[39]?.getD undef = .pointer (some ⟨w1.heap.size + 1, 3, none⟩) := hf.1 ⟨15, .data⟩ (by simp) rfl _ 39 rfl rfl
              have e37 : a.tmps[37]?.getD undef = .int .u64 (n : Int) := hf.1 ⟨13, .data⟩ (by simp) rfl _ 37 rfl rfl
              have hc : w2.cell? ⟨w1.heap.size + 1, 3, none⟩ = some (.int .u64 (old : Int)) := cell_of_row _ _ 3 _ _ _ HI2.brd
              have hfz : w2.frozen? ⟨w1.heap.size + 1, 3, none⟩ = false := frozen_of_row _ _ 3 _ _ HI2.brd
              exact wp_skip (by unfold execOp; go_simp) ⟨rfl, rfl⟩
            case en1 =>
              intro w2 hb2
              have HI3 := Lib.hid ((HI.out.later hb2).set1 n)
              clear hb2
              generalize w2.setCell ⟨w1.heap.size + 1, 3, none⟩ (.int .u64 (n : Int)) = w3 at *
              simp only [fill, Act.put]
              go_simp
              go_wp2_with fail
              go_roundw
              case rel => exact ⟨j + 1, by omega, by go_num, by rw [HZ.out, ← HN.out]; exact HI3.out⟩
              case measure => simp [intOf]; omega
        · obtain rfl : j = C := by omega
          have HI := Lib.hid hinv
          clear hinv
          go_wp2_with fail
          go_roundw
          case rel => exact ⟨k + 1, by omega, by go_num, by rw [← wB_row, ← wB_row]; exact HI.out⟩
          case measure => simp [intOf]; omega
    · obtain rfl : k = R := by omega
      rw [wB_end, wB_end] at hinv
      have q0 : wr.cell? ⟨w1.heap.size + 1, 0, none⟩ = some (.int .i64 (k : Int)) := cell_of_row _ _ 0 _ _ _ hinv.brd
      have q1 : wr.cell? ⟨w1.heap.size + 1, 1, none⟩ = some (.int .i64 (C : Int)) := cell_of_row _ _ 1 _ _ _ hinv.brd
      have q2 : wr.cell? ⟨w1.heap.size + 1, 2, none⟩ = some (.int .u64 (pat (onB (fun x y => !E x y) k C) 8 : Nat)) := cell_of_row _ _ 2 _ _ _ hinv.brd
      have q3 : wr.cell? ⟨w1.heap.size + 1, 3, none⟩ = some (.int .u64 (pat (onB E k C) 8 : Nat)) := cell_of_row _ _ 3 _ _ _ hinv.brd
      have HI := Lib.hid hinv
      have r0 : wr.cell? ⟨w.heap.size + 1, 0, none⟩ = some (.int .i64 0) := cell_of_row _ _ 0 _ _ _ hinv.res
      have r1 : wr.cell? ⟨w.heap.size + 1, 1, none⟩ = some (.int .i64 0) := cell_of_row _ _ 1 _ _ _ hinv.res
      have r2 : wr.cell? ⟨w.heap.size + 1, 2, none⟩ = some (.int .u64 0) := cell_of_row _ _ 2 _ _ _ hinv.res
      have r3 : wr.cell? ⟨w.heap.size + 1, 3, none⟩ = some (.int .u64 0) := cell_of_row _ _ 3 _ _ _ hinv.res
      have z0 : wr.frozen? ⟨w.heap.size + 1, 0, none⟩ = false := frozen_of_row _ _ 0 _ _ hinv.res
      have z1 : wr.frozen? ⟨w.heap.size + 1, 1, none⟩ = false := frozen_of_row _ _ 1 _ _ hinv.res
      have z2 : wr.frozen? ⟨w.heap.size + 1, 2, none⟩ = false := frozen_of_row _ _ 2 _ _ hinv.res
      have z3 : wr.frozen? ⟨w.heap.size + 1, 3, none⟩ = false := frozen_of_row _ _ 3 _ _ hinv.res
      clear hinv
      go_wp2_with fail
      refine bodyPost_ret (v := brd k C (pat (onB (fun x y => !E x y) k C) 8) (pat (onB E k C) 8)) (by simp [results, Tryz.results20, go_sem, r0, r1, r2, r3]) rfl ⟨rfl, ?_⟩
      exact (((HI.out.below.setCell (by simp) _).setCell (by simp) _).setCell (by simp) _).setCell (by simp) _
end Go.Proofs.YtemmagkkigdhjaaGreatDoor.Board

