/-
  Texts of one seat, joined: Each, Patch, MatP, MatC.
-/
import Derived.Test.YtbbgibbpeibhiaaGreatDoorJn1
import Derived.RangeFuncNested
import Derived.RangeFuncBound
import Derived.RangeFuncCalls
import Derived.RangeFuncLeaves
import Derived.Shelf.Abstract
import Derived.Shelf.RegionOpen
import Derived.WalkKit
import Derived.OwnWalkIn
import Derived.TacticsInMore
import Derived.LoopNIn
import Derived.LoopIn
import Derived.Test.YtbbgibbpeibhiaaGreatDoorJn3
import Derived.Deep.RegionHeld
import Derived.Test.YtbbgibbpeibhiaaGreatDoorJn9
import Derived.Test.YtbbgibbpeibhiaaGreatDoorJn10
import Derived.Test.YtbbgibbpeibhiaaGreatDoorJn5
/-
  The program's iterator over the members of a set: eachMember. Its contract: whatever loop's body.
-/
namespace Go.Proofs.YtbbgibbpeibhiaaGreatDoor.Each
open Go.RowKit Go.Shelf Go.Proofs.YtbbgibbpeibhiaaGreatDoor.Plain Go.Proofs.YtbbgibbpeibhiaaGreatDoor.Pat Go.Proofs.YtbbgibbpeibhiaaGreatDoor.Rect
set_option linter.unusedVariables false
attribute [local go_sem] Oper.semAt_some

/-- the members below k, in ascending order -/
def upto (S : Nat) : Nat → List (Fin 8)
  | 0 => []
  | k + 1 => upto S k ++ (if h : k < 8 then (if S.testBit k = true then [⟨k, h⟩] else []) else [])
theorem upto_yes (S k : Nat) (h : k < 8) (hb : S.testBit k = true) : upto S (k + 1) = upto S k ++ [⟨k, h⟩] := by
  rw [upto, dif_pos h, if_pos hb]
theorem upto_no (S k : Nat) (hb : S.testBit k = false) : upto S (k + 1) = upto S k := by
  rw [upto]
  split
  · rw [if_neg (by rw [hb]; decide), List.append_nil]
  · rw [List.append_nil]
theorem upto_len (S : Nat) : ∀ k, (upto S k).length ≤ k
  | 0 => Nat.le_refl _
  | k + 1 => by
    have := upto_len S k
    rw [upto, List.length_append]
    split
    · split <;> simp <;> omega
    · simp; omega

/-- the box of the set lies as it lay -/
def KeepC (Bn : Nat) (A B : World) : Prop := ∀ v, A.cell? ⟨Bn, 0, none⟩ = some v → B.cell? ⟨Bn, 0, none⟩ = some v
theorem keepC_t {Bn : Nat} {A B C : World} (h : KeepC Bn A B) (k : KeepC Bn B C) : KeepC Bn A C := fun v hv => k v (h v hv)
theorem keepC_b {Bn n : Nat} (W : World) (l : Nat) (o o' : Obj) (_ : n ≤ l) (h : W.heap[l]? = some o) (hc : o.isCells = false) (_ : o.isWalk = false) : KeepC Bn W (W.putObj l o') := fun v hv =>
  cell_kept hv (grownBy_putObj' W l o') (fun r e => by cases e; exact ⟨o, h, hc⟩)
theorem KeepC.of_below {Bn n : Nat} {A B : World} (hlt : Bn < n) (h : Below n A B) : KeepC Bn A B := fun v hv => (h.cell (p := ⟨Bn, 0, none⟩) hlt).trans hv
theorem KeepC.set {Bn : Nat} {A B : World} (h : KeepC Bn A B) (p : Addr) (v : Value) (hp : p.block ≠ Bn) : KeepC Bn A (B.setCell p v) := fun u hu => (World.cell?_setCell_far B p ⟨Bn, 0, none⟩ v hp).trans (h u hu)
theorem KeepC.refl (Bn : Nat) (A : World) : KeepC Bn A A := fun _ h => h

/-- a member as yield's argument -/
abbrev encF (x : Fin 8) : Array Value := #[.int .i64 (x.val : Int)]

set_option maxHeartbeats 1000000 in
theorem each_any (S : Int) (w : World) :
    Calls Tryz.prog 44 #[.int .i64 S] w fun e w' => e = .returned (.func (.func 54) #[] #[.pointer (some ⟨w.heap.size, 0, none⟩)]) ∧ w' = w.alloc (.cells #[.int .i64 S] 3) := by
  go_enter Tryz.func44, Tryz.ntmps44
  go_wp2_with fail
  go_ret
  exact ⟨rfl, rfl⟩

set_option maxRecDepth 100000 in
set_option maxHeartbeats 1000000 in
theorem mem_in (n : Nat) (hn : 1 ≤ n) (l Bn S : Nat) (hS : S < 256) (J Jx : List (Fin 8) → World → Prop)
    (hY : ∀ pre x W, J pre W → pre.length < 8 → YieldAt Fence.wide (n - 1) Tryz.prog l (encF x) W fun e W' =>
      (e = .returned (.bool true) ∧ J (pre ++ [x]) W' ∧ KeepC Bn W W') ∨ (e = .returned (.bool false) ∧ Jx (pre ++ [x]) W'))
    (W : World) (hBn : W.cell? ⟨Bn, 0, none⟩ = some (.int .i64 (S : Int))) (h0 : J [] W) :
    CallsIn Fence.wide n Tryz.prog 54 #[.func (.yield l) #[] #[], .pointer (some ⟨Bn, 0, none⟩)] W fun e W' => (∃ v, e = .returned v) ∧
      ((∃ ys, ys = upto S 8 ∧ J ys W') ∨ (∃ pre, True ∧ Jx pre W')) := by
  refine callsIn_of_wp Tryz.func54 rfl trivial ?_ rfl
  simp only [Tryz.ntmps54, List.size_toArray, List.length_cons, List.length_nil, Nat.reduceAdd, Nat.reduceSub, Array.replicate_succ, Array.replicate_zero, List.push_toArray, List.append_toArray, List.nil_append, List.cons_append]
  gi_wp2
  gi_loopw [4] (fun p wr => ∃ k : Nat, k ≤ 8 ∧ p = .int .i64 (k : Int) ∧ wr.cell? ⟨Bn, 0, none⟩ = some (.int .i64 (S : Int)) ∧ J (upto S k) wr) (fun p _ => 8 - (intOf p).toNat)
  case atStart => exact ⟨0, Nat.zero_le _, rfl, hBn, h0⟩
  case round =>
    obtain ⟨k, hk, rfl, hc, hJs⟩ := hrel
    by_cases hk8 : k < 8
    · obtain ⟨b, hb⟩ : ∃ b, S.testBit k = b := ⟨_, rfl⟩
      have HB := Lib.hid hb
      have HI := Lib.hid (inSet_yes S k hS hk8)
      cases b
      · rw [← upto_no S k hb] at hJs
        clear hb
        gi_wp2_with (refine ⟨trivial, ?_⟩; gi_at_call 55; refine (callsIn_wide.2 (HI.out _)).mono ?_; rintro e w' ⟨rfl, rfl⟩; rw [HB.out])
        refine ⟨fun _ h => (by cases h), ?_⟩
        gi_wp2
        go_roundw
        case rel => exact ⟨k + 1, by omega, by go_num, hc, hJs⟩
        case measure => simp [intOf]; omega
      · obtain ⟨fn, tmps, assign, body, hy, hR⟩ := hY (upto S k) ⟨k, hk8⟩ wr hJs (by have := upto_len S k; omega)
        have HU := Lib.hid (upto_yes S k hk8 hb)
        clear hb
        gi_wp2_with (refine ⟨trivial, ?_⟩; gi_at_call 55; refine (callsIn_wide.2 (HI.out _)).mono ?_; rintro e w' ⟨rfl, rfl⟩; rw [HB.out])
        refine hR.mono ?_
        rintro e W3 (⟨rfl, hJ3, hk3⟩ | ⟨rfl, hJx3⟩)
        · have hc3 : W3.cell? ⟨Bn, 0, none⟩ = some (.int .i64 (S : Int)) := hk3 _ hc
          gi_wp2
          go_roundw
          case rel => exact ⟨k + 1, by omega, by go_num, hc3, by rw [HU.out]; exact hJ3⟩
          case measure => simp [intOf]; omega
        · gi_wp2
          refine bodyPost_ret (results_none rfl _ _ _) rfl ?_
          exact ⟨⟨_, rfl⟩, .inr ⟨_, trivial, hJx3⟩⟩
    · obtain rfl : k = 8 := by omega
      gi_wp2
      go_end0
      exact ⟨⟨_, rfl⟩, .inl ⟨_, rfl, hJs⟩⟩

theorem mem_stops (n : Nat) (hn : 1 ≤ n) (Bn S : Nat) (hS : S < 256) (w : World) (hlt : Bn < w.heap.size) (hc : w.cell? ⟨Bn, 0, none⟩ = some (.int .i64 (S : Int))) :
    SeqStopsK Fence.wide n Tryz.prog 54 #[.pointer (some ⟨Bn, 0, none⟩)] encF (KeepC Bn) (fun ys => ys = upto S 8) (fun _ => True) 8 w := fun l J Jx W hW _ _ hY h0 =>
  mem_in n hn l Bn S hS J Jx hY W ((hW.cell (p := ⟨Bn, 0, none⟩) hlt).trans hc) h0
end Go.Proofs.YtbbgibbpeibhiaaGreatDoor.Each

/-
  The program's set of the entries of a rectangle: patchOf; and the number of its entries: size.
-/
namespace Go.Proofs.YtbbgibbpeibhiaaGreatDoor.Patch
open Go.RowKit Go.Shelf Go.Proofs.YtbbgibbpeibhiaaGreatDoor.Plain Go.Proofs.YtbbgibbpeibhiaaGreatDoor.Pat Go.Proofs.YtbbgibbpeibhiaaGreatDoor.Rect Go.Proofs.YtbbgibbpeibhiaaGreatDoor.Each Go.Proofs.YtbbgibbpeibhiaaGreatDoor.Free Go.Proofs.YtbbgibbpeibhiaaGreatDoor.FreeIn
set_option linter.unusedVariables false
attribute [local go_sem] Oper.semAt_some

/-- the bytes of a rectangle -/
def rectB (R C : Nat) : Nat → Nat := fun j => if R.testBit j then C else 0
theorem rectB_lt (R C : Nat) (hC : C < 256) (x : Nat) : rectB R C x < 256 := by
  unfold rectB
  split <;> omega
/-- the bytes when so many rows have come -/
def partB (pre : List (Fin 8)) (C : Nat) : Nat → Nat := fun j => if pre.any (fun x => x.val == j) then C else 0
theorem partB_lt (pre : List (Fin 8)) (C : Nat) (hC : C < 256) (x : Nat) : partB pre C x < 256 := by
  unfold partB
  split <;> omega
theorem partB_nil (C : Nat) : pat (partB [] C) 8 = 0 := (pat_zero 8 _).2 fun x _ => by simp [partB]
theorem partB_next (pre : List (Fin 8)) (x : Fin 8) (C : Nat) (hC : C < 256) : pat (partB pre C) 8 ||| C * 2 ^ (x.val * 8) = pat (partB (pre ++ [x]) C) 8 := by
  rw [← pat_one x.val C x.isLt, pat_or 8 _ _ (partB_lt pre C hC) (fun j => by show (if j = x.val then C else 0) < 256; split <;> omega)]
  apply pat_congr
  intro j hj
  unfold partB
  rw [List.any_append]
  by_cases h : (pre.any fun x => x.val == j) = true
  · rw [h, if_pos rfl, Bool.true_or, if_pos rfl]
    split <;> simp
  · rw [Bool.not_eq_true] at h
    rw [h, Bool.false_or]
    by_cases e : j = x.val
    · subst e; simp
    · have : ¬ (x.val = j) := fun h => e h.symm
      simp [e, this]
theorem shl_fits (x : Fin 8) (C : Nat) (hC : C < 256) : C * 2 ^ (x.val * 8) < 18446744073709551616 := by
  have h : 2 ^ (x.val * 8) ≤ 2 ^ (7 * 8) := Nat.pow_le_pow_right (by decide) (by omega)
  have h2 : C * 2 ^ (x.val * 8) ≤ 255 * 2 ^ (7 * 8) := Nat.mul_le_mul (by omega) h
  omega
theorem any_upto (S j : Nat) : ∀ k, k ≤ 8 → ((upto S k).any fun x => x.val == j) = (decide (j < k) && S.testBit j)
  | 0, _ => by simp [upto]
  | k + 1, h => by
    obtain ⟨b, hb⟩ : ∃ b, S.testBit k = b := ⟨_, rfl⟩
    cases b
    · rw [upto_no S k hb, any_upto S j k (by omega)]
      by_cases e : j = k
      · subst e; simp [hb]
      · congr 1
        rw [decide_eq_decide]
        omega
    · rw [upto_yes S k (by omega) hb, List.any_append, any_upto S j k (by omega)]
      by_cases e : j = k
      · subst e; simp [hb]
      · have : (k == j) = false := beq_eq_false_iff_ne.2 fun h => e h.symm
        rw [List.any_cons, List.any_nil]
        dsimp only
        rw [this, Bool.false_or, Bool.or_false]
        congr 1
        rw [decide_eq_decide]
        omega
theorem partB_all (R C : Nat) : pat (partB (upto R 8) C) 8 = pat (rectB R C) 8 := by
  apply pat_congr
  intro j hj
  unfold partB rectB
  rw [any_upto R j 8 (Nat.le_refl _), decide_eq_true hj, Bool.true_and]

theorem cell_of_box {W : World} {B : Nat} {v : Value} {t : TypeId} (h : W.heap[B]? = some (.cells #[v] t (0, 0))) : W.cell? ⟨B, 0, none⟩ = some v ∧ W.frozen? ⟨B, 0, none⟩ = false := by
  constructor <;> simp [World.cell?, World.frozen?, h]
theorem cell_alloc {W : World} {a : Addr} {v : Value} (o : Obj) (h : W.cell? a = some v) : (W.alloc o).cell? a = some v := cell_kept h (World.grownBy_alloc W o none) (fun r e => by cases e)
theorem frozen_alloc {W : World} {a : Addr} {v : Value} (o : Obj) (h : W.cell? a = some v) (hf : W.frozen? a = false) : (W.alloc o).frozen? a = false := (frozen_kept h (World.grownBy_alloc W o none) (fun r e => by cases e)).trans hf

set_option maxRecDepth 100000 in
set_option maxHeartbeats 4000000 in
theorem patch_in (n : Nat) (hn : 3 ≤ n) (R C : Nat) (hR : R < 256) (hC : C < 256) (w : World) :
    CallsIn Fence.wide n Tryz.prog 27 #[rect R C] w fun e W' => e = .returned (.int .u64 (pat (rectB R C) 8 : Nat)) ∧ Below w.heap.size w W' := by
  have h1 : 1 ≤ n := by omega
  refine callsIn_of_wp_marks Tryz.func27 rfl trivial ?_ rfl
  simp only [Tryz.ntmps27, List.size_toArray, List.length_cons, List.length_nil, Nat.reduceAdd, Nat.reduceSub, Array.replicate_succ, Array.replicate_zero, List.push_toArray, List.append_toArray, List.nil_append, List.cons_append]
  gi_wp2_with (refine ⟨trivial, ?_⟩; gi_at_call 44; refine (callsIn_wide.2 (each_any _ _)).mono ?_; rintro e w' ⟨rfl, rfl⟩)
  obtain ⟨W0, hW0⟩ : ∃ W0, ((w.alloc (.cells #[.int .i64 (R : Int), .int .i64 (C : Int)] 45)).alloc (.cells #[.int .u64 0] 57)).alloc (.cells #[.int .i64 (R : Int)] 3) = W0 := ⟨_, rfl⟩
  rw [hW0]
  have hsz : W0.heap.size = w.heap.size + 3 := by rw [← hW0]; simp
  have e0 : W0.heap[w.heap.size]? = some (.cells #[.int .i64 (R : Int), .int .i64 (C : Int)] 45 (0, 0)) := by
    rw [← hW0]; exact (Below.heap_alloc _ _ _ (by simp; omega)).trans ((Below.heap_alloc _ _ _ (by simp)).trans (heap_alloc_new w _))
  have e1 : W0.heap[w.heap.size + 1]? = some (.cells #[.int .u64 0] 57 (0, 0)) := by
    rw [← hW0]; exact (Below.heap_alloc _ _ _ (by simp)).trans (by have := heap_alloc_new (w.alloc (.cells #[.int .i64 (R : Int), .int .i64 (C : Int)] 45)) (.cells #[.int .u64 0] 57); rwa [World.size_alloc] at this)
  have e2 : W0.heap[w.heap.size + 1 + 1]? = some (.cells #[.int .i64 (R : Int)] 3 (0, 0)) := by
    rw [← hW0]; have := heap_alloc_new ((w.alloc (.cells #[.int .i64 (R : Int), .int .i64 (C : Int)] 45)).alloc (.cells #[.int .u64 0] 57)) (.cells #[.int .i64 (R : Int)] 3); rwa [World.size_alloc, World.size_alloc] at this
  have hB0 : Below w.heap.size w W0 := by rw [← hW0]; exact (((Below.refl _ w).alloc (Nat.le_refl _) _).alloc (by simp) _).alloc (by simp; omega) _
  clear hW0
  refine wpIn_rangeFunc_ownF rfl h1 (gf := 54) (lb := #[.pointer (some ⟨w.heap.size + 1 + 1, 0, none⟩)]) rfl trivial (enters_of Tryz.func54 (by kernel_rfl) rfl)
    (mem_stops (n - 1) (by omega) (w.heap.size + 1 + 1) R hR W0 (by omega) (cell_of_box e2).1) keepC_t keepC_b (Below.refl _ _) (fun _ => rfl)
    (fun pre W => ((W.cell? ⟨w.heap.size + 1, 0, none⟩ = some (.int .u64 (pat (partB pre C) 8 : Nat)) ∧ W.frozen? ⟨w.heap.size + 1, 0, none⟩ = false) ∧ W.cell? ⟨w.heap.size, 1, none⟩ = some (.int .i64 (C : Int))) ∧ Below w.heap.size w W)
    (fun _ _ _ => False)
    (OwnFrom.and (Own.from (fun s A B row hs hg hr => ⟨⟨cell_kept hs.1.1 hg hr, (frozen_kept hs.1.1 hg hr).trans hs.1.2⟩, cell_kept hs.2 hg hr⟩) _) (ownFrom_below (Nat.le_refl _) (by omega)))
    (fun _ _ _ _ _ hs _ _ => hs)
    ⟨⟨⟨by rw [partB_nil]; exact (cell_of_box e1).1, (cell_of_box e1).2⟩, cell_of_row _ _ 1 _ _ _ e0⟩, hB0⟩
    (fun x => { tmps := #[rect (R : Int) (C : Int), .pointer (some ⟨w.heap.size, 0, none⟩), .int .u64 0, .pointer (some ⟨w.heap.size + 1, 0, none⟩), .int .i64 (x.val : Int), .pointer (some ⟨w.heap.size, 0, none⟩), .int .i64 (R : Int), .func (.func 54) #[] #[.pointer (some ⟨w.heap.size + 1 + 1, 0, none⟩)], .int .i64 (x.val : Int), undef, undef, undef, undef, undef, undef, undef, undef, undef], defers := [] }) ?assign ?body ?done ?stop
  case assign =>
    intro l x W K hK
    gi_wp2
    exact hK
  case body =>
    rintro l pre x W ⟨⟨⟨hc, hf0⟩, hC1⟩, hB⟩ _
    have hx8 := x.isLt
    have HN := Lib.hid (partB_next pre x C hC)
    have hlt := pat64 (partB pre C) (partB_lt pre C hC)
    have hsh := shl_fits x C hC
    have HO := Lib.hid (u64_or_nat (pat (partB pre C) 8) (C * 2 ^ (x.val * 8)) hlt hsh)
    have HT : Hid ((C : Int) * 2 ^ (x.val * 8) = ((C * 2 ^ (x.val * 8) : Nat) : Int)) := by unfold Hid; simp
    generalize pat (partB pre C) 8 = p at *
    gi_wp2
    have hcd : ({ W with drawn := W.drawn + 1 } : World).cell? ⟨w.heap.size + 1, 0, none⟩ = some (.int .u64 (p : Int)) := hc
    have hfd : ({ W with drawn := W.drawn + 1 } : World).frozen? ⟨w.heap.size + 1, 0, none⟩ = false := hf0
    have hC1d : ({ W with drawn := W.drawn + 1 } : World).cell? ⟨w.heap.size, 1, none⟩ = some (.int .i64 (C : Int)) := hC1
    refine wpIn_region_last (fun | 0 => .int .u64 (p : Int) | 1 => .pointer (some ⟨w.heap.size, 1, none⟩) | 2 => .int .i64 (C : Int) | 3 => .int .u64 (C : Int) | 4 => .int .i64 (x.val : Int) | 5 => .int .i64 ((x.val * 8 : Nat) : Int) | 6 => .int .u64 ((C * 2 ^ (x.val * 8) : Nat) : Int) | 7 => .int .u64 ((p ||| C * 2 ^ (x.val * 8) : Nat) : Int) | _ => undef) 8 (({ W with drawn := W.drawn + 1 } : World).setCell ⟨w.heap.size + 1, 0, none⟩ (.int .u64 ((p ||| C * 2 ^ (x.val * 8) : Nat) : Int))) _ (by kernel_rfl) (by kernel_rfl) rfl rfl rfl rfl (by kernel_rfl) ?con ?st ?en
    case con =>
      intro i o ho hi a hf
      match i, ho with
      | 0, ho =>
        obtain rfl := Option.some.inj ho
        have b3 : a.tmps[3]?.getD undef = .pointer (some ⟨w.heap.size + 1, 0, none⟩) := hf.2 3 (by kernel_rfl)
        exact wpIn_value (.int .u64 (p : Int)) rfl (by go_simp) ⟨rfl, rfl⟩
      | 1, ho =>
        obtain rfl := Option.some.inj ho
        have b1 : a.tmps[1]?.getD undef = .pointer (some ⟨w.heap.size, 0, none⟩) := hf.2 1 (by kernel_rfl)
        exact wpIn_value (.pointer (some ⟨w.heap.size, 1, none⟩)) rfl (by go_simp) ⟨rfl, rfl⟩
      | 2, ho =>
        obtain rfl := Option.some.inj ho
        have e10 : a.tmps[10]?.getD undef = .pointer (some ⟨w.heap.size, 1, none⟩) := hf.1 ⟨1, .data⟩ (by simp) rfl _ 10 rfl rfl
        exact wpIn_value (.int .i64 (C : Int)) rfl (by go_simp) ⟨rfl, rfl⟩
      | 3, ho =>
        obtain rfl := Option.some.inj ho
        have e11 : a.tmps[11]?.getD undef = .int .i64 (C : Int) := hf.1 ⟨2, .data⟩ (by simp) rfl _ 11 rfl rfl
        exact wpIn_value (.int .u64 (C : Int)) rfl (by go_simp; rw [IntKind.wrap_u64]; omega) ⟨rfl, rfl⟩
      | 4, ho =>
        obtain rfl := Option.some.inj ho
        have b4 : a.tmps[4]?.getD undef = .int .i64 (x.val : Int) := hf.2 4 (by kernel_rfl)
        exact wpIn_value (.int .i64 (x.val : Int)) rfl (by go_simp) ⟨rfl, rfl⟩
      | 5, ho =>
        obtain rfl := Option.some.inj ho
        have e13 : a.tmps[13]?.getD undef = .int .i64 (x.val : Int) := hf.1 ⟨4, .data⟩ (by simp) rfl _ 13 rfl rfl
        exact wpIn_value (.int .i64 ((x.val * 8 : Nat) : Int)) rfl (by go_simp; rw [IntKind.wrap_i64]; omega) ⟨rfl, rfl⟩
      | 6, ho =>
        obtain rfl := Option.some.inj ho
        have e12 : a.tmps[12]?.getD undef = .int .u64 (C : Int) := hf.1 ⟨3, .data⟩ (by simp) rfl _ 12 rfl rfl
        have e14 : a.tmps[14]?.getD undef = .int .i64 ((x.val * 8 : Nat) : Int) := hf.1 ⟨5, .data⟩ (by simp) rfl _ 14 rfl rfl
        have hto : ((x.val : Int) * 8).toNat = x.val * 8 := by omega
        exact wpIn_value (.int .u64 ((C * 2 ^ (x.val * 8) : Nat) : Int)) rfl (by go_simp; rw [HT.out, IntKind.wrap_u64]; omega) ⟨rfl, rfl⟩
      | 7, ho =>
        obtain rfl := Option.some.inj ho
        have e9 : a.tmps[9]?.getD undef = .int .u64 (p : Int) := hf.1 ⟨0, .data⟩ (by simp) rfl _ 9 rfl rfl
        have e15 : a.tmps[15]?.getD undef = .int .u64 ((C * 2 ^ (x.val * 8) : Nat) : Int) := hf.1 ⟨6, .data⟩ (by simp) rfl _ 15 rfl rfl
        exact wpIn_value (.int .u64 ((p ||| C * 2 ^ (x.val * 8) : Nat) : Int)) rfl (by go_simp; rw [HT.out]; exact HO.out) ⟨rfl, rfl⟩
      | n + 8, ho => exact absurd hi (by omega)
    case st =>
      intro a hf
      have e16 : a.tmps[16]?.getD undef = .int .u64 ((p ||| C * 2 ^ (x.val * 8) : Nat) : Int) := hf.1 ⟨7, .data⟩ (by simp) rfl _ 16 rfl rfl
      have b3 : a.tmps[3]?.getD undef = .pointer (some ⟨w.heap.size + 1, 0, none⟩) := hf.2 3 (by kernel_rfl)
      exact wpIn_store rfl (by go_simp) ⟨rfl, rfl⟩
    case en =>
      simp only [fill, Act.put]
      go_simp
      exact ⟨(KeepsOthers.setCell W _ _).trans (KeepsOthers.drew _), KeepC.set (B := W) (KeepC.refl _ W) ⟨w.heap.size + 1, 0, none⟩ _ (by show w.heap.size + 1 ≠ w.heap.size + 1 + 1; omega),
        ⟨⟨by rw [← HN.out]; exact World.cell?_setCell_same' W _ _ (by rw [hc]; rfl), (World.frozen?_setCell W _ _ _).trans hf0⟩, (World.cell?_setCell_far W _ _ _ (by simp)).trans hC1⟩, (hB.setCell (p := ⟨w.heap.size + 1, 0, none⟩) (by show w.heap.size ≤ w.heap.size + 1; omega) _).drew⟩
  case done =>
    rintro D ys W hD rfl ⟨⟨⟨hc, _⟩, _⟩, hB⟩ hK
    gi_wp2
    refine ⟨by simp, .inl ⟨_, _, rfl, run_takeDeferred hK, ?_⟩⟩
    exact ⟨_, results_tmp rfl _ _ _, (by rw [← partB_all]; rfl), hB.trans (belowK_b (w := w) (Nat.le_refl _) W D _ _ (by omega) hK rfl rfl)⟩
  case stop =>
    rintro D c pre W _ _ h _
    exact h.elim
/-- the program's set of the entries of a rectangle -/
theorem patch_any (R C : Nat) (hR : R < 256) (hC : C < 256) (w : World) :
    Calls Tryz.prog 27 #[rect R C] w fun e W' => e = .returned (.int .u64 (pat (rectB R C) 8 : Nat)) ∧ Below w.heap.size w W' :=
  callsIn_wide.1 (patch_in 3 (by omega) R C hR hC w)

theorem and127 (y : Nat) (h : y < 9223372036854775808) : Go.bits .and .i64 (y : Int) 127 = ((y % 128 : Nat) : Int) := by
  have hp : (2 : Int) ^ 63 = 9223372036854775808 := by decide
  have hq : (2 : Nat) ^ 63 = 9223372036854775808 := by decide
  have hk : ∀ n : Int, 0 ≤ n → n < 2 ^ 63 → IntKind.i64.wrap n = n := fun n h0 h1 => by
    rw [hp] at h1
    rw [IntKind.wrap_i64]
    omega
  have h2 := (bits_nat .i64 63 (by decide) hk y 127 (by rw [hq]; exact h) (by rw [hq]; decide)).1
  rw [nat_mask7] at h2
  exact h2
theorem wrap_fits (n : Nat) (h : n < 18446744073709551616) : IntKind.u64.wrap (n : Int) = (n : Int) := by
  rw [IntKind.wrap_u64]
  omega
/-- a rectangle has as many entries as rows times columns -/
theorem area_pop (R C : Nat) (hR : R < 256) : sumN (fun x => pop8 (rectB R C x)) 8 = pop8 R * pop8 C := by
  have h : ∀ k, sumN (fun x => pop8 (rectB R C x)) k = sumN (fun i => (R.testBit i).toNat) k * pop8 C := fun k => by
    induction k with
    | zero => simp [sumN]
    | succ k ih =>
      rw [sumN, sumN, ih, Nat.add_mul]
      congr 1
      unfold rectB
      cases R.testBit k <;> simp [pop8]
  rw [h 8, ← pop8_bits R hR]
end Go.Proofs.YtbbgibbpeibhiaaGreatDoor.Patch

/-
  Sets of entries as numbers, and what the ends of a value cover.
-/
namespace Go.Proofs.YtbbgibbpeibhiaaGreatDoor.MatP
open Go.RowKit Go.Proofs.YtbbgibbpeibhiaaGreatDoor.Plain Go.Proofs.YtbbgibbpeibhiaaGreatDoor.Pat Go.Proofs.YtbbgibbpeibhiaaGreatDoor.Patch Go.Proofs.YtbbgibbpeibhiaaGreatDoor.Rect Go.Proofs.YtbbgibbpeibhiaaGreatDoor.Tree Go.Proofs.YtbbgibbpeibhiaaGreatDoor.TrimT Go.Proofs.YtbbgibbpeibhiaaGreatDoor.Leaf Go.Proofs.YtbbgibbpeibhiaaGreatDoor.Talk Go.Proofs.YtbbgibbpeibhiaaGreatDoor.MatT
set_option linter.unusedVariables false

set_option maxHeartbeats 1000000 in
theorem part_any (p q : Nat) (hp : p < 18446744073709551616) (hq : q < 18446744073709551616) (w : World) :
    Calls Tryz.prog 31 #[.int .u64 (p : Int), .int .u64 (q : Int)] w fun e w' => e = .returned (.bool (decide (p &&& (18446744073709551615 - q) = 0))) ∧ w = w' := by
  have HO := u64_andNot_nat p q hp hq
  generalize p &&& (18446744073709551615 - q) = n at *
  obtain ⟨b, hb⟩ : ∃ b, ((n : Int) == 0) = b := ⟨_, rfl⟩
  have HB : Hid (b = decide (n = 0)) := by
    unfold Hid
    rw [← hb, Bool.eq_iff_iff, beq_iff_eq, decide_eq_true_iff]
    omega
  go_enter Tryz.func31, Tryz.ntmps31
  go_wp2_with fail
  go_ret
  exact ⟨by rw [← HB.out]; rfl, rfl⟩

theorem sub_byte (a b : Nat) (ha : a < 256) (hb : b < 256) : a &&& (255 - b) = 0 ↔ ∀ y, a.testBit y = true → b.testBit y = true := by
  have h255 : ∀ y, (255 - b).testBit y = (decide (y < 8) && !b.testBit y) := fun y => by
    have := Nat.testBit_two_pow_sub_succ (x := b) (n := 8) hb y
    rwa [show 2 ^ 8 - (b + 1) = 255 - b by omega] at this
  constructor
  · intro h y hy
    have h2 : (a &&& (255 - b)).testBit y = false := by rw [h]; simp
    rw [Nat.testBit_and, hy, Bool.true_and, h255] at h2
    have h8 : y < 8 := by
      rcases Nat.lt_or_ge y 8 with h8 | h8
      · exact h8
      · rw [bit_high a y ha h8] at hy; cases hy
    simpa [h8] using h2
  · intro h
    apply Nat.eq_of_testBit_eq
    intro y
    rw [Nat.testBit_and, h255, Nat.zero_testBit]
    cases hy : a.testBit y with
    | false => rfl
    | true => simp [h y hy]
theorem part_pat (f g : Nat → Nat) (hf : ∀ x, f x < 256) (hg : ∀ x, g x < 256) : pat f 8 &&& (18446744073709551615 - pat g 8) = 0 ↔ ∀ x, x < 8 → ∀ y, (f x).testBit y = true → (g x).testBit y = true := by
  have hn := pat_not 8 g hg
  rw [show 18446744073709551615 - pat g 8 = 256 ^ 8 - 1 - pat g 8 from rfl, hn, pat_and 8 f _ hf (fun x => by have := hg x; omega), pat_zero]
  constructor
  · intro h x hx
    exact (sub_byte _ _ (hf x) (hg x)).1 (h x hx)
  · intro h x hx
    exact (sub_byte _ _ (hf x) (hg x)).2 (h x hx)
theorem below_same {P : Program} {f : FuncId} {args : Array Value} {v : Value} (h : ∀ w, Calls P f args w fun e w' => e = .returned v ∧ w = w') (w : World) : Calls P f args w fun e w' => e = .returned v ∧ Below w.heap.size w w' :=
  (h w).mono fun e w' ⟨he, hw⟩ => ⟨he, by subst hw; exact Below.refl _ _⟩

/-- the entries that the ends of a value cover, a byte a row -/
def fB (v : Bool) (l : List (Nat × Nat × Bool)) : Nat → Nat := fun j => l.foldr (fun p n => (if p.2.2 == v then rectB p.1 p.2.1 j else 0) ||| n) 0
theorem fB_nil (v : Bool) : fB v [] = fun _ => 0 := rfl
theorem fB_next (v : Bool) (l : List (Nat × Nat × Bool)) (p : Nat × Nat × Bool) (j : Nat) : fB v (l ++ [p]) j = fB v l j ||| (if p.2.2 == v then rectB p.1 p.2.1 j else 0) := by
  induction l with
  | nil => simp [fB]
  | cons q l ih =>
    simp only [fB] at ih ⊢
    simp only [List.cons_append, List.foldr_cons, ih, Nat.or_assoc]
theorem fB_bit (v : Bool) (x y : Nat) (l : List (Nat × Nat × Bool)) : (fB v l x).testBit y = covered v l x y := by
  induction l with
  | nil => simp [fB, covered]
  | cons p l ih =>
    simp only [fB, covered] at ih ⊢
    simp only [List.foldr_cons, List.any_cons, Nat.testBit_or, ih]
    congr 1
    cases h : p.2.2 == v
    · simp
    · simp only [if_true, Bool.true_and, rectB]
      cases hx : p.1.testBit x <;> simp
theorem fB_lt (v : Bool) (x : Nat) (l : List (Nat × Nat × Bool)) (h : ∀ p ∈ l, p.2.1 < 256) : fB v l x < 256 := by
  induction l with
  | nil => simp [fB]
  | cons p l ih =>
    have h1 := ih fun q hq => h q (List.mem_cons_of_mem _ hq)
    have h2 := h p (List.mem_cons_self ..)
    simp only [fB] at h1 ⊢
    simp only [List.foldr_cons]
    refine Nat.or_lt_two_pow (n := 8) ?_ h1
    split
    · exact rectB_lt _ _ h2 _
    · decide
theorem leaves_lt : ∀ (t : T) (R C : Nat), R < 256 → C < 256 → ∀ p ∈ leavesT t R C, p.1 < 256 ∧ p.2.1 < 256
  | .leaf b, R, C, hR, hC, p, hp => by
    simp only [leavesT] at hp
    split at hp
    · simp at hp
    · simp only [List.mem_singleton] at hp
      subst hp
      exact ⟨hR, hC⟩
  | .say a s z o, R, C, hR, hC, p, hp => by
    obtain ⟨h1, h2, h3, h4⟩ := parts_lt a s hR hC
    simp only [leavesT, List.mem_append] at hp
    rcases hp with hp | hp
    · exact leaves_lt z _ _ h1 h2 p hp
    · exact leaves_lt o _ _ h3 h4 p hp
theorem pow_lt8 {x : Nat} (hx : x < 8) : 2 ^ x < 256 := Nat.pow_lt_pow_right (by decide) hx
/-- an entry is in a set of entries -/
theorem part_bit (F : Nat → Nat) (hF : ∀ j, F j < 256) (x y : Nat) (hx : x < 8) (hy : y < 8) :
    decide (pat (rectB (2 ^ x) (2 ^ y)) 8 &&& (18446744073709551615 - pat F 8) = 0) = (F x).testBit y := by
  rw [Bool.eq_iff_iff, decide_eq_true_iff, part_pat _ F (fun j => rectB_lt _ _ (pow_lt8 hy) j) hF]
  constructor
  · intro h
    exact h x hx y (by simp [rectB, Nat.testBit_two_pow_self])
  · intro h j hj i hi
    simp only [rectB] at hi
    split at hi
    · rename_i hb
      rw [Nat.testBit_two_pow] at hb hi
      have e1 : x = j := by simpa using hb
      have e2 : y = i := by simpa using hi
      subst e1 e2
      exact h
    · simp at hi
/-- the number of the found entries grows by an end -/
theorem pat_next (v : Bool) (l : List (Nat × Nat × Bool)) (p : Nat × Nat × Bool) (h : ∀ q ∈ l, q.2.1 < 256) (hp : p.2.1 < 256) :
    pat (fB v (l ++ [p])) 8 = if p.2.2 == v then pat (fB v l) 8 ||| pat (rectB p.1 p.2.1) 8 else pat (fB v l) 8 := by
  rw [pat_congr 8 _ _ fun j _ => fB_next v l p j]
  cases hv : p.2.2 == v
  · simp
  · simp only [if_true]
    exact (pat_or 8 _ _ (fun j => fB_lt v j l h) (fun j => rectB_lt _ _ hp j)).symm
theorem shl_small {x : Nat} (hx : x < 8) : wrap64 ((2 : Int) ^ x) = ((2 ^ x : Nat) : Int) := by
  have e : x = 0 ∨ x = 1 ∨ x = 2 ∨ x = 3 ∨ x = 4 ∨ x = 5 ∨ x = 6 ∨ x = 7 := by omega
  rcases e with rfl | rfl | rfl | rfl | rfl | rfl | rfl | rfl <;> simp [wrap64]
end Go.Proofs.YtbbgibbpeibhiaaGreatDoor.MatP

/-
  The function value of the program's MatrixOf tells whether an entry is among the found ones.
-/
namespace Go.Proofs.YtbbgibbpeibhiaaGreatDoor.MatC
open Go.RowKit Go.Proofs.YtbbgibbpeibhiaaGreatDoor.Plain Go.Proofs.YtbbgibbpeibhiaaGreatDoor.Base Go.Proofs.YtbbgibbpeibhiaaGreatDoor.Pat Go.Proofs.YtbbgibbpeibhiaaGreatDoor.Patch Go.Proofs.YtbbgibbpeibhiaaGreatDoor.Rect Go.Proofs.YtbbgibbpeibhiaaGreatDoor.From Go.Proofs.YtbbgibbpeibhiaaGreatDoor.MatP
open Go.Proofs.YtbbgibbpeibhiaaGreatDoor.FreeL
open Go.Proofs.YtbbgibbpeibhiaaGreatDoor.Free (fill wp_value wp_enter wp_load_row freeB)
set_option linter.unusedVariables false
set_option linter.unusedSimpArgs false

set_option maxHeartbeats 2000000 in
set_option maxRecDepth 100000 in
theorem tell_any (F : Nat → Nat) (hF : ∀ j, F j < 256) (x y : Nat) (hx : x < 8) (hy : y < 8) (z : Int) (B : Nat) (w : World) (hB : w.heap[B]? = some (.cells #[.int .u64 z, .int .u64 (pat F 8 : Nat)] 58 (0, 0))) :
    Calls Tryz.prog 29 #[.int .i64 (x : Int), .int .i64 (y : Int), .pointer (some ⟨B, 0, none⟩)] w fun e w' => e = .returned (.int .i64 (bitI ((F x).testBit y))) ∧ Below w.heap.size w w' := by
  have HX := Lib.hid (shl_small hx)
  have HY := Lib.hid (shl_small hy)
  have HP := Lib.hid (patch_any (2 ^ x) (2 ^ y) (pow_lt8 hx) (pow_lt8 hy))
  have HQ := Lib.hid (part_any (pat (rectB (2 ^ x) (2 ^ y)) 8) (pat F 8) (pat64 _ (rectB_lt _ _ (pow_lt8 hy))) (pat64 _ hF))
  have HM : Hid (∀ wx : World, Below w.heap.size w wx → wx.cell? ⟨B, 1, none⟩ = some (.int .u64 (pat F 8 : Nat))) := fun wx h => cell_of_row _ _ _ _ _ _ ((h.block _ (Array.getElem?_eq_some_iff.1 hB).1).trans hB)
  rw [part_bit F hF x y hx hy] at HQ
  generalize (F x).testBit y = t at *
  generalize pat (rectB (2 ^ x) (2 ^ y)) 8 = p at *
  generalize pat F 8 = q at *
  generalize 2 ^ x = X at *
  generalize 2 ^ y = Y at *
  clear hB hF
  go_enter Tryz.func29, Tryz.ntmps29
  go_wp2_with fail
  refine wp_region_below (fun | 0 => .int .i64 (x : Int) | 1 => .int .i64 (X : Int) | 2 => .int .i64 (y : Int) | 3 => .int .i64 (Y : Int) | 4 => rect (X : Int) (Y : Int) | 5 => .int .u64 (p : Int) | 6 => .pointer (some ⟨B, 1, none⟩) | 7 => .int .u64 (q : Int) | 8 => .bool t | 9 => .int .i64 (bitI t) | 10 => .int .i64 (bitI t) | _ => undef) (by kernel_rfl) (by kernel_rfl) rfl ?con ?en
  case con =>
    intro i o ho a w2 hb2 hf
    match i, ho with
    | 0, ho =>
      obtain rfl := Option.some.inj ho
      have b0 : a.tmps[0]?.getD undef = .int .i64 (x : Int) := hf.2 0 (by kernel_rfl)
      exact wp_value (.int .i64 (x : Int)) (by unfold execOp; go_simp) ⟨rfl, Below.refl _ _⟩
    | 1, ho =>
      obtain rfl := Option.some.inj ho
      have e6 : a.tmps[6]?.getD undef = .int .i64 (x : Int) := hf.1 ⟨0, .data⟩ (by simp) rfl _ 6 rfl rfl
      have p1 := HX.out
      exact wp_value (.int .i64 (X : Int)) (by unfold execOp; go_simp; first | exact p1 | (simp only [IntKind.wrap_i64, wrap64] at p1 ⊢; exact p1)) ⟨rfl, Below.refl _ _⟩
    | 2, ho =>
      obtain rfl := Option.some.inj ho
      have b1 : a.tmps[1]?.getD undef = .int .i64 (y : Int) := hf.2 1 (by kernel_rfl)
      exact wp_value (.int .i64 (y : Int)) (by unfold execOp; go_simp) ⟨rfl, Below.refl _ _⟩
    | 3, ho =>
      obtain rfl := Option.some.inj ho
      have e8 : a.tmps[8]?.getD undef = .int .i64 (y : Int) := hf.1 ⟨2, .data⟩ (by simp) rfl _ 8 rfl rfl
      have p1 := HY.out
      exact wp_value (.int .i64 (Y : Int)) (by unfold execOp; go_simp; first | exact p1 | (simp only [IntKind.wrap_i64, wrap64] at p1 ⊢; exact p1)) ⟨rfl, Below.refl _ _⟩
    | 4, ho =>
      obtain rfl := Option.some.inj ho
      have e7 : a.tmps[7]?.getD undef = .int .i64 (X : Int) := hf.1 ⟨1, .data⟩ (by simp) rfl _ 7 rfl rfl
      have e9 : a.tmps[9]?.getD undef = .int .i64 (Y : Int) := hf.1 ⟨3, .data⟩ (by simp) rfl _ 9 rfl rfl
      exact wp_value (rect (X : Int) (Y : Int)) (by unfold execOp; go_simp) ⟨rfl, Below.refl _ _⟩
    | 5, ho =>
      obtain rfl := Option.some.inj ho
      have e10 : a.tmps[10]?.getD undef = rect (X : Int) (Y : Int) := hf.1 ⟨4, .data⟩ (by simp) rfl _ 10 rfl rfl
      exact wp_enter 27 #[rect (X : Int) (Y : Int)] (.int .u64 (p : Int)) _ (by unfold execOp; go_simp) (HP.out w2) (fun w' h => ⟨rfl, h⟩)
    | 6, ho =>
      obtain rfl := Option.some.inj ho
      have b2 : a.tmps[2]?.getD undef = .pointer (some ⟨B, 0, none⟩) := hf.2 2 (by kernel_rfl)
      exact wp_value (.pointer (some ⟨B, 1, none⟩)) (by unfold execOp; go_simp) ⟨rfl, Below.refl _ _⟩
    | 7, ho =>
      obtain rfl := Option.some.inj ho
      have e12 : a.tmps[12]?.getD undef = .pointer (some ⟨B, 1, none⟩) := hf.1 ⟨6, .data⟩ (by simp) rfl _ 12 rfl rfl
      have g1 : w2.cell? ⟨B, 1, none⟩ = some (.int .u64 (q : Int)) := HM.out w2 hb2
      exact wp_value (.int .u64 (q : Int)) (by unfold execOp; go_simp) ⟨rfl, Below.refl _ _⟩
    | 8, ho =>
      obtain rfl := Option.some.inj ho
      have e11 : a.tmps[11]?.getD undef = .int .u64 (p : Int) := hf.1 ⟨5, .data⟩ (by simp) rfl _ 11 rfl rfl
      have e13 : a.tmps[13]?.getD undef = .int .u64 (q : Int) := hf.1 ⟨7, .data⟩ (by simp) rfl _ 13 rfl rfl
      exact wp_enter 31 #[.int .u64 (p : Int), .int .u64 (q : Int)] (.bool t) _ (by unfold execOp; go_simp) (below_same HQ.out w2) (fun w' h => ⟨rfl, h⟩)
    | 9, ho =>
      obtain rfl := Option.some.inj ho
      have e14 : a.tmps[14]?.getD undef = .bool t := hf.1 ⟨8, .data⟩ (by simp) rfl _ 14 rfl rfl
      exact wp_enter 30 #[.bool t] (.int .i64 (bitI t)) _ (by unfold execOp; go_simp) (below_same (bitOf_any t) w2) (fun w' h => ⟨rfl, h⟩)
    | 10, ho =>
      obtain rfl := Option.some.inj ho
      have e15 : a.tmps[15]?.getD undef = .int .i64 (bitI t) := hf.1 ⟨9, .data⟩ (by simp) rfl _ 15 rfl rfl
      exact wp_value (.int .i64 (bitI t)) (by unfold execOp; go_simp) ⟨rfl, Below.refl _ _⟩
    | q + 11, ho => simp at ho
  case en =>
    intro w2 hb2
    have HB2 := Lib.hid hb2
    clear hb2
    simp only [fill, Act.put]
    go_simp
    go_wp2_with fail
    go_ret
    exact ⟨rfl, HB2.out⟩
end Go.Proofs.YtbbgibbpeibhiaaGreatDoor.MatC

