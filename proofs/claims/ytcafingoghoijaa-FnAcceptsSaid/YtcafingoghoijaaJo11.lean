/-
  Texts of one seat, joined: Each, Patch, Board, BoardM.
-/
import Derived.Test.YtcafingoghoijaaJo1
import Derived.RangeFuncNested
import Derived.RangeFuncBound
import Derived.RangeFuncCalls
import Derived.RangeFuncLeaves
import Derived.Shelf.Abstract
import Derived.Shelf.RegionOpen
import Derived.WalkKit
import Derived.OwnWalkIn
import Derived.TacticsInMore
import Derived.LoopNIn
import Derived.LoopIn
import Derived.Test.YtcafingoghoijaaJo3
import Derived.Deep.RegionHeld
import Derived.Test.YtcafingoghoijaaJo4
/-
  The program's iterator over the members of a set: eachMember. Its contract: whatever loop's body.
-/
namespace Go.Proofs.Ytcafingoghoijaa.Each
open Go.RowKit Go.Shelf Go.Proofs.Ytcafingoghoijaa.Plain Go.Proofs.Ytcafingoghoijaa.Pat Go.Proofs.Ytcafingoghoijaa.Rect
set_option linter.unusedVariables false
attribute [local go_sem] Oper.semAt_some

/-- the members below k, in ascending order -/
def upto (S : Nat) : Nat → List (Fin 8)
  | 0 => []
  | k + 1 => upto S k ++ (if h : k < 8 then (if S.testBit k = true then [⟨k, h⟩] else []) else [])
theorem upto_yes (S k : Nat) (h : k < 8) (hb : S.testBit k = true) : upto S (k + 1) = upto S k ++ [⟨k, h⟩] := by
  rw [upto, dif_pos h, if_pos hb]
theorem upto_no (S k : Nat) (hb : S.testBit k = false) : upto S (k + 1) = upto S k := by
  rw [upto]
  split
  · rw [if_neg (by rw [hb]; decide), List.append_nil]
  · rw [List.append_nil]
theorem upto_len (S : Nat) : ∀ k, (upto S k).length ≤ k
  | 0 => Nat.le_refl _
  | k + 1 => by
    have := upto_len S k
    rw [upto, List.length_append]
    split
    · split <;> simp <;> omega
    · simp; omega

/-- the box of the set lies as it lay -/
def KeepC (Bn : Nat) (A B : World) : Prop := ∀ v, A.cell? ⟨Bn, 0, none⟩ = some v → B.cell? ⟨Bn, 0, none⟩ = some v
theorem keepC_t {Bn : Nat} {A B C : World} (h : KeepC Bn A B) (k : KeepC Bn B C) : KeepC Bn A C := fun v hv => k v (h v hv)
theorem keepC_b {Bn n : Nat} (W : World) (l : Nat) (o o' : Obj) (_ : n ≤ l) (h : W.heap[l]? = some o) (hc : o.isCells = false) (_ : o.isWalk = false) : KeepC Bn W (W.putObj l o') := fun v hv =>
  cell_kept hv (grownBy_putObj' W l o') (fun r e => by cases e; exact ⟨o, h, hc⟩)
theorem KeepC.of_below {Bn n : Nat} {A B : World} (hlt : Bn < n) (h : Below n A B) : KeepC Bn A B := fun v hv => (h.cell (p := ⟨Bn, 0, none⟩) hlt).trans hv
theorem KeepC.set {Bn : Nat} {A B : World} (h : KeepC Bn A B) (p : Addr) (v : Value) (hp : p.block ≠ Bn) : KeepC Bn A (B.setCell p v) := fun u hu => (World.cell?_setCell_far B p ⟨Bn, 0, none⟩ v hp).trans (h u hu)
theorem KeepC.refl (Bn : Nat) (A : World) : KeepC Bn A A := fun _ h => h

/-- a member as yield's argument -/
abbrev encF (x : Fin 8) : Array Value := #[.int .i64 (x.val : Int)]

set_option maxHeartbeats 1000000 in
theorem each_any (S : Int) (w : World) :
    Calls Try.prog 81 #[.int .i64 S] w fun e w' => e = .returned (.func (.func 92) #[] #[.pointer (some ⟨w.heap.size, 0, none⟩)]) ∧ w' = w.alloc (.cells #[.int .i64 S] 3) := by
  go_enter Try.func81, Try.ntmps81
  go_wp2_with fail
  go_ret
  exact ⟨rfl, rfl⟩

set_option maxRecDepth 100000 in
set_option maxHeartbeats 1000000 in
theorem mem_in (n : Nat) (hn : 1 ≤ n) (l Bn S : Nat) (hS : S < 256) (J Jx : List (Fin 8) → World → Prop)
    (hY : ∀ pre x W, J pre W → pre.length < 8 → YieldAt Fence.wide (n - 1) Try.prog l (encF x) W fun e W' =>
      (e = .returned (.bool true) ∧ J (pre ++ [x]) W' ∧ KeepC Bn W W') ∨ (e = .returned (.bool false) ∧ Jx (pre ++ [x]) W'))
    (W : World) (hBn : W.cell? ⟨Bn, 0, none⟩ = some (.int .i64 (S : Int))) (h0 : J [] W) :
    CallsIn Fence.wide n Try.prog 92 #[.func (.yield l) #[] #[], .pointer (some ⟨Bn, 0, none⟩)] W fun e W' => (∃ v, e = .returned v) ∧
      ((∃ ys, ys = upto S 8 ∧ J ys W') ∨ (∃ pre, True ∧ Jx pre W')) := by
  refine callsIn_of_wp Try.func92 rfl trivial ?_ rfl
  simp only [Try.ntmps92, List.size_toArray, List.length_cons, List.length_nil, Nat.reduceAdd, Nat.reduceSub, Array.replicate_succ, Array.replicate_zero, List.push_toArray, List.append_toArray, List.nil_append, List.cons_append]
  gi_wp2
  gi_loopw [4] (fun p wr => ∃ k : Nat, k ≤ 8 ∧ p = .int .i64 (k : Int) ∧ wr.cell? ⟨Bn, 0, none⟩ = some (.int .i64 (S : Int)) ∧ J (upto S k) wr) (fun p _ => 8 - (intOf p).toNat)
  case atStart => exact ⟨0, Nat.zero_le _, rfl, hBn, h0⟩
  case round =>
    obtain ⟨k, hk, rfl, hc, hJs⟩ := hrel
    by_cases hk8 : k < 8
    · obtain ⟨b, hb⟩ : ∃ b, S.testBit k = b := ⟨_, rfl⟩
      have HB := Lib.hid hb
      have HI := Lib.hid (inSet_yes S k hS hk8)
      cases b
      · rw [← upto_no S k hb] at hJs
        clear hb
        gi_wp2_with (refine ⟨trivial, ?_⟩; gi_at_call 57; refine (callsIn_wide.2 (HI.out _)).mono ?_; rintro e w' ⟨rfl, rfl⟩; rw [HB.out])
        refine ⟨fun _ h => (by cases h), ?_⟩
        gi_wp2
        go_roundw
        case rel => exact ⟨k + 1, by omega, by go_num, hc, hJs⟩
        case measure => simp [intOf]; omega
      · obtain ⟨fn, tmps, assign, body, hy, hR⟩ := hY (upto S k) ⟨k, hk8⟩ wr hJs (by have := upto_len S k; omega)
        have HU := Lib.hid (upto_yes S k hk8 hb)
        clear hb
        gi_wp2_with (refine ⟨trivial, ?_⟩; gi_at_call 57; refine (callsIn_wide.2 (HI.out _)).mono ?_; rintro e w' ⟨rfl, rfl⟩; rw [HB.out])
        refine hR.mono ?_
        rintro e W3 (⟨rfl, hJ3, hk3⟩ | ⟨rfl, hJx3⟩)
        · have hc3 : W3.cell? ⟨Bn, 0, none⟩ = some (.int .i64 (S : Int)) := hk3 _ hc
          gi_wp2
          go_roundw
          case rel => exact ⟨k + 1, by omega, by go_num, hc3, by rw [HU.out]; exact hJ3⟩
          case measure => simp [intOf]; omega
        · gi_wp2
          refine bodyPost_ret (results_none rfl _ _ _) rfl ?_
          exact ⟨⟨_, rfl⟩, .inr ⟨_, trivial, hJx3⟩⟩
    · obtain rfl : k = 8 := by omega
      gi_wp2
      go_end0
      exact ⟨⟨_, rfl⟩, .inl ⟨_, rfl, hJs⟩⟩

theorem mem_stops (n : Nat) (hn : 1 ≤ n) (Bn S : Nat) (hS : S < 256) (w : World) (hlt : Bn < w.heap.size) (hc : w.cell? ⟨Bn, 0, none⟩ = some (.int .i64 (S : Int))) :
    SeqStopsK Fence.wide n Try.prog 92 #[.pointer (some ⟨Bn, 0, none⟩)] encF (KeepC Bn) (fun ys => ys = upto S 8) (fun _ => True) 8 w := fun l J Jx W hW _ _ hY h0 =>
  mem_in n hn l Bn S hS J Jx hY W ((hW.cell (p := ⟨Bn, 0, none⟩) hlt).trans hc) h0
end Go.Proofs.Ytcafingoghoijaa.Each

/-
  The program's set of the entries of a rectangle: patchOf; and the number of its entries: size.
-/
namespace Go.Proofs.Ytcafingoghoijaa.Patch
open Go.RowKit Go.Shelf Go.Proofs.Ytcafingoghoijaa.Plain Go.Proofs.Ytcafingoghoijaa.Pat Go.Proofs.Ytcafingoghoijaa.Rect Go.Proofs.Ytcafingoghoijaa.Each Go.Proofs.Ytcafingoghoijaa.Free Go.Proofs.Ytcafingoghoijaa.FreeIn
set_option linter.unusedVariables false
attribute [local go_sem] Oper.semAt_some

/-- the bytes of a rectangle -/
def rectB (R C : Nat) : Nat → Nat := fun j => if R.testBit j then C else 0
theorem rectB_lt (R C : Nat) (hC : C < 256) (x : Nat) : rectB R C x < 256 := by
  unfold rectB
  split <;> omega
/-- the bytes when so many rows have come -/
def partB (pre : List (Fin 8)) (C : Nat) : Nat → Nat := fun j => if pre.any (fun x => x.val == j) then C else 0
theorem partB_lt (pre : List (Fin 8)) (C : Nat) (hC : C < 256) (x : Nat) : partB pre C x < 256 := by
  unfold partB
  split <;> omega
theorem partB_nil (C : Nat) : pat (partB [] C) 8 = 0 := (pat_zero 8 _).2 fun x _ => by simp [partB]
theorem partB_next (pre : List (Fin 8)) (x : Fin 8) (C : Nat) (hC : C < 256) : pat (partB pre C) 8 ||| C * 2 ^ (x.val * 8) = pat (partB (pre ++ [x]) C) 8 := by
  rw [← pat_one x.val C x.isLt, pat_or 8 _ _ (partB_lt pre C hC) (fun j => by show (if j = x.val then C else 0) < 256; split <;> omega)]
  apply pat_congr
  intro j hj
  unfold partB
  rw [List.any_append]
  by_cases h : (pre.any fun x => x.val == j) = true
  · rw [h, if_pos rfl, Bool.true_or, if_pos rfl]
    split <;> simp
  · rw [Bool.not_eq_true] at h
    rw [h, Bool.false_or]
    by_cases e : j = x.val
    · subst e; simp
    · have : ¬ (x.val = j) := fun h => e h.symm
      simp [e, this]
theorem shl_fits (x : Fin 8) (C : Nat) (hC : C < 256) : C * 2 ^ (x.val * 8) < 18446744073709551616 := by
  have h : 2 ^ (x.val * 8) ≤ 2 ^ (7 * 8) := Nat.pow_le_pow_right (by decide) (by omega)
  have h2 : C * 2 ^ (x.val * 8) ≤ 255 * 2 ^ (7 * 8) := Nat.mul_le_mul (by omega) h
  omega
theorem any_upto (S j : Nat) : ∀ k, k ≤ 8 → ((upto S k).any fun x => x.val == j) = (decide (j < k) && S.testBit j)
  | 0, _ => by simp [upto]
  | k + 1, h => by
    obtain ⟨b, hb⟩ : ∃ b, S.testBit k = b := ⟨_, rfl⟩
    cases b
    · rw [upto_no S k hb, any_upto S j k (by omega)]
      by_cases e : j = k
      · subst e; simp [hb]
      · congr 1
        rw [decide_eq_decide]
        omega
    · rw [upto_yes S k (by omega) hb, List.any_append, any_upto S j k (by omega)]
      by_cases e : j = k
      · subst e; simp [hb]
      · have : (k == j) = false := beq_eq_false_iff_ne.2 fun h => e h.symm
        rw [List.any_cons, List.any_nil]
        dsimp only
        rw [this, Bool.false_or, Bool.or_false]
        congr 1
        rw [decide_eq_decide]
        omega
theorem partB_all (R C : Nat) : pat (partB (upto R 8) C) 8 = pat (rectB R C) 8 := by
  apply pat_congr
  intro j hj
  unfold partB rectB
  rw [any_upto R j 8 (Nat.le_refl _), decide_eq_true hj, Bool.true_and]

theorem cell_of_box {W : World} {B : Nat} {v : Value} {t : TypeId} (h : W.heap[B]? = some (.cells #[v] t (0, 0))) : W.cell? ⟨B, 0, none⟩ = some v ∧ W.frozen? ⟨B, 0, none⟩ = false := by
  constructor <;> simp [World.cell?, World.frozen?, h]
theorem cell_alloc {W : World} {a : Addr} {v : Value} (o : Obj) (h : W.cell? a = some v) : (W.alloc o).cell? a = some v := cell_kept h (World.grownBy_alloc W o none) (fun r e => by cases e)
theorem frozen_alloc {W : World} {a : Addr} {v : Value} (o : Obj) (h : W.cell? a = some v) (hf : W.frozen? a = false) : (W.alloc o).frozen? a = false := (frozen_kept h (World.grownBy_alloc W o none) (fun r e => by cases e)).trans hf

set_option maxRecDepth 100000 in
set_option maxHeartbeats 4000000 in
theorem patch_in (n : Nat) (hn : 3 ≤ n) (R C : Nat) (hR : R < 256) (hC : C < 256) (w : World) :
    CallsIn Fence.wide n Try.prog 66 #[rect R C] w fun e W' => e = .returned (.int .u64 (pat (rectB R C) 8 : Nat)) ∧ Below w.heap.size w W' := by
  have h1 : 1 ≤ n := by omega
  refine callsIn_of_wp_marks Try.func66 rfl trivial ?_ rfl
  simp only [Try.ntmps66, List.size_toArray, List.length_cons, List.length_nil, Nat.reduceAdd, Nat.reduceSub, Array.replicate_succ, Array.replicate_zero, List.push_toArray, List.append_toArray, List.nil_append, List.cons_append]
  gi_wp2_with (refine ⟨trivial, ?_⟩; gi_at_call 81; refine (callsIn_wide.2 (each_any _ _)).mono ?_; rintro e w' ⟨rfl, rfl⟩)
  obtain ⟨W0, hW0⟩ : ∃ W0, ((w.alloc (.cells #[.int .i64 (R : Int), .int .i64 (C : Int)] 33)).alloc (.cells #[.int .u64 0] 73)).alloc (.cells #[.int .i64 (R : Int)] 3) = W0 := ⟨_, rfl⟩
  rw [hW0]
  have hsz : W0.heap.size = w.heap.size + 3 := by rw [← hW0]; simp
  have e0 : W0.heap[w.heap.size]? = some (.cells #[.int .i64 (R : Int), .int .i64 (C : Int)] 33 (0, 0)) := by
    rw [← hW0]; exact (Below.heap_alloc _ _ _ (by simp; omega)).trans ((Below.heap_alloc _ _ _ (by simp)).trans (heap_alloc_new w _))
  have e1 : W0.heap[w.heap.size + 1]? = some (.cells #[.int .u64 0] 73 (0, 0)) := by
    rw [← hW0]; exact (Below.heap_alloc _ _ _ (by simp)).trans (by have := heap_alloc_new (w.alloc (.cells #[.int .i64 (R : Int), .int .i64 (C : Int)] 33)) (.cells #[.int .u64 0] 73); rwa [World.size_alloc] at this)
  have e2 : W0.heap[w.heap.size + 1 + 1]? = some (.cells #[.int .i64 (R : Int)] 3 (0, 0)) := by
    rw [← hW0]; have := heap_alloc_new ((w.alloc (.cells #[.int .i64 (R : Int), .int .i64 (C : Int)] 33)).alloc (.cells #[.int .u64 0] 73)) (.cells #[.int .i64 (R : Int)] 3); rwa [World.size_alloc, World.size_alloc] at this
  have hB0 : Below w.heap.size w W0 := by rw [← hW0]; exact (((Below.refl _ w).alloc (Nat.le_refl _) _).alloc (by simp) _).alloc (by simp; omega) _
  clear hW0
  refine wpIn_rangeFunc_ownF rfl h1 (gf := 92) (lb := #[.pointer (some ⟨w.heap.size + 1 + 1, 0, none⟩)]) rfl trivial (enters_of Try.func92 (by kernel_rfl) rfl)
    (mem_stops (n - 1) (by omega) (w.heap.size + 1 + 1) R hR W0 (by omega) (cell_of_box e2).1) keepC_t keepC_b (Below.refl _ _) (fun _ => rfl)
    (fun pre W => ((W.cell? ⟨w.heap.size + 1, 0, none⟩ = some (.int .u64 (pat (partB pre C) 8 : Nat)) ∧ W.frozen? ⟨w.heap.size + 1, 0, none⟩ = false) ∧ W.cell? ⟨w.heap.size, 1, none⟩ = some (.int .i64 (C : Int))) ∧ Below w.heap.size w W)
    (fun _ _ _ => False)
    (OwnFrom.and (Own.from (fun s A B row hs hg hr => ⟨⟨cell_kept hs.1.1 hg hr, (frozen_kept hs.1.1 hg hr).trans hs.1.2⟩, cell_kept hs.2 hg hr⟩) _) (ownFrom_below (Nat.le_refl _) (by omega)))
    (fun _ _ _ _ _ hs _ _ => hs)
    ⟨⟨⟨by rw [partB_nil]; exact (cell_of_box e1).1, (cell_of_box e1).2⟩, cell_of_row _ _ 1 _ _ _ e0⟩, hB0⟩
    (fun x => { tmps := #[rect (R : Int) (C : Int), .pointer (some ⟨w.heap.size, 0, none⟩), .int .u64 0, .pointer (some ⟨w.heap.size + 1, 0, none⟩), .int .i64 (x.val : Int), .pointer (some ⟨w.heap.size, 0, none⟩), .int .i64 (R : Int), .func (.func 92) #[] #[.pointer (some ⟨w.heap.size + 1 + 1, 0, none⟩)], .int .i64 (x.val : Int), undef, undef, undef, undef, undef, undef, undef, undef, undef], defers := [] }) ?assign ?body ?done ?stop
  case assign =>
    intro l x W K hK
    gi_wp2
    exact hK
  case body =>
    rintro l pre x W ⟨⟨⟨hc, hf0⟩, hC1⟩, hB⟩ _
    have hx8 := x.isLt
    have HN := Lib.hid (partB_next pre x C hC)
    have hlt := pat64 (partB pre C) (partB_lt pre C hC)
    have hsh := shl_fits x C hC
    have HO := Lib.hid (u64_or_nat (pat (partB pre C) 8) (C * 2 ^ (x.val * 8)) hlt hsh)
    have HT : Hid ((C : Int) * 2 ^ (x.val * 8) = ((C * 2 ^ (x.val * 8) : Nat) : Int)) := by unfold Hid; simp
    generalize pat (partB pre C) 8 = p at *
    gi_wp2
    have hcd : ({ W with drawn := W.drawn + 1 } : World).cell? ⟨w.heap.size + 1, 0, none⟩ = some (.int .u64 (p : Int)) := hc
    have hfd : ({ W with drawn := W.drawn + 1 } : World).frozen? ⟨w.heap.size + 1, 0, none⟩ = false := hf0
    have hC1d : ({ W with drawn := W.drawn + 1 } : World).cell? ⟨w.heap.size, 1, none⟩ = some (.int .i64 (C : Int)) := hC1
    refine wpIn_region_last (fun | 0 => .int .u64 (p : Int) | 1 => .pointer (some ⟨w.heap.size, 1, none⟩) | 2 => .int .i64 (C : Int) | 3 => .int .u64 (C : Int) | 4 => .int .i64 (x.val : Int) | 5 => .int .i64 ((x.val * 8 : Nat) : Int) | 6 => .int .u64 ((C * 2 ^ (x.val * 8) : Nat) : Int) | 7 => .int .u64 ((p ||| C * 2 ^ (x.val * 8) : Nat) : Int) | _ => undef) 8 (({ W with drawn := W.drawn + 1 } : World).setCell ⟨w.heap.size + 1, 0, none⟩ (.int .u64 ((p ||| C * 2 ^ (x.val * 8) : Nat) : Int))) _ (by kernel_rfl) (by kernel_rfl) rfl rfl rfl rfl (by kernel_rfl) ?con ?st ?en
    case con =>
      intro i o ho hi a hf
      match i, ho with
      | 0, ho =>
        obtain rfl := Option.some.inj ho
        have b3 : a.tmps[3]?.getD undef = .pointer (some ⟨w.heap.size + 1, 0, none⟩) := hf.2 3 (by kernel_rfl)
        exact wpIn_value (.int .u64 (p : Int)) rfl (by go_simp) ⟨rfl, rfl⟩
      | 1, ho =>
        obtain rfl := Option.some.inj ho
        have b1 : a.tmps[1]?.getD undef = .pointer (some ⟨w.heap.size, 0, none⟩) := hf.2 1 (by kernel_rfl)
        exact wpIn_value (.pointer (some ⟨w.heap.size, 1, none⟩)) rfl (by go_simp) ⟨rfl, rfl⟩
      | 2, ho =>
        obtain rfl := Option.some.inj ho
        have e10 : a.tmps[10]?.getD undef = .pointer (some ⟨w.heap.size, 1, none⟩) := hf.1 ⟨1, .data⟩ (by simp) rfl _ 10 rfl rfl
        exact wpIn_value (.int .i64 (C : Int)) rfl (by go_simp) ⟨rfl, rfl⟩
      | 3, ho =>
        obtain rfl := Option.some.inj ho
        have e11 : a.tmps[11]?.getD undef = .int .i64 (C : Int) := hf.1 ⟨2, .data⟩ (by simp) rfl _ 11 rfl rfl
        exact wpIn_value (.int .u64 (C : Int)) rfl (by go_simp; rw [IntKind.wrap_u64]; omega) ⟨rfl, rfl⟩
      | 4, ho =>
        obtain rfl := Option.some.inj ho
        have b4 : a.tmps[4]?.getD undef = .int .i64 (x.val : Int) := hf.2 4 (by kernel_rfl)
        exact wpIn_value (.int .i64 (x.val : Int)) rfl (by go_simp) ⟨rfl, rfl⟩
      | 5, ho =>
        obtain rfl := Option.some.inj ho
        have e13 : a.tmps[13]?.getD undef = .int .i64 (x.val : Int) := hf.1 ⟨4, .data⟩ (by simp) rfl _ 13 rfl rfl
        exact wpIn_value (.int .i64 ((x.val * 8 : Nat) : Int)) rfl (by go_simp; rw [IntKind.wrap_i64]; omega) ⟨rfl, rfl⟩
      | 6, ho =>
        obtain rfl := Option.some.inj ho
        have e12 : a.tmps[12]?.getD undef = .int .u64 (C : Int) := hf.1 ⟨3, .data⟩ (by simp) rfl _ 12 rfl rfl
        have e14 : a.tmps[14]?.getD undef = .int .i64 ((x.val * 8 : Nat) : Int) := hf.1 ⟨5, .data⟩ (by simp) rfl _ 14 rfl rfl
        have hto : ((x.val : Int) * 8).toNat = x.val * 8 := by omega
        exact wpIn_value (.int .u64 ((C * 2 ^ (x.val * 8) : Nat) : Int)) rfl (by go_simp; rw [HT.out, IntKind.wrap_u64]; omega) ⟨rfl, rfl⟩
      | 7, ho =>
        obtain rfl := Option.some.inj ho
        have e9 : a.tmps[9]?.getD undef = .int .u64 (p : Int) := hf.1 ⟨0, .data⟩ (by simp) rfl _ 9 rfl rfl
        have e15 : a.tmps[15]?.getD undef = .int .u64 ((C * 2 ^ (x.val * 8) : Nat) : Int) := hf.1 ⟨6, .data⟩ (by simp) rfl _ 15 rfl rfl
        exact wpIn_value (.int .u64 ((p ||| C * 2 ^ (x.val * 8) : Nat) : Int)) rfl (by go_simp; rw [HT.out]; exact HO.out) ⟨rfl, rfl⟩
      | n + 8, ho => exact absurd hi (by omega)
    case st =>
      intro a hf
      have e16 : a.tmps[16]?.getD undef = .int .u64 ((p ||| C * 2 ^ (x.val * 8) : Nat) : Int) := hf.1 ⟨7, .data⟩ (by simp) rfl _ 16 rfl rfl
      have b3 : a.tmps[3]?.getD undef = .pointer (some ⟨w.heap.size + 1, 0, none⟩) := hf.2 3 (by kernel_rfl)
      exact wpIn_store rfl (by go_simp) ⟨rfl, rfl⟩
    case en =>
      simp only [fill, Act.put]
      go_simp
      exact ⟨(KeepsOthers.setCell W _ _).trans (KeepsOthers.drew _), KeepC.set (B := W) (KeepC.refl _ W) ⟨w.heap.size + 1, 0, none⟩ _ (by show w.heap.size + 1 ≠ w.heap.size + 1 + 1; omega),
        ⟨⟨by rw [← HN.out]; exact World.cell?_setCell_same' W _ _ (by rw [hc]; rfl), (World.frozen?_setCell W _ _ _).trans hf0⟩, (World.cell?_setCell_far W _ _ _ (by simp)).trans hC1⟩, (hB.setCell (p := ⟨w.heap.size + 1, 0, none⟩) (by show w.heap.size ≤ w.heap.size + 1; omega) _).drew⟩
  case done =>
    rintro D ys W hD rfl ⟨⟨⟨hc, _⟩, _⟩, hB⟩ hK
    gi_wp2
    refine ⟨by simp, .inl ⟨_, _, rfl, run_takeDeferred hK, ?_⟩⟩
    exact ⟨_, results_tmp rfl _ _ _, (by rw [← partB_all]; rfl), hB.trans (belowK_b (w := w) (Nat.le_refl _) W D _ _ (by omega) hK rfl rfl)⟩
  case stop =>
    rintro D c pre W _ _ h _
    exact h.elim
/-- the program's set of the entries of a rectangle -/
theorem patch_any (R C : Nat) (hR : R < 256) (hC : C < 256) (w : World) :
    Calls Try.prog 66 #[rect R C] w fun e W' => e = .returned (.int .u64 (pat (rectB R C) 8 : Nat)) ∧ Below w.heap.size w W' :=
  callsIn_wide.1 (patch_in 3 (by omega) R C hR hC w)

set_option maxHeartbeats 1000000 in
theorem count_steps (x y z c y1 y2 y3 s : Nat) (h1 : IntKind.u64.wrap (Go.bits .and .u64 ((x : Int) / 2) 6148914691236517205 + Go.bits .and .u64 (x : Int) 6148914691236517205) = (y : Int))
    (h2 : IntKind.u64.wrap (Go.bits .and .u64 ((y : Int) / 4) 3689348814741910323 + Go.bits .and .u64 (y : Int) 3689348814741910323) = (z : Int))
    (h3 : Go.bits .and .u64 (IntKind.u64.wrap ((z : Int) / 16 + (z : Int))) 1085102592571150095 = (c : Int))
    (h4 : IntKind.u64.wrap ((c : Int) + (c : Int) / 256) = (y1 : Int)) (h5 : IntKind.u64.wrap ((y1 : Int) + (y1 : Int) / 65536) = (y2 : Int)) (h6 : IntKind.u64.wrap ((y2 : Int) + (y2 : Int) / 4294967296) = (y3 : Int))
    (h7 : Go.bits .and .i64 (wrap64 (y3 : Int)) 127 = (s : Int)) (w : World) :
    Calls Try.prog 82 #[.int .u64 (x : Int)] w fun e w' => e = .returned (.int .i64 (s : Int)) ∧ w = w' := by
  go_enter Try.func82, Try.ntmps82
  go_wp2_with fail
  go_ret
  exact ⟨rfl, rfl⟩
theorem and127 (y : Nat) (h : y < 9223372036854775808) : Go.bits .and .i64 (y : Int) 127 = ((y % 128 : Nat) : Int) := by
  have hp : (2 : Int) ^ 63 = 9223372036854775808 := by decide
  have hq : (2 : Nat) ^ 63 = 9223372036854775808 := by decide
  have hk : ∀ n : Int, 0 ≤ n → n < 2 ^ 63 → IntKind.i64.wrap n = n := fun n h0 h1 => by
    rw [hp] at h1
    rw [IntKind.wrap_i64]
    omega
  have h2 := (bits_nat .i64 63 (by decide) hk y 127 (by rw [hq]; exact h) (by rw [hq]; decide)).1
  rw [nat_mask7] at h2
  exact h2
theorem wrap_fits (n : Nat) (h : n < 18446744073709551616) : IntKind.u64.wrap (n : Int) = (n : Int) := by
  rw [IntKind.wrap_u64]
  omega
/-- the number of ones of a number that is told by its bytes -/
theorem count_any (f : Nat → Nat) (hf : ∀ x, f x < 256) (w : World) :
    Calls Try.prog 82 #[.int .u64 ((pat f 8 : Nat) : Int)] w fun e w' => e = .returned (.int .i64 ((sumN (fun x => pop8 (f x)) 8 : Nat) : Int)) ∧ w = w' := by
  have hx := pat64 f hf
  have e1 := m1_pat f hf
  have hb1 : ∀ x, b1 (f x) < 256 := fun x => (b_facts _ (hf x)).1
  have hy := pat64 _ hb1
  have e2 := m2_pat _ hb1
  have hb2 : ∀ x, b2 (b1 (f x)) < 256 := fun x => by have := (b_facts _ (hf x)).2; omega
  have hz := pat64 _ hb2
  have e3 := m123_pat f hf
  have hc : ∀ x, pop8 (f x) < 256 := fun x => by have := pop8_le (f x); omega
  have hcl := pat64 _ hc
  obtain ⟨y1, y2, y3, q1, q2, q3, l1, l2, l3, hs⟩ := fold_pat (fun x => pop8 (f x)) (fun x => pop8_le _)
  refine count_steps (pat f 8) (m1 (pat f 8)) (m2 (m1 (pat f 8))) (m3 (m2 (m1 (pat f 8)))) y1 y2 y3 _ ?_ ?_ ?_ ?_ ?_ ?_ ?_ w
  · show IntKind.u64.wrap (Go.bits .and .u64 ((pat f 8 / 2 : Nat) : Int) ((6148914691236517205 : Nat) : Int) + Go.bits .and .u64 ((pat f 8 : Nat) : Int) ((6148914691236517205 : Nat) : Int)) = _
    rw [u64_and_nat _ _ (by omega) (by decide), u64_and_nat _ _ hx (by decide), ← Int.natCast_add]
    refine wrap_fits _ ?_
    show m1 (pat f 8) < _
    rw [e1]; exact hy
  · have hy' : m1 (pat f 8) < 18446744073709551616 := by rw [e1]; exact hy
    show IntKind.u64.wrap (Go.bits .and .u64 ((m1 (pat f 8) / 4 : Nat) : Int) ((3689348814741910323 : Nat) : Int) + Go.bits .and .u64 ((m1 (pat f 8) : Nat) : Int) ((3689348814741910323 : Nat) : Int)) = _
    rw [u64_and_nat _ _ (by omega) (by decide), u64_and_nat _ _ hy' (by decide), ← Int.natCast_add]
    refine wrap_fits _ ?_
    show m2 (m1 (pat f 8)) < _
    rw [e1, e2]; exact hz
  · have hz' : m2 (m1 (pat f 8)) / 16 + m2 (m1 (pat f 8)) < 18446744073709551616 := by
      rw [e1, e2]
      have : pat (fun x => b2 (b1 (f x))) 8 ≤ pat (fun _ => 68) 8 := pat_mono 8 _ _ fun x => by have := (b_facts _ (hf x)).2; omega
      have e : pat (fun _ => 68) 8 = 4919131752989213764 := by decide
      omega
    show Go.bits .and .u64 (IntKind.u64.wrap ((m2 (m1 (pat f 8)) / 16 + m2 (m1 (pat f 8)) : Nat) : Int)) ((1085102592571150095 : Nat) : Int) = _
    rw [wrap_fits _ hz', u64_and_nat _ _ hz' (by decide)]
    rfl
  · rw [e3, IntKind.wrap_u64]; omega
  · rw [IntKind.wrap_u64]; omega
  · rw [IntKind.wrap_u64]; omega
  · have hw : wrap64 (y3 : Int) = (y3 : Int) := by unfold wrap64; omega
    rw [hw]
    rw [and127 y3 l3, hs]

theorem size_any (f : Nat → Nat) (hf : ∀ x, f x < 256) (w : World) :
    Calls Try.prog 67 #[.int .u64 ((pat f 8 : Nat) : Int)] w fun e w' => e = .returned (.int .i64 ((sumN (fun x => pop8 (f x)) 8 : Nat) : Int)) ∧ w = w' := by
  have HC := Lib.hid (count_any f hf)
  generalize pat f 8 = p at *
  go_enter Try.func67, Try.ntmps67
  go_wp2_with fail
  refine (HC.out _).mono ?_
  rintro e w' ⟨rfl, rfl⟩
  go_wp2_with fail
  go_ret
  exact ⟨rfl, rfl⟩

/-- a rectangle has as many entries as rows times columns -/
theorem area_pop (R C : Nat) (hR : R < 256) : sumN (fun x => pop8 (rectB R C x)) 8 = pop8 R * pop8 C := by
  have h : ∀ k, sumN (fun x => pop8 (rectB R C x)) k = sumN (fun i => (R.testBit i).toNat) k * pop8 C := fun k => by
    induction k with
    | zero => simp [sumN]
    | succ k ih =>
      rw [sumN, sumN, ih, Nat.add_mul]
      congr 1
      unfold rectB
      cases R.testBit k <;> simp [pop8]
  rw [h 8, ← pop8_bits R hR]
end Go.Proofs.Ytcafingoghoijaa.Patch

/-
  The program's board: the entries of a matrix as a set for each value. Its contract, and those of its small methods.
-/
namespace Go.Proofs.Ytcafingoghoijaa.Board
open Go.RowKit Go.Proofs.Ytcafingoghoijaa.Plain Go.Proofs.Ytcafingoghoijaa.Base Go.Proofs.Ytcafingoghoijaa.Valid Go.Proofs.Ytcafingoghoijaa.Law Go.Proofs.Ytcafingoghoijaa.GridPlain Go.Proofs.Ytcafingoghoijaa.Grid Go.Proofs.Ytcafingoghoijaa.Entry Go.Proofs.Ytcafingoghoijaa.Pat Go.Proofs.Ytcafingoghoijaa.Rect Go.Proofs.Ytcafingoghoijaa.Patch Go.Proofs.Ytcafingoghoijaa.FreeL
open Go.Proofs.Ytcafingoghoijaa.Free (fill wp_value wp_enter wp_load_row freeB)
set_option linter.unusedVariables false

/-- a board's value -/
abbrev brd (r c : Int) (z o : Nat) : Value := .agg #[.int .i64 r, .int .i64 c, .int .u64 (z : Int), .int .u64 (o : Int)]
/-- the bytes of the entries of so many rows, and of so many columns of the next one, for which P holds -/
def wB (P : Nat → Nat → Bool) (c x y : Nat) : Nat → Nat := fun j => if j < x then setB (P j) c else if j = x then setB (P j) y else 0
/-- the bytes of all entries for which P holds -/
def onB (P : Nat → Nat → Bool) (r c : Nat) : Nat → Nat := fun j => if j < r then setB (P j) c else 0
theorem wB_lt (P : Nat → Nat → Bool) (c x y : Nat) (hc : c ≤ 8) (hy : y ≤ 8) (j : Nat) : wB P c x y j < 256 := by
  unfold wB
  split
  · exact setB_lt8 _ _ hc
  · split
    · exact setB_lt8 _ _ hy
    · omega
theorem onB_lt (P : Nat → Nat → Bool) (r c : Nat) (hc : c ≤ 8) (j : Nat) : onB P r c j < 256 := by
  unfold onB
  split
  · exact setB_lt8 _ _ hc
  · omega
theorem wB_start (P : Nat → Nat → Bool) (c : Nat) : pat (wB P c 0 0) 8 = 0 := (pat_zero 8 _).2 fun j _ => by
  unfold wB
  rw [if_neg (by omega)]
  split
  · rfl
  · rfl
theorem wB_row (P : Nat → Nat → Bool) (c x : Nat) : wB P c x c = wB P c (x + 1) 0 := by
  funext j
  unfold wB
  by_cases h : j < x
  · rw [if_pos h, if_pos (by omega)]
  · rw [if_neg h]
    by_cases e : j = x
    · rw [if_pos e, if_pos (by omega)]
    · rw [if_neg e, if_neg (by omega)]
      split <;> rfl
theorem wB_end (P : Nat → Nat → Bool) (r c : Nat) : wB P c r 0 = onB P r c := by
  funext j
  unfold wB onB
  by_cases h : j < r
  · rw [if_pos h, if_pos h]
  · rw [if_neg h, if_neg h]
    split <;> rfl
theorem wB_no (P : Nat → Nat → Bool) (c x y : Nat) (h : P x y = false) : wB P c x (y + 1) = wB P c x y := by
  funext j
  unfold wB
  by_cases hj : j < x
  · rw [if_pos hj, if_pos hj]
  · rw [if_neg hj, if_neg hj]
    by_cases e : j = x
    · subst e
      rw [if_pos rfl, if_pos rfl, setB, if_neg (by rw [h]; decide), Nat.add_zero]
    · rw [if_neg e, if_neg e]
theorem pow_bit (x j : Nat) : (2 ^ x).testBit j = decide (x = j) := Nat.testBit_two_pow
theorem wB_yes (P : Nat → Nat → Bool) (c x y : Nat) (hc : c ≤ 8) (hx : x < 8) (hy : y < 8) (h : P x y = true) : pat (wB P c x y) 8 ||| pat (rectB (2 ^ x) (2 ^ y)) 8 = pat (wB P c x (y + 1)) 8 := by
  have h2 : 2 ^ y < 256 := Nat.lt_of_lt_of_le (Nat.pow_lt_pow_right (by decide) hy) (by decide)
  rw [pat_or 8 _ _ (wB_lt P c x y hc (by omega)) (rectB_lt _ _ h2)]
  apply pat_congr
  intro j hj
  unfold wB rectB
  rw [pow_bit]
  by_cases e : x = j
  · subst e
    simp only [Nat.lt_irrefl, if_false, if_true, decide_true]
    have := setB_or (P x) y
    rwa [if_pos h] at this
  · rw [if_neg (show ¬ (decide (x = j) = true) by simpa using e)]
    by_cases hj2 : j < x
    · rw [if_pos hj2, if_pos hj2, Nat.or_zero]
    · rw [if_neg hj2, if_neg hj2, if_neg (fun h => e h.symm), if_neg (fun h => e h.symm), Nat.or_zero]

theorem two_blk {w w1 : World} {o1 o2 : Obj} (hb : Below ((w.alloc o1).alloc o2).heap.size ((w.alloc o1).alloc o2) w1) : w1.heap[w.heap.size + 1]? = some o2 ∧ Below w.heap.size w w1 ∧ w.heap.size + 2 ≤ w1.heap.size := by
  have hs : ((w.alloc o1).alloc o2).heap.size = w.heap.size + 2 := by simp
  have h2 : ((w.alloc o1).alloc o2).heap[w.heap.size + 1]? = some o2 := by
    have := heap_alloc_new (w.alloc o1) o2
    rwa [World.size_alloc] at this
  exact ⟨(hb.block _ (by omega)).trans h2, (((Below.refl w.heap.size w).alloc (Nat.le_refl _) _).alloc (by simp) _).trans (hb.mono (by omega)), by have := hb.size; omega⟩
theorem wrap_small (n : Nat) (h : n < 256) : IntKind.i64.wrap (n : Int) = (n : Int) := by
  rw [IntKind.wrap_i64]
  omega
theorem eval_get {a : Act} {d : Tmp} {v : Value} (h : a.tmps[d]?.getD undef = v) (_ : True) : a.eval (.tmp d) = v := by
  rw [← h]
  show a.tmps.getD d undef = _
  simp [Array.getD_eq_getD_getElem?]
theorem wp_skip {P : Program} {o : Oper} {a : Act} {w w' : World} {K : Act → World → Prop} {Q : Exit → Act → World → Prop} (h : (execOp a.eval o).run P w = .ok .skip w') (hK : K (a.put o.dst undef) w') : o.wp P a w K Q := by
  unfold Oper.wp
  rw [h]
  exact hK

end Go.Proofs.Ytcafingoghoijaa.Board

/-
  Contracts of the board's methods.
-/
namespace Go.Proofs.Ytcafingoghoijaa.BoardM
open Go.RowKit Go.Proofs.Ytcafingoghoijaa.Plain Go.Proofs.Ytcafingoghoijaa.Base Go.Proofs.Ytcafingoghoijaa.Law Go.Proofs.Ytcafingoghoijaa.Pat Go.Proofs.Ytcafingoghoijaa.Rect Go.Proofs.Ytcafingoghoijaa.Patch Go.Proofs.Ytcafingoghoijaa.FreeL Go.Proofs.Ytcafingoghoijaa.Board
open Go.Proofs.Ytcafingoghoijaa.Free (fill wp_value wp_enter wp_load_row freeB)
set_option linter.unusedVariables false

theorem rinfo : (Try.prog.info? 33).map (·.size) = some 2 := by kernel_rfl
/-- block b holds a rectangle -/
def RHolds (w : World) (b : Nat) (r c : Int) : Prop := w.heap[b]? = some (.cells #[.int .i64 r, .int .i64 c] 33 (0, 0))
theorem RHolds.on {w w1 : World} {b : Nat} {r c : Int} (h : RHolds w b r c) (hb : Below w.heap.size w w1) : RHolds w1 b r c := (hb.block b (Array.getElem?_eq_some_iff.1 h).1).trans h
/-- when a rectangle is one of so many rows and columns -/
def rvB (R C : Nat) (r c : Int) : Bool := decide (1 ≤ r ∧ r ≤ 2 ^ R - 1) && decide (1 ≤ c ∧ c ≤ 2 ^ C - 1)
/-- two boxes -/
theorem two_box {w : World} {a b : Obj} : ((w.alloc a).alloc b).heap[w.heap.size]? = some a ∧ ((w.alloc a).alloc b).heap[w.heap.size + 1]? = some b ∧ Below w.heap.size w ((w.alloc a).alloc b) :=
  ⟨(Below.heap_alloc _ _ _ (by simp)).trans (heap_alloc_new w _), (by have := heap_alloc_new (w.alloc a) b; rwa [World.size_alloc] at this), ((Below.refl w.heap.size w).alloc (Nat.le_refl _) _).alloc (by simp) _⟩

/-- all entries of a rectangle are in a set of entries, each told by its bytes -/
theorem sub_byte (a b : Nat) (ha : a < 256) (hb : b < 256) : a &&& (255 - b) = 0 ↔ ∀ y, a.testBit y = true → b.testBit y = true := by
  have h255 : ∀ y, (255 - b).testBit y = (decide (y < 8) && !b.testBit y) := fun y => by
    have := Nat.testBit_two_pow_sub_succ (x := b) (n := 8) hb y
    rwa [show 2 ^ 8 - (b + 1) = 255 - b by omega] at this
  constructor
  · intro h y hy
    have h2 : (a &&& (255 - b)).testBit y = false := by rw [h]; simp
    rw [Nat.testBit_and, hy, Bool.true_and, h255] at h2
    have h8 : y < 8 := by
      rcases Nat.lt_or_ge y 8 with h8 | h8
      · exact h8
      · rw [bit_high a y ha h8] at hy; cases hy
    simpa [h8] using h2
  · intro h
    apply Nat.eq_of_testBit_eq
    intro y
    rw [Nat.testBit_and, h255, Nat.zero_testBit]
    cases hy : a.testBit y with
    | false => rfl
    | true => simp [h y hy]
theorem part_pat (f g : Nat → Nat) (hf : ∀ x, f x < 256) (hg : ∀ x, g x < 256) : pat f 8 &&& (18446744073709551615 - pat g 8) = 0 ↔ ∀ x, x < 8 → ∀ y, (f x).testBit y = true → (g x).testBit y = true := by
  have hn := pat_not 8 g hg
  rw [show 18446744073709551615 - pat g 8 = 256 ^ 8 - 1 - pat g 8 from rfl, hn, pat_and 8 f _ hf (fun x => by have := hg x; omega), pat_zero]
  constructor
  · intro h x hx
    exact (sub_byte _ _ (hf x) (hg x)).1 (h x hx)
  · intro h x hx
    exact (sub_byte _ _ (hf x) (hg x)).2 (h x hx)
/-- all entries of the rectangle are among those for which P holds -/
def allP (P : Nat → Nat → Bool) (R C RS CS : Nat) : Prop := ∀ x y, RS.testBit x = true → CS.testBit y = true → (x < R ∧ y < C) ∧ P x y = true
theorem plain_pat (P : Nat → Nat → Bool) (R C RS CS : Nat) (hR : R ≤ 8) (hC : C ≤ 8) (hRS : RS < 256) (hCS : CS < 256) :
    pat (rectB RS CS) 8 &&& (18446744073709551615 - pat (onB P R C) 8) = 0 ↔ allP P R C RS CS := by
  rw [part_pat _ _ (rectB_lt RS CS hCS) (onB_lt P R C hC)]
  unfold allP rectB onB
  constructor
  · intro h x y hx hy
    have hx8 : x < 8 := by
      rcases Nat.lt_or_ge x 8 with h8 | h8
      · exact h8
      · rw [bit_high RS x hRS h8] at hx; cases hx
    have := h x hx8 y (by rw [if_pos hx]; exact hy)
    split at this
    · rename_i hxr
      rw [setB_bit, Bool.and_eq_true, decide_eq_true_eq] at this
      exact ⟨⟨hxr, this.1⟩, this.2⟩
    · simp at this
  · intro h x hx y hy
    by_cases hr : RS.testBit x = true
    · rw [if_pos hr] at hy
      have := h x y hr hy
      rw [if_pos this.1.1, setB_bit, this.2, Bool.and_true, decide_eq_true_eq]
      exact this.1.2
    · rw [if_neg hr] at hy
      simp at hy

/-- a contract that leaves the world says that it leaves what lay -/
theorem below_same {P : Program} {f : FuncId} {args : Array Value} {v : Value} (h : ∀ w, Calls P f args w fun e w' => e = .returned v ∧ w = w') (w : World) : Calls P f args w fun e w' => e = .returned v ∧ Below w.heap.size w w' :=
  (h w).mono fun e w' ⟨he, hw⟩ => ⟨he, by subst hw; exact Below.refl _ _⟩

end Go.Proofs.Ytcafingoghoijaa.BoardM

