/-
  The program's set of the entries of a rectangle: patchOf; and the number of its entries: size.
-/
import Derived.Test.YtgfhahlkffagaaaDoorEach
import Derived.Test.YtgfhahlkffagaaaDoorFreeIn
namespace Go.Proofs.YtgfhahlkffagaaaDoor.Patch
open Go.RowKit Go.Shelf Go.Proofs.YtgfhahlkffagaaaDoor.Plain Go.Proofs.YtgfhahlkffagaaaDoor.Pat Go.Proofs.YtgfhahlkffagaaaDoor.Rect Go.Proofs.YtgfhahlkffagaaaDoor.Each Go.Proofs.YtgfhahlkffagaaaDoor.Free Go.Proofs.YtgfhahlkffagaaaDoor.FreeIn
set_option linter.unusedVariables false
attribute [local go_sem] Oper.semAt_some

/-- the bytes of a rectangle -/
def rectB (R C : Nat) : Nat → Nat := fun j => if R.testBit j then C else 0
theorem rectB_lt (R C : Nat) (hC : C < 256) (x : Nat) : rectB R C x < 256 := by
  unfold rectB
  split <;> omega
/-- the bytes when so many rows have come -/
def partB (pre : List (Fin 8)) (C : Nat) : Nat → Nat := fun j => if pre.any (fun x => x.val == j) then C else 0
theorem partB_lt (pre : List (Fin 8)) (C : Nat) (hC : C < 256) (x : Nat) : partB pre C x < 256 := by
  unfold partB
  split <;> omega
theorem partB_nil (C : Nat) : pat (partB [] C) 8 = 0 := (pat_zero 8 _).2 fun x _ => by simp [partB]
theorem partB_next (pre : List (Fin 8)) (x : Fin 8) (C : Nat) (hC : C < 256) : pat (partB pre C) 8 ||| C * 2 ^ (x.val * 8) = pat (partB (pre ++ [x]) C) 8 := by
  rw [← pat_one x.val C x.isLt, pat_or 8 _ _ (partB_lt pre C hC) (fun j => by show (if j = x.val then C else 0) < 256; split <;> omega)]
  apply pat_congr
  intro j hj
  unfold partB
  rw [List.any_append]
  by_cases h : (pre.any fun x => x.val == j) = true
  · rw [h, if_pos rfl, Bool.true_or, if_pos rfl]
    split <;> simp
  · rw [Bool.not_eq_true] at h
    rw [h, Bool.false_or]
    by_cases e : j = x.val
    · subst e; simp
    · have : ¬ (x.val = j) := fun h => e h.symm
      simp [e, this]
theorem shl_fits (x : Fin 8) (C : Nat) (hC : C < 256) : C * 2 ^ (x.val * 8) < 18446744073709551616 := by
  have h : 2 ^ (x.val * 8) ≤ 2 ^ (7 * 8) := Nat.pow_le_pow_right (by decide) (by omega)
  have h2 : C * 2 ^ (x.val * 8) ≤ 255 * 2 ^ (7 * 8) := Nat.mul_le_mul (by omega) h
  omega
theorem any_upto (S j : Nat) : ∀ k, k ≤ 8 → ((upto S k).any fun x => x.val == j) = (decide (j < k) && S.testBit j)
  | 0, _ => by simp [upto]
  | k + 1, h => by
    obtain ⟨b, hb⟩ : ∃ b, S.testBit k = b := ⟨_, rfl⟩
    cases b
    · rw [upto_no S k hb, any_upto S j k (by omega)]
      by_cases e : j = k
      · subst e; simp [hb]
      · congr 1
        rw [decide_eq_decide]
        omega
    · rw [upto_yes S k (by omega) hb, List.any_append, any_upto S j k (by omega)]
      by_cases e : j = k
      · subst e; simp [hb]
      · have : (k == j) = false := beq_eq_false_iff_ne.2 fun h => e h.symm
        rw [List.any_cons, List.any_nil]
        dsimp only
        rw [this, Bool.false_or, Bool.or_false]
        congr 1
        rw [decide_eq_decide]
        omega
theorem partB_all (R C : Nat) : pat (partB (upto R 8) C) 8 = pat (rectB R C) 8 := by
  apply pat_congr
  intro j hj
  unfold partB rectB
  rw [any_upto R j 8 (Nat.le_refl _), decide_eq_true hj, Bool.true_and]

theorem cell_of_box {W : World} {B : Nat} {v : Value} {t : TypeId} (h : W.heap[B]? = some (.cells #[v] t (0, 0))) : W.cell? ⟨B, 0, none⟩ = some v ∧ W.frozen? ⟨B, 0, none⟩ = false := by
  constructor <;> simp [World.cell?, World.frozen?, h]
theorem cell_alloc {W : World} {a : Addr} {v : Value} (o : Obj) (h : W.cell? a = some v) : (W.alloc o).cell? a = some v := cell_kept h (World.grownBy_alloc W o none) (fun r e => by cases e)
theorem frozen_alloc {W : World} {a : Addr} {v : Value} (o : Obj) (h : W.cell? a = some v) (hf : W.frozen? a = false) : (W.alloc o).frozen? a = false := (frozen_kept h (World.grownBy_alloc W o none) (fun r e => by cases e)).trans hf

set_option maxRecDepth 100000 in
set_option maxHeartbeats 4000000 in
theorem patch_in (n : Nat) (hn : 3 ≤ n) (R C : Nat) (hR : R < 256) (hC : C < 256) (w : World) :
    CallsIn Fence.wide n Tryd.prog 69 #[rect R C] w fun e W' => e = .returned (.int .u64 (pat (rectB R C) 8 : Nat)) ∧ Below w.heap.size w W' := by
  have h1 : 1 ≤ n := by omega
  refine callsIn_of_wp_marks Tryd.func69 rfl trivial ?_ rfl
  simp only [Tryd.ntmps69, List.size_toArray, List.length_cons, List.length_nil, Nat.reduceAdd, Nat.reduceSub, Array.replicate_succ, Array.replicate_zero, List.push_toArray, List.append_toArray, List.nil_append, List.cons_append]
  gi_wp2_with (refine ⟨trivial, ?_⟩; gi_at_call 96; refine (callsIn_wide.2 (each_any _ _)).mono ?_; rintro e w' ⟨rfl, rfl⟩)
  obtain ⟨W0, hW0⟩ : ∃ W0, ((w.alloc (.cells #[.int .i64 (R : Int), .int .i64 (C : Int)] 60)).alloc (.cells #[.int .u64 0] 94)).alloc (.cells #[.int .i64 (R : Int)] 3) = W0 := ⟨_, rfl⟩
  rw [hW0]
  have hsz : W0.heap.size = w.heap.size + 3 := by rw [← hW0]; simp
  have e0 : W0.heap[w.heap.size]? = some (.cells #[.int .i64 (R : Int), .int .i64 (C : Int)] 60 (0, 0)) := by
    rw [← hW0]; exact (Below.heap_alloc _ _ _ (by simp; omega)).trans ((Below.heap_alloc _ _ _ (by simp)).trans (heap_alloc_new w _))
  have e1 : W0.heap[w.heap.size + 1]? = some (.cells #[.int .u64 0] 94 (0, 0)) := by
    rw [← hW0]; exact (Below.heap_alloc _ _ _ (by simp)).trans (by have := heap_alloc_new (w.alloc (.cells #[.int .i64 (R : Int), .int .i64 (C : Int)] 60)) (.cells #[.int .u64 0] 94); rwa [World.size_alloc] at this)
  have e2 : W0.heap[w.heap.size + 1 + 1]? = some (.cells #[.int .i64 (R : Int)] 3 (0, 0)) := by
    rw [← hW0]; have := heap_alloc_new ((w.alloc (.cells #[.int .i64 (R : Int), .int .i64 (C : Int)] 60)).alloc (.cells #[.int .u64 0] 94)) (.cells #[.int .i64 (R : Int)] 3); rwa [World.size_alloc, World.size_alloc] at this
  have hB0 : Below w.heap.size w W0 := by rw [← hW0]; exact (((Below.refl _ w).alloc (Nat.le_refl _) _).alloc (by simp) _).alloc (by simp; omega) _
  clear hW0
  refine wpIn_rangeFunc_ownF rfl h1 (gf := 123) (lb := #[.pointer (some ⟨w.heap.size + 1 + 1, 0, none⟩)]) rfl trivial (enters_of Tryd.func123 (by kernel_rfl) rfl)
    (mem_stops (n - 1) (by omega) (w.heap.size + 1 + 1) R hR W0 (by omega) (cell_of_box e2).1) keepC_t keepC_b (Below.refl _ _) (fun _ => rfl)
    (fun pre W => ((W.cell? ⟨w.heap.size + 1, 0, none⟩ = some (.int .u64 (pat (partB pre C) 8 : Nat)) ∧ W.frozen? ⟨w.heap.size + 1, 0, none⟩ = false) ∧ W.cell? ⟨w.heap.size, 1, none⟩ = some (.int .i64 (C : Int))) ∧ Below w.heap.size w W)
    (fun _ _ _ => False)
    (OwnFrom.and (Own.from (fun s A B row hs hg hr => ⟨⟨cell_kept hs.1.1 hg hr, (frozen_kept hs.1.1 hg hr).trans hs.1.2⟩, cell_kept hs.2 hg hr⟩) _) (ownFrom_below (Nat.le_refl _) (by omega)))
    (fun _ _ _ _ _ hs _ _ => hs)
    ⟨⟨⟨by rw [partB_nil]; exact (cell_of_box e1).1, (cell_of_box e1).2⟩, cell_of_row _ _ 1 _ _ _ e0⟩, hB0⟩
    (fun x => { tmps := #[rect (R : Int) (C : Int), .pointer (some ⟨w.heap.size, 0, none⟩), .int .u64 0, .pointer (some ⟨w.heap.size + 1, 0, none⟩), .int .i64 (x.val : Int), .pointer (some ⟨w.heap.size, 0, none⟩), .int .i64 (R : Int), .func (.func 123) #[] #[.pointer (some ⟨w.heap.size + 1 + 1, 0, none⟩)], .int .i64 (x.val : Int), undef, undef, undef, undef, undef, undef, undef, undef, undef], defers := [] }) ?assign ?body ?done ?stop
  case assign =>
    intro l x W K hK
    gi_wp2
    exact hK
  case body =>
    rintro l pre x W ⟨⟨⟨hc, hf0⟩, hC1⟩, hB⟩ _
    have hx8 := x.isLt
    have HN := Lib.hid (partB_next pre x C hC)
    have hlt := pat64 (partB pre C) (partB_lt pre C hC)
    have hsh := shl_fits x C hC
    have HO := Lib.hid (u64_or_nat (pat (partB pre C) 8) (C * 2 ^ (x.val * 8)) hlt hsh)
    have HT : Hid ((C : Int) * 2 ^ (x.val * 8) = ((C * 2 ^ (x.val * 8) : Nat) : Int)) := by unfold Hid; simp
    generalize pat (partB pre C) 8 = p at *
    gi_wp2
    have hcd : ({ W with drawn := W.drawn + 1 } : World).cell? ⟨w.heap.size + 1, 0, none⟩ = some (.int .u64 (p : Int)) := hc
    have hfd : ({ W with drawn := W.drawn + 1 } : World).frozen? ⟨w.heap.size + 1, 0, none⟩ = false := hf0
    have hC1d : ({ W with drawn := W.drawn + 1 } : World).cell? ⟨w.heap.size, 1, none⟩ = some (.int .i64 (C : Int)) := hC1
    refine wpIn_region_last (fun | 0 => .int .u64 (p : Int) | 1 => .pointer (some ⟨w.heap.size, 1, none⟩) | 2 => .int .i64 (C : Int) | 3 => .int .u64 (C : Int) | 4 => .int .i64 (x.val : Int) | 5 => .int .i64 ((x.val * 8 : Nat) : Int) | 6 => .int .u64 ((C * 2 ^ (x.val * 8) : Nat) : Int) | 7 => .int .u64 ((p ||| C * 2 ^ (x.val * 8) : Nat) : Int) | _ => undef) 8 (({ W with drawn := W.drawn + 1 } : World).setCell ⟨w.heap.size + 1, 0, none⟩ (.int .u64 ((p ||| C * 2 ^ (x.val * 8) : Nat) : Int))) _ (by kernel_rfl) (by kernel_rfl) rfl rfl rfl rfl (by kernel_rfl) ?con ?st ?en
    case con =>
      intro i o ho hi a hf
      match i, ho with
      | 0, ho =>
        obtain rfl := Option.some.inj ho
        have b3 : a.tmps[3]?.getD undef = .pointer (some ⟨w.heap.size + 1, 0, none⟩) := hf.2 3 (by kernel_rfl)
        exact wpIn_value (.int .u64 (p : Int)) rfl (by go_simp) ⟨rfl, rfl⟩
      | 1, ho =>
        obtain rfl := Option.some.inj ho
        have b1 : a.tmps[1]?.getD undef = .pointer (some ⟨w.heap.size, 0, none⟩) := hf.2 1 (by kernel_rfl)
        exact wpIn_value (.pointer (some ⟨w.heap.size, 1, none⟩)) rfl (by go_simp) ⟨rfl, rfl⟩
      | 2, ho =>
        obtain rfl := Option.some.inj ho
        have e10 : a.tmps[10]?.getD undef = .pointer (some ⟨w.heap.size, 1, none⟩) := hf.1 ⟨1, .data⟩ (by simp) rfl _ 10 rfl rfl
        exact wpIn_value (.int .i64 (C : Int)) rfl (by go_simp) ⟨rfl, rfl⟩
      | 3, ho =>
        obtain rfl := Option.some.inj ho
        have e11 : a.tmps[11]?.getD undef = .int .i64 (C : Int) := hf.1 ⟨2, .data⟩ (by simp) rfl _ 11 rfl rfl
        exact wpIn_value (.int .u64 (C : Int)) rfl (by go_simp; rw [IntKind.wrap_u64]; omega) ⟨rfl, rfl⟩
      | 4, ho =>
        obtain rfl := Option.some.inj ho
        have b4 : a.tmps[4]?.getD undef = .int .i64 (x.val : Int) := hf.2 4 (by kernel_rfl)
        exact wpIn_value (.int .i64 (x.val : Int)) rfl (by go_simp) ⟨rfl, rfl⟩
      | 5, ho =>
        obtain rfl := Option.some.inj ho
        have e13 : a.tmps[13]?.getD undef = .int .i64 (x.val : Int) := hf.1 ⟨4, .data⟩ (by simp) rfl _ 13 rfl rfl
        exact wpIn_value (.int .i64 ((x.val * 8 : Nat) : Int)) rfl (by go_simp; rw [IntKind.wrap_i64]; omega) ⟨rfl, rfl⟩
      | 6, ho =>
        obtain rfl := Option.some.inj ho
        have e12 : a.tmps[12]?.getD undef = .int .u64 (C : Int) := hf.1 ⟨3, .data⟩ (by simp) rfl _ 12 rfl rfl
        have e14 : a.tmps[14]?.getD undef = .int .i64 ((x.val * 8 : Nat) : Int) := hf.1 ⟨5, .data⟩ (by simp) rfl _ 14 rfl rfl
        have hto : ((x.val : Int) * 8).toNat = x.val * 8 := by omega
        exact wpIn_value (.int .u64 ((C * 2 ^ (x.val * 8) : Nat) : Int)) rfl (by go_simp; rw [HT.out, IntKind.wrap_u64]; omega) ⟨rfl, rfl⟩
      | 7, ho =>
        obtain rfl := Option.some.inj ho
        have e9 : a.tmps[9]?.getD undef = .int .u64 (p : Int) := hf.1 ⟨0, .data⟩ (by simp) rfl _ 9 rfl rfl
        have e15 : a.tmps[15]?.getD undef = .int .u64 ((C * 2 ^ (x.val * 8) : Nat) : Int) := hf.1 ⟨6, .data⟩ (by simp) rfl _ 15 rfl rfl
        exact wpIn_value (.int .u64 ((p ||| C * 2 ^ (x.val * 8) : Nat) : Int)) rfl (by go_simp; rw [HT.out]; exact HO.out) ⟨rfl, rfl⟩
      | n + 8, ho => exact absurd hi (by omega)
    case st =>
      intro a hf
      have e16 : a.tmps[16]?.getD undef = .int .u64 ((p ||| C * 2 ^ (x.val * 8) : Nat) : Int) := hf.1 ⟨7, .data⟩ (by simp) rfl _ 16 rfl rfl
      have b3 : a.tmps[3]?.getD undef = .pointer (some ⟨w.heap.size + 1, 0, none⟩) := hf.2 3 (by kernel_rfl)
      exact wpIn_store rfl (by go_simp) ⟨rfl, rfl⟩
    case en =>
      simp only [fill, Act.put]
      go_simp
      exact ⟨(KeepsOthers.setCell W _ _).trans (KeepsOthers.drew _), KeepC.set (B := W) (KeepC.refl _ W) ⟨w.heap.size + 1, 0, none⟩ _ (by show w.heap.size + 1 ≠ w.heap.size + 1 + 1; omega),
        ⟨⟨by rw [← HN.out]; exact World.cell?_setCell_same' W _ _ (by rw [hc]; rfl), (World.frozen?_setCell W _ _ _).trans hf0⟩, (World.cell?_setCell_far W _ _ _ (by simp)).trans hC1⟩, (hB.setCell (p := ⟨w.heap.size + 1, 0, none⟩) (by show w.heap.size ≤ w.heap.size + 1; omega) _).drew⟩
  case done =>
    rintro D ys W hD rfl ⟨⟨⟨hc, _⟩, _⟩, hB⟩ hK
    gi_wp2
    refine ⟨by simp, .inl ⟨_, _, rfl, run_takeDeferred hK, ?_⟩⟩
    exact ⟨_, results_tmp rfl _ _ _, (by rw [← partB_all]; rfl), hB.trans (belowK_b (w := w) (Nat.le_refl _) W D _ _ (by omega) hK rfl rfl)⟩
  case stop =>
    rintro D c pre W _ _ h _
    exact h.elim
/-- the program's set of the entries of a rectangle -/
theorem patch_any (R C : Nat) (hR : R < 256) (hC : C < 256) (w : World) :
    Calls Tryd.prog 69 #[rect R C] w fun e W' => e = .returned (.int .u64 (pat (rectB R C) 8 : Nat)) ∧ Below w.heap.size w W' :=
  callsIn_wide.1 (patch_in 3 (by omega) R C hR hC w)

theorem and127 (y : Nat) (h : y < 9223372036854775808) : Go.bits .and .i64 (y : Int) 127 = ((y % 128 : Nat) : Int) := by
  have hp : (2 : Int) ^ 63 = 9223372036854775808 := by decide
  have hq : (2 : Nat) ^ 63 = 9223372036854775808 := by decide
  have hk : ∀ n : Int, 0 ≤ n → n < 2 ^ 63 → IntKind.i64.wrap n = n := fun n h0 h1 => by
    rw [hp] at h1
    rw [IntKind.wrap_i64]
    omega
  have h2 := (bits_nat .i64 63 (by decide) hk y 127 (by rw [hq]; exact h) (by rw [hq]; decide)).1
  rw [nat_mask7] at h2
  exact h2
theorem wrap_fits (n : Nat) (h : n < 18446744073709551616) : IntKind.u64.wrap (n : Int) = (n : Int) := by
  rw [IntKind.wrap_u64]
  omega
/-- a rectangle has as many entries as rows times columns -/
theorem area_pop (R C : Nat) (hR : R < 256) : sumN (fun x => pop8 (rectB R C x)) 8 = pop8 R * pop8 C := by
  have h : ∀ k, sumN (fun x => pop8 (rectB R C x)) k = sumN (fun i => (R.testBit i).toNat) k * pop8 C := fun k => by
    induction k with
    | zero => simp [sumN]
    | succ k ih =>
      rw [sumN, sumN, ih, Nat.add_mul]
      congr 1
      unfold rectB
      cases R.testBit k <;> simp [pop8]
  rw [h 8, ← pop8_bits R hR]
end Go.Proofs.YtgfhahlkffagaaaDoor.Patch
