/-
  The program's board.cell: the rectangle of one entry, told by its number.
-/
import Derived.Test.YtgmhddceeomjbaaDoorBoardM
namespace Go.Proofs.YtgmhddceeomjbaaDoor.Cell
open Go.RowKit Go.Proofs.YtgmhddceeomjbaaDoor.Plain Go.Proofs.YtgmhddceeomjbaaDoor.Base Go.Proofs.YtgmhddceeomjbaaDoor.Law Go.Proofs.YtgmhddceeomjbaaDoor.Pat Go.Proofs.YtgmhddceeomjbaaDoor.Rect Go.Proofs.YtgmhddceeomjbaaDoor.Board Go.Proofs.YtgmhddceeomjbaaDoor.BoardM Go.Proofs.YtgmhddceeomjbaaDoor.FreeL
open Go.Proofs.YtgmhddceeomjbaaDoor.Free (fill wp_value wp_load_row freeB setRow_kept setRow_below setRow_other)
set_option linter.unusedVariables false

theorem eget {a : Act} {d : Tmp} {v : Value} (h : a.tmps[d]?.getD undef = v) : a.eval (.tmp d) = v := by
  simpa [Act.eval] using h
theorem rinfo2 : (Tryd.prog.info? 42).map (·.size) = some 2 := by kernel_rfl
theorem wrap_pow (k : Nat) (h : k < 8) : IntKind.i64.wrap ((2 : Int) ^ k) = ((2 ^ k : Nat) : Int) := by
  have h2 : ∀ j : Fin 8, IntKind.i64.wrap ((2 : Int) ^ j.val) = ((2 ^ j.val : Nat) : Int) := by decide +kernel
  exact h2 ⟨k, h⟩
theorem cells4 {w : World} {g : Nat} {T : TypeId} {a b c d : Value} (h : w.heap[g]? = some (.cells #[a, b, c, d] T (0, 0))) : w.cell? ⟨g, 0, none⟩ = some a ∧ w.cell? ⟨g, 1, none⟩ = some b ∧ w.cell? ⟨g, 2, none⟩ = some c ∧ w.cell? ⟨g, 3, none⟩ = some d :=
  ⟨cell_of_row _ _ 0 _ _ _ h, cell_of_row _ _ 1 _ _ _ h, cell_of_row _ _ 2 _ _ _ h, cell_of_row _ _ 3 _ _ _ h⟩
theorem cells2 {w : World} {g : Nat} {T : TypeId} {a b : Value} (h : w.heap[g]? = some (.cells #[a, b] T (0, 0))) : w.cell? ⟨g, 0, none⟩ = some a ∧ w.cell? ⟨g, 1, none⟩ = some b ∧ w.frozen? ⟨g, 0, none⟩ = false ∧ w.frozen? ⟨g, 1, none⟩ = false :=
  ⟨cell_of_row _ _ 0 _ _ _ h, cell_of_row _ _ 1 _ _ _ h, frozen_of_row _ _ 0 _ _ h, frozen_of_row _ _ 1 _ _ h⟩

set_option maxHeartbeats 2000000 in
set_option maxRecDepth 20000 in
theorem cell_any (R C z o i : Nat) (h1 : 1 ≤ C) (h8 : C ≤ 8) (hi : i < R * C) (hR : R ≤ 8) (w : World) :
    Calls Tryd.prog 122 #[brd R C z o, .int .i64 (i : Int)] w fun e w' => e = .returned (rect ((2 ^ (i / C) : Nat) : Int) ((2 ^ (i % C) : Nat) : Int)) ∧ Below w.heap.size w w' := by
  have d8 : i / C < 8 := by
    have : i / C < R := Nat.div_lt_of_lt_mul (by rwa [Nat.mul_comm] at hi)
    omega
  have m8 : i % C < 8 := by have := Nat.mod_lt i (show 0 < C by omega); omega
  have hx2 : 2 ^ (i / C) < 256 := Nat.lt_of_lt_of_le (Nat.pow_lt_pow_right (by decide) d8) (by decide)
  have hy2 : 2 ^ (i % C) < 256 := Nat.lt_of_lt_of_le (Nat.pow_lt_pow_right (by decide) m8) (by decide)
  have HX : Hid (IntKind.i64.wrap (2 ^ (i / C)) = ((2 ^ (i / C) : Nat) : Int)) := wrap_pow _ d8
  have HY : Hid (IntKind.i64.wrap (2 ^ (i % C)) = ((2 ^ (i % C) : Nat) : Int)) := wrap_pow _ m8
  have w1' : IntKind.i64.wrap ((i : Int) / (C : Int)) = ((i / C : Nat) : Int) := by
    rw [← Int.natCast_ediv]
    generalize i / C = z at d8 ⊢
    exact IntWalk.i64_in _ ⟨by omega, by omega⟩
  have m1' : (i : Int).tmod (C : Int) = ((i % C : Nat) : Int) := rfl
  have z1 : ¬ C = 0 := by omega
  generalize i / C = qi at *
  generalize i % C = ri at *
  have HW := Lib.hid w1'
  have HM := Lib.hid m1'
  clear w1' m1' hx2 hy2
  have hb1 : Below w.heap.size w ((w.alloc (.cells #[.int .i64 R, .int .i64 C, .int .u64 (z : Int), .int .u64 (o : Int)] 70)).alloc (.cells #[.int .i64 0, .int .i64 0] 42)) := ((Below.refl w.heap.size w).alloc (Nat.le_refl _) _).alloc (by simp) _
  have HR1 : Hid (((w.alloc (.cells #[.int .i64 R, .int .i64 C, .int .u64 (z : Int), .int .u64 (o : Int)] 70)).alloc (.cells #[.int .i64 0, .int .i64 0] 42)).heap[w.heap.size]? = some (.cells #[.int .i64 R, .int .i64 C, .int .u64 (z : Int), .int .u64 (o : Int)] 70 (0, 0))) := (Below.heap_alloc _ _ _ (by simp)).trans (heap_alloc_new w _)
  have HR2 : Hid (((w.alloc (.cells #[.int .i64 R, .int .i64 C, .int .u64 (z : Int), .int .u64 (o : Int)] 70)).alloc (.cells #[.int .i64 0, .int .i64 0] 42)).heap[w.heap.size + 1]? = some (.cells #[.int .i64 0, .int .i64 0] 42 (0, 0))) := by
    have := heap_alloc_new (w.alloc (.cells #[.int .i64 R, .int .i64 C, .int .u64 (z : Int), .int .u64 (o : Int)] 70)) (.cells #[.int .i64 0, .int .i64 0] 42)
    rwa [World.size_alloc] at this
  have HB1 := Lib.hid hb1
  clear hb1
  go_enter Tryd.func122, Tryd.ntmps122
  go_wp2_with fail
  generalize (w.alloc (.cells #[.int .i64 R, .int .i64 C, .int .u64 (z : Int), .int .u64 (o : Int)] 70)).alloc (.cells #[.int .i64 0, .int .i64 0] 42) = w1 at *
  refine wp_region_last (fun | 0 => .int .i64 (i : Int) | 1 => .pointer (some ⟨w.heap.size, 1, none⟩) | 2 => .int .i64 (C : Int) | 3 => .int .i64 (qi : Int) | 4 => .int .i64 ((2 ^ qi : Nat) : Int) | 5 => .int .i64 (i : Int) | 6 => .pointer (some ⟨w.heap.size, 1, none⟩) | 7 => .int .i64 (C : Int) | 8 => .int .i64 (ri : Int) | 9 => .int .i64 ((2 ^ ri : Nat) : Int) | 10 => rect ((2 ^ qi : Nat) : Int) ((2 ^ ri : Nat) : Int) | _ => undef) 11
    (fun wx => wx.setRow (w.heap.size + 1) #[.int .i64 ((2 ^ qi : Nat) : Int), .int .i64 ((2 ^ ri : Nat) : Int)]) _ (by kernel_rfl) (by kernel_rfl) rfl rfl rfl rfl (by kernel_rfl) ?con ?st ?en
  case con =>
    intro j o ho hj a w2 hb2 hf
    obtain ⟨q0, q1, q2, q3⟩ := cells4 ((hb2.block _ (Array.getElem?_eq_some_iff.1 HR1.out).1).trans HR1.out)
    match j, ho with
    | 0, ho =>
      obtain rfl := Option.some.inj ho
      have b1 : a.tmps[1]?.getD undef = .int .i64 (i : Int) := hf.2 1 (by kernel_rfl)
      exact wp_value (.int .i64 (i : Int)) (by unfold execOp; go_simp) ⟨rfl, Below.refl _ _⟩
    | 1, ho =>
      obtain rfl := Option.some.inj ho
      have b2 : a.tmps[2]?.getD undef = .pointer (some ⟨w.heap.size, 0, none⟩) := hf.2 2 (by kernel_rfl)
      exact wp_value (.pointer (some ⟨w.heap.size, 1, none⟩)) (by unfold execOp; go_simp) ⟨rfl, Below.refl _ _⟩
    | 2, ho =>
      obtain rfl := Option.some.inj ho
      have e6 : a.tmps[6]?.getD undef = .pointer (some ⟨w.heap.size, 1, none⟩) := hf.1 ⟨1, .data⟩ (by simp) rfl _ 6 rfl rfl
      exact wp_value (.int .i64 (C : Int)) (by unfold execOp; go_simp) ⟨rfl, Below.refl _ _⟩
    | 3, ho =>
      obtain rfl := Option.some.inj ho
      have e5 : a.tmps[5]?.getD undef = .int .i64 (i : Int) := hf.1 ⟨0, .data⟩ (by simp) rfl _ 5 rfl rfl
      have e7 : a.tmps[7]?.getD undef = .int .i64 (C : Int) := hf.1 ⟨2, .data⟩ (by simp) rfl _ 7 rfl rfl
      have hw := HW.out
      exact wp_value (.int .i64 (qi : Int)) (by unfold execOp; go_simp) ⟨rfl, Below.refl _ _⟩
    | 4, ho =>
      obtain rfl := Option.some.inj ho
      have e8 : a.tmps[8]?.getD undef = .int .i64 (qi : Int) := hf.1 ⟨3, .data⟩ (by simp) rfl _ 8 rfl rfl
      have hsh := HX.out
      exact wp_value (.int .i64 ((2 ^ qi : Nat) : Int)) (by unfold execOp; go_simp) ⟨rfl, Below.refl _ _⟩
    | 5, ho =>
      obtain rfl := Option.some.inj ho
      have b1 : a.tmps[1]?.getD undef = .int .i64 (i : Int) := hf.2 1 (by kernel_rfl)
      exact wp_value (.int .i64 (i : Int)) (by unfold execOp; go_simp) ⟨rfl, Below.refl _ _⟩
    | 6, ho =>
      obtain rfl := Option.some.inj ho
      have b2 : a.tmps[2]?.getD undef = .pointer (some ⟨w.heap.size, 0, none⟩) := hf.2 2 (by kernel_rfl)
      exact wp_value (.pointer (some ⟨w.heap.size, 1, none⟩)) (by unfold execOp; go_simp) ⟨rfl, Below.refl _ _⟩
    | 7, ho =>
      obtain rfl := Option.some.inj ho
      have e11 : a.tmps[11]?.getD undef = .pointer (some ⟨w.heap.size, 1, none⟩) := hf.1 ⟨6, .data⟩ (by simp) rfl _ 11 rfl rfl
      exact wp_value (.int .i64 (C : Int)) (by unfold execOp; go_simp) ⟨rfl, Below.refl _ _⟩
    | 8, ho =>
      obtain rfl := Option.some.inj ho
      have e10 : a.tmps[10]?.getD undef = .int .i64 (i : Int) := hf.1 ⟨5, .data⟩ (by simp) rfl _ 10 rfl rfl
      have e12 : a.tmps[12]?.getD undef = .int .i64 (C : Int) := hf.1 ⟨7, .data⟩ (by simp) rfl _ 12 rfl rfl
      have hm := HM.out
      exact wp_value (.int .i64 (ri : Int)) (by unfold execOp; go_simp) ⟨rfl, Below.refl _ _⟩
    | 9, ho =>
      obtain rfl := Option.some.inj ho
      have e13 : a.tmps[13]?.getD undef = .int .i64 (ri : Int) := hf.1 ⟨8, .data⟩ (by simp) rfl _ 13 rfl rfl
      have hsh := HY.out
      exact wp_value (.int .i64 ((2 ^ ri : Nat) : Int)) (by unfold execOp; go_simp) ⟨rfl, Below.refl _ _⟩
    | 10, ho =>
      obtain rfl := Option.some.inj ho
      have e9 : a.tmps[9]?.getD undef = .int .i64 ((2 ^ qi : Nat) : Int) := hf.1 ⟨4, .data⟩ (by simp) rfl _ 9 rfl rfl
      have e14 : a.tmps[14]?.getD undef = .int .i64 ((2 ^ ri : Nat) : Int) := hf.1 ⟨9, .data⟩ (by simp) rfl _ 14 rfl rfl
      exact wp_value (rect ((2 ^ qi : Nat) : Int) ((2 ^ ri : Nat) : Int)) (by unfold execOp; go_simp) ⟨rfl, Below.refl _ _⟩
    | q + 11, ho => exact absurd hj (by omega)
  case st =>
    intro a w2 hb2 hf
    have b4 : a.tmps[4]?.getD undef = .pointer (some ⟨w.heap.size + 1, 0, none⟩) := hf.2 4 (by kernel_rfl)
    have e15 : a.tmps[15]?.getD undef = rect ((2 ^ qi : Nat) : Int) ((2 ^ ri : Nat) : Int) := hf.1 ⟨10, .data⟩ (by simp) rfl _ 15 rfl rfl
    exact wp_store_row 42 (.tmp 4) (.tmp 15) rfl (w.heap.size + 1) #[.int .i64 ((2 ^ qi : Nat) : Int), .int .i64 ((2 ^ ri : Nat) : Int)] (eget b4) (eget e15) 42 _ ((hb2.block _ (Array.getElem?_eq_some_iff.1 HR2.out).1).trans HR2.out) rinfo2 rfl (by simp [Value.oneCell']) ⟨rfl, rfl⟩
  case en =>
    intro w2 hb2
    have hrow := setRow_kept ((hb2.block _ (Array.getElem?_eq_some_iff.1 HR2.out).1).trans HR2.out) #[.int .i64 ((2 ^ qi : Nat) : Int), .int .i64 ((2 ^ ri : Nat) : Int)]
    have HB2 := Lib.hid (setRow_below (HB1.out.trans (hb2.mono HB1.out.size)) (show w.heap.size ≤ w.heap.size + 1 by omega) #[.int .i64 ((2 ^ qi : Nat) : Int), .int .i64 ((2 ^ ri : Nat) : Int)])
    clear hb2 HR1 HR2 HB1
    generalize w2.setRow (w.heap.size + 1) #[.int .i64 ((2 ^ qi : Nat) : Int), .int .i64 ((2 ^ ri : Nat) : Int)] = wz at *
    obtain ⟨o0, o1, -, -⟩ := cells2 hrow
    clear hrow
    obtain ⟨X, hX⟩ : ∃ X, 2 ^ qi = X := ⟨_, rfl⟩
    obtain ⟨Y, hY⟩ : ∃ Y, 2 ^ ri = Y := ⟨_, rfl⟩
    rw [hX] at o0
    rw [hY] at o1
    simp only [hX, hY]
    have HXX := Lib.hid hX
    have HYY := Lib.hid hY
    clear hX hY
    simp only [fill, Act.put]
    go_simp
    go_wp2_with fail
    exact bodyPost_ret (v := rect X Y) (by simp [results, Tryd.results122, go_sem, o0, o1]) rfl ⟨by rw [HXX.out, HYY.out], HB2.out⟩
end Go.Proofs.YtgmhddceeomjbaaDoor.Cell
