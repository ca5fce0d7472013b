/-
  The rectangle of all rows and columns, of both sides; the program's tree in it.
-/
import Derived.Test.YtgfhahlkffagaaaTreeOf
import Derived.Test.YtgfhahlkffagaaaFreeL
import Derived.Test.YtgfhahlkffagaaaFree
import Derived.Test.YtgfhahlkffagaaaSplit
namespace Go.Proofs.Ytgfhahlkffagaaa.TreeIn
open Go.RowKit Go.Shelf Go.Proofs.Ytgfhahlkffagaaa.Plain Go.Proofs.Ytgfhahlkffagaaa.Tree Go.Proofs.Ytgfhahlkffagaaa.Read Go.Proofs.Ytgfhahlkffagaaa.Rect Go.Proofs.Ytgfhahlkffagaaa.TreeOf Go.Proofs.Ytgfhahlkffagaaa.FreeL
open Go.Proofs.Ytgfhahlkffagaaa.Free (fill wp_value wp_enter wp_load_row freeB)
open Go.Proofs.Ytgfhahlkffagaaa.Split (eval_get cells2 info_rect one_rect)
set_option linter.unusedVariables false
set_option linter.unusedSimpArgs false

/-- the set of so many -/
def allN (r : Nat) : Nat := 2 ^ r - 1
theorem pow_facts (r : Nat) (h : 1 ≤ r ∧ r ≤ 8) : wrap64 ((2 : Int) ^ r) = (allN r : Int) + 1 ∧ 1 ≤ allN r ∧ allN r < 256 := by
  have e : r = 1 ∨ r = 2 ∨ r = 3 ∨ r = 4 ∨ r = 5 ∨ r = 6 ∨ r = 7 ∨ r = 8 := by omega
  rcases e with rfl | rfl | rfl | rfl | rfl | rfl | rfl | rfl <;> (refine ⟨?_, by decide, by decide⟩; simp [allN, wrap64])
set_option maxHeartbeats 2000000 in
theorem whole_said (r c : Nat) (hr : 1 ≤ r ∧ r ≤ 8) (hc : 1 ≤ c ∧ c ≤ 8) (w : World) :
    Calls Try.prog 25 #[.int .i64 (r : Int), .int .i64 (c : Int)] w fun e w' => e = .returned (rect (allN r) (allN c)) ∧ Below w.heap.size w w' := by
  obtain ⟨p1, p2, p3⟩ := pow_facts r hr
  obtain ⟨q1, q2, q3⟩ := pow_facts c hc
  generalize allN r = M at *
  generalize allN c = N at *
  go_enter Try.func25, Try.ntmps25
  go_wp2
  go_returns
  exact ⟨rfl, by go_grown⟩
/-- numbers of rows and columns of a matrix -/
def Sides (r c : Int) : Prop := (1 ≤ r ∧ r ≤ 8) ∧ (1 ≤ c ∧ c ≤ 8)
set_option maxHeartbeats 1000000 in
theorem sides_yes (r c : Int) (h : Sides r c) (w : World) : Calls Try.prog 28 #[.int .i64 r, .int .i64 c] w fun e w' => e = .returned (.bool true) ∧ w = w' := by
  have H := Lib.hid h
  clear h
  go_enter Try.func28, Try.ntmps28
  go_wp2_with fail
  refine (in_any _ _ _ _).mono ?_
  rintro e w' ⟨rfl, rfl⟩
  rw [decide_eq_true H.out.1]
  go_wp2_with fail
  refine (in_any _ _ _ _).mono ?_
  rintro e w' ⟨rfl, rfl⟩
  rw [decide_eq_true H.out.2]
  go_wp2_with fail
  go_ret
  exact ⟨rfl, rfl⟩
set_option maxHeartbeats 1000000 in
theorem sides_no (r c : Int) (h : ¬ Sides r c) (w : World) : Calls Try.prog 28 #[.int .i64 r, .int .i64 c] w fun e w' => e = .returned (.bool false) ∧ w = w' := by
  by_cases h1 : 1 ≤ r ∧ r ≤ 8
  · have h2 : ¬ (1 ≤ c ∧ c ≤ 8) := fun h2 => h ⟨h1, h2⟩
    have H1 := Lib.hid h1
    have H2 := Lib.hid h2
    clear h h1 h2
    go_enter Try.func28, Try.ntmps28
    go_wp2_with fail
    refine (in_any _ _ _ _).mono ?_
    rintro e w' ⟨rfl, rfl⟩
    rw [decide_eq_true H1.out]
    go_wp2_with fail
    refine (in_any _ _ _ _).mono ?_
    rintro e w' ⟨rfl, rfl⟩
    rw [decide_eq_false H2.out]
    go_wp2_with fail
    go_ret
    exact ⟨rfl, rfl⟩
  · have H1 := Lib.hid h1
    clear h h1
    go_enter Try.func28, Try.ntmps28
    go_wp2_with fail
    refine (in_any _ _ _ _).mono ?_
    rintro e w' ⟨rfl, rfl⟩
    rw [decide_eq_false H1.out]
    go_wp2_with fail
    go_ret
    exact ⟨rfl, rfl⟩
set_option maxHeartbeats 1000000 in
theorem side_w (n : Int) (b : Bool) (h : decide (1 ≤ n ∧ n ≤ 8) = b) (w : World) : Calls Try.prog 57 #[.int .i64 n] w fun e w' => e = .returned (.bool b) ∧ w = w' := by
  subst h
  by_cases h1 : 1 ≤ n
  · by_cases h2 : n ≤ 8
    · rw [decide_eq_true ⟨h1, h2⟩]
      go_enter Try.func57, Try.ntmps57
      go_wp2
      go_ret
      exact ⟨rfl, rfl⟩
    · rw [decide_eq_false (fun x => h2 x.2)]
      have h3 : 8 < n := by omega
      clear h2
      go_enter Try.func57, Try.ntmps57
      go_wp2
      go_ret
      exact ⟨by simp; omega, rfl⟩
  · rw [decide_eq_false (fun x => h1 x.1)]
    have h3 : n < 1 := by omega
    clear h1
    go_enter Try.func57, Try.ntmps57
    go_wp2
    go_ret
    exact ⟨rfl, rfl⟩

set_option maxHeartbeats 2000000 in
set_option maxRecDepth 100000 in
/-- numbers that are no sides -/
theorem in_bad (s : ByteArray) (r c : Int) (h : ¬ Sides r c) (w : World) :
    Calls Try.prog 41 #[.string s, .int .i64 r, .int .i64 c] w fun e w' => e = .returned (.tuple #[.nilIface, rect 0 0]) ∧ Below w.heap.size w w' := by
  by_cases h1 : 1 ≤ r ∧ r ≤ 8
  · have h2 : ¬ (1 ≤ c ∧ c ≤ 8) := fun h2 => h ⟨h1, h2⟩
    have HS1 := Lib.hid (side_w r true (decide_eq_true h1))
    have HS2 := Lib.hid (side_w c false (decide_eq_false h2))
    clear h h1 h2
    go_enter Try.func41, Try.ntmps41
    go_wp2_with fail
    refine (HS1.out _).mono ?_
    rintro e w' ⟨rfl, rfl⟩
    go_wp2_with fail
    refine (HS2.out _).mono ?_
    rintro e w' ⟨rfl, rfl⟩
    go_wp2_with fail
    refine bodyPost_ret (v := .tuple #[.nilIface, rect 0 0]) (by simp [results, Try.results41, go_sem]) rfl ⟨rfl, by go_grown⟩
  · have HS1 := Lib.hid (side_w r false (decide_eq_false h1))
    clear h h1
    go_enter Try.func41, Try.ntmps41
    go_wp2_with fail
    refine (HS1.out _).mono ?_
    rintro e w' ⟨rfl, rfl⟩
    go_wp2_with fail
    refine bodyPost_ret (v := .tuple #[.nilIface, rect 0 0]) (by simp [results, Try.results41, go_sem]) rfl ⟨rfl, by go_grown⟩

set_option maxHeartbeats 4000000 in
set_option maxRecDepth 100000 in
theorem in_yes (s : ByteArray) (X : Value) (hX : ∀ W : World, Calls Try.prog 37 #[.string s] W fun e w' => e = .returned X ∧ Below W.heap.size W w') (r c : Nat) (hr : 1 ≤ r ∧ r ≤ 8) (hc : 1 ≤ c ∧ c ≤ 8) (w : World) :
    Calls Try.prog 41 #[.string s, .int .i64 (r : Int), .int .i64 (c : Int)] w fun e w' => e = .returned (.tuple #[X, rect (allN r) (allN c)]) ∧ Below w.heap.size w w' := by
  have HS1 := Lib.hid (side_w (r : Int) true (decide_eq_true (by omega)))
  have HS2 := Lib.hid (side_w (c : Int) true (decide_eq_true (by omega)))
  have HX := Lib.hid hX
  have HP := Lib.hid (And.intro (pow_facts r hr) (pow_facts c hc))
  generalize allN r = M at *
  generalize allN c = N at *
  obtain ⟨B, hB⟩ : ∃ B, w.heap.size = B := ⟨_, rfl⟩
  have HBB := Lib.hid hB
  obtain ⟨r1, r2⟩ := hr
  obtain ⟨c1, c2⟩ := hc
  clear hX
  go_enter Try.func41, Try.ntmps41
  go_wp2_with fail
  refine (HS1.out _).mono ?_
  rintro e w' ⟨rfl, rfl⟩
  go_wp2_with fail
  refine (HS2.out _).mono ?_
  rintro e w' ⟨rfl, rfl⟩
  go_wp2_with fail
  obtain ⟨W1, hW1⟩ : ∃ W1, w.alloc (.cells #[.int .i64 0, .int .i64 0] 23) = W1 := ⟨_, rfl⟩
  rw [hW1]
  have HW : Hid (Below w.heap.size w W1) := by show Below _ _ _; rw [← hW1]; exact (Below.refl _ _).alloc (Nat.le_refl _) _
  have HM0 : Hid (∀ wx : World, Below W1.heap.size W1 wx → wx.heap[B]? = some (.cells #[.int .i64 0, .int .i64 0] 23 (0, 0))) := fun wx h => by
    have h0 : W1.heap[B]? = some (.cells #[.int .i64 0, .int .i64 0] 23 (0, 0)) := by rw [← hW1, ← HBB.out]; exact heap_alloc_new w _
    exact (h.block _ (Array.getElem?_eq_some_iff.1 h0).1).trans h0
  clear hW1 hB
  refine wp_region_last (fun | 0 => .string s | 1 => X | 2 => .int .i64 (r : Int) | 3 => .int .i64 ((M : Int) + 1) | 4 => .int .i64 (M : Int) | 5 => .int .i64 (c : Int) | 6 => .int .i64 ((N : Int) + 1) | 7 => .int .i64 (N : Int) | 8 => rect M N | 9 => X | _ => undef) 10 (fun wx => wx.setRow B #[.int .i64 (M : Int), .int .i64 (N : Int)]) _ (by kernel_rfl) (by kernel_rfl) rfl rfl rfl rfl (by kernel_rfl) ?con ?st ?en
  case con =>
    intro i o ho hlt a wx hb hf
    match i, ho with
    | 0, ho =>
      obtain rfl := Option.some.inj ho
      have b0 : a.tmps[0]?.getD undef = .string s := hf.2 0 (by kernel_rfl)
      exact wp_value (.string s) (by unfold execOp; go_simp) ⟨rfl, Below.refl _ _⟩
    | 1, ho =>
      obtain rfl := Option.some.inj ho
      have e17 : a.tmps[17]?.getD undef = .string s := hf.1 ⟨0, .data⟩ (by simp) rfl _ 17 rfl rfl
      exact wp_enter 37 #[.string s] X _ (by unfold execOp; go_simp) (HX.out wx) (fun w' h => ⟨rfl, h⟩)
    | 2, ho =>
      obtain rfl := Option.some.inj ho
      have b1 : a.tmps[1]?.getD undef = .int .i64 (r : Int) := hf.2 1 (by kernel_rfl)
      exact wp_value (.int .i64 (r : Int)) (by unfold execOp; go_simp) ⟨rfl, Below.refl _ _⟩
    | 3, ho =>
      obtain rfl := Option.some.inj ho
      have e19 : a.tmps[19]?.getD undef = .int .i64 (r : Int) := hf.1 ⟨2, .data⟩ (by simp) rfl _ 19 rfl rfl
      have p1 := HP.out.1.1
      exact wp_value (.int .i64 ((M : Int) + 1)) (by unfold execOp; go_simp; first | exact p1 | (simp only [IntKind.wrap_i64, wrap64] at p1 ⊢; exact p1)) ⟨rfl, Below.refl _ _⟩
    | 4, ho =>
      obtain rfl := Option.some.inj ho
      have e20 : a.tmps[20]?.getD undef = .int .i64 ((M : Int) + 1) := hf.1 ⟨3, .data⟩ (by simp) rfl _ 20 rfl rfl
      have p3 := HP.out.1.2.2
      exact wp_value (.int .i64 (M : Int)) (by unfold execOp; go_simp; simp only [IntKind.wrap_i64]; omega) ⟨rfl, Below.refl _ _⟩
    | 5, ho =>
      obtain rfl := Option.some.inj ho
      have b2 : a.tmps[2]?.getD undef = .int .i64 (c : Int) := hf.2 2 (by kernel_rfl)
      exact wp_value (.int .i64 (c : Int)) (by unfold execOp; go_simp) ⟨rfl, Below.refl _ _⟩
    | 6, ho =>
      obtain rfl := Option.some.inj ho
      have e22 : a.tmps[22]?.getD undef = .int .i64 (c : Int) := hf.1 ⟨5, .data⟩ (by simp) rfl _ 22 rfl rfl
      have p1 := HP.out.2.1
      exact wp_value (.int .i64 ((N : Int) + 1)) (by unfold execOp; go_simp; first | exact p1 | (simp only [IntKind.wrap_i64, wrap64] at p1 ⊢; exact p1)) ⟨rfl, Below.refl _ _⟩
    | 7, ho =>
      obtain rfl := Option.some.inj ho
      have e23 : a.tmps[23]?.getD undef = .int .i64 ((N : Int) + 1) := hf.1 ⟨6, .data⟩ (by simp) rfl _ 23 rfl rfl
      have p3 := HP.out.2.2.2
      exact wp_value (.int .i64 (N : Int)) (by unfold execOp; go_simp; simp only [IntKind.wrap_i64]; omega) ⟨rfl, Below.refl _ _⟩
    | 8, ho =>
      obtain rfl := Option.some.inj ho
      have e21 : a.tmps[21]?.getD undef = .int .i64 (M : Int) := hf.1 ⟨4, .data⟩ (by simp) rfl _ 21 rfl rfl
      have e24 : a.tmps[24]?.getD undef = .int .i64 (N : Int) := hf.1 ⟨7, .data⟩ (by simp) rfl _ 24 rfl rfl
      exact wp_value (rect M N) (by unfold execOp; go_simp) ⟨rfl, Below.refl _ _⟩
    | 9, ho =>
      obtain rfl := Option.some.inj ho
      have e18 : a.tmps[18]?.getD undef = X := hf.1 ⟨1, .data⟩ (by simp) rfl _ 18 rfl rfl
      exact wp_value X (by unfold execOp; go_simp) ⟨rfl, Below.refl _ _⟩
    | 10, ho => exact absurd hlt (by omega)
    | q + 11, ho => simp at ho
  case st =>
    intro a wx hb hf
    have e25 : a.tmps[25]?.getD undef = rect M N := hf.1 ⟨8, .data⟩ (by simp) rfl _ 25 rfl rfl
    have b7 : a.tmps[7]?.getD undef = .pointer (some ⟨B, 0, none⟩) := hf.2 7 (by kernel_rfl)
    exact wp_store_row 23 (.tmp 7) (.tmp 25) rfl B #[.int .i64 (M : Int), .int .i64 (N : Int)] (eval_get b7) (eval_get e25) 23 _ (HM0.out wx hb) (info_rect _ _) rfl (one_rect _ _) ⟨rfl, rfl⟩
  intro w5 hb5
  have HR : Hid ((w5.setRow B #[.int .i64 (M : Int), .int .i64 (N : Int)]).heap[B]? = some (.cells #[.int .i64 (M : Int), .int .i64 (N : Int)] 23 (0, 0))) := by
    have h0 := HM0.out w5 hb5
    show _ = _
    simp [World.setRow, Array.getElem?_modify, h0]
  have HB5 : Hid (Below w.heap.size w (w5.setRow B #[.int .i64 (M : Int), .int .i64 (N : Int)])) := by
    have h0 := HW.out.trans (hb5.mono HW.out.size)
    exact h0.trans ⟨rfl, rfl, rfl, by simp [World.setRow], fun k hk => by simp only [World.setRow, Array.getElem?_modify]; rw [if_neg (by rw [HBB.out] at hk; omega)]⟩
  clear hb5 HM0 HW
  simp only [fill, Act.put]
  go_simp
  generalize w5.setRow B #[.int .i64 (M : Int), .int .i64 (N : Int)] = w6 at *
  obtain ⟨x0, x1, _, _⟩ := cells2 HR.out
  go_wp2_with fail
  refine bodyPost_ret (v := .tuple #[X, rect M N]) (by simp [results, Try.results41, go_sem, x0, x1]) rfl ⟨rfl, HB5.out⟩
end Go.Proofs.Ytgfhahlkffagaaa.TreeIn
