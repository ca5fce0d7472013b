/-
  The matrices that are told by a number: the contracts of EqualMatrix, GreaterMatrix, DisjointMatrix, InnerMatrix, IndexMatrix, of the program's and of the reference's.
-/
import Derived.Test.YtgmhddceeomjbaaDoorMake
import Derived.Test.YtgmhddceeomjbaaDoorFrom
namespace Go.Proofs.YtgmhddceeomjbaaDoor.Sets
open Go.RowKit Go.Proofs.YtgmhddceeomjbaaDoor.Plain Go.Proofs.YtgmhddceeomjbaaDoor.Base Go.Proofs.YtgmhddceeomjbaaDoor.Make Go.Proofs.YtgmhddceeomjbaaDoor.From

set_option linter.unusedVariables false
theorem bcell {W w1 : World} (hb : Below W.heap.size W w1) : (∀ b o, b < W.heap.size → w1.cell? ⟨b, o, none⟩ = W.cell? ⟨b, o, none⟩) ∧ (∀ b o, b < W.heap.size → w1.frozen? ⟨b, o, none⟩ = W.frozen? ⟨b, o, none⟩) :=
  ⟨fun b o h => hb.cell (p := ⟨b, o, none⟩) h, fun b o h => hb.frozen (p := ⟨b, o, none⟩) h⟩
theorem bend {w w1 : World} (hb : Below (w0 w).heap.size (w0 w) w1) (a b d : Value) : Below w.heap.size w (((w1.setCell ⟨w.heap.size, 0, none⟩ a).setCell ⟨w.heap.size, 1, none⟩ b).setCell ⟨w.heap.size, 2, none⟩ d) :=
  ((((below_w0 w).trans (hb.mono (by simp))).setCell (Nat.le_refl _) _).setCell (Nat.le_refl _) _).setCell (Nat.le_refl _) _
theorem c3 (n : Nat) : (((ones n : Nat) : Int) % 2 : Int) = bitI (decide (ones n % 2 = 1)) := by
  unfold bitI
  by_cases h : ones n % 2 = 1
  · simp only [h, decide_true, if_true]; omega
  · simp only [h, decide_false]; simp; omega
theorem c4 (x y : Nat) (hx : x < 8) (hy : y < 8) : Go.bits .and .i64 ((x : Int) / 2 ^ y) 1 = bitI (decide ((x >>> y) % 2 = 1)) := by
  have h : ∀ k : Fin 8, ∀ j : Fin 8, Go.bits .and .i64 (((k.val : Nat) : Int) / 2 ^ j.val) 1 = bitI (decide ((k.val >>> j.val) % 2 = 1)) := by decide +kernel
  exact h ⟨x, hx⟩ ⟨y, hy⟩
theorem Tells.later {g : Nat} {lb : Array Value} {r c : Nat} {E : Nat → Nat → Bool} {w w1 : World} (h : Tells g lb r c E w) (hb : Below w.heap.size w w1) : Tells g lb r c E w1 :=
  fun W x y hx hy hb' => h W x y hx hy (hb.trans (hb'.mono hb.size))

set_option maxHeartbeats 400000 in
theorem fn0 (x y : Nat) (hx : x < 8) (hy : y < 8) (w : World) :
    Calls Tryd.prog 105 #[.int .i64 (x : Int), .int .i64 (y : Int)] w fun e w' => e = .returned (.int .i64 (bitI ((fun x y => decide (x = y)) x y))) ∧ w = w' := by
  go_enter Tryd.func105, Tryd.ntmps105
  go_wp2_with fail
  refine (bitOf_any _ _).mono ?_
  rintro e w' ⟨rfl, rfl⟩
  go_wp2_with fail
  go_ret
  exact ⟨congrArg (fun b => Ending.returned (.int .i64 (bitI b))) (show (((x : Int) == (y : Int)) : Bool) = (fun x y => decide (x = y)) x y from b0 x y), rfl⟩

set_option maxHeartbeats 400000 in
theorem fn1 (x y : Nat) (hx : x < 8) (hy : y < 8) (w : World) :
    Calls Tryd.prog 108 #[.int .i64 (x : Int), .int .i64 (y : Int)] w fun e w' => e = .returned (.int .i64 (bitI ((fun x y => decide (y < x)) x y))) ∧ w = w' := by
  go_enter Tryd.func108, Tryd.ntmps108
  go_wp2_with fail
  refine (bitOf_any _ _).mono ?_
  rintro e w' ⟨rfl, rfl⟩
  go_wp2_with fail
  go_ret
  exact ⟨congrArg (fun b => Ending.returned (.int .i64 (bitI b))) (show (decide (y < x) : Bool) = (fun x y => decide (y < x)) x y from rfl), rfl⟩

set_option maxHeartbeats 400000 in
theorem fn2 (x y : Nat) (hx : x < 8) (hy : y < 8) (w : World) :
    Calls Tryd.prog 113 #[.int .i64 (x : Int), .int .i64 (y : Int)] w fun e w' => e = .returned (.int .i64 (bitI ((fun x y => decide (x &&& y = 0)) x y))) ∧ w = w' := by
  have hbit := and_nat x y hx hy
  go_enter Tryd.func113, Tryd.ntmps113
  go_wp2_with fail
  refine (bitOf_any _ _).mono ?_
  rintro e w' ⟨rfl, rfl⟩
  go_wp2_with fail
  go_ret
  exact ⟨congrArg (fun b => Ending.returned (.int .i64 (bitI b))) (show ((((x &&& y : Nat) : Int) == 0) : Bool) = (fun x y => decide (x &&& y = 0)) x y from b2 x y), rfl⟩

set_option maxHeartbeats 400000 in
theorem count8 (x : Nat) (hx : x < 8) (w : World) :
    Calls Tryd.prog 115 #[.int .u64 (x : Int)] w fun e w' => e = .returned (.int .i64 (ones x : Int)) ∧ w = w' := by
  have h : x = 0 ∨ x = 1 ∨ x = 2 ∨ x = 3 ∨ x = 4 ∨ x = 5 ∨ x = 6 ∨ x = 7 := by omega
  rcases h with rfl | rfl | rfl | rfl | rfl | rfl | rfl | rfl
  all_goals
    go_enter Tryd.func115, Tryd.ntmps115
    go_wp2
    go_ret
    exact ⟨by kernel_rfl, rfl⟩

set_option maxHeartbeats 400000 in
theorem fn3 (x y : Nat) (hx : x < 8) (hy : y < 8) (w : World) :
    Calls Tryd.prog 114 #[.int .i64 (x : Int), .int .i64 (y : Int)] w fun e w' => e = .returned (.int .i64 (bitI ((fun x y => decide (ones (x &&& y) % 2 = 1)) x y))) ∧ w = w' := by
  have hbit := and_nat x y hx hy
  have hand : x &&& y < 8 := Nat.lt_of_le_of_lt Nat.and_le_left hx
  go_enter Tryd.func114, Tryd.ntmps114
  go_wp2_with fail
  refine (count8 (x &&& y) hand _).mono ?_
  rintro e w' ⟨rfl, rfl⟩
  go_wp2_with fail
  go_ret
  exact ⟨congrArg (fun b => Ending.returned (.int .i64 b)) (show (((ones (x &&& y) : Nat) : Int) % 2 : Int) = bitI ((fun x y => decide (ones (x &&& y) % 2 = 1)) x y) from c3 _), rfl⟩

set_option maxHeartbeats 400000 in
theorem fn4 (x y : Nat) (hx : x < 8) (hy : y < 8) (w : World) :
    Calls Tryd.prog 116 #[.int .i64 (x : Int), .int .i64 (y : Int)] w fun e w' => e = .returned (.int .i64 (bitI ((fun x y => decide ((x >>> y) % 2 = 1)) x y))) ∧ w = w' := by
  go_enter Tryd.func116, Tryd.ntmps116
  go_wp2_with fail
  go_ret
  exact ⟨congrArg (fun b => Ending.returned (.int .i64 b)) (c4 x y hx hy), rfl⟩

set_option maxHeartbeats 400000 in
theorem setsYes (n : Nat) (hn : n ≤ 3) (w : World) :
    Calls Tryd.prog 112 #[.int .i64 (n : Int)] w fun e w' => e = .returned (.int .i64 ((2 ^ n : Nat) : Int)) ∧ w = w' := by
  have h : n = 0 ∨ n = 1 ∨ n = 2 ∨ n = 3 := by omega
  rcases h with rfl | rfl | rfl | rfl
  all_goals
    go_enter Tryd.func112, Tryd.ntmps112
    go_wp2
    go_ret
    exact ⟨by kernel_rfl, rfl⟩
set_option maxHeartbeats 400000 in
theorem setsNo (n : Int) (h : n < 0 ∨ 3 < n) (w : World) :
    Calls Tryd.prog 112 #[.int .i64 n] w fun e w' => e = .returned (.int .i64 0) ∧ w = w' := by
  by_cases h0 : n < 0
  · clear h
    go_enter Tryd.func112, Tryd.ntmps112
    go_wp2
    all_goals (go_ret; exact ⟨rfl, rfl⟩)
  · have h3 : 3 < n := by omega
    clear h h0
    go_enter Tryd.func112, Tryd.ntmps112
    go_wp2
    all_goals (go_ret; exact ⟨rfl, rfl⟩)

set_option maxHeartbeats 400000 in
theorem spec0 (n : Nat) (h1 : 1 ≤ n) (h2 : n ≤ 8) (w : World) :
    Calls Tryd.prog 42 #[.int .i64 (n : Int)] w fun e w' => e = .returned (.tuple #[mat ((n : Nat) : Int) ((n : Nat) : Int) (str (rowsB (fun x y => decide (x = y)) (n) (n))), .bool true]) ∧ Below w.heap.size w w' := by
  go_enter Tryd.func42, Tryd.ntmps42
  go_wp2_with fail
  refine (l1In_true _ _ _ (by omega) (by omega) _).mono ?_
  rintro e w' ⟨rfl, rfl⟩
  go_wp2_with fail
  refine (make0 n n (by omega) (by omega) _).mono ?_
  rintro e w1 ⟨rfl, hb⟩
  obtain ⟨hc, hf⟩ := bcell hb
  go_wp2_with fail
  refine bodyPost_ret (v := .tuple #[mat ((n : Nat) : Int) ((n : Nat) : Int) (str (rowsB (fun x y => decide (x = y)) n n)), .bool true]) (by simp [results, Tryd.results42, go_sem, hc]) rfl ⟨rfl, bend hb _ _ _⟩

set_option maxHeartbeats 400000 in
theorem specNo0 (n : Int) (h : n < 1 ∨ 8 < n) (w : World) :
    Calls Tryd.prog 42 #[.int .i64 n] w fun e w' => e = .returned (.tuple #[mat 0 0 (str []), .bool false]) ∧ Below w.heap.size w w' := by
  have H := Lib.hid h
  clear h
  go_enter Tryd.func42, Tryd.ntmps42
  go_wp2_with fail
  refine (l1In_false _ _ _ H.out _).mono ?_
  rintro e w' ⟨rfl, rfl⟩
  go_wp2_with fail
  refine bodyPost_ret (v := .tuple #[mat 0 0 (str []), .bool false]) (by simp [results, Tryd.results42, go_sem, str]) rfl ⟨rfl, ?_⟩
  go_grown

theorem tells0 (r c : Nat) (hr : r ≤ 8) (hc : c ≤ 8) (w : World) : Tells 105 #[] r c (fun x y => decide (x = y)) w := fun W x y hx hy _ =>
  (fn0 x y (by omega) (by omega) W).mono fun _ _ ⟨he, hw⟩ => ⟨he, hw ▸ Below.refl _ _⟩
theorem enters0 (args : Array Value) (W : World) : (callFunc 105 args).run Tryd.prog W = .ok (.enter 105 args) W := by
  kernel_rfl

set_option maxHeartbeats 400000 in
theorem impl0 (n : Nat) (h1 : 1 ≤ n) (h2 : n ≤ 8) (w : World) :
    Calls Tryd.prog 41 #[.int .i64 (n : Int)] w fun e w' => e = .returned (.tuple #[mat ((n : Nat) : Int) ((n : Nat) : Int) (str (rowsB (fun x y => decide (x = y)) (n) (n))), .bool true]) ∧ Below w.heap.size w w' := by
  have HT := Lib.hid (tells0 n n (by omega) (by omega) (w0 w))
  go_enter Tryd.func41, Tryd.ntmps41
  go_wp2_with fail
  refine (from_any 105 #[] n n (by omega) (by omega) (by omega) (by omega) _ _ enters0 HT).mono ?_
  rintro e w1 ⟨rfl, hb⟩
  obtain ⟨hc, hf⟩ := bcell hb
  go_wp2_with fail
  refine bodyPost_ret (v := .tuple #[mat ((n : Nat) : Int) ((n : Nat) : Int) (str (rowsB (fun x y => decide (x = y)) n n)), .bool true]) (by simp [results, Tryd.results41, go_sem, hc]) rfl ⟨rfl, bend hb _ _ _⟩

set_option maxHeartbeats 400000 in
theorem implNo0 (n : Int) (h : n < 1 ∨ 8 < n) (w : World) :
    Calls Tryd.prog 41 #[.int .i64 n] w fun e w' => e = .returned (.tuple #[mat 0 0 (str []), .bool false]) ∧ Below w.heap.size w w' := by
  have HF := Lib.hid (show (n < 1 ∨ 8 < n) ∨ (n < 1 ∨ 8 < n) from .inl h)
  clear h
  go_enter Tryd.func41, Tryd.ntmps41
  go_wp2_with fail
  refine (from_no _ _ _ HF.out _).mono ?_
  rintro e w1 ⟨rfl, hb⟩
  obtain ⟨hc, hf⟩ := bcell hb
  go_wp2_with fail
  refine bodyPost_ret (v := .tuple #[mat 0 0 (str []), .bool false]) (by simp [results, Tryd.results41, go_sem, hc]) rfl ⟨rfl, bend hb _ _ _⟩

set_option maxHeartbeats 400000 in
theorem spec1 (n : Nat) (h1 : 1 ≤ n) (h2 : n ≤ 8) (w : World) :
    Calls Tryd.prog 44 #[.int .i64 (n : Int)] w fun e w' => e = .returned (.tuple #[mat ((n : Nat) : Int) ((n : Nat) : Int) (str (rowsB (fun x y => decide (y < x)) (n) (n))), .bool true]) ∧ Below w.heap.size w w' := by
  go_enter Tryd.func44, Tryd.ntmps44
  go_wp2_with fail
  refine (l1In_true _ _ _ (by omega) (by omega) _).mono ?_
  rintro e w' ⟨rfl, rfl⟩
  go_wp2_with fail
  refine (make1 n n (by omega) (by omega) _).mono ?_
  rintro e w1 ⟨rfl, hb⟩
  obtain ⟨hc, hf⟩ := bcell hb
  go_wp2_with fail
  refine bodyPost_ret (v := .tuple #[mat ((n : Nat) : Int) ((n : Nat) : Int) (str (rowsB (fun x y => decide (y < x)) n n)), .bool true]) (by simp [results, Tryd.results44, go_sem, hc]) rfl ⟨rfl, bend hb _ _ _⟩

set_option maxHeartbeats 400000 in
theorem specNo1 (n : Int) (h : n < 1 ∨ 8 < n) (w : World) :
    Calls Tryd.prog 44 #[.int .i64 n] w fun e w' => e = .returned (.tuple #[mat 0 0 (str []), .bool false]) ∧ Below w.heap.size w w' := by
  have H := Lib.hid h
  clear h
  go_enter Tryd.func44, Tryd.ntmps44
  go_wp2_with fail
  refine (l1In_false _ _ _ H.out _).mono ?_
  rintro e w' ⟨rfl, rfl⟩
  go_wp2_with fail
  refine bodyPost_ret (v := .tuple #[mat 0 0 (str []), .bool false]) (by simp [results, Tryd.results44, go_sem, str]) rfl ⟨rfl, ?_⟩
  go_grown

theorem tells1 (r c : Nat) (hr : r ≤ 8) (hc : c ≤ 8) (w : World) : Tells 108 #[] r c (fun x y => decide (y < x)) w := fun W x y hx hy _ =>
  (fn1 x y (by omega) (by omega) W).mono fun _ _ ⟨he, hw⟩ => ⟨he, hw ▸ Below.refl _ _⟩
theorem enters1 (args : Array Value) (W : World) : (callFunc 108 args).run Tryd.prog W = .ok (.enter 108 args) W := by
  kernel_rfl

set_option maxHeartbeats 400000 in
theorem impl1 (n : Nat) (h1 : 1 ≤ n) (h2 : n ≤ 8) (w : World) :
    Calls Tryd.prog 43 #[.int .i64 (n : Int)] w fun e w' => e = .returned (.tuple #[mat ((n : Nat) : Int) ((n : Nat) : Int) (str (rowsB (fun x y => decide (y < x)) (n) (n))), .bool true]) ∧ Below w.heap.size w w' := by
  have HT := Lib.hid (tells1 n n (by omega) (by omega) (w0 w))
  go_enter Tryd.func43, Tryd.ntmps43
  go_wp2_with fail
  refine (from_any 108 #[] n n (by omega) (by omega) (by omega) (by omega) _ _ enters1 HT).mono ?_
  rintro e w1 ⟨rfl, hb⟩
  obtain ⟨hc, hf⟩ := bcell hb
  go_wp2_with fail
  refine bodyPost_ret (v := .tuple #[mat ((n : Nat) : Int) ((n : Nat) : Int) (str (rowsB (fun x y => decide (y < x)) n n)), .bool true]) (by simp [results, Tryd.results43, go_sem, hc]) rfl ⟨rfl, bend hb _ _ _⟩

set_option maxHeartbeats 400000 in
theorem implNo1 (n : Int) (h : n < 1 ∨ 8 < n) (w : World) :
    Calls Tryd.prog 43 #[.int .i64 n] w fun e w' => e = .returned (.tuple #[mat 0 0 (str []), .bool false]) ∧ Below w.heap.size w w' := by
  have HF := Lib.hid (show (n < 1 ∨ 8 < n) ∨ (n < 1 ∨ 8 < n) from .inl h)
  clear h
  go_enter Tryd.func43, Tryd.ntmps43
  go_wp2_with fail
  refine (from_no _ _ _ HF.out _).mono ?_
  rintro e w1 ⟨rfl, hb⟩
  obtain ⟨hc, hf⟩ := bcell hb
  go_wp2_with fail
  refine bodyPost_ret (v := .tuple #[mat 0 0 (str []), .bool false]) (by simp [results, Tryd.results43, go_sem, hc]) rfl ⟨rfl, bend hb _ _ _⟩

set_option maxHeartbeats 400000 in
theorem spec2 (n : Nat) (h2 : n ≤ 3) (w : World) :
    Calls Tryd.prog 49 #[.int .i64 (n : Int)] w fun e w' => e = .returned (.tuple #[mat ((2 ^ n : Nat) : Int) ((2 ^ n : Nat) : Int) (str (rowsB (fun x y => decide (x &&& y = 0)) (2 ^ n) (2 ^ n))), .bool true]) ∧ Below w.heap.size w w' := by
  have h : n = 0 ∨ n = 1 ∨ n = 2 ∨ n = 3 := by omega
  rcases h with rfl | rfl | rfl | rfl
  · go_enter Tryd.func49, Tryd.ntmps49
    go_wp2_with fail
    refine (l1In_true _ _ _ (by omega) (by omega) _).mono ?_
    rintro e w' ⟨rfl, rfl⟩
    go_wp2_with fail
    refine (make2 1 1 (by omega) (by omega) _).mono ?_
    rintro e w1 ⟨rfl, hb⟩
    obtain ⟨hc, hf⟩ := bcell hb
    go_wp2_with fail
    refine bodyPost_ret (v := .tuple #[mat ((1 : Nat) : Int) ((1 : Nat) : Int) (str (rowsB (fun x y => decide (x &&& y = 0)) 1 1)), .bool true]) (by simp [results, Tryd.results49, go_sem, hc]) rfl ⟨rfl, bend hb _ _ _⟩
  · go_enter Tryd.func49, Tryd.ntmps49
    go_wp2_with fail
    refine (l1In_true _ _ _ (by omega) (by omega) _).mono ?_
    rintro e w' ⟨rfl, rfl⟩
    go_wp2_with fail
    refine (make2 2 2 (by omega) (by omega) _).mono ?_
    rintro e w1 ⟨rfl, hb⟩
    obtain ⟨hc, hf⟩ := bcell hb
    go_wp2_with fail
    refine bodyPost_ret (v := .tuple #[mat ((2 : Nat) : Int) ((2 : Nat) : Int) (str (rowsB (fun x y => decide (x &&& y = 0)) 2 2)), .bool true]) (by simp [results, Tryd.results49, go_sem, hc]) rfl ⟨rfl, bend hb _ _ _⟩
  · go_enter Tryd.func49, Tryd.ntmps49
    go_wp2_with fail
    refine (l1In_true _ _ _ (by omega) (by omega) _).mono ?_
    rintro e w' ⟨rfl, rfl⟩
    go_wp2_with fail
    refine (make2 4 4 (by omega) (by omega) _).mono ?_
    rintro e w1 ⟨rfl, hb⟩
    obtain ⟨hc, hf⟩ := bcell hb
    go_wp2_with fail
    refine bodyPost_ret (v := .tuple #[mat ((4 : Nat) : Int) ((4 : Nat) : Int) (str (rowsB (fun x y => decide (x &&& y = 0)) 4 4)), .bool true]) (by simp [results, Tryd.results49, go_sem, hc]) rfl ⟨rfl, bend hb _ _ _⟩
  · go_enter Tryd.func49, Tryd.ntmps49
    go_wp2_with fail
    refine (l1In_true _ _ _ (by omega) (by omega) _).mono ?_
    rintro e w' ⟨rfl, rfl⟩
    go_wp2_with fail
    refine (make2 8 8 (by omega) (by omega) _).mono ?_
    rintro e w1 ⟨rfl, hb⟩
    obtain ⟨hc, hf⟩ := bcell hb
    go_wp2_with fail
    refine bodyPost_ret (v := .tuple #[mat ((8 : Nat) : Int) ((8 : Nat) : Int) (str (rowsB (fun x y => decide (x &&& y = 0)) 8 8)), .bool true]) (by simp [results, Tryd.results49, go_sem, hc]) rfl ⟨rfl, bend hb _ _ _⟩

set_option maxHeartbeats 400000 in
theorem specNo2 (n : Int) (h : n < 0 ∨ 3 < n) (w : World) :
    Calls Tryd.prog 49 #[.int .i64 n] w fun e w' => e = .returned (.tuple #[mat 0 0 (str []), .bool false]) ∧ Below w.heap.size w w' := by
  have H := Lib.hid h
  clear h
  go_enter Tryd.func49, Tryd.ntmps49
  go_wp2_with fail
  refine (l1In_false _ _ _ H.out _).mono ?_
  rintro e w' ⟨rfl, rfl⟩
  go_wp2_with fail
  refine bodyPost_ret (v := .tuple #[mat 0 0 (str []), .bool false]) (by simp [results, Tryd.results49, go_sem, str]) rfl ⟨rfl, ?_⟩
  go_grown

theorem tells2 (r c : Nat) (hr : r ≤ 8) (hc : c ≤ 8) (w : World) : Tells 113 #[] r c (fun x y => decide (x &&& y = 0)) w := fun W x y hx hy _ =>
  (fn2 x y (by omega) (by omega) W).mono fun _ _ ⟨he, hw⟩ => ⟨he, hw ▸ Below.refl _ _⟩
theorem enters2 (args : Array Value) (W : World) : (callFunc 113 args).run Tryd.prog W = .ok (.enter 113 args) W := by
  kernel_rfl

set_option maxHeartbeats 400000 in
theorem impl2 (n : Nat) (h2 : n ≤ 3) (w : World) :
    Calls Tryd.prog 48 #[.int .i64 (n : Int)] w fun e w' => e = .returned (.tuple #[mat ((2 ^ n : Nat) : Int) ((2 ^ n : Nat) : Int) (str (rowsB (fun x y => decide (x &&& y = 0)) (2 ^ n) (2 ^ n))), .bool true]) ∧ Below w.heap.size w w' := by
  have h : n = 0 ∨ n = 1 ∨ n = 2 ∨ n = 3 := by omega
  rcases h with rfl | rfl | rfl | rfl
  · have HT := Lib.hid (tells2 1 1 (by omega) (by omega) (w0 w))
    go_enter Tryd.func48, Tryd.ntmps48
    go_wp2_with fail
    refine (setsYes 0 (by omega) _).mono ?_
    rintro e w' ⟨rfl, rfl⟩
    go_wp2_with fail
    refine (from_any 113 #[] 1 1 (by omega) (by omega) (by omega) (by omega) _ _ enters2 HT).mono ?_
    rintro e w1 ⟨rfl, hb⟩
    obtain ⟨hc, hf⟩ := bcell hb
    go_wp2_with fail
    refine bodyPost_ret (v := .tuple #[mat ((1 : Nat) : Int) ((1 : Nat) : Int) (str (rowsB (fun x y => decide (x &&& y = 0)) 1 1)), .bool true]) (by simp [results, Tryd.results48, go_sem, hc]) rfl ⟨rfl, bend hb _ _ _⟩
  · have HT := Lib.hid (tells2 2 2 (by omega) (by omega) (w0 w))
    go_enter Tryd.func48, Tryd.ntmps48
    go_wp2_with fail
    refine (setsYes 1 (by omega) _).mono ?_
    rintro e w' ⟨rfl, rfl⟩
    go_wp2_with fail
    refine (from_any 113 #[] 2 2 (by omega) (by omega) (by omega) (by omega) _ _ enters2 HT).mono ?_
    rintro e w1 ⟨rfl, hb⟩
    obtain ⟨hc, hf⟩ := bcell hb
    go_wp2_with fail
    refine bodyPost_ret (v := .tuple #[mat ((2 : Nat) : Int) ((2 : Nat) : Int) (str (rowsB (fun x y => decide (x &&& y = 0)) 2 2)), .bool true]) (by simp [results, Tryd.results48, go_sem, hc]) rfl ⟨rfl, bend hb _ _ _⟩
  · have HT := Lib.hid (tells2 4 4 (by omega) (by omega) (w0 w))
    go_enter Tryd.func48, Tryd.ntmps48
    go_wp2_with fail
    refine (setsYes 2 (by omega) _).mono ?_
    rintro e w' ⟨rfl, rfl⟩
    go_wp2_with fail
    refine (from_any 113 #[] 4 4 (by omega) (by omega) (by omega) (by omega) _ _ enters2 HT).mono ?_
    rintro e w1 ⟨rfl, hb⟩
    obtain ⟨hc, hf⟩ := bcell hb
    go_wp2_with fail
    refine bodyPost_ret (v := .tuple #[mat ((4 : Nat) : Int) ((4 : Nat) : Int) (str (rowsB (fun x y => decide (x &&& y = 0)) 4 4)), .bool true]) (by simp [results, Tryd.results48, go_sem, hc]) rfl ⟨rfl, bend hb _ _ _⟩
  · have HT := Lib.hid (tells2 8 8 (by omega) (by omega) (w0 w))
    go_enter Tryd.func48, Tryd.ntmps48
    go_wp2_with fail
    refine (setsYes 3 (by omega) _).mono ?_
    rintro e w' ⟨rfl, rfl⟩
    go_wp2_with fail
    refine (from_any 113 #[] 8 8 (by omega) (by omega) (by omega) (by omega) _ _ enters2 HT).mono ?_
    rintro e w1 ⟨rfl, hb⟩
    obtain ⟨hc, hf⟩ := bcell hb
    go_wp2_with fail
    refine bodyPost_ret (v := .tuple #[mat ((8 : Nat) : Int) ((8 : Nat) : Int) (str (rowsB (fun x y => decide (x &&& y = 0)) 8 8)), .bool true]) (by simp [results, Tryd.results48, go_sem, hc]) rfl ⟨rfl, bend hb _ _ _⟩

set_option maxHeartbeats 400000 in
theorem implNo2 (n : Int) (h : n < 0 ∨ 3 < n) (w : World) :
    Calls Tryd.prog 48 #[.int .i64 n] w fun e w' => e = .returned (.tuple #[mat 0 0 (str []), .bool false]) ∧ Below w.heap.size w w' := by
  have H2 := Lib.hid (show n < 0 ∨ 3 < n by omega)
  have HF := Lib.hid (show ((0 : Int) < 1 ∨ (8 : Int) < 0) ∨ ((0 : Int) < 1 ∨ (8 : Int) < 0) from .inl (.inl (by omega)))
  clear h
  go_enter Tryd.func48, Tryd.ntmps48
  go_wp2_with fail
  refine (setsNo _ H2.out _).mono ?_
  rintro e w' ⟨rfl, rfl⟩
  go_wp2_with fail
  refine (from_no _ _ _ HF.out _).mono ?_
  rintro e w1 ⟨rfl, hb⟩
  obtain ⟨hc, hf⟩ := bcell hb
  go_wp2_with fail
  refine bodyPost_ret (v := .tuple #[mat 0 0 (str []), .bool false]) (by simp [results, Tryd.results48, go_sem, hc]) rfl ⟨rfl, bend hb _ _ _⟩

set_option maxHeartbeats 400000 in
theorem spec3 (n : Nat) (h2 : n ≤ 3) (w : World) :
    Calls Tryd.prog 51 #[.int .i64 (n : Int)] w fun e w' => e = .returned (.tuple #[mat ((2 ^ n : Nat) : Int) ((2 ^ n : Nat) : Int) (str (rowsB (fun x y => decide (ones (x &&& y) % 2 = 1)) (2 ^ n) (2 ^ n))), .bool true]) ∧ Below w.heap.size w w' := by
  have h : n = 0 ∨ n = 1 ∨ n = 2 ∨ n = 3 := by omega
  rcases h with rfl | rfl | rfl | rfl
  · go_enter Tryd.func51, Tryd.ntmps51
    go_wp2_with fail
    refine (l1In_true _ _ _ (by omega) (by omega) _).mono ?_
    rintro e w' ⟨rfl, rfl⟩
    go_wp2_with fail
    refine (make3 1 1 (by omega) (by omega) _).mono ?_
    rintro e w1 ⟨rfl, hb⟩
    obtain ⟨hc, hf⟩ := bcell hb
    go_wp2_with fail
    refine bodyPost_ret (v := .tuple #[mat ((1 : Nat) : Int) ((1 : Nat) : Int) (str (rowsB (fun x y => decide (ones (x &&& y) % 2 = 1)) 1 1)), .bool true]) (by simp [results, Tryd.results51, go_sem, hc]) rfl ⟨rfl, bend hb _ _ _⟩
  · go_enter Tryd.func51, Tryd.ntmps51
    go_wp2_with fail
    refine (l1In_true _ _ _ (by omega) (by omega) _).mono ?_
    rintro e w' ⟨rfl, rfl⟩
    go_wp2_with fail
    refine (make3 2 2 (by omega) (by omega) _).mono ?_
    rintro e w1 ⟨rfl, hb⟩
    obtain ⟨hc, hf⟩ := bcell hb
    go_wp2_with fail
    refine bodyPost_ret (v := .tuple #[mat ((2 : Nat) : Int) ((2 : Nat) : Int) (str (rowsB (fun x y => decide (ones (x &&& y) % 2 = 1)) 2 2)), .bool true]) (by simp [results, Tryd.results51, go_sem, hc]) rfl ⟨rfl, bend hb _ _ _⟩
  · go_enter Tryd.func51, Tryd.ntmps51
    go_wp2_with fail
    refine (l1In_true _ _ _ (by omega) (by omega) _).mono ?_
    rintro e w' ⟨rfl, rfl⟩
    go_wp2_with fail
    refine (make3 4 4 (by omega) (by omega) _).mono ?_
    rintro e w1 ⟨rfl, hb⟩
    obtain ⟨hc, hf⟩ := bcell hb
    go_wp2_with fail
    refine bodyPost_ret (v := .tuple #[mat ((4 : Nat) : Int) ((4 : Nat) : Int) (str (rowsB (fun x y => decide (ones (x &&& y) % 2 = 1)) 4 4)), .bool true]) (by simp [results, Tryd.results51, go_sem, hc]) rfl ⟨rfl, bend hb _ _ _⟩
  · go_enter Tryd.func51, Tryd.ntmps51
    go_wp2_with fail
    refine (l1In_true _ _ _ (by omega) (by omega) _).mono ?_
    rintro e w' ⟨rfl, rfl⟩
    go_wp2_with fail
    refine (make3 8 8 (by omega) (by omega) _).mono ?_
    rintro e w1 ⟨rfl, hb⟩
    obtain ⟨hc, hf⟩ := bcell hb
    go_wp2_with fail
    refine bodyPost_ret (v := .tuple #[mat ((8 : Nat) : Int) ((8 : Nat) : Int) (str (rowsB (fun x y => decide (ones (x &&& y) % 2 = 1)) 8 8)), .bool true]) (by simp [results, Tryd.results51, go_sem, hc]) rfl ⟨rfl, bend hb _ _ _⟩

set_option maxHeartbeats 400000 in
theorem specNo3 (n : Int) (h : n < 0 ∨ 3 < n) (w : World) :
    Calls Tryd.prog 51 #[.int .i64 n] w fun e w' => e = .returned (.tuple #[mat 0 0 (str []), .bool false]) ∧ Below w.heap.size w w' := by
  have H := Lib.hid h
  clear h
  go_enter Tryd.func51, Tryd.ntmps51
  go_wp2_with fail
  refine (l1In_false _ _ _ H.out _).mono ?_
  rintro e w' ⟨rfl, rfl⟩
  go_wp2_with fail
  refine bodyPost_ret (v := .tuple #[mat 0 0 (str []), .bool false]) (by simp [results, Tryd.results51, go_sem, str]) rfl ⟨rfl, ?_⟩
  go_grown

theorem tells3 (r c : Nat) (hr : r ≤ 8) (hc : c ≤ 8) (w : World) : Tells 114 #[] r c (fun x y => decide (ones (x &&& y) % 2 = 1)) w := fun W x y hx hy _ =>
  (fn3 x y (by omega) (by omega) W).mono fun _ _ ⟨he, hw⟩ => ⟨he, hw ▸ Below.refl _ _⟩
theorem enters3 (args : Array Value) (W : World) : (callFunc 114 args).run Tryd.prog W = .ok (.enter 114 args) W := by
  kernel_rfl

set_option maxHeartbeats 400000 in
theorem impl3 (n : Nat) (h2 : n ≤ 3) (w : World) :
    Calls Tryd.prog 50 #[.int .i64 (n : Int)] w fun e w' => e = .returned (.tuple #[mat ((2 ^ n : Nat) : Int) ((2 ^ n : Nat) : Int) (str (rowsB (fun x y => decide (ones (x &&& y) % 2 = 1)) (2 ^ n) (2 ^ n))), .bool true]) ∧ Below w.heap.size w w' := by
  have h : n = 0 ∨ n = 1 ∨ n = 2 ∨ n = 3 := by omega
  rcases h with rfl | rfl | rfl | rfl
  · have HT := Lib.hid (tells3 1 1 (by omega) (by omega) (w0 w))
    go_enter Tryd.func50, Tryd.ntmps50
    go_wp2_with fail
    refine (setsYes 0 (by omega) _).mono ?_
    rintro e w' ⟨rfl, rfl⟩
    go_wp2_with fail
    refine (from_any 114 #[] 1 1 (by omega) (by omega) (by omega) (by omega) _ _ enters3 HT).mono ?_
    rintro e w1 ⟨rfl, hb⟩
    obtain ⟨hc, hf⟩ := bcell hb
    go_wp2_with fail
    refine bodyPost_ret (v := .tuple #[mat ((1 : Nat) : Int) ((1 : Nat) : Int) (str (rowsB (fun x y => decide (ones (x &&& y) % 2 = 1)) 1 1)), .bool true]) (by simp [results, Tryd.results50, go_sem, hc]) rfl ⟨rfl, bend hb _ _ _⟩
  · have HT := Lib.hid (tells3 2 2 (by omega) (by omega) (w0 w))
    go_enter Tryd.func50, Tryd.ntmps50
    go_wp2_with fail
    refine (setsYes 1 (by omega) _).mono ?_
    rintro e w' ⟨rfl, rfl⟩
    go_wp2_with fail
    refine (from_any 114 #[] 2 2 (by omega) (by omega) (by omega) (by omega) _ _ enters3 HT).mono ?_
    rintro e w1 ⟨rfl, hb⟩
    obtain ⟨hc, hf⟩ := bcell hb
    go_wp2_with fail
    refine bodyPost_ret (v := .tuple #[mat ((2 : Nat) : Int) ((2 : Nat) : Int) (str (rowsB (fun x y => decide (ones (x &&& y) % 2 = 1)) 2 2)), .bool true]) (by simp [results, Tryd.results50, go_sem, hc]) rfl ⟨rfl, bend hb _ _ _⟩
  · have HT := Lib.hid (tells3 4 4 (by omega) (by omega) (w0 w))
    go_enter Tryd.func50, Tryd.ntmps50
    go_wp2_with fail
    refine (setsYes 2 (by omega) _).mono ?_
    rintro e w' ⟨rfl, rfl⟩
    go_wp2_with fail
    refine (from_any 114 #[] 4 4 (by omega) (by omega) (by omega) (by omega) _ _ enters3 HT).mono ?_
    rintro e w1 ⟨rfl, hb⟩
    obtain ⟨hc, hf⟩ := bcell hb
    go_wp2_with fail
    refine bodyPost_ret (v := .tuple #[mat ((4 : Nat) : Int) ((4 : Nat) : Int) (str (rowsB (fun x y => decide (ones (x &&& y) % 2 = 1)) 4 4)), .bool true]) (by simp [results, Tryd.results50, go_sem, hc]) rfl ⟨rfl, bend hb _ _ _⟩
  · have HT := Lib.hid (tells3 8 8 (by omega) (by omega) (w0 w))
    go_enter Tryd.func50, Tryd.ntmps50
    go_wp2_with fail
    refine (setsYes 3 (by omega) _).mono ?_
    rintro e w' ⟨rfl, rfl⟩
    go_wp2_with fail
    refine (from_any 114 #[] 8 8 (by omega) (by omega) (by omega) (by omega) _ _ enters3 HT).mono ?_
    rintro e w1 ⟨rfl, hb⟩
    obtain ⟨hc, hf⟩ := bcell hb
    go_wp2_with fail
    refine bodyPost_ret (v := .tuple #[mat ((8 : Nat) : Int) ((8 : Nat) : Int) (str (rowsB (fun x y => decide (ones (x &&& y) % 2 = 1)) 8 8)), .bool true]) (by simp [results, Tryd.results50, go_sem, hc]) rfl ⟨rfl, bend hb _ _ _⟩

set_option maxHeartbeats 400000 in
theorem implNo3 (n : Int) (h : n < 0 ∨ 3 < n) (w : World) :
    Calls Tryd.prog 50 #[.int .i64 n] w fun e w' => e = .returned (.tuple #[mat 0 0 (str []), .bool false]) ∧ Below w.heap.size w w' := by
  have H2 := Lib.hid (show n < 0 ∨ 3 < n by omega)
  have HF := Lib.hid (show ((0 : Int) < 1 ∨ (8 : Int) < 0) ∨ ((0 : Int) < 1 ∨ (8 : Int) < 0) from .inl (.inl (by omega)))
  clear h
  go_enter Tryd.func50, Tryd.ntmps50
  go_wp2_with fail
  refine (setsNo _ H2.out _).mono ?_
  rintro e w' ⟨rfl, rfl⟩
  go_wp2_with fail
  refine (from_no _ _ _ HF.out _).mono ?_
  rintro e w1 ⟨rfl, hb⟩
  obtain ⟨hc, hf⟩ := bcell hb
  go_wp2_with fail
  refine bodyPost_ret (v := .tuple #[mat 0 0 (str []), .bool false]) (by simp [results, Tryd.results50, go_sem, hc]) rfl ⟨rfl, bend hb _ _ _⟩

set_option maxHeartbeats 400000 in
theorem spec4 (n : Nat) (h1 : 1 ≤ n) (h2 : n ≤ 3) (w : World) :
    Calls Tryd.prog 53 #[.int .i64 (n : Int)] w fun e w' => e = .returned (.tuple #[mat ((2 ^ n : Nat) : Int) ((n : Nat) : Int) (str (rowsB (fun x y => decide ((x >>> y) % 2 = 1)) (2 ^ n) (n))), .bool true]) ∧ Below w.heap.size w w' := by
  have h : n = 1 ∨ n = 2 ∨ n = 3 := by omega
  rcases h with rfl | rfl | rfl
  · go_enter Tryd.func53, Tryd.ntmps53
    go_wp2_with fail
    refine (l1In_true _ _ _ (by omega) (by omega) _).mono ?_
    rintro e w' ⟨rfl, rfl⟩
    go_wp2_with fail
    refine (make4 2 1 (by omega) (by omega) _).mono ?_
    rintro e w1 ⟨rfl, hb⟩
    obtain ⟨hc, hf⟩ := bcell hb
    go_wp2_with fail
    refine bodyPost_ret (v := .tuple #[mat ((2 : Nat) : Int) ((1 : Nat) : Int) (str (rowsB (fun x y => decide ((x >>> y) % 2 = 1)) 2 1)), .bool true]) (by simp [results, Tryd.results53, go_sem, hc]) rfl ⟨rfl, bend hb _ _ _⟩
  · go_enter Tryd.func53, Tryd.ntmps53
    go_wp2_with fail
    refine (l1In_true _ _ _ (by omega) (by omega) _).mono ?_
    rintro e w' ⟨rfl, rfl⟩
    go_wp2_with fail
    refine (make4 4 2 (by omega) (by omega) _).mono ?_
    rintro e w1 ⟨rfl, hb⟩
    obtain ⟨hc, hf⟩ := bcell hb
    go_wp2_with fail
    refine bodyPost_ret (v := .tuple #[mat ((4 : Nat) : Int) ((2 : Nat) : Int) (str (rowsB (fun x y => decide ((x >>> y) % 2 = 1)) 4 2)), .bool true]) (by simp [results, Tryd.results53, go_sem, hc]) rfl ⟨rfl, bend hb _ _ _⟩
  · go_enter Tryd.func53, Tryd.ntmps53
    go_wp2_with fail
    refine (l1In_true _ _ _ (by omega) (by omega) _).mono ?_
    rintro e w' ⟨rfl, rfl⟩
    go_wp2_with fail
    refine (make4 8 3 (by omega) (by omega) _).mono ?_
    rintro e w1 ⟨rfl, hb⟩
    obtain ⟨hc, hf⟩ := bcell hb
    go_wp2_with fail
    refine bodyPost_ret (v := .tuple #[mat ((8 : Nat) : Int) ((3 : Nat) : Int) (str (rowsB (fun x y => decide ((x >>> y) % 2 = 1)) 8 3)), .bool true]) (by simp [results, Tryd.results53, go_sem, hc]) rfl ⟨rfl, bend hb _ _ _⟩

set_option maxHeartbeats 400000 in
theorem specNo4 (n : Int) (h : n < 1 ∨ 3 < n) (w : World) :
    Calls Tryd.prog 53 #[.int .i64 n] w fun e w' => e = .returned (.tuple #[mat 0 0 (str []), .bool false]) ∧ Below w.heap.size w w' := by
  have H := Lib.hid h
  clear h
  go_enter Tryd.func53, Tryd.ntmps53
  go_wp2_with fail
  refine (l1In_false _ _ _ H.out _).mono ?_
  rintro e w' ⟨rfl, rfl⟩
  go_wp2_with fail
  refine bodyPost_ret (v := .tuple #[mat 0 0 (str []), .bool false]) (by simp [results, Tryd.results53, go_sem, str]) rfl ⟨rfl, ?_⟩
  go_grown

theorem tells4 (r c : Nat) (hr : r ≤ 8) (hc : c ≤ 8) (w : World) : Tells 116 #[] r c (fun x y => decide ((x >>> y) % 2 = 1)) w := fun W x y hx hy _ =>
  (fn4 x y (by omega) (by omega) W).mono fun _ _ ⟨he, hw⟩ => ⟨he, hw ▸ Below.refl _ _⟩
theorem enters4 (args : Array Value) (W : World) : (callFunc 116 args).run Tryd.prog W = .ok (.enter 116 args) W := by
  kernel_rfl

set_option maxHeartbeats 400000 in
theorem impl4 (n : Nat) (h1 : 1 ≤ n) (h2 : n ≤ 3) (w : World) :
    Calls Tryd.prog 52 #[.int .i64 (n : Int)] w fun e w' => e = .returned (.tuple #[mat ((2 ^ n : Nat) : Int) ((n : Nat) : Int) (str (rowsB (fun x y => decide ((x >>> y) % 2 = 1)) (2 ^ n) (n))), .bool true]) ∧ Below w.heap.size w w' := by
  have h : n = 1 ∨ n = 2 ∨ n = 3 := by omega
  rcases h with rfl | rfl | rfl
  · have HT := Lib.hid (tells4 2 1 (by omega) (by omega) (w0 w))
    go_enter Tryd.func52, Tryd.ntmps52
    go_wp2_with fail
    refine (setsYes 1 (by omega) _).mono ?_
    rintro e w' ⟨rfl, rfl⟩
    go_wp2_with fail
    refine (from_any 116 #[] 2 1 (by omega) (by omega) (by omega) (by omega) _ _ enters4 HT).mono ?_
    rintro e w1 ⟨rfl, hb⟩
    obtain ⟨hc, hf⟩ := bcell hb
    go_wp2_with fail
    refine bodyPost_ret (v := .tuple #[mat ((2 : Nat) : Int) ((1 : Nat) : Int) (str (rowsB (fun x y => decide ((x >>> y) % 2 = 1)) 2 1)), .bool true]) (by simp [results, Tryd.results52, go_sem, hc]) rfl ⟨rfl, bend hb _ _ _⟩
  · have HT := Lib.hid (tells4 4 2 (by omega) (by omega) (w0 w))
    go_enter Tryd.func52, Tryd.ntmps52
    go_wp2_with fail
    refine (setsYes 2 (by omega) _).mono ?_
    rintro e w' ⟨rfl, rfl⟩
    go_wp2_with fail
    refine (from_any 116 #[] 4 2 (by omega) (by omega) (by omega) (by omega) _ _ enters4 HT).mono ?_
    rintro e w1 ⟨rfl, hb⟩
    obtain ⟨hc, hf⟩ := bcell hb
    go_wp2_with fail
    refine bodyPost_ret (v := .tuple #[mat ((4 : Nat) : Int) ((2 : Nat) : Int) (str (rowsB (fun x y => decide ((x >>> y) % 2 = 1)) 4 2)), .bool true]) (by simp [results, Tryd.results52, go_sem, hc]) rfl ⟨rfl, bend hb _ _ _⟩
  · have HT := Lib.hid (tells4 8 3 (by omega) (by omega) (w0 w))
    go_enter Tryd.func52, Tryd.ntmps52
    go_wp2_with fail
    refine (setsYes 3 (by omega) _).mono ?_
    rintro e w' ⟨rfl, rfl⟩
    go_wp2_with fail
    refine (from_any 116 #[] 8 3 (by omega) (by omega) (by omega) (by omega) _ _ enters4 HT).mono ?_
    rintro e w1 ⟨rfl, hb⟩
    obtain ⟨hc, hf⟩ := bcell hb
    go_wp2_with fail
    refine bodyPost_ret (v := .tuple #[mat ((8 : Nat) : Int) ((3 : Nat) : Int) (str (rowsB (fun x y => decide ((x >>> y) % 2 = 1)) 8 3)), .bool true]) (by simp [results, Tryd.results52, go_sem, hc]) rfl ⟨rfl, bend hb _ _ _⟩

set_option maxHeartbeats 400000 in
theorem implNo4 (n : Int) (h : n < 1 ∨ 3 < n) (w : World) :
    Calls Tryd.prog 52 #[.int .i64 n] w fun e w' => e = .returned (.tuple #[mat 0 0 (str []), .bool false]) ∧ Below w.heap.size w w' := by
  by_cases h0 : n = 0
  · subst h0
    clear h
    have HF := Lib.hid (show ((1 : Int) < 1 ∨ (8 : Int) < 1) ∨ ((0 : Int) < 1 ∨ (8 : Int) < 0) from .inr (.inl (by omega)))
    go_enter Tryd.func52, Tryd.ntmps52
    go_wp2_with fail
    refine (setsYes 0 (by omega) _).mono ?_
    rintro e w' ⟨rfl, rfl⟩
    go_wp2_with fail
    refine (from_no _ _ _ HF.out _).mono ?_
    rintro e w1 ⟨rfl, hb⟩
    obtain ⟨hc, hf⟩ := bcell hb
    go_wp2_with fail
    refine bodyPost_ret (v := .tuple #[mat 0 0 (str []), .bool false]) (by simp [results, Tryd.results52, go_sem, hc]) rfl ⟨rfl, bend hb _ _ _⟩
  · have H2 := Lib.hid (show n < 0 ∨ 3 < n by omega)
    have HF := Lib.hid (show ((0 : Int) < 1 ∨ (8 : Int) < 0) ∨ (n < 1 ∨ 8 < n) from .inl (.inl (by omega)))
    clear h h0
    go_enter Tryd.func52, Tryd.ntmps52
    go_wp2_with fail
    refine (setsNo _ H2.out _).mono ?_
    rintro e w' ⟨rfl, rfl⟩
    go_wp2_with fail
    refine (from_no _ _ _ HF.out _).mono ?_
    rintro e w1 ⟨rfl, hb⟩
    obtain ⟨hc, hf⟩ := bcell hb
    go_wp2_with fail
    refine bodyPost_ret (v := .tuple #[mat 0 0 (str []), .bool false]) (by simp [results, Tryd.results52, go_sem, hc]) rfl ⟨rfl, bend hb _ _ _⟩

end Go.Proofs.YtgmhddceeomjbaaDoor.Sets
