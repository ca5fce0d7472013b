/-
  Texts of one seat, joined: Rect, Rd8, Rd9.
-/
import Derived.Test.YtemmagkkigdhjaaGreatDoorRows
import Derived.Test.YtemmagkkigdhjaaGreatDoorJn5
import Derived.WalkKit
import Derived.WalkSpells
import Derived.Lib.Hide
import Derived.Handy
import Derived.Outline
import Derived.Deep.QuietTactic
import Derived.BigQuiet
import Derived.Test.YtemmagkkigdhjaaGreatDoorJn4
import Derived.IntWalk
/-
  Contracts of the small functions on rectangles: l1In, l2Some, l2In, setValid, isRect, rectFrom, isIndex, inSet; toRect, eqRect.
-/
namespace Go.Proofs.YtemmagkkigdhjaaGreatDoor.Rect
open Go.RowKit Go.Proofs.YtemmagkkigdhjaaGreatDoor.Plain Go.Proofs.YtemmagkkigdhjaaGreatDoor.Pat
set_option linter.unusedVariables false

/-- a rectangle as a value -/
abbrev rect (r c : Int) : Value := .agg #[.int .i64 r, .int .i64 c]

/-- what a callee leaves alone, one step more -/
theorem rstep {w a b : World} (h : Below w.heap.size w a) (h2 : Below a.heap.size a b) : Below w.heap.size w b := h.trans (h2.mono h.size)
theorem rstepA {w a : World} (h : Below w.heap.size w a) (o : Obj) : Below w.heap.size w (a.alloc o) := h.alloc h.size o

/-- two new blocks of two cells, behind a call that leaves them alone -/
theorem two_two {w w1 : World} {a b c d : Value} {T U : TypeId} (hb : Below ((w.alloc (.cells #[a, b] T)).alloc (.cells #[c, d] U)).heap.size ((w.alloc (.cells #[a, b] T)).alloc (.cells #[c, d] U)) w1) :
    w1.cell? ⟨w.heap.size, 0, none⟩ = some a ∧ w1.cell? ⟨w.heap.size, 1, none⟩ = some b ∧ w1.cell? ⟨w.heap.size + 1, 0, none⟩ = some c ∧ w1.cell? ⟨w.heap.size + 1, 1, none⟩ = some d ∧
      w1.frozen? ⟨w.heap.size, 0, none⟩ = false ∧ w1.frozen? ⟨w.heap.size, 1, none⟩ = false ∧ w.heap.size + 1 < w1.heap.size ∧ Below w.heap.size w w1 := by
  have hs : ((w.alloc (.cells #[a, b] T)).alloc (.cells #[c, d] U)).heap.size = w.heap.size + 2 := by simp
  refine ⟨?_, ?_, ?_, ?_, ?_, ?_, by have := hb.size; omega, ?_⟩
  · exact (hb.cell (p := ⟨w.heap.size, 0, none⟩) (by show w.heap.size < _; omega)).trans (by simp)
  · exact (hb.cell (p := ⟨w.heap.size, 1, none⟩) (by show w.heap.size < _; omega)).trans (by simp)
  · exact (hb.cell (p := ⟨w.heap.size + 1, 0, none⟩) (by show w.heap.size + 1 < _; omega)).trans (by simp)
  · exact (hb.cell (p := ⟨w.heap.size + 1, 1, none⟩) (by show w.heap.size + 1 < _; omega)).trans (by simp)
  · exact (hb.frozen (p := ⟨w.heap.size, 0, none⟩) (by show w.heap.size < _; omega)).trans (by simp)
  · exact (hb.frozen (p := ⟨w.heap.size, 1, none⟩) (by show w.heap.size < _; omega)).trans (by simp)
  · exact (((Below.refl w.heap.size w).alloc (Nat.le_refl _) _).alloc (by simp) _).trans (hb.mono (by omega))

/-- one box of two cells, behind a call that leaves it alone -/
theorem box2 {w w1 : World} {a b : Value} {T : TypeId} (hb : Below (w.alloc (.cells #[a, b] T)).heap.size (w.alloc (.cells #[a, b] T)) w1) :
    w1.cell? ⟨w.heap.size, 0, none⟩ = some a ∧ w1.cell? ⟨w.heap.size, 1, none⟩ = some b ∧ w.heap.size < w1.heap.size ∧ Hid (Below w.heap.size w w1) := by
  have hs : (w.alloc (.cells #[a, b] T)).heap.size = w.heap.size + 1 := by simp
  refine ⟨?_, ?_, by have := hb.size; omega, ?_⟩
  · exact (hb.cell (p := ⟨w.heap.size, 0, none⟩) (by show w.heap.size < _; omega)).trans (by simp)
  · exact (hb.cell (p := ⟨w.heap.size, 1, none⟩) (by show w.heap.size < _; omega)).trans (by simp)
  · exact ((Below.refl w.heap.size w).alloc (Nat.le_refl _) _).trans (hb.mono (by omega))
theorem two_on {w1 w2 : World} {g : Nat} {a b : Value} (hb : Below w1.heap.size w1 w2) (hg : g < w1.heap.size)
    (h0 : w1.cell? ⟨g, 0, none⟩ = some a) (h1 : w1.cell? ⟨g, 1, none⟩ = some b) : w2.cell? ⟨g, 0, none⟩ = some a ∧ w2.cell? ⟨g, 1, none⟩ = some b :=
  ⟨(hb.cell (p := ⟨g, 0, none⟩) hg).trans h0, (hb.cell (p := ⟨g, 1, none⟩) hg).trans h1⟩

set_option maxHeartbeats 400000 in
theorem in_any (n a b : Int) (w : World) :
    Calls Tryz.prog 28 #[.int .i64 n, .int .i64 a, .int .i64 b] w fun e w' => e = .returned (.bool (decide (a ≤ n ∧ n ≤ b))) ∧ w = w' := by
  by_cases h : a ≤ n
  · by_cases h2 : n ≤ b
    · rw [decide_eq_true ⟨h, h2⟩]
      go_enter Tryz.func28, Tryz.ntmps28
      go_wp2
      go_ret
      exact ⟨rfl, rfl⟩
    · rw [decide_eq_false (fun x => h2 x.2)]
      have h3 : b < n := by omega
      clear h2
      go_enter Tryz.func28, Tryz.ntmps28
      go_wp2
      go_ret
      exact ⟨by simp; omega, rfl⟩
  · rw [decide_eq_false (fun x => h x.1)]
    have h3 : n < a := by omega
    clear h
    go_enter Tryz.func28, Tryz.ntmps28
    go_wp2
    go_ret
    exact ⟨rfl, rfl⟩

/-- when both call two numbers a rectangle -/
def someB (r c : Int) : Bool := decide (1 ≤ r ∧ r ≤ 255) && decide (1 ≤ c ∧ c ≤ 255)
theorem someB_iff (r c : Int) : someB r c = true ↔ (1 ≤ r ∧ r ≤ 255) ∧ (1 ≤ c ∧ c ≤ 255) := by
  unfold someB
  rw [Bool.and_eq_true, decide_eq_true_iff, decide_eq_true_iff]

set_option maxHeartbeats 400000 in
theorem some_any (r c : Int) (w : World) :
    Calls Tryz.prog 69 #[rect r c] w fun e w' => e = .returned (.bool (someB r c)) ∧ Below w.heap.size w w' := by
  unfold someB
  by_cases h : 1 ≤ r ∧ r ≤ 255
  · rw [decide_eq_true h, Bool.true_and]
    obtain ⟨b, hb⟩ : ∃ b, decide (1 ≤ c ∧ c ≤ 255) = b := ⟨_, rfl⟩
    rw [hb]
    have HB := Lib.hid hb
    have H := Lib.hid h
    clear h hb
    go_enter Tryz.func69, Tryz.ntmps69
    go_wp2_with fail
    refine (in_any _ _ _ _).mono ?_
    rintro e w' ⟨rfl, rfl⟩
    rw [decide_eq_true H.out]
    go_wp2_with fail
    refine (in_any _ _ _ _).mono ?_
    rintro e w' ⟨rfl, rfl⟩
    rw [HB.out]
    go_wp2_with fail
    go_ret
    exact ⟨rfl, by go_grown⟩
  · rw [decide_eq_false h, Bool.false_and]
    have H := Lib.hid h
    clear h
    go_enter Tryz.func69, Tryz.ntmps69
    go_wp2_with fail
    refine (in_any _ _ _ _).mono ?_
    rintro e w' ⟨rfl, rfl⟩
    rw [decide_eq_false H.out]
    go_wp2_with fail
    go_ret
    exact ⟨rfl, by go_grown⟩

set_option maxHeartbeats 400000 in
theorem valid_any (s : Int) (c : Nat) (hc : c ≤ 8) (w : World) :
    Calls Tryz.prog 65 #[.int .i64 s, .int .i64 (c : Int)] w fun e w' => e = .returned (.bool (decide (1 ≤ s ∧ s ≤ 2 ^ c - 1))) ∧ w = w' := by
  have h : c = 0 ∨ c = 1 ∨ c = 2 ∨ c = 3 ∨ c = 4 ∨ c = 5 ∨ c = 6 ∨ c = 7 ∨ c = 8 := by omega
  by_cases h1 : 0 < s
  · obtain ⟨b, hb⟩ : ∃ b, decide (1 ≤ s ∧ s ≤ 2 ^ c - 1) = b := ⟨_, rfl⟩
    rw [hb]
    have HB := Lib.hid hb
    clear hb
    rcases h with rfl | rfl | rfl | rfl | rfl | rfl | rfl | rfl | rfl
    all_goals
      go_enter Tryz.func65, Tryz.ntmps65
      go_wp2
      go_ret
      refine ⟨congrArg (fun b => Ending.returned (Value.bool b)) (Eq.trans ?_ HB.out), rfl⟩
      rw [decide_eq_decide]
      omega
  · rw [decide_eq_false (by omega)]
    have h3 : s ≤ 0 := by omega
    clear h h1
    go_enter Tryz.func65, Tryz.ntmps65
    go_wp2
    go_ret
    exact ⟨rfl, rfl⟩

set_option maxHeartbeats 400000 in
theorem rect_any (r c : Int) (w : World) :
    Calls Tryz.prog 34 #[rect r c] w fun e w' => e = .returned (.bool (someB r c)) ∧ Below w.heap.size w w' := by
  unfold someB
  by_cases h : 1 ≤ r ∧ r ≤ 255
  · rw [decide_eq_true h, Bool.true_and]
    obtain ⟨b, hb⟩ : ∃ b, decide (1 ≤ c ∧ c ≤ 255) = b := ⟨_, rfl⟩
    rw [hb]
    have HB := Lib.hid hb
    have H := Lib.hid h
    clear h hb
    go_enter Tryz.func34, Tryz.ntmps34
    go_wp2_with fail
    refine (valid_any _ 8 (by omega) _).mono ?_
    rintro e w' ⟨rfl, rfl⟩
    rw [decide_eq_true (show 1 ≤ r ∧ r ≤ 2 ^ 8 - 1 from H.out)]
    go_wp2_with fail
    refine (valid_any _ 8 (by omega) _).mono ?_
    rintro e w' ⟨rfl, rfl⟩
    rw [show decide (1 ≤ c ∧ c ≤ 2 ^ 8 - 1) = b from HB.out]
    go_wp2_with fail
    go_ret
    exact ⟨rfl, by go_grown⟩
  · rw [decide_eq_false h, Bool.false_and]
    have H := Lib.hid h
    clear h
    go_enter Tryz.func34, Tryz.ntmps34
    go_wp2_with fail
    refine (valid_any _ 8 (by omega) _).mono ?_
    rintro e w' ⟨rfl, rfl⟩
    rw [decide_eq_false (show ¬ (1 ≤ r ∧ r ≤ 2 ^ 8 - 1) from H.out)]
    go_wp2_with fail
    go_ret
    exact ⟨rfl, by go_grown⟩


set_option maxHeartbeats 400000 in
theorem index_any (i : Int) (c : Int) (w : World) :
    Calls Tryz.prog 105 #[.int .i64 i, .int .i64 c] w fun e w' => e = .returned (.bool (decide (0 ≤ i ∧ i < c))) ∧ w = w' := by
  by_cases h : 0 ≤ i
  · by_cases h2 : i < c
    · rw [decide_eq_true ⟨h, h2⟩]
      go_enter Tryz.func105, Tryz.ntmps105
      go_wp2
      go_ret
      exact ⟨rfl, rfl⟩
    · rw [decide_eq_false (fun x => h2 x.2)]
      have h3 : c ≤ i := by omega
      clear h2
      go_enter Tryz.func105, Tryz.ntmps105
      go_wp2
      go_ret
      exact ⟨by simp; omega, rfl⟩
  · rw [decide_eq_false (fun x => h x.1)]
    have h3 : i < 0 := by omega
    clear h
    go_enter Tryz.func105, Tryz.ntmps105
    go_wp2
    go_ret
    exact ⟨rfl, rfl⟩

theorem bit_test (s i : Nat) (hs : s < 256) (hi : i < 8) : (Go.bits .and .i64 ((s : Int) / 2 ^ i) 1 == 1) = s.testBit i := by
  have h : ∀ k : Fin 256, ∀ j : Fin 8, (Go.bits .and .i64 (((k.val : Nat) : Int) / 2 ^ j.val) 1 == 1) = k.val.testBit j.val := by decide +kernel
  exact h ⟨s, hs⟩ ⟨i, hi⟩

set_option maxHeartbeats 400000 in
theorem l2In_any (s i : Nat) (hs : s < 256) (hi : i < 8) (w : World) :
    Calls Tryz.prog 81 #[.int .i64 (s : Int), .int .i64 (i : Int)] w fun e w' => e = .returned (.bool (s.testBit i)) ∧ w = w' := by
  have HB := Lib.hid (bit_test s i hs hi)
  go_enter Tryz.func81, Tryz.ntmps81
  go_wp2
  go_ret
  exact ⟨congrArg (fun b => Ending.returned (.bool b)) HB.out, rfl⟩

set_option maxHeartbeats 400000 in
theorem inSet_yes (s i : Nat) (hs : s < 256) (hi : i < 8) (w : World) :
    Calls Tryz.prog 90 #[.int .i64 (s : Int), .int .i64 (i : Int)] w fun e w' => e = .returned (.bool (s.testBit i)) ∧ w = w' := by
  have HB := Lib.hid (bit_test s i hs hi)
  go_enter Tryz.func90, Tryz.ntmps90
  go_wp2_with fail
  refine (index_any _ _ _).mono ?_
  rintro e w' ⟨rfl, rfl⟩
  rw [decide_eq_true (by omega)]
  go_wp2_with fail
  go_ret
  exact ⟨congrArg (fun b => Ending.returned (.bool b)) HB.out, rfl⟩
set_option maxHeartbeats 400000 in
theorem inSet_no (s i : Int) (hi : i < 0 ∨ 8 ≤ i) (w : World) :
    Calls Tryz.prog 90 #[.int .i64 s, .int .i64 i] w fun e w' => e = .returned (.bool false) ∧ w = w' := by
  have HI := Lib.hid hi
  clear hi
  go_enter Tryz.func90, Tryz.ntmps90
  go_wp2_with fail
  refine (index_any _ _ _).mono ?_
  rintro e w' ⟨rfl, rfl⟩
  rw [decide_eq_false (by have := HI.out; omega)]
  go_wp2_with fail
  go_ret
  exact ⟨rfl, rfl⟩

end Go.Proofs.YtemmagkkigdhjaaGreatDoor.Rect

/-
  The drawing function l2Mono: what it needs of l1At and l2Cols is little.
-/
namespace Go.Proofs.YtemmagkkigdhjaaGreatDoor.Rd8
open Go.RowKit Go.Proofs.YtemmagkkigdhjaaGreatDoor.Plain Go.Proofs.YtemmagkkigdhjaaGreatDoor.Base Go.Proofs.YtemmagkkigdhjaaGreatDoor.Valid Go.Proofs.YtemmagkkigdhjaaGreatDoor.Pat Go.Proofs.YtemmagkkigdhjaaGreatDoor.Rect Go.Proofs.YtemmagkkigdhjaaGreatDoor.Rd Go.Proofs.YtemmagkkigdhjaaGreatDoor.Rd2 Go.Proofs.YtemmagkkigdhjaaGreatDoor.Rd3 Go.Proofs.YtemmagkkigdhjaaGreatDoor.Rd4 Go.Proofs.YtemmagkkigdhjaaGreatDoor.Rd5 Go.Proofs.YtemmagkkigdhjaaGreatDoor.Rd6 Go.Proofs.YtemmagkkigdhjaaGreatDoor.Rd7 Go.Proofs.YtemmagkkigdhjaaGreatDoor.FreeL
open Go.Proofs.YtemmagkkigdhjaaGreatDoor.Free (fill wp_value wp_enter wp_load_row freeB setRow_kept)
set_option linter.unusedVariables false

set_option maxHeartbeats 1000000 in
theorem at_w (R C : Nat) (hR : R ≤ 8) (hC : C ≤ 8) (s : ByteArray) (hs : s.size = R * C) (x y : Nat) (hx : x < R) (hy : y < C) (w : World) :
    Calls Tryz.prog 83 #[mat R C s, .int .i64 (x : Int), .int .i64 (y : Int)] w fun e w' => ∃ b, e = .returned (.bool b) ∧ Below w.heap.size w w' := by
  have hlt : x * C + y < s.size := by
    have : (x + 1) * C ≤ R * C := Nat.mul_le_mul_right C hx
    rw [Nat.succ_mul] at this
    omega
  have h64 : s.size ≤ 64 := by rw [hs]; exact prod_le hR hC
  have hmul := wrap_prod x C (by omega) hC
  have HM := Lib.hid hmul
  have hxc : x * C ≤ 64 := by omega
  clear hs hmul
  go_enter Tryz.func83, Tryz.ntmps83
  go_wp2_with fail
  go_ret
  exact ⟨_, rfl, by go_grown⟩

set_option maxHeartbeats 400000 in
theorem int_w (b : Bool) (w : World) :
    Calls Tryz.prog 82 #[.bool b] w fun e w' => e = .returned (.int .i64 (bitI b)) ∧ w = w' := by
  cases b
  all_goals
    go_enter Tryz.func82, Tryz.ntmps82
    go_wp2
    go_ret
    exact ⟨rfl, rfl⟩

/-- m's box is kept -/
structure DInv (w wr : World) (R C : Nat) (s : ByteArray) : Prop where
  m : wr.heap[w.heap.size]? = some (.cells #[.int .i64 (R : Int), .int .i64 (C : Int), .string s] 24 (0, 0))
  below : Below w.heap.size w wr
theorem DInv.later {w wr w2 : World} {R C : Nat} {s : ByteArray} (h : DInv w wr R C s) (hb : Below wr.heap.size wr w2) : DInv w w2 R C s := ⟨(hb.block _ (Array.getElem?_eq_some_iff.1 h.m).1).trans h.m, rstep h.below hb⟩
theorem wrapS (n : Nat) (h : n ≤ 256) : IntKind.i64.wrap (n : Int) = (n : Int) := by
  rw [IntKind.wrap_i64]
  omega
theorem orS (a b : Nat) (ha : a < 256) (hb : b < 256) : Go.bits .or .i64 (a : Int) (b : Int) = ((a ||| b : Nat) : Int) :=
  (bits_nat .i64 8 (by decide) (fun n h0 h1 => by rw [IntKind.wrap_i64]; omega) a b (by omega) (by omega)).2

set_option maxHeartbeats 4000000 in
theorem cols_w (R C : Nat) (hR1 : 1 ≤ R) (hR : R ≤ 8) (hC1 : 1 ≤ C) (hC : C ≤ 8) (s : ByteArray) (hs : s.size = R * C) (S : Nat) (hS : S < 256) (bi : Int) (w : World) :
    Calls Tryz.prog 56 #[mat R C s, .int .i64 (S : Int), .int .i64 bi] w fun e w' => ∃ u : Nat, u < 256 ∧ e = .returned (.int .i64 (u : Int)) ∧ Below w.heap.size w w' := by
  have HAT := Lib.hid (fun x y hx hy W => at_w R C hR hC s hs x y hx hy W)
  clear hs
  go_enter Tryz.func56, Tryz.ntmps56
  go_wp2_with fail
  have HI0 : Hid (DInv w (w.alloc (.cells #[.int .i64 (R : Int), .int .i64 (C : Int), .string s] 24)) R C s) := ⟨heap_alloc_new w _, (Below.refl w.heap.size w).alloc (Nat.le_refl _) _⟩
  generalize w.alloc (.cells #[.int .i64 (R : Int), .int .i64 (C : Int), .string s] 24) = W0 at *
  go_loopw [7, 8] (fun t i wr => ∃ (j u : Nat), j ≤ C ∧ t = .int .i64 (u : Int) ∧ u < 256 ∧ i = .int .i64 (j : Int) ∧ Hid (DInv w wr R C s)) (fun _ i _ => C - (intOf i).toNat)
  case atStart => exact ⟨0, 0, Nat.zero_le _, rfl, by omega, rfl, HI0⟩
  case round =>
    obtain ⟨j, u, hj, rfl, hu, rfl, HI⟩ := hrel
    clear HI0
    obtain ⟨q0, q1, q2, -, -, -⟩ := cells3 HI.out.m
    by_cases hlt : j < C
    · go_wp2_with fail
      go_loopw [9, 10] (fun a x wr => ∃ (k : Nat) (v : Bool), k ≤ R ∧ a = .bool v ∧ x = .int .i64 (k : Int) ∧ Hid (DInv w wr R C s)) (fun _ x _ => R - (intOf x).toNat)
      case atStart => exact ⟨0, true, Nat.zero_le _, rfl, rfl, HI⟩
      case round =>
        obtain ⟨k, v, hk, rfl, rfl, HI⟩ := hrel
        clear q0 q1 q2
        obtain ⟨q0, q1, q2, -, -, -⟩ := cells3 HI.out.m
        by_cases hlt' : k < R
        · have k8 : k < 8 := by omega
          have HK := Lib.hid (fun W => l2In_any S k hS k8 W)
          have HA := Lib.hid (fun W => HAT.out k j hlt' hlt W)
          obtain ⟨b1, h1⟩ : ∃ b, S.testBit k = b := ⟨_, rfl⟩
          rw [h1] at HK
          clear h1
          cases v
          · clear HK HA
            go_wp2_with fail
            go_roundw
            case rel => exact ⟨k + 1, false, by omega, rfl, by go_num, HI⟩
            case measure => simp [intOf]; omega
          · cases b1
            · go_wp2_with fail
              refine (HK.out _).mono ?_
              rintro e w' ⟨rfl, rfl⟩
              go_wp2_with fail
              go_roundw
              case rel => exact ⟨k + 1, true, by omega, rfl, by go_num, HI⟩
              case measure => simp [intOf]; omega
            · go_wp2_with fail
              refine (HK.out _).mono ?_
              rintro e w' ⟨rfl, rfl⟩
              go_wp2_with fail
              refine (HA.out _).mono ?_
              rintro e w2 ⟨b3, rfl, hb2⟩
              have HI2 := Lib.hid (HI.out.later hb2)
              clear hb2 q0 q1 q2
              go_wp2_with fail
              refine (int_w _ _).mono ?_
              rintro e w' ⟨rfl, rfl⟩
              obtain ⟨x, hx⟩ : ∃ x, bitI b3 = x := ⟨_, rfl⟩
              rw [hx]
              clear hx
              go_wp2_with fail
              go_roundw
              case rel => exact ⟨k + 1, _, by omega, rfl, by go_num, HI2⟩
              case measure => simp [intOf]; omega
        · obtain rfl : k = R := by omega
          have hX : 2 ^ j < 256 := Nat.lt_of_lt_of_le (Nat.pow_lt_pow_right (by decide) (show j < 8 by omega)) (by decide)
          have hw : IntKind.i64.wrap (2 ^ j) = ((2 ^ j : Nat) : Int) := by rw [show ((2 : Int) ^ j) = ((2 ^ j : Nat) : Int) by simp]; exact wrapS _ (by omega)
          have ho := orS u (2 ^ j) hu hX
          have HN := Lib.hid (show u ||| 2 ^ j < 256 from Nat.or_lt_two_pow (n := 8) hu hX)
          generalize 2 ^ j = X at *
          generalize u ||| X = y at *
          cases v
          · go_wp2_with fail
            go_roundw
            case rel => exact ⟨j + 1, u, by omega, rfl, hu, by go_num, HI⟩
            case measure => simp [intOf]; omega
          · go_wp2_with fail
            go_roundw
            case rel => exact ⟨j + 1, y, by omega, rfl, HN.out, by go_num, HI⟩
            case measure => simp [intOf]; omega
    · obtain rfl : j = C := by omega
      go_wp2_with fail
      go_ret
      exact ⟨u, hu, rfl, HI.out.below⟩
end Go.Proofs.YtemmagkkigdhjaaGreatDoor.Rd8

/-
  The drawing function l2Mono.
-/
namespace Go.Proofs.YtemmagkkigdhjaaGreatDoor.Rd9
open Go.RowKit Go.Proofs.YtemmagkkigdhjaaGreatDoor.Plain Go.Proofs.YtemmagkkigdhjaaGreatDoor.Base Go.Proofs.YtemmagkkigdhjaaGreatDoor.Valid Go.Proofs.YtemmagkkigdhjaaGreatDoor.Pat Go.Proofs.YtemmagkkigdhjaaGreatDoor.Rect Go.Proofs.YtemmagkkigdhjaaGreatDoor.Rd Go.Proofs.YtemmagkkigdhjaaGreatDoor.Rd2 Go.Proofs.YtemmagkkigdhjaaGreatDoor.Rd3 Go.Proofs.YtemmagkkigdhjaaGreatDoor.Rd4 Go.Proofs.YtemmagkkigdhjaaGreatDoor.Rd5 Go.Proofs.YtemmagkkigdhjaaGreatDoor.Rd6 Go.Proofs.YtemmagkkigdhjaaGreatDoor.Rd7 Go.Proofs.YtemmagkkigdhjaaGreatDoor.Rd8 Go.Proofs.YtemmagkkigdhjaaGreatDoor.FreeD
open Go.Proofs.YtemmagkkigdhjaaGreatDoor.Free (fill wp_value wp_enter wp_load_row freeB setRow_kept)
set_option linter.unusedVariables false

theorem rinfoM : (Tryz.prog.info? 31).map (·.size) = some 2 := by kernel_rfl
/-- what is known in the midst of l2Mono: the matrix' box, the result's block, the local rectangle's block -/
structure MI (g : Nat) (w wr : World) (r c : Int) (s : ByteArray) (b : Nat) (x y : Int) : Prop where
  two : Two g w wr 24 31 #[.int .i64 r, .int .i64 c, .string s] #[.int .i64 0, .int .i64 0]
  loc : wr.heap[b]? = some (.cells #[.int .i64 x, .int .i64 y] 31 (0, 0))
  lo : w.heap.size + 2 ≤ b
  hg : g < w.heap.size
theorem MI.lt {g : Nat} {w wr : World} {r c : Int} {s : ByteArray} {b : Nat} {x y : Int} (h : MI g w wr r c s b x y) : b < wr.heap.size := (Array.getElem?_eq_some_iff.1 h.loc).1
theorem MI.later {g : Nat} {w wr w2 : World} {r c : Int} {s : ByteArray} {b : Nat} {x y : Int} (h : MI g w wr r c s b x y) (ha : Apt g wr w2) : MI g w w2 r c s b x y :=
  ⟨h.two.later h.hg ha, (ha.block _ h.lt (by have := h.hg; have := h.lo; omega)).trans h.loc, h.lo, h.hg⟩

end Go.Proofs.YtemmagkkigdhjaaGreatDoor.Rd9

