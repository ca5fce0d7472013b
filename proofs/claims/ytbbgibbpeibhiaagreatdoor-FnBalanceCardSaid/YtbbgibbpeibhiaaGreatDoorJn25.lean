/-
  Texts of one seat, joined: BoardM, RValid, Area, Colour.
-/
import Derived.Test.YtbbgibbpeibhiaaGreatDoorJn1
import Derived.Test.YtbbgibbpeibhiaaGreatDoorJn24
import Derived.Test.YtbbgibbpeibhiaaGreatDoorJn23
import Derived.WalkSmall
import Derived.Test.YtbbgibbpeibhiaaGreatDoorJn16
/-
  Contracts of the board's methods.
-/
namespace Go.Proofs.YtbbgibbpeibhiaaGreatDoor.BoardM
open Go.RowKit Go.Proofs.YtbbgibbpeibhiaaGreatDoor.Plain Go.Proofs.YtbbgibbpeibhiaaGreatDoor.Base Go.Proofs.YtbbgibbpeibhiaaGreatDoor.Law Go.Proofs.YtbbgibbpeibhiaaGreatDoor.Pat Go.Proofs.YtbbgibbpeibhiaaGreatDoor.Rect Go.Proofs.YtbbgibbpeibhiaaGreatDoor.Patch Go.Proofs.YtbbgibbpeibhiaaGreatDoor.FreeL Go.Proofs.YtbbgibbpeibhiaaGreatDoor.Board
open Go.Proofs.YtbbgibbpeibhiaaGreatDoor.Free (fill wp_value wp_enter wp_load_row freeB)
set_option linter.unusedVariables false

theorem rinfo : (Tryz.prog.info? 45).map (·.size) = some 2 := by kernel_rfl
/-- block b holds a rectangle -/
def RHolds (w : World) (b : Nat) (r c : Int) : Prop := w.heap[b]? = some (.cells #[.int .i64 r, .int .i64 c] 45 (0, 0))
theorem RHolds.on {w w1 : World} {b : Nat} {r c : Int} (h : RHolds w b r c) (hb : Below w.heap.size w w1) : RHolds w1 b r c := (hb.block b (Array.getElem?_eq_some_iff.1 h).1).trans h
/-- when a rectangle is one of so many rows and columns -/
def rvB (R C : Nat) (r c : Int) : Bool := decide (1 ≤ r ∧ r ≤ 2 ^ R - 1) && decide (1 ≤ c ∧ c ≤ 2 ^ C - 1)
/-- two boxes -/
theorem two_box {w : World} {a b : Obj} : ((w.alloc a).alloc b).heap[w.heap.size]? = some a ∧ ((w.alloc a).alloc b).heap[w.heap.size + 1]? = some b ∧ Below w.heap.size w ((w.alloc a).alloc b) :=
  ⟨(Below.heap_alloc _ _ _ (by simp)).trans (heap_alloc_new w _), (by have := heap_alloc_new (w.alloc a) b; rwa [World.size_alloc] at this), ((Below.refl w.heap.size w).alloc (Nat.le_refl _) _).alloc (by simp) _⟩

set_option maxHeartbeats 1000000 in
theorem part_any (p q : Nat) (hp : p < 18446744073709551616) (hq : q < 18446744073709551616) (w : World) :
    Calls Tryz.prog 31 #[.int .u64 (p : Int), .int .u64 (q : Int)] w fun e w' => e = .returned (.bool (decide (p &&& (18446744073709551615 - q) = 0))) ∧ w = w' := by
  have HO := u64_andNot_nat p q hp hq
  generalize p &&& (18446744073709551615 - q) = n at *
  obtain ⟨b, hb⟩ : ∃ b, ((n : Int) == 0) = b := ⟨_, rfl⟩
  have HB : Hid (b = decide (n = 0)) := by
    unfold Hid
    rw [← hb, Bool.eq_iff_iff, beq_iff_eq, decide_eq_true_iff]
    omega
  go_enter Tryz.func31, Tryz.ntmps31
  go_wp2_with fail
  go_ret
  exact ⟨by rw [← HB.out]; rfl, rfl⟩

/-- all entries of a rectangle are in a set of entries, each told by its bytes -/
theorem sub_byte (a b : Nat) (ha : a < 256) (hb : b < 256) : a &&& (255 - b) = 0 ↔ ∀ y, a.testBit y = true → b.testBit y = true := by
  have h255 : ∀ y, (255 - b).testBit y = (decide (y < 8) && !b.testBit y) := fun y => by
    have := Nat.testBit_two_pow_sub_succ (x := b) (n := 8) hb y
    rwa [show 2 ^ 8 - (b + 1) = 255 - b by omega] at this
  constructor
  · intro h y hy
    have h2 : (a &&& (255 - b)).testBit y = false := by rw [h]; simp
    rw [Nat.testBit_and, hy, Bool.true_and, h255] at h2
    have h8 : y < 8 := by
      rcases Nat.lt_or_ge y 8 with h8 | h8
      · exact h8
      · rw [bit_high a y ha h8] at hy; cases hy
    simpa [h8] using h2
  · intro h
    apply Nat.eq_of_testBit_eq
    intro y
    rw [Nat.testBit_and, h255, Nat.zero_testBit]
    cases hy : a.testBit y with
    | false => rfl
    | true => simp [h y hy]
theorem part_pat (f g : Nat → Nat) (hf : ∀ x, f x < 256) (hg : ∀ x, g x < 256) : pat f 8 &&& (18446744073709551615 - pat g 8) = 0 ↔ ∀ x, x < 8 → ∀ y, (f x).testBit y = true → (g x).testBit y = true := by
  have hn := pat_not 8 g hg
  rw [show 18446744073709551615 - pat g 8 = 256 ^ 8 - 1 - pat g 8 from rfl, hn, pat_and 8 f _ hf (fun x => by have := hg x; omega), pat_zero]
  constructor
  · intro h x hx
    exact (sub_byte _ _ (hf x) (hg x)).1 (h x hx)
  · intro h x hx
    exact (sub_byte _ _ (hf x) (hg x)).2 (h x hx)
/-- all entries of the rectangle are among those for which P holds -/
def allP (P : Nat → Nat → Bool) (R C RS CS : Nat) : Prop := ∀ x y, RS.testBit x = true → CS.testBit y = true → (x < R ∧ y < C) ∧ P x y = true
theorem plain_pat (P : Nat → Nat → Bool) (R C RS CS : Nat) (hR : R ≤ 8) (hC : C ≤ 8) (hRS : RS < 256) (hCS : CS < 256) :
    pat (rectB RS CS) 8 &&& (18446744073709551615 - pat (onB P R C) 8) = 0 ↔ allP P R C RS CS := by
  rw [part_pat _ _ (rectB_lt RS CS hCS) (onB_lt P R C hC)]
  unfold allP rectB onB
  constructor
  · intro h x y hx hy
    have hx8 : x < 8 := by
      rcases Nat.lt_or_ge x 8 with h8 | h8
      · exact h8
      · rw [bit_high RS x hRS h8] at hx; cases hx
    have := h x hx8 y (by rw [if_pos hx]; exact hy)
    split at this
    · rename_i hxr
      rw [setB_bit, Bool.and_eq_true, decide_eq_true_eq] at this
      exact ⟨⟨hxr, this.1⟩, this.2⟩
    · simp at this
  · intro h x hx y hy
    by_cases hr : RS.testBit x = true
    · rw [if_pos hr] at hy
      have := h x y hr hy
      rw [if_pos this.1.1, setB_bit, this.2, Bool.and_true, decide_eq_true_eq]
      exact this.1.2
    · rw [if_neg hr] at hy
      simp at hy

/-- a contract that leaves the world says that it leaves what lay -/
theorem below_same {P : Program} {f : FuncId} {args : Array Value} {v : Value} (h : ∀ w, Calls P f args w fun e w' => e = .returned v ∧ w = w') (w : World) : Calls P f args w fun e w' => e = .returned v ∧ Below w.heap.size w w' :=
  (h w).mono fun e w' ⟨he, hw⟩ => ⟨he, by subst hw; exact Below.refl _ _⟩

end Go.Proofs.YtbbgibbpeibhiaaGreatDoor.BoardM

/-
  Contracts of RectValid, of the reference and of the program.
-/
namespace Go.Proofs.YtbbgibbpeibhiaaGreatDoor.RValid
open Go.RowKit Go.Proofs.YtbbgibbpeibhiaaGreatDoor.Plain Go.Proofs.YtbbgibbpeibhiaaGreatDoor.Base Go.Proofs.YtbbgibbpeibhiaaGreatDoor.Valid Go.Proofs.YtbbgibbpeibhiaaGreatDoor.Law Go.Proofs.YtbbgibbpeibhiaaGreatDoor.GridPlain Go.Proofs.YtbbgibbpeibhiaaGreatDoor.Grid Go.Proofs.YtbbgibbpeibhiaaGreatDoor.Entry Go.Proofs.YtbbgibbpeibhiaaGreatDoor.Pat Go.Proofs.YtbbgibbpeibhiaaGreatDoor.Rect Go.Proofs.YtbbgibbpeibhiaaGreatDoor.Patch Go.Proofs.YtbbgibbpeibhiaaGreatDoor.FreeL Go.Proofs.YtbbgibbpeibhiaaGreatDoor.Board Go.Proofs.YtbbgibbpeibhiaaGreatDoor.BoardM
open Go.Proofs.YtbbgibbpeibhiaaGreatDoor.Free (fill wp_value wp_enter wp_load_row freeB)
set_option linter.unusedVariables false

theorem minfo : (Tryz.prog.info? 28).map (·.size) = some 3 := by kernel_rfl
/-- block b holds a matrix -/
def MHolds (w : World) (b : Nat) (t : TypeId) (r c : Int) (s : ByteArray) : Prop := w.heap[b]? = some (.cells #[.int .i64 r, .int .i64 c, .string s] t (0, 0))
theorem mh_on {w w1 : World} {b : Nat} {t : TypeId} {r c : Int} {s : ByteArray} (h : MHolds w b t r c s) (hb : Below w.heap.size w w1) : MHolds w1 b t r c s := (hb.block b (Array.getElem?_eq_some_iff.1 h).1).trans h
/-- block b holds two numbers -/
def THolds (w : World) (b : Nat) (t : TypeId) (r c : Int) : Prop := w.heap[b]? = some (.cells #[.int .i64 r, .int .i64 c] t (0, 0))
theorem th_on {w w1 : World} {b : Nat} {t : TypeId} {r c : Int} (h : THolds w b t r c) (hb : Below w.heap.size w w1) : THolds w1 b t r c := (hb.block b (Array.getElem?_eq_some_iff.1 h).1).trans h
theorem th_c {w : World} {b : Nat} {t : TypeId} {r c : Int} (h : THolds w b t r c) : w.cell? ⟨b, 0, none⟩ = some (.int .i64 r) ∧ w.cell? ⟨b, 1, none⟩ = some (.int .i64 c) := ⟨cell_of_row _ _ 0 _ _ _ h, cell_of_row _ _ 1 _ _ _ h⟩
theorem mh_c {w : World} {b : Nat} {t : TypeId} {r c : Int} {s : ByteArray} (h : MHolds w b t r c s) : w.cell? ⟨b, 0, none⟩ = some (.int .i64 r) ∧ w.cell? ⟨b, 1, none⟩ = some (.int .i64 c) ∧ w.cell? ⟨b, 2, none⟩ = some (.string s) := ⟨cell_of_row _ _ 0 _ _ _ h, cell_of_row _ _ 1 _ _ _ h, cell_of_row _ _ 2 _ _ _ h⟩

theorem pow8 (R : Nat) (hR : R ≤ 8) : IntKind.i64.wrap (2 ^ R) = ((2 ^ R : Nat) : Int) ∧ 1 ≤ 2 ^ R ∧ 2 ^ R ≤ 256 := by
  have h1 : 2 ^ R ≤ 2 ^ 8 := Nat.pow_le_pow_right (by decide) hR
  have h2 : 0 < 2 ^ R := Nat.two_pow_pos R
  refine ⟨?_, by omega, by omega⟩
  rw [show ((2 : Int) ^ R) = ((2 ^ R : Nat) : Int) by simp]
  obtain ⟨X, hX⟩ : ∃ X, 2 ^ R = X := ⟨_, rfl⟩
  rw [hX] at h1 ⊢
  rw [IntKind.wrap_i64]
  omega

/-- the two boxes of a matrix and a rectangle, behind a call -/
theorem boxes {w w1 : World} {r c x y : Int} {s : ByteArray} {T U : TypeId} (hb : Below ((w.alloc (.cells #[.int .i64 r, .int .i64 c, .string s] T)).alloc (.cells #[.int .i64 x, .int .i64 y] U)).heap.size ((w.alloc (.cells #[.int .i64 r, .int .i64 c, .string s] T)).alloc (.cells #[.int .i64 x, .int .i64 y] U)) w1) :
    MHolds w1 w.heap.size T r c s ∧ THolds w1 (w.heap.size + 1) U x y ∧ Below w.heap.size w w1 := by
  obtain ⟨e0, e1, hb0⟩ := two_box (w := w) (a := .cells #[.int .i64 r, .int .i64 c, .string s] T) (b := .cells #[.int .i64 x, .int .i64 y] U)
  exact ⟨mh_on e0 hb, th_on e1 hb, hb0.trans (hb.mono hb0.size)⟩

theorem rvB_zero (r c : Int) : rvB 0 0 r c = false := by
  unfold rvB
  rw [decide_eq_false (by omega)]
  rfl

end Go.Proofs.YtbbgibbpeibhiaaGreatDoor.RValid

/-
  The reference's AreaOf and l1Ones.
-/
namespace Go.Proofs.YtbbgibbpeibhiaaGreatDoor.Area
open Go.RowKit Go.Proofs.YtbbgibbpeibhiaaGreatDoor.Plain Go.Proofs.YtbbgibbpeibhiaaGreatDoor.Pat Go.Proofs.YtbbgibbpeibhiaaGreatDoor.Rect Go.Proofs.YtbbgibbpeibhiaaGreatDoor.Patch
set_option linter.unusedVariables false

theorem and_one8 : ∀ m : Nat, m < 256 → Go.bits .and .i64 (m : Int) 1 = ((m % 2 : Nat) : Int) := by
  have h : ∀ k : Fin 256, Go.bits .and .i64 ((k.val : Nat) : Int) 1 = ((k.val % 2 : Nat) : Int) := by decide +kernel
  intro k hk
  exact h ⟨k, hk⟩
theorem pop8_half (a : Nat) (h : a < 256) : pop8 a = a % 2 + pop8 (a / 2) := by
  unfold pop8
  omega

end Go.Proofs.YtbbgibbpeibhiaaGreatDoor.Area

/-
  The reference's l2Balance and l2Colour; ColourOf and BalanceOf.
-/
namespace Go.Proofs.YtbbgibbpeibhiaaGreatDoor.Colour
open Go.RowKit Go.Proofs.YtbbgibbpeibhiaaGreatDoor.Plain Go.Proofs.YtbbgibbpeibhiaaGreatDoor.Base Go.Proofs.YtbbgibbpeibhiaaGreatDoor.Valid Go.Proofs.YtbbgibbpeibhiaaGreatDoor.Law Go.Proofs.YtbbgibbpeibhiaaGreatDoor.GridPlain Go.Proofs.YtbbgibbpeibhiaaGreatDoor.Grid Go.Proofs.YtbbgibbpeibhiaaGreatDoor.Entry Go.Proofs.YtbbgibbpeibhiaaGreatDoor.Pat Go.Proofs.YtbbgibbpeibhiaaGreatDoor.Rect Go.Proofs.YtbbgibbpeibhiaaGreatDoor.Patch Go.Proofs.YtbbgibbpeibhiaaGreatDoor.FreeL Go.Proofs.YtbbgibbpeibhiaaGreatDoor.Board Go.Proofs.YtbbgibbpeibhiaaGreatDoor.BoardM Go.Proofs.YtbbgibbpeibhiaaGreatDoor.RValid Go.Proofs.YtbbgibbpeibhiaaGreatDoor.Area Go.Proofs.YtbbgibbpeibhiaaGreatDoor.Bal
open Go.Proofs.YtbbgibbpeibhiaaGreatDoor.Free (fill wp_value wp_enter wp_load_row freeB)
set_option linter.unusedVariables false

/-- what the loops keep -/
structure CInv (w wr : World) (R C : Nat) (s : ByteArray) (RS CS : Nat) : Prop where
  m : MHolds wr w.heap.size 28 R C s
  t : THolds wr (w.heap.size + 1) 45 RS CS
  below : Below w.heap.size w wr
theorem CInv.later {w wr w2 : World} {R C : Nat} {s : ByteArray} {RS CS : Nat} (h : CInv w wr R C s RS CS) (hb : Below wr.heap.size wr w2) : CInv w w2 R C s RS CS := ⟨mh_on h.m hb, th_on h.t hb, rstep h.below hb⟩

/-- what the reference calls the value of a rectangle -/
def colV (v a : Int) : Int := if v = a then 1 else if v = - a then 0 else -1

/-- a callee of the reference's that is asked behind RectValid -/
theorem rv_nat {R C : Nat} {r c : Int} (hR : R ≤ 8) (hC : C ≤ 8) (h : rvB R C r c = true) : ∃ RS CS : Nat, r = (RS : Int) ∧ c = (CS : Int) ∧ 1 ≤ RS ∧ RS < 2 ^ R ∧ 1 ≤ CS ∧ CS < 2 ^ C ∧ RS < 256 ∧ CS < 256 := by
  unfold rvB at h
  rw [Bool.and_eq_true, decide_eq_true_iff, decide_eq_true_iff] at h
  obtain ⟨⟨h1, h2⟩, h3, h4⟩ := h
  obtain ⟨RS, rfl⟩ := Int.eq_ofNat_of_zero_le (show 0 ≤ r by omega)
  obtain ⟨CS, rfl⟩ := Int.eq_ofNat_of_zero_le (show 0 ≤ c by omega)
  have e1 : ((2 : Int) ^ R) = ((2 ^ R : Nat) : Int) := by simp
  have e2 : ((2 : Int) ^ C) = ((2 ^ C : Nat) : Int) := by simp
  have h5 : 2 ^ R ≤ 2 ^ 8 := Nat.pow_le_pow_right (by decide) hR
  have h6 : 2 ^ C ≤ 2 ^ 8 := Nat.pow_le_pow_right (by decide) hC
  rw [e1] at h2
  rw [e2] at h4
  generalize 2 ^ R = X at *
  generalize 2 ^ C = Y at *
  exact ⟨RS, CS, rfl, rfl, by omega, by omega, by omega, by omega, by omega, by omega⟩

end Go.Proofs.YtbbgibbpeibhiaaGreatDoor.Colour

