/-
  Texts of one seat, joined: GrowY, Cover, CoverS.
-/
import Derived.Test.YtemmagkkigdhjaaGreatDoorJn26
import Derived.Test.YtemmagkkigdhjaaGreatDoorJn21
import Derived.Test.YtemmagkkigdhjaaGreatDoorJn15
import Derived.Test.YtemmagkkigdhjaaGreatDoorJn25
import Derived.Test.YtemmagkkigdhjaaGreatDoorJn19
import Derived.Test.YtemmagkkigdhjaaGreatDoorJn20
/-
  What a plain rectangle of a valid matrix grows to, told by the entries; what else answers none.
-/
namespace Go.Proofs.YtemmagkkigdhjaaGreatDoor.GrowY
open Go.RowKit Go.Proofs.YtemmagkkigdhjaaGreatDoor.Plain Go.Proofs.YtemmagkkigdhjaaGreatDoor.Base Go.Proofs.YtemmagkkigdhjaaGreatDoor.Valid Go.Proofs.YtemmagkkigdhjaaGreatDoor.Law Go.Proofs.YtemmagkkigdhjaaGreatDoor.GridPlain Go.Proofs.YtemmagkkigdhjaaGreatDoor.Grid Go.Proofs.YtemmagkkigdhjaaGreatDoor.Entry Go.Proofs.YtemmagkkigdhjaaGreatDoor.Pat Go.Proofs.YtemmagkkigdhjaaGreatDoor.Rect Go.Proofs.YtemmagkkigdhjaaGreatDoor.Patch Go.Proofs.YtemmagkkigdhjaaGreatDoor.FreeL Go.Proofs.YtemmagkkigdhjaaGreatDoor.Board Go.Proofs.YtemmagkkigdhjaaGreatDoor.BoardM Go.Proofs.YtemmagkkigdhjaaGreatDoor.RValid Go.Proofs.YtemmagkkigdhjaaGreatDoor.Area Go.Proofs.YtemmagkkigdhjaaGreatDoor.Bal Go.Proofs.YtemmagkkigdhjaaGreatDoor.Colour Go.Proofs.YtemmagkkigdhjaaGreatDoor.Where Go.Proofs.YtemmagkkigdhjaaGreatDoor.With Go.Proofs.YtemmagkkigdhjaaGreatDoor.Cols Go.Proofs.YtemmagkkigdhjaaGreatDoor.Grow Go.Proofs.YtemmagkkigdhjaaGreatDoor.GrowOf Go.Proofs.YtemmagkkigdhjaaGreatDoor.MaxM Go.Proofs.YtemmagkkigdhjaaGreatDoor.Meet Go.Proofs.YtemmagkkigdhjaaGreatDoor.ColF
set_option linter.unusedVariables false
set_option linter.unusedSectionVars false

/-- all entries have the value -/
def plainE (E : Nat → Nat → Bool) (b : Bool) (RS CS : Nat) : Prop := ∀ x y, RS.testBit x = true → CS.testBit y = true → E x y = b
theorem colV_plain (E : Nat → Nat → Bool) (b : Bool) (RS CS R C : Nat) (h2 : R ≤ 8) (h4 : C ≤ 8) (k1 : 1 ≤ RS) (k2 : RS < 2 ^ R) (k3 : 1 ≤ CS) (k4 : CS < 2 ^ C) (k5 : RS < 256) (k6 : CS < 256) (hp : plainE E b RS CS) :
    colV (bal E RS CS R C) ((pop8 RS * pop8 CS : Nat) : Int) = bitI b := by
  have hpos : 1 ≤ pop8 RS * pop8 CS := Nat.mul_le_mul (pop8_pos RS k1 k5) (pop8_pos CS k3 k6)
  unfold colV
  cases b with
  | true =>
    rw [if_pos ((bal_area E RS CS R C h2 h4 k2 k4).2 hp)]
    rfl
  | false =>
    have h := (bal_area (fun x y => !E x y) RS CS R C h2 h4 k2 k4).2 (fun x y hx hy => by rw [hp x y hx hy]; rfl)
    rw [← bal_not] at h
    rw [if_neg (by omega), if_pos (by omega)]
    rfl
section
variable (E : Nat → Nat → Bool) (R C : Nat) (h1 : 1 ≤ R) (h2 : R ≤ 8) (h3 : 1 ≤ C) (h4 : C ≤ 8) (RS CS : Nat) (k1 : 1 ≤ RS) (k2 : RS < 2 ^ R) (k3 : 1 ≤ CS) (k4 : CS < 2 ^ C) (k5 : RS < 256) (k6 : CS < 256) (b : Bool) (hp : plainE E b RS CS)
include h1 h2 h3 h4 k1 k2 k3 k4 k5 k6 hp
/-- the rectangle that it grows to -/
theorem grown : plainE E b (rS E b R C CS) (cS E b R C (rS E b R C CS)) ∧ rS E b R C (cS E b R C (rS E b R C CS)) = rS E b R C CS ∧
    RS &&& rS E b R C CS = RS ∧ CS &&& cS E b R C (rS E b R C CS) = CS ∧ 1 ≤ rS E b R C CS ∧ 1 ≤ cS E b R C (rS E b R C CS) ∧
    (((rS E b R C CS : Nat) : Int), ((cS E b R C (rS E b R C CS) : Nat) : Int)) ∈ mx E b R C (2 ^ R - 1) := by
  have hpw := Nat.one_le_two_pow (n := R)
  have hin : ∀ x y, RS.testBit x = true → CS.testBit y = true → x < R ∧ y < C := fun x y hx hy => by
    constructor
    · rcases Nat.lt_or_ge x R with h | h
      · exact h
      · rw [bit_beyond RS x R k2 h] at hx; cases hx
    · rcases Nat.lt_or_ge y C with h | h
      · exact h
      · rw [bit_beyond CS y C k4 h] at hy; cases hy
  obtain ⟨x0, hx0⟩ : ∃ x, RS.testBit x = true := Nat.exists_testBit_of_ne_zero (by omega)
  obtain ⟨y0, hy0⟩ : ∃ y, CS.testBit y = true := Nat.exists_testBit_of_ne_zero (by omega)
  have hR : ∀ x, RS.testBit x = true → (rS E b R C CS).testBit x = true := fun x hx => (rS_bit ..).2 ⟨(hin x y0 hx hy0).1, fun y hy hb => hp x y hx hb⟩
  have hC : ∀ y, CS.testBit y = true → (cS E b R C (rS E b R C CS)).testBit y = true := fun y hy => (cS_bit ..).2 ⟨(hin x0 y hx0 hy).2, fun x hx hb => ((rS_bit ..).1 hb).2 y (hin x0 y hx0 hy).2 hy⟩
  have hclosed : rS E b R C (cS E b R C (rS E b R C CS)) = rS E b R C CS := by
    refine Nat.eq_of_testBit_eq fun x => ?_
    rw [Bool.eq_iff_iff]
    constructor
    · intro h
      obtain ⟨g1, g2⟩ := (rS_bit ..).1 h
      exact (rS_bit ..).2 ⟨g1, fun y hy hb => g2 y hy (hC y hb)⟩
    · intro h
      exact (rS_bit ..).2 ⟨((rS_bit ..).1 h).1, fun y hy hb => ((cS_bit ..).1 hb).2 x ((rS_bit ..).1 h).1 h⟩
  have p1 : 1 ≤ rS E b R C CS := by
    rcases Nat.eq_zero_or_pos (rS E b R C CS) with h0 | h0
    · have := hR x0 hx0
      rw [h0] at this
      simp at this
    · exact h0
  have p2 : 1 ≤ cS E b R C (rS E b R C CS) := by
    rcases Nat.eq_zero_or_pos (cS E b R C (rS E b R C CS)) with h0 | h0
    · have := hC y0 hy0
      rw [h0] at this
      simp at this
    · exact h0
  have hlt := rS_lt E b R C CS
  have sub : ∀ a c : Nat, (∀ i, a.testBit i = true → c.testBit i = true) → a &&& c = a := fun a c h => Nat.eq_of_testBit_eq fun i => by
    rw [Nat.testBit_and]
    cases ha : a.testBit i with
    | false => rfl
    | true => rw [h i ha]; rfl
  refine ⟨fun x y hx hy => ((cS_bit ..).1 hy).2 x ((rS_bit ..).1 hx).1 hx, hclosed, sub _ _ hR, sub _ _ hC, p1, p2, ?_⟩
  exact (mx_mem ..).2 ⟨rS E b R C CS, p1, by omega, by omega, hclosed, rfl⟩
end
theorem and_nat (A B : Nat) (hA : A < 256) (hB : B < 256) : Go.bits .and .i64 (A : Int) (B : Int) = ((A &&& B : Nat) : Int) :=
  (bits_nat .i64 8 (by decide) (fun n h0 h1 => by rw [IntKind.wrap_i64]; omega) A B (by omega) (by omega)).1
end Go.Proofs.YtemmagkkigdhjaaGreatDoor.GrowY

/-
  The program's hasPlain, isBit, IsCover.
-/
namespace Go.Proofs.YtemmagkkigdhjaaGreatDoor.Cover
open Go.RowKit Go.Proofs.YtemmagkkigdhjaaGreatDoor.Plain Go.Proofs.YtemmagkkigdhjaaGreatDoor.Base Go.Proofs.YtemmagkkigdhjaaGreatDoor.Valid Go.Proofs.YtemmagkkigdhjaaGreatDoor.Law Go.Proofs.YtemmagkkigdhjaaGreatDoor.Pat Go.Proofs.YtemmagkkigdhjaaGreatDoor.Rect Go.Proofs.YtemmagkkigdhjaaGreatDoor.Patch Go.Proofs.YtemmagkkigdhjaaGreatDoor.FreeL Go.Proofs.YtemmagkkigdhjaaGreatDoor.Board Go.Proofs.YtemmagkkigdhjaaGreatDoor.BoardM Go.Proofs.YtemmagkkigdhjaaGreatDoor.RValid Go.Proofs.YtemmagkkigdhjaaGreatDoor.Colour Go.Proofs.YtemmagkkigdhjaaGreatDoor.Rects
open Go.Proofs.YtemmagkkigdhjaaGreatDoor.Free (fill wp_value wp_enter wp_load_row freeB)
set_option linter.unusedVariables false

/-- a rectangle is one of a matrix, and its entries are all in a set -/
def hpB (R C q : Nat) (r c : Int) : Bool := rvB R C r c && decide (pat (rectB r.toNat c.toNat) 8 &&& (18446744073709551615 - q) = 0)

set_option maxHeartbeats 1000000 in
theorem bit_all (v : Int) (w : World) :
    Calls Tryz.prog 19 #[.int .i64 v] w fun e w' => e = .returned (.bool (v == 0 || v == 1)) ∧ w = w' := by
  obtain ⟨b, hb⟩ : ∃ b, (v == 0) = b := ⟨_, rfl⟩
  obtain ⟨d, hd⟩ : ∃ d, (v == 1) = d := ⟨_, rfl⟩
  rw [hb, hd]
  cases b <;> cases d
  all_goals
    go_enter Tryz.func19, Tryz.ntmps19
    go_wp2_with fail
    go_ret
    exact ⟨rfl, rfl⟩

/-- the board's box and the rectangle's -/
structure HInv (w wr : World) (R C : Int) (z o : Nat) (r c : Int) : Prop where
  b : BHolds wr w.heap.size R C z o
  t : RHolds wr (w.heap.size + 1) r c
  below : Below w.heap.size w wr
theorem HInv.later {w wr w2 : World} {R C : Int} {z o : Nat} {r c : Int} (h : HInv w wr R C z o r c) (hb : Below wr.heap.size wr w2) : HInv w w2 R C z o r c := ⟨bh_on h.b hb, h.t.on hb, rstep h.below hb⟩
theorem HInv.start (w : World) (R C : Int) (z o : Nat) (r c : Int) : HInv w ((w.alloc (.cells #[.int .i64 R, .int .i64 C, .int .u64 (z : Int), .int .u64 (o : Int)] 50)).alloc (.cells #[.int .i64 r, .int .i64 c] 31)) R C z o r c := by
  obtain ⟨e0, e1, hb0⟩ := two_box (w := w) (a := .cells #[.int .i64 R, .int .i64 C, .int .u64 (z : Int), .int .u64 (o : Int)] 50) (b := .cells #[.int .i64 r, .int .i64 c] 31)
  exact ⟨e0, e1, hb0⟩
theorem rh_c {w : World} {b : Nat} {r c : Int} (h : RHolds w b r c) : w.cell? ⟨b, 0, none⟩ = some (.int .i64 r) ∧ w.cell? ⟨b, 1, none⟩ = some (.int .i64 c) := ⟨cell_of_row _ _ 0 _ _ _ h, cell_of_row _ _ 1 _ _ _ h⟩

set_option maxHeartbeats 1000000 in
theorem has_plain (R C : Nat) (hR : R ≤ 8) (hC : C ≤ 8) (z o q : Nat) (bit : Int)
    (hpl : ∀ RS CS : Nat, RS < 256 → CS < 256 → ∀ W : World, Calls Tryz.prog 33 #[brd R C z o, rect RS CS, .int .i64 bit] W fun e w' => e = .returned (.bool (decide (pat (rectB RS CS) 8 &&& (18446744073709551615 - q) = 0))) ∧ Below W.heap.size W w')
    (r c : Int) (w : World) :
    Calls Tryz.prog 43 #[brd R C z o, rect r c, .int .i64 bit] w fun e w' => e = .returned (.bool (hpB R C q r c)) ∧ Below w.heap.size w w' := by
  unfold hpB
  by_cases ht : rvB R C r c = true
  · obtain ⟨RS, CS, rfl, rfl, k1, k2, k3, k4, k5, k6⟩ := rv_nat hR hC ht
    have HP := Lib.hid (hpl RS CS k5 k6)
    have HR := Lib.hid (fun W => hasRect_any R C hR hC z o RS CS W)
    rw [ht] at HR ⊢
    rw [Bool.true_and, Int.toNat_natCast, Int.toNat_natCast]
    clear hpl ht k1 k2 k3 k4 k5 k6
    generalize decide (pat (rectB RS CS) 8 &&& (18446744073709551615 - q) = 0) = t at *
    go_enter Tryz.func43, Tryz.ntmps43
    go_wp2_with fail
    refine (HR.out _).mono ?_
    rintro e w1 ⟨rfl, hb1⟩
    have hinv := (HInv.start w R C z o RS CS).later hb1
    obtain ⟨q0, q1, q2, q3⟩ := bh_c hinv.b
    obtain ⟨p0, p1⟩ := rh_c hinv.t
    have HI := Lib.hid hinv
    clear hb1 hinv HR
    go_wp2_with fail
    refine (HP.out _).mono ?_
    rintro e w2 ⟨rfl, hb2⟩
    have HB := Lib.hid (HI.out.later hb2).below
    clear hb2 HI q0 q1 q2 q3 p0 p1 HP
    go_wp2_with fail
    go_ret
    exact ⟨rfl, HB.out⟩
  · rw [Bool.not_eq_true] at ht
    have HR := Lib.hid (fun W => hasRect_any R C hR hC z o r c W)
    rw [ht] at HR ⊢
    rw [Bool.false_and]
    clear hpl ht
    go_enter Tryz.func43, Tryz.ntmps43
    go_wp2_with fail
    refine (HR.out _).mono ?_
    rintro e w1 ⟨rfl, hb1⟩
    have HB := Lib.hid ((HInv.start w R C z o r c).later hb1).below
    clear hb1 HR
    go_wp2_with fail
    go_ret
    exact ⟨rfl, HB.out⟩

/-- the entries of the first k rectangles -/
def covTo (xs : List (Int × Int)) : Nat → Nat
  | 0 => 0
  | k + 1 => covTo xs k ||| (match xs[k]? with | some r => pat (rectB r.1.toNat r.2.toNat) 8 | none => 0)
theorem covTo_next (xs : List (Int × Int)) (k : Nat) (hk : k < xs.length) : covTo xs (k + 1) = covTo xs k ||| pat (rectB xs[k].1.toNat xs[k].2.toNat) 8 := by
  rw [covTo, List.getElem?_eq_getElem hk]
theorem or64n (a b : Nat) (ha : a < 18446744073709551616) (hb : b < 18446744073709551616) : Go.bits .or .u64 (a : Int) (b : Int) = ((a ||| b : Nat) : Int) :=
  (bits_nat .u64 64 (by decide) (fun n h0 h1 => by rw [IntKind.wrap_u64]; omega) a b (by omega) (by omega)).2
/-- a board's box, later on -/
structure VInv (w wr : World) (g : Nat) (R C : Int) (z o : Nat) : Prop where
  b : BHolds wr g R C z o
  below : Below w.heap.size w wr
  lo : w.heap.size ≤ g
theorem VInv.later {w wr w2 : World} {g : Nat} {R C : Int} {z o : Nat} (h : VInv w wr g R C z o) (hb : Below wr.heap.size wr w2) : VInv w w2 g R C z o := ⟨bh_on h.b hb, rstep h.below hb, h.lo⟩
theorem VInv.lt {w wr : World} {g : Nat} {R C : Int} {z o : Nat} (h : VInv w wr g R C z o) : g < wr.heap.size := (Array.getElem?_eq_some_iff.1 h.b).1
theorem VInv.box {w wr w2 : World} {g : Nat} {R C : Int} {z o : Nat} {ob : Obj} (h : VInv w wr g R C z o) (hb : Below (wr.alloc ob).heap.size (wr.alloc ob) w2) : VInv w w2 g R C z o ∧ w2.heap[wr.heap.size]? = some ob := by
  have h1 : VInv w (wr.alloc ob) g R C z o := h.later ((Below.refl _ _).alloc (Nat.le_refl _) _)
  exact ⟨h1.later hb, (hb.block _ (by simp)).trans (heap_alloc_new wr ob)⟩

set_option maxHeartbeats 1000000 in
theorem impl_cover (R C : Nat) (hR1 : 1 ≤ R) (hR : R ≤ 8) (hC : C ≤ 8) (z o q : Nat) (hq : q < 18446744073709551616) (bit : Int) (hbit : (bit = 0 ∧ q = z) ∨ (bit = 1 ∧ q = o)) (rr cc : Int) (s : ByteArray)
    (hbo : ∀ W : World, Calls Tryz.prog 20 #[mat rr cc s] W fun e w' => e = .returned (brd R C z o) ∧ Below W.heap.size W w')
    (hpl : ∀ RS CS : Nat, RS < 256 → CS < 256 → ∀ W : World, Calls Tryz.prog 33 #[brd R C z o, rect RS CS, .int .i64 bit] W fun e w' => e = .returned (.bool (decide (pat (rectB RS CS) 8 &&& (18446744073709551615 - q) = 0))) ∧ Below W.heap.size W w')
    (xs : List (Int × Int)) (v : Value) (w : World) (hiv : RV w w.heap.size v xs) :
    Calls Tryz.prog 15 #[mat rr cc s, .int .i64 bit, v] w fun e w' => e = .returned (.bool (xs.all (fun r => hpB R C q r.1 r.2) && (covTo xs xs.length == q))) ∧ Below w.heap.size w w' := by
  have HBO := Lib.hid hbo
  have HP := Lib.hid (fun r c W => has_plain R C hR hC z o q bit hpl r c W)
  clear hbo hpl
  have HBIT := Lib.hid (fun W => bit_all bit W)
  rw [show (bit == 0 || bit == 1) = true by rcases hbit with ⟨rfl, _⟩ | ⟨rfl, _⟩ <;> rfl] at HBIT
  obtain ⟨p, kk, rfl⟩ := hiv.slice
  go_enter Tryz.func15, Tryz.ntmps15
  go_wp2_with fail
  refine (HBO.out _).mono ?_
  rintro e w1 ⟨rfl, hb1⟩
  have hbx : Below w.heap.size w w1 := rstep ((Below.refl w.heap.size w).alloc (Nat.le_refl _) _) hb1
  clear hb1 HBO
  go_wp2_with fail
  refine (HBIT.out _).mono ?_
  rintro e w' ⟨rfl, rfl⟩
  have HV0 : Hid (VInv w (w1.alloc (.cells #[.int .i64 (R : Int), .int .i64 (C : Int), .int .u64 (z : Int), .int .u64 (o : Int)] 50)) w1.heap.size R C z o) := ⟨heap_alloc_new w1 _, hbx.alloc hbx.size _, hbx.size⟩
  have HC : Hid (∀ j (hj : j < xs.length), ∃ b off c, Value.slice p xs.length kk = .slice (some ⟨b, off, none⟩) xs.length c ∧ b < w.heap.size ∧ w.cell? ⟨b, off + j * 2, none⟩ = some (.int .i64 xs[j].1) ∧ w.cell? ⟨b, off + j * 2 + 1, none⟩ = some (.int .i64 xs[j].2)) := fun j hj => by
    rcases hiv.2 with ⟨_, rfl⟩ | ⟨b, off, c, e, hlt, hc⟩
    · cases hj
    · exact ⟨b, off, c, e, hlt, hc j hj⟩
  have hl := hiv.1
  clear hiv hbx HBIT
  generalize w1.alloc (.cells #[.int .i64 (R : Int), .int .i64 (C : Int), .int .u64 (z : Int), .int .u64 (o : Int)] 50) = W0 at *
  generalize w1.heap.size = g at *
  go_wp2_with fail
  go_loopw [8, 23] (fun t i wr => ∃ (k m : Nat), k ≤ xs.length ∧ i = .int .i64 (k : Int) ∧ t = .int .u64 (m : Int) ∧ m < 18446744073709551616 ∧ Hid (m = covTo xs k) ∧ Hid (∀ j (hj : j < xs.length), j < k → hpB R C q xs[j].1 xs[j].2 = true) ∧ VInv w wr g R C z o) (fun _ i _ => xs.length - (intOf i).toNat)
  case atStart => exact ⟨0, 0, Nat.zero_le _, rfl, rfl, by omega, rfl, fun j _ h => absurd h (by omega), HV0.out⟩
  case round =>
    obtain ⟨k, m, hk, rfl, rfl, hm, hcov, hall, hinv⟩ := hrel
    clear HV0
    obtain ⟨q0, q1, q2, q3⟩ := bh_c hinv.b
    have hg := hinv.lt
    have HI := Lib.hid hinv
    by_cases hkl : k < xs.length
    · obtain ⟨b, off, c, e, hlt, c0, c1⟩ := HC.out k hkl
      injection e with e1 e2 e3
      subst e1 e3
      have c0 := (hinv.below.cell (p := ⟨b, off + k * 2, none⟩) hlt).trans c0
      have c1 := (hinv.below.cell (p := ⟨b, off + k * 2 + 1, none⟩) hlt).trans c1
      have HX : Hid (∃ x y, xs[k].1 = x ∧ xs[k].2 = y) := ⟨_, _, rfl, rfl⟩
      obtain ⟨x, y, hx, hy⟩ := HX.out
      have HXY : Hid (xs[k].1 = x ∧ xs[k].2 = y) := ⟨hx, hy⟩
      rw [hx] at c0
      rw [hy] at c1
      clear hinv HX hx hy
      go_wp2_with fail
      refine (HP.out x y _).mono ?_
      rintro e w2 ⟨rfl, hb2⟩
      obtain ⟨hinv, hbox⟩ := HI.out.box hb2
      obtain ⟨t, ht⟩ : ∃ t, hpB R C q x y = t := ⟨_, rfl⟩
      have HT := Lib.hid ht
      rw [ht]
      clear ht q0 q1 q2 q3 hg c0 c1 hb2 HI
      cases t
      · have HB := Lib.hid hinv.below
        clear hinv hbox
        go_wp2_with fail
        go_ret
        refine ⟨?_, HB.out⟩
        rw [show xs.all (fun r => hpB R C q r.1 r.2) = false from ?_]
        · rfl
        · rw [List.all_eq_false]
          exact ⟨xs[k], List.getElem_mem hkl, by rw [HXY.out.1, HXY.out.2, HT.out]; decide⟩
      · have hrv : rvB R C x y = true := by
          have h := HT.out
          unfold hpB at h
          rw [Bool.and_eq_true] at h
          exact h.1
        obtain ⟨RS, CS, rfl, rfl, k1, k2, k3, k4, k5, k6⟩ := rv_nat hR hC hrv
        have hp64 := pat64 (rectB RS CS) (rectB_lt RS CS k6)
        have HPA := Lib.hid (patch_any RS CS k5 k6)
        have hor := or64n m (pat (rectB RS CS) 8) hm hp64
        have hlt64 : m ||| pat (rectB RS CS) 8 < 18446744073709551616 := Nat.or_lt_two_pow (n := 64) hm hp64
        have HCOV : Hid (m ||| pat (rectB RS CS) 8 = covTo xs (k + 1)) := by
          unfold Hid
          rw [covTo_next xs k hkl, ← hcov.out, HXY.out.1, HXY.out.2, Int.toNat_natCast, Int.toNat_natCast]
        have HALL : Hid (∀ j (hj : j < xs.length), j < k + 1 → hpB R C q xs[j].1 xs[j].2 = true) := fun j hj hjk => by
          by_cases ej : j = k
          · subst ej; rw [HXY.out.1, HXY.out.2]; exact HT.out
          · exact hall.out j hj (by omega)
        clear hrv k1 k2 k3 k4 hp64 hcov hall
        generalize m ||| pat (rectB RS CS) 8 = m2 at *
        generalize pat (rectB RS CS) 8 = pp at *
        obtain ⟨r0, r1⟩ := rh_c (show RHolds w2 wr.heap.size RS CS from hbox)
        have HI2 := Lib.hid hinv
        clear hinv hbox
        go_wp2_with fail
        refine (HPA.out _).mono ?_
        rintro e w3 ⟨rfl, hb3⟩
        have HI3 := Lib.hid (HI2.out.later hb3)
        clear hb3 HI2 r0 r1
        go_wp2_with fail
        go_roundw
        case rel => exact ⟨k + 1, m2, by omega, by go_num, by go_num, hlt64, HCOV, HALL, HI3.out⟩
        case measure => simp [intOf]; omega
    · obtain rfl : k = xs.length := by omega
      have HA : Hid (xs.all (fun r => hpB R C q r.1 r.2) = true) := by
        unfold Hid
        rw [List.all_eq_true]
        intro r hr
        obtain ⟨j, hj, rfl⟩ := List.getElem_of_mem hr
        exact hall.out j hj hj
      have HF : Hid ((xs.all (fun r => hpB R C q r.1 r.2) && (covTo xs xs.length == q)) = ((m : Int) == (q : Int))) := by
        unfold Hid
        rw [HA.out, Bool.true_and, ← hcov.out, Bool.eq_iff_iff, beq_iff_eq, beq_iff_eq]
        omega
      clear hinv hcov hall HA
      rcases hbit with ⟨rfl, rfl⟩ | ⟨rfl, rfl⟩
      all_goals
        go_wp2_with fail
        go_ret
        exact ⟨by rw [HF.out]; rfl, HI.out.below⟩
end Go.Proofs.YtemmagkkigdhjaaGreatDoor.Cover

/-
  The reference's IsCover.
-/
namespace Go.Proofs.YtemmagkkigdhjaaGreatDoor.CoverS
open Go.RowKit Go.Proofs.YtemmagkkigdhjaaGreatDoor.Plain Go.Proofs.YtemmagkkigdhjaaGreatDoor.Base Go.Proofs.YtemmagkkigdhjaaGreatDoor.Valid Go.Proofs.YtemmagkkigdhjaaGreatDoor.Law Go.Proofs.YtemmagkkigdhjaaGreatDoor.Entry Go.Proofs.YtemmagkkigdhjaaGreatDoor.Pat Go.Proofs.YtemmagkkigdhjaaGreatDoor.Rect Go.Proofs.YtemmagkkigdhjaaGreatDoor.Patch Go.Proofs.YtemmagkkigdhjaaGreatDoor.FreeL Go.Proofs.YtemmagkkigdhjaaGreatDoor.Board Go.Proofs.YtemmagkkigdhjaaGreatDoor.BoardM Go.Proofs.YtemmagkkigdhjaaGreatDoor.RValid Go.Proofs.YtemmagkkigdhjaaGreatDoor.Colour Go.Proofs.YtemmagkkigdhjaaGreatDoor.Rects
open Go.Proofs.YtemmagkkigdhjaaGreatDoor.Free (fill wp_value wp_enter wp_load_row freeB)
set_option linter.unusedVariables false

/-- the matrix's box -/
structure MI (w wr : World) (R C : Int) (s : ByteArray) : Prop where
  m : MHolds wr w.heap.size 24 R C s
  below : Below w.heap.size w wr
theorem MI.later {w wr w2 : World} {R C : Int} {s : ByteArray} (h : MI w wr R C s) (hb : Below wr.heap.size wr w2) : MI w w2 R C s := ⟨mh_on h.m hb, rstep h.below hb⟩
/-- an entry has not the value, or is in one of the first k rectangles -/
def cellTo (E : Nat → Nat → Bool) (bit : Int) (xs : List (Int × Int)) (x y : Nat) : Nat → Bool
  | 0 => bitI (E x y) != bit
  | k + 1 => cellTo E bit xs x y k || (match xs[k]? with | some r => r.1.toNat.testBit x && r.2.toNat.testBit y | none => false)
theorem cellTo_next (E : Nat → Nat → Bool) (bit : Int) (xs : List (Int × Int)) (x y k : Nat) (hk : k < xs.length) : cellTo E bit xs x y (k + 1) = (cellTo E bit xs x y k || (xs[k].1.toNat.testBit x && xs[k].2.toNat.testBit y)) := by
  rw [cellTo, List.getElem?_eq_getElem hk]
def cellsAll (E : Nat → Nat → Bool) (bit : Int) (xs : List (Int × Int)) (R C : Nat) : Bool := decide (∀ x, x < R → ∀ y, y < C → cellTo E bit xs x y xs.length = true)

end Go.Proofs.YtemmagkkigdhjaaGreatDoor.CoverS

