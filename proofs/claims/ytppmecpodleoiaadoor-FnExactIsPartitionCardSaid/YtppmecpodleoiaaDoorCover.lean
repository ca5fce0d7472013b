/-
  The program's hasPlain, isBit, IsCover.
-/
import Derived.Test.YtppmecpodleoiaaDoorRects
import Derived.Test.YtppmecpodleoiaaDoorRValid
import Derived.Test.YtppmecpodleoiaaDoorColour
namespace Go.Proofs.YtppmecpodleoiaaDoor.Cover
open Go.RowKit Go.Proofs.YtppmecpodleoiaaDoor.Plain Go.Proofs.YtppmecpodleoiaaDoor.Base Go.Proofs.YtppmecpodleoiaaDoor.Valid Go.Proofs.YtppmecpodleoiaaDoor.Law Go.Proofs.YtppmecpodleoiaaDoor.Pat Go.Proofs.YtppmecpodleoiaaDoor.Rect Go.Proofs.YtppmecpodleoiaaDoor.Patch Go.Proofs.YtppmecpodleoiaaDoor.FreeL Go.Proofs.YtppmecpodleoiaaDoor.Board Go.Proofs.YtppmecpodleoiaaDoor.BoardM Go.Proofs.YtppmecpodleoiaaDoor.RValid Go.Proofs.YtppmecpodleoiaaDoor.Colour Go.Proofs.YtppmecpodleoiaaDoor.Rects
open Go.Proofs.YtppmecpodleoiaaDoor.Free (fill wp_value wp_enter wp_load_row freeB)
set_option linter.unusedVariables false

/-- a rectangle is one of a matrix, and its entries are all in a set -/
def hpB (R C q : Nat) (r c : Int) : Bool := rvB R C r c && decide (pat (rectB r.toNat c.toNat) 8 &&& (18446744073709551615 - q) = 0)

set_option maxHeartbeats 1000000 in
theorem bit_all (v : Int) (w : World) :
    Calls Tryd.prog 50 #[.int .i64 v] w fun e w' => e = .returned (.bool (v == 0 || v == 1)) ∧ w = w' := by
  obtain ⟨b, hb⟩ : ∃ b, (v == 0) = b := ⟨_, rfl⟩
  obtain ⟨d, hd⟩ : ∃ d, (v == 1) = d := ⟨_, rfl⟩
  rw [hb, hd]
  cases b <;> cases d
  all_goals
    go_enter Tryd.func50, Tryd.ntmps50
    go_wp2_with fail
    go_ret
    exact ⟨rfl, rfl⟩

/-- the board's box and the rectangle's -/
structure HInv (w wr : World) (R C : Int) (z o : Nat) (r c : Int) : Prop where
  b : BHolds wr w.heap.size R C z o
  t : RHolds wr (w.heap.size + 1) r c
  below : Below w.heap.size w wr
theorem HInv.later {w wr w2 : World} {R C : Int} {z o : Nat} {r c : Int} (h : HInv w wr R C z o r c) (hb : Below wr.heap.size wr w2) : HInv w w2 R C z o r c := ⟨bh_on h.b hb, h.t.on hb, rstep h.below hb⟩
theorem HInv.start (w : World) (R C : Int) (z o : Nat) (r c : Int) : HInv w ((w.alloc (.cells #[.int .i64 R, .int .i64 C, .int .u64 (z : Int), .int .u64 (o : Int)] 76)).alloc (.cells #[.int .i64 r, .int .i64 c] 39)) R C z o r c := by
  obtain ⟨e0, e1, hb0⟩ := two_box (w := w) (a := .cells #[.int .i64 R, .int .i64 C, .int .u64 (z : Int), .int .u64 (o : Int)] 76) (b := .cells #[.int .i64 r, .int .i64 c] 39)
  exact ⟨e0, e1, hb0⟩
theorem rh_c {w : World} {b : Nat} {r c : Int} (h : RHolds w b r c) : w.cell? ⟨b, 0, none⟩ = some (.int .i64 r) ∧ w.cell? ⟨b, 1, none⟩ = some (.int .i64 c) := ⟨cell_of_row _ _ 0 _ _ _ h, cell_of_row _ _ 1 _ _ _ h⟩

set_option maxHeartbeats 1000000 in
theorem has_plain (R C : Nat) (hR : R ≤ 8) (hC : C ≤ 8) (z o q : Nat) (bit : Int)
    (hpl : ∀ RS CS : Nat, RS < 256 → CS < 256 → ∀ W : World, Calls Tryd.prog 104 #[brd R C z o, rect RS CS, .int .i64 bit] W fun e w' => e = .returned (.bool (decide (pat (rectB RS CS) 8 &&& (18446744073709551615 - q) = 0))) ∧ Below W.heap.size W w')
    (r c : Int) (w : World) :
    Calls Tryd.prog 65 #[brd R C z o, rect r c, .int .i64 bit] w fun e w' => e = .returned (.bool (hpB R C q r c)) ∧ Below w.heap.size w w' := by
  unfold hpB
  by_cases ht : rvB R C r c = true
  · obtain ⟨RS, CS, rfl, rfl, k1, k2, k3, k4, k5, k6⟩ := rv_nat hR hC ht
    have HP := Lib.hid (hpl RS CS k5 k6)
    have HR := Lib.hid (fun W => hasRect_any R C hR hC z o RS CS W)
    rw [ht] at HR ⊢
    rw [Bool.true_and, Int.toNat_natCast, Int.toNat_natCast]
    clear hpl ht k1 k2 k3 k4 k5 k6
    generalize decide (pat (rectB RS CS) 8 &&& (18446744073709551615 - q) = 0) = t at *
    go_enter Tryd.func65, Tryd.ntmps65
    go_wp2_with fail
    refine (HR.out _).mono ?_
    rintro e w1 ⟨rfl, hb1⟩
    have hinv := (HInv.start w R C z o RS CS).later hb1
    obtain ⟨q0, q1, q2, q3⟩ := bh_c hinv.b
    obtain ⟨p0, p1⟩ := rh_c hinv.t
    have HI := Lib.hid hinv
    clear hb1 hinv HR
    go_wp2_with fail
    refine (HP.out _).mono ?_
    rintro e w2 ⟨rfl, hb2⟩
    have HB := Lib.hid (HI.out.later hb2).below
    clear hb2 HI q0 q1 q2 q3 p0 p1 HP
    go_wp2_with fail
    go_ret
    exact ⟨rfl, HB.out⟩
  · rw [Bool.not_eq_true] at ht
    have HR := Lib.hid (fun W => hasRect_any R C hR hC z o r c W)
    rw [ht] at HR ⊢
    rw [Bool.false_and]
    clear hpl ht
    go_enter Tryd.func65, Tryd.ntmps65
    go_wp2_with fail
    refine (HR.out _).mono ?_
    rintro e w1 ⟨rfl, hb1⟩
    have HB := Lib.hid ((HInv.start w R C z o r c).later hb1).below
    clear hb1 HR
    go_wp2_with fail
    go_ret
    exact ⟨rfl, HB.out⟩

/-- the entries of the first k rectangles -/
def covTo (xs : List (Int × Int)) : Nat → Nat
  | 0 => 0
  | k + 1 => covTo xs k ||| (match xs[k]? with | some r => pat (rectB r.1.toNat r.2.toNat) 8 | none => 0)
theorem covTo_next (xs : List (Int × Int)) (k : Nat) (hk : k < xs.length) : covTo xs (k + 1) = covTo xs k ||| pat (rectB xs[k].1.toNat xs[k].2.toNat) 8 := by
  rw [covTo, List.getElem?_eq_getElem hk]
theorem or64n (a b : Nat) (ha : a < 18446744073709551616) (hb : b < 18446744073709551616) : Go.bits .or .u64 (a : Int) (b : Int) = ((a ||| b : Nat) : Int) :=
  (bits_nat .u64 64 (by decide) (fun n h0 h1 => by rw [IntKind.wrap_u64]; omega) a b (by omega) (by omega)).2
/-- a board's box, later on -/
structure VInv (w wr : World) (g : Nat) (R C : Int) (z o : Nat) : Prop where
  b : BHolds wr g R C z o
  below : Below w.heap.size w wr
  lo : w.heap.size ≤ g
theorem VInv.later {w wr w2 : World} {g : Nat} {R C : Int} {z o : Nat} (h : VInv w wr g R C z o) (hb : Below wr.heap.size wr w2) : VInv w w2 g R C z o := ⟨bh_on h.b hb, rstep h.below hb, h.lo⟩
theorem VInv.lt {w wr : World} {g : Nat} {R C : Int} {z o : Nat} (h : VInv w wr g R C z o) : g < wr.heap.size := (Array.getElem?_eq_some_iff.1 h.b).1
theorem VInv.box {w wr w2 : World} {g : Nat} {R C : Int} {z o : Nat} {ob : Obj} (h : VInv w wr g R C z o) (hb : Below (wr.alloc ob).heap.size (wr.alloc ob) w2) : VInv w w2 g R C z o ∧ w2.heap[wr.heap.size]? = some ob := by
  have h1 : VInv w (wr.alloc ob) g R C z o := h.later ((Below.refl _ _).alloc (Nat.le_refl _) _)
  exact ⟨h1.later hb, (hb.block _ (by simp)).trans (heap_alloc_new wr ob)⟩

set_option maxHeartbeats 1000000 in
theorem impl_cover (R C : Nat) (hR1 : 1 ≤ R) (hR : R ≤ 8) (hC : C ≤ 8) (z o q : Nat) (hq : q < 18446744073709551616) (bit : Int) (hbit : (bit = 0 ∧ q = z) ∨ (bit = 1 ∧ q = o)) (rr cc : Int) (s : ByteArray)
    (hbo : ∀ W : World, Calls Tryd.prog 51 #[mat rr cc s] W fun e w' => e = .returned (brd R C z o) ∧ Below W.heap.size W w')
    (hpl : ∀ RS CS : Nat, RS < 256 → CS < 256 → ∀ W : World, Calls Tryd.prog 104 #[brd R C z o, rect RS CS, .int .i64 bit] W fun e w' => e = .returned (.bool (decide (pat (rectB RS CS) 8 &&& (18446744073709551615 - q) = 0))) ∧ Below W.heap.size W w')
    (xs : List (Int × Int)) (v : Value) (w : World) (hiv : RV w w.heap.size v xs) :
    Calls Tryd.prog 28 #[mat rr cc s, .int .i64 bit, v] w fun e w' => e = .returned (.bool (xs.all (fun r => hpB R C q r.1 r.2) && (covTo xs xs.length == q))) ∧ Below w.heap.size w w' := by
  have HBO := Lib.hid hbo
  have HP := Lib.hid (fun r c W => has_plain R C hR hC z o q bit hpl r c W)
  clear hbo hpl
  have HBIT := Lib.hid (fun W => bit_all bit W)
  rw [show (bit == 0 || bit == 1) = true by rcases hbit with ⟨rfl, _⟩ | ⟨rfl, _⟩ <;> rfl] at HBIT
  obtain ⟨p, kk, rfl⟩ := hiv.slice
  go_enter Tryd.func28, Tryd.ntmps28
  go_wp2_with fail
  refine (HBO.out _).mono ?_
  rintro e w1 ⟨rfl, hb1⟩
  have hbx : Below w.heap.size w w1 := rstep ((Below.refl w.heap.size w).alloc (Nat.le_refl _) _) hb1
  clear hb1 HBO
  go_wp2_with fail
  refine (HBIT.out _).mono ?_
  rintro e w' ⟨rfl, rfl⟩
  have HV0 : Hid (VInv w (w1.alloc (.cells #[.int .i64 (R : Int), .int .i64 (C : Int), .int .u64 (z : Int), .int .u64 (o : Int)] 76)) w1.heap.size R C z o) := ⟨heap_alloc_new w1 _, hbx.alloc hbx.size _, hbx.size⟩
  have HC : Hid (∀ j (hj : j < xs.length), ∃ b off c, Value.slice p xs.length kk = .slice (some ⟨b, off, none⟩) xs.length c ∧ b < w.heap.size ∧ w.cell? ⟨b, off + j * 2, none⟩ = some (.int .i64 xs[j].1) ∧ w.cell? ⟨b, off + j * 2 + 1, none⟩ = some (.int .i64 xs[j].2)) := fun j hj => by
    rcases hiv.2 with ⟨_, rfl⟩ | ⟨b, off, c, e, hlt, hc⟩
    · cases hj
    · exact ⟨b, off, c, e, hlt, hc j hj⟩
  have hl := hiv.1
  clear hiv hbx HBIT
  generalize w1.alloc (.cells #[.int .i64 (R : Int), .int .i64 (C : Int), .int .u64 (z : Int), .int .u64 (o : Int)] 76) = W0 at *
  generalize w1.heap.size = g at *
  go_wp2_with fail
  go_loopw [8, 23] (fun t i wr => ∃ (k m : Nat), k ≤ xs.length ∧ i = .int .i64 (k : Int) ∧ t = .int .u64 (m : Int) ∧ m < 18446744073709551616 ∧ Hid (m = covTo xs k) ∧ Hid (∀ j (hj : j < xs.length), j < k → hpB R C q xs[j].1 xs[j].2 = true) ∧ VInv w wr g R C z o) (fun _ i _ => xs.length - (intOf i).toNat)
  case atStart => exact ⟨0, 0, Nat.zero_le _, rfl, rfl, by omega, rfl, fun j _ h => absurd h (by omega), HV0.out⟩
  case round =>
    obtain ⟨k, m, hk, rfl, rfl, hm, hcov, hall, hinv⟩ := hrel
    clear HV0
    obtain ⟨q0, q1, q2, q3⟩ := bh_c hinv.b
    have hg := hinv.lt
    have HI := Lib.hid hinv
    by_cases hkl : k < xs.length
    · obtain ⟨b, off, c, e, hlt, c0, c1⟩ := HC.out k hkl
      injection e with e1 e2 e3
      subst e1 e3
      have c0 := (hinv.below.cell (p := ⟨b, off + k * 2, none⟩) hlt).trans c0
      have c1 := (hinv.below.cell (p := ⟨b, off + k * 2 + 1, none⟩) hlt).trans c1
      have HX : Hid (∃ x y, xs[k].1 = x ∧ xs[k].2 = y) := ⟨_, _, rfl, rfl⟩
      obtain ⟨x, y, hx, hy⟩ := HX.out
      have HXY : Hid (xs[k].1 = x ∧ xs[k].2 = y) := ⟨hx, hy⟩
      rw [hx] at c0
      rw [hy] at c1
      clear hinv HX hx hy
      go_wp2_with fail
      refine (HP.out x y _).mono ?_
      rintro e w2 ⟨rfl, hb2⟩
      obtain ⟨hinv, hbox⟩ := HI.out.box hb2
      obtain ⟨t, ht⟩ : ∃ t, hpB R C q x y = t := ⟨_, rfl⟩
      have HT := Lib.hid ht
      rw [ht]
      clear ht q0 q1 q2 q3 hg c0 c1 hb2 HI
      cases t
      · have HB := Lib.hid hinv.below
        clear hinv hbox
        go_wp2_with fail
        go_ret
        refine ⟨?_, HB.out⟩
        rw [show xs.all (fun r => hpB R C q r.1 r.2) = false from ?_]
        · rfl
        · rw [List.all_eq_false]
          exact ⟨xs[k], List.getElem_mem hkl, by rw [HXY.out.1, HXY.out.2, HT.out]; decide⟩
      · have hrv : rvB R C x y = true := by
          have h := HT.out
          unfold hpB at h
          rw [Bool.and_eq_true] at h
          exact h.1
        obtain ⟨RS, CS, rfl, rfl, k1, k2, k3, k4, k5, k6⟩ := rv_nat hR hC hrv
        have hp64 := pat64 (rectB RS CS) (rectB_lt RS CS k6)
        have HPA := Lib.hid (patch_any RS CS k5 k6)
        have hor := or64n m (pat (rectB RS CS) 8) hm hp64
        have hlt64 : m ||| pat (rectB RS CS) 8 < 18446744073709551616 := Nat.or_lt_two_pow (n := 64) hm hp64
        have HCOV : Hid (m ||| pat (rectB RS CS) 8 = covTo xs (k + 1)) := by
          unfold Hid
          rw [covTo_next xs k hkl, ← hcov.out, HXY.out.1, HXY.out.2, Int.toNat_natCast, Int.toNat_natCast]
        have HALL : Hid (∀ j (hj : j < xs.length), j < k + 1 → hpB R C q xs[j].1 xs[j].2 = true) := fun j hj hjk => by
          by_cases ej : j = k
          · subst ej; rw [HXY.out.1, HXY.out.2]; exact HT.out
          · exact hall.out j hj (by omega)
        clear hrv k1 k2 k3 k4 hp64 hcov hall
        generalize m ||| pat (rectB RS CS) 8 = m2 at *
        generalize pat (rectB RS CS) 8 = pp at *
        obtain ⟨r0, r1⟩ := rh_c (show RHolds w2 wr.heap.size RS CS from hbox)
        have HI2 := Lib.hid hinv
        clear hinv hbox
        go_wp2_with fail
        refine (HPA.out _).mono ?_
        rintro e w3 ⟨rfl, hb3⟩
        have HI3 := Lib.hid (HI2.out.later hb3)
        clear hb3 HI2 r0 r1
        go_wp2_with fail
        go_roundw
        case rel => exact ⟨k + 1, m2, by omega, by go_num, by go_num, hlt64, HCOV, HALL, HI3.out⟩
        case measure => simp [intOf]; omega
    · obtain rfl : k = xs.length := by omega
      have HA : Hid (xs.all (fun r => hpB R C q r.1 r.2) = true) := by
        unfold Hid
        rw [List.all_eq_true]
        intro r hr
        obtain ⟨j, hj, rfl⟩ := List.getElem_of_mem hr
        exact hall.out j hj hj
      have HF : Hid ((xs.all (fun r => hpB R C q r.1 r.2) && (covTo xs xs.length == q)) = ((m : Int) == (q : Int))) := by
        unfold Hid
        rw [HA.out, Bool.true_and, ← hcov.out, Bool.eq_iff_iff, beq_iff_eq, beq_iff_eq]
        omega
      clear hinv hcov hall HA
      rcases hbit with ⟨rfl, rfl⟩ | ⟨rfl, rfl⟩
      all_goals
        go_wp2_with fail
        go_ret
        exact ⟨by rw [HF.out]; rfl, HI.out.below⟩
end Go.Proofs.YtppmecpodleoiaaDoor.Cover
