/-
  The walk of the drawn law on InRect.
-/
import Derived.Test.YtmkghdhkgajieaaDrawIR
import Derived.Test.YtmkghdhkgajieaaInRectWalk
import Derived.Test.YtmkghdhkgajieaaAreaWalk
namespace Go.Proofs.Ytmkghdhkgajieaa.fnInRect
open Go.RowKit Go.Proofs.Ytmkghdhkgajieaa.Plain Go.Proofs.Ytmkghdhkgajieaa.Base Go.Proofs.Ytmkghdhkgajieaa.Pat Go.Proofs.Ytmkghdhkgajieaa.Rect Go.Proofs.Ytmkghdhkgajieaa.Rd
set_option linter.unusedVariables false

/-- whether a small row and a small column are in a rectangle -/
def inF (r c : Int) (i k : Nat) : Bool := someB r c && (r.toNat.testBit i && c.toNat.testBit k)
theorem in_impl (r c : Int) (i k : Nat) (hi : i < 8) (hk : k < 8) (w : World) :
    Calls Try.prog 10 #[rect r c, .int .i64 (i : Int), .int .i64 (k : Int)] w fun e w' => e = .returned (.bool (inF r c i k)) ∧ Below w.heap.size w w' := by
  unfold inF
  by_cases h : someB r c = true
  · have hh := (someB_iff r c).1 h
    obtain ⟨R, rfl⟩ := Int.eq_ofNat_of_zero_le (show 0 ≤ r by omega)
    obtain ⟨C, rfl⟩ := Int.eq_ofNat_of_zero_le (show 0 ≤ c by omega)
    rw [h, Bool.true_and]
    exact fnExactInRect.impl_yes R C i k h _ _ (fun W => inSet_yes R i (by omega) hi W) (fun W => inSet_yes C k (by omega) hk W) w
  · have h' : someB r c = false := by simpa using h
    rw [h', Bool.false_and]
    exact fnExactInRect.impl_none r c i k h' w

/-- how many of the first columns of a row -/
def rowN (r c : Int) (i k : Nat) : Nat := sumN (fun k => (inF r c i k).toNat) k
/-- how many in the first rows -/
def allN (r c : Int) (i : Nat) : Nat := sumN (fun i => rowN r c i 8) i
theorem row_next (r c : Int) (i k : Nat) : rowN r c i (k + 1) = rowN r c i k + (inF r c i k).toNat := rfl
theorem all_next (r c : Int) (i : Nat) : allN r c (i + 1) = allN r c i + rowN r c i 8 := rfl
theorem row_le (r c : Int) (i k : Nat) : rowN r c i k ≤ k := by
  have := sumN_le (fun k => (inF r c i k).toNat) 1 (fun x => by cases inF r c i x <;> simp) k
  unfold rowN
  omega
theorem all_le (r c : Int) (i : Nat) : allN r c i ≤ i * 8 := sumN_le _ 8 (fun x => row_le r c x 8) i
theorem sumN_mul (a : Nat) (f : Nat → Nat) : ∀ k, sumN (fun i => a * f i) k = a * sumN f k
  | 0 => rfl
  | k + 1 => by rw [sumN, sumN, sumN_mul a f k, Nat.mul_add]
theorem sumN_mul' (a : Nat) (f : Nat → Nat) : ∀ k, sumN (fun i => f i * a) k = sumN f k * a
  | 0 => by simp [sumN]
  | k + 1 => by rw [sumN, sumN, sumN_mul' a f k, Nat.add_mul]
theorem all_no (r c : Int) (h : someB r c = false) : allN r c 8 = 0 := by
  have : ∀ i k, rowN r c i k = 0 := fun i k => by
    unfold rowN
    induction k with
    | zero => rfl
    | succ k ih => rw [sumN, ih]; simp [inF, h]
  simp [allN, sumN, this]
theorem all_yes (R C : Nat) (h : someB R C = true) : allN R C 8 = pop8 R * pop8 C := by
  have hh := (someB_iff _ _).1 h
  have e : ∀ i, rowN R C i 8 = (R.testBit i).toNat * pop8 C := fun i => by
    unfold rowN
    rw [pop8_bits C (by omega), ← sumN_mul]
    refine sumN_congr _ _ 8 fun k _ => ?_
    unfold inF
    rw [h, Bool.true_and, Int.toNat_natCast, Int.toNat_natCast]
    cases R.testBit i <;> cases C.testBit k <;> rfl
  unfold allN
  rw [sumN_congr _ _ 8 (fun i _ => e i), sumN_mul', ← pop8_bits R (by omega)]
theorem pop_pos (n : Nat) (h1 : 1 ≤ n) (h2 : n < 256) : 1 ≤ pop8 n := by
  have h : ∀ k : Fin 256, 1 ≤ k.val → 1 ≤ pop8 k.val := by decide +kernel
  exact h ⟨n, h2⟩ h1

/-- what the area is, and how it is told by the count -/
theorem area (r c : Int) : ∃ v : Int, ((v = -1 ∧ allN r c 8 = 0) ∨ (v = (allN r c 8 : Nat) ∧ 1 ≤ allN r c 8)) ∧
    (∀ w, Calls Try.prog 13 #[rect r c] w fun e w' => e = .returned (.int .i64 v) ∧ Below w.heap.size w w') ∧
    (∀ w, Calls Try.prog 11 #[rect r c] w fun e w' => e = .returned (.int .i64 v) ∧ Below w.heap.size w w') := by
  by_cases h : someB r c = true
  · have hh := (someB_iff r c).1 h
    obtain ⟨R, rfl⟩ := Int.eq_ofNat_of_zero_le (show 0 ≤ r by omega)
    obtain ⟨C, rfl⟩ := Int.eq_ofNat_of_zero_le (show 0 ≤ c by omega)
    refine ⟨((pop8 R * pop8 C : Nat) : Int), .inr ⟨by rw [all_yes R C h], ?_⟩, fun w => fnExactAreaOf.spec_yes R C (by omega) (by omega) (by omega) (by omega) w, fun w => fnExactAreaOf.impl_yes R C (by omega) (by omega) (by omega) (by omega) w⟩
    rw [all_yes R C h]
    exact Nat.mul_le_mul (pop_pos R (by omega) (by omega)) (pop_pos C (by omega) (by omega))
  · have h' : someB r c = false := by simpa using h
    exact ⟨-1, .inl ⟨rfl, all_no r c h'⟩, fun w => fnExactAreaOf.spec_no r c h' w, fun w => fnExactAreaOf.impl_no r c h' w⟩

/-- the rectangle's box is kept -/
structure KI (w wr : World) (b : Nat) (r c : Int) : Prop where
  loc : wr.heap[b]? = some (.cells #[.int .i64 r, .int .i64 c] 29 (0, 0))
  below : Below w.heap.size w wr
theorem KI.later {w wr w2 : World} {b : Nat} {r c : Int} (h : KI w wr b r c) (hb : Below wr.heap.size wr w2) : KI w w2 b r c :=
  ⟨(hb.block _ (Array.getElem?_eq_some_iff.1 h.loc).1).trans h.loc, rstep h.below hb⟩
theorem KI.cells {w wr : World} {b : Nat} {r c : Int} (h : KI w wr b r c) : wr.cell? ⟨b, 0, none⟩ = some (.int .i64 r) ∧ wr.cell? ⟨b, 1, none⟩ = some (.int .i64 c) :=
  ⟨cell_of_row _ _ 0 _ _ _ h.loc, cell_of_row _ _ 1 _ _ _ h.loc⟩

set_option maxHeartbeats 4000000 in
theorem walk (v : Value) (n : Nat) (w : World) (h : ByteArg w v n) :
    Calls Try.prog 5 #[v] w fun e w' => e = .returned (.bool true) ∧ Below w.heap.size w w' := by
  obtain ⟨hn0, a, cap, rfl, hc, hb0⟩ := id h
  clear hb0
  have HD := Lib.hid (DrawIR.draw_any _ n w h)
  clear h
  by_cases hbig : 1048576 < n
  · have hbi : (1048576 : Int) < (n : Int) := by omega
    go_enter Try.func5, Try.ntmps5
    go_wp2_with fail
    go_ret
    exact ⟨rfl, Below.refl _ _⟩
  · have hbi : ¬ (1048576 : Int) < (n : Int) := by omega
    go_enter Try.func5, Try.ntmps5
    go_wp2_with fail
    refine HD.out.mono ?_
    rintro e w1 ⟨r, c, x, y, rfl, -, -, -, -, hb⟩
    have HK : Hid (KI w (w1.alloc (.cells #[.int .i64 r, .int .i64 c] 29)) w1.heap.size r c) := ⟨heap_alloc_new w1 _, hb.alloc hb.size _⟩
    clear hb HD hbig hbi
    obtain ⟨t, hts, hti⟩ := fnExactInRect.both r c x y
    obtain ⟨ar, har, has, hai⟩ := area r c
    have HTS := Lib.hid hts
    have HTI := Lib.hid hti
    have HAR := Lib.hid har
    have HAS := Lib.hid has
    have HAI := Lib.hid hai
    have HIN := Lib.hid (fun i k hi hk W => in_impl r c i k hi hk W)
    clear hts hti har has hai
    obtain ⟨B, hB⟩ : ∃ B, w1.heap.size = B := ⟨_, rfl⟩
    rw [hB] at HK
    have HB := Lib.hid hB
    go_wp2_with fail
    refine (HTI.out _).mono ?_
    rintro e w2 ⟨rfl, hb2⟩
    have HK2 := Lib.hid (HK.out.later hb2)
    obtain ⟨q0, q1⟩ := HK2.out.cells
    clear hb2 HK hB
    go_wp2_with fail
    refine (HAI.out _).mono ?_
    rintro e w3 ⟨rfl, hb3⟩
    have HK3 := Lib.hid (HK2.out.later hb3)
    clear hb3 q0 q1 HK2
    obtain ⟨q0, q1⟩ := HK3.out.cells
    go_wp2_with fail
    refine (HTS.out _).mono ?_
    rintro e w4 ⟨rfl, hb4⟩
    have HK4 := Lib.hid (HK3.out.later hb4)
    clear hb4 q0 q1 HK3
    obtain ⟨q0, q1⟩ := HK4.out.cells
    go_wp2_with fail
    refine (HAS.out _).mono ?_
    rintro e w5 ⟨rfl, hb5⟩
    have HK5 := Lib.hid (HK4.out.later hb5)
    clear hb5 q0 q1 HK4
    go_wp2_with fail
    go_loopw [8, 9] (fun s i wr => ∃ (i' : Nat), i' ≤ 8 ∧ s = .int .i64 (allN r c i' : Int) ∧ i = .int .i64 (i' : Int) ∧ Hid (KI w wr B r c)) (fun _ i _ => 8 - (intOf i).toNat)
    case atStart => exact ⟨0, by omega, rfl, rfl, HK5⟩
    case round =>
      obtain ⟨i, hi, rfl, rfl, HK⟩ := hrel
      clear HK5
      by_cases hlt : i < 8
      · have ha8 := all_le r c i
        have HAN := Lib.hid (all_next r c i)
        obtain ⟨s0, hs0⟩ : ∃ s0, allN r c i = s0 := ⟨_, rfl⟩
        rw [hs0] at ha8 HAN ⊢
        have hil : (i : Int) < 8 := by omega
        clear hs0
        go_wp2_with fail
        go_loopw [8, 10] (fun s k wr => ∃ (k' : Nat), k' ≤ 8 ∧ s = .int .i64 ((s0 + rowN r c i k' : Nat) : Int) ∧ k = .int .i64 (k' : Int) ∧ Hid (KI w wr B r c)) (fun _ k _ => 8 - (intOf k).toNat)
        case atStart => exact ⟨0, by omega, rfl, rfl, HK⟩
        case round =>
          obtain ⟨k, hk, rfl, rfl, HK'⟩ := hrel
          clear HK
          have hr8 := row_le r c i k
          by_cases hlt' : k < 8
          · have HC := Lib.hid (fun W => HIN.out i k hlt hlt' W)
            have HRN := Lib.hid (row_next r c i k)
            obtain ⟨b, hbv⟩ : ∃ b, inF r c i k = b := ⟨_, rfl⟩
            rw [hbv] at HC HRN
            clear hbv
            have hkl : (k : Int) < 8 := by omega
            obtain ⟨q0, q1⟩ := HK'.out.cells
            obtain ⟨S, hS⟩ : ∃ S, s0 + rowN r c i k = S := ⟨_, rfl⟩
            have HS := Lib.hid hS
            rw [hS]
            have hS100 : S ≤ 1000 := by omega
            clear hS
            go_wp2_with fail
            refine (HC.out _).mono ?_
            rintro e w6 ⟨rfl, hb6⟩
            have HK6 := Lib.hid (HK'.out.later hb6)
            clear hb6 q0 q1 HK'
            cases b
            · go_wp2_with fail
              go_roundw
              case rel => exact ⟨k + 1, by omega, by rw [HRN.out, ← HS.out]; rfl, by go_num, HK6⟩
              case measure => simp [intOf]; omega
            · go_wp2_with fail
              go_roundw
              case rel => exact ⟨k + 1, by omega, by rw [HRN.out, ← Nat.add_assoc, HS.out]; rfl, by go_num, HK6⟩
              case measure => simp [intOf]; omega
          · obtain rfl : k = 8 := by omega
            go_wp2_with fail
            go_roundw
            case rel => exact ⟨i + 1, by omega, by rw [HAN.out], by go_num, HK'⟩
            case measure => simp [intOf]; omega
      · obtain rfl : i = 8 := by omega
        have har := HAR.out
        obtain ⟨s0, hs0⟩ : ∃ s0, allN r c 8 = s0 := ⟨_, rfl⟩
        rw [hs0] at har ⊢
        clear hs0
        rcases har with ⟨rfl, rfl⟩ | ⟨rfl, h1⟩
        · go_wp2_with fail
          go_ret
          exact ⟨rfl, HK.out.below⟩
        · have h2 : ¬ ((s0 : Int) = -1) := by omega
          have h3 : (0 : Int) < (s0 : Int) := by omega
          go_wp2_with fail
          go_ret
          exact ⟨congrArg (fun b => Ending.returned (Value.bool b)) (decide_eq_true (by omega)), HK.out.below⟩
end Go.Proofs.Ytmkghdhkgajieaa.fnInRect
