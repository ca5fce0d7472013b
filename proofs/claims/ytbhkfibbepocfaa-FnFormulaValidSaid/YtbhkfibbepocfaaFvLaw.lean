/-
  The walk of the drawn law on FormulaValid.
-/
import Derived.Test.YtbhkfibbepocfaaDrawFm
import Derived.Test.YtbhkfibbepocfaaSizeOfWalk
import Derived.Test.YtbhkfibbepocfaaDeepOfWalk
namespace Go.Proofs.Ytbhkfibbepocfaa.fnFormulaValid
open Go.RowKit Go.Shelf Go.Proofs.Ytbhkfibbepocfaa.Plain Go.Proofs.Ytbhkfibbepocfaa.Fm Go.Proofs.Ytbhkfibbepocfaa.FmNo Go.Proofs.Ytbhkfibbepocfaa.FmSaid Go.Proofs.Ytbhkfibbepocfaa.Rd Go.Proofs.Ytbhkfibbepocfaa.DrawFm
set_option linter.unusedVariables false
set_option linter.unusedSimpArgs false

theorem ok_mono {b c : Nat} (h : b ≤ c) (s : ByteArray) (ho : Ok b s) : Ok c s := by
  obtain ⟨h1, t, hw, ht⟩ := ho
  exact ⟨h1, t, wf_mono h t hw, ht⟩
theorem ok_val {s : ByteArray} {b : Int} {v : Bool} (h : okV s b v) (hv : (1 ≤ b ∧ b ≤ 3) ∧ Ok b.toNat s) : v = true := h.2 hv

set_option maxHeartbeats 8000000 in
set_option maxRecDepth 100000 in
theorem walk (v : Value) (n : Nat) (w : World) (h : ByteArg w v n) :
    Calls Try.prog 3 #[v] w fun e w' => e = .returned (.bool true) ∧ Below w.heap.size w w' := by
  obtain ⟨hn0, a, cap, rfl, hc, hb0⟩ := id h
  clear hb0
  have HD := Lib.hid (draw_valid _ n w h)
  clear h
  by_cases hbig : 1048576 < n
  · have hbi : (1048576 : Int) < (n : Int) := by omega
    go_enter Try.func3, Try.ntmps3
    go_wp2_with fail
    go_ret
    exact ⟨rfl, Below.refl _ _⟩
  have hbi : ¬ (1048576 : Int) < (n : Int) := by omega
  go_enter Try.func3, Try.ntmps3
  go_wp2_with fail
  refine HD.out.mono ?_
  rintro e w1 ⟨s, b, rfl, hs, hbw, hb⟩
  have HB1 := Lib.hid hb
  clear HD hbig hbi hb
  obtain ⟨x, hx, hxS, hxI⟩ := said_valid s (by omega) b
  have HXS := Lib.hid hxS
  have HXI := Lib.hid hxI
  clear hxS hxI
  rcases ok_or 3 s with ⟨t, hw, ht, h2⟩ | hno
  · have hsz : (text t).length = s.size := by rw [← ht]; simp
    have hts := text_size t
    have hdl := deep_lt t
    have hpw := size_le t
    have HI := Lib.hid (fnExactSizeOf.impl_yes s t hw ht h2)
    have HS := Lib.hid (fnExactSizeOf.spec_yes s t hw ht h2)
    have HK := Lib.hid (fnExactDeepOf.impl_yes s t hw ht h2)
    have HKS := Lib.hid (fnExactDeepOf.spec_yes s t hw ht h2)
    obtain ⟨x3, hx3, _, hx3I⟩ := said_valid s (by omega) 3
    have hx3t : x3 = true := ok_val hx3 ⟨by omega, h2, t, hw, ht⟩
    subst hx3t
    have HX3 := Lib.hid hx3I
    clear hx3 hx3I
    have HX4 : Hid (x = true → b ≠ 3 → ∀ W, Calls Try.prog 11 #[.string s, .int .i64 (b + 1)] W fun e w' => e = .returned (.bool true) ∧ Below W.heap.size W w') := by
      intro hxt hb3 W
      have ho := hx.1 hxt
      obtain ⟨y, hy, _, hyI⟩ := said_valid s (by omega) (b + 1)
      have hyt : y = true := ok_val hy ⟨by omega, ok_mono (by omega) s ho.2⟩
      subst hyt
      exact hyI W
    generalize size t = N at *
    generalize deep t = M at *
    have hN : N ≤ 2000 := by omega
    have hb1 : ((s.size : Int) == 2 * (N : Int) - 1) = true := by rw [beq_iff_eq]; omega
    have hbN : (N : Int) - 1 ≤ 2000 := by omega
    have hb2 : (M : Int) ≤ (N : Int) - 1 := by omega
    have hxb : x = false ∨ (x = true ∧ b = 3) ∨ (x = true ∧ b ≠ 3) := by
      cases x
      · exact .inl rfl
      · by_cases h : b = 3
        · exact .inr (.inl ⟨rfl, h⟩)
        · exact .inr (.inr ⟨rfl, h⟩)
    have hN1 : 1 ≤ N := by omega
    clear hw ht h2 hsz hts hx hdl
    have hM8 : ¬ (8 : Int) < (M : Int) → ∃ X : Nat, 2 ^ M = X ∧ X ≤ 256 ∧ N ≤ X := fun h8 => ⟨2 ^ M, rfl, Nat.le_trans (Nat.pow_le_pow_right (n := 2) (by decide) (show M ≤ 8 by omega)) (by decide), hpw⟩
    clear hpw
    by_cases h8 : (8 : Int) < (M : Int)
    all_goals
      first
        | (have hnot8 := hM8 h8
           obtain ⟨X, hX, hX2, hX3⟩ := hnot8
           have hsh : IntKind.i64.wrap (2 ^ M) = (X : Int) := by rw [show ((2 : Int) ^ M) = ((2 ^ M : Nat) : Int) by simp, hX, IntKind.wrap_i64]; omega
           have hsu : IntKind.u64.wrap (M : Int) = (M : Int) := by rw [IntKind.wrap_u64]; omega
           have hle : (N : Int) ≤ (X : Int) := by omega
           clear hX hM8)
        | clear hM8
      rcases hxb with rfl | ⟨rfl, rfl⟩ | ⟨rfl, hb3⟩
      · clear HX4
        go_wp2_with fail
        refine (HXI.out _).mono ?_
        rintro e w2 ⟨rfl, hb2'⟩
        have HB2 : Hid (Below w.heap.size w w2) := HB1.out.trans (hb2'.mono HB1.out.size)
        clear hb2'
        go_wp2_with fail
        refine (HI.out _).mono ?_
        rintro e w3 ⟨rfl, hb3'⟩
        have HB3 : Hid (Below w.heap.size w w3) := HB2.out.trans (hb3'.mono HB2.out.size)
        clear hb3' HB2
        go_wp2_with fail
        refine (HK.out _).mono ?_
        rintro e w4 ⟨rfl, hb4'⟩
        have HB4 : Hid (Below w.heap.size w w4) := HB3.out.trans (hb4'.mono HB3.out.size)
        clear hb4' HB3
        go_wp2_with fail
        refine (HXS.out _).mono ?_
        rintro e w5 ⟨rfl, rfl⟩
        go_wp2_with fail
        refine (HS.out _).mono ?_
        rintro e w6 ⟨rfl, hb6'⟩
        have HB6 : Hid (Below w.heap.size w w6) := HB4.out.trans (hb6'.mono HB4.out.size)
        clear hb6' HB4
        go_wp2_with fail
        refine (HKS.out _).mono ?_
        rintro e w7 ⟨rfl, hb7'⟩
        have HB7 : Hid (Below w.heap.size w w7) := HB6.out.trans (hb7'.mono HB6.out.size)
        clear hb7' HB6
        go_wp2_with fail
        refine (HX3.out _).mono ?_
        rintro e w8 ⟨rfl, hb8'⟩
        have HB8 : Hid (Below w.heap.size w w8) := HB7.out.trans (hb8'.mono HB7.out.size)
        clear hb8' HB7
        go_wp2_with fail
        go_ret
        exact ⟨rfl, HB8.out⟩
      · clear HX4
        go_wp2_with fail
        refine (HXI.out _).mono ?_
        rintro e w2 ⟨rfl, hb2'⟩
        have HB2 : Hid (Below w.heap.size w w2) := HB1.out.trans (hb2'.mono HB1.out.size)
        clear hb2'
        go_wp2_with fail
        refine (HI.out _).mono ?_
        rintro e w3 ⟨rfl, hb3'⟩
        have HB3 : Hid (Below w.heap.size w w3) := HB2.out.trans (hb3'.mono HB2.out.size)
        clear hb3' HB2
        go_wp2_with fail
        refine (HK.out _).mono ?_
        rintro e w4 ⟨rfl, hb4'⟩
        have HB4 : Hid (Below w.heap.size w w4) := HB3.out.trans (hb4'.mono HB3.out.size)
        clear hb4' HB3
        go_wp2_with fail
        refine (HXS.out _).mono ?_
        rintro e w5 ⟨rfl, rfl⟩
        go_wp2_with fail
        refine (HS.out _).mono ?_
        rintro e w6 ⟨rfl, hb6'⟩
        have HB6 : Hid (Below w.heap.size w w6) := HB4.out.trans (hb6'.mono HB4.out.size)
        clear hb6' HB4
        go_wp2_with fail
        refine (HKS.out _).mono ?_
        rintro e w7 ⟨rfl, hb7'⟩
        have HB7 : Hid (Below w.heap.size w w7) := HB6.out.trans (hb7'.mono HB6.out.size)
        clear hb7' HB6
        go_wp2_with fail
        refine (HX3.out _).mono ?_
        rintro e w8 ⟨rfl, hb8'⟩
        have HB8 : Hid (Below w.heap.size w w8) := HB7.out.trans (hb8'.mono HB7.out.size)
        clear hb8' HB7
        go_wp2_with fail
        go_ret
        exact ⟨rfl, HB8.out⟩
      · have HX4' := HX4.out rfl hb3
        have hb3' : (b == 3) = false := beq_false_of_ne hb3
        clear hb3 HX4
        have HX4'' := Lib.hid HX4'
        clear HX4'
        go_wp2_with fail
        refine (HXI.out _).mono ?_
        rintro e w2 ⟨rfl, hb2'⟩
        have HB2 : Hid (Below w.heap.size w w2) := HB1.out.trans (hb2'.mono HB1.out.size)
        clear hb2'
        go_wp2_with fail
        refine (HI.out _).mono ?_
        rintro e w3 ⟨rfl, hb3'⟩
        have HB3 : Hid (Below w.heap.size w w3) := HB2.out.trans (hb3'.mono HB2.out.size)
        clear hb3' HB2
        go_wp2_with fail
        refine (HK.out _).mono ?_
        rintro e w4 ⟨rfl, hb4'⟩
        have HB4 : Hid (Below w.heap.size w w4) := HB3.out.trans (hb4'.mono HB3.out.size)
        clear hb4' HB3
        go_wp2_with fail
        refine (HXS.out _).mono ?_
        rintro e w5 ⟨rfl, rfl⟩
        go_wp2_with fail
        refine (HS.out _).mono ?_
        rintro e w6 ⟨rfl, hb6'⟩
        have HB6 : Hid (Below w.heap.size w w6) := HB4.out.trans (hb6'.mono HB4.out.size)
        clear hb6' HB4
        go_wp2_with fail
        refine (HKS.out _).mono ?_
        rintro e w7 ⟨rfl, hb7'⟩
        have HB7 : Hid (Below w.heap.size w w7) := HB6.out.trans (hb7'.mono HB6.out.size)
        clear hb7' HB6
        go_wp2_with fail
        refine (HX3.out _).mono ?_
        rintro e w8 ⟨rfl, hb8'⟩
        have HB8 : Hid (Below w.heap.size w w8) := HB7.out.trans (hb8'.mono HB7.out.size)
        clear hb8' HB7
        go_wp2_with fail
        refine (HX4''.out _).mono ?_
        rintro e w9 ⟨rfl, hb9'⟩
        have HB9 : Hid (Below w.heap.size w w9) := HB8.out.trans (hb9'.mono HB8.out.size)
        clear hb9' HB8
        go_wp2_with fail
        go_ret
        exact ⟨rfl, HB9.out⟩
  · have HI := Lib.hid (fnExactSizeOf.impl_no s hno (by omega))
    have HS := Lib.hid (fnExactSizeOf.spec_no s hno (by omega))
    have HK := Lib.hid (fnExactDeepOf.impl_no s hno (by omega))
    have HKS := Lib.hid (fnExactDeepOf.spec_no s hno (by omega))
    have hxf : x = false := by
      cases x
      · rfl
      · have ho := hx.1 rfl
        exact absurd (ok_mono (by omega) s ho.2) hno
    subst hxf
    clear hx hno
    go_wp2_with fail
    refine (HXI.out _).mono ?_
    rintro e w2 ⟨rfl, hb2'⟩
    have HB2 : Hid (Below w.heap.size w w2) := HB1.out.trans (hb2'.mono HB1.out.size)
    clear hb2'
    go_wp2_with fail
    refine (HI.out _).mono ?_
    rintro e w3 ⟨rfl, hb3'⟩
    have HB3 : Hid (Below w.heap.size w w3) := HB2.out.trans (hb3'.mono HB2.out.size)
    clear hb3' HB2
    go_wp2_with fail
    refine (HK.out _).mono ?_
    rintro e w4 ⟨rfl, hb4'⟩
    have HB4 : Hid (Below w.heap.size w w4) := HB3.out.trans (hb4'.mono HB3.out.size)
    clear hb4' HB3
    go_wp2_with fail
    refine (HXS.out _).mono ?_
    rintro e w5 ⟨rfl, rfl⟩
    go_wp2_with fail
    refine (HS.out _).mono ?_
    rintro e w6 ⟨rfl, hb6'⟩
    have HB6 : Hid (Below w.heap.size w w6) := HB4.out.trans (hb6'.mono HB4.out.size)
    clear hb6' HB4
    go_wp2_with fail
    refine (HKS.out _).mono ?_
    rintro e w7 ⟨rfl, hb7'⟩
    have HB7 : Hid (Below w.heap.size w w7) := HB6.out.trans (hb7'.mono HB6.out.size)
    clear hb7' HB6
    go_wp2_with fail
    go_ret
    exact ⟨rfl, HB7.out⟩
end Go.Proofs.Ytbhkfibbepocfaa.fnFormulaValid
