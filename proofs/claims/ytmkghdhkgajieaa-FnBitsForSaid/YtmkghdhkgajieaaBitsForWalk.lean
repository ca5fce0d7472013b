/-
  The walk of the drawn law on BitsFor.
-/
import Derived.Test.YtmkghdhkgajieaaBits
import Derived.Test.YtmkghdhkgajieaaRd2
namespace Go.Proofs.Ytmkghdhkgajieaa.fnBitsFor
open Go.RowKit Go.Proofs.Ytmkghdhkgajieaa.Plain Go.Proofs.Ytmkghdhkgajieaa.Rect Go.Proofs.Ytmkghdhkgajieaa.Bits Go.Proofs.Ytmkghdhkgajieaa.Rd Go.Proofs.Ytmkghdhkgajieaa.Rd2
set_option linter.unusedVariables false

set_option maxHeartbeats 1000000 in
theorem draw_any (v : Value) (n : Nat) (w : World) (h : ByteArg w v n) :
    Calls Try.prog 8 #[v] w fun e w' => ∃ x : Int, e = .returned (.int .i64 x) ∧ -1 ≤ x ∧ x ≤ 1000001 ∧ Below w.heap.size w w' := by
  have HO := Lib.hid (open_any v n w h)
  clear h
  go_enter Try.func8, Try.ntmps8
  go_wp2_with fail
  refine HO.out.mono ?_
  rintro e w1 ⟨g, rfl, hr, hb, hg⟩
  have hr2 := hr.later ((Below.refl w1.heap.size w1).alloc (Nat.le_refl _) (.cells ([0, 1, 2, 3, 4, 5, 8, 9, 1000000, 1000001, -1, 65536].map fun x : Int => Value.int .i64 x).toArray 3))
  have HN := Lib.hid (num_any g 0 (by omega) [0, 1, 2, 3, 4, 5, 8, 9, 1000000, 1000001, -1, 65536] (by decide) (by decide) w1.heap.size 12 (by have := hr.lt; omega) _ hr2 (by simp) (fun j hj => cells_lit w1 3 [0, 1, 2, 3, 4, 5, 8, 9, 1000000, 1000001, -1, 65536] j hj))
  have HB : Hid (Below w.heap.size w w1 ∧ w.heap.size ≤ g) := ⟨hb, hg⟩
  clear hr hr2 hb hg HO
  go_wp2_with fail
  refine HN.out.mono ?_
  rintro e w2 ⟨y, rfl, hm, hr3, ha⟩
  have HB2 : Hid (Below w.heap.size w w2) := ((Apt.of_below ((Below.refl w1.heap.size w1).alloc (Nat.le_refl _) _)).trans ha).below HB.out.1 HB.out.2
  have hy : -1 ≤ y ∧ y ≤ 1000001 := by
    simp at hm
    omega
  clear hm hr3 ha HN
  go_wp2_with fail
  go_ret
  exact ⟨y, rfl, hy.1, hy.2, HB2.out⟩

set_option maxHeartbeats 2000000 in
theorem walk (v : Value) (n : Nat) (w : World) (h : ByteArg w v n) :
    Calls Try.prog 4 #[v] w fun e w' => e = .returned (.bool true) ∧ Below w.heap.size w w' := by
  obtain ⟨hn0, a, c, rfl, hc, hb0⟩ := id h
  clear hb0
  have HD := Lib.hid (draw_any _ n w h)
  clear h
  by_cases hbig : 1048576 < n
  · have hbi : (1048576 : Int) < (n : Int) := by omega
    go_enter Try.func4, Try.ntmps4
    go_wp2_with fail
    go_ret
    exact ⟨rfl, Below.refl _ _⟩
  · have hbi : ¬ (1048576 : Int) < (n : Int) := by omega
    go_enter Try.func4, Try.ntmps4
    go_wp2_with fail
    refine HD.out.mono ?_
    rintro e w1 ⟨x, rfl, hx0, hx1, hb⟩
    have HB := Lib.hid hb
    clear hb HD
    by_cases hv : 0 ≤ x ∧ x ≤ 1000000
    · obtain ⟨q, rfl⟩ := Int.eq_ofNat_of_zero_le hv.1
      have hq : q ≤ 1000000 := by omega
      have HS := Lib.hid (fun W => spec_yes q hq W)
      have HI := Lib.hid (fun W => impl_yes q hq W)
      clear hv hx0 hx1
      go_wp2_with fail
      refine (HI.out _).mono ?_
      rintro e w' ⟨k, hk, hk20, rfl, rfl⟩
      have HK := Lib.hid hk
      clear hk
      go_wp2_with fail
      refine (HS.out _).mono ?_
      rintro e w' ⟨k', hk', _, rfl, rfl⟩
      obtain rfl := HK.out.one hk'
      clear hk' HS
      have hsh := wrap_pow k hk20
      have hp := pow20 k hk20
      obtain ⟨X, hX⟩ : ∃ X, 2 ^ k = X := ⟨_, rfl⟩
      have HX := Lib.hid hX
      rw [hX] at hsh hp
      clear hX
      have hge : (q : Int) ≤ (X : Int) := by have := HK.out.1; rw [HX.out] at this; omega
      have HLE : Hid (∀ k2, IsBits (min (2 * q) 1000000) k2 → k2 ≤ k + 1) := fun k2 h2 => by
        rcases Nat.lt_or_ge (k + 1) k2 with hlt | hge
        · exfalso
          have h3 := h2.2 (k + 1) hlt
          have h4 := HK.out.1
          rw [Nat.pow_succ] at h3
          omega
        · exact hge
      have hmw : IntKind.i64.wrap (2 * (q : Int)) = 2 * (q : Int) := IntWalk.i64_in _ ⟨by omega, by omega⟩
      obtain ⟨M, hM, HM2⟩ : ∃ M : Int, min (2 * (q : Int)) 1000000 = M ∧ Hid (∀ W : World, Calls Try.prog 7 #[.int .i64 M] W fun e w' => ∃ k2 : Nat, k2 ≤ k + 1 ∧ e = .returned (.int .i64 (k2 : Int)) ∧ W = w') := by
        refine ⟨((min (2 * q) 1000000 : Nat) : Int), by omega, fun W => (impl_yes (min (2 * q) 1000000) (by omega) W).mono ?_⟩
        rintro e w' ⟨k2, h2, _, rfl, rfl⟩
        exact ⟨k2, HLE.out k2 h2, rfl, rfl⟩
      clear HLE
      have HHM := Lib.hid hM
      clear hM
      by_cases hk0 : k = 0
      · subst hk0
        have hq1 : q = 0 ∨ q = 1 := by have := HK.out.1; omega
        rcases hq1 with rfl | rfl
        · obtain rfl : M = 0 := by have := HHM.out; simp at this; omega
          clear hsh hp hge hmw
          go_wp2_with fail
          refine (HM2.out _).mono ?_
          rintro e w' ⟨k2, hle, rfl, rfl⟩
          have hle2 : (k2 : Int) ≤ 1 := by omega
          go_wp2_with fail
          go_ret
          exact ⟨rfl, HB.out⟩
        · obtain rfl : M = 2 := by have := HHM.out; simp at this; omega
          clear hsh hp hge hmw
          go_wp2_with fail
          refine (HM2.out _).mono ?_
          rintro e w' ⟨k2, hle, rfl, rfl⟩
          have hle2 : (k2 : Int) ≤ 1 := by omega
          go_wp2_with fail
          go_ret
          exact ⟨rfl, HB.out⟩
      · obtain ⟨j, rfl⟩ : ∃ j, k = j + 1 := ⟨k - 1, by omega⟩
        have hsh1 := wrap_pow j (by omega)
        have hp1 := pow20 j (by omega)
        have hlt1 := HK.out.2 j (by omega)
        obtain ⟨Z, hZ⟩ : ∃ Z, 2 ^ j = Z := ⟨_, rfl⟩
        rw [hZ] at hsh1 hp1 hlt1
        have hlt2 : (Z : Int) < (q : Int) := by omega
        have hj1 : ((j + 1 : Nat) : Int) - 1 = (j : Int) := by omega
        have hA : wrap64 (2 ^ (j + 1)) = (X : Int) := by unfold wrap64; rw [← hsh, IntKind.wrap_i64]
        have hA2 : wrap64 (2 ^ j) = (Z : Int) := by unfold wrap64; rw [← hsh1, IntKind.wrap_i64]
        have hj0 : (0 : Int) ≤ (j : Int) + 1 := by omega
        have hj2 : ¬ (j : Int) + 1 = 0 := by omega
        have HZ := Lib.hid hZ
        have hjj : j ≤ 20 := by omega
        clear hZ hj1
        rcases (show 2 * (q : Int) ≤ 1000000 ∨ 1000000 < 2 * (q : Int) by omega) with hs | hs
        · obtain rfl : M = 2 * (q : Int) := by have := HHM.out; omega
          go_wp2_with fail
          refine (HM2.out _).mono ?_
          rintro e w' ⟨k2, hle, rfl, rfl⟩
          have hle2 : (k2 : Int) ≤ (j : Int) + 1 + 1 := by omega
          go_wp2_with fail
          go_ret
          exact ⟨rfl, HB.out⟩
        · obtain rfl : M = 1000000 := by have := HHM.out; omega
          go_wp2_with fail
          refine (HM2.out _).mono ?_
          rintro e w' ⟨k2, hle, rfl, rfl⟩
          have hle2 : (k2 : Int) ≤ (j : Int) + 1 + 1 := by omega
          go_wp2_with fail
          go_ret
          exact ⟨rfl, HB.out⟩
    · have hn : x < 0 ∨ 1000000 < x := by omega
      have hx2 : x = -1 ∨ x = 1000001 := by omega
      have HS := Lib.hid (fun W => spec_no x hn W)
      have HI := Lib.hid (fun W => impl_no x hn W)
      clear hv hn hx0 hx1
      rcases hx2 with rfl | rfl
      all_goals
        go_wp2_with fail
        refine (HI.out _).mono ?_
        rintro e w' ⟨rfl, rfl⟩
        go_wp2_with fail
        refine (HS.out _).mono ?_
        rintro e w' ⟨rfl, rfl⟩
        go_wp2_with fail
        refine (HS.out _).mono ?_
        rintro e w' ⟨rfl, rfl⟩
        go_wp2_with fail
        go_ret
        exact ⟨rfl, HB.out⟩
end Go.Proofs.Ytmkghdhkgajieaa.fnBitsFor
