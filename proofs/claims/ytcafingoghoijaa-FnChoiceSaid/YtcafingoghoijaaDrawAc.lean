/-
  The drawing function DrawAcceptsRow.
-/
import Derived.Test.YtcafingoghoijaaJo14
namespace Go.Proofs.Ytcafingoghoijaa.DrawAc
open Go Go.RowKit Go.Proofs.Ytcafingoghoijaa.Plain Go.Proofs.Ytcafingoghoijaa.Base Go.Proofs.Ytcafingoghoijaa.Rd Go.Proofs.Ytcafingoghoijaa.Rd2 Go.Proofs.Ytcafingoghoijaa.DrawQ
open Go.Proofs.Ytcafingoghoijaa.Rects (RV)
open Go.Proofs.Ytcafingoghoijaa.Marks (flat rv_own)
set_option linter.unusedVariables false

theorem own_slice {w : World} {B n : Nat} {v : Value} {xs : List Value} (h : w.ownsRow B 33 2 v n xs) : ∃ p k, v = .slice p n k := by
  rcases h.2 with ⟨rfl, h0⟩ | ⟨g, cap, cur, rfl, _⟩
  · exact ⟨none, 0, by rw [h0]⟩
  · exact ⟨_, _, rfl⟩

set_option maxHeartbeats 4000000 in
theorem draw_any (v : Value) (n : Nat) (w : World) (h : ByteArg w v n) :
    Calls Try.prog 33 #[v] w fun e w' => ∃ (lv : Value) (xs : List (Int × Int)) (pf x : Int), e = .returned (.tuple #[lv, .int .i64 pf, .int .i64 x]) ∧ xs.length ≤ 300 ∧ RV w' w'.heap.size lv xs ∧ Below w.heap.size w w' := by
  have HO := Lib.hid (open_any v n w h)
  clear h
  go_enter Try.func33, Try.ntmps33
  go_wp2_with fail
  refine HO.out.mono ?_
  rintro e w1 ⟨g, rfl, hr, hb, hg⟩
  have HL := Lib.hid (list_any g 0 (by omega) w1 hr)
  have HB1 := Lib.hid (And.intro hb hg)
  have hg1 := hr.lt
  clear hr hb hg HO
  go_wp2_with fail
  refine HL.out.mono ?_
  rintro e w2 ⟨lv, xs, p2, rfl, hl, hrow, h2, h3, hr2, ha2⟩
  obtain ⟨pp, kk, rfl⟩ := own_slice hrow
  have HP := Lib.hid (pick_r g p2 (by omega) 8 w2 hr2)
  have HO2 := Lib.hid hrow
  have HA2 := Lib.hid ha2
  have hs2 := ha2.size
  clear hr2 hrow ha2 HL
  go_wp2_with fail
  refine HP.out.mono ?_
  rintro e w3 ⟨x, rfl, _, _, hr3, ha3⟩
  have HO3 := Lib.hid (own_apt HO2.out ha3 hg1)
  have HA3 := Lib.hid (HA2.out.trans ha3)
  have hs3 := ha3.size
  by_cases hx : x = 0
  · have hxb : (x == 0) = true := by rw [hx]; rfl
    have hbl : Below w3.heap.size w3 (w3.alloc (.cells ([-1, (xs.length : Int), 9223372036854775807].map fun x : Int => Value.int .i64 x).toArray 3)) := (Below.refl _ _).alloc (Nat.le_refl _) _
    have HN := Lib.hid (num_any g (p2 + 1) (by omega) [-1, (xs.length : Int), 9223372036854775807] (by simp) (by simp) w3.heap.size 3 (by omega) _ (hr3.later hbl) (by simp) (fun j hj => cells_lit w3 3 [-1, (xs.length : Int), 9223372036854775807] j hj))
    have HA4 := Lib.hid (HA3.out.trans (Apt.of_below hbl))
    have HO4 := Lib.hid (own_apt HO3.out (Apt.of_below hbl) hg1)
    clear hr3 ha3 hx HP HO2 HA2 HO3 HA3 hbl
    go_wp2_with fail
    refine HN.out.mono ?_
    rintro e w5 ⟨pf, rfl, _, hr5, ha5⟩
    have HO5 := Lib.hid (own_apt HO4.out ha5 hg1)
    have HA5 := Lib.hid (HA4.out.trans ha5)
    have HS := Lib.hid (side_any g (p2 + 1 + 1) (by omega) w5 hr5)
    clear hr5 ha5 HN HO4 HA4
    go_wp2_with fail
    refine HS.out.mono ?_
    rintro e w6 ⟨y, rfl, _, _, hr6, ha6⟩
    have HO6 := Lib.hid (own_apt HO5.out ha6 hg1)
    have HA6 := Lib.hid (HA5.out.trans ha6)
    clear hr6 ha6 HS HO5 HA5
    go_wp2_with fail
    go_returns
    exact ⟨_, xs, pf, y, rfl, hl, rv_own HO6.out (by omega), HA6.out.below HB1.out.1 HB1.out.2⟩
  · have hxb : (x == 0) = false := by rw [beq_eq_false_iff_ne]; exact hx
    have HK := Lib.hid (fun m => pick_r g (p2 + 1) (by omega) m w3 hr3)
    clear hr3 ha3 hx HP HO2 HA2
    go_wp2_with fail
    all_goals
      refine (HK.out _).mono ?_
      rintro e w5 ⟨pf, rfl, _, _, hr5, ha5⟩
      have HO5 := Lib.hid (own_apt HO3.out ha5 hg1)
      have HA5 := Lib.hid (HA3.out.trans ha5)
      have HS := Lib.hid (side_any g (p2 + 1 + 1) (by omega) w5 hr5)
      clear hr5 ha5 HK HO3 HA3
      go_wp2_with fail
      refine HS.out.mono ?_
      rintro e w6 ⟨y, rfl, _, _, hr6, ha6⟩
      have HO6 := Lib.hid (own_apt HO5.out ha6 hg1)
      have HA6 := Lib.hid (HA5.out.trans ha6)
      clear hr6 ha6 HS HO5 HA5
      go_wp2_with fail
      go_returns
      exact ⟨_, xs, pf, y, rfl, hl, rv_own HO6.out (by omega), HA6.out.below HB1.out.1 HB1.out.2⟩
end Go.Proofs.Ytcafingoghoijaa.DrawAc
