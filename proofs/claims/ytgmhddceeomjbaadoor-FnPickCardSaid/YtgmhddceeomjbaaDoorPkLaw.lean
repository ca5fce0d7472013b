/-
  The walk of the drawn law on PickMatrix.
-/
import Derived.Test.YtgmhddceeomjbaaDoorDrawPk
import Derived.Test.YtgmhddceeomjbaaDoorPickWalk
import Derived.Test.YtgmhddceeomjbaaDoorTurnM
import Derived.Test.YtgmhddceeomjbaaDoorKept
namespace Go.Proofs.YtgmhddceeomjbaaDoor.fnPick
open Go.RowKit Go.Proofs.YtgmhddceeomjbaaDoor.Plain Go.Proofs.YtgmhddceeomjbaaDoor.Base Go.Proofs.YtgmhddceeomjbaaDoor.Valid Go.Proofs.YtgmhddceeomjbaaDoor.ColF Go.Proofs.YtgmhddceeomjbaaDoor.TurnM Go.Proofs.YtgmhddceeomjbaaDoor.Rd Go.Proofs.YtgmhddceeomjbaaDoor.Kept Go.Proofs.YtgmhddceeomjbaaDoor.Clos Go.Proofs.YtgmhddceeomjbaaDoor.Ints
open Go.Proofs.YtgmhddceeomjbaaDoor.GridPlain Go.Proofs.YtgmhddceeomjbaaDoor.Grid Go.Proofs.YtgmhddceeomjbaaDoor.Entry
open Go.Proofs.YtgmhddceeomjbaaDoor.PickI (pickI pick_impl pick_impl_no iv_slice)
open Go.Proofs.YtgmhddceeomjbaaDoor.fnExactPickMatrix (pick_spec pick_spec_no pick_spec_not)
open Go.Proofs.YtgmhddceeomjbaaDoor.Rd4 (W64)
open Go.Proofs.YtgmhddceeomjbaaDoor.Rd5 (cells3)
set_option linter.unusedVariables false

/-- what is picked -/
abbrev ok (xs ys : List Int) (R C : Nat) : Prop := (okI xs R = true ∧ okI ys C = true) ∧ (1 ≤ xs.length ∧ xs.length ≤ 8) ∧ (1 ≤ ys.length ∧ ys.length ≤ 8)
theorem cases (a b : Int) (t : ByteArray) (hs : t.size ≤ maxLen) (xs ys : List Int) :
    ((∀ (v u : Value) (w : World), IV w w.heap.size v xs → IV w w.heap.size u ys → Calls Tryd.prog 34 #[mat a b t, v, u] w fun e w' => e = .returned (.tuple #[mat 0 0 (str []), .bool false]) ∧ Below w.heap.size w w') ∧
     (∀ (v u : Value) (w : World), IV w w.heap.size v xs → IV w w.heap.size u ys → Calls Tryd.prog 33 #[mat a b t, v, u] w fun e w' => e = .returned (.tuple #[mat 0 0 (str []), .bool false]) ∧ Below w.heap.size w w')) ∨
    (∃ (R C : Nat) (E : Nat → Nat → Bool), a = R ∧ b = C ∧ t = str (rowsB E R C) ∧ (1 ≤ R ∧ R ≤ 8 ∧ 1 ≤ C ∧ C ≤ 8) ∧ ok xs ys R C) := by
  by_cases hv : validB a b t = true
  · obtain ⟨R, C, E, rfl, rfl, h1, h2, h3, h4, rfl⟩ := valid_form hv
    have hsz : (str (rowsB E R C)).size ≤ 64 := by rw [str_size, rowsB_length]; exact prod_le h2 h4
    by_cases hno : ok xs ys R C
    · exact .inr ⟨R, C, E, rfl, rfl, rfl, ⟨h1, h2, h3, h4⟩, hno⟩
    · exact .inl ⟨fun v u w i1 i2 => pick_spec_not R C _ h1 h2 h3 h4 hs hv xs ys v u hno w i1 i2,
        fun v u w i1 i2 => pick_impl_no R C _ R C _ xs ys v u hno w i1 i2 fun W => grid_yes E R C h1 h2 h3 h4 _ rfl hs hsz hv W⟩
  · have hv' : validB a b t = false := by simpa using hv
    refine .inl ⟨fun v u w i1 i2 => pick_spec_no a b t hs hv' v u w, fun v u w i1 i2 => pick_impl_no 0 0 _ a b t xs ys v u ?_ w i1 i2 fun W => grid_no a b t hs hv' W⟩
    rintro ⟨⟨hx, _⟩, ⟨hl, _⟩, _⟩
    have := okI_get hx 0 hl
    omega
section
variable (E : Nat → Nat → Bool) (R C : Nat) (h1 : 1 ≤ R) (h2 : R ≤ 8) (h3 : 1 ≤ C) (h4 : C ≤ 8) (xs ys : List Int) (hok : ok xs ys R C)
include h1 h2 h3 h4 hok
theorem picks_i (v u : Value) (w : World) (i1 : IV w w.heap.size v xs) (i2 : IV w w.heap.size u ys) :
    Calls Tryd.prog 33 #[mat R C (str (rowsB E R C)), v, u] w fun e w' => e = .returned (.tuple #[mat xs.length ys.length (str (rowsB (pickI E xs ys) xs.length ys.length)), .bool true]) ∧ Below w.heap.size w w' :=
  pick_impl E R C h1 h2 h3 h4 _ xs ys v u hok.1.1 hok.1.2 hok.2.1.1 hok.2.1.2 hok.2.2.1 hok.2.2.2 w i1 i2 fun W => grid_yes E R C h1 h2 h3 h4 _ rfl (rows_max E R C h2 h4) (rows_small E R C h2 h4) (valid_rows E R C h1 h2 h3 h4) W
theorem picks_s (v u : Value) (w : World) (i1 : IV w w.heap.size v xs) (i2 : IV w w.heap.size u ys) :
    Calls Tryd.prog 34 #[mat R C (str (rowsB E R C)), v, u] w fun e w' => e = .returned (.tuple #[mat xs.length ys.length (str (rowsB (pickI E xs ys) xs.length ys.length)), .bool true]) ∧ Below w.heap.size w w' :=
  pick_spec E R C h1 h2 h3 h4 (rows_max E R C h2 h4) (valid_rows E R C h1 h2 h3 h4) xs ys v u hok.1.1 hok.1.2 hok.2.1.1 hok.2.1.2 hok.2.2.1 hok.2.2.2 w i1 i2
end
/-- a list in a later world -/
theorem iv_at {w1 w : World} {v : Value} {xs : List Int} {l : List (Nat × Obj)} (h : IV w1 w1.heap.size v xs) (hK : Kp w1 w l) : IV w w.heap.size v xs := (h.later (Nat.le_refl _) hK.below).mono hK.below.size
/-- an element of a list of numbers below n -/
theorem elem {w1 : World} {v : Value} {xs : List Int} {n : Nat} (h : IV w1 w1.heap.size v xs) (hok : okI xs n = true) (i : Nat) (hi : i < xs.length) :
    ∃ (q off c X : Nat), v = .slice (some ⟨q, off, none⟩) xs.length c ∧ q < w1.heap.size ∧ X < n ∧ (xs.getD i 0).toNat = X ∧ w1.cell? ⟨q, off + i, none⟩ = some (.int .i64 (X : Int)) := by
  obtain ⟨g1, g2⟩ := okI_get hok i hi
  rcases h.2 with ⟨rfl, e⟩ | ⟨q, off, c, rfl, hq, hc⟩
  · subst e
    exact absurd hi (by simp)
  · obtain ⟨X, hX⟩ := Int.eq_ofNat_of_zero_le g1
    refine ⟨q, off, c, X, rfl, hq, by omega, ?_, ?_⟩
    · rw [List.getD_eq_getElem?_getD, List.getElem?_eq_getElem hi]
      show (xs[i]).toNat = X
      rw [hX]
      rfl
    · rw [hc i hi, hX]

set_option maxHeartbeats 8000000 in
set_option maxRecDepth 100000 in
theorem walk (v : Value) (n : Nat) (w : World) (h : ByteArg w v n) :
    Calls Tryd.prog 7 #[v] w fun e w' => e = .returned (.bool true) ∧ Below w.heap.size w w' := by
  obtain ⟨hn0, a, cap, rfl, hc, hb0⟩ := id h
  clear hb0
  have HD := Lib.hid (DrawPk.draw_any _ n w h)
  clear h
  by_cases hbig : 1048576 < n
  · have hbi : (1048576 : Int) < (n : Int) := by omega
    go_enter Tryd.func7, Tryd.ntmps7
    go_wp2_with fail
    go_ret
    exact ⟨rfl, Below.refl _ _⟩
  · have hbi : ¬ (1048576 : Int) < (n : Int) := by omega
    go_enter Tryd.func7, Tryd.ntmps7
    go_wp2_with fail
    refine HD.out.mono ?_
    rintro e w1 ⟨a, b, t, v1, v2, xs, ys, rfl, ht, hx9, hy9, i1, i2, hb⟩
    clear HD hbig hbi
    have hcase := cases a b t (by unfold maxLen; omega) xs ys
    have HBW := Lib.hid hb
    have HI1 := Lib.hid i1
    have HI2 := Lib.hid i2
    clear hb i1 i2
    obtain ⟨B, hB⟩ : ∃ B, w1.heap.size = B := ⟨_, rfl⟩
    have HK1 := Lib.hid ((Kp.nil w1).put (.cells #[.int .i64 a, .int .i64 b, .string t] 27) hB)
    obtain ⟨p1, k1, hv1⟩ := iv_slice HI1.out
    obtain ⟨p2, k2, hv2⟩ := iv_slice HI2.out
    subst hv1 hv2
    rcases hcase with ⟨hps, hpi⟩ | ⟨R, C, E, rfl, rfl, rfl, ⟨h1, h2, h3, h4⟩, hok⟩
    · have HPS := Lib.hid hps
      have HPI := Lib.hid hpi
      clear hps hpi
      generalize str [] = z at *
      obtain ⟨cB0, cB1, cB2, -, -, -⟩ := cells3 (HK1.out.at 0 rfl)
      go_wp2_with fail
      refine (HPI.out _ _ _ (iv_at HI1.out HK1.out) (iv_at HI2.out HK1.out)).mono ?_
      rintro e w2 ⟨rfl, hb2⟩
      obtain ⟨b6, hb6⟩ : ∃ x, w2.heap.size = x := ⟨_, rfl⟩
      have HK2 := Lib.hid ((HK1.out.later hb2).put (.cells #[.int .i64 0, .int .i64 0, .string z] 27) hb6)
      clear hb2 HK1
      clear hB cB0 cB1 cB2
      obtain ⟨cB0, cB1, cB2, -, -, -⟩ := cells3 (HK2.out.at 1 rfl)
      go_wp2_with fail
      refine (HPS.out _ _ _ (iv_at HI1.out HK2.out) (iv_at HI2.out HK2.out)).mono ?_
      rintro e w3 ⟨rfl, hb3⟩
      obtain ⟨b8, hb8⟩ : ∃ x, w3.heap.size = x := ⟨_, rfl⟩
      have HK3 := Lib.hid ((HK2.out.later hb3).put (.cells #[.int .i64 0, .int .i64 0, .string z] 27) hb8)
      clear hb3 HK2
      clear hb6 cB0 cB1 cB2
      obtain ⟨cb60, cb61, cb62, -, -, -⟩ := cells3 (HK3.out.at 1 rfl)
      obtain ⟨cb80, cb81, cb82, -, -, -⟩ := cells3 (HK3.out.at 0 rfl)
      go_wp2_with fail
      go_ret
      exact ⟨rfl, HBW.out.trans (HK3.out.below.mono HBW.out.size)⟩
    · obtain ⟨⟨okx, oky⟩, ⟨hx1, hx8⟩, hy1, hy8⟩ := id hok
      have hpi := fun v u W i1 i2 => picks_i E R C h1 h2 h3 h4 xs ys hok v u W i1 i2
      have hps := fun v u W i1 i2 => picks_s E R C h1 h2 h3 h4 xs ys hok v u W i1 i2
      have htu := fun W => turn_yes E R C h1 h2 h3 h4 W
      have hpt := fun v u W i1 i2 => picks_i (fun x y => E y x) C R h3 h4 h1 h2 ys xs ⟨⟨oky, okx⟩, ⟨hy1, hy8⟩, hx1, hx8⟩ v u W i1 i2
      have htn := fun W => turn_yes (pickI E xs ys) xs.length ys.length hx1 hx8 hy1 hy8 W
      have hem := fun a b ha hb W => tp_entry E R C h1 h2 h3 h4 a b ha hb W
      have hen := fun a b ha hb W => tp_entry (pickI E xs ys) xs.length ys.length hx1 hx8 hy1 hy8 a b ha hb W
      rw [show rowsB (pickI (fun x y => E y x) ys xs) ys.length xs.length = rowsB (fun x y => pickI E xs ys y x) ys.length xs.length from rfl] at hpt
      have hel1 := fun i hi => elem HI1.out okx i hi
      have hel2 := fun i hi => elem HI2.out oky i hi
      have hpe : ∀ i k, pickI E xs ys i k = E (xs.getD i 0).toNat (ys.getD k 0).toNat := fun i k => rfl
      generalize pickI E xs ys = G at *
      generalize str (rowsB G xs.length ys.length) = sp at *
      generalize str (rowsB (fun x y => G y x) ys.length xs.length) = sq at *
      generalize str (rowsB (fun x y => E y x) C R) = sT at *
      generalize str (rowsB E R C) = s at *
      have HPI := Lib.hid hpi
      have HPS := Lib.hid hps
      have HTU := Lib.hid htu
      have HPT := Lib.hid hpt
      have HTN := Lib.hid htn
      have HEM := Lib.hid hem
      have HEN := Lib.hid hen
      have HE1 := Lib.hid hel1
      have HE2 := Lib.hid hel2
      have HPE := Lib.hid hpe
      clear hpi hps htu hpt htn hem hen hel1 hel2 hpe okx oky hok
      obtain ⟨m1, hm1⟩ : ∃ x, xs.length = x := ⟨_, rfl⟩
      obtain ⟨m2, hm2⟩ : ∃ x, ys.length = x := ⟨_, rfl⟩
      rw [hm1] at hx1 hx8 HPI HPS HPT HTN HEN HI1 HE1
      rw [hm2] at hy1 hy8 HPI HPS HPT HTN HEN HI2 HE2
      rw [hm1, hm2]
      have HM := Lib.hid (And.intro hm1 hm2)
      clear hm1 hm2 hx9 hy9
      obtain ⟨cB0, cB1, cB2, -, -, -⟩ := cells3 (HK1.out.at 0 rfl)
      go_wp2_with fail
      refine (HPI.out _ _ _ (iv_at HI1.out HK1.out) (iv_at HI2.out HK1.out)).mono ?_
      rintro e w2 ⟨rfl, hb2⟩
      obtain ⟨b6, hb6⟩ : ∃ x, w2.heap.size = x := ⟨_, rfl⟩
      have HK2 := Lib.hid ((HK1.out.later hb2).put (.cells #[.int .i64 m1, .int .i64 m2, .string sp] 27) hb6)
      clear hb2 HK1
      clear hB cB0 cB1 cB2
      obtain ⟨cB0, cB1, cB2, -, -, -⟩ := cells3 (HK2.out.at 1 rfl)
      go_wp2_with fail
      refine (HPS.out _ _ _ (iv_at HI1.out HK2.out) (iv_at HI2.out HK2.out)).mono ?_
      rintro e w3 ⟨rfl, hb3⟩
      obtain ⟨b8, hb8⟩ : ∃ x, w3.heap.size = x := ⟨_, rfl⟩
      have HK3 := Lib.hid ((HK2.out.later hb3).put (.cells #[.int .i64 m1, .int .i64 m2, .string sp] 27) hb8)
      clear hb3 HK2
      clear hb6 cB0 cB1 cB2
      obtain ⟨cb60, cb61, cb62, -, -, -⟩ := cells3 (HK3.out.at 1 rfl)
      obtain ⟨cb80, cb81, cb82, -, -, -⟩ := cells3 (HK3.out.at 0 rfl)
      go_wp2_with fail
      clear hb8 cb60 cb61 cb62 cb80 cb81 cb82
      go_loopw [10] (fun x wr => ∃ i : Nat, i ≤ m1 ∧ x = .int .i64 (i : Int) ∧ Hid (Kp w1 wr [(b8, .cells #[.int .i64 m1, .int .i64 m2, .string sp] 27), (b6, .cells #[.int .i64 m1, .int .i64 m2, .string sp] 27), (B, .cells #[.int .i64 R, .int .i64 C, .string s] 27)])) (fun x _ => m1 - (intOf x).toNat)
      case atStart => exact ⟨0, by omega, rfl, HK3⟩
      case round =>
        obtain ⟨i, hi, rfl, HR⟩ := hrel
        clear HK3
        by_cases hlt : i < m1
        · go_wp2_with fail
          go_loopw [11] (fun y wr => ∃ k : Nat, k ≤ m2 ∧ y = .int .i64 (k : Int) ∧ Hid (Kp w1 wr [(b8, .cells #[.int .i64 m1, .int .i64 m2, .string sp] 27), (b6, .cells #[.int .i64 m1, .int .i64 m2, .string sp] 27), (B, .cells #[.int .i64 R, .int .i64 C, .string s] 27)])) (fun y _ => m2 - (intOf y).toNat)
          case atStart => exact ⟨0, by omega, rfl, HR⟩
          case round =>
            obtain ⟨k, hk, rfl, HQ⟩ := hrel
            clear HR
            by_cases hkt : k < m2
            · obtain ⟨q1, o1, c1, X, hq1, hql1, hX, hXn, hc1⟩ := HE1.out i hlt
              obtain ⟨q2, o2, c2, Y, hq2, hql2, hY, hYn, hc2⟩ := HE2.out k hkt
              injection hq1 with hq1 _ hk1
              injection hq2 with hq2 _ hk2
              subst hq1 hq2 hk1 hk2
              have he := HPE.out i k
              rw [hXn, hYn] at he
              have hn1 := fun W => HEN.out i k hlt hkt W
              rw [he] at hn1
              have HN := Lib.hid hn1
              have HM2 := Lib.hid (fun W => HEM.out X Y hX hY W)
              generalize E X Y = ev at *
              have HC1 : Hid (∀ wx, Kp w1 wx [(b8, .cells #[.int .i64 m1, .int .i64 m2, .string sp] 27), (b6, .cells #[.int .i64 m1, .int .i64 m2, .string sp] 27), (B, .cells #[.int .i64 R, .int .i64 C, .string s] 27)] → wx.cell? ⟨q1, o1 + i, none⟩ = some (.int .i64 (X : Int))) := fun wx hC => (hC.below.cell (p := ⟨q1, o1 + i, none⟩) hql1).trans hc1
              have HC2 : Hid (∀ wx, Kp w1 wx [(b8, .cells #[.int .i64 m1, .int .i64 m2, .string sp] 27), (b6, .cells #[.int .i64 m1, .int .i64 m2, .string sp] 27), (B, .cells #[.int .i64 R, .int .i64 C, .string s] 27)] → wx.cell? ⟨q2, o2 + k, none⟩ = some (.int .i64 (Y : Int))) := fun wx hC => (hC.below.cell (p := ⟨q2, o2 + k, none⟩) hql2).trans hc2
              clear hc1 hc2 hn1 he hXn hYn
              go_wp2_with fail
              refine region_kept (C := fun wx => Kp w1 wx [(b8, .cells #[.int .i64 m1, .int .i64 m2, .string sp] 27), (b6, .cells #[.int .i64 m1, .int .i64 m2, .string sp] 27), (B, .cells #[.int .i64 R, .int .i64 C, .string s] 27)]) HQ.out.drew (by kernel_rfl) (by kernel_rfl) ?_
              repeat
                (refine wq_step (fun K hK => ?_)
                 go_simp
                 first
                   | (refine hK _ ?_; clear hK K)
                   | (apply Exists.intro
                      refine ⟨fun wx hC => ?_, hK _ ?_⟩
                      · first
                        | with_reducible rfl
                        | with_reducible exact hC.call (HN.out wx)
                        | with_reducible exact hC.call (HM2.out wx)
                        | (obtain ⟨q00, q01, q02, -, -, -⟩ := cells3 (hC.at 0 rfl); obtain ⟨q10, q11, q12, -, -, -⟩ := cells3 (hC.at 1 rfl); obtain ⟨q20, q21, q22, -, -, -⟩ := cells3 (hC.at 2 rfl); have r1 := HC1.out wx hC; have r2 := HC2.out wx hC; go_simp; first | done | rfl)
                      clear hK K))
              refine wq_nil ?_
              intro w20 hC
              have HRw20 : Hid (Kp w1 w20 [(b8, .cells #[.int .i64 m1, .int .i64 m2, .string sp] 27), (b6, .cells #[.int .i64 m1, .int .i64 m2, .string sp] 27), (B, .cells #[.int .i64 R, .int .i64 C, .string s] 27)]) := hC
              clear hC HQ
              go_wp2_with fail
              go_roundw
              case rel => exact ⟨k + 1, by omega, by go_num, HRw20⟩
              case measure => simp [intOf]; omega
            · obtain rfl : k = m2 := by omega
              go_wp2_with fail
              go_roundw
              case rel => exact ⟨i + 1, by omega, by go_num, HQ⟩
              case measure => simp [intOf]; omega
        · obtain rfl : i = m1 := by omega
          obtain ⟨cB0, cB1, cB2, -, -, -⟩ := cells3 (HR.out.at 2 rfl)
          go_wp2_with fail
          refine (HTU.out _).mono ?_
          rintro e w30 ⟨rfl, hb30⟩
          obtain ⟨b12, hb12⟩ : ∃ x, w30.heap.size = x := ⟨_, rfl⟩
          have HK30 := Lib.hid ((HR.out.later hb30).put (.cells #[.int .i64 C, .int .i64 R, .string sT] 27) hb12)
          clear hb30 HR
          clear cB0 cB1 cB2
          obtain ⟨cb120, cb121, cb122, -, -, -⟩ := cells3 (HK30.out.at 0 rfl)
          go_wp2_with fail
          refine (HPT.out _ _ _ (iv_at HI2.out HK30.out) (iv_at HI1.out HK30.out)).mono ?_
          rintro e w31 ⟨rfl, hb31⟩
          obtain ⟨b14, hb14⟩ : ∃ x, w31.heap.size = x := ⟨_, rfl⟩
          have HK31 := Lib.hid ((HK30.out.later hb31).put (.cells #[.int .i64 m2, .int .i64 i, .string sq] 27) hb14)
          clear hb31 HK30
          clear hb12 cb120 cb121 cb122
          obtain ⟨cb60, cb61, cb62, -, -, -⟩ := cells3 (HK31.out.at 3 rfl)
          go_wp2_with fail
          refine (HTN.out _).mono ?_
          rintro e w32 ⟨rfl, hb32⟩
          obtain ⟨b16, hb16⟩ : ∃ x, w32.heap.size = x := ⟨_, rfl⟩
          have HK32 := Lib.hid ((HK31.out.later hb32).put (.cells #[.int .i64 m2, .int .i64 i, .string sq] 27) hb16)
          clear hb32 HK31
          clear hb14 cb60 cb61 cb62
          obtain ⟨cb60, cb61, cb62, -, -, -⟩ := cells3 (HK32.out.at 4 rfl)
          obtain ⟨cb140, cb141, cb142, -, -, -⟩ := cells3 (HK32.out.at 1 rfl)
          obtain ⟨cb160, cb161, cb162, -, -, -⟩ := cells3 (HK32.out.at 0 rfl)
          go_wp2_with fail
          go_ret
          exact ⟨rfl, HBW.out.trans (HK32.out.below.mono HBW.out.size)⟩
end Go.Proofs.YtgmhddceeomjbaaDoor.fnPick
