/-
  The walk of the drawn law on FormatRect and ParseRect.
-/
import Derived.Test.YtalechngagkklaaDrawFR
import Derived.Test.YtalechngagkklaaDrawPR
import Derived.Test.YtalechngagkklaaRTxt
import Derived.Test.YtalechngagkklaaAreaI
import Derived.Test.YtalechngagkklaaFormatRWalk
import Derived.Test.YtalechngagkklaaKept
namespace Go.Proofs.Ytalechngagkklaa.fnRectText
open Go.RowKit Go.Proofs.Ytalechngagkklaa.Plain Go.Proofs.Ytalechngagkklaa.Pat Go.Proofs.Ytalechngagkklaa.Rect Go.Proofs.Ytalechngagkklaa.Format Go.Proofs.Ytalechngagkklaa.RTxt Go.Proofs.Ytalechngagkklaa.Rd Go.Proofs.Ytalechngagkklaa.Kept Go.Proofs.Ytalechngagkklaa.Patch
open Go.Proofs.Ytalechngagkklaa.fnExactParseRect (MaxAt)
open Go.Proofs.Ytalechngagkklaa.Rd4 (cells2)
set_option linter.unusedVariables false

theorem pop_pos (n : Nat) (h1 : 1 ≤ n) (h2 : n < 256) : 1 ≤ pop8 n := by
  have h : ∀ k : Fin 256, 1 ≤ k.val → 1 ≤ pop8 k.val := by decide +kernel
  exact h ⟨n, h2⟩ h1
/-- a rectangle has a text and entries, or none -/
theorem cases (r c : Int) :
    ((∀ w, Calls Try.prog 6 #[rect r c] w fun e w' => e = .returned (.string ⟨#[]⟩) ∧ Below w.heap.size w w') ∧
     (∀ w, Calls Try.prog 5 #[rect r c] w fun e w' => e = .returned (.string ⟨#[]⟩) ∧ Below w.heap.size w w') ∧
     (∀ w, Calls Try.prog 8 #[rect r c] w fun e w' => e = .returned (.int .i64 (-1)) ∧ Below w.heap.size w w')) ∨
    (∃ (R C : Nat) (ar : Int), r = R ∧ c = C ∧ 1 ≤ R ∧ R < 256 ∧ 1 ≤ C ∧ C < 256 ∧ 1 ≤ ar ∧
     (∀ w, Calls Try.prog 6 #[rect R C] w fun e w' => e = .returned (.string (rtext R C)) ∧ Below w.heap.size w w') ∧
     (∀ w, Calls Try.prog 5 #[rect R C] w fun e w' => e = .returned (.string (rtext R C)) ∧ Below w.heap.size w w') ∧
     (∀ w, Calls Try.prog 8 #[rect R C] w fun e w' => e = .returned (.int .i64 ar) ∧ Below w.heap.size w w')) := by
  by_cases h : someB r c = true
  · have hh := (someB_iff r c).1 h
    obtain ⟨R, rfl⟩ := Int.eq_ofNat_of_zero_le (show 0 ≤ r by omega)
    obtain ⟨C, rfl⟩ := Int.eq_ofNat_of_zero_le (show 0 ≤ c by omega)
    have hp : 1 ≤ pop8 R * pop8 C := Nat.mul_le_mul (pop_pos R (by omega) (by omega)) (pop_pos C (by omega) (by omega))
    exact .inr ⟨R, C, ((pop8 R * pop8 C : Nat) : Int), rfl, rfl, by omega, by omega, by omega, by omega, by omega, fun w => spec_fmt R C (by omega) (by omega) (by omega) (by omega) w, fun w => impl_fmt R C (by omega) (by omega) (by omega) (by omega) w, fun w => AreaI.impl_area R C (by omega) (by omega) (by omega) (by omega) w⟩
  · have h' : someB r c = false := by simpa using h
    exact .inl ⟨fun w => spec_fmt_no r c h' w, fun w => impl_fmt_no r c h' w, fun w => AreaI.impl_area_no r c h' w⟩
theorem toList_ne (s : ByteArray) (h : 1 ≤ s.size) : s.toList.isEmpty = false := by
  have h2 : s.toList.length = s.size := by rw [ByteArray.toList_eq]; simp
  cases e : s.toList with
  | nil => rw [e] at h2; simp at h2; omega
  | cons a l => rfl

set_option maxHeartbeats 8000000 in
set_option maxRecDepth 100000 in
theorem walk (v : Value) (n : Nat) (v2 : Value) (n2 : Nat) (w : World) (h : ByteArg w v n) (h2 : ByteArg w v2 n2) (hsh : w.ShapedOpen Try.prog) :
    Calls Try.prog 3 #[v, v2] w fun e w' => e = .returned (.bool true) ∧ Below w.heap.size w w' := by
  have HMX := Lib.hid (fnExactParseRect.max_at hsh)
  clear hsh
  obtain ⟨hn0, a, cap, rfl, hc, hb0⟩ := id h
  obtain ⟨hm0, a2, cap2, rfl, hc2, hb2⟩ := id h2
  clear hb0 hb2
  have HD := Lib.hid (DrawFR.draw_any _ n w h)
  have H2 := Lib.hid h2
  clear h h2
  by_cases hbig : 1048576 < n
  · have hbi : (1048576 : Int) < (n : Int) := by omega
    go_enter Try.func3, Try.ntmps3
    go_wp2_with fail
    go_ret
    exact ⟨rfl, Below.refl _ _⟩
  have hbi : ¬ (1048576 : Int) < (n : Int) := by omega
  by_cases hbig2 : 1048576 < n2
  · have hbi2 : (1048576 : Int) < (n2 : Int) := by omega
    go_enter Try.func3, Try.ntmps3
    go_wp2_with fail
    go_ret
    exact ⟨rfl, Below.refl _ _⟩
  have hbi2 : ¬ (1048576 : Int) < (n2 : Int) := by omega
  go_enter Try.func3, Try.ntmps3
  go_wp2_with fail
  refine HD.out.mono ?_
  rintro e w1 ⟨x, y, rfl, -, -, hb⟩
  clear HD hbig hbi hbig2 hbi2
  have hcase := cases x y
  obtain ⟨B, hB⟩ : ∃ B, w1.heap.size = B := ⟨_, rfl⟩
  have HK1 := Lib.hid ((Kp.nil w).later hb |>.put (.cells #[.int .i64 x, .int .i64 y] 24) hB)
  clear hb
  rcases hcase with ⟨hfs, hfi, har⟩ | ⟨R, C, ar, rfl, rfl, k1, k2, k3, k4, har1, hfs, hfi, har⟩
  · have HFS := Lib.hid hfs
    have HFI := Lib.hid hfi
    have HAR := Lib.hid har
    clear hfs hfi har
    obtain ⟨cB0, cB1, -, -⟩ := cells2 (HK1.out.at 0 rfl)
    go_wp2_with fail
    refine (HFI.out _).mono ?_
    rintro e w2 ⟨rfl, hb2⟩
    have HK2 := Lib.hid (HK1.out.later hb2)
    clear hb2 HK1
    clear hB cB0 cB1
    obtain ⟨cB0, cB1, -, -⟩ := cells2 (HK2.out.at 0 rfl)
    go_wp2_with fail
    refine (HFS.out _).mono ?_
    rintro e w3 ⟨rfl, hb3⟩
    have HK3 := Lib.hid (HK2.out.later hb3)
    clear hb3 HK2
    clear cB0 cB1
    have HP := Lib.hid (DrawPR.draw_any _ n2 _ (H2.out.later HK3.out.below))
    go_wp2_with fail
    refine HP.out.mono ?_
    rintro e w30 ⟨t, rfl, ht, hb30⟩
    have HK30 := Lib.hid (HK3.out.later hb30)
    obtain ⟨x2, y2, t2, hps, hpi, hpt, -⟩ := told t (by omega)
    have HPS := Lib.hid hps
    have HPI := Lib.hid hpi
    have HPT := Lib.hid hpt
    clear hb30 HP HK3 hps hpi hpt
    go_wp2_with fail
    refine (HPI.out _ (HMX.out.on HK30.out.below)).mono ?_
    rintro e w4 ⟨rfl, hb4⟩
    obtain ⟨b10, hb10⟩ : ∃ x, w4.heap.size = x := ⟨_, rfl⟩
    have HK4 := Lib.hid ((HK30.out.later hb4).put (.cells #[.int .i64 x2, .int .i64 y2] 24) hb10)
    clear hb4 HK30
    go_wp2_with fail
    refine (HPS.out _).mono ?_
    rintro e w5 ⟨rfl, hb5⟩
    obtain ⟨b12, hb12⟩ : ∃ x, w5.heap.size = x := ⟨_, rfl⟩
    have HK5 := Lib.hid ((HK4.out.later hb5).put (.cells #[.int .i64 x2, .int .i64 y2] 24) hb12)
    clear hb5 HK4
    clear hb10
    cases t2
    · obtain ⟨cB0, cB1, -, -⟩ := cells2 (HK5.out.at 2 rfl)
      obtain ⟨cA0, cA1, -, -⟩ := cells2 (HK5.out.at 1 rfl)
      obtain ⟨cC0, cC1, -, -⟩ := cells2 (HK5.out.at 0 rfl)
      go_wp2_with fail
      refine (HAR.out _).mono ?_
      rintro e w40 ⟨rfl, hb40⟩
      have HK40 := Lib.hid (HK5.out.later hb40)
      clear hb40 cB0 cB1 cA0 cA1 cC0 cC1
      go_wp2_with fail
      go_ret
      exact ⟨by first | rfl | (simp; omega), HK40.out.below⟩
    · obtain ⟨X, Y, rfl, rfl, x1, x2, x3, x4, rfl⟩ := HPT.out rfl
      have HF2 := Lib.hid (fun W => impl_fmt X Y (by omega) (by omega) (by omega) (by omega) W)
      obtain ⟨cB0, cB1, -, -⟩ := cells2 (HK5.out.at 2 rfl)
      obtain ⟨cA0, cA1, -, -⟩ := cells2 (HK5.out.at 1 rfl)
      obtain ⟨cC0, cC1, -, -⟩ := cells2 (HK5.out.at 0 rfl)
      generalize rtext X Y = t at *
      go_wp2_with fail
      refine (HF2.out _).mono ?_
      rintro e w39 ⟨rfl, hb39⟩
      have HK39 := Lib.hid (HK5.out.later hb39)
      clear hb39 cB0 cB1 cA0 cA1 cC0 cC1
      obtain ⟨cB0, cB1, -, -⟩ := cells2 (HK39.out.at 2 rfl)
      go_wp2_with fail
      refine (HAR.out _).mono ?_
      rintro e w40 ⟨rfl, hb40⟩
      have HK40 := Lib.hid (HK39.out.later hb40)
      clear hb40 cB0 cB1
      go_wp2_with fail
      go_ret
      exact ⟨by first | rfl | (simp; omega), HK40.out.below⟩
  · have HFS := Lib.hid hfs
    have HFI := Lib.hid hfi
    have HAR := Lib.hid har
    have hne := toList_ne (rtext R C) (rtext_ne R C)
    obtain ⟨x3, y3, t3, -, hpi3, hpt3, hback⟩ := told (rtext R C) (by have := rtext_size R C; omega)
    obtain ⟨rfl, rfl, rfl⟩ := hback R C k1 k2 k3 k4 rfl
    have HPI3 := Lib.hid hpi3
    clear hfs hfi har hpi3 hpt3 hback
    generalize rtext R C = s at *
    have HNE := Lib.hid hne
    clear hne
    obtain ⟨cB0, cB1, -, -⟩ := cells2 (HK1.out.at 0 rfl)
    go_wp2_with fail
    refine (HFI.out _).mono ?_
    rintro e w2 ⟨rfl, hb2⟩
    have HK2 := Lib.hid (HK1.out.later hb2)
    clear hb2 HK1
    clear hB cB0 cB1
    obtain ⟨cB0, cB1, -, -⟩ := cells2 (HK2.out.at 0 rfl)
    go_wp2_with fail
    refine (HFS.out _).mono ?_
    rintro e w3 ⟨rfl, hb3⟩
    have HK3 := Lib.hid (HK2.out.later hb3)
    clear hb3 HK2
    clear cB0 cB1
    have hne := HNE.out
    go_wp2_with fail
    clear hne
    refine (HPI3.out _ (HMX.out.on HK3.out.below)).mono ?_
    rintro e w4 ⟨rfl, hb4⟩
    obtain ⟨b7, hb7⟩ : ∃ x, w4.heap.size = x := ⟨_, rfl⟩
    have HK4 := Lib.hid ((HK3.out.later hb4).put (.cells #[.int .i64 R, .int .i64 C] 24) hb7)
    clear hb4 HK3
    obtain ⟨cB0, cB1, -, -⟩ := cells2 (HK4.out.at 1 rfl)
    obtain ⟨cb70, cb71, -, -⟩ := cells2 (HK4.out.at 0 rfl)
    go_wp2_with fail
    refine (HAR.out _).mono ?_
    rintro e w5 ⟨rfl, hb5⟩
    have HK5 := Lib.hid (HK4.out.later hb5)
    clear hb5 HK4
    clear hb7 cB0 cB1 cb70 cb71
    have HP := Lib.hid (DrawPR.draw_any _ n2 _ (H2.out.later HK5.out.below))
    go_wp2_with fail
    refine HP.out.mono ?_
    rintro e w30 ⟨t, rfl, ht, hb30⟩
    have HK30 := Lib.hid (HK5.out.later hb30)
    obtain ⟨x2, y2, t2, hps, hpi, hpt, -⟩ := told t (by omega)
    have HPS := Lib.hid hps
    have HPI := Lib.hid hpi
    have HPT := Lib.hid hpt
    clear hb30 HP HK5 hps hpi hpt
    go_wp2_with fail
    refine (HPI.out _ (HMX.out.on HK30.out.below)).mono ?_
    rintro e w6 ⟨rfl, hb6⟩
    obtain ⟨b10, hb10⟩ : ∃ x, w6.heap.size = x := ⟨_, rfl⟩
    have HK6 := Lib.hid ((HK30.out.later hb6).put (.cells #[.int .i64 x2, .int .i64 y2] 24) hb10)
    clear hb6 HK30
    go_wp2_with fail
    refine (HPS.out _).mono ?_
    rintro e w7 ⟨rfl, hb7⟩
    obtain ⟨b12, hb12⟩ : ∃ x, w7.heap.size = x := ⟨_, rfl⟩
    have HK7 := Lib.hid ((HK6.out.later hb7).put (.cells #[.int .i64 x2, .int .i64 y2] 24) hb12)
    clear hb7 HK6
    clear hb10
    have hne := HNE.out
    cases t2
    · obtain ⟨cB0, cB1, -, -⟩ := cells2 (HK7.out.at 3 rfl)
      obtain ⟨cA0, cA1, -, -⟩ := cells2 (HK7.out.at 1 rfl)
      obtain ⟨cC0, cC1, -, -⟩ := cells2 (HK7.out.at 0 rfl)
      go_wp2_with fail
      refine (HAR.out _).mono ?_
      rintro e w40 ⟨rfl, hb40⟩
      have HK40 := Lib.hid (HK7.out.later hb40)
      clear hb40 cB0 cB1 cA0 cA1 cC0 cC1
      go_wp2_with fail
      go_ret
      exact ⟨by first | rfl | (simp; omega), HK40.out.below⟩
    · obtain ⟨X, Y, rfl, rfl, x1, x2, x3, x4, rfl⟩ := HPT.out rfl
      have HF2 := Lib.hid (fun W => impl_fmt X Y (by omega) (by omega) (by omega) (by omega) W)
      obtain ⟨cB0, cB1, -, -⟩ := cells2 (HK7.out.at 3 rfl)
      obtain ⟨cA0, cA1, -, -⟩ := cells2 (HK7.out.at 1 rfl)
      obtain ⟨cC0, cC1, -, -⟩ := cells2 (HK7.out.at 0 rfl)
      generalize rtext X Y = t at *
      go_wp2_with fail
      refine (HF2.out _).mono ?_
      rintro e w39 ⟨rfl, hb39⟩
      have HK39 := Lib.hid (HK7.out.later hb39)
      clear hb39 cB0 cB1 cA0 cA1 cC0 cC1
      obtain ⟨cB0, cB1, -, -⟩ := cells2 (HK39.out.at 3 rfl)
      go_wp2_with fail
      refine (HAR.out _).mono ?_
      rintro e w40 ⟨rfl, hb40⟩
      have HK40 := Lib.hid (HK39.out.later hb40)
      clear hb40 cB0 cB1
      go_wp2_with fail
      go_ret
      exact ⟨by first | rfl | (simp; omega), HK40.out.below⟩
end Go.Proofs.Ytalechngagkklaa.fnRectText
