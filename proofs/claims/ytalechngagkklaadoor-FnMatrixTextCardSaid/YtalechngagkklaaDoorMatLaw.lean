/-
  The walk of the drawn law on FormatMatrix and ParseMatrix.
-/
import Derived.Test.YtalechngagkklaaDoorDrawFM
import Derived.Test.YtalechngagkklaaDoorDrawPM
import Derived.Test.YtalechngagkklaaDoorMTxt
import Derived.Test.YtalechngagkklaaDoorKept
namespace Go.Proofs.YtalechngagkklaaDoor.fnMatrixText
open Go.RowKit Go.Proofs.YtalechngagkklaaDoor.Plain Go.Proofs.YtalechngagkklaaDoor.Base Go.Proofs.YtalechngagkklaaDoor.Valid Go.Proofs.YtalechngagkklaaDoor.Entry Go.Proofs.YtalechngagkklaaDoor.Fmt Go.Proofs.YtalechngagkklaaDoor.MTxt Go.Proofs.YtalechngagkklaaDoor.Rd Go.Proofs.YtalechngagkklaaDoor.Kept
open Go.Proofs.YtalechngagkklaaDoor.PMat (MaxAt max_at)
open Go.Proofs.YtalechngagkklaaDoor.Rd5 (cells3)
set_option linter.unusedVariables false

/-- a matrix has a text that is parsed to it, or none -/
theorem cases (a b : Int) (t : ByteArray) (ht : t.size ≤ maxLen) :
    ((∀ w, Calls Tryd.prog 29 #[mat a b t] w fun e w' => e = .returned (.string (str [])) ∧ Below w.heap.size w w') ∧
     (∀ w, Calls Tryd.prog 28 #[mat a b t] w fun e w' => e = .returned (.string (str [])) ∧ Below w.heap.size w w') ∧
     (∀ w, Calls Tryd.prog 30 #[mat a b t] w fun e w' => e = .returned (.bool false) ∧ Below w.heap.size w w')) ∨
    (∃ s : ByteArray, s.toList.isEmpty = false ∧
     (∀ w, Calls Tryd.prog 29 #[mat a b t] w fun e w' => e = .returned (.string s) ∧ Below w.heap.size w w') ∧
     (∀ w, Calls Tryd.prog 28 #[mat a b t] w fun e w' => e = .returned (.string s) ∧ Below w.heap.size w w') ∧
     (∀ w, Calls Tryd.prog 30 #[mat a b t] w fun e w' => e = .returned (.bool true) ∧ Below w.heap.size w w') ∧
     (∀ w, MaxAt w → Calls Tryd.prog 31 #[.string s] w fun e w' => e = .returned (.tuple #[mat a b t, .bool true]) ∧ Below w.heap.size w w')) := by
  by_cases hv : validB a b t = true
  · have hval := fun W => impl_valid a b t ht W
    rw [hv] at hval
    obtain ⟨R, C, E, rfl, rfl, h1, h2, h3, h4, rfl⟩ := valid_form hv
    obtain ⟨l1, l2⟩ := text_len E R C h1 h2 h3 h4
    refine .inr ⟨str (text E R C), ?_, fun w => fmt_spec E R C h1 h2 h3 h4 ht hv w, fun w => fmt_impl E R C h1 h2 h3 h4 ht hv w, hval, ?_⟩
    · have h2 : (str (text E R C)).toList.length = (str (text E R C)).size := by rw [ByteArray.toList_eq]; simp
      cases e : (str (text E R C)).toList with
      | nil => rw [e] at h2; simp at h2; omega
      | cons a l => rfl
    · rcases told_at E R C h1 h2 h3 h4 with h
      exact h
  · have hv' : validB a b t = false := by simpa using hv
    have hval := fun W => impl_valid a b t ht W
    rw [hv'] at hval
    exact .inl ⟨fun w => fmt_spec_no a b t ht hv' w, fun w => fmt_impl_no a b t ht hv' w, hval⟩

set_option maxHeartbeats 8000000 in
set_option maxRecDepth 100000 in
theorem walk (v : Value) (n : Nat) (v2 : Value) (n2 : Nat) (w : World) (h : ByteArg w v n) (h2 : ByteArg w v2 n2) (hsh : w.ShapedOpen Tryd.prog) :
    Calls Tryd.prog 5 #[v, v2] w fun e w' => e = .returned (.bool true) ∧ Below w.heap.size w w' := by
  have HMX := Lib.hid (max_at hsh)
  clear hsh
  obtain ⟨hn0, a, cap, rfl, hc, hb0⟩ := id h
  obtain ⟨hm0, a2, cap2, rfl, hc2, hb2⟩ := id h2
  clear hb0 hb2
  have HD := Lib.hid (DrawFM.draw_any _ n w h)
  have H2 := Lib.hid h2
  clear h h2
  by_cases hbig : 1048576 < n
  · have hbi : (1048576 : Int) < (n : Int) := by omega
    go_enter Tryd.func5, Tryd.ntmps5
    go_wp2_with fail
    go_ret
    exact ⟨rfl, Below.refl _ _⟩
  have hbi : ¬ (1048576 : Int) < (n : Int) := by omega
  by_cases hbig2 : 1048576 < n2
  · have hbi2 : (1048576 : Int) < (n2 : Int) := by omega
    go_enter Tryd.func5, Tryd.ntmps5
    go_wp2_with fail
    go_ret
    exact ⟨rfl, Below.refl _ _⟩
  have hbi2 : ¬ (1048576 : Int) < (n2 : Int) := by omega
  go_enter Tryd.func5, Tryd.ntmps5
  go_wp2_with fail
  refine HD.out.mono ?_
  rintro e w1 ⟨x, y, u, rfl, -, -, hu, hb⟩
  clear HD hbig hbi hbig2 hbi2
  have hcase := cases x y u (by unfold maxLen; omega)
  obtain ⟨B, hB⟩ : ∃ B, w1.heap.size = B := ⟨_, rfl⟩
  have HK1 := Lib.hid ((Kp.nil w).later hb |>.put (.cells #[.int .i64 x, .int .i64 y, .string u] 24) hB)
  clear hb
  rcases hcase with ⟨hfs, hfi, hval⟩ | ⟨s, hse, hfs, hfi, hval, hpar⟩
  · have HFS := Lib.hid hfs
    have HFI := Lib.hid hfi
    have HV := Lib.hid hval
    clear hfs hfi hval
    rw [show (str [] : ByteArray) = ⟨#[]⟩ from rfl] at HFS HFI
    obtain ⟨cB0, cB1, cB2, -, -, -⟩ := cells3 (HK1.out.at 0 rfl)
    go_wp2_with fail
    refine (HFI.out _).mono ?_
    rintro e w2 ⟨rfl, hb2⟩
    have HK2 := Lib.hid (HK1.out.later hb2)
    clear hb2 HK1
    clear hB cB0 cB1 cB2
    obtain ⟨cB0, cB1, cB2, -, -, -⟩ := cells3 (HK2.out.at 0 rfl)
    go_wp2_with fail
    refine (HFS.out _).mono ?_
    rintro e w3 ⟨rfl, hb3⟩
    have HK3 := Lib.hid (HK2.out.later hb3)
    clear hb3 HK2
    clear cB0 cB1 cB2
    obtain ⟨cB0, cB1, cB2, -, -, -⟩ := cells3 (HK3.out.at 0 rfl)
    go_wp2_with fail
    refine (HV.out _).mono ?_
    rintro e w4 ⟨rfl, hb4⟩
    have HK4 := Lib.hid (HK3.out.later hb4)
    clear hb4 HK3
    clear cB0 cB1 cB2
    have HP := Lib.hid (DrawPM.draw_any _ n2 _ (H2.out.later HK4.out.below))
    go_wp2_with fail
    refine HP.out.mono ?_
    rintro e w30 ⟨t, rfl, ht, hb30⟩
    have HK30 := Lib.hid (HK4.out.later hb30)
    clear hb30 HP HK4
    rcases told t (by omega) with ⟨R, C, E, -, -, hps, hpi, hpf⟩ | ⟨hps, hpi, -⟩
    · have HPS := Lib.hid hps
      have HPI := Lib.hid hpi
      have HPF := Lib.hid hpf
      clear hps hpi hpf
      generalize str (rowsB E R C) = z at *
      go_wp2_with fail
      refine (HPI.out _ (HMX.out.on HK30.out.below)).mono ?_
      rintro e w5 ⟨rfl, hb5⟩
      obtain ⟨b10, hb10⟩ : ∃ x, w5.heap.size = x := ⟨_, rfl⟩
      have HK5 := Lib.hid ((HK30.out.later hb5).put (.cells #[.int .i64 R, .int .i64 C, .string z] 24) hb10)
      clear hb5 HK30
      go_wp2_with fail
      refine (HPS.out _).mono ?_
      rintro e w6 ⟨rfl, hb6⟩
      obtain ⟨b12, hb12⟩ : ∃ x, w6.heap.size = x := ⟨_, rfl⟩
      have HK6 := Lib.hid ((HK5.out.later hb6).put (.cells #[.int .i64 R, .int .i64 C, .string z] 24) hb12)
      clear hb6 HK5
      clear hb10
      obtain ⟨cb120, cb121, cb122, -, -, -⟩ := cells3 (HK6.out.at 0 rfl)
      obtain ⟨cb100, cb101, cb102, -, -, -⟩ := cells3 (HK6.out.at 1 rfl)
      go_wp2_with fail
      refine (HPF.out _).mono ?_
      rintro e w7 ⟨rfl, hb7⟩
      have HK7 := Lib.hid (HK6.out.later hb7)
      clear hb7 HK6
      clear hb12 cb120 cb121 cb122 cb100 cb101 cb102
      go_wp2_with fail
      go_ret
      exact ⟨rfl, HK7.out.below⟩
    · have HPS := Lib.hid hps
      have HPI := Lib.hid hpi
      clear hps hpi
      generalize str [] = z at *
      go_wp2_with fail
      refine (HPI.out _ (HMX.out.on HK30.out.below)).mono ?_
      rintro e w5 ⟨rfl, hb5⟩
      obtain ⟨b10, hb10⟩ : ∃ x, w5.heap.size = x := ⟨_, rfl⟩
      have HK5 := Lib.hid ((HK30.out.later hb5).put (.cells #[.int .i64 0, .int .i64 0, .string z] 24) hb10)
      clear hb5 HK30
      go_wp2_with fail
      refine (HPS.out _).mono ?_
      rintro e w6 ⟨rfl, hb6⟩
      obtain ⟨b12, hb12⟩ : ∃ x, w6.heap.size = x := ⟨_, rfl⟩
      have HK6 := Lib.hid ((HK5.out.later hb6).put (.cells #[.int .i64 0, .int .i64 0, .string z] 24) hb12)
      clear hb6 HK5
      clear hb10
      obtain ⟨cb120, cb121, cb122, -, -, -⟩ := cells3 (HK6.out.at 0 rfl)
      obtain ⟨cb100, cb101, cb102, -, -, -⟩ := cells3 (HK6.out.at 1 rfl)
      go_wp2_with fail
      go_ret
      exact ⟨rfl, HK6.out.below⟩
  · have HFS := Lib.hid hfs
    have HFI := Lib.hid hfi
    have HV := Lib.hid hval
    have HPAR := Lib.hid hpar
    have HSE := Lib.hid hse
    clear hfs hfi hval hpar hse
    obtain ⟨cB0, cB1, cB2, -, -, -⟩ := cells3 (HK1.out.at 0 rfl)
    go_wp2_with fail
    refine (HFI.out _).mono ?_
    rintro e w2 ⟨rfl, hb2⟩
    have HK2 := Lib.hid (HK1.out.later hb2)
    clear hb2 HK1
    clear hB cB0 cB1 cB2
    obtain ⟨cB0, cB1, cB2, -, -, -⟩ := cells3 (HK2.out.at 0 rfl)
    go_wp2_with fail
    refine (HFS.out _).mono ?_
    rintro e w3 ⟨rfl, hb3⟩
    have HK3 := Lib.hid (HK2.out.later hb3)
    clear hb3 HK2
    clear cB0 cB1 cB2
    have hse := HSE.out
    obtain ⟨cB0, cB1, cB2, -, -, -⟩ := cells3 (HK3.out.at 0 rfl)
    go_wp2_with fail
    refine (HV.out _).mono ?_
    rintro e w4 ⟨rfl, hb4⟩
    have HK4 := Lib.hid (HK3.out.later hb4)
    clear hb4 HK3
    clear cB0 cB1 cB2
    go_wp2_with fail
    refine (HPAR.out _ (HMX.out.on HK4.out.below)).mono ?_
    rintro e w5 ⟨rfl, hb5⟩
    obtain ⟨b7, hb7⟩ : ∃ x, w5.heap.size = x := ⟨_, rfl⟩
    have HK5 := Lib.hid ((HK4.out.later hb5).put (.cells #[.int .i64 x, .int .i64 y, .string u] 24) hb7)
    clear hb5 HK4
    clear hse
    obtain ⟨cB0, cB1, cB2, -, -, -⟩ := cells3 (HK5.out.at 1 rfl)
    obtain ⟨cb70, cb71, cb72, -, -, -⟩ := cells3 (HK5.out.at 0 rfl)
    have HP := Lib.hid (DrawPM.draw_any _ n2 _ (H2.out.later HK5.out.below))
    go_wp2_with fail
    clear hb7 cB0 cB1 cB2 cb70 cb71 cb72
    refine HP.out.mono ?_
    rintro e w30 ⟨t, rfl, ht, hb30⟩
    have HK30 := Lib.hid (HK5.out.later hb30)
    clear hb30 HP HK5
    rcases told t (by omega) with ⟨R, C, E, -, -, hps, hpi, hpf⟩ | ⟨hps, hpi, -⟩
    · have HPS := Lib.hid hps
      have HPI := Lib.hid hpi
      have HPF := Lib.hid hpf
      clear hps hpi hpf
      generalize str (rowsB E R C) = z at *
      go_wp2_with fail
      refine (HPI.out _ (HMX.out.on HK30.out.below)).mono ?_
      rintro e w6 ⟨rfl, hb6⟩
      obtain ⟨b10, hb10⟩ : ∃ x, w6.heap.size = x := ⟨_, rfl⟩
      have HK6 := Lib.hid ((HK30.out.later hb6).put (.cells #[.int .i64 R, .int .i64 C, .string z] 24) hb10)
      clear hb6 HK30
      go_wp2_with fail
      refine (HPS.out _).mono ?_
      rintro e w7 ⟨rfl, hb7⟩
      obtain ⟨b12, hb12⟩ : ∃ x, w7.heap.size = x := ⟨_, rfl⟩
      have HK7 := Lib.hid ((HK6.out.later hb7).put (.cells #[.int .i64 R, .int .i64 C, .string z] 24) hb12)
      clear hb7 HK6
      clear hb10
      obtain ⟨cb120, cb121, cb122, -, -, -⟩ := cells3 (HK7.out.at 0 rfl)
      obtain ⟨cb100, cb101, cb102, -, -, -⟩ := cells3 (HK7.out.at 1 rfl)
      go_wp2_with fail
      refine (HPF.out _).mono ?_
      rintro e w8 ⟨rfl, hb8⟩
      have HK8 := Lib.hid (HK7.out.later hb8)
      clear hb8 HK7
      clear hb12 cb120 cb121 cb122 cb100 cb101 cb102
      go_wp2_with fail
      go_ret
      exact ⟨rfl, HK8.out.below⟩
    · have HPS := Lib.hid hps
      have HPI := Lib.hid hpi
      clear hps hpi
      generalize str [] = z at *
      go_wp2_with fail
      refine (HPI.out _ (HMX.out.on HK30.out.below)).mono ?_
      rintro e w6 ⟨rfl, hb6⟩
      obtain ⟨b10, hb10⟩ : ∃ x, w6.heap.size = x := ⟨_, rfl⟩
      have HK6 := Lib.hid ((HK30.out.later hb6).put (.cells #[.int .i64 0, .int .i64 0, .string z] 24) hb10)
      clear hb6 HK30
      go_wp2_with fail
      refine (HPS.out _).mono ?_
      rintro e w7 ⟨rfl, hb7⟩
      obtain ⟨b12, hb12⟩ : ∃ x, w7.heap.size = x := ⟨_, rfl⟩
      have HK7 := Lib.hid ((HK6.out.later hb7).put (.cells #[.int .i64 0, .int .i64 0, .string z] 24) hb12)
      clear hb7 HK6
      clear hb10
      obtain ⟨cb120, cb121, cb122, -, -, -⟩ := cells3 (HK7.out.at 0 rfl)
      obtain ⟨cb100, cb101, cb102, -, -, -⟩ := cells3 (HK7.out.at 1 rfl)
      go_wp2_with fail
      go_ret
      exact ⟨rfl, HK7.out.below⟩
end Go.Proofs.YtalechngagkklaaDoor.fnMatrixText
