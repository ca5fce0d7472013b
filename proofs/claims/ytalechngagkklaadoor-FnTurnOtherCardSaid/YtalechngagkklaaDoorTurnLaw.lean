/-
  The walk of the drawn law on TurnMatrix and OtherMatrix.
-/
import Derived.Test.YtalechngagkklaaDoorDrawTM
import Derived.Test.YtalechngagkklaaDoorTurnM
import Derived.Test.YtalechngagkklaaDoorKept
namespace Go.Proofs.YtalechngagkklaaDoor.fnTurnOther
open Go.RowKit Go.Proofs.YtalechngagkklaaDoor.Plain Go.Proofs.YtalechngagkklaaDoor.Base Go.Proofs.YtalechngagkklaaDoor.Valid Go.Proofs.YtalechngagkklaaDoor.ColF Go.Proofs.YtalechngagkklaaDoor.TurnM Go.Proofs.YtalechngagkklaaDoor.Rd Go.Proofs.YtalechngagkklaaDoor.Kept Go.Proofs.YtalechngagkklaaDoor.Clos
open Go.Proofs.YtalechngagkklaaDoor.GridPlain Go.Proofs.YtalechngagkklaaDoor.Grid Go.Proofs.YtalechngagkklaaDoor.Entry
open Go.Proofs.YtalechngagkklaaDoor.SpecTO (turn_spec_no other_spec_no)
open Go.Proofs.YtalechngagkklaaDoor.Rd4 (cells2)
open Go.Proofs.YtalechngagkklaaDoor.Rd5 (cells3)
set_option linter.unusedVariables false

theorem not_not_rows (E : Nat → Nat → Bool) (r c : Nat) : rowsB (fun x y => !(fun x y => !E x y) x y) r c = rowsB E r c := rowsB_congr fun x y _ _ => by simp
/-- which matrices there are: all answer none, or the matrix is told by its entries -/
theorem cases (a b : Int) (t : ByteArray) (hs : t.size ≤ maxLen) :
    ((∀ w, Calls Tryd.prog 24 #[mat a b t] w fun e w' => e = .returned (.tuple #[mat 0 0 (str []), .bool false]) ∧ Below w.heap.size w w') ∧
     (∀ w, Calls Tryd.prog 23 #[mat a b t] w fun e w' => e = .returned (.tuple #[mat 0 0 (str []), .bool false]) ∧ Below w.heap.size w w') ∧
     (∀ w, Calls Tryd.prog 25 #[mat a b t] w fun e w' => e = .returned (.tuple #[mat 0 0 (str []), .bool false]) ∧ Below w.heap.size w w') ∧
     (∀ w, Calls Tryd.prog 20 #[mat a b t] w fun e w' => e = .returned (.tuple #[mat 0 0 (str []), .bool false]) ∧ Below w.heap.size w w')) ∨
    (∃ (R C : Nat) (E : Nat → Nat → Bool), a = R ∧ b = C ∧ t = str (rowsB E R C) ∧ 1 ≤ R ∧ R ≤ 8 ∧ 1 ≤ C ∧ C ≤ 8) := by
  by_cases hv : validB a b t = true
  · obtain ⟨R, C, E, rfl, rfl, h1, h2, h3, h4, rfl⟩ := valid_form hv
    exact .inr ⟨R, C, E, rfl, rfl, rfl, h1, h2, h3, h4⟩
  · have hv' : validB a b t = false := by simpa using hv
    exact .inl ⟨fun w => turn_spec_no a b t hs hv' w, fun w => turn_impl_no a b t w fun W => grid_no a b t hs hv' W, fun w => other_spec_no a b t hs hv' w, fun w => other_impl_no a b t w fun W => grid_no a b t hs hv' W⟩

set_option maxHeartbeats 8000000 in
set_option maxRecDepth 100000 in
theorem walk (v : Value) (n : Nat) (w : World) (h : ByteArg w v n) :
    Calls Tryd.prog 4 #[v] w fun e w' => e = .returned (.bool true) ∧ Below w.heap.size w w' := by
  obtain ⟨hn0, a, cap, rfl, hc, hb0⟩ := id h
  clear hb0
  have HD := Lib.hid (DrawTM.draw_any _ n w h)
  clear h
  by_cases hbig : 1048576 < n
  · have hbi : (1048576 : Int) < (n : Int) := by omega
    go_enter Tryd.func4, Tryd.ntmps4
    go_wp2_with fail
    go_ret
    exact ⟨rfl, Below.refl _ _⟩
  · have hbi : ¬ (1048576 : Int) < (n : Int) := by omega
    go_enter Tryd.func4, Tryd.ntmps4
    go_wp2_with fail
    refine HD.out.mono ?_
    rintro e w1 ⟨a, b, t, rfl, -, -, ht, hb⟩
    clear HD hbig hbi
    have hcase := cases a b t (by unfold maxLen; omega)
    obtain ⟨B, hB⟩ : ∃ B, w1.heap.size = B := ⟨_, rfl⟩
    have HK1 := Lib.hid ((Kp.nil w).later hb |>.put (.cells #[.int .i64 a, .int .i64 b, .string t] 24) hB)
    clear hb
    rcases hcase with ⟨hts, hti, hos, hoi⟩ | ⟨R, C, E, rfl, rfl, rfl, h1, h2, h3, h4⟩
    · have HTS := Lib.hid hts
      have HTI := Lib.hid hti
      have HOS := Lib.hid hos
      have HOI := Lib.hid hoi
      clear hts hti hos hoi
      generalize str [] = z at *
      obtain ⟨cB0, cB1, cB2, -, -, -⟩ := cells3 (HK1.out.at 0 rfl)
      go_wp2_with fail
      refine (HTI.out _).mono ?_
      rintro e w2 ⟨rfl, hb2⟩
      obtain ⟨b4, hb4⟩ : ∃ x, w2.heap.size = x := ⟨_, rfl⟩
      have HK2 := Lib.hid ((HK1.out.later hb2).put (.cells #[.int .i64 0, .int .i64 0, .string z] 24) hb4)
      clear hb2 HK1
      clear hB cB0 cB1 cB2
      obtain ⟨cB0, cB1, cB2, -, -, -⟩ := cells3 (HK2.out.at 1 rfl)
      go_wp2_with fail
      refine (HTS.out _).mono ?_
      rintro e w3 ⟨rfl, hb3⟩
      obtain ⟨b6, hb6⟩ : ∃ x, w3.heap.size = x := ⟨_, rfl⟩
      have HK3 := Lib.hid ((HK2.out.later hb3).put (.cells #[.int .i64 0, .int .i64 0, .string z] 24) hb6)
      clear hb3 HK2
      clear hb4 cB0 cB1 cB2
      obtain ⟨cB0, cB1, cB2, -, -, -⟩ := cells3 (HK3.out.at 2 rfl)
      go_wp2_with fail
      refine (HOI.out _).mono ?_
      rintro e w4 ⟨rfl, hb4⟩
      obtain ⟨b8, hb8⟩ : ∃ x, w4.heap.size = x := ⟨_, rfl⟩
      have HK4 := Lib.hid ((HK3.out.later hb4).put (.cells #[.int .i64 0, .int .i64 0, .string z] 24) hb8)
      clear hb4 HK3
      clear hb6 cB0 cB1 cB2
      obtain ⟨cB0, cB1, cB2, -, -, -⟩ := cells3 (HK4.out.at 3 rfl)
      go_wp2_with fail
      refine (HOS.out _).mono ?_
      rintro e w5 ⟨rfl, hb5⟩
      obtain ⟨b10, hb10⟩ : ∃ x, w5.heap.size = x := ⟨_, rfl⟩
      have HK5 := Lib.hid ((HK4.out.later hb5).put (.cells #[.int .i64 0, .int .i64 0, .string z] 24) hb10)
      clear hb5 HK4
      clear hb8 cB0 cB1 cB2
      obtain ⟨cb40, cb41, cb42, -, -, -⟩ := cells3 (HK5.out.at 3 rfl)
      obtain ⟨cb60, cb61, cb62, -, -, -⟩ := cells3 (HK5.out.at 2 rfl)
      obtain ⟨cb80, cb81, cb82, -, -, -⟩ := cells3 (HK5.out.at 1 rfl)
      obtain ⟨cb100, cb101, cb102, -, -, -⟩ := cells3 (HK5.out.at 0 rfl)
      go_wp2_with fail
      go_ret
      exact ⟨rfl, HK5.out.below⟩
    · have hts := fun W => turn_said E R C h1 h2 h3 h4 W
      have hti := fun W => turn_yes E R C h1 h2 h3 h4 W
      have hos := fun W => other_said E R C h1 h2 h3 h4 W
      have hoi := fun W => other_yes E R C h1 h2 h3 h4 W
      have hem := fun a b ha hb W => tp_entry E R C h1 h2 h3 h4 a b ha hb W
      have hen := fun a b ha hb W => tp_entry (fun x y => E y x) C R h3 h4 h1 h2 b a hb ha W
      have hek := fun a b ha hb W => tp_entry (fun x y => !E x y) R C h1 h2 h3 h4 a b ha hb W
      have hta := fun W => turn_yes (fun x y => E y x) C R h3 h4 h1 h2 W
      have hob := fun W => other_yes (fun x y => !E x y) R C h1 h2 h3 h4 W
      have htc := fun W => turn_yes (fun x y => !E x y) R C h1 h2 h3 h4 W
      have hod := fun W => other_yes (fun x y => E y x) C R h3 h4 h1 h2 W
      have hcm := fun W => count_yes E R C h1 h2 h3 h4 W
      have hcn := fun W => count_yes (fun x y => E y x) C R h3 h4 h1 h2 W
      have hck := fun W => count_yes (fun x y => !E x y) R C h1 h2 h3 h4 W
      rw [ones_turn] at hcn
      rw [not_not_rows] at hob
      have hsum := ones_other E R C
      have hle := ones_le E R C
      have hle2 := prod_le h2 h4
      have hmul : IntKind.i64.wrap ((R : Int) * (C : Int)) = ((R * C : Nat) : Int) := by
        have hq : ∀ q : Nat, q ≤ 64 → IntKind.i64.wrap (q : Int) = q := fun q hq => IntWalk.i64_in _ ⟨by omega, by omega⟩
        rw [← Int.natCast_mul]
        exact hq _ hle2
      generalize onesN E R C = om at *
      generalize onesN (fun x y => !E x y) R C = ok at *
      generalize R * C = rc at *
      have hadd : IntKind.i64.wrap ((ok : Int) + (om : Int)) = (rc : Int) := by rw [IntWalk.i64_in _ ⟨by omega, by omega⟩]; omega
      generalize str (rowsB E R C) = s at *
      generalize str (rowsB (fun x y => E y x) C R) = sT at *
      generalize str (rowsB (fun x y => !E x y) R C) = sO at *
      generalize str (rowsB (fun x y => !E y x) C R) = sX at *
      have HTS := Lib.hid hts
      have HTI := Lib.hid hti
      have HOS := Lib.hid hos
      have HOI := Lib.hid hoi
      have HEM := Lib.hid hem
      have HEN := Lib.hid hen
      have HEK := Lib.hid hek
      have HTA := Lib.hid hta
      have HOB := Lib.hid hob
      have HTC := Lib.hid htc
      have HOD := Lib.hid hod
      have HCM := Lib.hid hcm
      have HCN := Lib.hid hcn
      have HCK := Lib.hid hck
      have HADD := Lib.hid hadd
      have HMUL := Lib.hid hmul
      have HSUM := Lib.hid hsum
      clear hts hti hos hoi hem hen hek hta hob htc hod hcm hcn hck hadd hmul hsum
      obtain ⟨cB0, cB1, cB2, -, -, -⟩ := cells3 (HK1.out.at 0 rfl)
      go_wp2_with fail
      refine (HTI.out _).mono ?_
      rintro e w2 ⟨rfl, hb2⟩
      obtain ⟨b4, hb4⟩ : ∃ x, w2.heap.size = x := ⟨_, rfl⟩
      have HK2 := Lib.hid ((HK1.out.later hb2).put (.cells #[.int .i64 C, .int .i64 R, .string sT] 24) hb4)
      clear hb2 HK1
      clear hB cB0 cB1 cB2
      obtain ⟨cB0, cB1, cB2, -, -, -⟩ := cells3 (HK2.out.at 1 rfl)
      go_wp2_with fail
      refine (HTS.out _).mono ?_
      rintro e w3 ⟨rfl, hb3⟩
      obtain ⟨b6, hb6⟩ : ∃ x, w3.heap.size = x := ⟨_, rfl⟩
      have HK3 := Lib.hid ((HK2.out.later hb3).put (.cells #[.int .i64 C, .int .i64 R, .string sT] 24) hb6)
      clear hb3 HK2
      clear hb4 cB0 cB1 cB2
      obtain ⟨cB0, cB1, cB2, -, -, -⟩ := cells3 (HK3.out.at 2 rfl)
      go_wp2_with fail
      refine (HOI.out _).mono ?_
      rintro e w4 ⟨rfl, hb4⟩
      obtain ⟨b8, hb8⟩ : ∃ x, w4.heap.size = x := ⟨_, rfl⟩
      have HK4 := Lib.hid ((HK3.out.later hb4).put (.cells #[.int .i64 R, .int .i64 C, .string sO] 24) hb8)
      clear hb4 HK3
      clear hb6 cB0 cB1 cB2
      obtain ⟨cB0, cB1, cB2, -, -, -⟩ := cells3 (HK4.out.at 3 rfl)
      go_wp2_with fail
      refine (HOS.out _).mono ?_
      rintro e w5 ⟨rfl, hb5⟩
      obtain ⟨b10, hb10⟩ : ∃ x, w5.heap.size = x := ⟨_, rfl⟩
      have HK5 := Lib.hid ((HK4.out.later hb5).put (.cells #[.int .i64 R, .int .i64 C, .string sO] 24) hb10)
      clear hb5 HK4
      clear hb8 cB0 cB1 cB2
      obtain ⟨cb40, cb41, cb42, -, -, -⟩ := cells3 (HK5.out.at 3 rfl)
      obtain ⟨cb60, cb61, cb62, -, -, -⟩ := cells3 (HK5.out.at 2 rfl)
      obtain ⟨cb80, cb81, cb82, -, -, -⟩ := cells3 (HK5.out.at 1 rfl)
      obtain ⟨cb100, cb101, cb102, -, -, -⟩ := cells3 (HK5.out.at 0 rfl)
      go_wp2_with fail
      clear hb10 cb40 cb41 cb42 cb60 cb61 cb62 cb80 cb81 cb82 cb100 cb101 cb102
      go_loopw [12] (fun x wr => ∃ i : Nat, i ≤ R ∧ x = .int .i64 (i : Int) ∧ Hid (Kp w wr [(b10, .cells #[.int .i64 R, .int .i64 C, .string sO] 24), (b8, .cells #[.int .i64 R, .int .i64 C, .string sO] 24), (b6, .cells #[.int .i64 C, .int .i64 R, .string sT] 24), (b4, .cells #[.int .i64 C, .int .i64 R, .string sT] 24), (B, .cells #[.int .i64 R, .int .i64 C, .string s] 24)])) (fun x _ => R - (intOf x).toNat)
      case atStart => exact ⟨0, by omega, rfl, HK5⟩
      case round =>
        obtain ⟨i, hi, rfl, HR⟩ := hrel
        clear HK5
        by_cases hlt : i < R
        · obtain ⟨c0, c1, c2, -, -, -⟩ := cells3 (HR.out.at 4 rfl)
          go_wp2_with fail
          clear c0 c1 c2
          go_loopw [13] (fun y wr => ∃ k : Nat, k ≤ C ∧ y = .int .i64 (k : Int) ∧ Hid (Kp w wr [(b10, .cells #[.int .i64 R, .int .i64 C, .string sO] 24), (b8, .cells #[.int .i64 R, .int .i64 C, .string sO] 24), (b6, .cells #[.int .i64 C, .int .i64 R, .string sT] 24), (b4, .cells #[.int .i64 C, .int .i64 R, .string sT] 24), (B, .cells #[.int .i64 R, .int .i64 C, .string s] 24)])) (fun y _ => C - (intOf y).toNat)
          case atStart => exact ⟨0, by omega, rfl, HR⟩
          case round =>
            obtain ⟨k, hk, rfl, HQ⟩ := hrel
            clear HR
            by_cases hkt : k < C
            · have HE1 := Lib.hid (fun W => HEM.out i k hlt hkt W)
              have HE2 := Lib.hid (fun W => HEN.out i k hlt hkt W)
              have HE3 := Lib.hid (fun W => HEK.out i k hlt hkt W)
              try simp only at HE2
              try simp only at HE3
              generalize E i k = ev at *
              obtain ⟨c0, c1, c2, -, -, -⟩ := cells3 (HQ.out.at 4 rfl)
              go_wp2_with fail
              clear c0 c1 c2
              cases ev
              all_goals
                refine region_kept (C := fun wx => Kp w wx [(b10, .cells #[.int .i64 R, .int .i64 C, .string sO] 24), (b8, .cells #[.int .i64 R, .int .i64 C, .string sO] 24), (b6, .cells #[.int .i64 C, .int .i64 R, .string sT] 24), (b4, .cells #[.int .i64 C, .int .i64 R, .string sT] 24), (B, .cells #[.int .i64 R, .int .i64 C, .string s] 24)]) HQ.out.drew (by kernel_rfl) (by kernel_rfl) ?_
                repeat
                  (refine wpQuiet_step (fun K hK => ?_)
                   go_simp
                   first
                     | (refine hK _ ?_; clear hK K)
                     | (apply Exists.intro
                        refine ⟨fun wx hC => ?_, hK _ ?_⟩
                        · first
                          | with_reducible rfl
                          | with_reducible exact hC.call (HE1.out wx)
                          | with_reducible exact hC.call (HE2.out wx)
                          | with_reducible exact hC.call (HE3.out wx)
                          | (obtain ⟨q00, q01, q02, -, -, -⟩ := cells3 (hC.at 0 rfl); obtain ⟨q10, q11, q12, -, -, -⟩ := cells3 (hC.at 1 rfl); obtain ⟨q20, q21, q22, -, -, -⟩ := cells3 (hC.at 2 rfl); obtain ⟨q30, q31, q32, -, -, -⟩ := cells3 (hC.at 3 rfl); obtain ⟨q40, q41, q42, -, -, -⟩ := cells3 (hC.at 4 rfl); go_simp; first | done | rfl)
                        clear hK K))
                refine wpQuiet_nil ?_
                intro w20 hC
                have HRw20 : Hid (Kp w w20 [(b10, .cells #[.int .i64 R, .int .i64 C, .string sO] 24), (b8, .cells #[.int .i64 R, .int .i64 C, .string sO] 24), (b6, .cells #[.int .i64 C, .int .i64 R, .string sT] 24), (b4, .cells #[.int .i64 C, .int .i64 R, .string sT] 24), (B, .cells #[.int .i64 R, .int .i64 C, .string s] 24)]) := hC
                clear hC HQ
                go_wp2_with fail
                go_roundw
                case rel => exact ⟨k + 1, by omega, by go_num, HRw20⟩
                case measure => simp [intOf]; omega
            · obtain rfl : k = C := by omega
              obtain ⟨c0, c1, c2, -, -, -⟩ := cells3 (HQ.out.at 4 rfl)
              go_wp2_with fail
              clear c0 c1 c2
              go_roundw
              case rel => exact ⟨i + 1, by omega, by go_num, HQ⟩
              case measure => simp [intOf]; omega
        · obtain rfl : i = R := by omega
          obtain ⟨cB0, cB1, cB2, -, -, -⟩ := cells3 (HR.out.at 4 rfl)
          obtain ⟨cb40, cb41, cb42, -, -, -⟩ := cells3 (HR.out.at 3 rfl)
          go_wp2_with fail
          refine (HTA.out _).mono ?_
          rintro e w30 ⟨rfl, hb30⟩
          obtain ⟨b14, hb14⟩ : ∃ x, w30.heap.size = x := ⟨_, rfl⟩
          have HK30 := Lib.hid ((HR.out.later hb30).put (.cells #[.int .i64 i, .int .i64 C, .string s] 24) hb14)
          clear hb30 HR
          clear cB0 cB1 cB2 cb40 cb41 cb42
          obtain ⟨cb80, cb81, cb82, -, -, -⟩ := cells3 (HK30.out.at 2 rfl)
          go_wp2_with fail
          refine (HOB.out _).mono ?_
          rintro e w31 ⟨rfl, hb31⟩
          obtain ⟨b16, hb16⟩ : ∃ x, w31.heap.size = x := ⟨_, rfl⟩
          have HK31 := Lib.hid ((HK30.out.later hb31).put (.cells #[.int .i64 i, .int .i64 C, .string s] 24) hb16)
          clear hb31 HK30
          clear hb14 cb80 cb81 cb82
          obtain ⟨cb80, cb81, cb82, -, -, -⟩ := cells3 (HK31.out.at 3 rfl)
          go_wp2_with fail
          refine (HTC.out _).mono ?_
          rintro e w32 ⟨rfl, hb32⟩
          obtain ⟨b18, hb18⟩ : ∃ x, w32.heap.size = x := ⟨_, rfl⟩
          have HK32 := Lib.hid ((HK31.out.later hb32).put (.cells #[.int .i64 C, .int .i64 i, .string sX] 24) hb18)
          clear hb32 HK31
          clear hb16 cb80 cb81 cb82
          obtain ⟨cb40, cb41, cb42, -, -, -⟩ := cells3 (HK32.out.at 6 rfl)
          go_wp2_with fail
          refine (HOD.out _).mono ?_
          rintro e w33 ⟨rfl, hb33⟩
          obtain ⟨b20, hb20⟩ : ∃ x, w33.heap.size = x := ⟨_, rfl⟩
          have HK33 := Lib.hid ((HK32.out.later hb33).put (.cells #[.int .i64 C, .int .i64 i, .string sX] 24) hb20)
          clear hb33 HK32
          clear hb18 cb40 cb41 cb42
          go_wp2_with fail
          clear hb20
          have hadd := HADD.out
          have hmul := HMUL.out
          refine region_kept (C := fun wx => Kp w wx [(b20, .cells #[.int .i64 C, .int .i64 i, .string sX] 24), (b18, .cells #[.int .i64 C, .int .i64 i, .string sX] 24), (b16, .cells #[.int .i64 i, .int .i64 C, .string s] 24), (b14, .cells #[.int .i64 i, .int .i64 C, .string s] 24), (b10, .cells #[.int .i64 i, .int .i64 C, .string sO] 24), (b8, .cells #[.int .i64 i, .int .i64 C, .string sO] 24), (b6, .cells #[.int .i64 C, .int .i64 i, .string sT] 24), (b4, .cells #[.int .i64 C, .int .i64 i, .string sT] 24), (B, .cells #[.int .i64 i, .int .i64 C, .string s] 24)]) HK33.out.drew (by kernel_rfl) (by kernel_rfl) ?_
          repeat
            (refine wpQuiet_step (fun K hK => ?_)
             go_simp
             first
               | (refine hK _ ?_; clear hK K)
               | (apply Exists.intro
                  refine ⟨fun wx hC => ?_, hK _ ?_⟩
                  · first
                    | with_reducible rfl
                    | with_reducible exact hC.call (HCM.out wx)
                    | with_reducible exact hC.call (HCN.out wx)
                    | with_reducible exact hC.call (HCK.out wx)
                    | (obtain ⟨q00, q01, q02, -, -, -⟩ := cells3 (hC.at 0 rfl); obtain ⟨q10, q11, q12, -, -, -⟩ := cells3 (hC.at 1 rfl); obtain ⟨q20, q21, q22, -, -, -⟩ := cells3 (hC.at 2 rfl); obtain ⟨q30, q31, q32, -, -, -⟩ := cells3 (hC.at 3 rfl); obtain ⟨q40, q41, q42, -, -, -⟩ := cells3 (hC.at 4 rfl); obtain ⟨q50, q51, q52, -, -, -⟩ := cells3 (hC.at 5 rfl); obtain ⟨q60, q61, q62, -, -, -⟩ := cells3 (hC.at 6 rfl); obtain ⟨q70, q71, q72, -, -, -⟩ := cells3 (hC.at 7 rfl); obtain ⟨q80, q81, q82, -, -, -⟩ := cells3 (hC.at 8 rfl); go_simp; first | done | rfl)
                  clear hK K))
          refine wpQuiet_nil ?_
          intro w40 hC
          have HRw40 : Hid (Kp w w40 [(b20, .cells #[.int .i64 C, .int .i64 i, .string sX] 24), (b18, .cells #[.int .i64 C, .int .i64 i, .string sX] 24), (b16, .cells #[.int .i64 i, .int .i64 C, .string s] 24), (b14, .cells #[.int .i64 i, .int .i64 C, .string s] 24), (b10, .cells #[.int .i64 i, .int .i64 C, .string sO] 24), (b8, .cells #[.int .i64 i, .int .i64 C, .string sO] 24), (b6, .cells #[.int .i64 C, .int .i64 i, .string sT] 24), (b4, .cells #[.int .i64 C, .int .i64 i, .string sT] 24), (B, .cells #[.int .i64 i, .int .i64 C, .string s] 24)]) := hC
          clear hC HK33
          clear hadd hmul
          go_wp2_with fail
          go_ret
          exact ⟨rfl, HRw40.out.below⟩
end Go.Proofs.YtalechngagkklaaDoor.fnTurnOther
