/-
  The walk of the drawn law on DiscrepancyOf.
-/
import Derived.Test.YtgmhddceeomjbaaGreatDoorDrawDi
import Derived.Test.YtgmhddceeomjbaaGreatDoorJ36
import Derived.Test.YtgmhddceeomjbaaGreatDoorJ30
import Derived.Test.YtgmhddceeomjbaaGreatDoorJ5
namespace Go.Proofs.YtgmhddceeomjbaaGreatDoor.fnDiscrepancy
open Go.RowKit Go.Proofs.YtgmhddceeomjbaaGreatDoor.Plain Go.Proofs.YtgmhddceeomjbaaGreatDoor.Base Go.Proofs.YtgmhddceeomjbaaGreatDoor.Valid Go.Proofs.YtgmhddceeomjbaaGreatDoor.Pat Go.Proofs.YtgmhddceeomjbaaGreatDoor.Rect Go.Proofs.YtgmhddceeomjbaaGreatDoor.Bal Go.Proofs.YtgmhddceeomjbaaGreatDoor.Entry Go.Proofs.YtgmhddceeomjbaaGreatDoor.ColF Go.Proofs.YtgmhddceeomjbaaGreatDoor.TurnM Go.Proofs.YtgmhddceeomjbaaGreatDoor.DiscT Go.Proofs.YtgmhddceeomjbaaGreatDoor.DiscF Go.Proofs.YtgmhddceeomjbaaGreatDoor.MaxC Go.Proofs.YtgmhddceeomjbaaGreatDoor.Rd Go.Proofs.YtgmhddceeomjbaaGreatDoor.Kept
open Go.Proofs.YtgmhddceeomjbaaGreatDoor.Largest (impl_ar)
open Go.Proofs.YtgmhddceeomjbaaGreatDoor.Free (fill wp_value wp_enter wp_load_row freeB wp_region_one get_of)
open Go.Proofs.YtgmhddceeomjbaaGreatDoor.Rects (rinfo2)
open Go.Proofs.YtgmhddceeomjbaaGreatDoor.Rd4 (cells2)
open Go.Proofs.YtgmhddceeomjbaaGreatDoor.Rd5 (cells3)
set_option linter.unusedVariables false

/-- a number of a rectangle's side -/
theorem side_in (x : Int) (hx : 0 ≤ x) (M : Nat) (h2 : 2 ≤ M) (h8 : M ≤ 256) : ∃ S : Nat, 1 + x.tmod ((M : Int) - 1) = (S : Int) ∧ 1 ≤ S ∧ S < M := by
  have e : x.tmod ((M : Int) - 1) = x % ((M : Int) - 1) := Int.tmod_eq_emod_of_nonneg hx
  have h0 := Int.emod_nonneg x (b := (M : Int) - 1) (by omega)
  have h1 := Int.emod_lt_of_pos x (b := (M : Int) - 1) (by omega)
  rw [e]
  exact ⟨(1 + x % ((M : Int) - 1)).toNat, by omega, by omega, by omega⟩

set_option maxHeartbeats 8000000 in
set_option maxRecDepth 100000 in
theorem walk (v : Value) (n : Nat) (v2 : Value) (n2 : Nat) (w : World) (h : ByteArg w v n) (h2 : ByteArg w v2 n2) :
    Calls Tryz.prog 5 #[v, v2] w fun e w' => e = .returned (.bool true) ∧ Below w.heap.size w w' := by
  obtain ⟨hn0, a, cap, rfl, hc, hb0⟩ := id h
  obtain ⟨hm0, a2, cap2, rfl, hc2, hb2⟩ := id h2
  clear hb0 hb2 h2
  have HD := Lib.hid (DrawDi.draw_any _ n w h)
  clear h
  by_cases hbig : 1048576 < n
  · have hbi : (1048576 : Int) < (n : Int) := by omega
    go_enter Tryz.func5, Tryz.ntmps5
    go_wp2_with fail
    go_ret
    exact ⟨rfl, Below.refl _ _⟩
  by_cases hbig2 : 1048576 < n2
  · have hbi : ¬ (1048576 : Int) < (n : Int) := by omega
    have hbi2 : (1048576 : Int) < (n2 : Int) := by omega
    go_enter Tryz.func5, Tryz.ntmps5
    go_wp2_with fail
    go_ret
    exact ⟨rfl, Below.refl _ _⟩
  · have hbi : ¬ (1048576 : Int) < (n : Int) := by omega
    have hbi2 : ¬ (1048576 : Int) < (n2 : Int) := by omega
    go_enter Tryz.func5, Tryz.ntmps5
    go_wp2_with fail
    refine HD.out.mono ?_
    rintro e w1 ⟨a, b, t, rfl, -, -, ht, hb⟩
    clear HD hbig hbi hbi2
    obtain ⟨B, hB⟩ : ∃ B, w1.heap.size = B := ⟨_, rfl⟩
    have HK1 := Lib.hid ((Kp.nil w).later hb |>.put (.cells #[.int .i64 a, .int .i64 b, .string t] 27) hB)
    clear hb
    have hts : t.size ≤ maxLen := by unfold maxLen; omega
    by_cases hv : validB a b t = true
    · obtain ⟨R, C, E, rfl, rfl, h1, h2, h3, h4, rfl⟩ := valid_form hv
      have hdi := fun W => disc_impl E R C h1 h2 h3 h4 W
      have hds := fun W => disc_spec E R C h1 h2 h3 h4 W
      have hbal := fun RS CS k1 k2 k3 k4 k5 k6 => bal_impl E R C h1 h2 h3 h4 RS CS k1 k2 k3 k4 k5 k6
      have hbup := fun RS CS k1 k2 => disc_up E R C RS CS k1 k2
      have hl := fun b W => large_impl E R C h1 h2 h3 h4 b W
      have hba := fun b => best_area E b R C h1 h2 h3 h4
      have htu := fun W => turn_yes E R C h1 h2 h3 h4 W
      have hot := fun W => other_yes E R C h1 h2 h3 h4 W
      have hdt := fun W => disc_impl (fun x y => E y x) C R h3 h4 h1 h2 W
      have hdo := fun W => disc_impl (fun x y => !E x y) R C h1 h2 h3 h4 W
      rw [disc_turn E R C h1 h2 h3 h4] at hdt
      rw [disc_not] at hdo
      have hd0 := disc_pos E R C h1 h2 h4
      have hda := disc_all E R C
      have hd64 := disc_le64 E R C h2 h4
      have hrc := prod_le h2 h4
      have hmul : IntKind.i64.wrap ((R : Int) * (C : Int)) = ((R * C : Nat) : Int) := by
        have hq : ∀ q : Nat, q ≤ 64 → IntKind.i64.wrap (q : Int) = q := fun q hq => IntWalk.i64_in _ ⟨by omega, by omega⟩
        rw [← Int.natCast_mul]
        exact hq _ hrc
      have hpR : 2 ≤ 2 ^ R := by
        have := Nat.pow_le_pow_right (n := 2) (by decide) h1
        omega
      have hpC : 2 ≤ 2 ^ C := by
        have := Nat.pow_le_pow_right (n := 2) (by decide) h3
        omega
      have hqR : 2 ^ R ≤ 256 := Nat.pow_le_pow_right (n := 2) (by decide) h2
      have hqC : 2 ^ C ≤ 256 := Nat.pow_le_pow_right (n := 2) (by decide) h4
      have hwR : IntKind.i64.wrap (2 ^ R) = ((2 ^ R : Nat) : Int) := by rw [show ((2 : Int) ^ R) = ((2 ^ R : Nat) : Int) by simp]; exact IntWalk.i64_in _ ⟨by omega, by omega⟩
      have hwC : IntKind.i64.wrap (2 ^ C) = ((2 ^ C : Nat) : Int) := by rw [show ((2 : Int) ^ C) = ((2 ^ C : Nat) : Int) by simp]; exact IntWalk.i64_in _ ⟨by omega, by omega⟩
      have hwu : IntKind.u64.wrap (R : Int) = (R : Int) := by rw [IntKind.wrap_u64]; omega
      have hwv : IntKind.u64.wrap (C : Int) = (C : Int) := by rw [IntKind.wrap_u64]; omega
      generalize 2 ^ R = MR at *
      generalize 2 ^ C = MC at *
      generalize disc E R C = dv at *
      generalize R * C = rc at *
      generalize str (rowsB E R C) = s at *
      generalize str (rowsB (fun x y => E y x) C R) = sT at *
      generalize str (rowsB (fun x y => !E x y) R C) = sO at *
      have HDI := Lib.hid hdi
      have HDS := Lib.hid hds
      have HBAL := Lib.hid hbal
      have HBUP := Lib.hid hbup
      have HL := Lib.hid hl
      have HBA := Lib.hid hba
      have HTU := Lib.hid htu
      have HOT := Lib.hid hot
      have HDT := Lib.hid hdt
      have HDO := Lib.hid hdo
      have HMUL := Lib.hid hmul
      have HWR := Lib.hid hwR
      have HWC := Lib.hid hwC
      have HWU := Lib.hid (And.intro hwu hwv)
      clear hdi hds hbal hbup hl hba htu hot hdt hdo hmul hwR hwC hwu hwv hv ht hts
      obtain ⟨cB0, cB1, cB2, -, -, -⟩ := cells3 (HK1.out.at 0 rfl)
      go_wp2_with fail
      refine (HDI.out _).mono ?_
      rintro e w2 ⟨rfl, hb2⟩
      have HK2 := Lib.hid (HK1.out.later hb2)
      clear hb2 HK1
      clear hB cB0 cB1 cB2
      obtain ⟨cB0, cB1, cB2, -, -, -⟩ := cells3 (HK2.out.at 0 rfl)
      go_wp2_with fail
      refine (HDS.out _).mono ?_
      rintro e w3 ⟨rfl, hb3⟩
      have HK3 := Lib.hid (HK2.out.later hb3)
      clear hb3 HK2
      clear cB0 cB1 cB2
      go_wp2_with fail
      go_loopw [8] (fun x wr => ∃ k : Nat, k ≤ 40 ∧ x = .int .i64 (k : Int) ∧ Hid (Kp w wr [(B, .cells #[.int .i64 R, .int .i64 C, .string s] 27)])) (fun x _ => 40 - (intOf x).toNat)
      case atStart => exact ⟨0, by omega, rfl, HK3⟩
      case round =>
        obtain ⟨k, hk, rfl, HQ⟩ := hrel
        clear HK3
        by_cases hlt : k < 40
        · obtain ⟨RS, hx1, r1, r2⟩ := side_in ((k : Int) * 37 + (n2 : Int) * 11) (by omega) MR hpR hqR
          obtain ⟨CS, hy1, q1, q2⟩ := side_in ((k : Int) * 53 + (n2 : Int)) (by omega) MC hpC hqC
          have HB1 := Lib.hid (fun W => HBAL.out RS CS r1 r2 q1 q2 (by omega) (by omega) W)
          obtain ⟨u1, u2⟩ := HBUP.out RS CS r1 r2
          have hbl := u1
          generalize bal E RS CS R C = bl at HB1 u1 u2 hbl
          have g1 : ¬ dv < bl := by omega
          have g2 : ¬ dv < -bl := by omega
          have w37 : IntKind.i64.wrap ((k : Int) * 37) = (k : Int) * 37 := IntWalk.i64_in _ ⟨by omega, by omega⟩
          have w11 : IntKind.i64.wrap ((n2 : Int) * 11) = (n2 : Int) * 11 := IntWalk.i64_in _ ⟨by omega, by omega⟩
          have ws : IntKind.i64.wrap ((k : Int) * 37 + (n2 : Int) * 11) = (k : Int) * 37 + (n2 : Int) * 11 := IntWalk.i64_in _ ⟨by omega, by omega⟩
          have w53 : IntKind.i64.wrap ((k : Int) * 53) = (k : Int) * 53 := IntWalk.i64_in _ ⟨by omega, by omega⟩
          have wt : IntKind.i64.wrap ((k : Int) * 53 + (n2 : Int)) = (k : Int) * 53 + (n2 : Int) := IntWalk.i64_in _ ⟨by omega, by omega⟩
          have wz1 : IntKind.i64.wrap ((MR : Int) - 1) = (MR : Int) - 1 := IntWalk.i64_in _ ⟨by omega, by omega⟩
          have wz2 : IntKind.i64.wrap ((MC : Int) - 1) = (MC : Int) - 1 := IntWalk.i64_in _ ⟨by omega, by omega⟩
          have nz1 : ¬ (MR : Int) - 1 = 0 := by omega
          have nz2 : ¬ (MC : Int) - 1 = 0 := by omega
          have wRS : IntKind.i64.wrap (RS : Int) = (RS : Int) := IntWalk.i64_in _ ⟨by omega, by omega⟩
          have wCS : IntKind.i64.wrap (CS : Int) = (CS : Int) := IntWalk.i64_in _ ⟨by omega, by omega⟩
          have wRS2 : IntKind.i64.wrap (1 + ((k : Int) * 37 + (n2 : Int) * 11).tmod ((MR : Int) - 1)) = (RS : Int) := by rw [hx1]; exact wRS
          have wCS2 : IntKind.i64.wrap (1 + ((k : Int) * 53 + (n2 : Int)).tmod ((MC : Int) - 1)) = (CS : Int) := by rw [hy1]; exact wCS
          have hwR := HWR.out
          obtain ⟨hwu, hwv⟩ := HWU.out
          have hwC := HWC.out
          go_wp2_with fail
          refine wp_region_one (fun | 0 => .int .i64 (k : Int) | 1 => .int .i64 ((k : Int) * 37) | 2 => .slice a2 n2 cap2 | 3 => .int .i64 (n2 : Int) | 4 => .int .i64 ((n2 : Int) * 11) | 5 => .int .i64 ((k : Int) * 37 + (n2 : Int) * 11) | 6 => .pointer (some ⟨B, 0, none⟩) | 7 => .int .i64 (R : Int) | 8 => .int .u64 (R : Int) | 9 => .int .i64 (MR : Int) | 10 => .int .i64 ((MR : Int) - 1) | 11 => .int .i64 (((k : Int) * 37 + (n2 : Int) * 11).tmod ((MR : Int) - 1)) | 12 => .int .i64 (RS : Int) | 13 => .int .i64 (k : Int) | 14 => .int .i64 ((k : Int) * 53) | 15 => .slice a2 n2 cap2 | 16 => .int .i64 (n2 : Int) | 17 => .int .i64 ((k : Int) * 53 + (n2 : Int)) | 18 => .pointer (some ⟨B, 1, none⟩) | 19 => .int .i64 (C : Int) | 20 => .int .u64 (C : Int) | 21 => .int .i64 (MC : Int) | 22 => .int .i64 ((MC : Int) - 1) | 23 => .int .i64 (((k : Int) * 53 + (n2 : Int)).tmod ((MC : Int) - 1)) | 24 => .int .i64 (CS : Int) | 25 => .agg #[.int .i64 (RS : Int), .int .i64 (CS : Int)] | _ => undef) 26 27 9 34 #[.int .i64 0, .int .i64 0] #[.int .i64 (RS : Int), .int .i64 (CS : Int)] _ _
            (by kernel_rfl) (by kernel_rfl) rfl rfl rfl rfl rfl (by decide) ⟨_, List.mem_toArray.2 List.mem_cons_self, rfl, rfl⟩ rfl ?al ?st ?con ?en
          case al =>
            intro a' wx
            unfold execOp
            go_simp
          case st =>
            intro a' wx b old hf hp hg hsz
            refine wp_store_row 34 (.tmp 9) (.tmp 79) rfl b #[.int .i64 (RS : Int), .int .i64 (CS : Int)] hp ?_ 34 old hg rinfo2 hsz (by simp [Value.oneCell']) ⟨rfl, rfl⟩
            exact hf.1 ⟨25, .data⟩ (by simp) rfl _ 79 rfl rfl (by decide) (by decide)
          case con =>
            intro i o ho n1 n2' a' wx hbx hf
            match i, ho with
            | 0, ho =>
              obtain rfl := Option.some.inj ho
              have b8 : a'.tmps[8]?.getD undef = .int .i64 (k : Int) := get_of (hf.2 8 (by kernel_rfl))
              exact wp_value (.int .i64 (k : Int)) (by unfold execOp; go_simp) ⟨rfl, Below.refl _ _⟩
            | 1, ho =>
              obtain rfl := Option.some.inj ho
              have e0 : a'.tmps[54]?.getD undef = .int .i64 (k : Int) := get_of (hf.1 ⟨0, .data⟩ (by simp) rfl _ 54 rfl rfl (by decide) (by decide))
              exact wp_value (.int .i64 ((k : Int) * 37)) (by unfold execOp; go_simp) ⟨rfl, Below.refl _ _⟩
            | 2, ho =>
              obtain rfl := Option.some.inj ho
              have b1 : a'.tmps[1]?.getD undef = .slice a2 n2 cap2 := get_of (hf.2 1 (by kernel_rfl))
              exact wp_value (.slice a2 n2 cap2) (by unfold execOp; go_simp) ⟨rfl, Below.refl _ _⟩
            | 3, ho =>
              obtain rfl := Option.some.inj ho
              have e2 : a'.tmps[56]?.getD undef = .slice a2 n2 cap2 := get_of (hf.1 ⟨2, .data⟩ (by simp) rfl _ 56 rfl rfl (by decide) (by decide))
              exact wp_value (.int .i64 (n2 : Int)) (by unfold execOp; go_simp) ⟨rfl, Below.refl _ _⟩
            | 4, ho =>
              obtain rfl := Option.some.inj ho
              have e3 : a'.tmps[57]?.getD undef = .int .i64 (n2 : Int) := get_of (hf.1 ⟨3, .data⟩ (by simp) rfl _ 57 rfl rfl (by decide) (by decide))
              exact wp_value (.int .i64 ((n2 : Int) * 11)) (by unfold execOp; go_simp) ⟨rfl, Below.refl _ _⟩
            | 5, ho =>
              obtain rfl := Option.some.inj ho
              have e1 : a'.tmps[55]?.getD undef = .int .i64 ((k : Int) * 37) := get_of (hf.1 ⟨1, .data⟩ (by simp) rfl _ 55 rfl rfl (by decide) (by decide))
              have e4 : a'.tmps[58]?.getD undef = .int .i64 ((n2 : Int) * 11) := get_of (hf.1 ⟨4, .data⟩ (by simp) rfl _ 58 rfl rfl (by decide) (by decide))
              exact wp_value (.int .i64 ((k : Int) * 37 + (n2 : Int) * 11)) (by unfold execOp; go_simp) ⟨rfl, Below.refl _ _⟩
            | 6, ho =>
              obtain rfl := Option.some.inj ho
              have b5 : a'.tmps[5]?.getD undef = .pointer (some ⟨B, 0, none⟩) := get_of (hf.2 5 (by kernel_rfl))
              exact wp_value (.pointer (some ⟨B, 0, none⟩)) (by unfold execOp; go_simp) ⟨rfl, Below.refl _ _⟩
            | 7, ho =>
              obtain rfl := Option.some.inj ho
              have e6 : a'.tmps[60]?.getD undef = .pointer (some ⟨B, 0, none⟩) := get_of (hf.1 ⟨6, .data⟩ (by simp) rfl _ 60 rfl rfl (by decide) (by decide))
              obtain ⟨o0, o1, o2, -, -, -⟩ := cells3 ((HQ.out.later hbx).at 0 rfl)
              exact wp_value (.int .i64 (R : Int)) (by unfold execOp; go_simp) ⟨rfl, Below.refl _ _⟩
            | 8, ho =>
              obtain rfl := Option.some.inj ho
              have e7 : a'.tmps[61]?.getD undef = .int .i64 (R : Int) := get_of (hf.1 ⟨7, .data⟩ (by simp) rfl _ 61 rfl rfl (by decide) (by decide))
              exact wp_value (.int .u64 (R : Int)) (by unfold execOp; go_simp) ⟨rfl, Below.refl _ _⟩
            | 9, ho =>
              obtain rfl := Option.some.inj ho
              have e8 : a'.tmps[62]?.getD undef = .int .u64 (R : Int) := get_of (hf.1 ⟨8, .data⟩ (by simp) rfl _ 62 rfl rfl (by decide) (by decide))
              exact wp_value (.int .i64 (MR : Int)) (by unfold execOp; go_simp) ⟨rfl, Below.refl _ _⟩
            | 10, ho =>
              obtain rfl := Option.some.inj ho
              have e9 : a'.tmps[63]?.getD undef = .int .i64 (MR : Int) := get_of (hf.1 ⟨9, .data⟩ (by simp) rfl _ 63 rfl rfl (by decide) (by decide))
              exact wp_value (.int .i64 ((MR : Int) - 1)) (by unfold execOp; go_simp) ⟨rfl, Below.refl _ _⟩
            | 11, ho =>
              obtain rfl := Option.some.inj ho
              have e5 : a'.tmps[59]?.getD undef = .int .i64 ((k : Int) * 37 + (n2 : Int) * 11) := get_of (hf.1 ⟨5, .data⟩ (by simp) rfl _ 59 rfl rfl (by decide) (by decide))
              have e10 : a'.tmps[64]?.getD undef = .int .i64 ((MR : Int) - 1) := get_of (hf.1 ⟨10, .data⟩ (by simp) rfl _ 64 rfl rfl (by decide) (by decide))
              exact wp_value (.int .i64 (((k : Int) * 37 + (n2 : Int) * 11).tmod ((MR : Int) - 1))) (by unfold execOp; go_simp) ⟨rfl, Below.refl _ _⟩
            | 12, ho =>
              obtain rfl := Option.some.inj ho
              have e11 : a'.tmps[65]?.getD undef = .int .i64 (((k : Int) * 37 + (n2 : Int) * 11).tmod ((MR : Int) - 1)) := get_of (hf.1 ⟨11, .data⟩ (by simp) rfl _ 65 rfl rfl (by decide) (by decide))
              exact wp_value (.int .i64 (RS : Int)) (by unfold execOp; go_simp) ⟨rfl, Below.refl _ _⟩
            | 13, ho =>
              obtain rfl := Option.some.inj ho
              have b8 : a'.tmps[8]?.getD undef = .int .i64 (k : Int) := get_of (hf.2 8 (by kernel_rfl))
              exact wp_value (.int .i64 (k : Int)) (by unfold execOp; go_simp) ⟨rfl, Below.refl _ _⟩
            | 14, ho =>
              obtain rfl := Option.some.inj ho
              have e13 : a'.tmps[67]?.getD undef = .int .i64 (k : Int) := get_of (hf.1 ⟨13, .data⟩ (by simp) rfl _ 67 rfl rfl (by decide) (by decide))
              exact wp_value (.int .i64 ((k : Int) * 53)) (by unfold execOp; go_simp) ⟨rfl, Below.refl _ _⟩
            | 15, ho =>
              obtain rfl := Option.some.inj ho
              have b1 : a'.tmps[1]?.getD undef = .slice a2 n2 cap2 := get_of (hf.2 1 (by kernel_rfl))
              exact wp_value (.slice a2 n2 cap2) (by unfold execOp; go_simp) ⟨rfl, Below.refl _ _⟩
            | 16, ho =>
              obtain rfl := Option.some.inj ho
              have e15 : a'.tmps[69]?.getD undef = .slice a2 n2 cap2 := get_of (hf.1 ⟨15, .data⟩ (by simp) rfl _ 69 rfl rfl (by decide) (by decide))
              exact wp_value (.int .i64 (n2 : Int)) (by unfold execOp; go_simp) ⟨rfl, Below.refl _ _⟩
            | 17, ho =>
              obtain rfl := Option.some.inj ho
              have e14 : a'.tmps[68]?.getD undef = .int .i64 ((k : Int) * 53) := get_of (hf.1 ⟨14, .data⟩ (by simp) rfl _ 68 rfl rfl (by decide) (by decide))
              have e16 : a'.tmps[70]?.getD undef = .int .i64 (n2 : Int) := get_of (hf.1 ⟨16, .data⟩ (by simp) rfl _ 70 rfl rfl (by decide) (by decide))
              exact wp_value (.int .i64 ((k : Int) * 53 + (n2 : Int))) (by unfold execOp; go_simp) ⟨rfl, Below.refl _ _⟩
            | 18, ho =>
              obtain rfl := Option.some.inj ho
              have b5 : a'.tmps[5]?.getD undef = .pointer (some ⟨B, 0, none⟩) := get_of (hf.2 5 (by kernel_rfl))
              exact wp_value (.pointer (some ⟨B, 1, none⟩)) (by unfold execOp; go_simp) ⟨rfl, Below.refl _ _⟩
            | 19, ho =>
              obtain rfl := Option.some.inj ho
              have e18 : a'.tmps[72]?.getD undef = .pointer (some ⟨B, 1, none⟩) := get_of (hf.1 ⟨18, .data⟩ (by simp) rfl _ 72 rfl rfl (by decide) (by decide))
              obtain ⟨o0, o1, o2, -, -, -⟩ := cells3 ((HQ.out.later hbx).at 0 rfl)
              exact wp_value (.int .i64 (C : Int)) (by unfold execOp; go_simp) ⟨rfl, Below.refl _ _⟩
            | 20, ho =>
              obtain rfl := Option.some.inj ho
              have e19 : a'.tmps[73]?.getD undef = .int .i64 (C : Int) := get_of (hf.1 ⟨19, .data⟩ (by simp) rfl _ 73 rfl rfl (by decide) (by decide))
              exact wp_value (.int .u64 (C : Int)) (by unfold execOp; go_simp) ⟨rfl, Below.refl _ _⟩
            | 21, ho =>
              obtain rfl := Option.some.inj ho
              have e20 : a'.tmps[74]?.getD undef = .int .u64 (C : Int) := get_of (hf.1 ⟨20, .data⟩ (by simp) rfl _ 74 rfl rfl (by decide) (by decide))
              exact wp_value (.int .i64 (MC : Int)) (by unfold execOp; go_simp) ⟨rfl, Below.refl _ _⟩
            | 22, ho =>
              obtain rfl := Option.some.inj ho
              have e21 : a'.tmps[75]?.getD undef = .int .i64 (MC : Int) := get_of (hf.1 ⟨21, .data⟩ (by simp) rfl _ 75 rfl rfl (by decide) (by decide))
              exact wp_value (.int .i64 ((MC : Int) - 1)) (by unfold execOp; go_simp) ⟨rfl, Below.refl _ _⟩
            | 23, ho =>
              obtain rfl := Option.some.inj ho
              have e17 : a'.tmps[71]?.getD undef = .int .i64 ((k : Int) * 53 + (n2 : Int)) := get_of (hf.1 ⟨17, .data⟩ (by simp) rfl _ 71 rfl rfl (by decide) (by decide))
              have e22 : a'.tmps[76]?.getD undef = .int .i64 ((MC : Int) - 1) := get_of (hf.1 ⟨22, .data⟩ (by simp) rfl _ 76 rfl rfl (by decide) (by decide))
              exact wp_value (.int .i64 (((k : Int) * 53 + (n2 : Int)).tmod ((MC : Int) - 1))) (by unfold execOp; go_simp) ⟨rfl, Below.refl _ _⟩
            | 24, ho =>
              obtain rfl := Option.some.inj ho
              have e23 : a'.tmps[77]?.getD undef = .int .i64 (((k : Int) * 53 + (n2 : Int)).tmod ((MC : Int) - 1)) := get_of (hf.1 ⟨23, .data⟩ (by simp) rfl _ 77 rfl rfl (by decide) (by decide))
              exact wp_value (.int .i64 (CS : Int)) (by unfold execOp; go_simp) ⟨rfl, Below.refl _ _⟩
            | 25, ho =>
              obtain rfl := Option.some.inj ho
              have e12 : a'.tmps[66]?.getD undef = .int .i64 (RS : Int) := get_of (hf.1 ⟨12, .data⟩ (by simp) rfl _ 66 rfl rfl (by decide) (by decide))
              have e24 : a'.tmps[78]?.getD undef = .int .i64 (CS : Int) := get_of (hf.1 ⟨24, .data⟩ (by simp) rfl _ 78 rfl rfl (by decide) (by decide))
              exact wp_value (.agg #[.int .i64 (RS : Int), .int .i64 (CS : Int)]) (by unfold execOp; go_simp) ⟨rfl, Below.refl _ _⟩
            | 26, ho => exact absurd rfl n1
            | 27, ho => exact absurd rfl n2'
            | q + 28, ho => simp at ho
          case en =>
            intro bq wx hbx hbq hblk
            have HK2 : Hid (Kp w wx [(bq, .cells #[.int .i64 (RS : Int), .int .i64 (CS : Int)] 34 (0, 0)), (B, .cells #[.int .i64 (R : Int), .int .i64 (C : Int), .string s] 27 (0, 0))]) := by
              have hk := HQ.out.later hbx
              refine ⟨fun p hp => ?_, hk.below⟩
              rcases List.mem_cons.1 hp with rfl | hp
              · exact hblk
              · exact hk.all p hp
            clear hbx hbq hblk HQ
            clear hx1 hy1 w37 w11 ws w53 wt wz1 wz2 nz1 nz2 wRS wCS wRS2 wCS2 hwR hwC hwu hwv
            simp only [fill, Act.put]
            go_simp
            obtain ⟨cbq0, cbq1, -, -⟩ := cells2 (HK2.out.at 0 rfl)
            obtain ⟨cB0, cB1, cB2, -, -, -⟩ := cells3 (HK2.out.at 1 rfl)
            go_wp2_with fail
            refine (HB1.out _).mono ?_
            rintro e w20 ⟨rfl, hb20⟩
            have HK20 := Lib.hid (HK2.out.later hb20)
            clear hb20 HK2
            clear cbq0 cbq1 cB0 cB1 cB2
            go_wp2_with fail
            go_roundw
            case rel => exact ⟨k + 1, by omega, by go_num, Lib.hid (HK20.out.sub fun p hp => List.mem_cons_of_mem _ hp)⟩
            case measure => simp [intOf]; omega
        · go_wp2_with fail
          go_loopw [7, 12] (fun mo x wr => ∃ (j : Nat) (mv : Int), j ≤ 2 ∧ mo = .int .i64 mv ∧ 0 ≤ mv ∧ mv ≤ dv ∧ x = .int .i64 (j : Int) ∧ Hid (Kp w wr [(B, .cells #[.int .i64 R, .int .i64 C, .string s] 27)])) (fun _ x _ => 2 - (intOf x).toNat)
          case atStart => exact ⟨0, 0, by omega, rfl, by omega, hd0, rfl, HQ⟩
          case round =>
            obtain ⟨j, mv, hj, rfl, hmv0, hmv1, rfl, HR⟩ := hrel
            clear HQ
            by_cases hjt : j < 2
            · obtain ⟨b, hb⟩ : ∃ b : Bool, (j : Int) = bitI b := by
                rcases (show j = 0 ∨ j = 1 by omega) with rfl | rfl
                · exact ⟨false, rfl⟩
                · exact ⟨true, rfl⟩
              have hlb : ∀ W, Calls Tryz.prog 25 #[mat R C s, .int .i64 (j : Int)] W _ := fun W => by rw [hb]; exact HL.out b W
              have hba := HBA.out b
              have har := fun W => impl_ar (best E R C b) W
              generalize ar (best E R C b) = av at hba har
              generalize best E R C b = bp at hlb har
              obtain ⟨bx, byy⟩ := bp
              generalize has E R C b = hs at hlb hba
              have HLB := Lib.hid hlb
              have HAR := Lib.hid har
              clear hlb har hb
              cases hs
              · obtain ⟨cB0, cB1, cB2, -, -, -⟩ := cells3 (HR.out.at 0 rfl)
                go_wp2_with fail
                refine (HLB.out _).mono ?_
                rintro e w30 ⟨rfl, hb30⟩
                obtain ⟨b13, hb13⟩ : ∃ x, w30.heap.size = x := ⟨_, rfl⟩
                have HK30 := Lib.hid ((HR.out.later hb30).put (.cells #[.int .i64 bx, .int .i64 byy] 34) hb13)
                clear hb30 HR
                clear cB0 cB1 cB2
                clear hba
                go_wp2_with fail
                clear hb13
                go_roundw
                case rel => exact ⟨j + 1, mv, by omega, rfl, by omega, by omega, by go_num, Lib.hid (HK30.out.sub fun p hp => List.mem_cons_of_mem _ hp)⟩
                case measure => simp [intOf]; omega
              · obtain ⟨cB0, cB1, cB2, -, -, -⟩ := cells3 (HR.out.at 0 rfl)
                go_wp2_with fail
                refine (HLB.out _).mono ?_
                rintro e w30 ⟨rfl, hb30⟩
                obtain ⟨b13, hb13⟩ : ∃ x, w30.heap.size = x := ⟨_, rfl⟩
                have HK30 := Lib.hid ((HR.out.later hb30).put (.cells #[.int .i64 bx, .int .i64 byy] 34) hb13)
                clear hb30 HR
                clear cB0 cB1 cB2
                obtain ⟨a0, a1⟩ := hba (by trivial)
                obtain ⟨cb130, cb131, -, -⟩ := cells2 (HK30.out.at 0 rfl)
                go_wp2_with fail
                refine (HAR.out _).mono ?_
                rintro e w31 ⟨rfl, hb31⟩
                have HK31 := Lib.hid (HK30.out.later hb31)
                clear hb31 HK30
                clear hb13 cb130 cb131
                go_wp2_with fail
                all_goals
                  go_roundw
                  case rel => exact ⟨j + 1, _, by omega, rfl, by omega, by omega, by go_num, Lib.hid (HK31.out.sub fun p hp => List.mem_cons_of_mem _ hp)⟩
                  case measure => simp [intOf]; omega
            · obtain rfl : j = 2 := by omega
              obtain ⟨cB0, cB1, cB2, -, -, -⟩ := cells3 (HR.out.at 0 rfl)
              go_wp2_with fail
              refine (HTU.out _).mono ?_
              rintro e w40 ⟨rfl, hb40⟩
              obtain ⟨b15, hb15⟩ : ∃ x, w40.heap.size = x := ⟨_, rfl⟩
              have HK40 := Lib.hid ((HR.out.later hb40).put (.cells #[.int .i64 C, .int .i64 R, .string sT] 27) hb15)
              clear hb40 HR
              clear cB0 cB1 cB2
              obtain ⟨cB0, cB1, cB2, -, -, -⟩ := cells3 (HK40.out.at 1 rfl)
              go_wp2_with fail
              refine (HOT.out _).mono ?_
              rintro e w41 ⟨rfl, hb41⟩
              obtain ⟨b17, hb17⟩ : ∃ x, w41.heap.size = x := ⟨_, rfl⟩
              have HK41 := Lib.hid ((HK40.out.later hb41).put (.cells #[.int .i64 R, .int .i64 C, .string sO] 27) hb17)
              clear hb41 HK40
              clear hb15 cB0 cB1 cB2
              have hmul := HMUL.out
              obtain ⟨cB0, cB1, cB2, -, -, -⟩ := cells3 (HK41.out.at 2 rfl)
              obtain ⟨cb150, cb151, cb152, -, -, -⟩ := cells3 (HK41.out.at 1 rfl)
              go_wp2_with fail
              refine (HDT.out _).mono ?_
              rintro e w42 ⟨rfl, hb42⟩
              have HK42 := Lib.hid (HK41.out.later hb42)
              clear hb42 HK41
              clear hb17 cB0 cB1 cB2 cb150 cb151 cb152
              obtain ⟨cb170, cb171, cb172, -, -, -⟩ := cells3 (HK42.out.at 0 rfl)
              go_wp2_with fail
              refine (HDO.out _).mono ?_
              rintro e w43 ⟨rfl, hb43⟩
              have HK43 := Lib.hid (HK42.out.later hb43)
              clear hb43 HK42
              clear cb170 cb171 cb172
              go_wp2_with fail
              go_ret
              exact ⟨rfl, HK43.out.below⟩
    · have hv' : validB a b t = false := by simpa using hv
      obtain ⟨hds, hdi⟩ := disc_no a b t hts hv'
      have hiv := fun W => Go.Proofs.YtgmhddceeomjbaaGreatDoor.Valid.impl_valid a b t hts W
      rw [hv'] at hiv
      have HDI := Lib.hid hdi
      have HDS := Lib.hid hds
      have HIV := Lib.hid hiv
      clear hdi hds hiv hv hv' hts
      obtain ⟨cB0, cB1, cB2, -, -, -⟩ := cells3 (HK1.out.at 0 rfl)
      go_wp2_with fail
      refine (HDI.out _).mono ?_
      rintro e w2 ⟨rfl, hb2⟩
      have HK2 := Lib.hid (HK1.out.later hb2)
      clear hb2 HK1
      clear hB cB0 cB1 cB2
      obtain ⟨cB0, cB1, cB2, -, -, -⟩ := cells3 (HK2.out.at 0 rfl)
      go_wp2_with fail
      refine (HDS.out _).mono ?_
      rintro e w3 ⟨rfl, hb3⟩
      have HK3 := Lib.hid (HK2.out.later hb3)
      clear hb3 HK2
      clear cB0 cB1 cB2
      obtain ⟨cB0, cB1, cB2, -, -, -⟩ := cells3 (HK3.out.at 0 rfl)
      go_wp2_with fail
      refine (HDS.out _).mono ?_
      rintro e w4 ⟨rfl, hb4⟩
      have HK4 := Lib.hid (HK3.out.later hb4)
      clear hb4 HK3
      clear cB0 cB1 cB2
      obtain ⟨cB0, cB1, cB2, -, -, -⟩ := cells3 (HK4.out.at 0 rfl)
      go_wp2_with fail
      refine (HIV.out _).mono ?_
      rintro e w5 ⟨rfl, hb5⟩
      have HK5 := Lib.hid (HK4.out.later hb5)
      clear hb5 HK4
      clear cB0 cB1 cB2
      go_wp2_with fail
      go_ret
      exact ⟨rfl, HK5.out.below⟩
end Go.Proofs.YtgmhddceeomjbaaGreatDoor.fnDiscrepancy
