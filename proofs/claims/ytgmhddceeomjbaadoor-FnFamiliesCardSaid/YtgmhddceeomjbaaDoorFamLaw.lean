/-
  The walk of the drawn law on EqualMatrix and GreaterMatrix.
-/
import Derived.Test.YtgmhddceeomjbaaDoorDrawEq
import Derived.Test.YtgmhddceeomjbaaDoorSets
import Derived.Test.YtgmhddceeomjbaaDoorTurnM
import Derived.Test.YtgmhddceeomjbaaDoorJoinM
import Derived.Test.YtgmhddceeomjbaaDoorKept
namespace Go.Proofs.YtgmhddceeomjbaaDoor.fnFamilies
open Go.RowKit Go.Proofs.YtgmhddceeomjbaaDoor.Plain Go.Proofs.YtgmhddceeomjbaaDoor.Base Go.Proofs.YtgmhddceeomjbaaDoor.Valid Go.Proofs.YtgmhddceeomjbaaDoor.ColF Go.Proofs.YtgmhddceeomjbaaDoor.TurnM Go.Proofs.YtgmhddceeomjbaaDoor.JoinM Go.Proofs.YtgmhddceeomjbaaDoor.Join Go.Proofs.YtgmhddceeomjbaaDoor.Ops Go.Proofs.YtgmhddceeomjbaaDoor.Rd Go.Proofs.YtgmhddceeomjbaaDoor.Kept Go.Proofs.YtgmhddceeomjbaaDoor.Clos
open Go.Proofs.YtgmhddceeomjbaaDoor.Sets (spec0 specNo0 impl0 implNo0 spec1 specNo1 impl1 implNo1)
open Go.Proofs.YtgmhddceeomjbaaDoor.Rd5 (cells3)
set_option linter.unusedVariables false

theorem ones_all : ∀ N : Fin 9, onesN (fun x y => decide (x = y)) N.val N.val = N.val ∧ onesN (fun x y => decide (y < x)) N.val N.val = N.val * (N.val - 1) / 2 := by decide +kernel
theorem all_other (N : Nat) : rowsB (fun x y => !(joinE ⟨#[111, 114]⟩ (fun x y => decide (y < x)) (fun x y => decide (x < y)) x y)) N N = rowsB (fun x y => decide (x = y)) N N := rowsB_congr fun x y _ _ => by
  show (!(opB _ (decide (y < x)) (decide (x < y)))) = _
  rw [opB_or, Bool.eq_iff_iff]
  simp
  omega
theorem same_turn (N : Nat) : rowsB (fun x y => decide (y = x)) N N = rowsB (fun x y => decide (x = y)) N N := rowsB_congr fun x y _ _ => by
  rw [Bool.eq_iff_iff]
  simp
  omega

set_option maxHeartbeats 8000000 in
set_option maxRecDepth 100000 in
theorem walk (v : Value) (n : Nat) (w : World) (h : ByteArg w v n) :
    Calls Tryd.prog 9 #[v] w fun e w' => e = .returned (.bool true) ∧ Below w.heap.size w w' := by
  obtain ⟨hn0, a, cap, rfl, hc, hb0⟩ := id h
  clear hb0
  have HD := Lib.hid (DrawEq.drawEqualMatrix_any _ n w h)
  clear h
  by_cases hbig : 1048576 < n
  · have hbi : (1048576 : Int) < (n : Int) := by omega
    go_enter Tryd.func9, Tryd.ntmps9
    go_wp2_with fail
    go_ret
    exact ⟨rfl, Below.refl _ _⟩
  · have hbi : ¬ (1048576 : Int) < (n : Int) := by omega
    go_enter Tryd.func9, Tryd.ntmps9
    go_wp2_with fail
    refine HD.out.mono ?_
    rintro e w1 ⟨x, rfl, hx1, hx2, hb⟩
    clear HD hbig hbi
    have HK1 := Lib.hid ((Kp.nil w).later hb)
    clear hb
    by_cases hx : x < 1 ∨ 8 < x
    · have HIE := Lib.hid (fun W => implNo0 x hx W)
      have HSE := Lib.hid (fun W => specNo0 x hx W)
      have HIG := Lib.hid (fun W => implNo1 x hx W)
      have HSG := Lib.hid (fun W => specNo1 x hx W)
      clear hx
      generalize str [] = z at *
      go_wp2_with fail
      refine (HIE.out _).mono ?_
      rintro e w2 ⟨rfl, hb2⟩
      obtain ⟨b4, hb4⟩ : ∃ x, w2.heap.size = x := ⟨_, rfl⟩
      have HK2 := Lib.hid ((HK1.out.later hb2).put (.cells #[.int .i64 0, .int .i64 0, .string z] 27) hb4)
      clear hb2 HK1
      go_wp2_with fail
      refine (HSE.out _).mono ?_
      rintro e w3 ⟨rfl, hb3⟩
      obtain ⟨b6, hb6⟩ : ∃ x, w3.heap.size = x := ⟨_, rfl⟩
      have HK3 := Lib.hid ((HK2.out.later hb3).put (.cells #[.int .i64 0, .int .i64 0, .string z] 27) hb6)
      clear hb3 HK2
      clear hb4
      go_wp2_with fail
      refine (HIG.out _).mono ?_
      rintro e w4 ⟨rfl, hb4⟩
      obtain ⟨b8, hb8⟩ : ∃ x, w4.heap.size = x := ⟨_, rfl⟩
      have HK4 := Lib.hid ((HK3.out.later hb4).put (.cells #[.int .i64 0, .int .i64 0, .string z] 27) hb8)
      clear hb4 HK3
      clear hb6
      go_wp2_with fail
      refine (HSG.out _).mono ?_
      rintro e w5 ⟨rfl, hb5⟩
      obtain ⟨b10, hb10⟩ : ∃ x, w5.heap.size = x := ⟨_, rfl⟩
      have HK5 := Lib.hid ((HK4.out.later hb5).put (.cells #[.int .i64 0, .int .i64 0, .string z] 27) hb10)
      clear hb5 HK4
      clear hb8
      obtain ⟨cb40, cb41, cb42, -, -, -⟩ := cells3 (HK5.out.at 3 rfl)
      obtain ⟨cb60, cb61, cb62, -, -, -⟩ := cells3 (HK5.out.at 2 rfl)
      obtain ⟨cb80, cb81, cb82, -, -, -⟩ := cells3 (HK5.out.at 1 rfl)
      obtain ⟨cb100, cb101, cb102, -, -, -⟩ := cells3 (HK5.out.at 0 rfl)
      go_wp2_with fail
      go_ret
      exact ⟨rfl, HK5.out.below⟩
    · obtain ⟨N, rfl⟩ := Int.eq_ofNat_of_zero_le (show 0 ≤ x by omega)
      have h1 : 1 ≤ N := by omega
      have h2 : N ≤ 8 := by omega
      clear hx hx1 hx2
      have hie := fun W => impl0 N h1 h2 W
      have hse := fun W => spec0 N h1 h2 W
      have hig := fun W => impl1 N h1 h2 W
      have hsg := fun W => spec1 N h1 h2 W
      have htb := fun W => turn_yes (fun x y => decide (y < x)) N N h1 h2 h1 h2 W
      have hjo := fun W => join_yes _ known_or (fun x y => decide (y < x)) (fun x y => decide (x < y)) N N h1 h2 h1 h2 W
      have hot := fun W => other_yes (joinE ⟨#[111, 114]⟩ (fun x y => decide (y < x)) (fun x y => decide (x < y))) N N h1 h2 h1 h2 W
      have hta := fun W => turn_yes (fun x y => decide (x = y)) N N h1 h2 h1 h2 W
      have hca := fun W => count_yes (fun x y => decide (x = y)) N N h1 h2 h1 h2 W
      have hcb := fun W => count_yes (fun x y => decide (y < x)) N N h1 h2 h1 h2 W
      rw [all_other] at hot
      rw [same_turn] at hta
      rw [(ones_all ⟨N, by omega⟩).1] at hca
      rw [(ones_all ⟨N, by omega⟩).2] at hcb
      try simp only at hca hcb htb
      generalize str (rowsB (fun x y => decide (x = y)) N N) = se at *
      generalize str (rowsB (fun x y => decide (y < x)) N N) = sg at *
      generalize str (rowsB (fun x y => decide (x < y)) N N) = st at *
      generalize str (rowsB (joinE ⟨#[111, 114]⟩ (fun x y => decide (y < x)) (fun x y => decide (x < y))) N N) = sj at *
      have hm : N * (N - 1) ≤ 56 := by
        have : N * (N - 1) ≤ 8 * 7 := Nat.mul_le_mul h2 (by omega)
        omega
      have hmul : IntKind.i64.wrap ((N : Int) * ((N : Int) - 1)) = ((N * (N - 1) : Nat) : Int) := by
        have e : (N : Int) * ((N : Int) - 1) = ((N * (N - 1) : Nat) : Int) := by rw [Int.natCast_mul, Int.natCast_sub h1]; rfl
        rw [e]
        exact IntWalk.i64_in _ ⟨by omega, by omega⟩
      generalize N * (N - 1) = M at *
      have hdiv : (M : Int) / 2 = ((M / 2 : Nat) : Int) := by omega
      generalize M / 2 = K at *
      have HIE := Lib.hid hie
      have HSE := Lib.hid hse
      have HIG := Lib.hid hig
      have HSG := Lib.hid hsg
      have HTB := Lib.hid htb
      have HJO := Lib.hid hjo
      have HOT := Lib.hid hot
      have HTA := Lib.hid hta
      have HCA := Lib.hid hca
      have HCB := Lib.hid hcb
      have HMUL := Lib.hid hmul
      have HDIV := Lib.hid hdiv
      clear hie hse hig hsg htb hjo hot hta hca hcb hmul hdiv
      go_wp2_with fail
      refine (HIE.out _).mono ?_
      rintro e w2 ⟨rfl, hb2⟩
      obtain ⟨b4, hb4⟩ : ∃ x, w2.heap.size = x := ⟨_, rfl⟩
      have HK2 := Lib.hid ((HK1.out.later hb2).put (.cells #[.int .i64 N, .int .i64 N, .string se] 27) hb4)
      clear hb2 HK1
      go_wp2_with fail
      refine (HSE.out _).mono ?_
      rintro e w3 ⟨rfl, hb3⟩
      obtain ⟨b6, hb6⟩ : ∃ x, w3.heap.size = x := ⟨_, rfl⟩
      have HK3 := Lib.hid ((HK2.out.later hb3).put (.cells #[.int .i64 N, .int .i64 N, .string se] 27) hb6)
      clear hb3 HK2
      clear hb4
      go_wp2_with fail
      refine (HIG.out _).mono ?_
      rintro e w4 ⟨rfl, hb4⟩
      obtain ⟨b8, hb8⟩ : ∃ x, w4.heap.size = x := ⟨_, rfl⟩
      have HK4 := Lib.hid ((HK3.out.later hb4).put (.cells #[.int .i64 N, .int .i64 N, .string sg] 27) hb8)
      clear hb4 HK3
      clear hb6
      go_wp2_with fail
      refine (HSG.out _).mono ?_
      rintro e w5 ⟨rfl, hb5⟩
      obtain ⟨b10, hb10⟩ : ∃ x, w5.heap.size = x := ⟨_, rfl⟩
      have HK5 := Lib.hid ((HK4.out.later hb5).put (.cells #[.int .i64 N, .int .i64 N, .string sg] 27) hb10)
      clear hb5 HK4
      clear hb8
      obtain ⟨cb40, cb41, cb42, -, -, -⟩ := cells3 (HK5.out.at 3 rfl)
      obtain ⟨cb60, cb61, cb62, -, -, -⟩ := cells3 (HK5.out.at 2 rfl)
      obtain ⟨cb80, cb81, cb82, -, -, -⟩ := cells3 (HK5.out.at 1 rfl)
      obtain ⟨cb100, cb101, cb102, -, -, -⟩ := cells3 (HK5.out.at 0 rfl)
      go_wp2_with fail
      refine (HTB.out _).mono ?_
      rintro e w6 ⟨rfl, hb6⟩
      obtain ⟨b12, hb12⟩ : ∃ x, w6.heap.size = x := ⟨_, rfl⟩
      have HK6 := Lib.hid ((HK5.out.later hb6).put (.cells #[.int .i64 N, .int .i64 N, .string st] 27) hb12)
      clear hb6 HK5
      clear hb10 cb40 cb41 cb42 cb60 cb61 cb62 cb80 cb81 cb82 cb100 cb101 cb102
      obtain ⟨cb80, cb81, cb82, -, -, -⟩ := cells3 (HK6.out.at 2 rfl)
      obtain ⟨cb120, cb121, cb122, -, -, -⟩ := cells3 (HK6.out.at 0 rfl)
      go_wp2_with fail
      refine (HJO.out _).mono ?_
      rintro e w7 ⟨rfl, hb7⟩
      obtain ⟨b14, hb14⟩ : ∃ x, w7.heap.size = x := ⟨_, rfl⟩
      have HK7 := Lib.hid ((HK6.out.later hb7).put (.cells #[.int .i64 N, .int .i64 N, .string sj] 27) hb14)
      clear hb7 HK6
      clear hb12 cb80 cb81 cb82 cb120 cb121 cb122
      obtain ⟨cb140, cb141, cb142, -, -, -⟩ := cells3 (HK7.out.at 0 rfl)
      go_wp2_with fail
      refine (HOT.out _).mono ?_
      rintro e w8 ⟨rfl, hb8⟩
      obtain ⟨b16, hb16⟩ : ∃ x, w8.heap.size = x := ⟨_, rfl⟩
      have HK8 := Lib.hid ((HK7.out.later hb8).put (.cells #[.int .i64 N, .int .i64 N, .string se] 27) hb16)
      clear hb8 HK7
      clear hb14 cb140 cb141 cb142
      obtain ⟨cb40, cb41, cb42, -, -, -⟩ := cells3 (HK8.out.at 6 rfl)
      go_wp2_with fail
      refine (HTA.out _).mono ?_
      rintro e w9 ⟨rfl, hb9⟩
      obtain ⟨b18, hb18⟩ : ∃ x, w9.heap.size = x := ⟨_, rfl⟩
      have HK9 := Lib.hid ((HK8.out.later hb9).put (.cells #[.int .i64 N, .int .i64 N, .string se] 27) hb18)
      clear hb9 HK8
      clear hb16 cb40 cb41 cb42
      have hmul := HMUL.out
      have hdiv := HDIV.out
      obtain ⟨cb40, cb41, cb42, -, -, -⟩ := cells3 (HK9.out.at 7 rfl)
      obtain ⟨cb160, cb161, cb162, -, -, -⟩ := cells3 (HK9.out.at 1 rfl)
      obtain ⟨cb180, cb181, cb182, -, -, -⟩ := cells3 (HK9.out.at 0 rfl)
      go_wp2_with fail
      refine (HCA.out _).mono ?_
      rintro e w10 ⟨rfl, hb10⟩
      have HK10 := Lib.hid (HK9.out.later hb10)
      clear hb10 HK9
      clear hb18 cb40 cb41 cb42 cb160 cb161 cb162 cb180 cb181 cb182
      obtain ⟨cb80, cb81, cb82, -, -, -⟩ := cells3 (HK10.out.at 5 rfl)
      go_wp2_with fail
      refine (HCB.out _).mono ?_
      rintro e w11 ⟨rfl, hb11⟩
      have HK11 := Lib.hid (HK10.out.later hb11)
      clear hb11 HK10
      clear cb80 cb81 cb82
      go_wp2_with fail
      go_ret
      exact ⟨rfl, HK11.out.below⟩
end Go.Proofs.YtgmhddceeomjbaaDoor.fnFamilies
