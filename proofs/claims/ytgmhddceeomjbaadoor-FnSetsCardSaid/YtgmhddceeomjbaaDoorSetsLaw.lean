/-
  The walk of the drawn law on DisjointMatrix, InnerMatrix and IndexMatrix.
-/
import Derived.Test.YtgmhddceeomjbaaDoorDrawEq
import Derived.Test.YtgmhddceeomjbaaDoorSets
import Derived.Test.YtgmhddceeomjbaaDoorPairB
import Derived.Test.YtgmhddceeomjbaaDoorKept
namespace Go.Proofs.YtgmhddceeomjbaaDoor.fnSets
open Go.RowKit Go.Proofs.YtgmhddceeomjbaaDoor.Plain Go.Proofs.YtgmhddceeomjbaaDoor.Base Go.Proofs.YtgmhddceeomjbaaDoor.Valid Go.Proofs.YtgmhddceeomjbaaDoor.ColF Go.Proofs.YtgmhddceeomjbaaDoor.JoinM Go.Proofs.YtgmhddceeomjbaaDoor.Ops Go.Proofs.YtgmhddceeomjbaaDoor.PairB Go.Proofs.YtgmhddceeomjbaaDoor.Rd Go.Proofs.YtgmhddceeomjbaaDoor.Kept
open Go.Proofs.YtgmhddceeomjbaaDoor.Sets (spec2 specNo2 impl2 implNo2 spec3 specNo3 impl3 implNo3 spec4 specNo4 impl4 implNo4)
open Go.Proofs.YtgmhddceeomjbaaDoor.PairI (pairE)
open Go.Proofs.YtgmhddceeomjbaaDoor.Rd5 (cells3)
set_option linter.unusedVariables false

theorem known_xor : opKnown ⟨#[120, 111, 114]⟩ = true := by unfold opKnown; rw [ByteArray.toList_eq]; rfl
theorem opB_xor (a b : Bool) : opB ⟨#[120, 111, 114]⟩ a b = !(a == b) := by unfold opB; rw [ByteArray.toList_eq]; rfl
/-- how many of the first k things are in both sets -/
def bothN (x y : Nat) : Nat → Nat
  | 0 => 0
  | k + 1 => bothN x y k + (decide ((x >>> k) % 2 = 1) && decide ((y >>> k) % 2 = 1)).toNat
theorem bothN_le (x y : Nat) : ∀ k, bothN x y k ≤ k
  | 0 => Nat.le_refl _
  | k + 1 => by
    have := bothN_le x y k
    rw [bothN]
    cases (decide ((x >>> k) % 2 = 1) && decide ((y >>> k) % 2 = 1)) <;> simp <;> omega
theorem sets_facts : ∀ n : Fin 4, ∀ x y : Fin 8, x.val < 2 ^ n.val → y.val < 2 ^ n.val → decide (bothN x.val y.val n.val = 0) = decide (x.val &&& y.val = 0) ∧ decide (bothN x.val y.val n.val % 2 = 1) = decide (ones (x.val &&& y.val) % 2 = 1) := by decide +kernel
theorem pair_facts : ∀ n : Fin 4, 1 ≤ n.val → ∀ x y : Fin 8, x.val < 2 ^ n.val → y.val < 2 ^ n.val →
    (decide (x.val / 2 ^ (n.val - 1) &&& y.val / 2 ^ (n.val - 1) = 0) && decide (x.val % 2 ^ (n.val - 1) &&& y.val % 2 ^ (n.val - 1) = 0)) = decide (x.val &&& y.val = 0) ∧
    (!(decide (ones (x.val / 2 ^ (n.val - 1) &&& y.val / 2 ^ (n.val - 1)) % 2 = 1) == decide (ones (x.val % 2 ^ (n.val - 1) &&& y.val % 2 ^ (n.val - 1)) % 2 = 1))) = decide (ones (x.val &&& y.val) % 2 = 1) := by decide +kernel
theorem pow_le8 (N : Nat) (h : N ≤ 3) : 2 ^ N ≤ 8 := Nat.pow_le_pow_right (n := 2) (by decide) h
theorem and_rows (N : Nat) (h1 : 1 ≤ N) (h3 : N ≤ 3) : rowsB (pairE ⟨#[97, 110, 100]⟩ (fun x y => decide (x &&& y = 0)) (fun x y => decide (x &&& y = 0)) (2 ^ (N - 1)) (2 ^ (N - 1))) (2 ^ N) (2 ^ N) = rowsB (fun x y => decide (x &&& y = 0)) (2 ^ N) (2 ^ N) := rowsB_congr fun x y hx hy => by
  have h8 := pow_le8 N h3
  show opB _ (decide (_ = _)) (decide (_ = _)) = _
  rw [opB_and]
  exact (pair_facts ⟨N, by omega⟩ h1 ⟨x, by omega⟩ ⟨y, by omega⟩ hx hy).1
theorem xor_rows (N : Nat) (h1 : 1 ≤ N) (h3 : N ≤ 3) : rowsB (pairE ⟨#[120, 111, 114]⟩ (fun x y => decide (ones (x &&& y) % 2 = 1)) (fun x y => decide (ones (x &&& y) % 2 = 1)) (2 ^ (N - 1)) (2 ^ (N - 1))) (2 ^ N) (2 ^ N) = rowsB (fun x y => decide (ones (x &&& y) % 2 = 1)) (2 ^ N) (2 ^ N) := rowsB_congr fun x y hx hy => by
  have h8 := pow_le8 N h3
  show opB _ (decide (_ = _)) (decide (_ = _)) = _
  rw [opB_xor]
  exact (pair_facts ⟨N, by omega⟩ h1 ⟨x, by omega⟩ ⟨y, by omega⟩ hx hy).2

set_option maxHeartbeats 8000000 in
set_option maxRecDepth 100000 in
theorem walk (v : Value) (n : Nat) (w : World) (h : ByteArg w v n) :
    Calls Tryd.prog 10 #[v] w fun e w' => e = .returned (.bool true) ∧ Below w.heap.size w w' := by
  obtain ⟨hn0, a, cap, rfl, hc, hb0⟩ := id h
  clear hb0
  have HD := Lib.hid (DrawEq.drawDisjointMatrix_any _ n w h)
  clear h
  by_cases hbig : 1048576 < n
  · have hbi : (1048576 : Int) < (n : Int) := by omega
    go_enter Tryd.func10, Tryd.ntmps10
    go_wp2_with fail
    go_ret
    exact ⟨rfl, Below.refl _ _⟩
  · have hbi : ¬ (1048576 : Int) < (n : Int) := by omega
    go_enter Tryd.func10, Tryd.ntmps10
    go_wp2_with fail
    refine HD.out.mono ?_
    rintro e w1 ⟨x, rfl, hx1, hx2, hb⟩
    clear HD hbig hbi
    have HK1 := Lib.hid ((Kp.nil w).later hb)
    clear hb
    by_cases hx : x < 0 ∨ 3 < x
    · have H1 := Lib.hid (fun W => implNo2 x hx W)
      have H2 := Lib.hid (fun W => specNo2 x hx W)
      have H3 := Lib.hid (fun W => implNo3 x hx W)
      have H4 := Lib.hid (fun W => specNo3 x hx W)
      have H5 := Lib.hid (fun W => implNo4 x (by omega) W)
      have H6 := Lib.hid (fun W => specNo4 x (by omega) W)
      clear hx
      generalize str [] = z at *
      go_wp2_with fail
      refine (H1.out _).mono ?_
      rintro e w2 ⟨rfl, hb2⟩
      obtain ⟨b4, hb4⟩ : ∃ x, w2.heap.size = x := ⟨_, rfl⟩
      have HK2 := Lib.hid ((HK1.out.later hb2).put (.cells #[.int .i64 0, .int .i64 0, .string z] 27) hb4)
      clear hb2 HK1
      go_wp2_with fail
      refine (H2.out _).mono ?_
      rintro e w3 ⟨rfl, hb3⟩
      obtain ⟨b6, hb6⟩ : ∃ x, w3.heap.size = x := ⟨_, rfl⟩
      have HK3 := Lib.hid ((HK2.out.later hb3).put (.cells #[.int .i64 0, .int .i64 0, .string z] 27) hb6)
      clear hb3 HK2
      clear hb4
      go_wp2_with fail
      refine (H3.out _).mono ?_
      rintro e w4 ⟨rfl, hb4⟩
      obtain ⟨b8, hb8⟩ : ∃ x, w4.heap.size = x := ⟨_, rfl⟩
      have HK4 := Lib.hid ((HK3.out.later hb4).put (.cells #[.int .i64 0, .int .i64 0, .string z] 27) hb8)
      clear hb4 HK3
      clear hb6
      go_wp2_with fail
      refine (H4.out _).mono ?_
      rintro e w5 ⟨rfl, hb5⟩
      obtain ⟨b10, hb10⟩ : ∃ x, w5.heap.size = x := ⟨_, rfl⟩
      have HK5 := Lib.hid ((HK4.out.later hb5).put (.cells #[.int .i64 0, .int .i64 0, .string z] 27) hb10)
      clear hb5 HK4
      clear hb8
      go_wp2_with fail
      refine (H5.out _).mono ?_
      rintro e w6 ⟨rfl, hb6⟩
      obtain ⟨b12, hb12⟩ : ∃ x, w6.heap.size = x := ⟨_, rfl⟩
      have HK6 := Lib.hid ((HK5.out.later hb6).put (.cells #[.int .i64 0, .int .i64 0, .string z] 27) hb12)
      clear hb6 HK5
      clear hb10
      go_wp2_with fail
      refine (H6.out _).mono ?_
      rintro e w7 ⟨rfl, hb7⟩
      obtain ⟨b14, hb14⟩ : ∃ x, w7.heap.size = x := ⟨_, rfl⟩
      have HK7 := Lib.hid ((HK6.out.later hb7).put (.cells #[.int .i64 0, .int .i64 0, .string z] 27) hb14)
      clear hb7 HK6
      clear hb12
      obtain ⟨cb40, cb41, cb42, -, -, -⟩ := cells3 (HK7.out.at 5 rfl)
      obtain ⟨cb60, cb61, cb62, -, -, -⟩ := cells3 (HK7.out.at 4 rfl)
      obtain ⟨cb80, cb81, cb82, -, -, -⟩ := cells3 (HK7.out.at 3 rfl)
      obtain ⟨cb100, cb101, cb102, -, -, -⟩ := cells3 (HK7.out.at 2 rfl)
      obtain ⟨cb120, cb121, cb122, -, -, -⟩ := cells3 (HK7.out.at 1 rfl)
      obtain ⟨cb140, cb141, cb142, -, -, -⟩ := cells3 (HK7.out.at 0 rfl)
      go_wp2_with fail
      go_ret
      exact ⟨rfl, HK7.out.below⟩
    · obtain ⟨N, rfl⟩ := Int.eq_ofNat_of_zero_le (show 0 ≤ x by omega)
      have h3 : N ≤ 3 := by omega
      clear hx hx1 hx2
      have h8 := pow_le8 N h3
      have hp := Nat.one_le_two_pow (n := N)
      have H1' := fun W => impl2 N h3 W
      have H2' := fun W => spec2 N h3 W
      have H3' := fun W => impl3 N h3 W
      have H4' := fun W => spec3 N h3 W
      by_cases h1 : 1 ≤ N
      · have H5' := fun W => impl4 N h1 h3 W
        have H6' := fun W => spec4 N h1 h3 W
        have hed := fun a b ha hb W => tp_entry (fun x y => decide (x &&& y = 0)) (2 ^ N) (2 ^ N) hp h8 hp h8 a b ha hb W
        have hei := fun a b ha hb W => tp_entry (fun x y => decide (ones (x &&& y) % 2 = 1)) (2 ^ N) (2 ^ N) hp h8 hp h8 a b ha hb W
        have hex := fun a b ha hb W => tp_entry (fun x y => decide ((x >>> y) % 2 = 1)) (2 ^ N) N hp h8 h1 (by omega) a b ha hb W
        have e1 : (N : Int) - 1 = ((N - 1 : Nat) : Int) := by omega
        have hdh : ∀ W, Calls Tryd.prog 48 #[.int .i64 ((N : Int) - 1)] W _ := fun W => by rw [e1]; exact impl2 (N - 1) (by omega) W
        have hih : ∀ W, Calls Tryd.prog 50 #[.int .i64 ((N : Int) - 1)] W _ := fun W => by rw [e1]; exact impl3 (N - 1) (by omega) W
        have hd1 := fun W => impl2 1 (by omega) W
        have hi1 := fun W => impl3 1 (by omega) W
        have hh8 := pow_le8 (N - 1) (by omega)
        have hh1 := Nat.one_le_two_pow (n := N - 1)
        have hPP : 2 ^ N = 2 ^ 1 * 2 ^ (N - 1) := by rw [← Nat.pow_add]; congr 1; omega
        have hpa := fun W => pair_yes _ known_and (fun x y => decide (x &&& y = 0)) (fun x y => decide (x &&& y = 0)) (2 ^ 1) (2 ^ 1) (2 ^ (N - 1)) (2 ^ (N - 1)) (2 ^ N) (2 ^ N) (by decide) (by decide) (by decide) (by decide) hh1 hh8 hh1 hh8 hPP hPP hp h8 hp h8 W
        have hpx := fun W => pair_yes _ known_xor (fun x y => decide (ones (x &&& y) % 2 = 1)) (fun x y => decide (ones (x &&& y) % 2 = 1)) (2 ^ 1) (2 ^ 1) (2 ^ (N - 1)) (2 ^ (N - 1)) (2 ^ N) (2 ^ N) (by decide) (by decide) (by decide) (by decide) hh1 hh8 hh1 hh8 hPP hPP hp h8 hp h8 W
        rw [and_rows N h1 h3] at hpa
        rw [xor_rows N h1 h3] at hpx
        have hfa : ∀ x y, x < 2 ^ N → y < 2 ^ N → decide (bothN x y N = 0) = decide (x &&& y = 0) ∧ decide (bothN x y N % 2 = 1) = decide (ones (x &&& y) % 2 = 1) := fun x y hx hy => sets_facts ⟨N, by omega⟩ ⟨x, by omega⟩ ⟨y, by omega⟩ hx hy
        clear hPP e1
        generalize str (rowsB (fun x y => decide (x &&& y = 0)) (2 ^ N) (2 ^ N)) = sd at *
        generalize str (rowsB (fun x y => decide (ones (x &&& y) % 2 = 1)) (2 ^ N) (2 ^ N)) = si at *
        generalize str (rowsB (fun x y => decide ((x >>> y) % 2 = 1)) (2 ^ N) N) = sx at *
        generalize str (rowsB (fun x y => decide (x &&& y = 0)) (2 ^ (N - 1)) (2 ^ (N - 1))) = sdh at *
        generalize str (rowsB (fun x y => decide (ones (x &&& y) % 2 = 1)) (2 ^ (N - 1)) (2 ^ (N - 1))) = sih at *
        generalize str (rowsB (fun x y => decide (x &&& y = 0)) (2 ^ 1) (2 ^ 1)) = sd1 at *
        generalize str (rowsB (fun x y => decide (ones (x &&& y) % 2 = 1)) (2 ^ 1) (2 ^ 1)) = si1 at *
        generalize 2 ^ N = Z at *
        generalize 2 ^ (N - 1) = Y at *
        generalize 2 ^ 1 = T at *
        have H1 := Lib.hid H1'
        have H2 := Lib.hid H2'
        have H3 := Lib.hid H3'
        have H4 := Lib.hid H4'
        have H5 := Lib.hid H5'
        have H6 := Lib.hid H6'
        have HED := Lib.hid hed
        have HEI := Lib.hid hei
        have HEX := Lib.hid hex
        have HDH := Lib.hid hdh
        have HIH := Lib.hid hih
        have HD1 := Lib.hid hd1
        have HI1 := Lib.hid hi1
        have HPA := Lib.hid hpa
        have HPX := Lib.hid hpx
        have HFA := Lib.hid hfa
        clear H1' H2' H3' H4' H5' H6' hed hei hex hdh hih hd1 hi1 hpa hpx hfa
        go_wp2_with fail
        refine (H1.out _).mono ?_
        rintro e w2 ⟨rfl, hb2⟩
        obtain ⟨b4, hb4⟩ : ∃ x, w2.heap.size = x := ⟨_, rfl⟩
        have HK2 := Lib.hid ((HK1.out.later hb2).put (.cells #[.int .i64 Z, .int .i64 Z, .string sd] 27) hb4)
        clear hb2 HK1
        go_wp2_with fail
        refine (H2.out _).mono ?_
        rintro e w3 ⟨rfl, hb3⟩
        obtain ⟨b6, hb6⟩ : ∃ x, w3.heap.size = x := ⟨_, rfl⟩
        have HK3 := Lib.hid ((HK2.out.later hb3).put (.cells #[.int .i64 Z, .int .i64 Z, .string sd] 27) hb6)
        clear hb3 HK2
        clear hb4
        go_wp2_with fail
        refine (H3.out _).mono ?_
        rintro e w4 ⟨rfl, hb4⟩
        obtain ⟨b8, hb8⟩ : ∃ x, w4.heap.size = x := ⟨_, rfl⟩
        have HK4 := Lib.hid ((HK3.out.later hb4).put (.cells #[.int .i64 Z, .int .i64 Z, .string si] 27) hb8)
        clear hb4 HK3
        clear hb6
        go_wp2_with fail
        refine (H4.out _).mono ?_
        rintro e w5 ⟨rfl, hb5⟩
        obtain ⟨b10, hb10⟩ : ∃ x, w5.heap.size = x := ⟨_, rfl⟩
        have HK5 := Lib.hid ((HK4.out.later hb5).put (.cells #[.int .i64 Z, .int .i64 Z, .string si] 27) hb10)
        clear hb5 HK4
        clear hb8
        go_wp2_with fail
        refine (H5.out _).mono ?_
        rintro e w6 ⟨rfl, hb6⟩
        obtain ⟨b12, hb12⟩ : ∃ x, w6.heap.size = x := ⟨_, rfl⟩
        have HK6 := Lib.hid ((HK5.out.later hb6).put (.cells #[.int .i64 Z, .int .i64 N, .string sx] 27) hb12)
        clear hb6 HK5
        clear hb10
        go_wp2_with fail
        refine (H6.out _).mono ?_
        rintro e w7 ⟨rfl, hb7⟩
        obtain ⟨b14, hb14⟩ : ∃ x, w7.heap.size = x := ⟨_, rfl⟩
        have HK7 := Lib.hid ((HK6.out.later hb7).put (.cells #[.int .i64 Z, .int .i64 N, .string sx] 27) hb14)
        clear hb7 HK6
        clear hb12
        obtain ⟨cb40, cb41, cb42, -, -, -⟩ := cells3 (HK7.out.at 5 rfl)
        obtain ⟨cb60, cb61, cb62, -, -, -⟩ := cells3 (HK7.out.at 4 rfl)
        obtain ⟨cb80, cb81, cb82, -, -, -⟩ := cells3 (HK7.out.at 3 rfl)
        obtain ⟨cb100, cb101, cb102, -, -, -⟩ := cells3 (HK7.out.at 2 rfl)
        obtain ⟨cb120, cb121, cb122, -, -, -⟩ := cells3 (HK7.out.at 1 rfl)
        obtain ⟨cb140, cb141, cb142, -, -, -⟩ := cells3 (HK7.out.at 0 rfl)
        go_wp2_with fail
        clear hb14 cb40 cb41 cb42 cb60 cb61 cb62 cb80 cb81 cb82 cb100 cb101 cb102 cb120 cb121 cb122 cb140 cb141 cb142
        go_loopw [16] (fun x wr => ∃ i : Nat, i ≤ Z ∧ x = .int .i64 (i : Int) ∧ Hid (Kp w wr [(b14, .cells #[.int .i64 Z, .int .i64 N, .string sx] 27), (b12, .cells #[.int .i64 Z, .int .i64 N, .string sx] 27), (b10, .cells #[.int .i64 Z, .int .i64 Z, .string si] 27), (b8, .cells #[.int .i64 Z, .int .i64 Z, .string si] 27), (b6, .cells #[.int .i64 Z, .int .i64 Z, .string sd] 27), (b4, .cells #[.int .i64 Z, .int .i64 Z, .string sd] 27)])) (fun x _ => Z - (intOf x).toNat)
        case atStart => exact ⟨0, by omega, rfl, HK7⟩
        case round =>
          obtain ⟨i, hi, rfl, HR⟩ := hrel
          clear HK7
          obtain ⟨c0, c1, c2, -, -, -⟩ := cells3 (HR.out.at 5 rfl)
          by_cases hlt : i < Z
          · go_wp2_with fail
            clear c0 c1 c2
            go_loopw [17] (fun y wr => ∃ k : Nat, k ≤ Z ∧ y = .int .i64 (k : Int) ∧ Hid (Kp w wr [(b14, .cells #[.int .i64 Z, .int .i64 N, .string sx] 27), (b12, .cells #[.int .i64 Z, .int .i64 N, .string sx] 27), (b10, .cells #[.int .i64 Z, .int .i64 Z, .string si] 27), (b8, .cells #[.int .i64 Z, .int .i64 Z, .string si] 27), (b6, .cells #[.int .i64 Z, .int .i64 Z, .string sd] 27), (b4, .cells #[.int .i64 Z, .int .i64 Z, .string sd] 27)])) (fun y _ => Z - (intOf y).toNat)
            case atStart => exact ⟨0, by omega, rfl, HR⟩
            case round =>
              obtain ⟨k, hk, rfl, HQ⟩ := hrel
              clear HR
              obtain ⟨c0, c1, c2, -, -, -⟩ := cells3 (HQ.out.at 5 rfl)
              by_cases hkt : k < Z
              · go_wp2_with fail
                clear c0 c1 c2
                go_loopw [18, 19] (fun t j wr => ∃ m : Nat, m ≤ N ∧ t = .int .i64 ((bothN i k m : Nat) : Int) ∧ j = .int .i64 (m : Int) ∧ Hid (Kp w wr [(b14, .cells #[.int .i64 Z, .int .i64 N, .string sx] 27), (b12, .cells #[.int .i64 Z, .int .i64 N, .string sx] 27), (b10, .cells #[.int .i64 Z, .int .i64 Z, .string si] 27), (b8, .cells #[.int .i64 Z, .int .i64 Z, .string si] 27), (b6, .cells #[.int .i64 Z, .int .i64 Z, .string sd] 27), (b4, .cells #[.int .i64 Z, .int .i64 Z, .string sd] 27)])) (fun _ j _ => N - (intOf j).toNat)
                case atStart => exact ⟨0, by omega, rfl, rfl, HQ⟩
                case round =>
                  obtain ⟨m, hm, rfl, rfl, HP⟩ := hrel
                  clear HQ
                  have hbl := bothN_le i k m
                  by_cases hmt : m < N
                  · have hnx : bothN i k (m + 1) = bothN i k m + (decide ((i >>> m) % 2 = 1) && decide ((k >>> m) % 2 = 1)).toNat := rfl
                    have hx1 := fun W => HEX.out i m hlt hmt W
                    have hx2 := fun W => HEX.out k m hkt hmt W
                    try simp only at hx1 hx2
                    generalize decide ((i >>> m) % 2 = 1) = p1 at *
                    generalize decide ((k >>> m) % 2 = 1) = p2 at *
                    have HX1 := Lib.hid hx1
                    have HX2 := Lib.hid hx2
                    have HNX := Lib.hid hnx
                    clear hx1 hx2 hnx
                    generalize bothN i k m = bt at *
                    obtain ⟨d0, d1, d2, -, -, -⟩ := cells3 (HP.out.at 1 rfl)
                    cases p1
                    · go_wp2_with fail
                      clear d0 d1 d2
                      refine (HX1.out _).mono ?_
                      rintro e w30 ⟨rfl, hb30⟩
                      have HP2 := Lib.hid (HP.out.later hb30)
                      clear hb30 HP
                      go_wp2_with fail
                      go_roundw
                      case rel => exact ⟨m + 1, by omega, by rw [HNX.out]; simp, by go_num, HP2⟩
                      case measure => simp [intOf]; omega
                    · go_wp2_with fail
                      clear d0 d1 d2
                      refine (HX1.out _).mono ?_
                      rintro e w30 ⟨rfl, hb30⟩
                      have HP2 := Lib.hid (HP.out.later hb30)
                      clear hb30 HP
                      obtain ⟨d0, d1, d2, -, -, -⟩ := cells3 (HP2.out.at 1 rfl)
                      go_wp2_with fail
                      clear d0 d1 d2
                      refine (HX2.out _).mono ?_
                      rintro e w31 ⟨rfl, hb31⟩
                      have HP3 := Lib.hid (HP2.out.later hb31)
                      clear hb31 HP2
                      cases p2
                      all_goals
                        go_wp2_with fail
                        go_roundw
                        case rel => exact ⟨m + 1, by omega, by rw [HNX.out]; simp, by go_num, HP3⟩
                        case measure => simp [intOf]; omega
                  · obtain rfl : m = N := by omega
                    obtain ⟨f1, f2⟩ := HFA.out i k hlt hkt
                    have hx1 := fun W => HED.out i k hlt hkt W
                    have hx2 := fun W => HEI.out i k hlt hkt W
                    try simp only at hx1 hx2
                    rw [← f1] at hx1
                    rw [← f2] at hx2
                    generalize bothN i k m = bt at *
                    have g0 : ((bt : Int) == 0) = decide (bt = 0) := by rw [Bool.eq_iff_iff]; simp
                    have g1 : ((bt : Int) % 2 == 1) = decide (bt % 2 = 1) := by rw [Bool.eq_iff_iff]; simp; omega
                    clear f1 f2
                    generalize decide (bt = 0) = ev at *
                    generalize decide (bt % 2 = 1) = ov at *
                    have HX1 := Lib.hid hx1
                    have HX2 := Lib.hid hx2
                    clear hx1 hx2
                    obtain ⟨d0, d1, d2, -, -, -⟩ := cells3 (HP.out.at 5 rfl)
                    go_wp2_with fail
                    clear d0 d1 d2
                    refine (HX1.out _).mono ?_
                    rintro e w30 ⟨rfl, hb30⟩
                    have HP2 := Lib.hid (HP.out.later hb30)
                    clear hb30 HP
                    obtain ⟨d0, d1, d2, -, -, -⟩ := cells3 (HP2.out.at 3 rfl)
                    cases ev
                    all_goals
                      go_wp2_with fail
                      refine (HX2.out _).mono ?_
                      rintro e w31 ⟨rfl, hb31⟩
                      have HP3 := Lib.hid (HP2.out.later hb31)
                      clear hb31 HP2 d0 d1 d2
                      cases ov
                      all_goals
                        go_wp2_with fail
                        go_roundw
                        case rel => exact ⟨k + 1, by omega, by go_num, HP3⟩
                        case measure => simp [intOf]; omega
              · obtain rfl : k = Z := by omega
                go_wp2_with fail
                go_roundw
                case rel => exact ⟨i + 1, by omega, by go_num, HQ⟩
                case measure => simp [intOf]; omega
          · obtain rfl : i = Z := by omega
            go_wp2_with fail
            clear c0 c1 c2
            refine (HDH.out _).mono ?_
            rintro e w40 ⟨rfl, hb40⟩
            obtain ⟨b20, hb20⟩ : ∃ x, w40.heap.size = x := ⟨_, rfl⟩
            have HK40 := Lib.hid ((HR.out.later hb40).put (.cells #[.int .i64 Y, .int .i64 Y, .string sdh] 27) hb20)
            clear hb40 HR
            go_wp2_with fail
            refine (HD1.out _).mono ?_
            rintro e w41 ⟨rfl, hb41⟩
            obtain ⟨b22, hb22⟩ : ∃ x, w41.heap.size = x := ⟨_, rfl⟩
            have HK41 := Lib.hid ((HK40.out.later hb41).put (.cells #[.int .i64 T, .int .i64 T, .string sd1] 27) hb22)
            clear hb41 HK40
            clear hb20
            obtain ⟨cb200, cb201, cb202, -, -, -⟩ := cells3 (HK41.out.at 1 rfl)
            obtain ⟨cb220, cb221, cb222, -, -, -⟩ := cells3 (HK41.out.at 0 rfl)
            go_wp2_with fail
            refine (HPA.out _).mono ?_
            rintro e w42 ⟨rfl, hb42⟩
            obtain ⟨b24, hb24⟩ : ∃ x, w42.heap.size = x := ⟨_, rfl⟩
            have HK42 := Lib.hid ((HK41.out.later hb42).put (.cells #[.int .i64 i, .int .i64 i, .string sd] 27) hb24)
            clear hb42 HK41
            clear hb22 cb200 cb201 cb202 cb220 cb221 cb222
            go_wp2_with fail
            refine (HIH.out _).mono ?_
            rintro e w43 ⟨rfl, hb43⟩
            obtain ⟨b26, hb26⟩ : ∃ x, w43.heap.size = x := ⟨_, rfl⟩
            have HK43 := Lib.hid ((HK42.out.later hb43).put (.cells #[.int .i64 Y, .int .i64 Y, .string sih] 27) hb26)
            clear hb43 HK42
            clear hb24
            go_wp2_with fail
            refine (HI1.out _).mono ?_
            rintro e w44 ⟨rfl, hb44⟩
            obtain ⟨b28, hb28⟩ : ∃ x, w44.heap.size = x := ⟨_, rfl⟩
            have HK44 := Lib.hid ((HK43.out.later hb44).put (.cells #[.int .i64 T, .int .i64 T, .string si1] 27) hb28)
            clear hb44 HK43
            clear hb26
            obtain ⟨cb260, cb261, cb262, -, -, -⟩ := cells3 (HK44.out.at 1 rfl)
            obtain ⟨cb280, cb281, cb282, -, -, -⟩ := cells3 (HK44.out.at 0 rfl)
            go_wp2_with fail
            refine (HPX.out _).mono ?_
            rintro e w45 ⟨rfl, hb45⟩
            obtain ⟨b30, hb30⟩ : ∃ x, w45.heap.size = x := ⟨_, rfl⟩
            have HK45 := Lib.hid ((HK44.out.later hb45).put (.cells #[.int .i64 i, .int .i64 i, .string si] 27) hb30)
            clear hb45 HK44
            clear hb28 cb260 cb261 cb262 cb280 cb281 cb282
            obtain ⟨cb240, cb241, cb242, -, -, -⟩ := cells3 (HK45.out.at 3 rfl)
            obtain ⟨cb40, cb41, cb42, -, -, -⟩ := cells3 (HK45.out.at 11 rfl)
            obtain ⟨cb300, cb301, cb302, -, -, -⟩ := cells3 (HK45.out.at 0 rfl)
            obtain ⟨cb80, cb81, cb82, -, -, -⟩ := cells3 (HK45.out.at 9 rfl)
            go_wp2_with fail
            go_ret
            exact ⟨rfl, HK45.out.below⟩
      · obtain rfl : N = 0 := by omega
        have H5 := Lib.hid (fun W => implNo4 ((0 : Nat) : Int) (by omega) W)
        have H6 := Lib.hid (fun W => specNo4 ((0 : Nat) : Int) (by omega) W)
        generalize str (rowsB (fun x y => decide (x &&& y = 0)) (2 ^ 0) (2 ^ 0)) = sd at *
        generalize str (rowsB (fun x y => decide (ones (x &&& y) % 2 = 1)) (2 ^ 0) (2 ^ 0)) = si at *
        generalize str [] = z at *
        clear h8 hp
        generalize 2 ^ 0 = Z at *
        have H1 := Lib.hid H1'
        have H2 := Lib.hid H2'
        have H3 := Lib.hid H3'
        have H4 := Lib.hid H4'
        clear H1' H2' H3' H4'
        go_wp2_with fail
        refine (H1.out _).mono ?_
        rintro e w2 ⟨rfl, hb2⟩
        obtain ⟨b4, hb4⟩ : ∃ x, w2.heap.size = x := ⟨_, rfl⟩
        have HK2 := Lib.hid ((HK1.out.later hb2).put (.cells #[.int .i64 Z, .int .i64 Z, .string sd] 27) hb4)
        clear hb2 HK1
        go_wp2_with fail
        refine (H2.out _).mono ?_
        rintro e w3 ⟨rfl, hb3⟩
        obtain ⟨b6, hb6⟩ : ∃ x, w3.heap.size = x := ⟨_, rfl⟩
        have HK3 := Lib.hid ((HK2.out.later hb3).put (.cells #[.int .i64 Z, .int .i64 Z, .string sd] 27) hb6)
        clear hb3 HK2
        clear hb4
        go_wp2_with fail
        refine (H3.out _).mono ?_
        rintro e w4 ⟨rfl, hb4⟩
        obtain ⟨b8, hb8⟩ : ∃ x, w4.heap.size = x := ⟨_, rfl⟩
        have HK4 := Lib.hid ((HK3.out.later hb4).put (.cells #[.int .i64 Z, .int .i64 Z, .string si] 27) hb8)
        clear hb4 HK3
        clear hb6
        go_wp2_with fail
        refine (H4.out _).mono ?_
        rintro e w5 ⟨rfl, hb5⟩
        obtain ⟨b10, hb10⟩ : ∃ x, w5.heap.size = x := ⟨_, rfl⟩
        have HK5 := Lib.hid ((HK4.out.later hb5).put (.cells #[.int .i64 Z, .int .i64 Z, .string si] 27) hb10)
        clear hb5 HK4
        clear hb8
        go_wp2_with fail
        refine (H5.out _).mono ?_
        rintro e w6 ⟨rfl, hb6⟩
        obtain ⟨b12, hb12⟩ : ∃ x, w6.heap.size = x := ⟨_, rfl⟩
        have HK6 := Lib.hid ((HK5.out.later hb6).put (.cells #[.int .i64 0, .int .i64 0, .string z] 27) hb12)
        clear hb6 HK5
        clear hb10
        go_wp2_with fail
        refine (H6.out _).mono ?_
        rintro e w7 ⟨rfl, hb7⟩
        obtain ⟨b14, hb14⟩ : ∃ x, w7.heap.size = x := ⟨_, rfl⟩
        have HK7 := Lib.hid ((HK6.out.later hb7).put (.cells #[.int .i64 0, .int .i64 0, .string z] 27) hb14)
        clear hb7 HK6
        clear hb12
        obtain ⟨cb40, cb41, cb42, -, -, -⟩ := cells3 (HK7.out.at 5 rfl)
        obtain ⟨cb60, cb61, cb62, -, -, -⟩ := cells3 (HK7.out.at 4 rfl)
        obtain ⟨cb80, cb81, cb82, -, -, -⟩ := cells3 (HK7.out.at 3 rfl)
        obtain ⟨cb100, cb101, cb102, -, -, -⟩ := cells3 (HK7.out.at 2 rfl)
        obtain ⟨cb120, cb121, cb122, -, -, -⟩ := cells3 (HK7.out.at 1 rfl)
        obtain ⟨cb140, cb141, cb142, -, -, -⟩ := cells3 (HK7.out.at 0 rfl)
        go_wp2_with fail
        go_ret
        exact ⟨rfl, HK7.out.below⟩
end Go.Proofs.YtgmhddceeomjbaaDoor.fnSets
