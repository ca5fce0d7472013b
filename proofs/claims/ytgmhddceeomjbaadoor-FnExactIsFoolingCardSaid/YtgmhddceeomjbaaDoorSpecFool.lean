/-
  The reference's IsFooling.
-/
import Derived.Test.YtgmhddceeomjbaaDoorIsFool
import Derived.Test.YtgmhddceeomjbaaDoorApartS
import Derived.Test.YtgmhddceeomjbaaDoorCountWalk
namespace Go.Proofs.YtgmhddceeomjbaaDoor.SpecFool
open Go.RowKit Go.Proofs.YtgmhddceeomjbaaDoor.Plain Go.Proofs.YtgmhddceeomjbaaDoor.Base Go.Proofs.YtgmhddceeomjbaaDoor.Valid Go.Proofs.YtgmhddceeomjbaaDoor.Law Go.Proofs.YtgmhddceeomjbaaDoor.GridPlain Go.Proofs.YtgmhddceeomjbaaDoor.Entry Go.Proofs.YtgmhddceeomjbaaDoor.Rect Go.Proofs.YtgmhddceeomjbaaDoor.BoardM Go.Proofs.YtgmhddceeomjbaaDoor.FoolM Go.Proofs.YtgmhddceeomjbaaDoor.IsFool Go.Proofs.YtgmhddceeomjbaaDoor.Kept
open Go.Proofs.YtgmhddceeomjbaaDoor.ApartS (apart_spec)
open Go.Proofs.YtgmhddceeomjbaaDoor.fnExactCountOnes (l1Int_any)
open Go.Proofs.YtgmhddceeomjbaaDoor.Ints (IV okI_true okI_get okI_false)
open Go.Proofs.YtgmhddceeomjbaaDoor.Rd5 (cells3)
open Go.Proofs.YtgmhddceeomjbaaDoor.ColF (rows_max rows_small valid_rows)
set_option linter.unusedVariables false
set_option linter.unusedSectionVars false

theorem ne_bit (a b : Bool) : decide (bitI a ≠ bitI b) = !(a == b) := by cases a <;> cases b <;> rfl
/-- whether two entries are apart, by what l1At answers -/
theorem apart_v (E : Nat → Nat → Bool) (R C : Nat) (h2 : R ≤ 8) (h3 : 1 ≤ C) (h4 : C ≤ 8) (b : Bool) (p q : Nat) (hp : p < R * C) (hq : q < R * C) (w : World) :
    Calls Tryd.prog 58 #[mat R C (str (rowsB E R C)), .int .i64 (bitI b), .int .i64 (p : Int), .int .i64 (q : Int)] w fun e w' => e = .returned (.bool (apB (VE E b) C p q)) ∧ Below w.heap.size w w' := by
  have h64 : R * C ≤ 64 := prod_le h2 h4
  have d1 : p / C < R := Nat.div_lt_of_lt_mul (by rwa [Nat.mul_comm] at hp)
  have d2 : q / C < R := Nat.div_lt_of_lt_mul (by rwa [Nat.mul_comm] at hq)
  have h := apart_spec R C (str (rowsB E R C)) (bitI b) p q h3 (by omega) (by omega) _ _ (fun W => at_any E R C h2 h4 (p / C) (q % C) d1 (Nat.mod_lt _ (by omega)) W) (fun W => at_any E R C h2 h4 (q / C) (p % C) d2 (Nat.mod_lt _ (by omega)) W) w
  rw [ne_bit, ne_bit] at h
  exact h

set_option maxHeartbeats 8000000 in
set_option maxRecDepth 100000 in
theorem spec_fool (E : Nat → Nat → Bool) (R C : Nat) (h1 : 1 ≤ R) (h2 : R ≤ 8) (h3 : 1 ≤ C) (h4 : C ≤ 8) (b : Bool) (xs : List Int) (hlen : xs.length ≤ 1048576) (v : Value) (w : World) (hiv : IV w w.heap.size v xs) :
    Calls Tryd.prog 12 #[mat R C (str (rowsB E R C)), .int .i64 (bitI b), v] w fun e w' => e = .returned (.bool (Ints.okI xs ((R * C : Nat) : Int) && allS (VE E b) C (nat xs) xs.length)) ∧ Below w.heap.size w w' := by
  obtain ⟨pt, cc, hv⟩ : ∃ p c, v = .slice p xs.length c := by
    rcases hiv.2 with ⟨rfl, rfl⟩ | ⟨q, off, c, rfl, _⟩
    · exact ⟨none, 0, rfl⟩
    · exact ⟨_, c, rfl⟩
  subst hv
  have HV := Lib.hid (fun W => spec_valid R C (str (rowsB E R C)) (rows_max E R C h2 h4) W)
  rw [valid_rows E R C h1 h2 h3 h4] at HV
  have hb01 : decide (0 ≤ bitI b ∧ bitI b ≤ 1) = true := by cases b <;> decide
  have HBI := Lib.hid (fun W => in_any (bitI b) 0 1 W)
  rw [hb01] at HBI
  have hsz : (str (rowsB E R C)).size = R * C := by rw [str_size, rowsB_length]
  have HAP := Lib.hid (fun p q hp hq W => apart_v E R C h2 h3 h4 b p q hp hq W)
  have hbyte : ∀ X, X < R * C → ∀ hlt : X < (str (rowsB E R C)).size, ((((str (rowsB E R C))[X]).toNat : Int) == 49) = E (X / C) (X % C) := fun X hX hlt => by
    have := Grid.byte_at E R C X _ rfl hX hlt
    rw [this]
    cases E (X / C) (X % C) <;> rfl
  have hne : ∀ X, ((bitI (E (X / C) (X % C)) != bitI b) : Bool) = !(VE E b (X / C) (X % C)) := fun X => by unfold VE; cases E (X / C) (X % C) <;> cases b <;> rfl
  have HINT := Lib.hid (fun a W => below_same (fun W => l1Int_any a W) W)
  have HNE := Lib.hid hne
  have HBY := Lib.hid hbyte
  clear hne hbyte
  generalize hPP : VE E b = P at *
  have hVE : ∀ x y, P x y = (E x y == b) := fun x y => by rw [← hPP]; rfl
  clear hPP hVE
  generalize bitI b = bi at *
  generalize str (rowsB E R C) = s at *
  have h64 : R * C ≤ 64 := prod_le h2 h4
  generalize hN : R * C = N at *
  clear hN hb01
  obtain ⟨hl9, hiv2⟩ := id hiv
  clear hiv
  have hsl : s.size = N := hsz
  clear hsz
  subst hsl
  obtain ⟨B, hB⟩ : ∃ B, w.heap.size = B := ⟨_, rfl⟩
  have HK1 := Lib.hid ((Kp.nil w).put (.cells #[.int .i64 (R : Int), .int .i64 (C : Int), .string s] 27) hB)
  go_enter Tryd.func12, Tryd.ntmps12
  obtain ⟨c0, c1, c2, -, -, -⟩ := cells3 (HK1.out.at 0 rfl)
  go_wp2_with fail
  refine (HV.out _).mono ?_
  rintro e w2 ⟨rfl, hb2⟩
  have HK2 := Lib.hid (HK1.out.later hb2)
  clear hb2 HK1 hB c0 c1 c2
  obtain ⟨c0, c1, c2, -, -, -⟩ := cells3 (HK2.out.at 0 rfl)
  go_wp2_with fail
  refine (HBI.out _).mono ?_
  rintro e w' ⟨rfl, rfl⟩
  clear c0 c1 c2
  go_wp2_with fail
  go_loopw [7] (fun i wr => ∃ k : Nat, k ≤ xs.length ∧ i = .int .i64 (k : Int) ∧ Hid (∀ j (hj : j < xs.length), j < k → 0 ≤ xs[j] ∧ xs[j] < (s.size : Int)) ∧ Hid (allS P C (nat xs) k = true) ∧ Hid (Kp w wr [(B, .cells #[.int .i64 (R : Int), .int .i64 (C : Int), .string s] 27 (0, 0))])) (fun i _ => xs.length - (intOf i).toNat)
  case atStart => exact ⟨0, by omega, rfl, Lib.hid (fun j hj h => by omega), rfl, HK2⟩
  case round =>
    obtain ⟨k, hk, rfl, HG, HA, HR⟩ := hrel
    clear HK2
    by_cases hlt : k < xs.length
    · rcases hiv2 with ⟨-, h0⟩ | ⟨q, off, c', e, hq, hcs⟩
      · rw [h0] at hlt; exact absurd hlt (by simp)
      injection e with e1 _ e3
      subst e1 e3
      have hkl : (k : Int) < (xs.length : Int) := by omega
      have hsub1 : IntKind.i64.wrap ((s.size : Int) - 1) = (s.size : Int) - 1 := IntWalk.i64_in _ ⟨by omega, by omega⟩
      have hcell := hcs k hlt
      by_cases hin : 0 ≤ xs[k] ∧ xs[k] < (s.size : Int)
      · obtain ⟨X, hX⟩ := Int.eq_ofNat_of_zero_le hin.1
        have hXN : X < s.size := by omega
        have HIN : Hid (∀ W, Calls Tryd.prog 56 #[.int .i64 (X : Int), .int .i64 0, .int .i64 ((s.size : Int) - 1)] W fun e w' => e = .returned (.bool true) ∧ Below W.heap.size W w') := fun W => by
          have := below_same (fun W => in_any (X : Int) 0 ((s.size : Int) - 1) W) W
          rw [decide_eq_true (by omega)] at this
          exact this
        have hgetD : (nat xs).getD k 0 = X := by
          rw [List.getD_eq_getElem?_getD, List.getElem?_map, List.getElem?_eq_getElem hlt, hX]
          rfl
        have hnx : allS P C (nat xs) (k + 1) = okS P C ((nat xs).take k) X := by rw [allS, HA.out, hgetD, Bool.true_and]
        have hG2 : ∀ j (hj : j < xs.length), j < k + 1 → 0 ≤ xs[j] ∧ xs[j] < (s.size : Int) := fun j hj hj2 => by
          by_cases e : j = k
          · subst e; exact hin
          · exact HG.out j hj (by omega)
        have HG2 := Lib.hid hG2
        have HNX := Lib.hid hnx
        rw [hX] at hcell
        have HCE : Hid (∀ W, Kp w W [(B, .cells #[.int .i64 (R : Int), .int .i64 (C : Int), .string s] 27 (0, 0))] → W.cell? ⟨q, off + k, none⟩ = some (.int .i64 (X : Int))) := fun W hW => (hW.below.cell (p := ⟨q, off + k, none⟩) hq).trans hcell
        have hby := HBY.out X hXN hXN
        have hnb := HNE.out X
        have hno : P (X / C) (X % C) = false → allS P C (nat xs) xs.length = false := fun h => allS_false P C _ (k + 1) (by rw [hnx]; unfold okS; rw [h]; rfl) _ (by omega)
        have hoks : okS P C ((nat xs).take k) X = (P (X / C) (X % C) && ((nat xs).take k).all (fun j => apB P C X j)) := rfl
        rw [hoks] at HNX
        clear hcell hin hX hgetD hnx hG2 hoks
        generalize E (X / C) (X % C) = ev at *
        obtain ⟨pv, hpv⟩ : ∃ pv, P (X / C) (X % C) = pv := ⟨_, rfl⟩
        rw [hpv] at hnb hno HNX
        clear hpv
        obtain ⟨ei, hei⟩ : ∃ ei, bitI ev = ei := ⟨_, rfl⟩
        have HIV : Hid (∀ W, Calls Tryd.prog 57 #[.bool ev] W fun e w' => e = .returned (.int .i64 ei) ∧ Below W.heap.size W w') := fun W => by
          have := HINT.out ev W
          rw [hei] at this
          exact this
        have hnb2 : ((ei != bi) : Bool) = !pv := by rw [← hei]; exact hnb
        have HNO := Lib.hid hno
        clear hei hnb hno
        go_wp2_with fail
        cases pv
        · have hne : ¬ ei = bi := fun e => by
            rw [e, bne_self_eq_false] at hnb2; exact absurd hnb2 (by decide)
          clear hnb2
          refine region_kept (C := fun wx => Kp w wx [(B, .cells #[.int .i64 (R : Int), .int .i64 (C : Int), .string s] 27 (0, 0))]) HR.out.drew (by kernel_rfl) (by kernel_rfl) ?_
          repeat
            (refine wq_step (fun K hK => ?_)
             go_simp
             first
               | (refine hK _ ?_; clear hK K)
               | (apply Exists.intro
                  refine ⟨fun wx hC => ?_, hK _ ?_⟩
                  · first
                    | with_reducible rfl
                    | with_reducible exact hC.call (HIN.out wx)
                    | with_reducible exact hC.call (HIV.out wx)
                    | (obtain ⟨d0, d1, d2, -, -, -⟩ := cells3 (hC.at 0 rfl); have r1 := HCE.out wx hC; have hby2 := hby; go_simp; first | done | rfl)
                  clear hK K))
          refine wq_nil ?_
          intro w20 hC
          have HRw20 : Hid (Kp w w20 [(B, .cells #[.int .i64 (R : Int), .int .i64 (C : Int), .string s] 27 (0, 0))]) := hC
          clear hC HR
          go_wp2_with fail
          go_ret
          exact ⟨by rw [HNO.out (by trivial), Bool.and_false]; rfl, HRw20.out.below⟩
        · have hei : bi = ei := by
            by_cases e : ei = bi
            · exact e.symm
            · rw [bne_iff_ne.2 e] at hnb2; exact absurd hnb2 (by decide)
          subst hei
          clear hnb2
          refine region_kept (C := fun wx => Kp w wx [(B, .cells #[.int .i64 (R : Int), .int .i64 (C : Int), .string s] 27 (0, 0))]) HR.out.drew (by kernel_rfl) (by kernel_rfl) ?_
          repeat
            (refine wq_step (fun K hK => ?_)
             go_simp
             first
               | (refine hK _ ?_; clear hK K)
               | (apply Exists.intro
                  refine ⟨fun wx hC => ?_, hK _ ?_⟩
                  · first
                    | with_reducible rfl
                    | with_reducible exact hC.call (HIN.out wx)
                    | with_reducible exact hC.call (HIV.out wx)
                    | (obtain ⟨d0, d1, d2, -, -, -⟩ := cells3 (hC.at 0 rfl); have r1 := HCE.out wx hC; have hby2 := hby; go_simp; first | done | rfl)
                  clear hK K))
          refine wq_nil ?_
          intro w20 hC
          have HRw20 : Hid (Kp w w20 [(B, .cells #[.int .i64 (R : Int), .int .i64 (C : Int), .string s] 27 (0, 0))]) := hC
          clear hC HR
          clear HNO hby HIV HIN
          go_wp2_with fail
          go_loopw [8] (fun i wr => ∃ j : Nat, j ≤ k ∧ i = .int .i64 (j : Int) ∧ Hid (∀ j' (hj : j' < xs.length), j' < j → apB P C X xs[j'].toNat = true) ∧ Hid (Kp w wr [(B, .cells #[.int .i64 (R : Int), .int .i64 (C : Int), .string s] 27 (0, 0))])) (fun i _ => k - (intOf i).toNat)
          case atStart => exact ⟨0, by omega, rfl, Lib.hid (fun j' hj h => by omega), HRw20⟩
          case round =>
            obtain ⟨j, hj, rfl, HB2, HQ⟩ := hrel
            clear HRw20
            by_cases hjk : j < k
            · have hjl : (j : Int) < (xs.length : Int) := by omega
              have hgj := HG.out j (by omega) hjk
              obtain ⟨Y, hY⟩ := Int.eq_ofNat_of_zero_le hgj.1
              have hYN : Y < s.size := by omega
              have hcj := hcs j (by omega)
              rw [hY] at hcj
              have HCJ : Hid (∀ W, Kp w W [(B, .cells #[.int .i64 (R : Int), .int .i64 (C : Int), .string s] 27 (0, 0))] → W.cell? ⟨q, off + j, none⟩ = some (.int .i64 (Y : Int))) := fun W hW => (hW.below.cell (p := ⟨q, off + j, none⟩) hq).trans hcj
              have hap := fun W => HAP.out X Y hXN hYN W
              obtain ⟨av, hav⟩ : ∃ av, apB P C X Y = av := ⟨_, rfl⟩
              rw [hav] at hap
              have HAV := Lib.hid hap
              have hYj : xs[j].toNat = Y := by rw [hY]; rfl
              have HYJ := Lib.hid (And.intro hav hYj)
              clear hap hav hYj hgj hY hcj
              go_wp2_with fail
              refine region_kept (C := fun wx => Kp w wx [(B, .cells #[.int .i64 (R : Int), .int .i64 (C : Int), .string s] 27 (0, 0))]) HQ.out.drew (by kernel_rfl) (by kernel_rfl) ?_
              repeat
                (refine wq_step (fun K hK => ?_)
                 go_simp
                 first
                   | (refine hK _ ?_; clear hK K)
                   | (apply Exists.intro
                      refine ⟨fun wx hC => ?_, hK _ ?_⟩
                      · first
                        | with_reducible rfl
                        | with_reducible exact hC.call (HAV.out wx)
                        | (obtain ⟨d0, d1, d2, -, -, -⟩ := cells3 (hC.at 0 rfl); have r1 := HCE.out wx hC; have r2 := HCJ.out wx hC; go_simp; first | done | rfl)
                      clear hK K))
              refine wq_nil ?_
              intro w30 hC
              have HRw30 : Hid (Kp w w30 [(B, .cells #[.int .i64 (R : Int), .int .i64 (C : Int), .string s] 27 (0, 0))]) := hC
              clear hC HQ
              cases av
              · have hF : allS P C (nat xs) xs.length = false := by
                  refine allS_false P C _ (k + 1) ?_ _ (by omega)
                  rw [HNX.out, Bool.true_and, List.all_eq_false]
                  refine ⟨Y, ?_, by rw [HYJ.out.1]; decide⟩
                  rw [List.mem_take_iff_getElem]
                  refine ⟨j, by rw [List.length_map]; omega, ?_⟩
                  rw [List.getElem_map]
                  exact HYJ.out.2
                have HFF := Lib.hid hF
                clear hF
                go_wp2_with fail
                go_ret
                exact ⟨by rw [HFF.out, Bool.and_false]; rfl, HRw30.out.below⟩
              · go_wp2_with fail
                go_roundw
                case rel => exact ⟨j + 1, by omega, by go_num, Lib.hid (fun j' hj' h => by
                  by_cases e : j' = j
                  · subst e; rw [HYJ.out.2]; exact HYJ.out.1
                  · exact HB2.out j' hj' (by omega)), HRw30⟩
                case measure => simp [intOf]; omega
            · have hje : j = k := by omega
              have hall : ((nat xs).take k).all (fun i => apB P C X i) = true := by
                rw [List.all_eq_true]
                intro y hy
                rw [List.mem_take_iff_getElem] at hy
                obtain ⟨i, hi, rfl⟩ := hy
                rw [List.length_map] at hi
                rw [List.getElem_map]
                exact HB2.out i (by omega) (by omega)
              have HALL : Hid (allS P C (nat xs) (k + 1) = true) := by
                unfold Hid
                rw [HNX.out, hall]
                rfl
              clear hall hje
              go_wp2_with fail
              go_roundw
              case rel => exact ⟨k + 1, by omega, by go_num, HG2, HALL, HQ⟩
              case measure => simp [intOf]; omega
      · have HIN : Hid (∀ W, Calls Tryd.prog 56 #[.int .i64 xs[k], .int .i64 0, .int .i64 ((s.size : Int) - 1)] W fun e w' => e = .returned (.bool false) ∧ Below W.heap.size W w') := fun W => by
          have := below_same (fun W => in_any xs[k] 0 ((s.size : Int) - 1) W) W
          rw [decide_eq_false (by omega)] at this
          exact this
        have hok : Ints.okI xs (s.size : Int) = false := okI_false k hlt hin
        have HOK := Lib.hid hok
        have HCE : Hid (∀ W, Kp w W [(B, .cells #[.int .i64 (R : Int), .int .i64 (C : Int), .string s] 27 (0, 0))] → W.cell? ⟨q, off + k, none⟩ = some (.int .i64 xs[k])) := fun W hW => (hW.below.cell (p := ⟨q, off + k, none⟩) hq).trans hcell
        clear hcell hin hok hcs HA HG
        generalize xs[k] = x at *
        go_wp2_with fail
        refine region_kept (C := fun wx => Kp w wx [(B, .cells #[.int .i64 (R : Int), .int .i64 (C : Int), .string s] 27 (0, 0))]) HR.out.drew (by kernel_rfl) (by kernel_rfl) ?_
        repeat
          (refine wq_step (fun K hK => ?_)
           go_simp
           first
             | (refine hK _ ?_; clear hK K)
             | (apply Exists.intro
                refine ⟨fun wx hC => ?_, hK _ ?_⟩
                · first
                  | with_reducible rfl
                  | with_reducible exact hC.call (HIN.out wx)
                  | (obtain ⟨d0, d1, d2, -, -, -⟩ := cells3 (hC.at 0 rfl); have r1 := HCE.out wx hC; go_simp; first | done | rfl)
                clear hK K))
        refine wq_nil ?_
        intro w20 hC
        have HRw20 : Hid (Kp w w20 [(B, .cells #[.int .i64 (R : Int), .int .i64 (C : Int), .string s] 27 (0, 0))]) := hC
        clear hC HR
        go_wp2_with fail
        go_ret
        exact ⟨by rw [HOK.out, Bool.false_and]; rfl, HRw20.out.below⟩
    · obtain rfl : k = xs.length := by omega
      have hok : Ints.okI xs (s.size : Int) = true := okI_true fun j hj => HG.out j hj hj
      have HOK := Lib.hid hok
      clear hok
      go_wp2_with fail
      go_ret
      exact ⟨by rw [HOK.out, HA.out]; rfl, HR.out.below⟩
end Go.Proofs.YtgmhddceeomjbaaDoor.SpecFool
