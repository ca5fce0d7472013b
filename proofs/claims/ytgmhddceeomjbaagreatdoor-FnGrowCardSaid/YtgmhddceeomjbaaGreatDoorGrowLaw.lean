/-
  The walk of the drawn law on GrowRect.
-/
import Derived.Test.YtgmhddceeomjbaaGreatDoorDrawGr
import Derived.Test.YtgmhddceeomjbaaGreatDoorGrowY
import Derived.Test.YtgmhddceeomjbaaGreatDoorJ36
import Derived.Test.YtgmhddceeomjbaaGreatDoorJ30
namespace Go.Proofs.YtgmhddceeomjbaaGreatDoor.fnGrow
open Go.RowKit Go.Proofs.YtgmhddceeomjbaaGreatDoor.Plain Go.Proofs.YtgmhddceeomjbaaGreatDoor.Base Go.Proofs.YtgmhddceeomjbaaGreatDoor.Valid Go.Proofs.YtgmhddceeomjbaaGreatDoor.Rect Go.Proofs.YtgmhddceeomjbaaGreatDoor.MaxM Go.Proofs.YtgmhddceeomjbaaGreatDoor.GrowY Go.Proofs.YtgmhddceeomjbaaGreatDoor.Rd Go.Proofs.YtgmhddceeomjbaaGreatDoor.Kept
open Go.Proofs.YtgmhddceeomjbaaGreatDoor.DiscF (max_impl max_len)
open Go.Proofs.YtgmhddceeomjbaaGreatDoor.Marks (rv_own)
open Go.Proofs.YtgmhddceeomjbaaGreatDoor.Rects (RV)
open Go.Proofs.YtgmhddceeomjbaaGreatDoor.Rd4 (cells2)
open Go.Proofs.YtgmhddceeomjbaaGreatDoor.Rd5 (cells3)
set_option linter.unusedVariables false

theorem take_next (ts : List (Int × Int)) (k : Nat) (hk : k < ts.length) (p : Int × Int) : p ∈ ts.take (k + 1) ↔ p ∈ ts.take k ∨ ts[k] = p := by
  rw [List.take_succ_eq_append_getElem hk, List.mem_append, List.mem_singleton]
  constructor
  · rintro (h | h)
    · exact .inl h
    · exact .inr h.symm
  · rintro (h | h)
    · exact .inl h
    · exact .inr h.symm

set_option maxHeartbeats 8000000 in
set_option maxRecDepth 100000 in
theorem walk (v : Value) (n : Nat) (w : World) (h : ByteArg w v n) :
    Calls Tryz.prog 4 #[v] w fun e w' => e = .returned (.bool true) ∧ Below w.heap.size w w' := by
  obtain ⟨hn0, a, cap, rfl, hc, hb0⟩ := id h
  clear hb0
  have HD := Lib.hid (DrawGr.draw_any _ n w h)
  clear h
  by_cases hbig : 1048576 < n
  · have hbi : (1048576 : Int) < (n : Int) := by omega
    go_enter Tryz.func4, Tryz.ntmps4
    go_wp2_with fail
    go_ret
    exact ⟨rfl, Below.refl _ _⟩
  · have hbi : ¬ (1048576 : Int) < (n : Int) := by omega
    go_enter Tryz.func4, Tryz.ntmps4
    go_wp2_with fail
    refine HD.out.mono ?_
    rintro e w1 ⟨a, b, t, x, y, rfl, ht, hb⟩
    clear HD hbig hbi
    have hcase := cases a b t (by unfold maxLen; omega) x y
    obtain ⟨B, hB⟩ : ∃ B, w1.heap.size = B := ⟨_, rfl⟩
    have HK1 := Lib.hid (((Kp.nil w).later hb |>.put (.cells #[.int .i64 a, .int .i64 b, .string t] 27) hB).put (.cells #[.int .i64 x, .int .i64 y] 34) (b := B + 1) (by simp [hB]))
    clear hb
    rcases hcase with ⟨cv, hcv, hcv2, hco, hgs, hgi⟩ | ⟨R, C, E, RS, CS, c, rfl, rfl, rfl, rfl, rfl, ⟨h1, h2, h3, h4⟩, ⟨k1, k2, k3, k4, k5, k6⟩, hpl⟩
    · have HCO := Lib.hid hco
      have HGS := Lib.hid hgs
      have HGI := Lib.hid hgi
      clear hco hgs hgi
      obtain ⟨cB0, cB1, cB2, -, -, -⟩ := cells3 (HK1.out.at 1 rfl)
      obtain ⟨cBp10, cBp11, -, -⟩ := cells2 (HK1.out.at 0 rfl)
      go_wp2_with fail
      refine (HGI.out _).mono ?_
      rintro e w2 ⟨rfl, hb2⟩
      obtain ⟨b5, hb5⟩ : ∃ x, w2.heap.size = x := ⟨_, rfl⟩
      have HK2 := Lib.hid ((HK1.out.later hb2).put (.cells #[.int .i64 0, .int .i64 0] 34) hb5)
      clear hb2 HK1
      clear hB cB0 cB1 cB2 cBp10 cBp11
      obtain ⟨cB0, cB1, cB2, -, -, -⟩ := cells3 (HK2.out.at 2 rfl)
      obtain ⟨cBp10, cBp11, -, -⟩ := cells2 (HK2.out.at 1 rfl)
      go_wp2_with fail
      refine (HGS.out _).mono ?_
      rintro e w3 ⟨rfl, hb3⟩
      obtain ⟨b7, hb7⟩ : ∃ x, w3.heap.size = x := ⟨_, rfl⟩
      have HK3 := Lib.hid ((HK2.out.later hb3).put (.cells #[.int .i64 0, .int .i64 0] 34) hb7)
      clear hb3 HK2
      clear hb5 cB0 cB1 cB2 cBp10 cBp11
      obtain ⟨cb50, cb51, -, -⟩ := cells2 (HK3.out.at 1 rfl)
      obtain ⟨cb70, cb71, -, -⟩ := cells2 (HK3.out.at 0 rfl)
      obtain ⟨cB0, cB1, cB2, -, -, -⟩ := cells3 (HK3.out.at 3 rfl)
      obtain ⟨cBp10, cBp11, -, -⟩ := cells2 (HK3.out.at 2 rfl)
      go_wp2_with fail
      refine (HCO.out _).mono ?_
      rintro e w4 ⟨rfl, hb4⟩
      have HK4 := Lib.hid (HK3.out.later hb4)
      clear hb4 HK3
      clear hb7 cb50 cb51 cb70 cb71 cB0 cB1 cB2 cBp10 cBp11
      obtain ⟨cb50, cb51, -, -⟩ := cells2 (HK4.out.at 1 rfl)
      obtain ⟨cb70, cb71, -, -⟩ := cells2 (HK4.out.at 0 rfl)
      obtain ⟨cB0, cB1, cB2, -, -, -⟩ := cells3 (HK4.out.at 3 rfl)
      obtain ⟨cBp10, cBp11, -, -⟩ := cells2 (HK4.out.at 2 rfl)
      go_wp2_with fail
      refine (HCO.out _).mono ?_
      rintro e w5 ⟨rfl, hb5⟩
      have HK5 := Lib.hid (HK4.out.later hb5)
      clear hb5 HK4
      clear cb50 cb51 cb70 cb71 cB0 cB1 cB2 cBp10 cBp11
      go_wp2_with fail
      go_ret
      exact ⟨by simp; omega, HK5.out.below⟩
    · obtain ⟨hpl2, hclo, e1, e2, g1, g2, hmem⟩ := grown E R C h1 h2 h3 h4 RS CS k1 k2 k3 k4 k5 k6 c hpl
      have hlt1 := rS_lt E c R C CS
      have hlt2 := cS_lt E c R C (rS E c R C CS)
      have hqR : 2 ^ R ≤ 256 := Nat.pow_le_pow_right (n := 2) (by decide) h2
      have hqC : 2 ^ C ≤ 256 := Nat.pow_le_pow_right (n := 2) (by decide) h4
      have hgr := grow_yes E R C h1 h2 h3 h4 RS CS k1 k2 k3 k4 k5 k6 c hpl
      have hgg := (grow_yes E R C h1 h2 h3 h4 _ _ g1 hlt1 g2 hlt2 (by omega) (by omega) c hpl2).2
      rw [hclo] at hgg
      have hco := fun W => col_plain E R C h1 h2 h3 h4 RS CS k1 k2 k3 k4 k5 k6 c hpl W
      have hcg := fun W => col_plain E R C h1 h2 h3 h4 _ _ g1 hlt1 g2 hlt2 (by omega) (by omega) c hpl2 W
      have hmt := fun W => meet_in _ _ RS CS g1 g2 (by omega) (by omega) k1 k3 k5 k6 e1 e2 W
      have hmx := fun W => max_impl E R C h1 h2 h3 h4 c W
      have hml := max_len E R C h1 h2 h3 h4 c
      have hbv : 0 ≤ bitI c ∧ bitI c ≤ 1 := by cases c <;> decide
      generalize bitI c = bv at *
      generalize mx E c R C (2 ^ R - 1) = ts at *
      generalize cS E c R C (rS E c R C CS) = G2 at *
      generalize rS E c R C CS = G1 at *
      generalize str (rowsB E R C) = s at *
      have HGI := Lib.hid hgr.2
      have HGS := Lib.hid hgr.1
      have HGG := Lib.hid hgg
      have HCO := Lib.hid hco
      have HCG := Lib.hid hcg
      have HMT := Lib.hid hmt
      have HMX := Lib.hid hmx
      have HMEM := Lib.hid hmem
      obtain ⟨bv0, bv1⟩ := hbv
      clear hgr hgg hco hcg hmt hmx hmem hpl hpl2 hclo e1 e2 hlt1 hlt2 hqR hqC
      obtain ⟨cB0, cB1, cB2, -, -, -⟩ := cells3 (HK1.out.at 1 rfl)
      obtain ⟨cBp10, cBp11, -, -⟩ := cells2 (HK1.out.at 0 rfl)
      go_wp2_with fail
      refine (HGI.out _).mono ?_
      rintro e w2 ⟨rfl, hb2⟩
      obtain ⟨b5, hb5⟩ : ∃ x, w2.heap.size = x := ⟨_, rfl⟩
      have HK2 := Lib.hid ((HK1.out.later hb2).put (.cells #[.int .i64 G1, .int .i64 G2] 34) hb5)
      clear hb2 HK1
      clear hB cB0 cB1 cB2 cBp10 cBp11
      obtain ⟨cB0, cB1, cB2, -, -, -⟩ := cells3 (HK2.out.at 2 rfl)
      obtain ⟨cBp10, cBp11, -, -⟩ := cells2 (HK2.out.at 1 rfl)
      go_wp2_with fail
      refine (HGS.out _).mono ?_
      rintro e w3 ⟨rfl, hb3⟩
      obtain ⟨b7, hb7⟩ : ∃ x, w3.heap.size = x := ⟨_, rfl⟩
      have HK3 := Lib.hid ((HK2.out.later hb3).put (.cells #[.int .i64 G1, .int .i64 G2] 34) hb7)
      clear hb3 HK2
      clear hb5 cB0 cB1 cB2 cBp10 cBp11
      obtain ⟨cb50, cb51, -, -⟩ := cells2 (HK3.out.at 1 rfl)
      obtain ⟨cb70, cb71, -, -⟩ := cells2 (HK3.out.at 0 rfl)
      obtain ⟨cB0, cB1, cB2, -, -, -⟩ := cells3 (HK3.out.at 3 rfl)
      obtain ⟨cBp10, cBp11, -, -⟩ := cells2 (HK3.out.at 2 rfl)
      go_wp2_with fail
      refine (HCO.out _).mono ?_
      rintro e w4 ⟨rfl, hb4⟩
      have HK4 := Lib.hid (HK3.out.later hb4)
      clear hb4 HK3
      clear hb7 cb50 cb51 cb70 cb71 cB0 cB1 cB2 cBp10 cBp11
      obtain ⟨cB0, cB1, cB2, -, -, -⟩ := cells3 (HK4.out.at 3 rfl)
      obtain ⟨cBp10, cBp11, -, -⟩ := cells2 (HK4.out.at 2 rfl)
      go_wp2_with fail
      refine (HCO.out _).mono ?_
      rintro e w5 ⟨rfl, hb5⟩
      have HK5 := Lib.hid (HK4.out.later hb5)
      clear hb5 HK4
      clear cB0 cB1 cB2 cBp10 cBp11
      obtain ⟨cb50, cb51, -, -⟩ := cells2 (HK5.out.at 1 rfl)
      obtain ⟨cBp10, cBp11, -, -⟩ := cells2 (HK5.out.at 2 rfl)
      go_wp2_with fail
      refine (HMT.out _).mono ?_
      rintro e w6 ⟨rfl, hb6⟩
      obtain ⟨b10, hb10⟩ : ∃ x, w6.heap.size = x := ⟨_, rfl⟩
      have HK6 := Lib.hid ((HK5.out.later hb6).put (.cells #[.int .i64 RS, .int .i64 CS] 34) hb10)
      clear hb6 HK5
      clear cb50 cb51 cBp10 cBp11
      obtain ⟨cb50, cb51, -, -⟩ := cells2 (HK6.out.at 2 rfl)
      obtain ⟨cB0, cB1, cB2, -, -, -⟩ := cells3 (HK6.out.at 4 rfl)
      go_wp2_with fail
      refine (HGG.out _).mono ?_
      rintro e w7 ⟨rfl, hb7⟩
      obtain ⟨b12, hb12⟩ : ∃ x, w7.heap.size = x := ⟨_, rfl⟩
      have HK7 := Lib.hid ((HK6.out.later hb7).put (.cells #[.int .i64 G1, .int .i64 G2] 34) hb12)
      clear hb7 HK6
      clear hb10 cb50 cb51 cB0 cB1 cB2
      obtain ⟨cB0, cB1, cB2, -, -, -⟩ := cells3 (HK7.out.at 5 rfl)
      go_wp2_with fail
      refine (HMX.out _).mono ?_
      rintro e w5 ⟨v, rfl, ho, hb5⟩
      have HK50 := Lib.hid (HK7.out.later hb5)
      have HBW := Lib.hid HK50.out.below
      have HK5 : Hid (Kp w5 w5 [(b12, .cells #[.int .i64 G1, .int .i64 G2] 34), (b10, .cells #[.int .i64 RS, .int .i64 CS] 34), (b7, .cells #[.int .i64 G1, .int .i64 G2] 34), (b5, .cells #[.int .i64 G1, .int .i64 G2] 34), ((B + 1), .cells #[.int .i64 RS, .int .i64 CS] 34), (B, .cells #[.int .i64 R, .int .i64 C, .string s] 27)]) := ⟨HK50.out.all, Below.refl _ _⟩
      have hrv := rv_own ho hml
      clear ho hb5 HK7 HK50
      clear hb12 cB0 cB1 cB2
      obtain ⟨p, cp, hv⟩ := hrv.slice
      subst hv
      have HRV := Lib.hid hrv
      clear hrv
      go_wp2_with fail
      go_loopw [15, 16] (fun f i wr => ∃ (k : Nat) (fv : Bool), k ≤ ts.length ∧ f = .bool fv ∧ i = .int .i64 (k : Int) ∧ Hid (fv = true ↔ ((G1 : Int), (G2 : Int)) ∈ ts.take k) ∧ Hid (Kp w5 wr [(b12, .cells #[.int .i64 G1, .int .i64 G2] 34), (b10, .cells #[.int .i64 RS, .int .i64 CS] 34), (b7, .cells #[.int .i64 G1, .int .i64 G2] 34), (b5, .cells #[.int .i64 G1, .int .i64 G2] 34), ((B + 1), .cells #[.int .i64 RS, .int .i64 CS] 34), (B, .cells #[.int .i64 R, .int .i64 C, .string s] 27)])) (fun _ i _ => ts.length - (intOf i).toNat)
      case atStart => exact ⟨0, false, by omega, rfl, rfl, Lib.hid (by simp), HK5⟩
      case round =>
        obtain ⟨k, fv, hk, rfl, rfl, HF, HR⟩ := hrel
        clear HK5
        by_cases hlt : k < ts.length
        · have hkl : (k : Int) < (ts.length : Int) := by omega
          have HN := Lib.hid (take_next ts k hlt ((G1 : Int), (G2 : Int)))
          cases fv with
          | true =>
            have HF2 : Hid (true = true ↔ ((G1 : Int), (G2 : Int)) ∈ ts.take (k + 1)) := Lib.hid ⟨fun _ => HN.out.2 (.inl (HF.out.1 rfl)), fun _ => rfl⟩
            go_wp2_with fail
            refine region_kept (C := fun wx => Kp w5 wx [(b12, .cells #[.int .i64 G1, .int .i64 G2] 34), (b10, .cells #[.int .i64 RS, .int .i64 CS] 34), (b7, .cells #[.int .i64 G1, .int .i64 G2] 34), (b5, .cells #[.int .i64 G1, .int .i64 G2] 34), ((B + 1), .cells #[.int .i64 RS, .int .i64 CS] 34), (B, .cells #[.int .i64 R, .int .i64 C, .string s] 27)]) HR.out.drew (by kernel_rfl) (by kernel_rfl) ?_
            repeat
              (refine wq_step (fun K hK => ?_)
               go_simp
               first
                 | (refine hK _ ?_; clear hK K)
                 | (apply Exists.intro
                    refine ⟨fun wx hC => ?_, hK _ ?_⟩
                    · first
                      | with_reducible rfl
                      | (obtain ⟨q30, q31, -, -⟩ := cells2 (hC.at 3 rfl); go_simp; first | done | rfl)
                    clear hK K))
            refine wq_nil ?_
            intro w20 hC
            have HRw20 : Hid (Kp w5 w20 [(b12, .cells #[.int .i64 G1, .int .i64 G2] 34), (b10, .cells #[.int .i64 RS, .int .i64 CS] 34), (b7, .cells #[.int .i64 G1, .int .i64 G2] 34), (b5, .cells #[.int .i64 G1, .int .i64 G2] 34), ((B + 1), .cells #[.int .i64 RS, .int .i64 CS] 34), (B, .cells #[.int .i64 R, .int .i64 C, .string s] 27)]) := hC
            clear hC HR
            go_wp2_with fail
            go_roundw
            case rel => exact ⟨k + 1, true, by omega, rfl, by go_num, Lib.hid ⟨fun _ => HF2.out.1 (by trivial), fun _ => rfl⟩, HRw20⟩
            case measure => simp [intOf]; omega
          | false =>
            rcases HRV.out.2 with ⟨-, h0⟩ | ⟨q, off, cc, e, hq, hcs⟩
            · rw [h0] at hlt; exact absurd hlt (by simp)
            injection e with e1 _ e3
            subst e1 e3
            obtain ⟨c0, c1⟩ := hcs k hlt
            have HC0 : Hid (∀ wx, Kp w5 wx [(b12, .cells #[.int .i64 G1, .int .i64 G2] 34), (b10, .cells #[.int .i64 RS, .int .i64 CS] 34), (b7, .cells #[.int .i64 G1, .int .i64 G2] 34), (b5, .cells #[.int .i64 G1, .int .i64 G2] 34), ((B + 1), .cells #[.int .i64 RS, .int .i64 CS] 34), (B, .cells #[.int .i64 R, .int .i64 C, .string s] 27)] → wx.cell? ⟨q, off + k * 2, none⟩ = some (.int .i64 ts[k].1)) := fun wx hC => (hC.below.cell (p := ⟨q, off + k * 2, none⟩) hq).trans c0
            have HC1 : Hid (∀ wx, Kp w5 wx [(b12, .cells #[.int .i64 G1, .int .i64 G2] 34), (b10, .cells #[.int .i64 RS, .int .i64 CS] 34), (b7, .cells #[.int .i64 G1, .int .i64 G2] 34), (b5, .cells #[.int .i64 G1, .int .i64 G2] 34), ((B + 1), .cells #[.int .i64 RS, .int .i64 CS] 34), (B, .cells #[.int .i64 R, .int .i64 C, .string s] 27)] → wx.cell? ⟨q, off + k * 2 + 1, none⟩ = some (.int .i64 ts[k].2)) := fun wx hC => (hC.below.cell (p := ⟨q, off + k * 2 + 1, none⟩) hq).trans c1
            clear hcs c0 c1 hq
            have hnf : ¬ ((G1 : Int), (G2 : Int)) ∈ ts.take k := fun h => by have := HF.out.2 h; cases this
            generalize ts[k] = P at HN HC0 HC1
            obtain ⟨px, py⟩ := P
            by_cases he : px = (G1 : Int) ∧ py = (G2 : Int)
            · obtain ⟨rfl, rfl⟩ := he
              have HF2 : Hid (true = true ↔ ((G1 : Int), (G2 : Int)) ∈ ts.take (k + 1)) := Lib.hid ⟨fun _ => HN.out.2 (.inr rfl), fun _ => rfl⟩
              clear HN hnf
              go_wp2_with fail
              refine region_kept (C := fun wx => Kp w5 wx [(b12, .cells #[.int .i64 G1, .int .i64 G2] 34), (b10, .cells #[.int .i64 RS, .int .i64 CS] 34), (b7, .cells #[.int .i64 G1, .int .i64 G2] 34), (b5, .cells #[.int .i64 G1, .int .i64 G2] 34), ((B + 1), .cells #[.int .i64 RS, .int .i64 CS] 34), (B, .cells #[.int .i64 R, .int .i64 C, .string s] 27)]) HR.out.drew (by kernel_rfl) (by kernel_rfl) ?_
              repeat
                (refine wq_step (fun K hK => ?_)
                 go_simp
                 first
                   | (refine hK _ ?_; clear hK K)
                   | (apply Exists.intro
                      refine ⟨fun wx hC => ?_, hK _ ?_⟩
                      · first
                        | with_reducible rfl
                        | (obtain ⟨q30, q31, -, -⟩ := cells2 (hC.at 3 rfl); have r1 := HC0.out wx hC; have r2 := HC1.out wx hC; (try simp only at r1 r2); go_simp; first | done | rfl)
                      clear hK K))
              refine wq_nil ?_
              intro w20 hC
              have HRw20 : Hid (Kp w5 w20 [(b12, .cells #[.int .i64 G1, .int .i64 G2] 34), (b10, .cells #[.int .i64 RS, .int .i64 CS] 34), (b7, .cells #[.int .i64 G1, .int .i64 G2] 34), (b5, .cells #[.int .i64 G1, .int .i64 G2] 34), ((B + 1), .cells #[.int .i64 RS, .int .i64 CS] 34), (B, .cells #[.int .i64 R, .int .i64 C, .string s] 27)]) := hC
              clear hC HR
              go_wp2_with fail
              go_roundw
              case rel => exact ⟨k + 1, true, by omega, by simp, by go_num, Lib.hid ⟨fun _ => HF2.out.1 (by trivial), fun _ => rfl⟩, HRw20⟩
              case measure => simp [intOf]; omega
            · have HF2 : Hid (false = true ↔ ((G1 : Int), (G2 : Int)) ∈ ts.take (k + 1)) := Lib.hid ⟨fun h => (by cases h), fun h => by
                rcases HN.out.1 h with h | h
                · exact absurd h hnf
                · injection h with h5 h6
                  exact absurd ⟨h5, h6⟩ he⟩
              have hne : (¬ px = (G1 : Int)) ∨ (px = (G1 : Int) ∧ ¬ py = (G2 : Int)) := by
                by_cases h : px = (G1 : Int)
                · exact .inr ⟨h, fun h2 => he ⟨h, h2⟩⟩
                · exact .inl h
              clear HN hnf he
              rcases hne with hbq | ⟨rfl, hbq⟩
              all_goals
                have HBQ := Lib.hid hbq
                clear hbq
                go_wp2_with fail
                refine region_kept (C := fun wx => Kp w5 wx [(b12, .cells #[.int .i64 G1, .int .i64 G2] 34), (b10, .cells #[.int .i64 RS, .int .i64 CS] 34), (b7, .cells #[.int .i64 G1, .int .i64 G2] 34), (b5, .cells #[.int .i64 G1, .int .i64 G2] 34), ((B + 1), .cells #[.int .i64 RS, .int .i64 CS] 34), (B, .cells #[.int .i64 R, .int .i64 C, .string s] 27)]) HR.out.drew (by kernel_rfl) (by kernel_rfl) ?_
                repeat
                  (refine wq_step (fun K hK => ?_)
                   go_simp
                   first
                     | (refine hK _ ?_; clear hK K)
                     | (apply Exists.intro
                        refine ⟨fun wx hC => ?_, hK _ ?_⟩
                        · first
                          | with_reducible rfl
                          | (obtain ⟨q30, q31, -, -⟩ := cells2 (hC.at 3 rfl); have r1 := HC0.out wx hC; have r2 := HC1.out wx hC; (try simp only at r1 r2); have hbq := HBQ.out; go_simp; first | done | rfl)
                        clear hK K))
                refine wq_nil ?_
                intro w20 hC
                have HRw20 : Hid (Kp w5 w20 [(b12, .cells #[.int .i64 G1, .int .i64 G2] 34), (b10, .cells #[.int .i64 RS, .int .i64 CS] 34), (b7, .cells #[.int .i64 G1, .int .i64 G2] 34), (b5, .cells #[.int .i64 G1, .int .i64 G2] 34), ((B + 1), .cells #[.int .i64 RS, .int .i64 CS] 34), (B, .cells #[.int .i64 R, .int .i64 C, .string s] 27)]) := hC
                clear hC HR
                go_wp2_with fail
                go_roundw
                case rel => exact ⟨k + 1, false, by omega, by simp, by go_num, Lib.hid ⟨fun h => (by cases h), fun h => by have := HF2.out.2 h; cases this⟩, HRw20⟩
                case measure => simp [intOf]; omega
        · obtain rfl : k = ts.length := by omega
          have hfv : fv = true := HF.out.2 (by rw [List.take_of_length_le (Nat.le_refl _)]; exact HMEM.out)
          subst hfv
          obtain ⟨cb50, cb51, -, -⟩ := cells2 (HR.out.at 3 rfl)
          obtain ⟨cB0, cB1, cB2, -, -, -⟩ := cells3 (HR.out.at 5 rfl)
          go_wp2_with fail
          refine (HCG.out _).mono ?_
          rintro e w30 ⟨rfl, hb30⟩
          have HK30 := Lib.hid (HR.out.later hb30)
          clear hb30 HR
          clear cb50 cb51 cB0 cB1 cB2
          obtain ⟨cb100, cb101, -, -⟩ := cells2 (HK30.out.at 1 rfl)
          obtain ⟨cBp10, cBp11, -, -⟩ := cells2 (HK30.out.at 4 rfl)
          obtain ⟨cb120, cb121, -, -⟩ := cells2 (HK30.out.at 0 rfl)
          obtain ⟨cb50, cb51, -, -⟩ := cells2 (HK30.out.at 3 rfl)
          go_wp2_with fail
          go_ret
          exact ⟨rfl, HBW.out.trans (HK30.out.below.mono HBW.out.size)⟩
end Go.Proofs.YtgmhddceeomjbaaGreatDoor.fnGrow
