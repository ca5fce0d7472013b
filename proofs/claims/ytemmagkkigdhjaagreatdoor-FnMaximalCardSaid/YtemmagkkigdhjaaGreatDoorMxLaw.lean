/-
  The walk of the drawn law on maximal rectangles.
-/
import Derived.Test.YtemmagkkigdhjaaGreatDoorJn19
import Derived.Test.YtemmagkkigdhjaaGreatDoorJn30
import Derived.Test.YtemmagkkigdhjaaGreatDoorJn17
import Derived.Test.YtemmagkkigdhjaaGreatDoorJn16
import Derived.Test.YtemmagkkigdhjaaGreatDoorJn26
import Derived.Test.YtemmagkkigdhjaaGreatDoorJn29
namespace Go.Proofs.YtemmagkkigdhjaaGreatDoor.fnMaximal
open Go.RowKit Go.Proofs.YtemmagkkigdhjaaGreatDoor.Plain Go.Proofs.YtemmagkkigdhjaaGreatDoor.Base Go.Proofs.YtemmagkkigdhjaaGreatDoor.Valid Go.Proofs.YtemmagkkigdhjaaGreatDoor.Entry Go.Proofs.YtemmagkkigdhjaaGreatDoor.Rect Go.Proofs.YtemmagkkigdhjaaGreatDoor.MaxM Go.Proofs.YtemmagkkigdhjaaGreatDoor.MaxC Go.Proofs.YtemmagkkigdhjaaGreatDoor.GrowY Go.Proofs.YtemmagkkigdhjaaGreatDoor.Rd Go.Proofs.YtemmagkkigdhjaaGreatDoor.Kept Go.Proofs.YtemmagkkigdhjaaGreatDoor.MxM
open Go.Proofs.YtemmagkkigdhjaaGreatDoor.Marks (rv_own)
open Go.Proofs.YtemmagkkigdhjaaGreatDoor.Rects (RV)
open Go.Proofs.YtemmagkkigdhjaaGreatDoor.Rd4 (cells2)
open Go.Proofs.YtemmagkkigdhjaaGreatDoor.Rd5 (cells3)
open Go.Proofs.YtemmagkkigdhjaaGreatDoor.Rd6 (minfo3)
open Go.Proofs.YtemmagkkigdhjaaGreatDoor.Free (fill wp_value wp_enter wp_load_row)
open Go.Proofs.YtemmagkkigdhjaaGreatDoor.FreeK (wp_region_acts put_other)
set_option linter.unusedVariables false
set_option linter.unusedSimpArgs false

theorem eval_get {a : Act} {d : Tmp} {v : Value} (h : a.tmps[d]?.getD undef = v) : a.eval (.tmp d) = v := by
  rw [← h]
  show a.tmps.getD d undef = _
  simp [Array.getD_eq_getD_getElem?]
theorem wp_made {P : Program} {o : Oper} {a : Act} {w : World} {K : Act → World → Prop} {Q : Exit → Act → World → Prop} (w' : World) (v : Value) (h : (execOp a.eval o).run P w = .ok (.value v) w') (hK : K (a.put o.dst v) w') : o.wp P a w K Q := by
  unfold Oper.wp
  rw [h]
  exact hK
theorem rinfo2 : (Tryz.prog.info? 31).map (·.size) = some 2 := by kernel_rfl
/-- what each operation of the growing yields -/
def Yr (w4 : World) (R C : Nat) (s : ByteArray) (L P : Value) (k RS CS : Nat) : Nat → Value → Act → World → Prop
  | 0, v, _, _ => v = mat R C s
  | 1, v, _, _ => v = L
  | 2, v, _, _ => v = .int .i64 (k : Int)
  | 3, v, _, _ => v = P
  | 4, v, _, _ => v = rect (RS : Int) (CS : Int)
  | 5, v, _, _ => v = .tuple #[rect (RS : Int) (CS : Int), .bool true]
  | 6, v, _, _ => v = .tuple #[rect (RS : Int) (CS : Int), .bool true]
  | 7, v, _, _ => v = rect (RS : Int) (CS : Int)
  | 8, v, _, _ => v = .bool true
  | 9, v, _, w => ∃ g, v = .pointer (some ⟨g, 0, none⟩) ∧ w4.heap.size ≤ g ∧ ∃ x y : Int, w.heap[g]? = some (.cells #[.int .i64 x, .int .i64 y] 31 (0, 0))
  | 10, _, a, w => ∃ g, a.tmps[9]? = some (.pointer (some ⟨g, 0, none⟩)) ∧ w4.heap.size ≤ g ∧ w.heap[g]? = some (.cells #[.int .i64 (RS : Int), .int .i64 (CS : Int)] 31 (0, 0))
  | 11, v, _, _ => v = .bool true
  | _, _, _, _ => True
theorem Yr.later {w4 : World} {R C : Nat} {s : ByteArray} {L P : Value} {k RS CS j : Nat} {u : Value} {a a' : Act} {w w' : World} (h : Yr w4 R C s L P k RS CS j u a w) (hb : Below w.heap.size w w') (ha : j = 10 → a'.tmps[9]? = a.tmps[9]?) : Yr w4 R C s L P k RS CS j u a' w' := by
  match j, h with
  | 9, h =>
    obtain ⟨g, e, hg, x, y, hc⟩ := h
    exact ⟨g, e, hg, x, y, (hb.block _ (Array.getElem?_eq_some_iff.1 hc).1).trans hc⟩
  | 10, h =>
    obtain ⟨g, e, hg, hc⟩ := h
    exact ⟨g, (ha rfl).trans e, hg, (hb.block _ (Array.getElem?_eq_some_iff.1 hc).1).trans hc⟩
  | 0, h | 1, h | 2, h | 3, h | 4, h | 5, h | 6, h | 7, h | 8, h | 11, h => exact h
  | n + 12, _ => trivial
/-- what is known of each maximal rectangle -/
def El (R C : Nat) (s : ByteArray) (bv : Int) (p : Int × Int) : Prop := ∃ RS CS : Nat, p = ((RS : Int), (CS : Int)) ∧ 1 ≤ ar p ∧
  (∀ W, Calls Tryz.prog 8 #[mat R C s, rect (RS : Int) (CS : Int)] W fun e w' => e = .returned (.tuple #[rect (RS : Int) (CS : Int), .bool true]) ∧ Below W.heap.size W w') ∧
  (∀ W, Calls Tryz.prog 9 #[mat R C s, rect (RS : Int) (CS : Int)] W fun e w' => e = .returned (.int .i64 bv) ∧ Below W.heap.size W w') ∧
  (∀ W, Calls Tryz.prog 10 #[rect (RS : Int) (CS : Int)] W fun e w' => e = .returned (.int .i64 (ar p)) ∧ Below W.heap.size W w') ∧ ar p ≤ 64
theorem ar_bounds (RS CS : Nat) (h : someB (RS : Int) (CS : Int) = true) (k1 : 1 ≤ RS) (k2 : RS < 256) (k3 : 1 ≤ CS) (k4 : CS < 256) : 1 ≤ ar ((RS : Int), (CS : Int)) ∧ ar ((RS : Int), (CS : Int)) ≤ 64 := by
  unfold ar
  rw [if_pos h]
  have hpos : ∀ n : Fin 256, 1 ≤ n.val → 1 ≤ Pat.pop8 n.val := by decide +kernel
  have a1 := hpos ⟨RS, k2⟩ k1
  have a2 := hpos ⟨CS, k4⟩ k3
  have b1 := Pat.pop8_le RS
  have b2 := Pat.pop8_le CS
  simp only [Int.toNat_natCast] at *
  have m1 : 1 * 1 ≤ Pat.pop8 RS * Pat.pop8 CS := Nat.mul_le_mul a1 a2
  have m2 : Pat.pop8 RS * Pat.pop8 CS ≤ 8 * 8 := Nat.mul_le_mul b1 b2
  omega
theorem els (E : Nat → Nat → Bool) (R C : Nat) (h1 : 1 ≤ R) (h2 : R ≤ 8) (h3 : 1 ≤ C) (h4 : C ≤ 8) (b : Bool) (p : Int × Int) (hp : p ∈ mx E b R C (2 ^ R - 1)) : El R C (str (rowsB E R C)) (bitI b) p := by
  obtain ⟨RS, CS, rfl, k1, k2, k3, k4, hpl, hr, hc⟩ := mem_plain E b R C p hp
  have hqR : 2 ^ R ≤ 256 := Nat.pow_le_pow_right (n := 2) (by decide) h2
  have hqC : 2 ^ C ≤ 256 := Nat.pow_le_pow_right (n := 2) (by decide) h4
  have hsm := some_of R C h2 h4 RS CS k1 k2 k3 k4
  have hab := ar_bounds RS CS hsm k1 (by omega) k3 (by omega)
  have hg := MxC.grow_im E R C h1 h2 h3 h4 RS CS k1 k2 k3 k4 (by omega) (by omega) b hpl
  rw [hr, hc] at hg
  exact ⟨RS, CS, rfl, hab.1, hg, fun W => MxC.col_plain_im E R C h1 h2 h3 h4 RS CS k1 k2 k3 k4 (by omega) (by omega) b hpl W, fun W => Largest.impl_ar ((RS : Int), (CS : Int)) W, hab.2⟩
theorem top_le (ts : List (Int × Int)) (h : ∀ p ∈ ts, 1 ≤ ar p ∧ ar p ≤ 64) : ∀ k, k ≤ ts.length → 0 ≤ topA ts k ∧ topA ts k ≤ 64
  | 0, _ => by simp [topA]
  | k + 1, hk => by
    have ih := top_le ts h k (by omega)
    have hkl : k < ts.length := by omega
    have hm := h _ (List.getElem_mem hkl)
    rw [topA, getElem!_pos ts k hkl]
    omega

set_option maxHeartbeats 16000000 in
set_option maxRecDepth 100000 in
theorem walk (v : Value) (n : Nat) (w : World) (h : ByteArg w v n) :
    Calls Tryz.prog 3 #[v] w fun e w' => e = .returned (.bool true) ∧ Below w.heap.size w w' := by
  obtain ⟨hn0, a, cap, rfl, hc, hb0⟩ := id h
  clear hb0
  have HD := Lib.hid (DrawMx.draw_any _ n w h)
  clear h
  by_cases hbig : 1048576 < n
  · have hbi : (1048576 : Int) < (n : Int) := by omega
    go_enter Tryz.func3, Tryz.ntmps3
    go_wp2_with fail
    go_ret
    exact ⟨rfl, Below.refl _ _⟩
  have hbi : ¬ (1048576 : Int) < (n : Int) := by omega
  go_enter Tryz.func3, Tryz.ntmps3
  go_wp2_with fail
  refine HD.out.mono ?_
  rintro e w1 ⟨a, b, t, x, rfl, ht, hx, hb⟩
  have hts : t.size ≤ maxLen := by unfold maxLen; omega
  obtain ⟨B, hB⟩ : ∃ B, w1.heap.size = B := ⟨_, rfl⟩
  have HK1 := Lib.hid (((Kp.nil w).later hb).put (.cells #[.int .i64 a, .int .i64 b, .string t] 24) hB)
  have HV := Lib.hid (impl_valid a b t hts)
  clear hb HD hbig hbi
  by_cases hok : validB a b t = true ∧ (x = 0 ∨ x = 1)
  · obtain ⟨hv, hx01⟩ := hok
    obtain ⟨R, C, E, rfl, rfl, h1, h2, h3, h4, rfl⟩ := valid_form hv
    obtain ⟨bt, rfl⟩ : ∃ bt, x = bitI bt := by rcases hx01 with rfl | rfl; exact ⟨false, rfl⟩; exact ⟨true, rfl⟩
    rw [hv] at HV
    have hmi := fun W => MxC.max_impl E R C h1 h2 h3 h4 bt W
    have hms := fun W => MxC.spec_max E R C h1 h2 h3 h4 bt W
    have hml := MxC.max_len E R C h1 h2 h3 h4 bt
    have hli := fun W => MxC.large_impl E R C h1 h2 h3 h4 bt W
    have hls := fun W => MxC.large_spec E R C h1 h2 h3 h4 bt W
    have htu := fun W => TurnM.turn_yes E R C h1 h2 h3 h4 W
    have hot := fun W => ColF.other_yes E R C h1 h2 h3 h4 W
    have hmt := fun W => MxC.max_impl (fun x y => E y x) C R h3 h4 h1 h2 bt W
    have hmtl := MxC.max_len (fun x y => E y x) C R h3 h4 h1 h2 bt
    have hmtn := turn_len E bt R C h1 h3
    have hmo := fun W => MxC.max_impl (fun x y => !E x y) R C h1 h2 h3 h4 (!bt) W
    rw [mx_other] at hmo
    have hcv := fun v W hv => MxC.cover_yes E R C h1 h2 h3 h4 bt v W hv
    have hel : ∀ p ∈ mx E bt R C (2 ^ R - 1), El R C (str (rowsB E R C)) (bitI bt) p := fun p hp => els E R C h1 h2 h3 h4 bt p hp
    have hri := mx_rises E bt R C (2 ^ R - 1)
    have hbn : bitI (!bt) = 1 - bitI bt := by cases bt <;> rfl
    rw [hbn] at hmo
    have hbv : 0 ≤ bitI bt ∧ bitI bt ≤ 1 := by cases bt <;> decide
    generalize bitI bt = bv at *
    generalize mx E bt R C (2 ^ R - 1) = ts at *
    generalize mx (fun x y => E y x) bt C R (2 ^ C - 1) = tT at *
    generalize str (rowsB E R C) = s at *
    generalize str (rowsB (fun x y => E y x) C R) = sT at *
    generalize str (rowsB (fun x y => !E x y) R C) = sO at *
    have HMI := Lib.hid hmi
    have HMS := Lib.hid hms
    have HLI := Lib.hid hli
    have HLS := Lib.hid hls
    have HTU := Lib.hid htu
    have HOT := Lib.hid hot
    have HMT := Lib.hid hmt
    have HMO := Lib.hid hmo
    have HCV := Lib.hid hcv
    have HEL := Lib.hid hel
    have HRI := Lib.hid hri
    obtain ⟨bv0, bv1⟩ := hbv
    have HTOP := Lib.hid (top_le ts (fun p hp => by obtain ⟨_, _, _, k1, _, _, _, k2⟩ := hel p hp; exact ⟨k1, k2⟩))
    have HBEST := Lib.hid (top_best ts (fun p hp => by obtain ⟨_, _, _, k1, _⟩ := hel p hp; exact k1) ts.length (Nat.le_refl _))
    clear hmi hms hli hls htu hot hmt hmo hcv hel hri hbn hv hts ht hx hx01
    obtain ⟨cB0, cB1, cB2, -, -, -⟩ := cells3 (HK1.out.at 0 rfl)
    go_wp2_with fail
    refine (HMI.out _).mono ?_
    rintro e w2 ⟨v1, rfl, ho1, hb2⟩
    have hrv1 := rv_own ho1 hml
    have HK2 := Lib.hid (HK1.out.later hb2)
    clear ho1 hb2 HK1 hB cB0 cB1 cB2
    obtain ⟨p1, c1, rfl⟩ := hrv1.slice
    obtain ⟨cB0, cB1, cB2, -, -, -⟩ := cells3 (HK2.out.at 0 rfl)
    go_wp2_with fail
    refine (HMS.out _).mono ?_
    rintro e w3 ⟨v2, rfl, ho2, hb3⟩
    have hrv2 := rv_own ho2 hml
    have hrv1 := (hrv1.later (Nat.le_refl _) hb3).mono hb3.size
    have HK3 := Lib.hid (HK2.out.later hb3)
    clear ho2 hb3 HK2 cB0 cB1 cB2
    obtain ⟨p2, c2, rfl⟩ := hrv2.slice
    obtain ⟨cB0, cB1, cB2, -, -, -⟩ := cells3 (HK3.out.at 0 rfl)
    go_wp2_with fail
    refine (HV.out _).mono ?_
    rintro e w4 ⟨rfl, hb4⟩
    have HRV1 := Lib.hid ((hrv1.later (Nat.le_refl _) hb4).mono hb4.size)
    have HRV2 := Lib.hid ((hrv2.later (Nat.le_refl _) hb4).mono hb4.size)
    have HK40 := Lib.hid (HK3.out.later hb4)
    have HBW := Lib.hid HK40.out.below
    have HK4 : Hid (Kp w4 w4 [(B, (.cells #[.int .i64 (R : Int), .int .i64 (C : Int), .string s] 24 (0, 0)))]) := ⟨HK40.out.all, Below.refl _ _⟩
    clear hb4 HK3 HK40 hrv1 hrv2 cB0 cB1 cB2
    go_wp2_with fail
    go_loopw [7, 8] (fun bb i wr => ∃ k : Nat, k ≤ ts.length ∧ bb = .int .i64 (topA ts k) ∧ i = .int .i64 (k : Int) ∧ Hid (Kp w4 wr [(B, (.cells #[.int .i64 (R : Int), .int .i64 (C : Int), .string s] 24 (0, 0)))])) (fun _ i _ => ts.length - (intOf i).toNat)
    case atStart => exact ⟨0, by omega, rfl, rfl, HK4⟩
    case round =>
      obtain ⟨k, hk, rfl, rfl, HR⟩ := hrel
      clear HK4
      by_cases hlt : k < ts.length
      · have hkl : (k : Int) < (ts.length : Int) := by omega
        rcases HRV1.out.2 with ⟨-, h0⟩ | ⟨q1, o1, cc1, e1, hq1, hcs1⟩
        · rw [h0] at hlt; exact absurd hlt (by simp)
        injection e1 with e1 _ e3
        subst e1 e3
        rcases HRV2.out.2 with ⟨-, h0⟩ | ⟨q2, o2, cc2, e2, hq2, hcs2⟩
        · rw [h0] at hlt; exact absurd hlt (by simp)
        injection e2 with e2 _ e4
        subst e2 e4
        obtain ⟨a0, a1⟩ := hcs1 k hlt
        obtain ⟨b0, b1⟩ := hcs2 k hlt
        have HA0 : Hid (∀ wx, Below w4.heap.size w4 wx → wx.cell? ⟨q1, o1 + k * 2, none⟩ = some (.int .i64 ts[k].1)) := fun wx h => (h.cell (p := ⟨q1, o1 + k * 2, none⟩) hq1).trans a0
        have HA1 : Hid (∀ wx, Below w4.heap.size w4 wx → wx.cell? ⟨q1, o1 + k * 2 + 1, none⟩ = some (.int .i64 ts[k].2)) := fun wx h => (h.cell (p := ⟨q1, o1 + k * 2 + 1, none⟩) hq1).trans a1
        have HB0 : Hid (∀ wx, Below w4.heap.size w4 wx → wx.cell? ⟨q2, o2 + k * 2, none⟩ = some (.int .i64 ts[k].1)) := fun wx h => (h.cell (p := ⟨q2, o2 + k * 2, none⟩) hq2).trans b0
        have HB1 : Hid (∀ wx, Below w4.heap.size w4 wx → wx.cell? ⟨q2, o2 + k * 2 + 1, none⟩ = some (.int .i64 ts[k].2)) := fun wx h => (h.cell (p := ⟨q2, o2 + k * 2 + 1, none⟩) hq2).trans b1
        have HPV : Hid (∀ j, j + 1 = k → ∃ P : Int, P < ts[k].1 ∧ ∀ wx, Below w4.heap.size w4 wx → wx.cell? ⟨q1, o1 + j * 2, none⟩ = some (.int .i64 P)) := fun j hj => by
          have hjl : j < ts.length := by omega
          exact ⟨ts[j].1, (List.pairwise_iff_getElem.1 HRI.out) j k hjl hlt (by omega), fun wx h => (h.cell (p := ⟨q1, o1 + j * 2, none⟩) hq1).trans (hcs1 j hjl).1⟩
        have hE := HEL.out ts[k] (List.getElem_mem hlt)
        have htn : topA ts (k + 1) = max (topA ts k) (ar ts[k]) := by rw [topA, getElem!_pos ts k hlt]
        have HTK := Lib.hid (HTOP.out k (by omega))
        generalize topA ts k = T0 at *
        generalize ts[k] = PK at *
        obtain ⟨RS, CS, rfl, hpos, hG, hCo, hAr, har64⟩ := hE
        have HG := Lib.hid hG
        have HCO := Lib.hid hCo
        have HAR := Lib.hid hAr
        have HPOS := Lib.hid (And.intro hpos har64)
        generalize ar ((RS : Int), (CS : Int)) = AV at *
        have HTN := Lib.hid htn
        simp only at HA0 HA1 HB0 HB1 HPV
        clear a0 a1 b0 b1 hcs1 hcs2 hq1 hq2 hpos hG hCo hAr har64 htn
        go_wp2_with fail
        refine wp_region_acts (Yr w4 R C s (.slice (some ⟨q1, o1, none⟩) ts.length c1) (.pointer (some ⟨q1, o1 + k * 2, none⟩)) k RS CS) (fun _ wx => Kp w4 wx [(B, (.cells #[.int .i64 (R : Int), .int .i64 (C : Int), .string s] 24 (0, 0)))]) (by kernel_rfl) (by kernel_rfl) rfl ?t0 ?con ?en
        case t0 => exact HR.out.drew
        case con =>
          intro i oo ho a wx l hT hli hcl hdp hf
          match i, ho with
          | 0, ho =>
            obtain rfl := Option.some.inj ho
            have b3 : a.tmps[3]?.getD undef = .pointer (some ⟨B, 0, none⟩) := hf.2 3 (by kernel_rfl)
            exact wp_load_row 24 (.tmp 3) rfl B (eval_get b3) 24 _ (0, 0) _ (hT.at 0 rfl) Tryz.underlying24 rfl minfo3 ⟨_, rfl, rfl, hT, fun j u _ hj hY => hY.later (Below.refl _ _) (fun _ => put_other _ (by decide))⟩
          | 1, ho =>
            obtain rfl := Option.some.inj ho
            have b5 : a.tmps[5]?.getD undef = .slice (some ⟨q1, o1, none⟩) ts.length c1 := hf.2 5 (by kernel_rfl)
            exact wp_value (.slice (some ⟨q1, o1, none⟩) ts.length c1) (by unfold execOp; go_simp) ⟨_, rfl, rfl, hT, fun j u _ hj hY => hY.later (Below.refl _ _) (fun _ => put_other _ (by decide))⟩
          | 2, ho =>
            obtain rfl := Option.some.inj ho
            have b8 : a.tmps[8]?.getD undef = .int .i64 (k : Int) := hf.2 8 (by kernel_rfl)
            exact wp_value (.int .i64 (k : Int)) (by unfold execOp; go_simp) ⟨_, rfl, rfl, hT, fun j u _ hj hY => hY.later (Below.refl _ _) (fun _ => put_other _ (by decide))⟩
          | 3, ho =>
            obtain rfl := Option.some.inj ho
            have e64 : a.tmps[64]?.getD undef = .slice (some ⟨q1, o1, none⟩) ts.length c1 := hf.1 ⟨1, .data⟩ (by simp) rfl _ 64 rfl rfl
            have e65 : a.tmps[65]?.getD undef = .int .i64 (k : Int) := hf.1 ⟨2, .data⟩ (by simp) rfl _ 65 rfl rfl
            exact wp_value (.pointer (some ⟨q1, o1 + k * 2, none⟩)) (by unfold execOp; go_simp) ⟨_, rfl, rfl, hT, fun j u _ hj hY => hY.later (Below.refl _ _) (fun _ => put_other _ (by decide))⟩
          | 4, ho =>
            obtain rfl := Option.some.inj ho
            have e66 : a.tmps[66]?.getD undef = .pointer (some ⟨q1, o1 + k * 2, none⟩) := hf.1 ⟨3, .data⟩ (by simp) rfl _ 66 rfl rfl
            have k0 := HA0.out wx hT.below
            have k1 := HA1.out wx hT.below
            exact wp_value (rect (RS : Int) (CS : Int)) (by unfold execOp; go_simp) ⟨_, rfl, rfl, hT, fun j u _ hj hY => hY.later (Below.refl _ _) (fun _ => put_other _ (by decide))⟩
          | 5, ho =>
            obtain rfl := Option.some.inj ho
            have e63 : a.tmps[63]?.getD undef = mat R C s := hf.1 ⟨0, .data⟩ (by simp) rfl _ 63 rfl rfl
            have e67 : a.tmps[67]?.getD undef = rect (RS : Int) (CS : Int) := hf.1 ⟨4, .data⟩ (by simp) rfl _ 67 rfl rfl
            exact wp_enter 8 #[mat R C s, rect (RS : Int) (CS : Int)] (.tuple #[rect (RS : Int) (CS : Int), .bool true]) _ (by unfold execOp; go_simp) (HG.out wx) (fun w' h => ⟨_, rfl, rfl, hT.later h, fun j u _ hj hY => hY.later h (fun _ => put_other _ (by decide))⟩)
          | 6, ho =>
            obtain rfl := Option.some.inj ho
            have e68 : a.tmps[68]?.getD undef = .tuple #[rect (RS : Int) (CS : Int), .bool true] := hf.1 ⟨5, .data⟩ (by simp) rfl _ 68 rfl rfl
            exact wp_value (.tuple #[rect (RS : Int) (CS : Int), .bool true]) (by unfold execOp; go_simp) ⟨_, rfl, rfl, hT, fun j u _ hj hY => hY.later (Below.refl _ _) (fun _ => put_other _ (by decide))⟩
          | 7, ho =>
            obtain rfl := Option.some.inj ho
            have e62 : a.tmps[62]?.getD undef = .tuple #[rect (RS : Int) (CS : Int), .bool true] := hf.1 ⟨6, .data⟩ (by simp) rfl _ 62 rfl rfl
            exact wp_value (rect (RS : Int) (CS : Int)) (by unfold execOp; go_simp) ⟨_, rfl, rfl, hT, fun j u _ hj hY => hY.later (Below.refl _ _) (fun _ => put_other _ (by decide))⟩
          | 8, ho =>
            obtain rfl := Option.some.inj ho
            have e62 : a.tmps[62]?.getD undef = .tuple #[rect (RS : Int) (CS : Int), .bool true] := hf.1 ⟨6, .data⟩ (by simp) rfl _ 62 rfl rfl
            exact wp_value (.bool true) (by unfold execOp; go_simp) ⟨_, rfl, rfl, hT, fun j u _ hj hY => hY.later (Below.refl _ _) (fun _ => put_other _ (by decide))⟩
          | 9, ho =>
            obtain rfl := Option.some.inj ho
            exact wp_made (wx.alloc (.cells #[.int .i64 0, .int .i64 0] 31)) (.pointer (some ⟨wx.heap.size, 0, none⟩)) (by unfold execOp; go_simp) ⟨_, rfl, ⟨wx.heap.size, rfl, hT.below.size, 0, 0, heap_alloc_new _ _⟩, hT.later ((Below.refl _ _).alloc (Nat.le_refl _) _), fun j u _ hlj hY => hY.later ((Below.refl _ _).alloc (Nat.le_refl _) _) (fun e => by subst e; rw [hcl 10 _ rfl hlj ⟨9, .data⟩ (by simp) rfl] at hli; cases hli)⟩
          | 10, ho =>
            obtain rfl := Option.some.inj ho
            obtain ⟨g, e9, hg0, x0, y0, hrow⟩ : ∃ g, a.tmps[9]?.getD undef = .pointer (some ⟨g, 0, none⟩) ∧ w4.heap.size ≤ g ∧ ∃ x y : Int, wx.heap[g]? = some (.cells #[.int .i64 x, .int .i64 y] 31 (0, 0)) := hf.1 ⟨9, .data⟩ (by simp) rfl _ 9 rfl rfl
            have e69 : a.tmps[69]?.getD undef = rect (RS : Int) (CS : Int) := hf.1 ⟨7, .data⟩ (by simp) rfl _ 69 rfl rfl
            have hgB : B ≠ g := fun e => by
              have hBr : wx.heap[B]? = some (.cells #[.int .i64 (R : Int), .int .i64 (C : Int), .string s] 24 (0, 0)) := hT.at 0 rfl
              rw [e, hrow] at hBr
              simp at hBr
            refine wp_store_row 31 (.tmp 9) (.tmp 69) rfl g #[.int .i64 (RS : Int), .int .i64 (CS : Int)] (eval_get e9) (eval_get e69) 31 _ hrow rinfo2 rfl (by simp [Value.oneCell']) ⟨undef, rfl, ?_, ?_, fun j u hj hlj hY => ?_⟩
            · refine ⟨g, ?_, hg0, Go.Proofs.YtemmagkkigdhjaaGreatDoor.Free.setRow_kept hrow _⟩
              cases h : a.tmps[9]? with
              | none => rw [h] at e9; cases e9
              | some x => rw [h] at e9; exact e9 ▸ h
            · refine ⟨fun p hp => ?_, Go.Proofs.YtemmagkkigdhjaaGreatDoor.Free.setRow_below hT.below hg0 _⟩
              have hall := hT.all p hp
              simp only [List.mem_cons, List.not_mem_nil, or_false] at hp
              subst hp
              exact (Go.Proofs.YtemmagkkigdhjaaGreatDoor.Free.setRow_other hgB _).trans hall
            · match j, hY with
              | 9, hY =>
                obtain ⟨g2, e, hg2, x, y, hc⟩ := hY
                by_cases e2 : g2 = g
                · subst e2; exact ⟨g2, e, hg2, _, _, Go.Proofs.YtemmagkkigdhjaaGreatDoor.Free.setRow_kept hrow _⟩
                · exact ⟨g2, e, hg2, x, y, (Go.Proofs.YtemmagkkigdhjaaGreatDoor.Free.setRow_other e2 _).trans hc⟩
              | 10, hY => exact absurd rfl hj
              | 0, hY | 1, hY | 2, hY | 3, hY | 4, hY | 5, hY | 6, hY | 7, hY | 8, hY | 11, hY => exact hY
              | n + 12, _ => trivial
          | 11, ho =>
            obtain rfl := Option.some.inj ho
            have e70 : a.tmps[70]?.getD undef = .bool true := hf.1 ⟨8, .data⟩ (by simp) rfl _ 70 rfl rfl
            exact wp_value (.bool true) (by unfold execOp; go_simp) ⟨_, rfl, rfl, hT, fun j u _ hj hY => hY.later (Below.refl _ _) (fun _ => put_other _ (by decide))⟩
          | q + 12, ho => simp at ho
        case en =>
          intro vs w6 hT hall
          obtain ⟨g, e10, hg0, hMg⟩ := hall 10 _ rfl
          have e11 : vs 11 = .bool true := hall 11 _ rfl
          have e9 : vs 9 = .pointer (some ⟨g, 0, none⟩) := by
            obtain ⟨g2, e2, _⟩ := hall 9 _ rfl
            rw [e2]
            simp only [fill, Act.put] at e10
            rw [e2] at e10
            simp [Array.getElem?_setIfInBounds] at e10
            rw [e10]
          have HK6 : Hid (Kp w4 w6 [(g, (.cells #[.int .i64 (RS : Int), .int .i64 (CS : Int)] 31 (0, 0))), (B, (.cells #[.int .i64 (R : Int), .int .i64 (C : Int), .string s] 24 (0, 0)))]) := ⟨fun p hp => by
            rcases List.mem_cons.1 hp with rfl | hp
            · exact hMg
            · exact hT.all p hp, hT.below⟩
          clear hT hall e10 hg0 hMg HR
          simp only [fill, Act.put]
          rw [e9, e11]
          clear e9 e11
          go_simp
          go_wp2_with fail
          rcases Nat.eq_zero_or_pos k with hk0 | hk0
          · have hnk : ¬ (0 : Int) < (k : Int) := by omega
            have hnk2 : ¬ 0 < k := by omega
            clear hk0
            refine region_kept (C := fun wx => Kp w4 wx [(g, (.cells #[.int .i64 (RS : Int), .int .i64 (CS : Int)] 31 (0, 0))), (B, (.cells #[.int .i64 (R : Int), .int .i64 (C : Int), .string s] 24 (0, 0)))]) HK6.out.drew (by kernel_rfl) (by kernel_rfl) ?_
            repeat
              (refine wq_step (fun K hK => ?_)
               go_simp
               first
                 | (refine hK _ ?_; clear hK K)
                 | (apply Exists.intro
                    refine ⟨fun wx hC => ?_, hK _ ?_⟩
                    · first
                      | with_reducible rfl
                      | with_reducible exact hC.call (HCO.out wx)
                      | (obtain ⟨g0, g1, -, -⟩ := cells2 (hC.at 0 rfl); obtain ⟨m0, m1, m2, -, -, -⟩ := cells3 (hC.at 1 rfl); have r1 := HA0.out wx hC.below; have r2 := HA1.out wx hC.below; have r3 := HB0.out wx hC.below; have r4 := HB1.out wx hC.below; go_simp; first | done | rfl)
                    clear hK K))
            refine wq_nil ?_
            intro w7 hC
            have HK7 : Hid (Kp w4 w7 [(g, (.cells #[.int .i64 (RS : Int), .int .i64 (CS : Int)] 31 (0, 0))), (B, (.cells #[.int .i64 (R : Int), .int .i64 (C : Int), .string s] 24 (0, 0)))]) := hC
            clear hC HK6
            go_simp
            have r1 := HA0.out w7 HK7.out.below
            have r2 := HA1.out w7 HK7.out.below
            go_wp2_with fail
            refine (HAR.out _).mono ?_
            rintro e w8 ⟨rfl, hb8⟩
            have HK8 : Hid (Kp w4 w8 [(B, (.cells #[.int .i64 (R : Int), .int .i64 (C : Int), .string s] 24 (0, 0)))]) := (HK7.out.later hb8).sub (by simp)
            clear hb8 HK7 r1 r2
            go_wp2_with fail
            go_roundw
            case rel => exact ⟨k + 1, by omega, by rw [HTN.out], by go_num, HK8⟩
            case measure => simp [intOf]; omega
          · obtain ⟨j, hj⟩ : ∃ j, j + 1 = k := ⟨k - 1, by omega⟩
            obtain ⟨P, hPlt, hP⟩ := HPV.out j hj
            have HP := Lib.hid hP
            have hjm : (k : Int) - 1 = (j : Int) := by omega
            have hjw : IntKind.i64.wrap (j : Int) = (j : Int) := by rw [IntKind.wrap_i64]; omega
            have hjw2 : IntKind.i64.wrap ((k : Int) - 1) = (j : Int) := by rw [IntKind.wrap_i64]; omega
            have hjl : (j : Int) < (ts.length : Int) := by omega
            have hkp : (0 : Int) < (k : Int) := by omega
            have hpn : ¬ (RS : Int) ≤ P := by omega
            clear hP hPlt hj
            refine region_kept (C := fun wx => Kp w4 wx [(g, (.cells #[.int .i64 (RS : Int), .int .i64 (CS : Int)] 31 (0, 0))), (B, (.cells #[.int .i64 (R : Int), .int .i64 (C : Int), .string s] 24 (0, 0)))]) HK6.out.drew (by kernel_rfl) (by kernel_rfl) ?_
            repeat
              (refine wq_step (fun K hK => ?_)
               go_simp
               first
                 | (refine hK _ ?_; clear hK K)
                 | (apply Exists.intro
                    refine ⟨fun wx hC => ?_, hK _ ?_⟩
                    · first
                      | with_reducible rfl
                      | with_reducible exact hC.call (HCO.out wx)
                      | (obtain ⟨g0, g1, -, -⟩ := cells2 (hC.at 0 rfl); obtain ⟨m0, m1, m2, -, -, -⟩ := cells3 (hC.at 1 rfl); have r1 := HA0.out wx hC.below; have r2 := HA1.out wx hC.below; have r3 := HB0.out wx hC.below; have r4 := HB1.out wx hC.below; have r5 := HP.out wx hC.below; go_simp; first | done | rfl)
                    clear hK K))
            refine wq_nil ?_
            intro w7 hC
            have HK7 : Hid (Kp w4 w7 [(g, (.cells #[.int .i64 (RS : Int), .int .i64 (CS : Int)] 31 (0, 0))), (B, (.cells #[.int .i64 (R : Int), .int .i64 (C : Int), .string s] 24 (0, 0)))]) := hC
            clear hC HK6
            go_simp
            have r1 := HA0.out w7 HK7.out.below
            have r2 := HA1.out w7 HK7.out.below
            go_wp2_with fail
            refine (HAR.out _).mono ?_
            rintro e w8 ⟨rfl, hb8⟩
            have HK8 : Hid (Kp w4 w8 [(B, (.cells #[.int .i64 (R : Int), .int .i64 (C : Int), .string s] 24 (0, 0)))]) := (HK7.out.later hb8).sub (by simp)
            clear hb8 HK7 r1 r2
            go_wp2_with fail
            go_roundw
            case rel => exact ⟨k + 1, by omega, by rw [HTN.out], by go_num, HK8⟩
            case measure => simp [intOf]; omega
      · obtain rfl : k = ts.length := by omega
        have htop := HTOP.out ts.length (Nat.le_refl _)
        have hbest := HBEST.out
        generalize topA ts ts.length = T0 at *
        obtain ⟨m0, m1, m2, -, -, -⟩ := cells3 (HR.out.at 0 rfl)
        obtain ⟨bp, hbp⟩ : ∃ bp, bestTo ts ts.length = bp := ⟨_, rfl⟩
        rw [hbp] at HLI HLS hbest
        obtain ⟨bx, by'⟩ := bp
        simp only at HLI HLS hbest
        have hAL : ∀ W, Calls Tryz.prog 10 #[rect bx by'] W fun e w' => e = .returned (.int .i64 (ar (bx, by'))) ∧ Below W.heap.size W w' := fun W => Largest.impl_ar (bx, by') W
        have HAL := Lib.hid hAL
        clear hbp hAL
        go_wp2_with fail
        refine (HLI.out _).mono ?_
        rintro e w10 ⟨rfl, hb10⟩
        obtain ⟨x11, hx11⟩ : ∃ x, w10.heap.size = x := ⟨_, rfl⟩
        have K1 := Lib.hid ((HR.out.later hb10).put (.cells #[.int .i64 bx, .int .i64 by'] 31) hx11)
        clear hb10 HR
        clear m0 m1 m2
        obtain ⟨m0, m1, m2, -, -, -⟩ := cells3 (K1.out.at 1 rfl)
        go_wp2_with fail
        refine (HLS.out _).mono ?_
        rintro e w11 ⟨rfl, hb11⟩
        obtain ⟨x13, hx13⟩ : ∃ x, w11.heap.size = x := ⟨_, rfl⟩
        have K2 := Lib.hid ((K1.out.later hb11).put (.cells #[.int .i64 bx, .int .i64 by'] 31) hx13)
        clear hb11 K1
        clear m0 m1 m2 hx11
        obtain ⟨m0, m1, m2, -, -, -⟩ := cells3 (K2.out.at 2 rfl)
        go_wp2_with fail
        refine (HTU.out _).mono ?_
        rintro e w12 ⟨rfl, hb12⟩
        obtain ⟨x15, hx15⟩ : ∃ x, w12.heap.size = x := ⟨_, rfl⟩
        have K3 := Lib.hid ((K2.out.later hb12).put (.cells #[.int .i64 (C : Int), .int .i64 (R : Int), .string sT] 24) hx15)
        clear hb12 K2
        clear m0 m1 m2 hx13
        obtain ⟨m0, m1, m2, -, -, -⟩ := cells3 (K3.out.at 3 rfl)
        go_wp2_with fail
        refine (HOT.out _).mono ?_
        rintro e w13 ⟨rfl, hb13⟩
        obtain ⟨x17, hx17⟩ : ∃ x, w13.heap.size = x := ⟨_, rfl⟩
        have K4 := Lib.hid ((K3.out.later hb13).put (.cells #[.int .i64 (R : Int), .int .i64 (C : Int), .string sO] 24) hx17)
        clear hb13 K3
        clear m0 m1 m2 hx15
        rcases Nat.eq_zero_or_pos ts.length with hz | hz
        · have hsome : decide (0 < ts.length) = false := decide_eq_false (by omega)
          rw [hsome]
          have hzi : ¬ (0 : Int) < (ts.length : Int) := by omega
          have hzn : ¬ 0 < ts.length := by omega
          clear hbest htop hsome hz
          obtain ⟨l0, l1, -, -⟩ := cells2 (K4.out.at 3 rfl)
          obtain ⟨s0, s1, -, -⟩ := cells2 (K4.out.at 2 rfl)
          obtain ⟨t0, t1, t2, -, -, -⟩ := cells3 (K4.out.at 1 rfl)
          obtain ⟨o0, o1, o2, -, -, -⟩ := cells3 (K4.out.at 0 rfl)
          obtain ⟨m0, m1, m2, -, -, -⟩ := cells3 (K4.out.at 4 rfl)
          go_wp2_with fail
          refine (HMT.out _).mono ?_
          rintro e w15 ⟨v3, rfl, ho3, hb15⟩
          have hrv3 := rv_own ho3 hmtl
          have K6 := Lib.hid (K4.out.later hb15)
          obtain ⟨p3, c3, rfl⟩ := hrv3.slice
          rw [hmtn] at *
          clear ho3 hb15 K4 hrv3 l0 l1 s0 s1 o0 o1 o2 m0 m1 m2 t0 t1 t2
          obtain ⟨o0, o1, o2, -, -, -⟩ := cells3 (K6.out.at 0 rfl)
          go_wp2_with fail
          refine (HMO.out _).mono ?_
          rintro e w16 ⟨v4, rfl, ho4, hb16⟩
          have hrv4 := rv_own ho4 hml
          have K7 := Lib.hid (K6.out.later hb16)
          obtain ⟨p4, c4, rfl⟩ := hrv4.slice
          clear ho4 hb16 K6 hrv4 o0 o1 o2
          obtain ⟨m0, m1, m2, -, -, -⟩ := cells3 (K7.out.at 4 rfl)
          have hrvz := (HRV1.out.later (Nat.le_refl _) K7.out.below).mono K7.out.below.size
          have HCZ := Lib.hid (HCV.out _ w16 hrvz)
          clear hrvz
          go_wp2_with fail
          refine HCZ.out.mono ?_
          rintro e w17 ⟨rfl, hb17⟩
          have K8 := Lib.hid (K7.out.later hb17)
          clear hb17
          go_wp2_with fail
          go_ret
          exact ⟨rfl, HBW.out.trans (K8.out.below.mono HBW.out.size)⟩
        · have hsome : decide (0 < ts.length) = true := decide_eq_true hz
          rw [hsome]
          have hzi : (0 : Int) < (ts.length : Int) := by omega
          have hareq : ar (bx, by') = T0 := by
            rcases hbest with ⟨h0, _⟩ | ⟨_, h1, _⟩
            · omega
            · exact h1
          rw [hareq] at HAL
          clear hareq hbest htop hsome
          obtain ⟨l0, l1, -, -⟩ := cells2 (K4.out.at 3 rfl)
          obtain ⟨s0, s1, -, -⟩ := cells2 (K4.out.at 2 rfl)
          obtain ⟨t0, t1, t2, -, -, -⟩ := cells3 (K4.out.at 1 rfl)
          obtain ⟨o0, o1, o2, -, -, -⟩ := cells3 (K4.out.at 0 rfl)
          obtain ⟨m0, m1, m2, -, -, -⟩ := cells3 (K4.out.at 4 rfl)
          go_wp2_with fail
          refine (HAL.out _).mono ?_
          rintro e w14 ⟨rfl, hb14⟩
          have K5 := Lib.hid (K4.out.later hb14)
          clear hb14 K4
          clear l0 l1 s0 s1 t0 t1 t2 o0 o1 o2 m0 m1 m2
          obtain ⟨t0, t1, t2, -, -, -⟩ := cells3 (K5.out.at 1 rfl)
          go_wp2_with fail
          refine (HMT.out _).mono ?_
          rintro e w15 ⟨v3, rfl, ho3, hb15⟩
          have hrv3 := rv_own ho3 hmtl
          have K6 := Lib.hid (K5.out.later hb15)
          obtain ⟨p3, c3, rfl⟩ := hrv3.slice
          rw [hmtn] at *
          clear ho3 hb15 K5 hrv3 t0 t1 t2
          obtain ⟨o0, o1, o2, -, -, -⟩ := cells3 (K6.out.at 0 rfl)
          go_wp2_with fail
          refine (HMO.out _).mono ?_
          rintro e w16 ⟨v4, rfl, ho4, hb16⟩
          have hrv4 := rv_own ho4 hml
          have K7 := Lib.hid (K6.out.later hb16)
          obtain ⟨p4, c4, rfl⟩ := hrv4.slice
          clear ho4 hb16 K6 hrv4 o0 o1 o2
          obtain ⟨m0, m1, m2, -, -, -⟩ := cells3 (K7.out.at 4 rfl)
          have hrvz := (HRV1.out.later (Nat.le_refl _) K7.out.below).mono K7.out.below.size
          have HCZ := Lib.hid (HCV.out _ w16 hrvz)
          clear hrvz
          go_wp2_with fail
          refine HCZ.out.mono ?_
          rintro e w17 ⟨rfl, hb17⟩
          have K8 := Lib.hid (K7.out.later hb17)
          clear hb17
          go_wp2_with fail
          go_ret
          exact ⟨rfl, HBW.out.trans (K8.out.below.mono HBW.out.size)⟩
  · obtain ⟨ts, hml, hms, hmi⟩ := MaxB.both a b t hts x
    have HMI := Lib.hid hmi
    have HMS := Lib.hid hms
    have hcase : validB a b t = false ∨ (validB a b t = true ∧ x < 0) ∨ (validB a b t = true ∧ ¬ x < 0 ∧ 1 < x) := by
      cases hv : validB a b t
      · exact .inl rfl
      · have hn : ¬ (x = 0 ∨ x = 1) := fun h => hok ⟨hv, h⟩
        by_cases h0 : x < 0
        · exact .inr (.inl ⟨rfl, h0⟩)
        · exact .inr (.inr ⟨rfl, h0, by omega⟩)
    obtain ⟨vb, hvb⟩ : ∃ vb, validB a b t = vb := ⟨_, rfl⟩
    rw [hvb] at HV hcase
    clear hmi hms hok hts ht hvb
    obtain ⟨m0, m1, m2, -, -, -⟩ := cells3 (HK1.out.at 0 rfl)
    go_wp2_with fail
    refine (HMI.out _).mono ?_
    rintro e w2 ⟨v1, rfl, ho1, hb2⟩
    have hrv1 := rv_own ho1 hml
    have HK2 := Lib.hid (HK1.out.later hb2)
    clear ho1 hb2 HK1 hB m0 m1 m2
    obtain ⟨p1, c1, rfl⟩ := hrv1.slice
    clear hrv1
    obtain ⟨m0, m1, m2, -, -, -⟩ := cells3 (HK2.out.at 0 rfl)
    go_wp2_with fail
    refine (HMS.out _).mono ?_
    rintro e w3 ⟨v2, rfl, ho2, hb3⟩
    have hrv2 := rv_own ho2 hml
    have HK3 := Lib.hid (HK2.out.later hb3)
    clear ho2 hb3 HK2 m0 m1 m2
    obtain ⟨p2, c2, rfl⟩ := hrv2.slice
    clear hrv2
    obtain ⟨m0, m1, m2, -, -, -⟩ := cells3 (HK3.out.at 0 rfl)
    go_wp2_with fail
    refine (HV.out _).mono ?_
    rintro e w4 ⟨rfl, hb4⟩
    have HK4 := Lib.hid (HK3.out.later hb4)
    clear hb4 HK3 m0 m1 m2
    rcases hcase with rfl | ⟨rfl, hx0⟩ | ⟨rfl, hx0, hx1⟩
    all_goals
      go_wp2_with fail
      go_ret
      exact ⟨by first | rfl | simp, HK4.out.below⟩
end Go.Proofs.YtemmagkkigdhjaaGreatDoor.fnMaximal
