/-
  The walk of the drawn law on GameValid.
-/
import Derived.Test.YtbccachkkflceaaGRead2
import Derived.Test.YtbccachkkflceaaDrawGm
import Derived.Test.YtbccachkkflceaaGameBitsWalk
import Derived.Test.YtbccachkkflceaaGameEndsWalk
namespace Go.Proofs.Ytbccachkkflceaa.fnGameValid
open Go.RowKit Go.Shelf Go.Proofs.Ytbccachkkflceaa.Plain Go.Proofs.Ytbccachkkflceaa.Tree Go.Proofs.Ytbccachkkflceaa.TreeOf Go.Proofs.Ytbccachkkflceaa.GvM Go.Proofs.Ytbccachkkflceaa.Rd
open Go.Proofs.Ytbccachkkflceaa.Rd2
open Go.Proofs.Ytbccachkkflceaa.DrawGm (open10_any)
set_option linter.unusedVariables false
set_option linter.unusedSimpArgs false

theorem draw_gv (v : Value) (n : Nat) (w : World) (h : ByteArg w v n) :
    Calls Try.prog 16 #[v] w fun e w' => ∃ (s : ByteArray), e = .returned (.string s) ∧ s.size ≤ 1000 ∧ Below w.heap.size w w' := by
  have HO := Lib.hid (open_any v n w h)
  clear h
  go_enter Try.func16, Try.ntmps16
  go_wp2_with fail
  refine HO.out.mono ?_
  rintro e w1 ⟨g, rfl, hr, hb, hg⟩
  have HB := Lib.hid hb
  have HS := Lib.hid (open10_any g 0 (by omega) w1 hr)
  clear hr hb HO
  go_wp2_with fail
  refine HS.out.mono ?_
  rintro e w2 ⟨s, p2, rfl, hs, hr, hp2, ha⟩
  have HB2 : Hid (Below w.heap.size w w2) := ha.below HB.out (by omega)
  clear hr ha HS HB
  go_wp2_with fail
  go_ret
  exact ⟨s, rfl, hs, HB2.out⟩
theorem shl_small (k : Nat) (h : k ≤ 30) : IntKind.i64.wrap (2 ^ k) = ((2 ^ k : Nat) : Int) := by
  have h2 : (2 : Nat) ^ k ≤ 2 ^ 30 := Nat.pow_le_pow_right (by decide) h
  have h3 : (2 : Nat) ^ 30 = 1073741824 := by decide
  rw [show ((2 : Int) ^ k) = ((2 ^ k : Nat) : Int) by simp]
  rw [h3] at h2
  generalize (2 : Nat) ^ k = X at *
  rw [IntKind.wrap_i64]
  omega
theorem wrap_u (k : Nat) (h : k ≤ 30) : IntKind.u64.wrap (k : Int) = (k : Int) := by
  have : ∀ k : Fin 31, IntKind.u64.wrap ((k.1 : Nat) : Int) = ((k.1 : Nat) : Int) := by decide
  exact this ⟨k, by omega⟩
theorem ab_yes (x : Nat) (c : UInt8) (h : c.toNat = x) (h1 : 65 ≤ x) (h2 : x ≤ 66) : isAB c = true := by
  unfold isAB
  rw [h, decide_eq_true h1, decide_eq_true h2]
  rfl
theorem ab_no (x : Nat) (c : UInt8) (h : c.toNat = x) (h1 : x < 65 ∨ 66 < x) : isAB c = false := by
  unfold isAB
  rw [h]
  rcases h1 with h1 | h1
  · rw [decide_eq_false (by omega)]; rfl
  · rw [decide_eq_false (show ¬ x ≤ 66 by omega)]; simp
theorem byte_at (s : ByteArray) (k : Nat) (hk : k < s.size) : s.data.toList.getD k 0 = s[k] := by
  have hk' : k < s.data.toList.length := by simpa using hk
  simp only [List.getD_eq_getElem?_getD, List.getElem?_eq_getElem hk']
  simp
  rfl

set_option maxHeartbeats 8000000 in
set_option maxRecDepth 100000 in
theorem walk (v : Value) (n : Nat) (w : World) (h : ByteArg w v n) :
    Calls Try.prog 7 #[v] w fun e w' => e = .returned (.bool true) ∧ Below w.heap.size w w' := by
  obtain ⟨hn0, a, cap, rfl, hc, hb0⟩ := id h
  clear hb0
  have HD := Lib.hid (draw_gv _ n w h)
  clear h
  by_cases hbig : 1048576 < n
  · have hbi : (1048576 : Int) < (n : Int) := by omega
    go_enter Try.func7, Try.ntmps7
    go_wp2_with fail
    go_ret
    exact ⟨rfl, Below.refl _ _⟩
  have hbi : ¬ (1048576 : Int) < (n : Int) := by omega
  go_enter Try.func7, Try.ntmps7
  go_wp2_with fail
  refine HD.out.mono ?_
  rintro e w1 ⟨s, rfl, hs, hb⟩
  have HB1 := Lib.hid hb
  clear HD hbig hbi hb hn0 hc
  rcases ok_or s with ⟨t, hw, ht, h2⟩ | hno
  · have hsz : (text t).length = s.size := by rw [← ht]; simp
    have HVI := Lib.hid (impl_valid_yes s t hw ht h2)
    have HVS := Lib.hid (valid_said s t hw ht h2)
    have HEI := Lib.hid (fnExactGameEnds.impl_yes s t hw ht h2)
    have HES := Lib.hid (fnExactGameEnds.spec_yes s t hw ht h2)
    have HBI := Lib.hid (fnExactGameBits.impl_yes s t hw ht h2)
    have HBS := Lib.hid (fnExactGameBits.spec_yes s t hw ht h2)
    have HPV := Lib.hid (GRead2.valid2 s t hw ht h2)
    have htx := GmM.text_ends t
    have hpe := pow_ends t
    have hbe := bits_ends t
    have htw : tw false false s.data.toList = has2 t := by
      have h := tw_text t hw []
      rw [List.append_nil, ← ht] at h
      rw [h]
      simp [tw]
    have HTW := Lib.hid htw
    have HPE := Lib.hid hpe
    clear ht hw htw hpe
    generalize has2 t = two at *
    generalize Tree.bits t = k at *
    generalize ends t = m at *
    generalize (text t).length = len at *
    have hm1 : 1 ≤ m := by omega
    have hm2 : m ≤ 1000 := by omega
    go_wp2_with fail
    refine (HVI.out _).mono ?_
    rintro e w2 ⟨rfl, hb2⟩
    have HB2 := Lib.hid (HB1.out.trans (hb2.mono HB1.out.size))
    clear hb2 HB1 HVI
    go_wp2_with fail
    refine (HEI.out _).mono ?_
    rintro e w3 ⟨rfl, hb3⟩
    have HB3 := Lib.hid (HB2.out.trans (hb3.mono HB2.out.size))
    clear hb3 HB2 HEI
    go_wp2_with fail
    refine (HBI.out _).mono ?_
    rintro e w4 ⟨rfl, hb4⟩
    have HB4 := Lib.hid (HB3.out.trans (hb4.mono HB3.out.size))
    clear hb4 HB3 HBI
    go_wp2_with fail
    refine (HVS.out _).mono ?_
    rintro e w5 ⟨rfl, rfl⟩
    go_wp2_with fail
    refine (HES.out _).mono ?_
    rintro e w6 ⟨rfl, hb6⟩
    have HB6 := Lib.hid (HB4.out.trans (hb6.mono HB4.out.size))
    clear hb6 HB4 HES
    go_wp2_with fail
    refine (HBS.out _).mono ?_
    rintro e w7 ⟨rfl, hb7⟩
    have HB7 := Lib.hid (HB6.out.trans (hb7.mono HB6.out.size))
    clear hb7 HB6 HBS HVS
    go_wp2_with fail
    go_loopw [7, 8] (fun u i wr => ∃ (q : Nat) (g : Bool), q ≤ s.size ∧ u = .bool g ∧ i = .int .i64 (q : Int) ∧ Hid (tw false false s.data.toList = (g || tw (pv s.data.toList q 1) (pv s.data.toList q 2) (s.data.toList.drop q))) ∧ Hid (Below w.heap.size w wr)) (fun _ i _ => s.size - (intOf i).toNat)
    case atStart => exact ⟨0, false, Nat.zero_le _, rfl, rfl, by unfold Hid; rw [pv_zero _ 1 (by omega), pv_zero _ 2 (by omega), List.drop_zero]; rfl, HB7.out⟩
    case round =>
      obtain ⟨q, g, hq, rfl, rfl, HI, HB⟩ := hrel
      by_cases hlt : q < s.size
      · have hnx := tw_next s.data.toList q (by simpa using hlt) g HI.out
        have hbq : (s.data.toList[q]'(by simpa using hlt)) = s[q] := by rw [← byte_at s q hlt, List.getD_eq_getElem?_getD, List.getElem?_eq_getElem (by simpa using hlt)]; rfl
        rw [hbq] at hnx
        obtain ⟨x, hx⟩ : ∃ x : Nat, (s[q]).toNat = x := ⟨_, rfl⟩
        rw [hx] at hnx
        have hdx : (((x : Nat) : Int) == 50) = decide (x = 50) := by
          by_cases e : x = 50
          · subst e; rfl
          · rw [decide_eq_false e]; exact beq_false_of_ne (by omega)
        obtain ⟨d, hd⟩ : ∃ d, decide (x = 50) = d := ⟨_, rfl⟩
        rw [hd] at hnx hdx
        have HX := Lib.hid hx
        clear HI hbq hd
        by_cases h0 : q = 0
        · have e1 : pv s.data.toList q 1 = false := by rw [h0]; exact pv_zero _ 1 (by omega)
          have e2 : pv s.data.toList q 2 = false := by rw [h0]; exact pv_zero _ 2 (by omega)
          rw [e1, e2] at hnx
          have HN := Lib.hid hnx
          have g0 : ¬ (0 : Int) < (q : Int) := by omega
          have g1 : ¬ (1 : Int) < (q : Int) := by omega
          clear hnx e1 e2 h0
          cases g <;> cases d
          all_goals
            go_wp2_with fail
            go_roundw
            case rel => first | exact ⟨q + 1, d, by omega, rfl, by go_num, by have h := HN.out; unfold Hid; simpa using h, HB⟩ | exact ⟨q + 1, true, by omega, rfl, by go_num, by have h := HN.out; unfold Hid; simpa using h, HB⟩ | exact ⟨q + 1, false, by omega, rfl, by go_num, by have h := HN.out; unfold Hid; simpa using h, HB⟩
            case measure => simp [intOf]; omega
        obtain ⟨r1, hr1⟩ : ∃ r1, q = r1 + 1 := ⟨q - 1, by omega⟩
        have hlt1 : r1 < s.size := by omega
        have e1 : pv s.data.toList q 1 = isAB (s[r1]) := by
          unfold pv
          rw [decide_eq_true (by omega), show q - 1 = r1 by omega, byte_at s r1 hlt1]
          rfl
        obtain ⟨y, hy⟩ : ∃ y : Nat, (s[r1]).toNat = y := ⟨_, rfl⟩
        have hq1 : (q : Int) - 1 = (r1 : Int) := by omega
        have g0 : (0 : Int) < (q : Int) := by omega
        have HR1 := Lib.hid hr1
        clear hr1 h0
        by_cases hyin : 65 ≤ y ∧ y ≤ 66
        · obtain ⟨hy1, hy2⟩ := hyin
          rw [e1, ab_yes y _ hy hy1 hy2] at hnx
          have HN := Lib.hid hnx
          clear hnx e1
          cases g <;> cases d
          all_goals
            go_wp2_with fail
            go_roundw
            case rel => first | exact ⟨q + 1, d, by omega, rfl, by go_num, by have h := HN.out; unfold Hid; simpa using h, HB⟩ | exact ⟨q + 1, true, by omega, rfl, by go_num, by have h := HN.out; unfold Hid; simpa using h, HB⟩ | exact ⟨q + 1, false, by omega, rfl, by go_num, by have h := HN.out; unfold Hid; simpa using h, HB⟩
            case measure => simp [intOf]; omega
        have hyo : y < 65 ∨ 66 < y := by omega
        rw [e1, ab_no y _ hy hyo] at hnx
        clear hyin e1
        by_cases hq2 : q = 1
        · have e2 : pv s.data.toList q 2 = false := by
            unfold pv
            rw [decide_eq_false (by omega)]
            rfl
          rw [e2] at hnx
          have HN := Lib.hid hnx
          have g1 : ¬ (1 : Int) < (q : Int) := by omega
          clear hnx e2 hq2
          rcases hyo with hyo | hyo
          all_goals
            cases g <;> cases d
            all_goals
              go_wp2_with fail
              go_roundw
              case rel => first | exact ⟨q + 1, d, by omega, rfl, by go_num, by have h := HN.out; unfold Hid; simpa using h, HB⟩ | exact ⟨q + 1, true, by omega, rfl, by go_num, by have h := HN.out; unfold Hid; simpa using h, HB⟩ | exact ⟨q + 1, false, by omega, rfl, by go_num, by have h := HN.out; unfold Hid; simpa using h, HB⟩
              case measure => simp [intOf]; omega
        obtain ⟨r2, hr2⟩ : ∃ r2, q = r2 + 2 := ⟨q - 2, by have := HR1.out; omega⟩
        have hlt2 : r2 < s.size := by omega
        have e2 : pv s.data.toList q 2 = isAB (s[r2]) := by
          unfold pv
          rw [decide_eq_true (by omega), show q - 2 = r2 by omega, byte_at s r2 hlt2]
          rfl
        obtain ⟨z, hz⟩ : ∃ z : Nat, (s[r2]).toNat = z := ⟨_, rfl⟩
        have hq22 : (q : Int) - 2 = (r2 : Int) := by omega
        have g1 : (1 : Int) < (q : Int) := by omega
        have HR2 := Lib.hid hr2
        clear hr2 hq2
        by_cases hzin : 65 ≤ z ∧ z ≤ 66
        · obtain ⟨hz1, hz2⟩ := hzin
          rw [e2, ab_yes z _ hz hz1 hz2] at hnx
          have HN := Lib.hid hnx
          clear hnx e2
          rcases hyo with hyo | hyo
          all_goals
            cases g <;> cases d
            all_goals
              go_wp2_with fail
              go_roundw
              case rel => first | exact ⟨q + 1, d, by omega, rfl, by go_num, by have h := HN.out; unfold Hid; simpa using h, HB⟩ | exact ⟨q + 1, true, by omega, rfl, by go_num, by have h := HN.out; unfold Hid; simpa using h, HB⟩ | exact ⟨q + 1, false, by omega, rfl, by go_num, by have h := HN.out; unfold Hid; simpa using h, HB⟩
              case measure => simp [intOf]; omega
        have hzo : z < 65 ∨ 66 < z := by omega
        rw [e2, ab_no z _ hz hzo] at hnx
        have HN := Lib.hid hnx
        clear hzin e2 hnx
        rcases hyo with hyo | hyo <;> rcases hzo with hzo | hzo
        all_goals
          cases g <;> cases d
          all_goals
            go_wp2_with fail
            go_roundw
            case rel => first | exact ⟨q + 1, d, by omega, rfl, by go_num, by have h := HN.out; unfold Hid; simpa using h, HB⟩ | exact ⟨q + 1, true, by omega, rfl, by go_num, by have h := HN.out; unfold Hid; simpa using h, HB⟩ | exact ⟨q + 1, false, by omega, rfl, by go_num, by have h := HN.out; unfold Hid; simpa using h, HB⟩
            case measure => simp [intOf]; omega
      · obtain rfl : q = s.size := by omega
        have hg : g = two := by
          have h := HI.out
          rw [HTW.out, show s.data.toList.drop s.size = [] from List.drop_eq_nil_of_le (by simp)] at h
          simp only [tw, Bool.or_false] at h
          exact h.symm
        subst hg
        have HPVw := Lib.hid (fun W => HPV.out W)
        have w1' : IntKind.i64.wrap (3 * ((m : Int) - 1)) = 3 * ((m : Int) - 1) := by rw [IntKind.wrap_i64]; omega
        have w2' : ((s.size : Int) == (m : Int) + 3 * ((m : Int) - 1)) = true := by rw [beq_iff_eq]; omega
        have w3' : (k : Int) ≤ (m : Int) - 1 := by omega
        have hsz2 : s.size ≤ 1000 := hs
        clear HI HTW
        by_cases hk : 30 < k
        · have hk' : (30 : Int) < (k : Int) := by omega
          clear HPE
          cases g
          all_goals
            go_wp2_with fail
            refine (HPV.out _).mono ?_
            rintro e w9 ⟨rfl, hb9⟩
            have HB9 := Lib.hid (HB.out.trans (hb9.mono HB.out.size))
            clear hb9 HB
            go_wp2_with fail
            go_ret
            exact ⟨rfl, HB9.out⟩
        · have hk' : ¬ (30 : Int) < (k : Int) := by omega
          have hsh := shl_small k (by omega)
          obtain ⟨X, hX⟩ : ∃ X, 2 ^ k = X := ⟨_, rfl⟩
          have hmX : (m : Int) ≤ (X : Int) := by have := HPE.out; rw [hX] at this; omega
          rw [hX] at hsh
          have hku : IntKind.u64.wrap (k : Int) = (k : Int) := wrap_u k (by omega)
          clear HPE hX hk
          cases g
          all_goals
            go_wp2_with fail
            refine (HPV.out _).mono ?_
            rintro e w9 ⟨rfl, hb9⟩
            have HB9 := Lib.hid (HB.out.trans (hb9.mono HB.out.size))
            clear hb9 HB
            go_wp2_with fail
            go_ret
            exact ⟨rfl, HB9.out⟩
  · have HVI := Lib.hid (impl_valid_no s hno (by omega))
    have HVS := Lib.hid (valid_no s hno (by omega))
    have HEI := Lib.hid (fnExactGameEnds.impl_no s hno (by omega))
    have HES := Lib.hid (fnExactGameEnds.spec_no s hno (by omega))
    have HBI := Lib.hid (fnExactGameBits.impl_no s hno (by omega))
    have HBS := Lib.hid (fnExactGameBits.spec_no s hno (by omega))
    clear hno
    go_wp2_with fail
    refine (HVI.out _).mono ?_
    rintro e w2 ⟨rfl, hb2⟩
    have HB2 := Lib.hid (HB1.out.trans (hb2.mono HB1.out.size))
    clear hb2 HB1 HVI
    go_wp2_with fail
    refine (HEI.out _).mono ?_
    rintro e w3 ⟨rfl, hb3⟩
    have HB3 := Lib.hid (HB2.out.trans (hb3.mono HB2.out.size))
    clear hb3 HB2 HEI
    go_wp2_with fail
    refine (HBI.out _).mono ?_
    rintro e w4 ⟨rfl, hb4⟩
    have HB4 := Lib.hid (HB3.out.trans (hb4.mono HB3.out.size))
    clear hb4 HB3 HBI
    go_wp2_with fail
    refine (HVS.out _).mono ?_
    rintro e w5 ⟨rfl, rfl⟩
    go_wp2_with fail
    refine (HES.out _).mono ?_
    rintro e w6 ⟨rfl, hb6⟩
    have HB6 := Lib.hid (HB4.out.trans (hb6.mono HB4.out.size))
    clear hb6 HB4
    go_wp2_with fail
    refine (HBS.out _).mono ?_
    rintro e w7 ⟨rfl, hb7⟩
    have HB7 := Lib.hid (HB6.out.trans (hb7.mono HB6.out.size))
    clear hb7 HB6
    go_wp2_with fail
    refine (HVS.out _).mono ?_
    rintro e w5 ⟨rfl, rfl⟩
    go_wp2_with fail
    refine (HES.out _).mono ?_
    rintro e w8 ⟨rfl, hb8⟩
    have HB8 := Lib.hid (HB7.out.trans (hb8.mono HB7.out.size))
    clear hb8 HB7
    go_wp2_with fail
    refine (HBS.out _).mono ?_
    rintro e w9 ⟨rfl, hb9⟩
    have HB9 := Lib.hid (HB8.out.trans (hb9.mono HB8.out.size))
    clear hb9 HB8
    go_wp2_with fail
    go_ret
    exact ⟨rfl, HB9.out⟩
end Go.Proofs.Ytbccachkkflceaa.fnGameValid
