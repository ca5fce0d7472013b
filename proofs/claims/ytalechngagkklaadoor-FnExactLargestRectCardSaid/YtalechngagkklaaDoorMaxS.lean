/-
  The reference's l2Maximal and MaximalRects.
-/
import Derived.Test.YtalechngagkklaaDoorApp
import Derived.Test.YtalechngagkklaaDoorMaxM
import Derived.Test.YtalechngagkklaaDoorKeysI
import Derived.Test.YtalechngagkklaaDoorCols
namespace Go.Proofs.YtalechngagkklaaDoor.MaxS
open Go.RowKit Go.Proofs.YtalechngagkklaaDoor.Plain Go.Proofs.YtalechngagkklaaDoor.Base Go.Proofs.YtalechngagkklaaDoor.Valid Go.Proofs.YtalechngagkklaaDoor.Law Go.Proofs.YtalechngagkklaaDoor.GridPlain Go.Proofs.YtalechngagkklaaDoor.Grid Go.Proofs.YtalechngagkklaaDoor.Entry Go.Proofs.YtalechngagkklaaDoor.Pat Go.Proofs.YtalechngagkklaaDoor.Rect Go.Proofs.YtalechngagkklaaDoor.Board Go.Proofs.YtalechngagkklaaDoor.BoardM Go.Proofs.YtalechngagkklaaDoor.RValid Go.Proofs.YtalechngagkklaaDoor.Colour Go.Proofs.YtalechngagkklaaDoor.Where Go.Proofs.YtalechngagkklaaDoor.Turn1 Go.Proofs.YtalechngagkklaaDoor.Cols Go.Proofs.YtalechngagkklaaDoor.MaxM Go.Proofs.YtalechngagkklaaDoor.App
open Go.Proofs.YtalechngagkklaaDoor.KeysI (flat flat_next infoK two_new)
set_option linter.unusedVariables false

theorem own_lower {w : World} {B B' : Nat} {e : TypeId} {k n : Nat} {v : Value} {xs : List Value} (h : w.ownsRow B e k v n xs) (hB : B' ≤ B) : w.ownsRow B' e k v n xs := by
  refine ⟨h.1, ?_⟩
  rcases h.2 with h2 | ⟨g, cap, cur, h2, h3, h4⟩
  · exact .inl h2
  · exact .inr ⟨g, cap, cur, h2, Nat.le_trans hB h3, h4⟩

set_option maxHeartbeats 4000000 in
set_option maxRecDepth 100000 in
theorem l2_maximal (E : Nat → Nat → Bool) (R C : Nat) (hR1 : 1 ≤ R) (hR : R ≤ 8) (hC1 : 1 ≤ C) (hC : C ≤ 8) (b : Bool) (w : World) :
    Calls Tryd.prog 140 #[mat R C (str (rowsB E R C)), .int .i64 (bitI b)] w fun e w' => ∃ v, e = .returned v ∧ w'.ownsRow w.heap.size 26 2 v (mx E b R C (2 ^ R - 1)).length (flat (mx E b R C (2 ^ R - 1))) ∧ Below w.heap.size w w' := by
  obtain ⟨i0, hi, hz0, hz1, hz2⟩ := info_parts infoK
  have HCOL := Lib.hid (fun S hS W => cols_any E R C hR1 hR hC1 hC S hS b W)
  have HROW := Lib.hid (fun S hS W => rows_any E R C hR1 hR hC1 hC S hS b W)
  have HLEN := Lib.hid (fun k => mx_len E b R C k)
  have HN0 : Hid (mx E b R C 0 = []) := rfl
  have HNX : Hid (∀ q, mx E b R C (q + 1) = mx E b R C q ++ (if 0 < cS E b R C (q + 1) ∧ rS E b R C (cS E b R C (q + 1)) = q + 1 then [(((q + 1 : Nat) : Int), ((cS E b R C (q + 1) : Nat) : Int))] else [])) := fun q => rfl
  have HCL : Hid (∀ S, cS E b R C S < 256) := fun S => Nat.lt_of_lt_of_le (cS_lt E b R C S) (Nat.pow_le_pow_right (n := 2) (by decide) hC)
  have HRL : Hid (∀ T, rS E b R C T < 256) := fun T => Nat.lt_of_lt_of_le (rS_lt E b R C T) (Nat.pow_le_pow_right (n := 2) (by decide) hR)
  obtain ⟨hpw, hp1, hp2⟩ := pow8 R hR
  have hp3 : 2 ≤ 2 ^ R := by
    have := Nat.pow_le_pow_right (n := 2) (by decide) hR1
    omega
  generalize str (rowsB E R C) = s at *
  generalize 2 ^ R = N at *
  obtain ⟨bi, hbi⟩ : ∃ bi, bitI b = bi := ⟨_, rfl⟩
  rw [hbi] at HCOL HROW ⊢
  clear hbi
  go_enter Tryd.func140, Tryd.ntmps140
  go_wp2_with fail
  have e0 : MHolds (w.alloc (.cells #[.int .i64 (R : Int), .int .i64 (C : Int), .string s] 24)) w.heap.size 24 R C s := heap_alloc_new w _
  have hb0 : Below w.heap.size w (w.alloc (.cells #[.int .i64 (R : Int), .int .i64 (C : Int), .string s] 24)) := (Below.refl w.heap.size w).alloc (Nat.le_refl _) _
  have hs0 : w.heap.size ≤ (w.alloc (.cells #[.int .i64 (R : Int), .int .i64 (C : Int), .string s] 24)).heap.size := hb0.size
  have hsz : (w.alloc (.cells #[.int .i64 (R : Int), .int .i64 (C : Int), .string s] 24)).heap.size = w.heap.size + 1 := by simp
  generalize w.alloc (.cells #[.int .i64 (R : Int), .int .i64 (C : Int), .string s] 24) = W0 at *
  have HO0 : Hid (App.Own W0 (W0.alloc (.cells #[] 26)) 26 2 (.slice (some ⟨w.heap.size + 1, 0, none⟩) 0 0) (mx E b R C 0).length (flat (mx E b R C 0))) := by
    have h := App.Own.lit W0 26 2
    rw [hsz] at h
    exact h
  have HE := Lib.hid e0
  have HB0 := Lib.hid (And.intro hb0 hs0)
  clear e0 hb0 hs0 hsz
  go_loopw [5, 6] (fun v i wr => ∃ q : Nat, q + 1 ≤ N ∧ i = .int .i64 ((q + 1 : Nat) : Int) ∧ Hid (App.Own W0 wr 26 2 v (mx E b R C q).length (flat (mx E b R C q)))) (fun _ i _ => N - (intOf i).toNat)
  case atStart => exact ⟨0, by omega, rfl, HO0⟩
  case round =>
    obtain ⟨q, hq, rfl, HO⟩ := hrel
    clear HO0
    have hml := HLEN.out q
    obtain ⟨q0, q1, q2⟩ := mh_c (mh_on HE.out HO.out.below)
    obtain ⟨p, cp, rfl⟩ := HO.out.slice
    by_cases hlt : q + 1 < N
    · have HCC := Lib.hid (fun W => HCOL.out (q + 1) (by omega) W)
      have HRR := Lib.hid (fun W => HROW.out (cS E b R C (q + 1)) (HCL.out _) W)
      have hcl := HCL.out (q + 1)
      have hrl := HRL.out (cS E b R C (q + 1))
      have HX := Lib.hid (HNX.out q)
      have e1 : (setB (fun y => allTo E (q + 1) b y R) C : Nat) = cS E b R C (q + 1) := rfl
      have e2 : (setB (fun x => allTo (fun y x => E x y) (cS E b R C (q + 1)) b x C) R : Nat) = rS E b R C (cS E b R C (q + 1)) := rfl
      rw [e1] at HCC
      rw [e2] at HRR
      clear e1 e2
      generalize rS E b R C (cS E b R C (q + 1)) = r' at HRR hrl HX
      generalize cS E b R C (q + 1) = c at HCC HRR hcl HX
      obtain ⟨l0, hl0⟩ : ∃ l0, mx E b R C q = l0 := ⟨_, rfl⟩
      rw [hl0] at HX HO hml ⊢
      obtain ⟨k, hk⟩ : ∃ k, q + 1 = k := ⟨_, rfl⟩
      have HQ := Lib.hid (And.intro hl0 hk)
      rw [hk] at HCC HX hlt ⊢
      have hk1 : 1 ≤ k := by omega
      have hlk : l0.length ≤ 300 := by omega
      have hkl : (k : Int) < (N : Int) := by omega
      clear hl0 hk hq hml
      generalize hnn : l0.length = nn at HO hlk ⊢
      have HNN := Lib.hid hnn
      clear hnn
      go_wp2_with fail
      refine (HCC.out _).mono ?_
      rintro e w2 ⟨rfl, hb2⟩
      have HO2 := Lib.hid (HO.out.later hb2)
      clear hb2 q0 q1 q2 HO HCC
      obtain ⟨q0, q1, q2⟩ := mh_c (mh_on HE.out HO2.out.below)
      by_cases hc0 : 0 < c
      · have hci : (0 : Int) < (c : Int) := by omega
        go_wp2_with fail
        refine (HRR.out _).mono ?_
        rintro e w3 ⟨rfl, hb3⟩
        have HO3 := Lib.hid (HO2.out.later hb3)
        clear hb3 q0 q1 q2 HO2 HRR
        by_cases hrk : r' = k
        · subst hrk
          have HX1 := Lib.hid (HX.out.trans (by rw [if_pos ⟨hc0, rfl⟩]))
          have hbe : (((r' : Nat) : Int) == ((r' : Nat) : Int)) = true := by simp
          go_wp2_with (at_builtin; have HH := HO3.out; refine wpList_append_own _ rfl (.tmp 31) (.tmp 35) 62 rfl W0.heap.size 26 i0 (.agg #[.int .i64 0, .int .i64 0]) 2 16 Tryd.underlying62 hi hz0 hz1 hz2 rfl (by decide) _ _ _ rfl (HH.row.alloc _) ⟨w3.heap.size, 0, none⟩ 1 1 [.int .i64 (r' : Int), .int .i64 (c : Int)] rfl rfl ?a1 ?a2 ?a3 ?a4 ?a5 ?a6; go_must (case a1 => exact (two_new _ _ _ _)); go_must (case a2 => simp [Value.oneCell']); go_must (case a3 => (unfold maxLen; omega)); go_must (case a4 => omega); go_must (case a5 => (have := HH.below.size; simp at this ⊢; omega)); go_must (clear HH; intro v3 w3 hown3 hgrow3 _; have H3 := Lib.hid (App.Own.next HO3.out _ hown3 hgrow3); clear HO3 hown3 hgrow3))
          go_roundw
          case rel => exact ⟨r', by omega, by go_num, by rw [HX1.out, List.length_append, HNN.out, flat_next]; exact H3⟩
          case measure => simp [intOf]; omega
        · have hne : (((r' : Nat) : Int) == ((k : Nat) : Int)) = false := by simp; omega
          have HX1 := Lib.hid (HX.out.trans (by rw [if_neg (fun h => hrk h.2), List.append_nil]))
          go_wp2_with fail
          go_roundw
          case rel => exact ⟨k, by omega, by go_num, by rw [HX1.out, HNN.out]; exact HO3⟩
          case measure => simp [intOf]; omega
      · have hci : ¬ (0 : Int) < (c : Int) := by omega
        have HX1 := Lib.hid (HX.out.trans (by rw [if_neg (fun h => hc0 h.1), List.append_nil]))
        go_wp2_with fail
        go_roundw
        case rel => exact ⟨k, by omega, by go_num, by rw [HX1.out, HNN.out]; exact HO2⟩
        case measure => simp [intOf]; omega
    · obtain rfl : N = q + 1 := by omega
      go_wp2_with fail
      go_ret
      exact ⟨_, rfl, own_lower (by rw [show q + 1 - 1 = q by omega]; exact HO.out.row) HB0.out.2, HB0.out.1.trans (HO.out.below.mono HB0.out.2)⟩

set_option maxHeartbeats 1000000 in
theorem spec_no (r c : Int) (s : ByteArray) (hs : s.size ≤ maxLen) (bit : Int) (b : Bool) (hb : validB r c s = b) (h : b = false ∨ (bit ≠ 0 ∧ bit ≠ 1)) (w : World) :
    Calls Tryd.prog 88 #[mat r c s, .int .i64 bit] w fun e w' => ∃ v, e = .returned v ∧ w'.ownsRow w.heap.size 26 2 v 0 (flat []) ∧ Below w.heap.size w w' := by
  have HV := Lib.hid hb
  have HH := Lib.hid h
  clear hb h
  have own0 : ∀ W : World, w.heap.size ≤ W.heap.size → (W.alloc (.cells #[] 26)).ownsRow w.heap.size 26 2 (.slice (some ⟨W.heap.size, 0, none⟩) 0 0) 0 (flat []) := fun W hW => own_lower (App.Own.lit W 26 2).row hW
  have HO := Lib.hid own0
  clear own0
  go_enter Tryd.func88, Tryd.ntmps88
  go_wp2_with fail
  refine (spec_valid r c s hs _).mono ?_
  rintro e w1 ⟨rfl, hb1⟩
  rw [HV.out]
  have HB := Lib.hid (bstep ((Below.refl w.heap.size w).alloc (Nat.le_refl _) _) hb1)
  clear hb1
  cases b
  · go_wp2_with fail
    go_ret
    exact ⟨_, rfl, HO.out _ HB.out.size, HB.out.alloc HB.out.size _⟩
  · have HN : Hid (decide (0 ≤ bit ∧ bit ≤ 1) = false) := decide_eq_false (by have := HH.out; simp at this; omega)
    go_wp2_with fail
    refine (in_any bit 0 1 _).mono ?_
    rintro e w' ⟨rfl, rfl⟩
    rw [HN.out]
    go_wp2_with fail
    go_ret
    exact ⟨_, rfl, HO.out _ HB.out.size, HB.out.alloc HB.out.size _⟩

set_option maxHeartbeats 1000000 in
theorem spec_yes (E : Nat → Nat → Bool) (R C : Nat) (hR1 : 1 ≤ R) (hR : R ≤ 8) (hC1 : 1 ≤ C) (hC : C ≤ 8) (hs : (str (rowsB E R C)).size ≤ maxLen) (hv : validB R C (str (rowsB E R C)) = true) (b : Bool) (w : World) :
    Calls Tryd.prog 88 #[mat R C (str (rowsB E R C)), .int .i64 (bitI b)] w fun e w' => ∃ v, e = .returned v ∧ w'.ownsRow w.heap.size 26 2 v (mx E b R C (2 ^ R - 1)).length (flat (mx E b R C (2 ^ R - 1))) ∧ Below w.heap.size w w' := by
  have HL := Lib.hid (fun W => l2_maximal E R C hR1 hR hC1 hC b W)
  have HV := Lib.hid hv
  generalize mx E b R C (2 ^ R - 1) = l at *
  generalize str (rowsB E R C) = s at *
  have HN : Hid (decide (0 ≤ bitI b ∧ bitI b ≤ 1) = true) := decide_eq_true (by cases b <;> decide)
  generalize bitI b = bit at *
  clear hv
  go_enter Tryd.func88, Tryd.ntmps88
  go_wp2_with fail
  refine (spec_valid R C s hs _).mono ?_
  rintro e w1 ⟨rfl, hb1⟩
  rw [HV.out]
  have hm := mh_on (w1 := w1) (show MHolds (w.alloc (.cells #[.int .i64 (R : Int), .int .i64 (C : Int), .string s] 24)) w.heap.size 24 R C s from heap_alloc_new w _) hb1
  have HB := Lib.hid (bstep ((Below.refl w.heap.size w).alloc (Nat.le_refl _) _) hb1)
  clear hb1
  obtain ⟨q0, q1, q2⟩ := mh_c hm
  clear hm
  go_wp2_with fail
  refine (in_any bit 0 1 _).mono ?_
  rintro e w' ⟨rfl, rfl⟩
  rw [HN.out]
  go_wp2_with fail
  refine (HL.out _).mono ?_
  rintro e w2 ⟨v, rfl, ho, hb2⟩
  have HO := Lib.hid (And.intro (own_lower ho HB.out.size) (HB.out.trans (hb2.mono HB.out.size)))
  clear ho hb2
  go_wp2_with fail
  go_ret
  exact ⟨_, rfl, HO.out.1, HO.out.2⟩
end Go.Proofs.YtalechngagkklaaDoor.MaxS
