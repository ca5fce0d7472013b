/-
  Texts of one seat, joined: MaxS, FreeInV.
-/
import Derived.Test.YtgmhddceeomjbaaGreatDoorJ25
import Derived.Test.YtgmhddceeomjbaaGreatDoorJ20
import Derived.Test.YtgmhddceeomjbaaGreatDoorJ23
import Derived.Test.YtgmhddceeomjbaaGreatDoorJ17
import Derived.Test.YtgmhddceeomjbaaGreatDoorJ12
/-
  The reference's l2Maximal and MaximalRects.
-/
namespace Go.Proofs.YtgmhddceeomjbaaGreatDoor.MaxS
open Go.RowKit Go.Proofs.YtgmhddceeomjbaaGreatDoor.Plain Go.Proofs.YtgmhddceeomjbaaGreatDoor.Base Go.Proofs.YtgmhddceeomjbaaGreatDoor.Valid Go.Proofs.YtgmhddceeomjbaaGreatDoor.Law Go.Proofs.YtgmhddceeomjbaaGreatDoor.GridPlain Go.Proofs.YtgmhddceeomjbaaGreatDoor.Grid Go.Proofs.YtgmhddceeomjbaaGreatDoor.Entry Go.Proofs.YtgmhddceeomjbaaGreatDoor.Pat Go.Proofs.YtgmhddceeomjbaaGreatDoor.Rect Go.Proofs.YtgmhddceeomjbaaGreatDoor.Board Go.Proofs.YtgmhddceeomjbaaGreatDoor.BoardM Go.Proofs.YtgmhddceeomjbaaGreatDoor.RValid Go.Proofs.YtgmhddceeomjbaaGreatDoor.Colour Go.Proofs.YtgmhddceeomjbaaGreatDoor.Where Go.Proofs.YtgmhddceeomjbaaGreatDoor.Turn1 Go.Proofs.YtgmhddceeomjbaaGreatDoor.Cols Go.Proofs.YtgmhddceeomjbaaGreatDoor.MaxM Go.Proofs.YtgmhddceeomjbaaGreatDoor.App
open Go.Proofs.YtgmhddceeomjbaaGreatDoor.KeysI (flat flat_next infoK two_new)
set_option linter.unusedVariables false

theorem own_lower {w : World} {B B' : Nat} {e : TypeId} {k n : Nat} {v : Value} {xs : List Value} (h : w.ownsRow B e k v n xs) (hB : B' ≤ B) : w.ownsRow B' e k v n xs := by
  refine ⟨h.1, ?_⟩
  rcases h.2 with h2 | ⟨g, cap, cur, h2, h3, h4⟩
  · exact .inl h2
  · exact .inr ⟨g, cap, cur, h2, Nat.le_trans hB h3, h4⟩

set_option maxHeartbeats 4000000 in
set_option maxRecDepth 100000 in
theorem l2_maximal (E : Nat → Nat → Bool) (R C : Nat) (hR1 : 1 ≤ R) (hR : R ≤ 8) (hC1 : 1 ≤ C) (hC : C ≤ 8) (b : Bool) (w : World) :
    Calls Tryz.prog 73 #[mat R C (str (rowsB E R C)), .int .i64 (bitI b)] w fun e w' => ∃ v, e = .returned v ∧ w'.ownsRow w.heap.size 34 2 v (mx E b R C (2 ^ R - 1)).length (flat (mx E b R C (2 ^ R - 1))) ∧ Below w.heap.size w w' := by
  obtain ⟨i0, hi, hz0, hz1, hz2⟩ := info_parts infoK
  have HCOL := Lib.hid (fun S hS W => cols_any E R C hR1 hR hC1 hC S hS b W)
  have HROW := Lib.hid (fun S hS W => rows_any E R C hR1 hR hC1 hC S hS b W)
  have HLEN := Lib.hid (fun k => mx_len E b R C k)
  have HN0 : Hid (mx E b R C 0 = []) := rfl
  have HNX : Hid (∀ q, mx E b R C (q + 1) = mx E b R C q ++ (if 0 < cS E b R C (q + 1) ∧ rS E b R C (cS E b R C (q + 1)) = q + 1 then [(((q + 1 : Nat) : Int), ((cS E b R C (q + 1) : Nat) : Int))] else [])) := fun q => rfl
  have HCL : Hid (∀ S, cS E b R C S < 256) := fun S => Nat.lt_of_lt_of_le (cS_lt E b R C S) (Nat.pow_le_pow_right (n := 2) (by decide) hC)
  have HRL : Hid (∀ T, rS E b R C T < 256) := fun T => Nat.lt_of_lt_of_le (rS_lt E b R C T) (Nat.pow_le_pow_right (n := 2) (by decide) hR)
  obtain ⟨hpw, hp1, hp2⟩ := pow8 R hR
  have hp3 : 2 ≤ 2 ^ R := by
    have := Nat.pow_le_pow_right (n := 2) (by decide) hR1
    omega
  generalize str (rowsB E R C) = s at *
  generalize 2 ^ R = N at *
  obtain ⟨bi, hbi⟩ : ∃ bi, bitI b = bi := ⟨_, rfl⟩
  rw [hbi] at HCOL HROW ⊢
  clear hbi
  go_enter Tryz.func73, Tryz.ntmps73
  go_wp2_with fail
  have e0 : MHolds (w.alloc (.cells #[.int .i64 (R : Int), .int .i64 (C : Int), .string s] 27)) w.heap.size 27 R C s := heap_alloc_new w _
  have hb0 : Below w.heap.size w (w.alloc (.cells #[.int .i64 (R : Int), .int .i64 (C : Int), .string s] 27)) := (Below.refl w.heap.size w).alloc (Nat.le_refl _) _
  have hs0 : w.heap.size ≤ (w.alloc (.cells #[.int .i64 (R : Int), .int .i64 (C : Int), .string s] 27)).heap.size := hb0.size
  have hsz : (w.alloc (.cells #[.int .i64 (R : Int), .int .i64 (C : Int), .string s] 27)).heap.size = w.heap.size + 1 := by simp
  generalize w.alloc (.cells #[.int .i64 (R : Int), .int .i64 (C : Int), .string s] 27) = W0 at *
  have HO0 : Hid (App.Own W0 (W0.alloc (.cells #[] 34)) 34 2 (.slice (some ⟨w.heap.size + 1, 0, none⟩) 0 0) (mx E b R C 0).length (flat (mx E b R C 0))) := by
    have h := App.Own.lit W0 34 2
    rw [hsz] at h
    exact h
  have HE := Lib.hid e0
  have HB0 := Lib.hid (And.intro hb0 hs0)
  clear e0 hb0 hs0 hsz
  go_loopw [5, 6] (fun v i wr => ∃ q : Nat, q + 1 ≤ N ∧ i = .int .i64 ((q + 1 : Nat) : Int) ∧ Hid (App.Own W0 wr 34 2 v (mx E b R C q).length (flat (mx E b R C q)))) (fun _ i _ => N - (intOf i).toNat)
  case atStart => exact ⟨0, by omega, rfl, HO0⟩
  case round =>
    obtain ⟨q, hq, rfl, HO⟩ := hrel
    clear HO0
    have hml := HLEN.out q
    obtain ⟨q0, q1, q2⟩ := mh_c (mh_on HE.out HO.out.below)
    obtain ⟨p, cp, rfl⟩ := HO.out.slice
    by_cases hlt : q + 1 < N
    · have HCC := Lib.hid (fun W => HCOL.out (q + 1) (by omega) W)
      have HRR := Lib.hid (fun W => HROW.out (cS E b R C (q + 1)) (HCL.out _) W)
      have hcl := HCL.out (q + 1)
      have hrl := HRL.out (cS E b R C (q + 1))
      have HX := Lib.hid (HNX.out q)
      have e1 : (setB (fun y => allTo E (q + 1) b y R) C : Nat) = cS E b R C (q + 1) := rfl
      have e2 : (setB (fun x => allTo (fun y x => E x y) (cS E b R C (q + 1)) b x C) R : Nat) = rS E b R C (cS E b R C (q + 1)) := rfl
      rw [e1] at HCC
      rw [e2] at HRR
      clear e1 e2
      generalize rS E b R C (cS E b R C (q + 1)) = r' at HRR hrl HX
      generalize cS E b R C (q + 1) = c at HCC HRR hcl HX
      obtain ⟨l0, hl0⟩ : ∃ l0, mx E b R C q = l0 := ⟨_, rfl⟩
      rw [hl0] at HX HO hml ⊢
      obtain ⟨k, hk⟩ : ∃ k, q + 1 = k := ⟨_, rfl⟩
      have HQ := Lib.hid (And.intro hl0 hk)
      rw [hk] at HCC HX hlt ⊢
      have hk1 : 1 ≤ k := by omega
      have hlk : l0.length ≤ 300 := by omega
      have hkl : (k : Int) < (N : Int) := by omega
      clear hl0 hk hq hml
      generalize hnn : l0.length = nn at HO hlk ⊢
      have HNN := Lib.hid hnn
      clear hnn
      go_wp2_with fail
      refine (HCC.out _).mono ?_
      rintro e w2 ⟨rfl, hb2⟩
      have HO2 := Lib.hid (HO.out.later hb2)
      clear hb2 q0 q1 q2 HO HCC
      obtain ⟨q0, q1, q2⟩ := mh_c (mh_on HE.out HO2.out.below)
      by_cases hc0 : 0 < c
      · have hci : (0 : Int) < (c : Int) := by omega
        go_wp2_with fail
        refine (HRR.out _).mono ?_
        rintro e w3 ⟨rfl, hb3⟩
        have HO3 := Lib.hid (HO2.out.later hb3)
        clear hb3 q0 q1 q2 HO2 HRR
        by_cases hrk : r' = k
        · subst hrk
          have HX1 := Lib.hid (HX.out.trans (by rw [if_pos ⟨hc0, rfl⟩]))
          have hbe : (((r' : Nat) : Int) == ((r' : Nat) : Int)) = true := by simp
          go_wp2_with (at_builtin; have HH := HO3.out; refine wpList_append_own _ rfl (.tmp 31) (.tmp 35) 25 rfl W0.heap.size 34 i0 (.agg #[.int .i64 0, .int .i64 0]) 2 16 Tryz.underlying25 hi hz0 hz1 hz2 rfl (by decide) _ _ _ rfl (HH.row.alloc _) ⟨w3.heap.size, 0, none⟩ 1 1 [.int .i64 (r' : Int), .int .i64 (c : Int)] rfl rfl ?a1 ?a2 ?a3 ?a4 ?a5 ?a6; go_must (case a1 => exact (two_new _ _ _ _)); go_must (case a2 => simp [Value.oneCell']); go_must (case a3 => (unfold maxLen; omega)); go_must (case a4 => omega); go_must (case a5 => (have := HH.below.size; simp at this ⊢; omega)); go_must (clear HH; intro v3 w3 hown3 hgrow3 _; have H3 := Lib.hid (App.Own.next HO3.out _ hown3 hgrow3); clear HO3 hown3 hgrow3))
          go_roundw
          case rel => exact ⟨r', by omega, by go_num, by rw [HX1.out, List.length_append, HNN.out, flat_next]; exact H3⟩
          case measure => simp [intOf]; omega
        · have hne : (((r' : Nat) : Int) == ((k : Nat) : Int)) = false := by simp; omega
          have HX1 := Lib.hid (HX.out.trans (by rw [if_neg (fun h => hrk h.2), List.append_nil]))
          go_wp2_with fail
          go_roundw
          case rel => exact ⟨k, by omega, by go_num, by rw [HX1.out, HNN.out]; exact HO3⟩
          case measure => simp [intOf]; omega
      · have hci : ¬ (0 : Int) < (c : Int) := by omega
        have HX1 := Lib.hid (HX.out.trans (by rw [if_neg (fun h => hc0 h.1), List.append_nil]))
        go_wp2_with fail
        go_roundw
        case rel => exact ⟨k, by omega, by go_num, by rw [HX1.out, HNN.out]; exact HO2⟩
        case measure => simp [intOf]; omega
    · obtain rfl : N = q + 1 := by omega
      go_wp2_with fail
      go_ret
      exact ⟨_, rfl, own_lower (by rw [show q + 1 - 1 = q by omega]; exact HO.out.row) HB0.out.2, HB0.out.1.trans (HO.out.below.mono HB0.out.2)⟩

set_option maxHeartbeats 1000000 in
theorem spec_no (r c : Int) (s : ByteArray) (hs : s.size ≤ maxLen) (bit : Int) (b : Bool) (hb : validB r c s = b) (h : b = false ∨ (bit ≠ 0 ∧ bit ≠ 1)) (w : World) :
    Calls Tryz.prog 30 #[mat r c s, .int .i64 bit] w fun e w' => ∃ v, e = .returned v ∧ w'.ownsRow w.heap.size 34 2 v 0 (flat []) ∧ Below w.heap.size w w' := by
  have HV := Lib.hid hb
  have HH := Lib.hid h
  clear hb h
  have own0 : ∀ W : World, w.heap.size ≤ W.heap.size → (W.alloc (.cells #[] 34)).ownsRow w.heap.size 34 2 (.slice (some ⟨W.heap.size, 0, none⟩) 0 0) 0 (flat []) := fun W hW => own_lower (App.Own.lit W 34 2).row hW
  have HO := Lib.hid own0
  clear own0
  go_enter Tryz.func30, Tryz.ntmps30
  go_wp2_with fail
  refine (spec_valid r c s hs _).mono ?_
  rintro e w1 ⟨rfl, hb1⟩
  rw [HV.out]
  have HB := Lib.hid (bstep ((Below.refl w.heap.size w).alloc (Nat.le_refl _) _) hb1)
  clear hb1
  cases b
  · go_wp2_with fail
    go_ret
    exact ⟨_, rfl, HO.out _ HB.out.size, HB.out.alloc HB.out.size _⟩
  · have HN : Hid (decide (0 ≤ bit ∧ bit ≤ 1) = false) := decide_eq_false (by have := HH.out; simp at this; omega)
    go_wp2_with fail
    refine (in_any bit 0 1 _).mono ?_
    rintro e w' ⟨rfl, rfl⟩
    rw [HN.out]
    go_wp2_with fail
    go_ret
    exact ⟨_, rfl, HO.out _ HB.out.size, HB.out.alloc HB.out.size _⟩

set_option maxHeartbeats 1000000 in
theorem spec_yes (E : Nat → Nat → Bool) (R C : Nat) (hR1 : 1 ≤ R) (hR : R ≤ 8) (hC1 : 1 ≤ C) (hC : C ≤ 8) (hs : (str (rowsB E R C)).size ≤ maxLen) (hv : validB R C (str (rowsB E R C)) = true) (b : Bool) (w : World) :
    Calls Tryz.prog 30 #[mat R C (str (rowsB E R C)), .int .i64 (bitI b)] w fun e w' => ∃ v, e = .returned v ∧ w'.ownsRow w.heap.size 34 2 v (mx E b R C (2 ^ R - 1)).length (flat (mx E b R C (2 ^ R - 1))) ∧ Below w.heap.size w w' := by
  have HL := Lib.hid (fun W => l2_maximal E R C hR1 hR hC1 hC b W)
  have HV := Lib.hid hv
  generalize mx E b R C (2 ^ R - 1) = l at *
  generalize str (rowsB E R C) = s at *
  have HN : Hid (decide (0 ≤ bitI b ∧ bitI b ≤ 1) = true) := decide_eq_true (by cases b <;> decide)
  generalize bitI b = bit at *
  clear hv
  go_enter Tryz.func30, Tryz.ntmps30
  go_wp2_with fail
  refine (spec_valid R C s hs _).mono ?_
  rintro e w1 ⟨rfl, hb1⟩
  rw [HV.out]
  have hm := mh_on (w1 := w1) (show MHolds (w.alloc (.cells #[.int .i64 (R : Int), .int .i64 (C : Int), .string s] 27)) w.heap.size 27 R C s from heap_alloc_new w _) hb1
  have HB := Lib.hid (bstep ((Below.refl w.heap.size w).alloc (Nat.le_refl _) _) hb1)
  clear hb1
  obtain ⟨q0, q1, q2⟩ := mh_c hm
  clear hm
  go_wp2_with fail
  refine (in_any bit 0 1 _).mono ?_
  rintro e w' ⟨rfl, rfl⟩
  rw [HN.out]
  go_wp2_with fail
  refine (HL.out _).mono ?_
  rintro e w2 ⟨v, rfl, ho, hb2⟩
  have HO := Lib.hid (And.intro (own_lower ho HB.out.size) (HB.out.trans (hb2.mono HB.out.size)))
  clear ho hb2
  go_wp2_with fail
  go_ret
  exact ⟨_, rfl, HO.out.1, HO.out.2⟩
end Go.Proofs.YtgmhddceeomjbaaGreatDoor.MaxS

/-
  The law of a drawn region within a round of a range over a function: all operations but the last only make memory; what they yield is told by a relation.
-/
namespace Go.Proofs.YtgmhddceeomjbaaGreatDoor.FreeInV
open Go Go.RowKit Go.Proofs.YtgmhddceeomjbaaGreatDoor.Free Go.Proofs.YtgmhddceeomjbaaGreatDoor.FreeIn
set_option linter.unusedVariables false

section
variable {ops : Array Oper}

/-- what an operation may know of the slots -/
def FactsV (ops : Array Oper) (a0 : Act) (R : Nat → Value → Prop) (o : Oper) (a : Act) : Prop :=
  (∀ e ∈ o.after, Region.binds .any e = true → ∀ (oj : Oper) (dj : Tmp), ops[e.on]? = some oj → oj.dst = some dj → R e.on (a.tmps[dj]?.getD undef)) ∧
  (∀ k, (ops.toList.all fun o => o.dst != some k) = true → a.tmps[k]?.getD undef = a0.tmps[k]?.getD undef)

/-- THE LAW WITHOUT A DRAW: within a round -/
theorem wpIn_region_val {P : Program} {F₀ : Fence} {m id n : Nat} {a0 : Act} {w0 : World} {Q : Exit → Act → World → Prop} (R : Nat → Value → Prop) (last : Nat) (F : World → World → Prop) (os : Oper)
    (hm : P.follows .mixedOrders = true) (hB : freeB ops n = true) (hn : a0.tmps.size = n) (hs : ops[last]? = some os) (hsd : os.dst = none) (hsz : ops.size = last + 1)
    (hw : Region.sinkB .any ops last = true)
    (hcon : ∀ (i : Nat) (o : Oper), ops[i]? = some o → i < last → ∀ (a : Act) (w : World), Below w0.heap.size w0 w → FactsV ops a0 R o a →
      o.wpIn F₀ m P a w (fun a' w' => ∃ v, a' = a.put o.dst v ∧ R i v ∧ Below w.heap.size w w') Q)
    (hst : ∀ (a : Act) (w : World), Below w0.heap.size w0 w → FactsV ops a0 R os a → os.wpIn F₀ m P a w (fun a' w' => a' = a ∧ F w w') Q)
    (hend : ∀ (vs : Nat → Value) (w1 w : World), Below w0.heap.size w0 w1 → F w1 w → (∀ (i : Nat) (o : Oper), ops[i]? = some o → i ≠ last → R i (vs i)) → Q .normal (fill ops.toList vs 0 a0) w) :
    (Code.region id ops true).wpIn F₀ m P Q a0 w0 := by
  let Y : Nat → Value → Act → World → Prop := fun i v a w => i ≠ last → R i v
  let S : (Nat → Bool) → World → Prop := fun l w => (l last = false → Below w0.heap.size w0 w) ∧ (l last = true → ∃ w1, Below w0.heap.size w0 w1 ∧ F w1 w)
  have facts : ∀ (listed : Array Bool) (o : Oper) (i : Nat) (a : Act) (w : World), ops[i]? = some o → MidIn ops a0 Y S listed a w →
      (∀ e ∈ o.after, Region.binds .any e = true → listed.getD e.on false = true) → (∀ e ∈ o.after, Region.binds .any e = true → e.on ≠ last) → FactsV ops a0 R o a := by
    intro listed o i a w ho hM hdl hlt
    refine ⟨fun e he hb oj dj hoj hdj => ?_, fun k hk => ?_⟩
    · obtain ⟨v, hv, hvd⟩ := hM.new e.on oj hoj (hdl e he hb)
      rw [hvd dj hdj]
      exact hv (hlt e he hb)
    · rw [hM.old k fun i o' ho' hd' => ?_]
      have := List.all_eq_true.1 hk o' (by simpa using Array.mem_of_getElem? ho')
      simp [hd'] at this
  have hB2 := hB
  simp only [freeB, Bool.and_eq_true, decide_eq_true_eq] at hB2
  obtain ⟨⟨_, _⟩, h3⟩ := hB2
  have hac : ∀ (i : Nat) (o : Oper), ops[i]? = some o → ∀ e ∈ o.after, Region.binds .any e = true → e.on < i := fun i o ho e he hb => by
    have hi : i < ops.size := (Array.getElem?_eq_some_iff.1 ho).1
    have := List.all_eq_true.1 h3 i (List.mem_range.2 hi)
    rw [ho] at this
    have h5 : (o.after.all fun e => !Region.binds .any e || decide (e.on < i)) = true := this
    have := Array.all_eq_true_iff_forall_mem.1 h5 e he
    simpa [hb] using this
  refine wpIn_region_free (Y := Y) (S := S) hm hB hn ⟨fun _ => (Below.refl w0.heap.size w0).drew, fun h => (by cases h)⟩ ?_ ?_
  · intro i o ho listed a w hM hu hdp
    have hi : i < ops.size := (Array.getElem?_eq_some_iff.1 ho).1
    by_cases hil : i = last
    · subst hil
      obtain rfl : o = os := Option.some.inj (ho.symm.trans hs)
      have hw1 := hM.world.1 hu
      refine Oper.wpIn_mono ?_ (hst a w hw1 (facts listed o i a _ ho hM hdp (fun e he hb => Nat.ne_of_lt (hac i o ho e he hb))))
      rintro a' w' ⟨rfl, hf⟩
      exact ⟨undef, by rw [hsd]; rfl, fun h => absurd rfl h, ⟨fun h => (by simp at h), fun _ => ⟨w, hw1, hf⟩⟩, fun j u hj _ hY hjl => hY hjl⟩
    · have hlt : i < last := by omega
      have hnl : listed.getD last false = false := by
        cases hl : listed.getD last false with
        | false => rfl
        | true =>
          exfalso
          have := sink_listed hw hM.closed hl (last - i) i (Nat.le_refl _) (by omega)
          rw [hu] at this
          cases this
      have hw1 := hM.world.1 hnl
      refine Oper.wpIn_mono ?_ (hcon i o ho hlt a w hw1 (facts listed o i a w ho hM hdp (fun e he hb => Nat.ne_of_lt (Nat.lt_trans (hac i o ho e he hb) hlt))))
      rintro a' w' ⟨v, rfl, hv, hb⟩
      refine ⟨v, rfl, fun _ => hv, ⟨fun _ => hw1.trans (hb.mono hw1.size), fun h => ?_⟩, fun j u hj _ hY hjl => hY hjl⟩
      dsimp only at h
      rw [if_neg (Ne.symm hil), hnl] at h
      cases h
  · intro vs w hw1 hall
    obtain ⟨w1, hb1, hf⟩ := hw1.2 (decide_eq_true (by omega))
    exact hend vs w1 w hb1 hf fun i o ho hil => hall i o ho hil
end

theorem wpIn_enterE {P : Program} {F : Fence} {m : Nat} {o : Oper} {a : Act} {w : World} {K : Act → World → Prop} {Q : Exit → Act → World → Prop} (f : FuncId) (args : Array Value) (R : Value → World → Prop)
    (ha : ∀ g, o.about P w a.eval = some g → F.fn g) (h : (o.semAt F.round a.eval).run P w = .ok (.enter f args) w) (hm : F.depth.isSome = true → 1 ≤ m)
    (hc : CallsIn F (m - 1) P f args w fun e w' => ∃ v, e = .returned v ∧ R v w') (hK : ∀ v w', R v w' → K (a.put o.dst v) w') : o.wpIn F m P a w K Q := by
  unfold Oper.wpIn
  refine ⟨ha, ?_⟩
  rw [h]
  refine ⟨hm, ?_⟩
  refine CallsIn.mono hc ?_
  rintro e w' ⟨v, rfl, hR⟩
  exact hK v w' hR
end Go.Proofs.YtgmhddceeomjbaaGreatDoor.FreeInV

