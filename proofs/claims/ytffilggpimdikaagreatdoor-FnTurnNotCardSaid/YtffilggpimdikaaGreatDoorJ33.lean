/-
  Texts of one seat, joined: TurnM, TnLaw.
-/
import Derived.Test.YtffilggpimdikaaGreatDoorJ1
import Derived.Test.YtffilggpimdikaaGreatDoorJ14
import Derived.Test.YtffilggpimdikaaGreatDoorJ26
import Derived.Test.YtffilggpimdikaaGreatDoorJ22
import Derived.Test.YtffilggpimdikaaGreatDoorJ24
import Derived.Test.YtffilggpimdikaaGreatDoorTnM
import Derived.Test.YtffilggpimdikaaGreatDoorJ25
import Derived.Test.YtffilggpimdikaaGreatDoorJ16
import Derived.Test.YtffilggpimdikaaGreatDoorJ17
/-
  The ones of a matrix told by its entries, turned and exchanged; what turning, taking the other matrix and counting answer.
-/
namespace Go.Proofs.YtffilggpimdikaaGreatDoor.TurnM
open Go.RowKit Go.Proofs.YtffilggpimdikaaGreatDoor.Plain Go.Proofs.YtffilggpimdikaaGreatDoor.Base Go.Proofs.YtffilggpimdikaaGreatDoor.Valid Go.Proofs.YtffilggpimdikaaGreatDoor.Law Go.Proofs.YtffilggpimdikaaGreatDoor.GridPlain Go.Proofs.YtffilggpimdikaaGreatDoor.Grid Go.Proofs.YtffilggpimdikaaGreatDoor.Entry Go.Proofs.YtffilggpimdikaaGreatDoor.Pat Go.Proofs.YtffilggpimdikaaGreatDoor.Clos Go.Proofs.YtffilggpimdikaaGreatDoor.SpecTO Go.Proofs.YtffilggpimdikaaGreatDoor.ColF
open Go.Proofs.YtffilggpimdikaaGreatDoor.fnExactCountOnes (cntI impl_count)
set_option linter.unusedVariables false
set_option linter.unusedSectionVars false

theorem row_cnt (E : Nat → Nat → Bool) (x : Nat) : ∀ c, (rowB E x c).count 49 = sumN (fun y => (E x y).toNat) c
  | 0 => rfl
  | c + 1 => by rw [rowB_succ, List.count_append, row_cnt E x c, sumN]; cases E x c <;> rfl
/-- how many ones -/
def onesN (E : Nat → Nat → Bool) (r c : Nat) : Nat := sumN (fun x => sumN (fun y => (E x y).toNat) c) r
theorem rows_cnt (E : Nat → Nat → Bool) (c : Nat) : ∀ r, (rowsB E r c).count 49 = onesN E r c
  | 0 => rfl
  | r + 1 => by
    have := rows_cnt E c r
    unfold onesN at this ⊢
    rw [rowsB_succ, List.count_append, this, sumN, row_cnt]
theorem sum_add (f g : Nat → Nat) : ∀ n, sumN (fun x => f x + g x) n = sumN f n + sumN g n
  | 0 => rfl
  | n + 1 => by rw [sumN, sumN, sumN, sum_add f g n]; omega
theorem sum_zero : ∀ n, sumN (fun _ => 0) n = 0
  | 0 => rfl
  | n + 1 => by rw [sumN, sum_zero n]
theorem sum_one : ∀ n, sumN (fun _ => 1) n = n
  | 0 => rfl
  | n + 1 => by rw [sumN, sum_one n]
theorem sum_const (b : Nat) : ∀ n, sumN (fun _ => b) n = n * b
  | 0 => by simp [sumN]
  | n + 1 => by rw [sumN, sum_const b n, Nat.succ_mul]
theorem sum_swap (f : Nat → Nat → Nat) (c : Nat) : ∀ r, sumN (fun x => sumN (fun y => f x y) c) r = sumN (fun y => sumN (fun x => f x y) r) c
  | 0 => (sum_zero c).symm
  | r + 1 => by
    rw [sumN, sum_swap f c r, ← sum_add]
    rfl
theorem ones_turn (E : Nat → Nat → Bool) (r c : Nat) : onesN (fun x y => E y x) c r = onesN E r c := sum_swap (fun x y => (E y x).toNat) r c
theorem ones_other (E : Nat → Nat → Bool) (r c : Nat) : onesN (fun x y => !E x y) r c + onesN E r c = r * c := by
  unfold onesN
  rw [← sum_add, sumN_congr _ (fun _ => c) r, sum_const]
  intro x _
  rw [← sum_add, sumN_congr _ (fun _ => 1) c, sum_one]
  intro y _
  show (!E x y).toNat + (E x y).toNat = 1
  cases E x y <;> rfl
theorem ones_le (E : Nat → Nat → Bool) (r c : Nat) : onesN E r c ≤ r * c := by
  have := ones_other E r c
  omega
section
variable (E : Nat → Nat → Bool) (R C : Nat) (h1 : 1 ≤ R) (h2 : R ≤ 8) (h3 : 1 ≤ C) (h4 : C ≤ 8)
include h1 h2 h3 h4
theorem count_yes (w : World) : Calls Tryz.prog 77 #[mat R C (str (rowsB E R C))] w fun e w' => e = .returned (.int .i64 ((onesN E R C : Nat) : Int)) ∧ Below w.heap.size w w' := by
  have := impl_count R C _ (rows_max E R C h2 h4) w
  unfold cntI Lib.countByte at this
  rw [valid_rows E R C h1 h2 h3 h4, if_pos rfl, show (str (rowsB E R C)).data.toList = rowsB E R C by simp [str], rows_cnt] at this
  exact this
theorem turn_yes (w : World) : Calls Tryz.prog 24 #[mat R C (str (rowsB E R C))] w fun e w' => e = .returned (.tuple #[mat C R (str (rowsB (fun x y => E y x) C R)), .bool true]) ∧ Below w.heap.size w w' :=
  turn_impl E R C h1 h2 h3 h4 _ w fun W => grid_yes E R C h1 h2 h3 h4 _ rfl (rows_max E R C h2 h4) (rows_small E R C h2 h4) (valid_rows E R C h1 h2 h3 h4) W
end
end Go.Proofs.YtffilggpimdikaaGreatDoor.TurnM

/-
  The walk of the drawn law on TurnProtocol and NotProtocol.
-/
namespace Go.Proofs.YtffilggpimdikaaGreatDoor.fnTurnNot
open Go.RowKit Go.Shelf Go.Proofs.YtffilggpimdikaaGreatDoor.Plain Go.Proofs.YtffilggpimdikaaGreatDoor.Base Go.Proofs.YtffilggpimdikaaGreatDoor.Tree Go.Proofs.YtffilggpimdikaaGreatDoor.Read Go.Proofs.YtffilggpimdikaaGreatDoor.Parts Go.Proofs.YtffilggpimdikaaGreatDoor.TreeOf Go.Proofs.YtffilggpimdikaaGreatDoor.Talk Go.Proofs.YtffilggpimdikaaGreatDoor.Rd Go.Proofs.YtffilggpimdikaaGreatDoor.Rd2 Go.Proofs.YtffilggpimdikaaGreatDoor.DrawT Go.Proofs.YtffilggpimdikaaGreatDoor.DrawB5 Go.Proofs.YtffilggpimdikaaGreatDoor.TnM Go.Proofs.YtffilggpimdikaaGreatDoor.Kept
open Go.Proofs.YtffilggpimdikaaGreatDoor.CompM (comp_true)
open Go.Proofs.YtffilggpimdikaaGreatDoor.ErrB (found_mat)
open Go.Proofs.YtffilggpimdikaaGreatDoor.TurnM (turn_yes)
open Go.Proofs.YtffilggpimdikaaGreatDoor.ColF (other_yes)
open Go.Proofs.YtffilggpimdikaaGreatDoor.Rd5 (cells3)
set_option linter.unusedVariables false
set_option linter.unusedSimpArgs false

set_option maxHeartbeats 1000000 in
theorem draw_tn (v : Value) (n : Nat) (w : World) (h : ByteArg w v n) :
    Calls Tryz.prog 19 #[v] w fun e w' => ∃ (s : ByteArray), e = .returned (.string s) ∧ s.size ≤ 1000 ∧ Below w.heap.size w w' := by
  have HO := Lib.hid (open_any v n w h)
  clear h
  go_enter Tryz.func19, Tryz.ntmps19
  go_wp2_with fail
  refine HO.out.mono ?_
  rintro e w1 ⟨g, rfl, hr, hb, hg⟩
  have HB := Lib.hid hb
  have HS := Lib.hid (open5_any g 0 (by omega) w1 hr)
  clear hr hb HO
  go_wp2_with fail
  refine HS.out.mono ?_
  rintro e w2 ⟨s, p2, rfl, hs, hr, hp2, ha⟩
  have HB2 : Hid (Below w.heap.size w w2) := ha.below HB.out (by omega)
  clear hr ha HS HB
  go_wp2_with fail
  go_ret
  exact ⟨s, rfl, hs, HB2.out⟩

/-- which texts there are: all answer none, or it is a protocol -/
theorem cases (s : ByteArray) (hs : s.size ≤ 1048576) :
    ((∀ w, Calls Tryz.prog 20 #[.string s] w fun e w' => e = .returned (.tuple #[.string (str []), .bool false]) ∧ Below w.heap.size w w') ∧
     (∀ w, Calls Tryz.prog 21 #[.string s] w fun e w' => e = .returned (.tuple #[.string (str []), .bool false]) ∧ Below w.heap.size w w') ∧
     (∀ w, Calls Tryz.prog 22 #[.string s] w fun e w' => e = .returned (.tuple #[.string (str []), .bool false]) ∧ Below w.heap.size w w') ∧
     (∀ w, Calls Tryz.prog 23 #[.string s] w fun e w' => e = .returned (.tuple #[.string (str []), .bool false]) ∧ Below w.heap.size w w')) ∨
    (∃ t : T, wf t ∧ s.data.toList = text t ∧ s.size ≤ 2000) := by
  rcases ok_or s with ⟨t, h1, h2, h3⟩ | h
  · exact .inr ⟨t, h1, h2, h3⟩
  · obtain ⟨x1, x2, x3⟩ := fnExactNotProtocol.one_ok true
    obtain ⟨y1, y2, y3⟩ := fnExactNotProtocol.one_ok false
    exact .inl ⟨fnExactTurnProtocol.impl_no s h hs, fnExactTurnProtocol.spec_no s h hs, fnExactNotProtocol.impl_of s _ false fun W => Go.Proofs.YtffilggpimdikaaGreatDoor.GraftP.impl_no s (Go.Proofs.YtffilggpimdikaaGreatDoor.SaidTG.valS true) (Go.Proofs.YtffilggpimdikaaGreatDoor.SaidTG.valS false) hs (by omega) (by omega) (.inl h) W, fnExactNotProtocol.spec_no s h hs⟩
theorem not_impl (s : ByteArray) (t : T) (h1 : wf t) (h2 : s.data.toList = text t) (h3 : s.size ≤ 2000) (w : World) :
    Calls Tryz.prog 22 #[.string s] w fun e w' => e = .returned (.tuple #[.string (str (text (notT t))), .bool true]) ∧ Below w.heap.size w w' := by
  obtain ⟨x1, x2, x3⟩ := fnExactNotProtocol.one_ok true
  obtain ⟨y1, y2, y3⟩ := fnExactNotProtocol.one_ok false
  have hl : (text t).length = s.size := by rw [← h2]; simp
  have hn := not_length t
  unfold notT at hn
  exact fnExactNotProtocol.impl_of s _ true (fun W => Go.Proofs.YtffilggpimdikaaGreatDoor.GraftP.impl_yes s (Go.Proofs.YtffilggpimdikaaGreatDoor.SaidTG.valS true) (Go.Proofs.YtffilggpimdikaaGreatDoor.SaidTG.valS false) t (.leaf true) (.leaf false) h1 x1 y1 h2 x2 y2 h3 x3 y3 _ true (by unfold Go.Proofs.YtffilggpimdikaaGreatDoor.TextOf.textV; rw [if_pos (by omega)]; rfl) (by omega) W) w

set_option maxHeartbeats 8000000 in
set_option maxRecDepth 100000 in
theorem walk (v : Value) (n : Nat) (w : World) (h : ByteArg w v n) :
    Calls Tryz.prog 5 #[v] w fun e w' => e = .returned (.bool true) ∧ Below w.heap.size w w' := by
  obtain ⟨hn0, a, cap, rfl, hc, hb0⟩ := id h
  clear hb0
  have HD := Lib.hid (draw_tn _ n w h)
  clear h
  by_cases hbig : 1048576 < n
  · have hbi : (1048576 : Int) < (n : Int) := by omega
    go_enter Tryz.func5, Tryz.ntmps5
    go_wp2_with fail
    go_ret
    exact ⟨rfl, Below.refl _ _⟩
  · have hbi : ¬ (1048576 : Int) < (n : Int) := by omega
    go_enter Tryz.func5, Tryz.ntmps5
    go_wp2_with fail
    refine HD.out.mono ?_
    rintro e w1 ⟨s, rfl, hs, hb⟩
    have hcase := cases s (by omega)
    have HK1 := Lib.hid ((Kp.nil w).later hb)
    clear HD hbig hbi hb
    rcases hcase with ⟨hti, hts, hni, hns⟩ | ⟨t, g1, g2, g3⟩
    · have HTI := Lib.hid hti
      have HTS := Lib.hid hts
      have HNI := Lib.hid hni
      have HNS := Lib.hid hns
      clear hti hts hni hns hs
      generalize str [] = z at *
      go_wp2_with fail
      refine (HTI.out _).mono ?_
      rintro e w2 ⟨rfl, hb2⟩
      have HK2 := Lib.hid (HK1.out.later hb2)
      clear hb2 HK1
      go_wp2_with fail
      refine (HTS.out _).mono ?_
      rintro e w3 ⟨rfl, hb3⟩
      have HK3 := Lib.hid (HK2.out.later hb3)
      clear hb3 HK2
      go_wp2_with fail
      refine (HNI.out _).mono ?_
      rintro e w4 ⟨rfl, hb4⟩
      have HK4 := Lib.hid (HK3.out.later hb4)
      clear hb4 HK3
      go_wp2_with fail
      refine (HNS.out _).mono ?_
      rintro e w5 ⟨rfl, hb5⟩
      have HK5 := Lib.hid (HK4.out.later hb5)
      clear hb5 HK4
      go_wp2_with fail
      go_ret
      exact ⟨rfl, HK5.out.below⟩
    · have es : s = str (text t) := eq_str g2
      have hl : (text t).length = s.size := by rw [← g2]; simp
      have la : (str (text (turnT t))).size ≤ 2000 := by rw [str_size, turn_length]; omega
      have lb : (str (text (notT t))).size ≤ 2000 := by rw [str_size, not_length]; omega
      have wa := turn_wf t g1
      have wb := not_wf t g1
      have hti := fun W => fnExactTurnProtocol.impl_yes s t g1 g2 g3 W
      have hts := fun W => fnExactTurnProtocol.spec_yes s t g1 g2 g3 W
      have hni := fun W => not_impl s t g1 g2 g3 W
      have hns := fun W => fnExactNotProtocol.spec_yes s t g1 g2 g3 W
      rw [show graftT (.leaf true) (.leaf false) t = notT t from rfl] at hns
      have hm := fun W => found_mat s t g1 g2 g3 5 6 (by decide) (by decide) W
      have htm := fun W => turn_yes (fun x y => (talkT t x y).2) 5 6 (by decide) (by decide) (by decide) (by decide) W
      have hom := fun W => other_yes (fun x y => (talkT t x y).2) 5 6 (by decide) (by decide) (by decide) (by decide) W
      have htt := fun W => fnExactTurnProtocol.impl_yes (str (text (turnT t))) (turnT t) wa (str_data _) la W
      have hnn := fun W => not_impl (str (text (notT t))) (notT t) wb (str_data _) lb W
      rw [turn_turn, ← es] at htt
      rw [not_not, ← es] at hnn
      have hca := fun W => comp_true (str (text (turnT t))) (turnT t) wa (str_data _) la (fun x y => (talkT t y x).2) 6 5 (by decide) (by decide) (by decide) (by decide) (fun x y _ _ => turn_talk t x y) W
      have hcb := fun W => comp_true (str (text (notT t))) (notT t) wb (str_data _) lb (fun x y => !(talkT t x y).2) 5 6 (by decide) (by decide) (by decide) (by decide) (fun x y _ _ => not_talk t x y) W
      have hba := fun W => fnExactBitsOf.impl_yes (str (text (turnT t))) (turnT t) wa (str_data _) la W
      have hbs := fun W => fnExactBitsOf.impl_yes s t g1 g2 g3 W
      rw [turn_bits] at hba
      have hlb := fun W => fnExactLeavesOf.impl_yes (str (text (notT t))) (notT t) wb (str_data _) lb W
      have hls := fun W => fnExactLeavesOf.impl_yes s t g1 g2 g3 W
      rw [not_ends] at hlb
      clear la lb wa wb hl es g1 g2 g3 hs
      generalize str (text (turnT t)) = sa at *
      generalize str (text (notT t)) = sb at *
      generalize str (rowsB (fun x y => (talkT t x y).2) 5 6) = sm at *
      generalize str (rowsB (fun x y => (talkT t y x).2) 6 5) = st at *
      generalize str (rowsB (fun x y => !(talkT t x y).2) 5 6) = so at *
      generalize Tree.bits t = nb at *
      generalize ends t = ne at *
      have HTI := Lib.hid hti
      have HTS := Lib.hid hts
      have HNI := Lib.hid hni
      have HNS := Lib.hid hns
      have HM := Lib.hid hm
      have HTM := Lib.hid htm
      have HOM := Lib.hid hom
      have HTT := Lib.hid htt
      have HNN := Lib.hid hnn
      have HCA := Lib.hid hca
      have HCB := Lib.hid hcb
      have HBA := Lib.hid hba
      have HBS := Lib.hid hbs
      have HLB := Lib.hid hlb
      have HLS := Lib.hid hls
      clear hti hts hni hns hm htm hom htt hnn hca hcb hba hbs hlb hls
      go_wp2_with fail
      refine (HTI.out _).mono ?_
      rintro e w2 ⟨rfl, hb2⟩
      have HK2 := Lib.hid (HK1.out.later hb2)
      clear hb2 HK1
      go_wp2_with fail
      refine (HTS.out _).mono ?_
      rintro e w3 ⟨rfl, hb3⟩
      have HK3 := Lib.hid (HK2.out.later hb3)
      clear hb3 HK2
      go_wp2_with fail
      refine (HNI.out _).mono ?_
      rintro e w4 ⟨rfl, hb4⟩
      have HK4 := Lib.hid (HK3.out.later hb4)
      clear hb4 HK3
      go_wp2_with fail
      refine (HNS.out _).mono ?_
      rintro e w5 ⟨rfl, hb5⟩
      have HK5 := Lib.hid (HK4.out.later hb5)
      clear hb5 HK4
      go_wp2_with fail
      refine (HM.out _).mono ?_
      rintro e w6 ⟨rfl, hb6⟩
      obtain ⟨bm, hbm⟩ : ∃ x, w6.heap.size = x := ⟨_, rfl⟩
      have HK6 := Lib.hid ((HK5.out.later hb6).put (.cells #[.int .i64 5, .int .i64 6, .string sm] 24) hbm)
      clear hb6 HK5
      obtain ⟨cbm0, cbm1, cbm2, -, -, -⟩ := cells3 (HK6.out.at 0 rfl)
      go_wp2_with fail
      refine (HTM.out _).mono ?_
      rintro e w7 ⟨rfl, hb7⟩
      obtain ⟨bt, hbt⟩ : ∃ x, w7.heap.size = x := ⟨_, rfl⟩
      have HK7 := Lib.hid ((HK6.out.later hb7).put (.cells #[.int .i64 6, .int .i64 5, .string st] 24) hbt)
      clear hb7 HK6
      clear hbm cbm0 cbm1 cbm2
      obtain ⟨cbm0, cbm1, cbm2, -, -, -⟩ := cells3 (HK7.out.at 1 rfl)
      go_wp2_with fail
      refine (HOM.out _).mono ?_
      rintro e w8 ⟨rfl, hb8⟩
      obtain ⟨bo, hbo⟩ : ∃ x, w8.heap.size = x := ⟨_, rfl⟩
      have HK8 := Lib.hid ((HK7.out.later hb8).put (.cells #[.int .i64 5, .int .i64 6, .string so] 24) hbo)
      clear hb8 HK7
      clear hbt cbm0 cbm1 cbm2
      go_wp2_with fail
      refine (HTT.out _).mono ?_
      rintro e w9 ⟨rfl, hb9⟩
      have HK9 := Lib.hid (HK8.out.later hb9)
      clear hb9 HK8
      clear hbo
      go_wp2_with fail
      refine (HNN.out _).mono ?_
      rintro e w10 ⟨rfl, hb10⟩
      have HK10 := Lib.hid (HK9.out.later hb10)
      clear hb10 HK9
      obtain ⟨cbt0, cbt1, cbt2, -, -, -⟩ := cells3 (HK10.out.at 1 rfl)
      go_wp2_with fail
      refine (HCA.out _).mono ?_
      rintro e w11 ⟨rfl, hb11⟩
      have HK11 := Lib.hid (HK10.out.later hb11)
      clear hb11 HK10
      clear cbt0 cbt1 cbt2
      obtain ⟨cbo0, cbo1, cbo2, -, -, -⟩ := cells3 (HK11.out.at 0 rfl)
      go_wp2_with fail
      refine (HCB.out _).mono ?_
      rintro e w12 ⟨rfl, hb12⟩
      have HK12 := Lib.hid (HK11.out.later hb12)
      clear hb12 HK11
      clear cbo0 cbo1 cbo2
      go_wp2_with fail
      refine (HBA.out _).mono ?_
      rintro e w13 ⟨rfl, hb13⟩
      have HK13 := Lib.hid (HK12.out.later hb13)
      clear hb13 HK12
      go_wp2_with fail
      refine (HBS.out _).mono ?_
      rintro e w14 ⟨rfl, hb14⟩
      have HK14 := Lib.hid (HK13.out.later hb14)
      clear hb14 HK13
      go_wp2_with fail
      refine (HLB.out _).mono ?_
      rintro e w15 ⟨rfl, hb15⟩
      have HK15 := Lib.hid (HK14.out.later hb15)
      clear hb15 HK14
      go_wp2_with fail
      refine (HLS.out _).mono ?_
      rintro e w16 ⟨rfl, hb16⟩
      have HK16 := Lib.hid (HK15.out.later hb16)
      clear hb16 HK15
      go_wp2_with fail
      go_ret
      exact ⟨rfl, HK16.out.below⟩
end Go.Proofs.YtffilggpimdikaaGreatDoor.fnTurnNot

