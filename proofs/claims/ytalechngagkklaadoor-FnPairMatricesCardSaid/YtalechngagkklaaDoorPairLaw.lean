/-
  The walk of the drawn law on PairMatrices.
-/
import Derived.Test.YtalechngagkklaaDoorRdB
import Derived.Test.YtalechngagkklaaDoorPairWalk
import Derived.Test.YtalechngagkklaaDoorPairM
import Derived.Test.YtalechngagkklaaDoorColF
import Derived.Test.YtalechngagkklaaDoorKept
namespace Go.Proofs.YtalechngagkklaaDoor.fnPairMatrices
open Go.RowKit Go.Proofs.YtalechngagkklaaDoor.Plain Go.Proofs.YtalechngagkklaaDoor.Base Go.Proofs.YtalechngagkklaaDoor.Valid Go.Proofs.YtalechngagkklaaDoor.Law Go.Proofs.YtalechngagkklaaDoor.GridPlain Go.Proofs.YtalechngagkklaaDoor.Grid Go.Proofs.YtalechngagkklaaDoor.Entry Go.Proofs.YtalechngagkklaaDoor.From Go.Proofs.YtalechngagkklaaDoor.Ops Go.Proofs.YtalechngagkklaaDoor.Kept
open Go.Proofs.YtalechngagkklaaDoor.PairI (pairE div_side mod_side)
open Go.Proofs.YtalechngagkklaaDoor.PairS (pair_spec)
open Go.Proofs.YtalechngagkklaaDoor.PairM (ones_pair)
open Go.Proofs.YtalechngagkklaaDoor.TurnM (turn_yes count_yes onesN ones_le)
open Go.Proofs.YtalechngagkklaaDoor.fnExactPairMatrices (grid_any)
open Go.Proofs.YtalechngagkklaaDoor.ColF (tp_entry other_yes valid_rows rows_max rows_small)
open Go.Proofs.YtalechngagkklaaDoor.Rd (ByteArg)
open Go.Proofs.YtalechngagkklaaDoor.Rd5 (cells3)
set_option linter.unusedVariables false
set_option linter.unusedSectionVars false

/-- which matrices there are: both answer none, or both matrices are told by their entries -/
theorem cases (op : ByteArray) (r c : Int) (s : ByteArray) (hs : s.size ≤ maxLen) (r2 c2 : Int) (s2 : ByteArray) (hs2 : s2.size ≤ maxLen) :
    ((∀ w, Calls Tryd.prog 49 #[.string op, mat r c s, mat r2 c2 s2] w fun e w' => e = .returned (.tuple #[mat 0 0 (str []), .bool false]) ∧ Below w.heap.size w w') ∧
     (∀ w, Calls Tryd.prog 48 #[.string op, mat r c s, mat r2 c2 s2] w fun e w' => e = .returned (.tuple #[mat 0 0 (str []), .bool false]) ∧ Below w.heap.size w w')) ∨
    (∃ (R C R2 C2 : Nat) (E G : Nat → Nat → Bool), r = R ∧ c = C ∧ s = str (rowsB E R C) ∧ r2 = R2 ∧ c2 = C2 ∧ s2 = str (rowsB G R2 C2) ∧ opKnown op = true ∧ (1 ≤ R ∧ R ≤ 8 ∧ 1 ≤ C ∧ C ≤ 8) ∧ (1 ≤ R2 ∧ R2 ≤ 8 ∧ 1 ≤ C2 ∧ C2 ≤ 8) ∧ 1 ≤ R * R2 ∧ R * R2 ≤ 8 ∧ 1 ≤ C * C2 ∧ C * C2 ≤ 8) := by
  by_cases hk : opKnown op = true
  · by_cases hv : validB r c s = true
    · by_cases hv2 : validB r2 c2 s2 = true
      · obtain ⟨R, C, E, rfl, rfl, h1, h2, h3, h4, rfl⟩ := valid_form hv
        obtain ⟨R2, C2, G, rfl, rfl, i1, i2, i3, i4, rfl⟩ := valid_form hv2
        have hsz : (str (rowsB E R C)).size ≤ 64 := by rw [str_size, rowsB_length]; exact prod_le h2 h4
        have hsz2 : (str (rowsB G R2 C2)).size ≤ 64 := by rw [str_size, rowsB_length]; exact prod_le i2 i4
        have hg1 := fun W => grid_yes E R C h1 h2 h3 h4 _ rfl hs hsz hv W
        have hg2 := fun W => grid_yes G R2 C2 i1 i2 i3 i4 _ rfl hs2 hsz2 hv2 W
        have hp : wrap64 ((R : Int) * (R2 : Int)) = ((R * R2 : Nat) : Int) := wrap_prod R R2 h2 i2
        have hq : wrap64 ((C : Int) * (C2 : Int)) = ((C * C2 : Nat) : Int) := wrap_prod C C2 h4 i4
        have hP1 : 1 ≤ R * R2 := Nat.mul_le_mul h1 i1
        have hQ1 : 1 ≤ C * C2 := Nat.mul_le_mul h3 i3
        by_cases e1 : R * R2 ≤ 8
        · by_cases e2 : C * C2 ≤ 8
          · exact .inr ⟨R, C, R2, C2, E, G, rfl, rfl, rfl, rfl, rfl, rfl, hk, ⟨h1, h2, h3, h4⟩, ⟨i1, i2, i3, i4⟩, hP1, e1, hQ1, e2⟩
          · exact .inl ⟨fun w => PairN.spec_great2 op hk _ _ _ _ _ _ hs hs2 hv hv2 _ _ hp hq (by omega) (by omega) w, fun w => PairI.impl_great op hk _ _ _ _ _ _ _ _ _ _ _ _ _ _ hp hq (by omega) hg1 hg2 w⟩
        · exact .inl ⟨fun w => PairN.spec_great1 op hk _ _ _ _ _ _ hs hs2 hv hv2 _ _ hp hq (by omega) w, fun w => PairI.impl_great op hk _ _ _ _ _ _ _ _ _ _ _ _ _ _ hp hq (by omega) hg1 hg2 w⟩
      · rw [Bool.not_eq_true] at hv2
        obtain ⟨R, C, E, rfl, rfl, h1, h2, h3, h4, rfl⟩ := valid_form hv
        have hsz : (str (rowsB E R C)).size ≤ 64 := by rw [str_size, rowsB_length]; exact prod_le h2 h4
        have hg1 := fun W => grid_yes E R C h1 h2 h3 h4 _ rfl hs hsz hv W
        have hg2 := fun W => grid_no r2 c2 s2 hs2 hv2 W
        exact .inl ⟨fun w => PairN.spec_bad2 op hk _ _ _ _ _ _ hs hs2 hv hv2 w, fun w => PairI.impl_great op hk _ _ _ _ _ _ _ _ _ _ _ _ 0 0 (by rw [Int.mul_zero]; first | decide | (unfold wrap64; omega)) (by rw [Int.mul_zero]; first | decide | (unfold wrap64; omega)) (.inl (.inl (by omega))) hg1 hg2 w⟩
    · rw [Bool.not_eq_true] at hv
      have hg1 := fun W => grid_no r c s hs hv W
      obtain ⟨R2, C2, f2, hg2⟩ := grid_any r2 c2 s2 hs2
      exact .inl ⟨fun w => PairN.spec_bad1 op hk _ _ _ _ _ _ hs hs2 hv w, fun w => PairI.impl_great op hk _ _ _ _ _ _ _ _ _ _ _ _ 0 0 (by rw [Int.zero_mul]; first | decide | (unfold wrap64; omega)) (by rw [Int.zero_mul]; first | decide | (unfold wrap64; omega)) (.inl (.inl (by omega))) hg1 hg2 w⟩
  · rw [Bool.not_eq_true] at hk
    obtain ⟨R1, C1, f1, hg1⟩ := grid_any r c s hs
    obtain ⟨R2, C2, f2, hg2⟩ := grid_any r2 c2 s2 hs2
    exact .inl ⟨fun w => PairN.spec_unknown op hk _ _ _ _ _ _ hs hs2 w, fun w => PairI.impl_unknown op hk _ _ _ _ _ _ _ _ _ _ _ _ hg1 hg2 w⟩


theorem opB_and (a b : Bool) : opB ⟨#[97, 110, 100]⟩ a b = (a && b) := by unfold opB; rw [ByteArray.toList_eq]; rfl
section
variable (op : ByteArray) (hk : opKnown op = true) (E G : Nat → Nat → Bool) (R C R2 C2 P Q : Nat) (h1 : 1 ≤ R) (h2 : R ≤ 8) (h3 : 1 ≤ C) (h4 : C ≤ 8) (i1 : 1 ≤ R2) (i2 : R2 ≤ 8) (i3 : 1 ≤ C2) (i4 : C2 ≤ 8) (hP : P = R * R2) (hQ : Q = C * C2) (p1 : 1 ≤ P) (p8 : P ≤ 8) (q1 : 1 ≤ Q) (q8 : Q ≤ 8)
include hk h1 h2 h3 h4 i1 i2 i3 i4 hP hQ p1 p8 q1 q8
theorem pair_yes (w : World) : Calls Tryd.prog 48 #[.string op, mat R C (str (rowsB E R C)), mat R2 C2 (str (rowsB G R2 C2))] w fun e w' => e = .returned (.tuple #[mat P Q (str (rowsB (pairE op E G R2 C2) P Q)), .bool true]) ∧ Below w.heap.size w w' :=
  PairY.impl_yes op hk R C R2 C2 h1 h2 h3 h4 i1 i2 i3 i4 P Q hP hQ p1 p8 q1 q8 E G _ _ (fun W => grid_yes E R C h1 h2 h3 h4 _ rfl (rows_max E R C h2 h4) (rows_small E R C h2 h4) (valid_rows E R C h1 h2 h3 h4) W) (fun W => grid_yes G R2 C2 i1 i2 i3 i4 _ rfl (rows_max G R2 C2 i2 i4) (rows_small G R2 C2 i2 i4) (valid_rows G R2 C2 i1 i2 i3 i4) W) w
theorem pair_said (w : World) : Calls Tryd.prog 49 #[.string op, mat R C (str (rowsB E R C)), mat R2 C2 (str (rowsB G R2 C2))] w fun e w' => e = .returned (.tuple #[mat P Q (str (rowsB (pairE op E G R2 C2) P Q)), .bool true]) ∧ Below w.heap.size w w' :=
  pair_spec op hk E G R C R2 C2 h2 h4 i1 i2 i3 i4 P Q hP hQ p8 q1 q8 (valid_rows E R C h1 h2 h3 h4) (valid_rows G R2 C2 i1 i2 i3 i4) (rows_max E R C h2 h4) (rows_max G R2 C2 i2 i4) w
end
set_option maxHeartbeats 1000000 in
theorem tp_op (op : ByteArray) (a b : Bool) (w : World) :
    Calls Tryd.prog 46 #[.string op, .bool a, .bool b] w fun e w' => e = .returned (.bool (opB op a b)) ∧ Below w.heap.size w w' := by
  obtain ⟨k1, h1⟩ : ∃ k, (op.toList == [97, 110, 100]) = k := ⟨_, rfl⟩
  obtain ⟨k2, h2⟩ : ∃ k, (op.toList == [111, 114]) = k := ⟨_, rfl⟩
  have HR : Hid (opB op a b = if k1 = true then a && b else if k2 = true then a || b else !(a == b)) := by unfold Hid opB; rw [h1, h2]
  cases k1
  · cases k2
    all_goals
      cases a
      all_goals
        go_enter Tryd.func46, Tryd.ntmps46
        go_wp2_with fail
        go_ret
        exact ⟨by rw [HR.out]; simp, Below.refl _ _⟩
  · cases a
    all_goals
      go_enter Tryd.func46, Tryd.ntmps46
      go_wp2_with fail
      go_ret
      exact ⟨by rw [HR.out]; simp, Below.refl _ _⟩

set_option maxHeartbeats 8000000 in
set_option maxRecDepth 100000 in
theorem walk (v : Value) (n : Nat) (w : World) (h : ByteArg w v n) :
    Calls Tryd.prog 9 #[v] w fun e w' => e = .returned (.bool true) ∧ Below w.heap.size w w' := by
  obtain ⟨hn0, a, cap, rfl, hc, hb0⟩ := id h
  clear hb0
  have HD := Lib.hid (DrawPX.draw_any _ n w h)
  clear h
  by_cases hbig : 1048576 < n
  · have hbi : (1048576 : Int) < (n : Int) := by omega
    go_enter Tryd.func9, Tryd.ntmps9
    go_wp2_with fail
    go_ret
    exact ⟨rfl, Below.refl _ _⟩
  · have hbi : ¬ (1048576 : Int) < (n : Int) := by omega
    go_enter Tryd.func9, Tryd.ntmps9
    go_wp2_with fail
    refine HD.out.mono ?_
    rintro e w1 ⟨op, a1, b1, t1, a2, b2, t2, rfl, hop, ht1, ht2, hb⟩
    clear HD hbig hbi
    have hcase := cases op a1 b1 t1 (by unfold maxLen; omega) a2 b2 t2 (by unfold maxLen; omega)
    obtain ⟨B, hB⟩ : ∃ B, w1.heap.size = B := ⟨_, rfl⟩
    have HK1 := Lib.hid (((Kp.nil w).later hb |>.put (.cells #[.int .i64 a1, .int .i64 b1, .string t1] 24) hB).put (.cells #[.int .i64 a2, .int .i64 b2, .string t2] 24) (b := B + 1) (by simp [hB]))
    clear hb
    rcases hcase with ⟨hjs, hji⟩ | ⟨R, C, R2, C2, E, G, rfl, rfl, rfl, rfl, rfl, rfl, hk, ⟨h1, h2, h3, h4⟩, ⟨i1, i2, i3, i4⟩, p1, p8, q1, q8⟩
    · have HJS := Lib.hid hjs
      have HJI := Lib.hid hji
      clear hjs hji
      generalize str [] = z at *
      obtain ⟨cB0, cB1, cB2, -, -, -⟩ := cells3 (HK1.out.at 1 rfl)
      obtain ⟨cBp10, cBp11, cBp12, -, -, -⟩ := cells3 (HK1.out.at 0 rfl)
      go_wp2_with fail
      refine (HJI.out _).mono ?_
      rintro e w2 ⟨rfl, hb2⟩
      obtain ⟨b6, hb6⟩ : ∃ x, w2.heap.size = x := ⟨_, rfl⟩
      have HK2 := Lib.hid ((HK1.out.later hb2).put (.cells #[.int .i64 0, .int .i64 0, .string z] 24) hb6)
      clear hb2 HK1
      clear hB cB0 cB1 cB2 cBp10 cBp11 cBp12
      obtain ⟨cB0, cB1, cB2, -, -, -⟩ := cells3 (HK2.out.at 2 rfl)
      obtain ⟨cBp10, cBp11, cBp12, -, -, -⟩ := cells3 (HK2.out.at 1 rfl)
      go_wp2_with fail
      refine (HJS.out _).mono ?_
      rintro e w3 ⟨rfl, hb3⟩
      obtain ⟨b8, hb8⟩ : ∃ x, w3.heap.size = x := ⟨_, rfl⟩
      have HK3 := Lib.hid ((HK2.out.later hb3).put (.cells #[.int .i64 0, .int .i64 0, .string z] 24) hb8)
      clear hb3 HK2
      clear hb6 cB0 cB1 cB2 cBp10 cBp11 cBp12
      obtain ⟨cb60, cb61, cb62, -, -, -⟩ := cells3 (HK3.out.at 1 rfl)
      obtain ⟨cb80, cb81, cb82, -, -, -⟩ := cells3 (HK3.out.at 0 rfl)
      go_wp2_with fail
      go_ret
      exact ⟨rfl, HK3.out.below⟩
    · obtain ⟨P, hP⟩ : ∃ P, P = R * R2 := ⟨_, rfl⟩
      obtain ⟨Q, hQ⟩ : ∃ Q, Q = C * C2 := ⟨_, rfl⟩
      rw [← hP] at p1 p8
      rw [← hQ] at q1 q8
      have hji := fun W => pair_yes op hk E G R C R2 C2 P Q h1 h2 h3 h4 i1 i2 i3 i4 hP hQ p1 p8 q1 q8 W
      have hjs := fun W => pair_said op hk E G R C R2 C2 P Q h1 h2 h3 h4 i1 i2 i3 i4 hP hQ p1 p8 q1 q8 W
      have hta := fun W => turn_yes E R C h1 h2 h3 h4 W
      have htb := fun W => turn_yes G R2 C2 i1 i2 i3 i4 W
      have hjc := fun W => pair_yes op hk (fun x y => E y x) (fun x y => G y x) C R C2 R2 Q P h3 h4 h1 h2 i3 i4 i1 i2 hQ hP q1 q8 p1 p8 W
      have htd := fun W => turn_yes (pairE op E G R2 C2) P Q p1 p8 q1 q8 W
      rw [show rowsB (fun x y => pairE op E G R2 C2 y x) Q P = rowsB (pairE op (fun x y => E y x) (fun x y => G y x) C2 R2) Q P from rfl] at htd
      have hem := fun a b ha hb W => tp_entry E R C h1 h2 h3 h4 a b ha hb W
      have hen := fun a b ha hb W => tp_entry G R2 C2 i1 i2 i3 i4 a b ha hb W
      have hek := fun a b ha hb W => tp_entry (pairE op E G R2 C2) P Q p1 p8 q1 q8 a b ha hb W
      have hcm := fun W => count_yes E R C h1 h2 h3 h4 W
      have hcn := fun W => count_yes G R2 C2 i1 i2 i3 i4 W
      have hck := fun W => count_yes (pairE op E G R2 C2) P Q p1 p8 q1 q8 W
      have hcnt : op = ⟨#[97, 110, 100]⟩ → onesN (pairE op E G R2 C2) P Q = onesN E R C * onesN G R2 C2 := fun e => by
        rw [hP, hQ, ← ones_pair]
        subst e
        unfold pairE
        simp only [opB_and]
      have hc64 : onesN (pairE op E G R2 C2) P Q ≤ 64 := Nat.le_trans (ones_le _ P Q) (Nat.mul_le_mul p8 q8)
      generalize onesN (pairE op E G R2 C2) P Q = cj at *
      generalize onesN E R C = cm at *
      generalize onesN G R2 C2 = cn at *
      generalize str (rowsB (pairE op E G R2 C2) P Q) = sj at *
      generalize str (rowsB (pairE op (fun x y => E y x) (fun x y => G y x) C2 R2) Q P) = sd at *
      generalize str (rowsB (fun x y => E y x) C R) = sa at *
      generalize str (rowsB (fun x y => G y x) C2 R2) = sb at *
      generalize str (rowsB E R C) = s1 at *
      generalize str (rowsB G R2 C2) = s2 at *
      have HJI := Lib.hid hji
      have HJS := Lib.hid hjs
      have HTA := Lib.hid hta
      have HTB := Lib.hid htb
      have HJC := Lib.hid hjc
      have HTD := Lib.hid htd
      have HEM := Lib.hid hem
      have HEN := Lib.hid hen
      have HEK := Lib.hid hek
      have HCM := Lib.hid hcm
      have HCN := Lib.hid hcn
      have HCK := Lib.hid hck
      have HCNT := Lib.hid hcnt
      have HPQ := Lib.hid (And.intro hP hQ)
      clear hji hjs hta htb hjc htd hem hen hek hcm hcn hck hcnt hP hQ
      obtain ⟨cB0, cB1, cB2, -, -, -⟩ := cells3 (HK1.out.at 1 rfl)
      obtain ⟨cBp10, cBp11, cBp12, -, -, -⟩ := cells3 (HK1.out.at 0 rfl)
      go_wp2_with fail
      refine (HJI.out _).mono ?_
      rintro e w2 ⟨rfl, hb2⟩
      obtain ⟨b6, hb6⟩ : ∃ x, w2.heap.size = x := ⟨_, rfl⟩
      have HK2 := Lib.hid ((HK1.out.later hb2).put (.cells #[.int .i64 P, .int .i64 Q, .string sj] 24) hb6)
      clear hb2 HK1
      clear hB cB0 cB1 cB2 cBp10 cBp11 cBp12
      obtain ⟨cB0, cB1, cB2, -, -, -⟩ := cells3 (HK2.out.at 2 rfl)
      obtain ⟨cBp10, cBp11, cBp12, -, -, -⟩ := cells3 (HK2.out.at 1 rfl)
      go_wp2_with fail
      refine (HJS.out _).mono ?_
      rintro e w3 ⟨rfl, hb3⟩
      obtain ⟨b8, hb8⟩ : ∃ x, w3.heap.size = x := ⟨_, rfl⟩
      have HK3 := Lib.hid ((HK2.out.later hb3).put (.cells #[.int .i64 P, .int .i64 Q, .string sj] 24) hb8)
      clear hb3 HK2
      clear hb6 cB0 cB1 cB2 cBp10 cBp11 cBp12
      obtain ⟨cb60, cb61, cb62, -, -, -⟩ := cells3 (HK3.out.at 1 rfl)
      obtain ⟨cb80, cb81, cb82, -, -, -⟩ := cells3 (HK3.out.at 0 rfl)
      go_wp2_with fail
      clear hb8 cb60 cb61 cb62 cb80 cb81 cb82
      go_loopw [10] (fun x wr => ∃ i : Nat, i ≤ P ∧ x = .int .i64 (i : Int) ∧ Hid (Kp w wr [(b8, .cells #[.int .i64 P, .int .i64 Q, .string sj] 24), (b6, .cells #[.int .i64 P, .int .i64 Q, .string sj] 24), ((B + 1), .cells #[.int .i64 R2, .int .i64 C2, .string s2] 24), (B, .cells #[.int .i64 R, .int .i64 C, .string s1] 24)])) (fun x _ => P - (intOf x).toNat)
      case atStart => exact ⟨0, by omega, rfl, HK3⟩
      case round =>
        obtain ⟨i, hi, rfl, HR⟩ := hrel
        clear HK3
        by_cases hlt : i < P
        · obtain ⟨c0, c1, c2, -, -, -⟩ := cells3 (HR.out.at 1 rfl)
          go_wp2_with fail
          clear c0 c1 c2
          go_loopw [11] (fun y wr => ∃ k : Nat, k ≤ Q ∧ y = .int .i64 (k : Int) ∧ Hid (Kp w wr [(b8, .cells #[.int .i64 P, .int .i64 Q, .string sj] 24), (b6, .cells #[.int .i64 P, .int .i64 Q, .string sj] 24), ((B + 1), .cells #[.int .i64 R2, .int .i64 C2, .string s2] 24), (B, .cells #[.int .i64 R, .int .i64 C, .string s1] 24)])) (fun y _ => Q - (intOf y).toNat)
          case atStart => exact ⟨0, by omega, rfl, HR⟩
          case round =>
            obtain ⟨k, hk2, rfl, HQ⟩ := hrel
            clear HR
            by_cases hkt : k < Q
            · have hPQ := HPQ.out
              have di : i / R2 < R := div_side (by omega)
              have mi : i % R2 < R2 := mod_side (a := R) (by omega)
              have dk : k / C2 < C := div_side (by omega)
              have mk : k % C2 < C2 := mod_side (a := C) (by omega)
              have he1 := fun W => HEM.out (i / R2) (k / C2) di dk W
              have he2 := fun W => HEN.out (i % R2) (k % C2) mi mk W
              have he3 := fun W => HEK.out i k hlt hkt W
              rw [show pairE op E G R2 C2 i k = opB op (E (i / R2) (k / C2)) (G (i % R2) (k % C2)) from rfl] at he3
              have hop2 := fun W => tp_op op (E (i / R2) (k / C2)) (G (i % R2) (k % C2)) W
              generalize opB op (E (i / R2) (k / C2)) (G (i % R2) (k % C2)) = jv at *
              generalize E (i / R2) (k / C2) = ev at *
              generalize G (i % R2) (k % C2) = gv at *
              have hdi : i / R2 ≤ 8 := by omega
              have hdk : k / C2 ≤ 8 := by omega
              have w1' : IntKind.i64.wrap ((i : Int) / (R2 : Int)) = ((i / R2 : Nat) : Int) := by
                rw [← Int.natCast_ediv]
                generalize i / R2 = z at hdi ⊢
                exact IntWalk.i64_in _ ⟨by omega, by omega⟩
              have w2' : IntKind.i64.wrap ((k : Int) / (C2 : Int)) = ((k / C2 : Nat) : Int) := by
                rw [← Int.natCast_ediv]
                generalize k / C2 = z at hdk ⊢
                exact IntWalk.i64_in _ ⟨by omega, by omega⟩
              have m1' : (i : Int).tmod (R2 : Int) = ((i % R2 : Nat) : Int) := rfl
              have m2' : (k : Int).tmod (C2 : Int) = ((k % C2 : Nat) : Int) := rfl
              have z1 : ¬ R2 = 0 := by omega
              have z2 : ¬ C2 = 0 := by omega
              generalize i / R2 = qi at *
              generalize i % R2 = ri at *
              generalize k / C2 = qk at *
              generalize k % C2 = rk at *
              have HE1 := Lib.hid he1
              have HE2 := Lib.hid he2
              have HE3 := Lib.hid he3
              have HOP := Lib.hid hop2
              clear he1 he2 he3 hop2 hPQ
              obtain ⟨c0, c1, c2, -, -, -⟩ := cells3 (HQ.out.at 1 rfl)
              go_wp2_with fail
              clear c0 c1 c2
              cases jv
              all_goals
                refine region_kept (C := fun wx => Kp w wx [(b8, .cells #[.int .i64 P, .int .i64 Q, .string sj] 24), (b6, .cells #[.int .i64 P, .int .i64 Q, .string sj] 24), ((B + 1), .cells #[.int .i64 R2, .int .i64 C2, .string s2] 24), (B, .cells #[.int .i64 R, .int .i64 C, .string s1] 24)]) HQ.out.drew (by kernel_rfl) (by kernel_rfl) ?_
                repeat
                  (refine wq_step (fun K hK => ?_)
                   go_simp
                   first
                     | (refine hK _ ?_; clear hK K)
                     | (apply Exists.intro
                        refine ⟨fun wx hC => ?_, hK _ ?_⟩
                        · first
                          | with_reducible rfl
                          | with_reducible exact hC.call (HE1.out wx)
                          | with_reducible exact hC.call (HE2.out wx)
                          | with_reducible exact hC.call (HE3.out wx)
                          | with_reducible exact hC.call (HOP.out wx)
                          | (obtain ⟨q00, q01, q02, -, -, -⟩ := cells3 (hC.at 0 rfl); obtain ⟨q10, q11, q12, -, -, -⟩ := cells3 (hC.at 1 rfl); obtain ⟨q20, q21, q22, -, -, -⟩ := cells3 (hC.at 2 rfl); obtain ⟨q30, q31, q32, -, -, -⟩ := cells3 (hC.at 3 rfl); go_simp; first | done | rfl)
                        clear hK K))
                refine wq_nil ?_
                intro w20 hC
                have HRw20 : Hid (Kp w w20 [(b8, .cells #[.int .i64 P, .int .i64 Q, .string sj] 24), (b6, .cells #[.int .i64 P, .int .i64 Q, .string sj] 24), ((B + 1), .cells #[.int .i64 R2, .int .i64 C2, .string s2] 24), (B, .cells #[.int .i64 R, .int .i64 C, .string s1] 24)]) := hC
                clear hC HQ
                clear w1' w2' m1' m2' z1 z2
                go_wp2_with fail
                go_roundw
                case rel => exact ⟨k + 1, by omega, by go_num, HRw20⟩
                case measure => simp [intOf]; omega
            · obtain rfl : k = Q := by omega
              obtain ⟨c0, c1, c2, -, -, -⟩ := cells3 (HQ.out.at 1 rfl)
              go_wp2_with fail
              clear c0 c1 c2
              go_roundw
              case rel => exact ⟨i + 1, by omega, by go_num, HQ⟩
              case measure => simp [intOf]; omega
        · obtain rfl : i = P := by omega
          have hmul : op = ⟨#[97, 110, 100]⟩ → IntKind.i64.wrap ((cm : Int) * (cn : Int)) = (cj : Int) := fun e => by
            rw [← Int.natCast_mul, ← HCNT.out e, IntWalk.i64_in _ ⟨by omega, by omega⟩]
          have HMUL := Lib.hid hmul
          clear hmul
          obtain ⟨cb60, cb61, cb62, -, -, -⟩ := cells3 (HR.out.at 1 rfl)
          obtain ⟨cB0, cB1, cB2, -, -, -⟩ := cells3 (HR.out.at 3 rfl)
          go_wp2_with fail
          refine (HTA.out _).mono ?_
          rintro e w30 ⟨rfl, hb30⟩
          obtain ⟨b12, hb12⟩ : ∃ x, w30.heap.size = x := ⟨_, rfl⟩
          have HK30 := Lib.hid ((HR.out.later hb30).put (.cells #[.int .i64 C, .int .i64 R, .string sa] 24) hb12)
          clear hb30 HR
          clear cb60 cb61 cb62 cB0 cB1 cB2
          obtain ⟨cBp10, cBp11, cBp12, -, -, -⟩ := cells3 (HK30.out.at 3 rfl)
          go_wp2_with fail
          refine (HTB.out _).mono ?_
          rintro e w31 ⟨rfl, hb31⟩
          obtain ⟨b14, hb14⟩ : ∃ x, w31.heap.size = x := ⟨_, rfl⟩
          have HK31 := Lib.hid ((HK30.out.later hb31).put (.cells #[.int .i64 C2, .int .i64 R2, .string sb] 24) hb14)
          clear hb31 HK30
          clear hb12 cBp10 cBp11 cBp12
          obtain ⟨cb120, cb121, cb122, -, -, -⟩ := cells3 (HK31.out.at 1 rfl)
          obtain ⟨cb140, cb141, cb142, -, -, -⟩ := cells3 (HK31.out.at 0 rfl)
          go_wp2_with fail
          refine (HJC.out _).mono ?_
          rintro e w32 ⟨rfl, hb32⟩
          obtain ⟨b16, hb16⟩ : ∃ x, w32.heap.size = x := ⟨_, rfl⟩
          have HK32 := Lib.hid ((HK31.out.later hb32).put (.cells #[.int .i64 Q, .int .i64 i, .string sd] 24) hb16)
          clear hb32 HK31
          clear hb14 cb120 cb121 cb122 cb140 cb141 cb142
          obtain ⟨cb60, cb61, cb62, -, -, -⟩ := cells3 (HK32.out.at 4 rfl)
          go_wp2_with fail
          refine (HTD.out _).mono ?_
          rintro e w33 ⟨rfl, hb33⟩
          obtain ⟨b18, hb18⟩ : ∃ x, w33.heap.size = x := ⟨_, rfl⟩
          have HK33 := Lib.hid ((HK32.out.later hb33).put (.cells #[.int .i64 Q, .int .i64 i, .string sd] 24) hb18)
          clear hb33 HK32
          clear hb16 cb60 cb61 cb62
          by_cases hop3 : op = ⟨#[97, 110, 100]⟩
          · have hmul := HMUL.out hop3
            subst hop3
            go_wp2_with fail
            clear hb18
            refine region_kept (C := fun wx => Kp w wx [(b18, .cells #[.int .i64 Q, .int .i64 i, .string sd] 24), (b16, .cells #[.int .i64 Q, .int .i64 i, .string sd] 24), (b14, .cells #[.int .i64 C2, .int .i64 R2, .string sb] 24), (b12, .cells #[.int .i64 C, .int .i64 R, .string sa] 24), (b8, .cells #[.int .i64 i, .int .i64 Q, .string sj] 24), (b6, .cells #[.int .i64 i, .int .i64 Q, .string sj] 24), ((B + 1), .cells #[.int .i64 R2, .int .i64 C2, .string s2] 24), (B, .cells #[.int .i64 R, .int .i64 C, .string s1] 24)]) HK33.out.drew (by kernel_rfl) (by kernel_rfl) ?_
            repeat
              (refine wq_step (fun K hK => ?_)
               go_simp
               first
                 | (refine hK _ ?_; clear hK K)
                 | (apply Exists.intro
                    refine ⟨fun wx hC => ?_, hK _ ?_⟩
                    · first
                      | with_reducible rfl
                      | with_reducible exact hC.call (HCK.out wx)
                      | with_reducible exact hC.call (HCM.out wx)
                      | with_reducible exact hC.call (HCN.out wx)
                      | (obtain ⟨q00, q01, q02, -, -, -⟩ := cells3 (hC.at 0 rfl); obtain ⟨q10, q11, q12, -, -, -⟩ := cells3 (hC.at 1 rfl); obtain ⟨q20, q21, q22, -, -, -⟩ := cells3 (hC.at 2 rfl); obtain ⟨q30, q31, q32, -, -, -⟩ := cells3 (hC.at 3 rfl); obtain ⟨q40, q41, q42, -, -, -⟩ := cells3 (hC.at 4 rfl); obtain ⟨q50, q51, q52, -, -, -⟩ := cells3 (hC.at 5 rfl); obtain ⟨q60, q61, q62, -, -, -⟩ := cells3 (hC.at 6 rfl); obtain ⟨q70, q71, q72, -, -, -⟩ := cells3 (hC.at 7 rfl); go_simp; first | done | rfl)
                    clear hK K))
            refine wq_nil ?_
            intro w40 hC
            have HRw40 : Hid (Kp w w40 [(b18, .cells #[.int .i64 Q, .int .i64 i, .string sd] 24), (b16, .cells #[.int .i64 Q, .int .i64 i, .string sd] 24), (b14, .cells #[.int .i64 C2, .int .i64 R2, .string sb] 24), (b12, .cells #[.int .i64 C, .int .i64 R, .string sa] 24), (b8, .cells #[.int .i64 i, .int .i64 Q, .string sj] 24), (b6, .cells #[.int .i64 i, .int .i64 Q, .string sj] 24), ((B + 1), .cells #[.int .i64 R2, .int .i64 C2, .string s2] 24), (B, .cells #[.int .i64 R, .int .i64 C, .string s1] 24)]) := hC
            clear hC HK33
            clear hmul
            go_wp2_with fail
            go_ret
            exact ⟨rfl, HRw40.out.below⟩
          · have hno : (op.toList == [97, 110, 100]) = false := by
              apply beq_false_of_ne
              intro e
              rw [ByteArray.toList_eq] at e
              exact hop3 (ByteArray.ext (Array.toList_inj.1 (by rw [e])))
            go_wp2_with fail
            clear hb18
            refine region_kept (C := fun wx => Kp w wx [(b18, .cells #[.int .i64 Q, .int .i64 i, .string sd] 24), (b16, .cells #[.int .i64 Q, .int .i64 i, .string sd] 24), (b14, .cells #[.int .i64 C2, .int .i64 R2, .string sb] 24), (b12, .cells #[.int .i64 C, .int .i64 R, .string sa] 24), (b8, .cells #[.int .i64 i, .int .i64 Q, .string sj] 24), (b6, .cells #[.int .i64 i, .int .i64 Q, .string sj] 24), ((B + 1), .cells #[.int .i64 R2, .int .i64 C2, .string s2] 24), (B, .cells #[.int .i64 R, .int .i64 C, .string s1] 24)]) HK33.out.drew (by kernel_rfl) (by kernel_rfl) ?_
            repeat
              (refine wq_step (fun K hK => ?_)
               go_simp
               first
                 | (refine hK _ ?_; clear hK K)
                 | (apply Exists.intro
                    refine ⟨fun wx hC => ?_, hK _ ?_⟩
                    · first
                      | with_reducible rfl
                      | with_reducible exact hC.call (HCK.out wx)
                      | with_reducible exact hC.call (HCM.out wx)
                      | with_reducible exact hC.call (HCN.out wx)
                      | (obtain ⟨q00, q01, q02, -, -, -⟩ := cells3 (hC.at 0 rfl); obtain ⟨q10, q11, q12, -, -, -⟩ := cells3 (hC.at 1 rfl); obtain ⟨q20, q21, q22, -, -, -⟩ := cells3 (hC.at 2 rfl); obtain ⟨q30, q31, q32, -, -, -⟩ := cells3 (hC.at 3 rfl); obtain ⟨q40, q41, q42, -, -, -⟩ := cells3 (hC.at 4 rfl); obtain ⟨q50, q51, q52, -, -, -⟩ := cells3 (hC.at 5 rfl); obtain ⟨q60, q61, q62, -, -, -⟩ := cells3 (hC.at 6 rfl); obtain ⟨q70, q71, q72, -, -, -⟩ := cells3 (hC.at 7 rfl); go_simp; first | done | rfl)
                    clear hK K))
            refine wq_nil ?_
            intro w40 hC
            have HRw40 : Hid (Kp w w40 [(b18, .cells #[.int .i64 Q, .int .i64 i, .string sd] 24), (b16, .cells #[.int .i64 Q, .int .i64 i, .string sd] 24), (b14, .cells #[.int .i64 C2, .int .i64 R2, .string sb] 24), (b12, .cells #[.int .i64 C, .int .i64 R, .string sa] 24), (b8, .cells #[.int .i64 i, .int .i64 Q, .string sj] 24), (b6, .cells #[.int .i64 i, .int .i64 Q, .string sj] 24), ((B + 1), .cells #[.int .i64 R2, .int .i64 C2, .string s2] 24), (B, .cells #[.int .i64 R, .int .i64 C, .string s1] 24)]) := hC
            clear hC HK33
            clear hno
            go_wp2_with fail
            go_ret
            exact ⟨rfl, HRw40.out.below⟩
end Go.Proofs.YtalechngagkklaaDoor.fnPairMatrices
