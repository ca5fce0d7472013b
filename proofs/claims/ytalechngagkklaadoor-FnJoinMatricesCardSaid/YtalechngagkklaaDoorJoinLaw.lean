/-
  The walk of the drawn law on JoinMatrices.
-/
import Derived.Test.YtalechngagkklaaDoorDrawJM
import Derived.Test.YtalechngagkklaaDoorJoinWalk
import Derived.Test.YtalechngagkklaaDoorColF
import Derived.Test.YtalechngagkklaaDoorKept
namespace Go.Proofs.YtalechngagkklaaDoor.fnJoinMatrices
open Go.RowKit Go.Proofs.YtalechngagkklaaDoor.Plain Go.Proofs.YtalechngagkklaaDoor.Base Go.Proofs.YtalechngagkklaaDoor.Valid Go.Proofs.YtalechngagkklaaDoor.Law Go.Proofs.YtalechngagkklaaDoor.GridPlain Go.Proofs.YtalechngagkklaaDoor.Grid Go.Proofs.YtalechngagkklaaDoor.Entry Go.Proofs.YtalechngagkklaaDoor.From Go.Proofs.YtalechngagkklaaDoor.Ops Go.Proofs.YtalechngagkklaaDoor.Join Go.Proofs.YtalechngagkklaaDoor.JoinI Go.Proofs.YtalechngagkklaaDoor.JoinN Go.Proofs.YtalechngagkklaaDoor.Kept
open Go.Proofs.YtalechngagkklaaDoor.fnExactJoinMatrices (grid_any)
open Go.Proofs.YtalechngagkklaaDoor.ColF (tp_entry other_yes valid_rows rows_max rows_small)
open Go.Proofs.YtalechngagkklaaDoor.Rd (ByteArg)
open Go.Proofs.YtalechngagkklaaDoor.Rd5 (cells3)
set_option linter.unusedVariables false

/-- which matrices there are: both answer none, or both matrices are told by their entries -/
theorem cases (op : ByteArray) (r c : Int) (s : ByteArray) (hs : s.size ≤ maxLen) (r2 c2 : Int) (s2 : ByteArray) (hs2 : s2.size ≤ maxLen) :
    ((∀ w, Calls Tryd.prog 45 #[.string op, mat r c s, mat r2 c2 s2] w fun e w' => e = .returned (.tuple #[mat 0 0 (str []), .bool false]) ∧ Below w.heap.size w w') ∧
     (∀ w, Calls Tryd.prog 44 #[.string op, mat r c s, mat r2 c2 s2] w fun e w' => e = .returned (.tuple #[mat 0 0 (str []), .bool false]) ∧ Below w.heap.size w w')) ∨
    (∃ (R C : Nat) (E G : Nat → Nat → Bool), r = R ∧ c = C ∧ s = str (rowsB E R C) ∧ r2 = R ∧ c2 = C ∧ s2 = str (rowsB G R C) ∧ opKnown op = true ∧ 1 ≤ R ∧ R ≤ 8 ∧ 1 ≤ C ∧ C ≤ 8) := by
  by_cases hk : opKnown op = true
  · by_cases hv : validB r c s = true
    · by_cases hv2 : validB r2 c2 s2 = true
      · obtain ⟨R, C, E, rfl, rfl, h1, h2, h3, h4, rfl⟩ := valid_form hv
        obtain ⟨R2, C2, G, rfl, rfl, i1, i2, i3, i4, rfl⟩ := valid_form hv2
        have hsz : (str (rowsB E R C)).size ≤ 64 := by rw [str_size, rowsB_length]; exact prod_le h2 h4
        have hsz2 : (str (rowsB G R2 C2)).size ≤ 64 := by rw [str_size, rowsB_length]; exact prod_le i2 i4
        have hg1 := fun W => grid_yes E R C h1 h2 h3 h4 _ rfl hs hsz hv W
        have hg2 := fun W => grid_yes G R2 C2 i1 i2 i3 i4 _ rfl hs2 hsz2 hv2 W
        by_cases e1 : R = R2
        · subst e1
          by_cases e2 : C = C2
          · subst e2
            exact .inr ⟨R, C, E, G, rfl, rfl, rfl, rfl, rfl, rfl, hk, h1, h2, h3, h4⟩
          · exact .inl ⟨fun w => spec_differ2 op hk _ _ _ _ _ _ hs hs2 hv hv2 rfl (by omega) w, fun w => impl_differ2 op hk _ _ _ _ _ _ _ _ _ _ _ _ rfl (by omega) hg1 hg2 w⟩
        · exact .inl ⟨fun w => spec_differ1 op hk _ _ _ _ _ _ hs hs2 hv hv2 (by omega) w, fun w => impl_differ1 op hk _ _ _ _ _ _ _ _ _ _ _ _ (by omega) hg1 hg2 w⟩
      · rw [Bool.not_eq_true] at hv2
        obtain ⟨R, C, E, rfl, rfl, h1, h2, h3, h4, rfl⟩ := valid_form hv
        have hsz : (str (rowsB E R C)).size ≤ 64 := by rw [str_size, rowsB_length]; exact prod_le h2 h4
        have hg1 := fun W => grid_yes E R C h1 h2 h3 h4 _ rfl hs hsz hv W
        have hg2 := fun W => grid_no r2 c2 s2 hs2 hv2 W
        exact .inl ⟨fun w => spec_bad2 op hk _ _ _ _ _ _ hs hs2 hv hv2 w, fun w => impl_differ1 op hk _ _ _ _ _ _ _ _ _ _ _ _ (by omega) hg1 hg2 w⟩
    · rw [Bool.not_eq_true] at hv
      have hg1 := fun W => grid_no r c s hs hv W
      by_cases hv2 : validB r2 c2 s2 = true
      · obtain ⟨R2, C2, G, rfl, rfl, i1, i2, i3, i4, rfl⟩ := valid_form hv2
        have hsz2 : (str (rowsB G R2 C2)).size ≤ 64 := by rw [str_size, rowsB_length]; exact prod_le i2 i4
        have hg2 := fun W => grid_yes G R2 C2 i1 i2 i3 i4 _ rfl hs2 hsz2 hv2 W
        exact .inl ⟨fun w => spec_bad1 op hk _ _ _ _ _ _ hs hs2 hv w, fun w => impl_differ1 op hk _ _ _ _ _ _ _ _ _ _ _ _ (by omega) hg1 hg2 w⟩
      · rw [Bool.not_eq_true] at hv2
        have hg2 := fun W => grid_no r2 c2 s2 hs2 hv2 W
        exact .inl ⟨fun w => spec_bad1 op hk _ _ _ _ _ _ hs hs2 hv w, fun w => impl_zero op hk _ _ _ _ _ _ _ _ hg1 hg2 w⟩
  · rw [Bool.not_eq_true] at hk
    obtain ⟨R1, C1, f1, hg1⟩ := grid_any r c s hs
    obtain ⟨R2, C2, f2, hg2⟩ := grid_any r2 c2 s2 hs2
    exact .inl ⟨fun w => spec_unknown op hk _ _ _ _ _ _ hs hs2 w, fun w => impl_unknown op hk _ _ _ _ _ _ _ _ _ _ _ _ hg1 hg2 w⟩


theorem known_and : opKnown ⟨#[97, 110, 100]⟩ = true := by unfold opKnown; rw [ByteArray.toList_eq]; rfl
theorem known_or : opKnown ⟨#[111, 114]⟩ = true := by unfold opKnown; rw [ByteArray.toList_eq]; rfl
theorem opB_and (a b : Bool) : opB ⟨#[97, 110, 100]⟩ a b = (a && b) := by unfold opB; rw [ByteArray.toList_eq]; rfl
theorem opB_or (a b : Bool) : opB ⟨#[111, 114]⟩ a b = (a || b) := by unfold opB; rw [ByteArray.toList_eq]; rfl
theorem or_not (E G : Nat → Nat → Bool) (x y : Nat) : (!(joinE ⟨#[111, 114]⟩ E G x y)) = joinE ⟨#[97, 110, 100]⟩ (fun x y => !(E x y)) (fun x y => !(G x y)) x y := by
  show (!(opB _ (E x y) (G x y))) = opB _ (!(E x y)) (!(G x y))
  rw [opB_or, opB_and]
  cases E x y <;> cases G x y <;> rfl
theorem opB_comm (op : ByteArray) (a b : Bool) : opB op a b = opB op b a := by
  unfold opB
  split
  · exact Bool.and_comm a b
  · split
    · exact Bool.or_comm a b
    · cases a <;> cases b <;> rfl
section
variable (op : ByteArray) (hk : opKnown op = true) (E G : Nat → Nat → Bool) (R C : Nat) (h1 : 1 ≤ R) (h2 : R ≤ 8) (h3 : 1 ≤ C) (h4 : C ≤ 8)
include hk h1 h2 h3 h4
theorem join_yes (w : World) : Calls Tryd.prog 44 #[.string op, mat R C (str (rowsB E R C)), mat R C (str (rowsB G R C))] w fun e w' => e = .returned (.tuple #[mat R C (str (rowsB (joinE op E G) R C)), .bool true]) ∧ Below w.heap.size w w' :=
  impl_yes op hk R C h1 h2 h3 h4 E G _ _ (fun W => grid_yes E R C h1 h2 h3 h4 _ rfl (rows_max E R C h2 h4) (rows_small E R C h2 h4) (valid_rows E R C h1 h2 h3 h4) W) (fun W => grid_yes G R C h1 h2 h3 h4 _ rfl (rows_max G R C h2 h4) (rows_small G R C h2 h4) (valid_rows G R C h1 h2 h3 h4) W) w
theorem join_said (w : World) : Calls Tryd.prog 45 #[.string op, mat R C (str (rowsB E R C)), mat R C (str (rowsB G R C))] w fun e w' => e = .returned (.tuple #[mat R C (str (rowsB (joinE op E G) R C)), .bool true]) ∧ Below w.heap.size w w' :=
  join_spec op hk E G R C h2 h3 h4 (valid_rows E R C h1 h2 h3 h4) (valid_rows G R C h1 h2 h3 h4) (rows_max E R C h2 h4) (rows_max G R C h2 h4) w
end
set_option maxHeartbeats 1000000 in
theorem tp_op (op : ByteArray) (a b : Bool) (w : World) :
    Calls Tryd.prog 46 #[.string op, .bool a, .bool b] w fun e w' => e = .returned (.bool (opB op a b)) ∧ Below w.heap.size w w' := by
  obtain ⟨k1, h1⟩ : ∃ k, (op.toList == [97, 110, 100]) = k := ⟨_, rfl⟩
  obtain ⟨k2, h2⟩ : ∃ k, (op.toList == [111, 114]) = k := ⟨_, rfl⟩
  have HR : Hid (opB op a b = if k1 = true then a && b else if k2 = true then a || b else !(a == b)) := by unfold Hid opB; rw [h1, h2]
  cases k1
  · cases k2
    all_goals
      cases a
      all_goals
        go_enter Tryd.func46, Tryd.ntmps46
        go_wp2_with fail
        go_ret
        exact ⟨by rw [HR.out]; simp, Below.refl _ _⟩
  · cases a
    all_goals
      go_enter Tryd.func46, Tryd.ntmps46
      go_wp2_with fail
      go_ret
      exact ⟨by rw [HR.out]; simp, Below.refl _ _⟩

set_option maxHeartbeats 8000000 in
set_option maxRecDepth 100000 in
theorem walk (v : Value) (n : Nat) (w : World) (h : ByteArg w v n) :
    Calls Tryd.prog 8 #[v] w fun e w' => e = .returned (.bool true) ∧ Below w.heap.size w w' := by
  obtain ⟨hn0, a, cap, rfl, hc, hb0⟩ := id h
  clear hb0
  have HD := Lib.hid (DrawJM.draw_any _ n w h)
  clear h
  by_cases hbig : 1048576 < n
  · have hbi : (1048576 : Int) < (n : Int) := by omega
    go_enter Tryd.func8, Tryd.ntmps8
    go_wp2_with fail
    go_ret
    exact ⟨rfl, Below.refl _ _⟩
  · have hbi : ¬ (1048576 : Int) < (n : Int) := by omega
    go_enter Tryd.func8, Tryd.ntmps8
    go_wp2_with fail
    refine HD.out.mono ?_
    rintro e w1 ⟨op, a1, b1, t1, a2, b2, t2, rfl, hop, ht1, ht2, hb⟩
    clear HD hbig hbi
    have hcase := cases op a1 b1 t1 (by unfold maxLen; omega) a2 b2 t2 (by unfold maxLen; omega)
    obtain ⟨B, hB⟩ : ∃ B, w1.heap.size = B := ⟨_, rfl⟩
    have HK1 := Lib.hid (((Kp.nil w).later hb |>.put (.cells #[.int .i64 a1, .int .i64 b1, .string t1] 24) hB).put (.cells #[.int .i64 a2, .int .i64 b2, .string t2] 24) (b := B + 1) (by simp [hB]))
    clear hb
    rcases hcase with ⟨hjs, hji⟩ | ⟨R, C, E, G, rfl, rfl, rfl, rfl, rfl, rfl, hk, h1, h2, h3, h4⟩
    · have HJS := Lib.hid hjs
      have HJI := Lib.hid hji
      clear hjs hji
      generalize str [] = z at *
      obtain ⟨cB0, cB1, cB2, -, -, -⟩ := cells3 (HK1.out.at 1 rfl)
      obtain ⟨cBp10, cBp11, cBp12, -, -, -⟩ := cells3 (HK1.out.at 0 rfl)
      go_wp2_with fail
      refine (HJI.out _).mono ?_
      rintro e w2 ⟨rfl, hb2⟩
      obtain ⟨b6, hb6⟩ : ∃ x, w2.heap.size = x := ⟨_, rfl⟩
      have HK2 := Lib.hid ((HK1.out.later hb2).put (.cells #[.int .i64 0, .int .i64 0, .string z] 24) hb6)
      clear hb2 HK1
      clear hB cB0 cB1 cB2 cBp10 cBp11 cBp12
      obtain ⟨cB0, cB1, cB2, -, -, -⟩ := cells3 (HK2.out.at 2 rfl)
      obtain ⟨cBp10, cBp11, cBp12, -, -, -⟩ := cells3 (HK2.out.at 1 rfl)
      go_wp2_with fail
      refine (HJS.out _).mono ?_
      rintro e w3 ⟨rfl, hb3⟩
      obtain ⟨b8, hb8⟩ : ∃ x, w3.heap.size = x := ⟨_, rfl⟩
      have HK3 := Lib.hid ((HK2.out.later hb3).put (.cells #[.int .i64 0, .int .i64 0, .string z] 24) hb8)
      clear hb3 HK2
      clear hb6 cB0 cB1 cB2 cBp10 cBp11 cBp12
      obtain ⟨cb60, cb61, cb62, -, -, -⟩ := cells3 (HK3.out.at 1 rfl)
      obtain ⟨cb80, cb81, cb82, -, -, -⟩ := cells3 (HK3.out.at 0 rfl)
      go_wp2_with fail
      go_ret
      exact ⟨rfl, HK3.out.below⟩
    · have hji := fun W => join_yes op hk E G R C h1 h2 h3 h4 W
      have hjs := fun W => join_said op hk E G R C h1 h2 h3 h4 W
      have hjo := fun W => join_yes op hk G E R C h1 h2 h3 h4 W
      rw [show rowsB (joinE op G E) R C = rowsB (joinE op E G) R C from rowsB_congr fun x y _ _ => opB_comm op _ _] at hjo
      have hoa := fun W => other_yes E R C h1 h2 h3 h4 W
      have hob := fun W => other_yes G R C h1 h2 h3 h4 W
      have hja := fun W => join_yes _ known_and (fun x y => !(E x y)) (fun x y => !(G x y)) R C h1 h2 h3 h4 W
      have hjr := fun W => join_yes _ known_or E G R C h1 h2 h3 h4 W
      have hod := fun W => other_yes (joinE ⟨#[111, 114]⟩ E G) R C h1 h2 h3 h4 W
      rw [show rowsB (fun x y => !(joinE ⟨#[111, 114]⟩ E G x y)) R C = rowsB (joinE ⟨#[97, 110, 100]⟩ (fun x y => !(E x y)) (fun x y => !(G x y))) R C from rowsB_congr fun x y _ _ => or_not E G x y] at hod
      have hem := fun a b ha hb W => tp_entry E R C h1 h2 h3 h4 a b ha hb W
      have hen := fun a b ha hb W => tp_entry G R C h1 h2 h3 h4 a b ha hb W
      have hek := fun a b ha hb W => tp_entry (joinE op E G) R C h1 h2 h3 h4 a b ha hb W
      generalize str (rowsB (joinE op E G) R C) = sj at *
      generalize str (rowsB (joinE ⟨#[111, 114]⟩ E G) R C) = sr at *
      generalize str (rowsB (joinE ⟨#[97, 110, 100]⟩ (fun x y => !(E x y)) (fun x y => !(G x y))) R C) = sd at *
      generalize str (rowsB (fun x y => !(E x y)) R C) = sa at *
      generalize str (rowsB (fun x y => !(G x y)) R C) = sb at *
      generalize str (rowsB E R C) = s1 at *
      generalize str (rowsB G R C) = s2 at *
      have HJI := Lib.hid hji
      have HJS := Lib.hid hjs
      have HJO := Lib.hid hjo
      have HOA := Lib.hid hoa
      have HOB := Lib.hid hob
      have HJA := Lib.hid hja
      have HJR := Lib.hid hjr
      have HOD := Lib.hid hod
      have HEM := Lib.hid hem
      have HEN := Lib.hid hen
      have HEK := Lib.hid hek
      clear hji hjs hjo hoa hob hja hjr hod hem hen hek
      obtain ⟨cB0, cB1, cB2, -, -, -⟩ := cells3 (HK1.out.at 1 rfl)
      obtain ⟨cBp10, cBp11, cBp12, -, -, -⟩ := cells3 (HK1.out.at 0 rfl)
      go_wp2_with fail
      refine (HJI.out _).mono ?_
      rintro e w2 ⟨rfl, hb2⟩
      obtain ⟨b6, hb6⟩ : ∃ x, w2.heap.size = x := ⟨_, rfl⟩
      have HK2 := Lib.hid ((HK1.out.later hb2).put (.cells #[.int .i64 R, .int .i64 C, .string sj] 24) hb6)
      clear hb2 HK1
      clear hB cB0 cB1 cB2 cBp10 cBp11 cBp12
      obtain ⟨cB0, cB1, cB2, -, -, -⟩ := cells3 (HK2.out.at 2 rfl)
      obtain ⟨cBp10, cBp11, cBp12, -, -, -⟩ := cells3 (HK2.out.at 1 rfl)
      go_wp2_with fail
      refine (HJS.out _).mono ?_
      rintro e w3 ⟨rfl, hb3⟩
      obtain ⟨b8, hb8⟩ : ∃ x, w3.heap.size = x := ⟨_, rfl⟩
      have HK3 := Lib.hid ((HK2.out.later hb3).put (.cells #[.int .i64 R, .int .i64 C, .string sj] 24) hb8)
      clear hb3 HK2
      clear hb6 cB0 cB1 cB2 cBp10 cBp11 cBp12
      obtain ⟨cb60, cb61, cb62, -, -, -⟩ := cells3 (HK3.out.at 1 rfl)
      obtain ⟨cb80, cb81, cb82, -, -, -⟩ := cells3 (HK3.out.at 0 rfl)
      go_wp2_with fail
      clear hb8 cb60 cb61 cb62 cb80 cb81 cb82
      go_loopw [10] (fun x wr => ∃ i : Nat, i ≤ R ∧ x = .int .i64 (i : Int) ∧ Hid (Kp w wr [(b8, .cells #[.int .i64 R, .int .i64 C, .string sj] 24), (b6, .cells #[.int .i64 R, .int .i64 C, .string sj] 24), ((B + 1), .cells #[.int .i64 R, .int .i64 C, .string s2] 24), (B, .cells #[.int .i64 R, .int .i64 C, .string s1] 24)])) (fun x _ => R - (intOf x).toNat)
      case atStart => exact ⟨0, by omega, rfl, HK3⟩
      case round =>
        obtain ⟨i, hi, rfl, HR⟩ := hrel
        clear HK3
        by_cases hlt : i < R
        · obtain ⟨c0, c1, c2, -, -, -⟩ := cells3 (HR.out.at 3 rfl)
          go_wp2_with fail
          clear c0 c1 c2
          go_loopw [11] (fun y wr => ∃ k : Nat, k ≤ C ∧ y = .int .i64 (k : Int) ∧ Hid (Kp w wr [(b8, .cells #[.int .i64 R, .int .i64 C, .string sj] 24), (b6, .cells #[.int .i64 R, .int .i64 C, .string sj] 24), ((B + 1), .cells #[.int .i64 R, .int .i64 C, .string s2] 24), (B, .cells #[.int .i64 R, .int .i64 C, .string s1] 24)])) (fun y _ => C - (intOf y).toNat)
          case atStart => exact ⟨0, by omega, rfl, HR⟩
          case round =>
            obtain ⟨k, hk2, rfl, HQ⟩ := hrel
            clear HR
            by_cases hkt : k < C
            · have HE1 := Lib.hid (fun W => HEM.out i k hlt hkt W)
              have HE2 := Lib.hid (fun W => HEN.out i k hlt hkt W)
              have he3 := fun W => HEK.out i k hlt hkt W
              rw [show joinE op E G i k = opB op (E i k) (G i k) from rfl] at he3
              have hop2 := fun W => tp_op op (E i k) (G i k) W
              generalize opB op (E i k) (G i k) = jv at *
              generalize E i k = ev at *
              generalize G i k = gv at *
              have HE3 := Lib.hid he3
              have HOP := Lib.hid hop2
              clear he3 hop2
              obtain ⟨c0, c1, c2, -, -, -⟩ := cells3 (HQ.out.at 3 rfl)
              go_wp2_with fail
              clear c0 c1 c2
              cases jv
              all_goals
                refine region_kept (C := fun wx => Kp w wx [(b8, .cells #[.int .i64 R, .int .i64 C, .string sj] 24), (b6, .cells #[.int .i64 R, .int .i64 C, .string sj] 24), ((B + 1), .cells #[.int .i64 R, .int .i64 C, .string s2] 24), (B, .cells #[.int .i64 R, .int .i64 C, .string s1] 24)]) HQ.out.drew (by kernel_rfl) (by kernel_rfl) ?_
                repeat
                  (refine wq_step (fun K hK => ?_)
                   go_simp
                   first
                     | (refine hK _ ?_; clear hK K)
                     | (apply Exists.intro
                        refine ⟨fun wx hC => ?_, hK _ ?_⟩
                        · first
                          | with_reducible rfl
                          | with_reducible exact hC.call (HE1.out wx)
                          | with_reducible exact hC.call (HE2.out wx)
                          | with_reducible exact hC.call (HE3.out wx)
                          | with_reducible exact hC.call (HOP.out wx)
                          | (obtain ⟨q00, q01, q02, -, -, -⟩ := cells3 (hC.at 0 rfl); obtain ⟨q10, q11, q12, -, -, -⟩ := cells3 (hC.at 1 rfl); obtain ⟨q20, q21, q22, -, -, -⟩ := cells3 (hC.at 2 rfl); obtain ⟨q30, q31, q32, -, -, -⟩ := cells3 (hC.at 3 rfl); go_simp; first | done | rfl)
                        clear hK K))
                refine wq_nil ?_
                intro w20 hC
                have HRw20 : Hid (Kp w w20 [(b8, .cells #[.int .i64 R, .int .i64 C, .string sj] 24), (b6, .cells #[.int .i64 R, .int .i64 C, .string sj] 24), ((B + 1), .cells #[.int .i64 R, .int .i64 C, .string s2] 24), (B, .cells #[.int .i64 R, .int .i64 C, .string s1] 24)]) := hC
                clear hC HQ
                go_wp2_with fail
                go_roundw
                case rel => exact ⟨k + 1, by omega, by go_num, HRw20⟩
                case measure => simp [intOf]; omega
            · obtain rfl : k = C := by omega
              obtain ⟨c0, c1, c2, -, -, -⟩ := cells3 (HQ.out.at 3 rfl)
              go_wp2_with fail
              clear c0 c1 c2
              go_roundw
              case rel => exact ⟨i + 1, by omega, by go_num, HQ⟩
              case measure => simp [intOf]; omega
        · obtain rfl : i = R := by omega
          obtain ⟨cB0, cB1, cB2, -, -, -⟩ := cells3 (HR.out.at 3 rfl)
          obtain ⟨cBp10, cBp11, cBp12, -, -, -⟩ := cells3 (HR.out.at 2 rfl)
          go_wp2_with fail
          refine (HJO.out _).mono ?_
          rintro e w30 ⟨rfl, hb30⟩
          obtain ⟨b12, hb12⟩ : ∃ x, w30.heap.size = x := ⟨_, rfl⟩
          have HK30 := Lib.hid ((HR.out.later hb30).put (.cells #[.int .i64 i, .int .i64 C, .string sj] 24) hb12)
          clear hb30 HR
          clear cB0 cB1 cB2 cBp10 cBp11 cBp12
          obtain ⟨cB0, cB1, cB2, -, -, -⟩ := cells3 (HK30.out.at 4 rfl)
          go_wp2_with fail
          refine (HOA.out _).mono ?_
          rintro e w31 ⟨rfl, hb31⟩
          obtain ⟨b14, hb14⟩ : ∃ x, w31.heap.size = x := ⟨_, rfl⟩
          have HK31 := Lib.hid ((HK30.out.later hb31).put (.cells #[.int .i64 i, .int .i64 C, .string sa] 24) hb14)
          clear hb31 HK30
          clear hb12 cB0 cB1 cB2
          obtain ⟨cBp10, cBp11, cBp12, -, -, -⟩ := cells3 (HK31.out.at 4 rfl)
          go_wp2_with fail
          refine (HOB.out _).mono ?_
          rintro e w32 ⟨rfl, hb32⟩
          obtain ⟨b16, hb16⟩ : ∃ x, w32.heap.size = x := ⟨_, rfl⟩
          have HK32 := Lib.hid ((HK31.out.later hb32).put (.cells #[.int .i64 i, .int .i64 C, .string sb] 24) hb16)
          clear hb32 HK31
          clear hb14 cBp10 cBp11 cBp12
          obtain ⟨cb140, cb141, cb142, -, -, -⟩ := cells3 (HK32.out.at 1 rfl)
          obtain ⟨cb160, cb161, cb162, -, -, -⟩ := cells3 (HK32.out.at 0 rfl)
          go_wp2_with fail
          refine (HJA.out _).mono ?_
          rintro e w33 ⟨rfl, hb33⟩
          obtain ⟨b18, hb18⟩ : ∃ x, w33.heap.size = x := ⟨_, rfl⟩
          have HK33 := Lib.hid ((HK32.out.later hb33).put (.cells #[.int .i64 i, .int .i64 C, .string sd] 24) hb18)
          clear hb33 HK32
          clear hb16 cb140 cb141 cb142 cb160 cb161 cb162
          obtain ⟨cB0, cB1, cB2, -, -, -⟩ := cells3 (HK33.out.at 7 rfl)
          obtain ⟨cBp10, cBp11, cBp12, -, -, -⟩ := cells3 (HK33.out.at 6 rfl)
          go_wp2_with fail
          refine (HJR.out _).mono ?_
          rintro e w34 ⟨rfl, hb34⟩
          obtain ⟨b20, hb20⟩ : ∃ x, w34.heap.size = x := ⟨_, rfl⟩
          have HK34 := Lib.hid ((HK33.out.later hb34).put (.cells #[.int .i64 i, .int .i64 C, .string sr] 24) hb20)
          clear hb34 HK33
          clear hb18 cB0 cB1 cB2 cBp10 cBp11 cBp12
          obtain ⟨cb200, cb201, cb202, -, -, -⟩ := cells3 (HK34.out.at 0 rfl)
          go_wp2_with fail
          refine (HOD.out _).mono ?_
          rintro e w35 ⟨rfl, hb35⟩
          obtain ⟨b22, hb22⟩ : ∃ x, w35.heap.size = x := ⟨_, rfl⟩
          have HK35 := Lib.hid ((HK34.out.later hb35).put (.cells #[.int .i64 i, .int .i64 C, .string sd] 24) hb22)
          clear hb35 HK34
          clear hb20 cb200 cb201 cb202
          obtain ⟨cb120, cb121, cb122, -, -, -⟩ := cells3 (HK35.out.at 5 rfl)
          obtain ⟨cb60, cb61, cb62, -, -, -⟩ := cells3 (HK35.out.at 7 rfl)
          obtain ⟨cb220, cb221, cb222, -, -, -⟩ := cells3 (HK35.out.at 0 rfl)
          obtain ⟨cb180, cb181, cb182, -, -, -⟩ := cells3 (HK35.out.at 2 rfl)
          go_wp2_with fail
          go_ret
          exact ⟨rfl, HK35.out.below⟩
end Go.Proofs.YtalechngagkklaaDoor.fnJoinMatrices
