/-
  The reference on a protocol's text: players exchanged, other protocols at the ends, ends of a value.
-/
import Derived.Test.YtodfeaelidpckaaParts
import Derived.Test.YtodfeaelidpckaaWq
import Derived.Laws.Concat
namespace Go.Proofs.Ytodfeaelidpckaa.SaidTG
open Go.RowKit Go.Shelf Go.Proofs.Ytodfeaelidpckaa.Plain Go.Proofs.Ytodfeaelidpckaa.Tree Go.Proofs.Ytodfeaelidpckaa.Hex Go.Proofs.Ytodfeaelidpckaa.Read Go.Proofs.Ytodfeaelidpckaa.Parts
open Go.Proofs.Ytodfeaelidpckaa.Wq (WQ wq_step wq_nil region_kept drew_at)
set_option linter.unusedVariables false
set_option linter.unusedSimpArgs false

theorem l1Int_w (b : Bool) (w : World) : Calls Try.prog 59 #[.bool b] w fun e w' => e = .returned (.int .i64 (if b then 1 else 0)) ∧ w = w' := by
  cases b
  all_goals
    go_enter Try.func59, Try.ntmps59
    go_wp2
    go_ret
    exact ⟨rfl, rfl⟩

set_option maxHeartbeats 4000000 in
set_option maxRecDepth 100000 in
theorem said_turn (t : T) : wf t → (text t).length ≤ 2000 → ∀ w : World, Calls Try.prog 38 #[.string (str (text t))] w fun e w' => e = .returned (.string (str (text (turnT t)))) ∧ Below w.heap.size w w' := by
  induction t with
  | leaf b =>
    intro _ _ w
    have HL : Hid (∀ W, Calls Try.prog 57 #[.string (str (text (.leaf b)))] W fun e w' => e = .returned (.bool true) ∧ W = w') := leaf_yes _ (by rw [str_size]; rfl)
    show Calls _ _ _ _ fun e w' => e = .returned (.string (str (text (.leaf b)))) ∧ _
    generalize str (text (.leaf b)) = s at *
    go_enter Try.func38, Try.ntmps38
    go_wp2_with fail
    refine (HL.out _).mono ?_
    rintro e w' ⟨rfl, rfl⟩
    go_wp2_with fail
    go_ret
    exact ⟨rfl, Below.refl _ _⟩
  | say a v z o ihz iho =>
    intro hw hl w
    have hlz : (text (.say a v z o)).length = (text z).length + (text o).length + 3 := by simp [text]
    have HZ := Lib.hid (ihz hw.2.1 (by omega))
    have HO := Lib.hid (iho hw.2.2 (by omega))
    have HL : Hid (∀ W, Calls Try.prog 57 #[.string (str (text (.say a v z o)))] W fun e w' => e = .returned (.bool false) ∧ W = w') := leaf_no _ (by rw [str_size]; omega)
    have HP := Lib.hid (parts_w a v z o hw.2.1 (str (text (.say a v z o))) (str_data _) (by rw [str_size]; omega))
    have hx : (str (text (.say a v z o))).extract 1 3 = str [hexD (v / 16), hexD (v % 16)] := by
      apply eq_str
      rw [data_extract, str_data]
      rfl
    have hs3 : 3 ≤ (str (text (.say a v z o))).size := by rw [str_size]; omega
    obtain ⟨hk, hx0⟩ := at_drop (s := str (text (.say a v z o))) (k := 0) (c := whoB a) (r := hexD (v / 16) :: hexD (v % 16) :: (text z ++ text o)) (by rw [str_data]; rfl)
    have hn : ((str (text (.say a v z o)))[0]'hk).toNat = (whoB a).toNat := by rw [hx0]
    have lz := turn_length z
    have lo := turn_length o
    have HR : Hid (str (text (turnT (.say a v z o))) = str [whoB (!a)] ++ str [hexD (v / 16), hexD (v % 16)] ++ str (text (turnT z)) ++ str (text (turnT o))) := by
      show _ = _
      rw [str_append, str_append, str_append]
      rfl
    have s1 : (str (text (turnT z))).size ≤ 2000 := by rw [str_size]; omega
    have s2 : (str (text (turnT o))).size ≤ 2000 := by rw [str_size]; omega
    have s0 : (str [hexD (v / 16), hexD (v % 16)]).size = 2 := by rw [str_size]; rfl
    generalize str (text (turnT (.say a v z o))) = res at *
    generalize str (text (.say a v z o)) = s at *
    generalize str (text (turnT z)) = rz at *
    generalize str (text (turnT o)) = ro at *
    generalize str (text z) = sz at *
    generalize str (text o) = so at *
    generalize str [hexD (v / 16), hexD (v % 16)] = hx2 at *
    have HN := Lib.hid hn
    have hs3i : (3 : Int) ≤ (s.size : Int) := by omega
    clear hl hlz hw ihz iho hx0 lz lo hn
    cases a
    · have hn : (s[0]'hk).toNat = 66 := HN.out
      have HR2 : Hid (res = (⟨#[65]⟩ : ByteArray) ++ hx2 ++ rz ++ ro) := HR.out
      have b1 : ((⟨#[65]⟩ : ByteArray) ++ hx2).size = 3 := by rw [ByteArray.size_append, s0]; rfl
      have q1 := fun W => run_string_add_sum (P := Try.prog) (w := W) (⟨#[65]⟩ : ByteArray) hx2 (by rw [s0]; decide)
      have q2 := fun W => run_string_add_sum (P := Try.prog) (w := W) ((⟨#[65]⟩ : ByteArray) ++ hx2) rz (by omega)
      have q3 := fun W => run_string_add_sum (P := Try.prog) (w := W) ((⟨#[65]⟩ : ByteArray) ++ hx2 ++ rz) ro (by rw [ByteArray.size_append]; omega)
      clear HN HR b1
      go_enter Try.func38, Try.ntmps38
      go_wp2_with fail
      refine (HL.out _).mono ?_
      rintro e w' ⟨rfl, rfl⟩
      go_wp2_with fail
      refine (HP.out _).mono ?_
      rintro e w1 ⟨rfl, hb1⟩
      have HW := Lib.hid hb1
      clear hb1
      go_wp2_with fail
      refine region_kept (C := fun wx => Below w1.heap.size w1 wx) (drew_at w1) (by kernel_rfl) (by kernel_rfl) ?_
      repeat
        (refine wq_step (fun K hK => ?_)
         go_simp
         first
           | (refine hK _ ?_; clear hK K)
           | (apply Exists.intro
              refine ⟨fun wx hC => ?_, hK _ ?_⟩
              · first
                | with_reducible rfl
                | with_reducible exact ((HZ.out wx).mono fun e w' h => ⟨h.1, hC.trans (h.2.mono hC.size)⟩)
                | with_reducible exact ((HO.out wx).mono fun e w' h => ⟨h.1, hC.trans (h.2.mono hC.size)⟩)
                | (rw [if_pos hs3i]; exact ⟨rfl, rfl⟩)
                | (go_simp; first | done | rfl)
              clear hK K))
      refine wq_nil ?_
      intro w9 hC
      have HB := Lib.hid (HW.out.trans (hC.mono HW.out.size))
      clear hC HW
      go_simp
      go_wp2_with fail
      go_ret
      exact ⟨by rw [HR2.out]; rfl, HB.out⟩
    · have hn : (s[0]'hk).toNat = 65 := HN.out
      have HR2 : Hid (res = (⟨#[66]⟩ : ByteArray) ++ hx2 ++ rz ++ ro) := HR.out
      have b1 : ((⟨#[66]⟩ : ByteArray) ++ hx2).size = 3 := by rw [ByteArray.size_append, s0]; rfl
      have q1 := fun W => run_string_add_sum (P := Try.prog) (w := W) (⟨#[66]⟩ : ByteArray) hx2 (by rw [s0]; decide)
      have q2 := fun W => run_string_add_sum (P := Try.prog) (w := W) ((⟨#[66]⟩ : ByteArray) ++ hx2) rz (by omega)
      have q3 := fun W => run_string_add_sum (P := Try.prog) (w := W) ((⟨#[66]⟩ : ByteArray) ++ hx2 ++ rz) ro (by rw [ByteArray.size_append]; omega)
      clear HN HR b1
      go_enter Try.func38, Try.ntmps38
      go_wp2_with fail
      refine (HL.out _).mono ?_
      rintro e w' ⟨rfl, rfl⟩
      go_wp2_with fail
      refine (HP.out _).mono ?_
      rintro e w1 ⟨rfl, hb1⟩
      have HW := Lib.hid hb1
      clear hb1
      go_wp2_with fail
      refine region_kept (C := fun wx => Below w1.heap.size w1 wx) (drew_at w1) (by kernel_rfl) (by kernel_rfl) ?_
      repeat
        (refine wq_step (fun K hK => ?_)
         go_simp
         first
           | (refine hK _ ?_; clear hK K)
           | (apply Exists.intro
              refine ⟨fun wx hC => ?_, hK _ ?_⟩
              · first
                | with_reducible rfl
                | with_reducible exact ((HZ.out wx).mono fun e w' h => ⟨h.1, hC.trans (h.2.mono hC.size)⟩)
                | with_reducible exact ((HO.out wx).mono fun e w' h => ⟨h.1, hC.trans (h.2.mono hC.size)⟩)
                | (rw [if_pos hs3i]; exact ⟨rfl, rfl⟩)
                | (go_simp; first | done | rfl)
              clear hK K))
      refine wq_nil ?_
      intro w9 hC
      have HB := Lib.hid (HW.out.trans (hC.mono HW.out.size))
      clear hC HW
      go_simp
      go_wp2_with fail
      go_ret
      exact ⟨by rw [HR2.out]; rfl, HB.out⟩

/-- the text of a value -/
def valS (b : Bool) : ByteArray := ⟨#[dig b]⟩
set_option maxHeartbeats 4000000 in
set_option maxRecDepth 100000 in
theorem said_endsOf (v : Bool) (t : T) : wf t → (text t).length ≤ 2000 → ∀ w : World, Calls Try.prog 42 #[.string (str (text t)), .string (valS v)] w fun e w' => e = .returned (.int .i64 (endsOf v t : Int)) ∧ Below w.heap.size w w' := by
  induction t with
  | leaf b =>
    intro _ _ w
    have HL : Hid (∀ W, Calls Try.prog 57 #[.string (valS b)] W fun e w' => e = .returned (.bool true) ∧ W = w') := leaf_yes _ (by rfl)
    have HI : Hid (∀ W, Calls Try.prog 59 #[.bool (b == v)] W fun e w' => e = .returned (.int .i64 (if b == v then 1 else 0)) ∧ W = w') := l1Int_w _
    have hq : ((valS b).toList == (valS v).toList) = (b == v) := by rw [ByteArray.toList_eq, ByteArray.toList_eq]; cases b <;> cases v <;> rfl
    have HE : Hid ((endsOf v (.leaf b) : Int) = if b == v then 1 else 0) := by show _ = _; cases b <;> cases v <;> rfl
    show Calls _ _ #[.string (valS b), .string (valS v)] _ _
    generalize valS b = sb at *
    generalize valS v = sv at *
    generalize (b == v) = bv at *
    cases bv
    all_goals
      go_enter Try.func42, Try.ntmps42
      go_wp2_with fail
      refine (HL.out _).mono ?_
      rintro e w' ⟨rfl, rfl⟩
      go_wp2_with fail
      refine (HI.out _).mono ?_
      rintro e w' ⟨rfl, rfl⟩
      go_wp2_with fail
      go_ret
      exact ⟨by rw [HE.out]; rfl, Below.refl _ _⟩
  | say a s z o ihz iho =>
    intro hw hl w
    have hlz : (text (.say a s z o)).length = (text z).length + (text o).length + 3 := by simp [text]
    have HZ := Lib.hid (ihz hw.2.1 (by omega))
    have HO := Lib.hid (iho hw.2.2 (by omega))
    have HL : Hid (∀ W, Calls Try.prog 57 #[.string (str (text (.say a s z o)))] W fun e w' => e = .returned (.bool false) ∧ W = w') := leaf_no _ (by rw [str_size]; omega)
    have HP := Lib.hid (parts_w a s z o hw.2.1 (str (text (.say a s z o))) (str_data _) (by rw [str_size]; omega))
    have e1 := ends_sum z
    have e2 := ends_sum o
    have e3 := ends_le z
    have e4 := ends_le o
    have m1 : endsOf v z ≤ 2000 := by cases v <;> omega
    have m2 : endsOf v o ≤ 2000 := by cases v <;> omega
    have hm : endsOf v (.say a s z o) = endsOf v z + endsOf v o := rfl
    rw [hm]
    clear hm ihz iho e1 e2 e3 e4
    generalize endsOf v z = m at *
    generalize endsOf v o = n at *
    have HM : Hid (((m + n : Nat) : Int) = (m : Int) + (n : Int)) := by show _ = _; omega
    generalize str (text (.say a s z o)) = st at *
    generalize str (text z) = sz at *
    generalize str (text o) = so at *
    generalize valS v = sv at *
    clear hl hlz hw
    go_enter Try.func42, Try.ntmps42
    go_wp2_with fail
    refine (HL.out _).mono ?_
    rintro e w' ⟨rfl, rfl⟩
    go_wp2_with fail
    refine (HP.out _).mono ?_
    rintro e w1 ⟨rfl, hb1⟩
    go_wp2_with fail
    refine (HZ.out _).mono ?_
    rintro e w2 ⟨rfl, hb2⟩
    go_wp2_with fail
    refine (HO.out _).mono ?_
    rintro e w3 ⟨rfl, hb3⟩
    have h12 := hb1.trans (hb2.mono hb1.size)
    have HB := Lib.hid (h12.trans (hb3.mono h12.size))
    clear hb1 hb2 hb3 h12
    go_wp2_with fail
    go_ret
    exact ⟨by rw [HM.out]; rfl, HB.out⟩

set_option maxHeartbeats 4000000 in
set_option maxRecDepth 100000 in
theorem said_graft (zero one : T) (t : T) : wf t → (text t).length ≤ 2000 → (text zero).length ≤ 2000 → (text one).length ≤ 2000 → ∀ w : World, Calls Try.prog 41 #[.string (str (text t)), .string (str (text zero)), .string (str (text one))] w fun e w' => e = .returned (.string (str (text (graftT zero one t)))) ∧ Below w.heap.size w w' := by
  induction t with
  | leaf b =>
    intro _ _ _ _ w
    cases b
    · show Calls _ _ #[.string ⟨#[48]⟩, .string (str (text zero)), .string (str (text one))] _ fun e w' => e = .returned (.string (str (text zero))) ∧ _
      generalize str (text zero) = s0 at *
      generalize str (text one) = s1 at *
      have hq : ((⟨#[48]⟩ : ByteArray).toList == (⟨#[48]⟩ : ByteArray).toList) = true := by simp
      go_enter Try.func41, Try.ntmps41
      go_wp2_with fail
      go_ret
      exact ⟨rfl, Below.refl _ _⟩
    · show Calls _ _ #[.string ⟨#[49]⟩, .string (str (text zero)), .string (str (text one))] _ fun e w' => e = .returned (.string (str (text one))) ∧ _
      generalize str (text zero) = s0 at *
      generalize str (text one) = s1 at *
      have hq : ((⟨#[49]⟩ : ByteArray).toList == (⟨#[48]⟩ : ByteArray).toList) = false := by rw [ByteArray.toList_eq, ByteArray.toList_eq]; rfl
      have hq2 : ((⟨#[49]⟩ : ByteArray).toList == (⟨#[49]⟩ : ByteArray).toList) = true := by simp
      go_enter Try.func41, Try.ntmps41
      go_wp2_with fail
      go_ret
      exact ⟨rfl, Below.refl _ _⟩
  | say a v z o ihz iho =>
    intro hw hl h0 h1 w
    have hlz : (text (.say a v z o)).length = (text z).length + (text o).length + 3 := by simp [text]
    have HZ := Lib.hid (ihz hw.2.1 (by omega) h0 h1)
    have HO := Lib.hid (iho hw.2.2 (by omega) h0 h1)
    have HP := Lib.hid (parts_w a v z o hw.2.1 (str (text (.say a v z o))) (str_data _) (by rw [str_size]; omega))
    have hx : (str (text (.say a v z o))).extract 0 3 = str [whoB a, hexD (v / 16), hexD (v % 16)] := by
      apply eq_str
      rw [data_extract, str_data]
      rfl
    have hs3 : 3 ≤ (str (text (.say a v z o))).size := by rw [str_size]; omega
    have hne : ∀ c : UInt8, ((str (text (.say a v z o))).toList == [c]) = false := fun c => by
      apply beq_false_of_ne
      intro e
      have h := congrArg List.length e
      rw [ByteArray.toList_eq] at h
      rw [str_data] at h
      simp at h
      omega
    have n48 := hne 48
    have n49 := hne 49
    have g0 : ∀ u : T, (text u).length ≤ 2000 → (text (graftT zero one u)).length ≤ 4010000 := fun u hu => by
      have := graft_length zero one u
      have := ends_sum u
      have := ends_le u
      have i1 : endsOf false u * ((text zero).length - 1) ≤ endsOf false u * 2000 := Nat.mul_le_mul_left _ (by omega)
      have i2 : endsOf true u * ((text one).length - 1) ≤ endsOf true u * 2000 := Nat.mul_le_mul_left _ (by omega)
      omega
    have lz := g0 z (by omega)
    have lo := g0 o (by omega)
    have HR : Hid (str (text (graftT zero one (.say a v z o))) = str [whoB a, hexD (v / 16), hexD (v % 16)] ++ str (text (graftT zero one z)) ++ str (text (graftT zero one o))) := by
      show _ = _
      rw [str_append, str_append]
      rfl
    have s1 : (str (text (graftT zero one z))).size ≤ 4010000 := by rw [str_size]; omega
    have s2 : (str (text (graftT zero one o))).size ≤ 4010000 := by rw [str_size]; omega
    have s0 : (str [whoB a, hexD (v / 16), hexD (v % 16)]).size = 3 := by rw [str_size]; rfl
    generalize str (text (graftT zero one (.say a v z o))) = res at *
    generalize str (text (.say a v z o)) = s at *
    generalize str (text (graftT zero one z)) = rz at *
    generalize str (text (graftT zero one o)) = ro at *
    generalize str (text z) = sz at *
    generalize str (text o) = so at *
    generalize str (text zero) = sx at *
    generalize str (text one) = sy at *
    generalize str [whoB a, hexD (v / 16), hexD (v % 16)] = hx2 at *
    have q1 := fun W => run_string_add_sum (P := Try.prog) (w := W) hx2 rz (by omega)
    have q2 := fun W => run_string_add_sum (P := Try.prog) (w := W) (hx2 ++ rz) ro (by rw [ByteArray.size_append]; omega)
    have hs3i : (3 : Int) ≤ (s.size : Int) := by omega
    clear hl hlz hw ihz iho lz lo hne g0 h0 h1
    go_enter Try.func41, Try.ntmps41
    go_wp2_with fail
    refine (HP.out _).mono ?_
    rintro e w1 ⟨rfl, hb1⟩
    have HW := Lib.hid hb1
    clear hb1
    go_wp2_with fail
    refine region_kept (C := fun wx => Below w1.heap.size w1 wx) (drew_at w1) (by kernel_rfl) (by kernel_rfl) ?_
    repeat
      (refine wq_step (fun K hK => ?_)
       go_simp
       first
         | (refine hK _ ?_; clear hK K)
         | (apply Exists.intro
            refine ⟨fun wx hC => ?_, hK _ ?_⟩
            · first
              | with_reducible rfl
              | with_reducible exact ((HZ.out wx).mono fun e w' h => ⟨h.1, hC.trans (h.2.mono hC.size)⟩)
              | with_reducible exact ((HO.out wx).mono fun e w' h => ⟨h.1, hC.trans (h.2.mono hC.size)⟩)
              | (rw [if_pos hs3i]; exact ⟨rfl, rfl⟩)
              | (go_simp; first | done | rfl)
            clear hK K))
    refine wq_nil ?_
    intro w9 hC
    have HB := Lib.hid (HW.out.trans (hC.mono HW.out.size))
    clear hC HW
    go_simp
    go_wp2_with fail
    go_ret
    exact ⟨by rw [HR.out]; rfl, HB.out⟩
end Go.Proofs.Ytodfeaelidpckaa.SaidTG
