/-
  The reference's protocol without what is never said.
-/
import Derived.Test.YtgfhahlkffagaaaSplit
namespace Go.Proofs.Ytgfhahlkffagaaa.SaidTrim
open Go.RowKit Go.Shelf Go.Proofs.Ytgfhahlkffagaaa.Plain Go.Proofs.Ytgfhahlkffagaaa.Tree Go.Proofs.Ytgfhahlkffagaaa.Hex Go.Proofs.Ytgfhahlkffagaaa.Read Go.Proofs.Ytgfhahlkffagaaa.Parts Go.Proofs.Ytgfhahlkffagaaa.SetW Go.Proofs.Ytgfhahlkffagaaa.TrimT Go.Proofs.Ytgfhahlkffagaaa.Rect Go.Proofs.Ytgfhahlkffagaaa.Split
open Go.Proofs.Ytgfhahlkffagaaa.Wq (WQ wq_step wq_nil region_kept drew_at)
set_option linter.unusedVariables false
set_option linter.unusedSimpArgs false

theorem eq0 {n : Nat} (h : n = 0) : ((n : Int) == 0) = true := by subst h; rfl
theorem ne0 {n : Nat} (h : n ≠ 0) : ((n : Int) == 0) = false := beq_false_of_ne (by omega)

set_option maxHeartbeats 8000000 in
set_option maxRecDepth 100000 in
theorem said_trim (t : T) : wf t → (text t).length ≤ 2000 → ∀ (R C : Nat) (w : World), R < 256 → C < 256 → 1 ≤ R → 1 ≤ C →
    Calls Try.prog 29 #[.string (str (text t)), rect R C] w fun e w' => e = .returned (.string (str (text (trimT t R C)))) ∧ Below w.heap.size w w' := by
  induction t with
  | leaf b =>
    intro _ _ R C w _ _ _ _
    have HL : Hid (∀ W, Calls Try.prog 44 #[.string (str (text (.leaf b)))] W fun e w' => e = .returned (.bool true) ∧ W = w') := leaf_yes _ (by rw [str_size]; rfl)
    show Calls _ _ _ _ fun e w' => e = .returned (.string (str (text (.leaf b)))) ∧ _
    generalize str (text (.leaf b)) = s at *
    go_enter Try.func29, Try.ntmps29
    go_wp2_with fail
    refine (HL.out _).mono ?_
    rintro e w' ⟨rfl, rfl⟩
    go_wp2_with fail
    go_ret
    exact ⟨rfl, by go_grown⟩
  | say a v z o ihz iho =>
    intro hw hl R C w hR hC hR1 hC1
    have hlz : (text (.say a v z o)).length = (text z).length + (text o).length + 3 := by simp [text]
    obtain ⟨h1, h2, h3, h4⟩ := parts_lt a v hR hC
    have hnb := not_both a v hR hC hR1 hC1
    have ihz' := ihz hw.2.1 (by omega)
    have iho' := iho hw.2.2 (by omega)
    have HL : Hid (∀ W, Calls Try.prog 44 #[.string (str (text (.say a v z o)))] W fun e w' => e = .returned (.bool false) ∧ W = w') := leaf_no _ (by rw [str_size]; omega)
    have HP := Lib.hid (parts_w a v z o hw.2.1 (str (text (.say a v z o))) (str_data _) (by rw [str_size]; omega))
    have HSp := Lib.hid (split_said a v z o hw.1 (str (text (.say a v z o))) (str_data _) (by rw [str_size]; omega) R C hR hC)
    have hx : (str (text (.say a v z o))).extract 0 1 = str [whoB a] := by
      apply eq_str
      rw [data_extract, str_data]
      rfl
    obtain ⟨hk, hx0⟩ := at_drop (s := str (text (.say a v z o))) (k := 0) (c := whoB a) (r := hexD (v / 16) :: hexD (v % 16) :: (text z ++ text o)) (by rw [str_data]; rfl)
    have hn : ((str (text (.say a v z o)))[0]'hk).toNat = (whoB a).toNat := by rw [hx0]
    have HT : trimT (.say a v z o) R C = if inR a v R = 0 ∨ inC a v C = 0 then trimT z (outR a v R) (outC a v C)
      else if outR a v R = 0 ∨ outC a v C = 0 then trimT o (inR a v R) (inC a v C)
      else .say a (if a then inR a v R else inC a v C) (trimT z (outR a v R) (outC a v C)) (trimT o (inR a v R) (inC a v C)) := rfl
    rw [HT]
    clear HT
    have lz : (text (trimT z (outR a v R) (outC a v C))).length ≤ 2000 := Nat.le_trans (trim_length z _ _) (by omega)
    have lo : (text (trimT o (inR a v R) (inC a v C))).length ≤ 2000 := Nat.le_trans (trim_length o _ _) (by omega)
    obtain ⟨oR, hoR⟩ : ∃ x, outR a v R = x := ⟨_, rfl⟩
    obtain ⟨oC, hoC⟩ : ∃ x, outC a v C = x := ⟨_, rfl⟩
    obtain ⟨iR, hiR⟩ : ∃ x, inR a v R = x := ⟨_, rfl⟩
    obtain ⟨iC, hiC⟩ : ∃ x, inC a v C = x := ⟨_, rfl⟩
    rw [hoR, hoC, hiR, hiC] at HSp hnb ⊢
    rw [hoR, hoC] at lz
    rw [hiR, hiC] at lo
    rw [hoR] at h1
    rw [hoC] at h2
    rw [hiR] at h3
    rw [hiC] at h4
    clear hoR hoC hiR hiC
    obtain ⟨res, hres⟩ : ∃ res, str (text (if iR = 0 ∨ iC = 0 then trimT z oR oC else if oR = 0 ∨ oC = 0 then trimT o iR iC else .say a (if a then iR else iC) (trimT z oR oC) (trimT o iR iC))) = res := ⟨_, rfl⟩
    rw [hres]
    have HRS := Lib.hid hres
    clear hres
    have hs1 : (1 : Int) ≤ ((str (text (.say a v z o))).size : Int) := by rw [str_size]; omega
    generalize str (text (.say a v z o)) = st at *
    generalize str (text z) = sz at *
    generalize str (text o) = so at *
    have HN := Lib.hid hn
    clear hl hlz hw ihz iho hx0 hn
    have ez := fun W => ihz' oR oC W h1 h2
    have eo := fun W => iho' iR iC W h3 h4
    clear ihz' iho'
    by_cases hin : iR = 0 ∨ iC = 0
    · obtain ⟨q1, q2⟩ := hnb hin
      have HZ := Lib.hid (fun W => ez W q1 q2)
      have HR1 : Hid (str (text (trimT z oR oC)) = res) := by have h := HRS.out; rw [if_pos hin] at h; exact h
      have n1 := ne0 (n := oR) (by omega)
      have n2 := ne0 (n := oC) (by omega)
      clear ez eo HRS hnb
      by_cases hi0 : iR = 0
      · have n3 := eq0 hi0
        clear hin hi0
        go_enter Try.func29, Try.ntmps29
        go_wp2_with fail
        refine (HL.out _).mono ?_
        rintro e w' ⟨rfl, rfl⟩
        go_wp2_with fail
        refine (HP.out _).mono ?_
        rintro e w1 ⟨rfl, hb1⟩
        have g0 : (w.alloc (.cells #[.int .i64 (R : Int), .int .i64 (C : Int)] 23)).heap[w.heap.size]? = some (.cells #[.int .i64 (R : Int), .int .i64 (C : Int)] 23 (0, 0)) := heap_alloc_new w _
        have g1 : w1.heap[w.heap.size]? = some (.cells #[.int .i64 (R : Int), .int .i64 (C : Int)] 23 (0, 0)) := (hb1.block _ (Array.getElem?_eq_some_iff.1 g0).1).trans g0
        obtain ⟨c0, c1, _, _⟩ := cells2 g1
        have HB1 : Hid (Below w.heap.size w w1) := by
          have b0 := (Below.refl w.heap.size w).alloc (Nat.le_refl _) (.cells #[.int .i64 (R : Int), .int .i64 (C : Int)] 23)
          exact b0.trans (hb1.mono b0.size)
        clear hb1 g0 g1
        go_wp2_with fail
        refine (HSp.out _).mono ?_
        rintro e w2 ⟨rfl, hb2⟩
        have HB2 := Lib.hid (HB1.out.trans (hb2.mono HB1.out.size))
        clear hb2 HB1 c0 c1
        have HB3 := Lib.hid ((HB2.out.alloc HB2.out.size (.cells #[.int .i64 (oR : Int), .int .i64 (oC : Int)] 23)).alloc (HB2.out.alloc HB2.out.size (.cells #[.int .i64 (oR : Int), .int .i64 (oC : Int)] 23)).size (.cells #[.int .i64 (iR : Int), .int .i64 (iC : Int)] 23))
        go_wp2_with fail
        refine (HZ.out _).mono ?_
        rintro e w4 ⟨rfl, hb4⟩
        have HB4 := Lib.hid (HB3.out.trans (hb4.mono HB3.out.size))
        clear hb4
        go_wp2_with fail
        go_ret
        exact ⟨by rw [← HR1.out]; rfl, HB4.out⟩
      · have n3 := ne0 hi0
        have n4 := eq0 (n := iC) (by omega)
        clear hin hi0
        go_enter Try.func29, Try.ntmps29
        go_wp2_with fail
        refine (HL.out _).mono ?_
        rintro e w' ⟨rfl, rfl⟩
        go_wp2_with fail
        refine (HP.out _).mono ?_
        rintro e w1 ⟨rfl, hb1⟩
        have g0 : (w.alloc (.cells #[.int .i64 (R : Int), .int .i64 (C : Int)] 23)).heap[w.heap.size]? = some (.cells #[.int .i64 (R : Int), .int .i64 (C : Int)] 23 (0, 0)) := heap_alloc_new w _
        have g1 : w1.heap[w.heap.size]? = some (.cells #[.int .i64 (R : Int), .int .i64 (C : Int)] 23 (0, 0)) := (hb1.block _ (Array.getElem?_eq_some_iff.1 g0).1).trans g0
        obtain ⟨c0, c1, _, _⟩ := cells2 g1
        have HB1 : Hid (Below w.heap.size w w1) := by
          have b0 := (Below.refl w.heap.size w).alloc (Nat.le_refl _) (.cells #[.int .i64 (R : Int), .int .i64 (C : Int)] 23)
          exact b0.trans (hb1.mono b0.size)
        clear hb1 g0 g1
        go_wp2_with fail
        refine (HSp.out _).mono ?_
        rintro e w2 ⟨rfl, hb2⟩
        have HB2 := Lib.hid (HB1.out.trans (hb2.mono HB1.out.size))
        clear hb2 HB1 c0 c1
        have HB3 := Lib.hid ((HB2.out.alloc HB2.out.size (.cells #[.int .i64 (oR : Int), .int .i64 (oC : Int)] 23)).alloc (HB2.out.alloc HB2.out.size (.cells #[.int .i64 (oR : Int), .int .i64 (oC : Int)] 23)).size (.cells #[.int .i64 (iR : Int), .int .i64 (iC : Int)] 23))
        go_wp2_with fail
        refine (HZ.out _).mono ?_
        rintro e w4 ⟨rfl, hb4⟩
        have HB4 := Lib.hid (HB3.out.trans (hb4.mono HB3.out.size))
        clear hb4
        go_wp2_with fail
        go_ret
        exact ⟨by rw [← HR1.out]; rfl, HB4.out⟩
    have i1 : 1 ≤ iR := by omega
    have i2 : 1 ≤ iC := by omega
    have n3 := ne0 (n := iR) (by omega)
    have n4 := ne0 (n := iC) (by omega)
    have HO := Lib.hid (fun W => eo W i1 i2)
    have HRS2 : Hid (str (text (if oR = 0 ∨ oC = 0 then trimT o iR iC else .say a (if a then iR else iC) (trimT z oR oC) (trimT o iR iC))) = res) := by have h := HRS.out; rw [if_neg hin] at h; exact h
    clear HRS hnb hin eo
    by_cases hou : oR = 0 ∨ oC = 0
    · have HR1 : Hid (str (text (trimT o iR iC)) = res) := by have h := HRS2.out; rw [if_pos hou] at h; exact h
      clear ez HRS2
      by_cases ho0 : oR = 0
      · have n1 := eq0 ho0
        clear hou ho0
        go_enter Try.func29, Try.ntmps29
        go_wp2_with fail
        refine (HL.out _).mono ?_
        rintro e w' ⟨rfl, rfl⟩
        go_wp2_with fail
        refine (HP.out _).mono ?_
        rintro e w1 ⟨rfl, hb1⟩
        have g0 : (w.alloc (.cells #[.int .i64 (R : Int), .int .i64 (C : Int)] 23)).heap[w.heap.size]? = some (.cells #[.int .i64 (R : Int), .int .i64 (C : Int)] 23 (0, 0)) := heap_alloc_new w _
        have g1 : w1.heap[w.heap.size]? = some (.cells #[.int .i64 (R : Int), .int .i64 (C : Int)] 23 (0, 0)) := (hb1.block _ (Array.getElem?_eq_some_iff.1 g0).1).trans g0
        obtain ⟨c0, c1, _, _⟩ := cells2 g1
        have HB1 : Hid (Below w.heap.size w w1) := by
          have b0 := (Below.refl w.heap.size w).alloc (Nat.le_refl _) (.cells #[.int .i64 (R : Int), .int .i64 (C : Int)] 23)
          exact b0.trans (hb1.mono b0.size)
        clear hb1 g0 g1
        go_wp2_with fail
        refine (HSp.out _).mono ?_
        rintro e w2 ⟨rfl, hb2⟩
        have HB2 := Lib.hid (HB1.out.trans (hb2.mono HB1.out.size))
        clear hb2 HB1 c0 c1
        have HB3 := Lib.hid ((HB2.out.alloc HB2.out.size (.cells #[.int .i64 (oR : Int), .int .i64 (oC : Int)] 23)).alloc (HB2.out.alloc HB2.out.size (.cells #[.int .i64 (oR : Int), .int .i64 (oC : Int)] 23)).size (.cells #[.int .i64 (iR : Int), .int .i64 (iC : Int)] 23))
        go_wp2_with fail
        refine (HO.out _).mono ?_
        rintro e w4 ⟨rfl, hb4⟩
        have HB4 := Lib.hid (HB3.out.trans (hb4.mono HB3.out.size))
        clear hb4
        go_wp2_with fail
        go_ret
        exact ⟨by rw [← HR1.out]; rfl, HB4.out⟩
      · have n1 := ne0 ho0
        have n2 := eq0 (n := oC) (by omega)
        clear hou ho0
        go_enter Try.func29, Try.ntmps29
        go_wp2_with fail
        refine (HL.out _).mono ?_
        rintro e w' ⟨rfl, rfl⟩
        go_wp2_with fail
        refine (HP.out _).mono ?_
        rintro e w1 ⟨rfl, hb1⟩
        have g0 : (w.alloc (.cells #[.int .i64 (R : Int), .int .i64 (C : Int)] 23)).heap[w.heap.size]? = some (.cells #[.int .i64 (R : Int), .int .i64 (C : Int)] 23 (0, 0)) := heap_alloc_new w _
        have g1 : w1.heap[w.heap.size]? = some (.cells #[.int .i64 (R : Int), .int .i64 (C : Int)] 23 (0, 0)) := (hb1.block _ (Array.getElem?_eq_some_iff.1 g0).1).trans g0
        obtain ⟨c0, c1, _, _⟩ := cells2 g1
        have HB1 : Hid (Below w.heap.size w w1) := by
          have b0 := (Below.refl w.heap.size w).alloc (Nat.le_refl _) (.cells #[.int .i64 (R : Int), .int .i64 (C : Int)] 23)
          exact b0.trans (hb1.mono b0.size)
        clear hb1 g0 g1
        go_wp2_with fail
        refine (HSp.out _).mono ?_
        rintro e w2 ⟨rfl, hb2⟩
        have HB2 := Lib.hid (HB1.out.trans (hb2.mono HB1.out.size))
        clear hb2 HB1 c0 c1
        have HB3 := Lib.hid ((HB2.out.alloc HB2.out.size (.cells #[.int .i64 (oR : Int), .int .i64 (oC : Int)] 23)).alloc (HB2.out.alloc HB2.out.size (.cells #[.int .i64 (oR : Int), .int .i64 (oC : Int)] 23)).size (.cells #[.int .i64 (iR : Int), .int .i64 (iC : Int)] 23))
        go_wp2_with fail
        refine (HO.out _).mono ?_
        rintro e w4 ⟨rfl, hb4⟩
        have HB4 := Lib.hid (HB3.out.trans (hb4.mono HB3.out.size))
        clear hb4
        go_wp2_with fail
        go_ret
        exact ⟨by rw [← HR1.out]; rfl, HB4.out⟩
    have o1 : 1 ≤ oR := by omega
    have o2 : 1 ≤ oC := by omega
    have n1 := ne0 (n := oR) (by omega)
    have n2 := ne0 (n := oC) (by omega)
    have HZ := Lib.hid (fun W => ez W o1 o2)
    have HRS3 : Hid (str (text (.say a (if a then iR else iC) (trimT z oR oC) (trimT o iR iC))) = res) := by have h := HRS2.out; rw [if_neg hou] at h; exact h
    obtain ⟨S, hS⟩ : ∃ S : Nat, (if a then iR else iC) = S := ⟨_, rfl⟩
    have hS8 : S < 256 := by rw [← hS]; split <;> assumption
    have HS := Lib.hid hS
    rw [hS] at HRS3
    have s1 : (str (text (trimT z oR oC))).size ≤ 8000000 := by rw [str_size]; omega
    have s2 : (str (text (trimT o iR iC))).size ≤ 8000000 := by rw [str_size]; omega
    have HNo := Lib.hid fun W => node_said (str [whoB a]) (str (text (trimT z oR oC))) (str (text (trimT o iR iC))) S hS8 (by rw [str_size]; show 1 ≤ 2000; omega) s1 s2 W
    have HRes : Hid (res = str [whoB a] ++ str [hexD (S / 16)] ++ str [hexD (S % 16)] ++ str (text (trimT z oR oC)) ++ str (text (trimT o iR iC))) := by
      show _ = _
      rw [← HRS3.out, str_append, str_append, str_append, str_append]
      rfl
    generalize str [whoB a] ++ str [hexD (S / 16)] ++ str [hexD (S % 16)] ++ str (text (trimT z oR oC)) ++ str (text (trimT o iR iC)) = res2 at *
    generalize str (text (trimT z oR oC)) = rz at *
    generalize str (text (trimT o iR iC)) = ro at *
    generalize str [whoB a] = q0 at *
    clear HRS2 HRS3 hou hS s1 s2 ez
    cases a
    · have hn : (st[0]'hk).toNat = 66 := HN.out
      have hSi : iC = S := HS.out
      subst hSi
      go_enter Try.func29, Try.ntmps29
      go_wp2_with fail
      refine (HL.out _).mono ?_
      rintro e w' ⟨rfl, rfl⟩
      go_wp2_with fail
      refine (HP.out _).mono ?_
      rintro e w1 ⟨rfl, hb1⟩
      have g0 : (w.alloc (.cells #[.int .i64 (R : Int), .int .i64 (C : Int)] 23)).heap[w.heap.size]? = some (.cells #[.int .i64 (R : Int), .int .i64 (C : Int)] 23 (0, 0)) := heap_alloc_new w _
      have g1 : w1.heap[w.heap.size]? = some (.cells #[.int .i64 (R : Int), .int .i64 (C : Int)] 23 (0, 0)) := (hb1.block _ (Array.getElem?_eq_some_iff.1 g0).1).trans g0
      obtain ⟨c0, c1, _, _⟩ := cells2 g1
      have HB1 : Hid (Below w.heap.size w w1) := by
        have b0 := (Below.refl w.heap.size w).alloc (Nat.le_refl _) (.cells #[.int .i64 (R : Int), .int .i64 (C : Int)] 23)
        exact b0.trans (hb1.mono b0.size)
      clear hb1 g0 g1
      go_wp2_with fail
      refine (HSp.out _).mono ?_
      rintro e w2 ⟨rfl, hb2⟩
      have HB2 := Lib.hid (HB1.out.trans (hb2.mono HB1.out.size))
      clear hb2 HB1 c0 c1
      obtain ⟨W3, hW3⟩ : ∃ W3, ((w2.alloc (.cells #[.int .i64 (oR : Int), .int .i64 (oC : Int)] 23)).alloc (.cells #[.int .i64 (iR : Int), .int .i64 (iC : Int)] 23)) = W3 := ⟨_, rfl⟩
      have HB3 : Hid (Below w.heap.size w W3) := by
        show Below _ _ _
        rw [← hW3]
        have b1 := HB2.out.alloc HB2.out.size (.cells #[.int .i64 (oR : Int), .int .i64 (oC : Int)] 23)
        exact b1.alloc b1.size _
      have HM1 : Hid (∀ wx : World, Below W3.heap.size W3 wx → wx.heap[w2.heap.size]? = some (.cells #[.int .i64 (oR : Int), .int .i64 (oC : Int)] 23 (0, 0))) := fun wx h => by
        have g0 := heap_alloc_new w2 (.cells #[.int .i64 (oR : Int), .int .i64 (oC : Int)] 23)
        have g1 := (heap_alloc_old (w2.alloc (.cells #[.int .i64 (oR : Int), .int .i64 (oC : Int)] 23)) (.cells #[.int .i64 (iR : Int), .int .i64 (iC : Int)] 23) (Array.getElem?_eq_some_iff.1 g0).1).trans g0
        rw [hW3] at g1
        exact (h.block _ (Array.getElem?_eq_some_iff.1 g1).1).trans g1
      have HM2 : Hid (∀ wx : World, Below W3.heap.size W3 wx → wx.heap[w2.heap.size + 1]? = some (.cells #[.int .i64 (iR : Int), .int .i64 (iC : Int)] 23 (0, 0))) := fun wx h => by
        have g1 := heap_alloc_new (w2.alloc (.cells #[.int .i64 (oR : Int), .int .i64 (oC : Int)] 23)) (.cells #[.int .i64 (iR : Int), .int .i64 (iC : Int)] 23)
        rw [show (w2.alloc (.cells #[.int .i64 (oR : Int), .int .i64 (oC : Int)] 23)).heap.size = w2.heap.size + 1 by simp] at g1
        rw [hW3] at g1
        exact (h.block _ (Array.getElem?_eq_some_iff.1 g1).1).trans g1
      have HW3 := Lib.hid hW3
      clear hW3
      go_wp2_with fail
      rw [HW3.out]
      clear HW3
      refine region_kept (C := fun wx => Below W3.heap.size W3 wx) (drew_at W3) (by kernel_rfl) (by kernel_rfl) ?_
      repeat
        (refine wq_step (fun K hK => ?_)
         go_simp
         first
           | (refine hK _ ?_; clear hK K)
           | (apply Exists.intro
              refine ⟨fun wx hC => ?_, hK _ ?_⟩
              · first
                | with_reducible rfl
                | with_reducible exact ((HZ.out wx).mono fun e w' h => ⟨h.1, hC.trans (h.2.mono hC.size)⟩)
                | with_reducible exact ((HO.out wx).mono fun e w' h => ⟨h.1, hC.trans (h.2.mono hC.size)⟩)
                | with_reducible exact ((HNo.out wx).mono fun e w' h => ⟨h.1, hC.trans (h.2.mono hC.size)⟩)
                | (rw [if_pos hs1]; exact ⟨rfl, rfl⟩)
                | (obtain ⟨d0, d1, _, _⟩ := cells2 (HM1.out wx hC); obtain ⟨f0, f1, _, _⟩ := cells2 (HM2.out wx hC); go_simp; first | done | rfl)
              clear hK K))
      refine wq_nil ?_
      intro w9 hC
      have HB9 := Lib.hid (HB3.out.trans (hC.mono HB3.out.size))
      clear hC
      go_simp
      go_wp2_with fail
      go_ret
      exact ⟨by rw [HRes.out]; rfl, HB9.out⟩
    · have hn : (st[0]'hk).toNat = 65 := HN.out
      have hSi : iR = S := HS.out
      subst hSi
      go_enter Try.func29, Try.ntmps29
      go_wp2_with fail
      refine (HL.out _).mono ?_
      rintro e w' ⟨rfl, rfl⟩
      go_wp2_with fail
      refine (HP.out _).mono ?_
      rintro e w1 ⟨rfl, hb1⟩
      have g0 : (w.alloc (.cells #[.int .i64 (R : Int), .int .i64 (C : Int)] 23)).heap[w.heap.size]? = some (.cells #[.int .i64 (R : Int), .int .i64 (C : Int)] 23 (0, 0)) := heap_alloc_new w _
      have g1 : w1.heap[w.heap.size]? = some (.cells #[.int .i64 (R : Int), .int .i64 (C : Int)] 23 (0, 0)) := (hb1.block _ (Array.getElem?_eq_some_iff.1 g0).1).trans g0
      obtain ⟨c0, c1, _, _⟩ := cells2 g1
      have HB1 : Hid (Below w.heap.size w w1) := by
        have b0 := (Below.refl w.heap.size w).alloc (Nat.le_refl _) (.cells #[.int .i64 (R : Int), .int .i64 (C : Int)] 23)
        exact b0.trans (hb1.mono b0.size)
      clear hb1 g0 g1
      go_wp2_with fail
      refine (HSp.out _).mono ?_
      rintro e w2 ⟨rfl, hb2⟩
      have HB2 := Lib.hid (HB1.out.trans (hb2.mono HB1.out.size))
      clear hb2 HB1 c0 c1
      obtain ⟨W3, hW3⟩ : ∃ W3, ((w2.alloc (.cells #[.int .i64 (oR : Int), .int .i64 (oC : Int)] 23)).alloc (.cells #[.int .i64 (iR : Int), .int .i64 (iC : Int)] 23)) = W3 := ⟨_, rfl⟩
      have HB3 : Hid (Below w.heap.size w W3) := by
        show Below _ _ _
        rw [← hW3]
        have b1 := HB2.out.alloc HB2.out.size (.cells #[.int .i64 (oR : Int), .int .i64 (oC : Int)] 23)
        exact b1.alloc b1.size _
      have HM1 : Hid (∀ wx : World, Below W3.heap.size W3 wx → wx.heap[w2.heap.size]? = some (.cells #[.int .i64 (oR : Int), .int .i64 (oC : Int)] 23 (0, 0))) := fun wx h => by
        have g0 := heap_alloc_new w2 (.cells #[.int .i64 (oR : Int), .int .i64 (oC : Int)] 23)
        have g1 := (heap_alloc_old (w2.alloc (.cells #[.int .i64 (oR : Int), .int .i64 (oC : Int)] 23)) (.cells #[.int .i64 (iR : Int), .int .i64 (iC : Int)] 23) (Array.getElem?_eq_some_iff.1 g0).1).trans g0
        rw [hW3] at g1
        exact (h.block _ (Array.getElem?_eq_some_iff.1 g1).1).trans g1
      have HM2 : Hid (∀ wx : World, Below W3.heap.size W3 wx → wx.heap[w2.heap.size + 1]? = some (.cells #[.int .i64 (iR : Int), .int .i64 (iC : Int)] 23 (0, 0))) := fun wx h => by
        have g1 := heap_alloc_new (w2.alloc (.cells #[.int .i64 (oR : Int), .int .i64 (oC : Int)] 23)) (.cells #[.int .i64 (iR : Int), .int .i64 (iC : Int)] 23)
        rw [show (w2.alloc (.cells #[.int .i64 (oR : Int), .int .i64 (oC : Int)] 23)).heap.size = w2.heap.size + 1 by simp] at g1
        rw [hW3] at g1
        exact (h.block _ (Array.getElem?_eq_some_iff.1 g1).1).trans g1
      have HW3 := Lib.hid hW3
      clear hW3
      go_wp2_with fail
      rw [HW3.out]
      clear HW3
      refine region_kept (C := fun wx => Below W3.heap.size W3 wx) (drew_at W3) (by kernel_rfl) (by kernel_rfl) ?_
      repeat
        (refine wq_step (fun K hK => ?_)
         go_simp
         first
           | (refine hK _ ?_; clear hK K)
           | (apply Exists.intro
              refine ⟨fun wx hC => ?_, hK _ ?_⟩
              · first
                | with_reducible rfl
                | with_reducible exact ((HZ.out wx).mono fun e w' h => ⟨h.1, hC.trans (h.2.mono hC.size)⟩)
                | with_reducible exact ((HO.out wx).mono fun e w' h => ⟨h.1, hC.trans (h.2.mono hC.size)⟩)
                | with_reducible exact ((HNo.out wx).mono fun e w' h => ⟨h.1, hC.trans (h.2.mono hC.size)⟩)
                | (rw [if_pos hs1]; exact ⟨rfl, rfl⟩)
                | (obtain ⟨d0, d1, _, _⟩ := cells2 (HM1.out wx hC); obtain ⟨f0, f1, _, _⟩ := cells2 (HM2.out wx hC); go_simp; first | done | rfl)
              clear hK K))
      refine wq_nil ?_
      intro w9 hC
      have HB9 := Lib.hid (HB3.out.trans (hC.mono HB3.out.size))
      clear hC
      go_simp
      go_wp2_with fail
      go_ret
      exact ⟨by rw [HRes.out]; rfl, HB9.out⟩
end Go.Proofs.Ytgfhahlkffagaaa.SaidTrim
