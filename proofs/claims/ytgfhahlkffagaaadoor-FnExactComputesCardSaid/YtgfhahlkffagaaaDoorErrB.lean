/-
  ErrorsOf and Computes: one result for the program and the reference.
-/
import Derived.Test.YtgfhahlkffagaaaDoorErrW
import Derived.Test.YtgfhahlkffagaaaDoorJ5
import Derived.Test.YtgfhahlkffagaaaDoorColF
namespace Go.Proofs.YtgfhahlkffagaaaDoor.ErrB
open Go.RowKit Go.Shelf Go.Proofs.YtgfhahlkffagaaaDoor.Plain Go.Proofs.YtgfhahlkffagaaaDoor.Base Go.Proofs.YtgfhahlkffagaaaDoor.Valid Go.Proofs.YtgfhahlkffagaaaDoor.Entry Go.Proofs.YtgfhahlkffagaaaDoor.Grid Go.Proofs.YtgfhahlkffagaaaDoor.Tree Go.Proofs.YtgfhahlkffagaaaDoor.Read Go.Proofs.YtgfhahlkffagaaaDoor.TreeOf Go.Proofs.YtgfhahlkffagaaaDoor.TreeIn Go.Proofs.YtgfhahlkffagaaaDoor.FreeL Go.Proofs.YtgfhahlkffagaaaDoor.Talk Go.Proofs.YtgfhahlkffagaaaDoor.Join Go.Proofs.YtgfhahlkffagaaaDoor.JoinI Go.Proofs.YtgfhahlkffagaaaDoor.Ops Go.Proofs.YtgfhahlkffagaaaDoor.ErrW Go.Proofs.YtgfhahlkffagaaaDoor.MatP Go.Proofs.YtgfhahlkffagaaaDoor.MatT Go.Proofs.YtgfhahlkffagaaaDoor.Leaf
open Go.Proofs.YtgfhahlkffagaaaDoor.Wq (WQ wq_step wq_nil region_kept drew_at)
open Go.Proofs.YtgfhahlkffagaaaDoor.SaidMat (mtx said_matrix)
open Go.Proofs.YtgfhahlkffagaaaDoor.fnExactCountOnes (cntI)
open Go.Proofs.YtgfhahlkffagaaaDoor.fnExactMatrixOf (bit_all)
set_option linter.unusedVariables false
set_option linter.unusedSimpArgs false
set_option maxRecDepth 100000

theorem len_E (E : Nat → Nat → Bool) {R C : Nat} (h2 : R ≤ 8) (h4 : C ≤ 8) : (str (rowsB E R C)).size ≤ 64 ∧ (str (rowsB E R C)).size ≤ maxLen := by
  have : (str (rowsB E R C)).size ≤ 64 := by rw [str_size, rowsB_length]; exact prod_le h2 h4
  exact ⟨this, by unfold maxLen; omega⟩
/-- a matrix that is none with any other one -/
theorem join_bad (A B : Int) (u : ByteArray) (hu : u.size ≤ maxLen) (r c : Int) (ms : ByteArray) (hms : ms.size ≤ maxLen) (hbad : validB r c ms = false) (w : World) :
    Calls Tryd.prog 40 #[.string ⟨#[120, 111, 114]⟩, mat A B u, mat r c ms] w fun e w' => e = .returned (.tuple #[mat 0 0 (str []), .bool false]) ∧ Below w.heap.size w w' := by
  have hg2 := fun W => grid_no r c ms hms hbad W
  by_cases hv : validB A B u = true
  · obtain ⟨R, C, E, rfl, rfl, h1, h2, h3, h4, rfl⟩ := valid_form hv
    have hg1 := fun W => grid_yes E R C h1 h2 h3 h4 _ rfl hu (len_E E h2 h4).1 hv W
    exact impl_differ1 xorS known_xor _ _ _ _ _ _ _ _ _ _ _ _ (by omega) hg1 hg2 w
  · rw [Bool.not_eq_true] at hv
    exact impl_zero xorS known_xor _ _ _ _ _ _ _ _ (fun W => grid_no A B u hu hv W) hg2 w
theorem zero_bad : validB 0 0 (str []) = false := by unfold validB; simp
theorem join_none (E : Nat → Nat → Bool) (R C : Nat) (h1 : 1 ≤ R) (h2 : R ≤ 8) (h3 : 1 ≤ C) (h4 : C ≤ 8) (hv : validB R C (str (rowsB E R C)) = true) (w : World) :
    Calls Tryd.prog 40 #[.string ⟨#[120, 111, 114]⟩, mat 0 0 (str []), mat R C (str (rowsB E R C))] w fun e w' => e = .returned (.tuple #[mat 0 0 (str []), .bool false]) ∧ Below w.heap.size w w' := by
  have hg2 := fun W => grid_yes E R C h1 h2 h3 h4 _ rfl (len_E E h2 h4).2 (len_E E h2 h4).1 hv W
  exact impl_differ1 xorS known_xor _ _ _ _ _ _ _ _ _ _ _ _ (by omega) (fun W => grid_no 0 0 (str []) (by unfold maxLen; rw [str_size]; simp) zero_bad W) hg2 w
theorem join_two (F E : Nat → Nat → Bool) (R C : Nat) (h1 : 1 ≤ R) (h2 : R ≤ 8) (h3 : 1 ≤ C) (h4 : C ≤ 8) (hvF : validB R C (str (rowsB F R C)) = true) (hv : validB R C (str (rowsB E R C)) = true) (w : World) :
    Calls Tryd.prog 40 #[.string ⟨#[120, 111, 114]⟩, mat R C (str (rowsB F R C)), mat R C (str (rowsB E R C))] w fun e w' => e = .returned (.tuple #[mat R C (str (rowsB (joinE xorS F E) R C)), .bool true]) ∧ Below w.heap.size w w' :=
  impl_yes xorS known_xor R C h1 h2 h3 h4 F E _ _ (fun W => grid_yes F R C h1 h2 h3 h4 _ rfl (len_E F h2 h4).2 (len_E F h2 h4).1 hvF W) (fun W => grid_yes E R C h1 h2 h3 h4 _ rfl (len_E E h2 h4).2 (len_E E h2 h4).1 hv W) w

/-- the program's matrix of a protocol, or none -/
theorem mat_impl (s : ByteArray) (hs : s.size ≤ 1048576) (r c : Int) : ∃ (A B : Int) (u : ByteArray) (b : Bool), u.size ≤ maxLen ∧
    (∀ w, Calls Tryd.prog 39 #[.string s, .int .i64 r, .int .i64 c] w fun e w' => e = .returned (.tuple #[mat A B u, .bool b]) ∧ Below w.heap.size w w') := by
  have h0 : (str []).size ≤ maxLen := by unfold maxLen; rw [str_size]; simp
  by_cases hsd : Sides r c
  · obtain ⟨⟨r1, r2⟩, c1, c2⟩ := hsd
    obtain ⟨r', rfl⟩ : ∃ r' : Nat, r = (r' : Int) := ⟨r.toNat, by omega⟩
    obtain ⟨c', rfl⟩ : ∃ c' : Nat, c = (c' : Int) := ⟨c.toNat, by omega⟩
    rcases ok_or s with ⟨t, h1, h2, h3⟩ | h
    · exact ⟨_, _, _, _, (len_E _ (by omega) (by omega)).2, MatI.impl_yes s t h1 h2 h3 r' c' (by omega) (by omega)⟩
    · exact ⟨_, _, _, _, h0, MatI.impl_nil s r' c' (allN r') (allN c') (in_yes s .nilIface (tree_no s h hs) r' c' (by omega) (by omega))⟩
  · exact ⟨_, _, _, _, h0, MatI.impl_nil s r c 0 0 (fun W => in_bad s r c hsd W)⟩
theorem none_mat (s : ByteArray) (hs : s.size ≤ 1048576) (h : ¬ Ok s) (R C : Nat) (h1 : 1 ≤ R) (h2 : R ≤ 8) (h3 : 1 ≤ C) (h4 : C ≤ 8) (w : World) :
    Calls Tryd.prog 39 #[.string s, .int .i64 (R : Int), .int .i64 (C : Int)] w fun e w' => e = .returned (.tuple #[mat 0 0 (str []), .bool false]) ∧ Below w.heap.size w w' :=
  MatI.impl_nil s R C (allN R) (allN C) (in_yes s .nilIface (tree_no s h hs) R C (by omega) (by omega)) w
theorem found_mat (s : ByteArray) (t : T) (hw : wf t) (h : s.data.toList = text t) (hs : s.size ≤ 2000) (r' c' : Nat) (hr : 1 ≤ r' ∧ r' ≤ 8) (hc : 1 ≤ c' ∧ c' ≤ 8) (w : World) :
    Calls Tryd.prog 39 #[.string s, .int .i64 (r' : Int), .int .i64 (c' : Int)] w fun e w' => e = .returned (.tuple #[mat r' c' (str (rowsB (fun x y => (talkT t x y).2) r' c')), .bool true]) ∧ Below w.heap.size w w' := by
  obtain ⟨_, _, p3⟩ := pow_facts r' (by omega)
  obtain ⟨_, _, q3⟩ := pow_facts c' (by omega)
  rw [show rowsB (fun x y => (talkT t x y).2) r' c' = rowsB (fun x y => (fB true (leavesT t (allN r') (allN c')) x).testBit y) r' c' from rowsB_congr fun x y hx hy => by
    rw [fB_bit, covered_talk true t (allN r') (allN c') x y p3 q3 (bit_all hx) (bit_all hy)]
    cases (talkT t x y).2 <;> rfl]
  exact MatI.impl_yes s t hw h hs r' c' hr hc w
/-- a matrix of digits is valid -/
theorem rows_valid (F : Nat → Nat → Bool) (R C : Nat) (h1 : 1 ≤ R) (h2 : R ≤ 8) (h3 : 1 ≤ C) (h4 : C ≤ 8) : validB R C (str (rowsB F R C)) = true := Go.Proofs.YtgfhahlkffagaaaDoor.ColF.valid_rows F R C h1 h2 h3 h4

/-- one number for both sides; it is 0 exactly if the matrix is found -/
theorem err_both (s : ByteArray) (hs : s.size ≤ 1048576) (r c : Int) (ms : ByteArray) (hms : ms.size ≤ maxLen) : ∃ n : Int,
    (∀ w, Calls Tryd.prog 14 #[.string s, mat r c ms] w fun e w' => e = .returned (.int .i64 n) ∧ Below w.heap.size w w') ∧
    (∀ w, Calls Tryd.prog 15 #[.string s, mat r c ms] w fun e w' => e = .returned (.int .i64 n) ∧ Below w.heap.size w w') := by
  by_cases hv : validB r c ms = true
  · obtain ⟨R, C, E, rfl, rfl, h1, h2, h3, h4, rfl⟩ := valid_form hv
    rcases ok_or s with ⟨t, g1, g2, g3⟩ | h
    · have hvF := rows_valid (fun x y => (talkT t x y).2) R C h1 h2 h3 h4
      have hvJ := rows_valid (joinE xorS (fun x y => (talkT t x y).2) E) R C h1 h2 h3 h4
      refine ⟨_, spec_yes s t g1 g2 g3 E R C ⟨h1, h2⟩ ⟨h3, h4⟩ hv, ?_⟩
      have hI := impl_err s R C _ _ _ _ _ _ _ _ _ (len_E _ h2 h4).2 (found_mat s t g1 g2 g3 R C ⟨h1, h2⟩ ⟨h3, h4⟩) (join_two _ E R C h1 h2 h3 h4 hvF hv)
      unfold cntI at hI
      rw [hvJ] at hI
      exact hI
    · refine ⟨-1, spec_no s R C _ hms false (valid_no s h hs) (.inl rfl), ?_⟩
      have hI := impl_err s R C _ _ _ _ _ _ _ _ _ (by unfold maxLen; rw [str_size]; simp) (none_mat s hs h R C h1 h2 h3 h4) (join_none E R C h1 h2 h3 h4 hv)
      rw [zero_cnt] at hI
      exact hI
  · rw [Bool.not_eq_true] at hv
    obtain ⟨A, B, u, b, hu, hM⟩ := mat_impl s hs r c
    have hI := impl_err s r c ms A B u b _ _ _ _ (by unfold maxLen; rw [str_size]; simp) hM (join_bad A B u hu r c ms hms hv)
    rw [zero_cnt] at hI
    rcases ok_or s with ⟨t, g1, g2, g3⟩ | h
    · exact ⟨-1, spec_no s r c ms hms true (valid_said s t g1 g2 g3) (.inr hv), hI⟩
    · exact ⟨-1, spec_no s r c ms hms false (valid_no s h hs) (.inl rfl), hI⟩

set_option maxHeartbeats 1000000 in
theorem comp_impl (s : ByteArray) (r c : Int) (ms : ByteArray) (n : Int) (hI : ∀ w, Calls Tryd.prog 15 #[.string s, mat r c ms] w fun e w' => e = .returned (.int .i64 n) ∧ Below w.heap.size w w') (w : World) :
    Calls Tryd.prog 17 #[.string s, mat r c ms] w fun e w' => e = .returned (.bool (n == 0)) ∧ Below w.heap.size w w' := by
  have HI := Lib.hid hI
  clear hI
  obtain ⟨b, hb⟩ : ∃ b, (n == 0) = b := ⟨_, rfl⟩
  rw [hb]
  have n0 := heap_alloc_new w (.cells #[.int .i64 r, .int .i64 c, .string ms] 27)
  obtain ⟨m0, m1, m2⟩ := cells3 n0
  clear n0
  go_enter Tryd.func17, Tryd.ntmps17
  go_wp2_with fail
  refine (HI.out _).mono ?_
  rintro e w1 ⟨rfl, hb1⟩
  have HB := Lib.hid (((Below.refl w.heap.size w).alloc (Nat.le_refl _) (.cells #[.int .i64 r, .int .i64 c, .string ms] 27)).trans (hb1.mono (by simp)))
  clear hb1
  go_wp2_with fail
  go_ret
  exact ⟨rfl, HB.out⟩
/-- no differences: the same digits -/
theorem no_differ (F E : Nat → Nat → Bool) (r c : Nat) (hc : 1 ≤ c) : ((Lib.countByte (str (rowsB (joinE xorS F E) r c)).data.toList 49 : Nat) : Int) = 0 ↔ str (rowsB F r c) = str (rowsB E r c) := by
  have e1 : (str (rowsB (joinE xorS F E) r c)).data.toList = rowsB (joinE xorS F E) r c := by simp [str]
  rw [e1]
  unfold Lib.countByte
  constructor
  · intro h
    have h0 : (rowsB (joinE xorS F E) r c).count 49 = 0 := by omega
    have hne : ∀ x y, x < r → y < c → F x y = E x y := by
      intro x y hx hy
      have hnm : (49 : UInt8) ∉ rowsB (joinE xorS F E) r c := List.count_eq_zero.1 h0
      apply Classical.byContradiction
      intro hd
      apply hnm
      unfold rowsB
      rw [List.mem_flatMap]
      refine ⟨x, List.mem_range.2 hx, ?_⟩
      unfold rowB
      rw [List.mem_map]
      refine ⟨y, List.mem_range.2 hy, ?_⟩
      unfold joinE
      rw [opB_xor]
      cases hF : F x y <;> cases hE : E x y <;> simp [hF, hE] at hd ⊢ <;> rfl
    rw [rowsB_congr hne]
  · intro h
    have hl : rowsB F r c = rowsB E r c := by
      have := congrArg (fun q : ByteArray => q.data.toList) h
      simpa [str] using this
    have h0 : (rowsB (joinE xorS F E) r c).count 49 = 0 := by
      apply List.count_eq_zero.2
      intro hm
      unfold rowsB at hm
      rw [List.mem_flatMap] at hm
      obtain ⟨x, hx, hm⟩ := hm
      unfold rowB at hm
      rw [List.mem_map] at hm
      obtain ⟨y, hy, hm⟩ := hm
      have hx := List.mem_range.1 hx
      have hy := List.mem_range.1 hy
      have hk : x * c + y < r * c := by
        have h1 : (x + 1) * c ≤ r * c := Nat.mul_le_mul_right c (by omega)
        rw [Nat.add_mul] at h1
        omega
      have b1 : (str (rowsB F r c)).size = r * c := by rw [str_size, rowsB_length]
      have b2 : (str (rowsB E r c)).size = r * c := by rw [str_size, rowsB_length]
      have a1 := byte_xy F r c x y _ rfl hx hy (by omega)
      have a2 := byte_xy E r c x y _ rfl hx hy (by omega)
      have a3 : (str (rowsB F r c))[x * c + y]'(by omega) = (str (rowsB E r c))[x * c + y]'(by omega) := by simp only [h]
      rw [a3, a2] at a1
      unfold joinE at hm
      rw [opB_xor] at hm
      cases hF : F x y <;> cases hE : E x y <;> simp [hF, hE, dig] at a1 hm
    rw [h0]
    rfl

set_option maxHeartbeats 4000000 in
theorem comp_no (s : ByteArray) (r c : Int) (ms : ByteArray) (hms : ms.size ≤ maxLen) (b : Bool) (hV : ∀ W : World, Calls Tryd.prog 36 #[.string s] W fun e w' => e = .returned (.bool b) ∧ W = w') (hb : b = false ∨ validB r c ms = false) (w : World) :
    Calls Tryd.prog 16 #[.string s, mat r c ms] w fun e w' => e = .returned (.bool false) ∧ Below w.heap.size w w' := by
  have HV := Lib.hid hV
  have HM := Lib.hid (fun W => spec_valid r c ms hms W)
  obtain ⟨v, hv⟩ : ∃ v, validB r c ms = v := ⟨_, rfl⟩
  rw [hv] at HM hb
  clear hV hv
  obtain ⟨D, hD⟩ : ∃ D, w.heap.size = D := ⟨_, rfl⟩
  have n0 := heap_alloc_new w (.cells #[.int .i64 r, .int .i64 c, .string ms] 27)
  rw [hD] at n0
  have HN := Lib.hid n0
  have HB0 := Lib.hid ((Below.refl w.heap.size w).alloc (Nat.le_refl _) (.cells #[.int .i64 r, .int .i64 c, .string ms] 27))
  clear n0
  cases b
  · clear HM hb
    go_enter Tryd.func16, Tryd.ntmps16
    go_wp2_with fail
    generalize w.alloc (.cells #[.int .i64 r, .int .i64 c, .string ms] 27) = w1 at *
    refine region_kept (C := fun wx => Below w1.heap.size w1 wx) (drew_at w1) (by kernel_rfl) (by kernel_rfl) ?_
    repeat
      (refine wq_step (fun K hK => ?_)
       go_simp
       first
         | (refine hK _ ?_; clear hK K)
         | (refine hK ?_; clear hK K)
         | (apply Exists.intro
            refine ⟨fun wx hC => ?_, hK _ ?_⟩
            · first
              | with_reducible rfl
              | with_reducible exact ((HV.out wx).mono fun e w' h => ⟨h.1, h.2 ▸ hC⟩)
              | (go_simp; first | done | rfl)
            clear hK K))
    refine wq_nil ?_
    intro w9 hC
    have HB := Lib.hid (HB0.out.trans (hC.mono HB0.out.size))
    clear hC
    go_simp
    go_wp2_with fail
    go_ret
    exact ⟨rfl, HB.out⟩
  · obtain rfl : v = false := by rcases hb with h | h; cases h; exact h
    clear hb
    go_enter Tryd.func16, Tryd.ntmps16
    go_wp2_with fail
    generalize w.alloc (.cells #[.int .i64 r, .int .i64 c, .string ms] 27) = w1 at *
    refine region_kept (C := fun wx => Below w1.heap.size w1 wx) (drew_at w1) (by kernel_rfl) (by kernel_rfl) ?_
    repeat
      (refine wq_step (fun K hK => ?_)
       go_simp
       first
         | (refine hK _ ?_; clear hK K)
         | (refine hK ?_; clear hK K)
         | (apply Exists.intro
            refine ⟨fun wx hC => ?_, hK _ ?_⟩
            · first
              | with_reducible rfl
              | with_reducible exact ((HV.out wx).mono fun e w' h => ⟨h.1, h.2 ▸ hC⟩)
              | with_reducible exact ((HM.out wx).mono fun e w' h => ⟨h.1, hC.trans (h.2.mono hC.size)⟩)
              | (obtain ⟨m0, m1, m2⟩ := cells3 ((hC.block _ (Array.getElem?_eq_some_iff.1 HN.out).1).trans HN.out); go_simp; first | done | rfl)
            clear hK K))
    refine wq_nil ?_
    intro w9 hC
    have HB := Lib.hid (HB0.out.trans (hC.mono HB0.out.size))
    clear hC
    go_simp
    go_wp2_with fail
    go_ret
    exact ⟨rfl, HB.out⟩

set_option maxHeartbeats 8000000 in
theorem comp_yes (s : ByteArray) (t : T) (hw : wf t) (h : s.data.toList = text t) (hs : s.size ≤ 2000) (E : Nat → Nat → Bool) (r c : Nat) (hr : 1 ≤ r ∧ r ≤ 8) (hc : 1 ≤ c ∧ c ≤ 8) (hv : validB r c (str (rowsB E r c)) = true) (b : Bool) (hb : decide (str (rowsB (fun x y => (talkT t x y).2) r c) = str (rowsB E r c)) = b) (w : World) :
    Calls Tryd.prog 16 #[.string s, mat r c (str (rowsB E r c))] w fun e w' => e = .returned (.bool b) ∧ Below w.heap.size w w' := by
  have HV := Lib.hid (valid_said s t hw h hs)
  have hl : (text t).length = s.size := by rw [← h]; simp
  have HM := Lib.hid (fun W => spec_valid r c (str (rowsB E r c)) (len_E E hr.2 hc.2).2 W)
  rw [hv] at HM
  have HF0 := Lib.hid (fun W => said_matrix t hw (by omega) r c hr.2 hc.2 W)
  have e : s = str (text t) := eq_str h
  rw [← e] at HF0
  generalize str (rowsB (fun x y => (talkT t x y).2) r c) = fs at *
  generalize str (rowsB E r c) = ms at *
  unfold mtx at HF0
  obtain ⟨D, hD⟩ : ∃ D, w.heap.size = D := ⟨_, rfl⟩
  have n0 := heap_alloc_new w (.cells #[.int .i64 (r : Int), .int .i64 (c : Int), .string ms] 27)
  rw [hD] at n0
  have HN := Lib.hid n0
  have HB0 := Lib.hid ((Below.refl w.heap.size w).alloc (Nat.le_refl _) (.cells #[.int .i64 (r : Int), .int .i64 (c : Int), .string ms] 27))
  have hq : (fs.toList == ms.toList) = b := by
    rw [← hb, Bool.eq_iff_iff, beq_iff_eq, decide_eq_true_iff]
    exact ⟨fun h => by rw [ByteArray.toList_eq, ByteArray.toList_eq] at h; exact ByteArray.ext (Array.toList_inj.1 h), fun h => by rw [h]⟩
  clear n0 h hl e hw hs hv hb
  cases b
  all_goals
    go_enter Tryd.func16, Tryd.ntmps16
    go_wp2_with fail
    generalize w.alloc (.cells #[.int .i64 (r : Int), .int .i64 (c : Int), .string ms] 27) = w1 at *
    refine region_kept (C := fun wx => Below w1.heap.size w1 wx) (drew_at w1) (by kernel_rfl) (by kernel_rfl) ?_
    repeat
      (refine wq_step (fun K hK => ?_)
       go_simp
       first
         | (refine hK _ ?_; clear hK K)
         | (refine hK ?_; clear hK K)
         | (apply Exists.intro
            refine ⟨fun wx hC => ?_, hK _ ?_⟩
            · first
              | with_reducible rfl
              | with_reducible exact ((HV.out wx).mono fun e w' h => ⟨h.1, h.2 ▸ hC⟩)
              | with_reducible exact ((HM.out wx).mono fun e w' h => ⟨h.1, hC.trans (h.2.mono hC.size)⟩)
              | with_reducible exact ((HF0.out wx).mono fun e w' h => ⟨h.1, hC.trans (h.2.mono hC.size)⟩)
              | (obtain ⟨m0, m1, m2⟩ := cells3 ((hC.block _ (Array.getElem?_eq_some_iff.1 HN.out).1).trans HN.out); go_simp; first | done | rfl)
            clear hK K))
    refine wq_nil ?_
    intro w9 hC
    have HB := Lib.hid (HB0.out.trans (hC.mono HB0.out.size))
    clear hC
    go_simp
    go_wp2_with fail
    go_ret
    exact ⟨rfl, HB.out⟩

theorem comp_both (s : ByteArray) (hs : s.size ≤ 1048576) (r c : Int) (ms : ByteArray) (hms : ms.size ≤ maxLen) : ∃ b : Bool,
    (∀ w, Calls Tryd.prog 16 #[.string s, mat r c ms] w fun e w' => e = .returned (.bool b) ∧ Below w.heap.size w w') ∧
    (∀ w, Calls Tryd.prog 17 #[.string s, mat r c ms] w fun e w' => e = .returned (.bool b) ∧ Below w.heap.size w w') := by
  by_cases hv : validB r c ms = true
  · obtain ⟨R, C, E, rfl, rfl, h1, h2, h3, h4, rfl⟩ := valid_form hv
    rcases ok_or s with ⟨t, g1, g2, g3⟩ | h
    · have hvF := rows_valid (fun x y => (talkT t x y).2) R C h1 h2 h3 h4
      have hvJ := rows_valid (joinE xorS (fun x y => (talkT t x y).2) E) R C h1 h2 h3 h4
      have hI := impl_err s R C _ _ _ _ _ _ _ _ _ (len_E _ h2 h4).2 (found_mat s t g1 g2 g3 R C ⟨h1, h2⟩ ⟨h3, h4⟩) (join_two _ E R C h1 h2 h3 h4 hvF hv)
      unfold cntI at hI
      rw [hvJ] at hI
      have hz := no_differ (fun x y => (talkT t x y).2) E R C h3
      refine ⟨_, comp_yes s t g1 g2 g3 E R C ⟨h1, h2⟩ ⟨h3, h4⟩ hv _ ?_, comp_impl s R C _ _ hI⟩
      rw [Bool.eq_iff_iff, beq_iff_eq, decide_eq_true_iff]
      exact hz.symm
    · have hI := impl_err s R C _ _ _ _ _ _ _ _ _ (by unfold maxLen; rw [str_size]; simp) (none_mat s hs h R C h1 h2 h3 h4) (join_none E R C h1 h2 h3 h4 hv)
      rw [zero_cnt] at hI
      exact ⟨false, comp_no s R C _ hms false (valid_no s h hs) (.inl rfl), comp_impl s R C _ (-1) hI⟩
  · rw [Bool.not_eq_true] at hv
    obtain ⟨A, B, u, b, hu, hM⟩ := mat_impl s hs r c
    have hI := impl_err s r c ms A B u b _ _ _ _ (by unfold maxLen; rw [str_size]; simp) hM (join_bad A B u hu r c ms hms hv)
    rw [zero_cnt] at hI
    rcases ok_or s with ⟨t, g1, g2, g3⟩ | h
    · exact ⟨false, comp_no s r c ms hms true (valid_said s t g1 g2 g3) (.inr hv), comp_impl s r c ms (-1) hI⟩
    · exact ⟨false, comp_no s r c ms hms false (valid_no s h hs) (.inl rfl), comp_impl s r c ms (-1) hI⟩
end Go.Proofs.YtgfhahlkffagaaaDoor.ErrB
