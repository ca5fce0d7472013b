/-
  Texts of one seat, joined: ColF, ErrB, CompM, BaLaw.
-/
import Derived.Test.YtbbgibbpeibhiaaGreatDoorJn1
import Derived.Test.YtbbgibbpeibhiaaGreatDoorJn25
import Derived.Test.YtbbgibbpeibhiaaGreatDoorJn16
import Derived.Test.YtbbgibbpeibhiaaGreatDoorJn17
import Derived.Test.YtbbgibbpeibhiaaGreatDoorJn24
import Derived.Test.YtbbgibbpeibhiaaGreatDoorJn4
import Derived.Test.YtbbgibbpeibhiaaGreatDoorJn8
import Derived.Test.YtbbgibbpeibhiaaGreatDoorJn18
import Derived.Test.YtbbgibbpeibhiaaGreatDoorJn21
import Derived.Test.YtbbgibbpeibhiaaGreatDoorJn20
import Derived.Test.YtbbgibbpeibhiaaGreatDoorJn22
import Derived.Test.YtbbgibbpeibhiaaGreatDoorJn11
/-
  What the functions of a valid matrix and a rectangle of it answer, told by the entries.
-/
namespace Go.Proofs.YtbbgibbpeibhiaaGreatDoor.ColF
open Go.RowKit Go.Proofs.YtbbgibbpeibhiaaGreatDoor.Plain Go.Proofs.YtbbgibbpeibhiaaGreatDoor.Base Go.Proofs.YtbbgibbpeibhiaaGreatDoor.Valid Go.Proofs.YtbbgibbpeibhiaaGreatDoor.Law Go.Proofs.YtbbgibbpeibhiaaGreatDoor.GridPlain Go.Proofs.YtbbgibbpeibhiaaGreatDoor.Grid Go.Proofs.YtbbgibbpeibhiaaGreatDoor.Entry Go.Proofs.YtbbgibbpeibhiaaGreatDoor.Pat Go.Proofs.YtbbgibbpeibhiaaGreatDoor.Rect Go.Proofs.YtbbgibbpeibhiaaGreatDoor.Patch Go.Proofs.YtbbgibbpeibhiaaGreatDoor.FreeL Go.Proofs.YtbbgibbpeibhiaaGreatDoor.Board Go.Proofs.YtbbgibbpeibhiaaGreatDoor.BoardM Go.Proofs.YtbbgibbpeibhiaaGreatDoor.RValid Go.Proofs.YtbbgibbpeibhiaaGreatDoor.Area Go.Proofs.YtbbgibbpeibhiaaGreatDoor.Bal Go.Proofs.YtbbgibbpeibhiaaGreatDoor.Colour Go.Proofs.YtbbgibbpeibhiaaGreatDoor.Clos Go.Proofs.YtbbgibbpeibhiaaGreatDoor.SpecTO
set_option linter.unusedVariables false
set_option linter.unusedSectionVars false

theorem valid_rows (E : Nat → Nat → Bool) (R C : Nat) (h1 : 1 ≤ R) (h2 : R ≤ 8) (h3 : 1 ≤ C) (h4 : C ≤ 8) : validB R C (str (rowsB E R C)) = true := by
  rw [validB_in (by omega) (by omega) (by omega) (by omega)]
  have : okB (str (rowsB E R C)) = true := okB_true fun j hj => by
    have hj' : j < R * C := by rw [str_size, rowsB_length] at hj; exact hj
    rw [str_get _ j _ (rowsB_get E R C j hj') hj]
    cases E (j / C) (j % C) <;> rfl
  rw [this, Bool.true_and, str_size, rowsB_length]
  simp
theorem rows_small (E : Nat → Nat → Bool) (R C : Nat) (h2 : R ≤ 8) (h4 : C ≤ 8) : (str (rowsB E R C)).size ≤ 64 := by rw [str_size, rowsB_length]; exact prod_le h2 h4
theorem rows_max (E : Nat → Nat → Bool) (R C : Nat) (h2 : R ≤ 8) (h4 : C ≤ 8) : (str (rowsB E R C)).size ≤ maxLen := by
  have := rows_small E R C h2 h4
  unfold maxLen
  omega
theorem rv_yes (R C : Nat) (h2 : R ≤ 8) (h4 : C ≤ 8) (RS CS : Nat) (k1 : 1 ≤ RS) (k2 : RS < 2 ^ R) (k3 : 1 ≤ CS) (k4 : CS < 2 ^ C) : rvB R C RS CS = true := by
  unfold rvB
  rw [Bool.and_eq_true, decide_eq_true_iff, decide_eq_true_iff]
  have e1 : ((2 ^ R : Nat) : Int) = 2 ^ R := by simp
  have e2 : ((2 ^ C : Nat) : Int) = 2 ^ C := by simp
  omega
section
variable (E : Nat → Nat → Bool) (R C : Nat) (h1 : 1 ≤ R) (h2 : R ≤ 8) (h3 : 1 ≤ C) (h4 : C ≤ 8) (RS CS : Nat) (k1 : 1 ≤ RS) (k2 : RS < 2 ^ R) (k3 : 1 ≤ CS) (k4 : CS < 2 ^ C) (k5 : RS < 256) (k6 : CS < 256)
include h1 h2 h3 h4 k1 k2 k3 k4 k5 k6
end

end Go.Proofs.YtbbgibbpeibhiaaGreatDoor.ColF

/-
  ErrorsOf and Computes: one result for the program and the reference.
-/
namespace Go.Proofs.YtbbgibbpeibhiaaGreatDoor.ErrB
open Go.RowKit Go.Shelf Go.Proofs.YtbbgibbpeibhiaaGreatDoor.Plain Go.Proofs.YtbbgibbpeibhiaaGreatDoor.Base Go.Proofs.YtbbgibbpeibhiaaGreatDoor.Valid Go.Proofs.YtbbgibbpeibhiaaGreatDoor.Entry Go.Proofs.YtbbgibbpeibhiaaGreatDoor.Grid Go.Proofs.YtbbgibbpeibhiaaGreatDoor.Tree Go.Proofs.YtbbgibbpeibhiaaGreatDoor.Read Go.Proofs.YtbbgibbpeibhiaaGreatDoor.TreeOf Go.Proofs.YtbbgibbpeibhiaaGreatDoor.TreeIn Go.Proofs.YtbbgibbpeibhiaaGreatDoor.FreeL Go.Proofs.YtbbgibbpeibhiaaGreatDoor.Talk Go.Proofs.YtbbgibbpeibhiaaGreatDoor.Join Go.Proofs.YtbbgibbpeibhiaaGreatDoor.JoinI Go.Proofs.YtbbgibbpeibhiaaGreatDoor.Ops Go.Proofs.YtbbgibbpeibhiaaGreatDoor.ErrW Go.Proofs.YtbbgibbpeibhiaaGreatDoor.MatP Go.Proofs.YtbbgibbpeibhiaaGreatDoor.MatT Go.Proofs.YtbbgibbpeibhiaaGreatDoor.Leaf
open Go.Proofs.YtbbgibbpeibhiaaGreatDoor.Wq (WQ wq_step wq_nil region_kept drew_at)
open Go.Proofs.YtbbgibbpeibhiaaGreatDoor.SaidMat (mtx)
open Go.Proofs.YtbbgibbpeibhiaaGreatDoor.fnExactCountOnes (cntI)
open Go.Proofs.YtbbgibbpeibhiaaGreatDoor.fnExactMatrixOf (bit_all)
set_option linter.unusedVariables false
set_option linter.unusedSimpArgs false
set_option maxRecDepth 100000

theorem len_E (E : Nat → Nat → Bool) {R C : Nat} (h2 : R ≤ 8) (h4 : C ≤ 8) : (str (rowsB E R C)).size ≤ 64 ∧ (str (rowsB E R C)).size ≤ maxLen := by
  have : (str (rowsB E R C)).size ≤ 64 := by rw [str_size, rowsB_length]; exact prod_le h2 h4
  exact ⟨this, by unfold maxLen; omega⟩
/-- a matrix that is none with any other one -/
theorem join_bad (A B : Int) (u : ByteArray) (hu : u.size ≤ maxLen) (r c : Int) (ms : ByteArray) (hms : ms.size ≤ maxLen) (hbad : validB r c ms = false) (w : World) :
    Calls Tryz.prog 46 #[.string ⟨#[120, 111, 114]⟩, mat A B u, mat r c ms] w fun e w' => e = .returned (.tuple #[mat 0 0 (str []), .bool false]) ∧ Below w.heap.size w w' := by
  have hg2 := fun W => grid_no r c ms hms hbad W
  by_cases hv : validB A B u = true
  · obtain ⟨R, C, E, rfl, rfl, h1, h2, h3, h4, rfl⟩ := valid_form hv
    have hg1 := fun W => grid_yes E R C h1 h2 h3 h4 _ rfl hu (len_E E h2 h4).1 hv W
    exact impl_differ1 xorS known_xor _ _ _ _ _ _ _ _ _ _ _ _ (by omega) hg1 hg2 w
  · rw [Bool.not_eq_true] at hv
    exact impl_zero xorS known_xor _ _ _ _ _ _ _ _ (fun W => grid_no A B u hu hv W) hg2 w
theorem zero_bad : validB 0 0 (str []) = false := by unfold validB; simp
theorem join_none (E : Nat → Nat → Bool) (R C : Nat) (h1 : 1 ≤ R) (h2 : R ≤ 8) (h3 : 1 ≤ C) (h4 : C ≤ 8) (hv : validB R C (str (rowsB E R C)) = true) (w : World) :
    Calls Tryz.prog 46 #[.string ⟨#[120, 111, 114]⟩, mat 0 0 (str []), mat R C (str (rowsB E R C))] w fun e w' => e = .returned (.tuple #[mat 0 0 (str []), .bool false]) ∧ Below w.heap.size w w' := by
  have hg2 := fun W => grid_yes E R C h1 h2 h3 h4 _ rfl (len_E E h2 h4).2 (len_E E h2 h4).1 hv W
  exact impl_differ1 xorS known_xor _ _ _ _ _ _ _ _ _ _ _ _ (by omega) (fun W => grid_no 0 0 (str []) (by unfold maxLen; rw [str_size]; simp) zero_bad W) hg2 w
theorem join_two (F E : Nat → Nat → Bool) (R C : Nat) (h1 : 1 ≤ R) (h2 : R ≤ 8) (h3 : 1 ≤ C) (h4 : C ≤ 8) (hvF : validB R C (str (rowsB F R C)) = true) (hv : validB R C (str (rowsB E R C)) = true) (w : World) :
    Calls Tryz.prog 46 #[.string ⟨#[120, 111, 114]⟩, mat R C (str (rowsB F R C)), mat R C (str (rowsB E R C))] w fun e w' => e = .returned (.tuple #[mat R C (str (rowsB (joinE xorS F E) R C)), .bool true]) ∧ Below w.heap.size w w' :=
  impl_yes xorS known_xor R C h1 h2 h3 h4 F E _ _ (fun W => grid_yes F R C h1 h2 h3 h4 _ rfl (len_E F h2 h4).2 (len_E F h2 h4).1 hvF W) (fun W => grid_yes E R C h1 h2 h3 h4 _ rfl (len_E E h2 h4).2 (len_E E h2 h4).1 hv W) w

/-- the program's matrix of a protocol, or none -/
theorem mat_impl (s : ByteArray) (hs : s.size ≤ 1048576) (r c : Int) : ∃ (A B : Int) (u : ByteArray) (b : Bool), u.size ≤ maxLen ∧
    (∀ w, Calls Tryz.prog 7 #[.string s, .int .i64 r, .int .i64 c] w fun e w' => e = .returned (.tuple #[mat A B u, .bool b]) ∧ Below w.heap.size w w') := by
  have h0 : (str []).size ≤ maxLen := by unfold maxLen; rw [str_size]; simp
  by_cases hsd : Sides r c
  · obtain ⟨⟨r1, r2⟩, c1, c2⟩ := hsd
    obtain ⟨r', rfl⟩ : ∃ r' : Nat, r = (r' : Int) := ⟨r.toNat, by omega⟩
    obtain ⟨c', rfl⟩ : ∃ c' : Nat, c = (c' : Int) := ⟨c.toNat, by omega⟩
    rcases ok_or s with ⟨t, h1, h2, h3⟩ | h
    · exact ⟨_, _, _, _, (len_E _ (by omega) (by omega)).2, MatI.impl_yes s t h1 h2 h3 r' c' (by omega) (by omega)⟩
    · exact ⟨_, _, _, _, h0, MatI.impl_nil s r' c' (allN r') (allN c') (in_yes s .nilIface (tree_no s h hs) r' c' (by omega) (by omega))⟩
  · exact ⟨_, _, _, _, h0, MatI.impl_nil s r c 0 0 (fun W => in_bad s r c hsd W)⟩
theorem none_mat (s : ByteArray) (hs : s.size ≤ 1048576) (h : ¬ Ok s) (R C : Nat) (h1 : 1 ≤ R) (h2 : R ≤ 8) (h3 : 1 ≤ C) (h4 : C ≤ 8) (w : World) :
    Calls Tryz.prog 7 #[.string s, .int .i64 (R : Int), .int .i64 (C : Int)] w fun e w' => e = .returned (.tuple #[mat 0 0 (str []), .bool false]) ∧ Below w.heap.size w w' :=
  MatI.impl_nil s R C (allN R) (allN C) (in_yes s .nilIface (tree_no s h hs) R C (by omega) (by omega)) w
theorem found_mat (s : ByteArray) (t : T) (hw : wf t) (h : s.data.toList = text t) (hs : s.size ≤ 2000) (r' c' : Nat) (hr : 1 ≤ r' ∧ r' ≤ 8) (hc : 1 ≤ c' ∧ c' ≤ 8) (w : World) :
    Calls Tryz.prog 7 #[.string s, .int .i64 (r' : Int), .int .i64 (c' : Int)] w fun e w' => e = .returned (.tuple #[mat r' c' (str (rowsB (fun x y => (talkT t x y).2) r' c')), .bool true]) ∧ Below w.heap.size w w' := by
  obtain ⟨_, _, p3⟩ := pow_facts r' (by omega)
  obtain ⟨_, _, q3⟩ := pow_facts c' (by omega)
  rw [show rowsB (fun x y => (talkT t x y).2) r' c' = rowsB (fun x y => (fB true (leavesT t (allN r') (allN c')) x).testBit y) r' c' from rowsB_congr fun x y hx hy => by
    rw [fB_bit, covered_talk true t (allN r') (allN c') x y p3 q3 (bit_all hx) (bit_all hy)]
    cases (talkT t x y).2 <;> rfl]
  exact MatI.impl_yes s t hw h hs r' c' hr hc w
/-- a matrix of digits is valid -/
theorem rows_valid (F : Nat → Nat → Bool) (R C : Nat) (h1 : 1 ≤ R) (h2 : R ≤ 8) (h3 : 1 ≤ C) (h4 : C ≤ 8) : validB R C (str (rowsB F R C)) = true := Go.Proofs.YtbbgibbpeibhiaaGreatDoor.ColF.valid_rows F R C h1 h2 h3 h4

set_option maxHeartbeats 1000000 in
theorem comp_impl (s : ByteArray) (r c : Int) (ms : ByteArray) (n : Int) (hI : ∀ w, Calls Tryz.prog 33 #[.string s, mat r c ms] w fun e w' => e = .returned (.int .i64 n) ∧ Below w.heap.size w w') (w : World) :
    Calls Tryz.prog 10 #[.string s, mat r c ms] w fun e w' => e = .returned (.bool (n == 0)) ∧ Below w.heap.size w w' := by
  have HI := Lib.hid hI
  clear hI
  obtain ⟨b, hb⟩ : ∃ b, (n == 0) = b := ⟨_, rfl⟩
  rw [hb]
  have n0 := heap_alloc_new w (.cells #[.int .i64 r, .int .i64 c, .string ms] 28)
  obtain ⟨m0, m1, m2⟩ := cells3 n0
  clear n0
  go_enter Tryz.func10, Tryz.ntmps10
  go_wp2_with fail
  refine (HI.out _).mono ?_
  rintro e w1 ⟨rfl, hb1⟩
  have HB := Lib.hid (((Below.refl w.heap.size w).alloc (Nat.le_refl _) (.cells #[.int .i64 r, .int .i64 c, .string ms] 28)).trans (hb1.mono (by simp)))
  clear hb1
  go_wp2_with fail
  go_ret
  exact ⟨rfl, HB.out⟩
/-- no differences: the same digits -/
theorem no_differ (F E : Nat → Nat → Bool) (r c : Nat) (hc : 1 ≤ c) : ((Lib.countByte (str (rowsB (joinE xorS F E) r c)).data.toList 49 : Nat) : Int) = 0 ↔ str (rowsB F r c) = str (rowsB E r c) := by
  have e1 : (str (rowsB (joinE xorS F E) r c)).data.toList = rowsB (joinE xorS F E) r c := by simp [str]
  rw [e1]
  unfold Lib.countByte
  constructor
  · intro h
    have h0 : (rowsB (joinE xorS F E) r c).count 49 = 0 := by omega
    have hne : ∀ x y, x < r → y < c → F x y = E x y := by
      intro x y hx hy
      have hnm : (49 : UInt8) ∉ rowsB (joinE xorS F E) r c := List.count_eq_zero.1 h0
      apply Classical.byContradiction
      intro hd
      apply hnm
      unfold rowsB
      rw [List.mem_flatMap]
      refine ⟨x, List.mem_range.2 hx, ?_⟩
      unfold rowB
      rw [List.mem_map]
      refine ⟨y, List.mem_range.2 hy, ?_⟩
      unfold joinE
      rw [opB_xor]
      cases hF : F x y <;> cases hE : E x y <;> simp [hF, hE] at hd ⊢ <;> rfl
    rw [rowsB_congr hne]
  · intro h
    have hl : rowsB F r c = rowsB E r c := by
      have := congrArg (fun q : ByteArray => q.data.toList) h
      simpa [str] using this
    have h0 : (rowsB (joinE xorS F E) r c).count 49 = 0 := by
      apply List.count_eq_zero.2
      intro hm
      unfold rowsB at hm
      rw [List.mem_flatMap] at hm
      obtain ⟨x, hx, hm⟩ := hm
      unfold rowB at hm
      rw [List.mem_map] at hm
      obtain ⟨y, hy, hm⟩ := hm
      have hx := List.mem_range.1 hx
      have hy := List.mem_range.1 hy
      have hk : x * c + y < r * c := by
        have h1 : (x + 1) * c ≤ r * c := Nat.mul_le_mul_right c (by omega)
        rw [Nat.add_mul] at h1
        omega
      have b1 : (str (rowsB F r c)).size = r * c := by rw [str_size, rowsB_length]
      have b2 : (str (rowsB E r c)).size = r * c := by rw [str_size, rowsB_length]
      have a1 := byte_xy F r c x y _ rfl hx hy (by omega)
      have a2 := byte_xy E r c x y _ rfl hx hy (by omega)
      have a3 : (str (rowsB F r c))[x * c + y]'(by omega) = (str (rowsB E r c))[x * c + y]'(by omega) := by simp only [h]
      rw [a3, a2] at a1
      unfold joinE at hm
      rw [opB_xor] at hm
      cases hF : F x y <;> cases hE : E x y <;> simp [hF, hE, dig] at a1 hm
    rw [h0]
    rfl

end Go.Proofs.YtbbgibbpeibhiaaGreatDoor.ErrB

/-
  Computes of the program where the matrix is the one that is found.
-/
namespace Go.Proofs.YtbbgibbpeibhiaaGreatDoor.CompM
open Go.RowKit Go.Shelf Go.Proofs.YtbbgibbpeibhiaaGreatDoor.Plain Go.Proofs.YtbbgibbpeibhiaaGreatDoor.Base Go.Proofs.YtbbgibbpeibhiaaGreatDoor.Valid Go.Proofs.YtbbgibbpeibhiaaGreatDoor.Entry Go.Proofs.YtbbgibbpeibhiaaGreatDoor.Grid Go.Proofs.YtbbgibbpeibhiaaGreatDoor.Tree Go.Proofs.YtbbgibbpeibhiaaGreatDoor.Read Go.Proofs.YtbbgibbpeibhiaaGreatDoor.TreeOf Go.Proofs.YtbbgibbpeibhiaaGreatDoor.TreeIn Go.Proofs.YtbbgibbpeibhiaaGreatDoor.FreeL Go.Proofs.YtbbgibbpeibhiaaGreatDoor.Talk Go.Proofs.YtbbgibbpeibhiaaGreatDoor.Join Go.Proofs.YtbbgibbpeibhiaaGreatDoor.JoinI Go.Proofs.YtbbgibbpeibhiaaGreatDoor.Ops Go.Proofs.YtbbgibbpeibhiaaGreatDoor.ErrW Go.Proofs.YtbbgibbpeibhiaaGreatDoor.ErrB Go.Proofs.YtbbgibbpeibhiaaGreatDoor.MatP Go.Proofs.YtbbgibbpeibhiaaGreatDoor.MatT Go.Proofs.YtbbgibbpeibhiaaGreatDoor.Leaf
open Go.Proofs.YtbbgibbpeibhiaaGreatDoor.fnExactCountOnes (cntI)
set_option linter.unusedVariables false

theorem comp_true (s : ByteArray) (t : T) (g1 : wf t) (g2 : s.data.toList = text t) (g3 : s.size ≤ 2000) (E : Nat → Nat → Bool) (R C : Nat) (h1 : 1 ≤ R) (h2 : R ≤ 8) (h3 : 1 ≤ C) (h4 : C ≤ 8)
    (hE : ∀ x y, x < R → y < C → (talkT t x y).2 = E x y) (w : World) :
    Calls Tryz.prog 10 #[.string s, mat R C (str (rowsB E R C))] w fun e w' => e = .returned (.bool true) ∧ Below w.heap.size w w' := by
  have hq : rowsB (fun x y => (talkT t x y).2) R C = rowsB E R C := rowsB_congr hE
  rw [← hq]
  have hvF := rows_valid (fun x y => (talkT t x y).2) R C h1 h2 h3 h4
  have hvJ := rows_valid (joinE xorS (fun x y => (talkT t x y).2) (fun x y => (talkT t x y).2)) R C h1 h2 h3 h4
  have hI := impl_err s R C _ _ _ _ _ _ _ _ _ (len_E _ h2 h4).2 (found_mat s t g1 g2 g3 R C ⟨h1, h2⟩ ⟨h3, h4⟩) (join_two _ _ R C h1 h2 h3 h4 hvF hvF)
  unfold cntI at hI
  rw [hvJ] at hI
  have hz := (no_differ (fun x y => (talkT t x y).2) (fun x y => (talkT t x y).2) R C h3).2 rfl
  have hc := comp_impl s R C _ 0 (fun W => (hI W).mono fun e w' h => ⟨by rw [h.1, ← hz]; rfl, h.2⟩) w
  exact hc
end Go.Proofs.YtbbgibbpeibhiaaGreatDoor.CompM

/-
  The walk of the drawn law on BalanceProtocol.
-/
namespace Go.Proofs.YtbbgibbpeibhiaaGreatDoor.fnBalance
open Go.RowKit Go.Shelf Go.Proofs.YtbbgibbpeibhiaaGreatDoor.Plain Go.Proofs.YtbbgibbpeibhiaaGreatDoor.Base Go.Proofs.YtbbgibbpeibhiaaGreatDoor.Tree Go.Proofs.YtbbgibbpeibhiaaGreatDoor.Read Go.Proofs.YtbbgibbpeibhiaaGreatDoor.Rect Go.Proofs.YtbbgibbpeibhiaaGreatDoor.Parts Go.Proofs.YtbbgibbpeibhiaaGreatDoor.TreeOf Go.Proofs.YtbbgibbpeibhiaaGreatDoor.TreeIn Go.Proofs.YtbbgibbpeibhiaaGreatDoor.TrimT Go.Proofs.YtbbgibbpeibhiaaGreatDoor.FreeL Go.Proofs.YtbbgibbpeibhiaaGreatDoor.Talk Go.Proofs.YtbbgibbpeibhiaaGreatDoor.Rd Go.Proofs.YtbbgibbpeibhiaaGreatDoor.CutT Go.Proofs.YtbbgibbpeibhiaaGreatDoor.TnM Go.Proofs.YtbbgibbpeibhiaaGreatDoor.BalT Go.Proofs.YtbbgibbpeibhiaaGreatDoor.Kept
open Go.Proofs.YtbbgibbpeibhiaaGreatDoor.HvI (trimmed_yes trimmed_nil)
open Go.Proofs.YtbbgibbpeibhiaaGreatDoor.fnExactBalanceProtocol (balV bal_len)
open Go.Proofs.YtbbgibbpeibhiaaGreatDoor.CompM (comp_true)
open Go.Proofs.YtbbgibbpeibhiaaGreatDoor.ErrB (found_mat)
open Go.Proofs.YtbbgibbpeibhiaaGreatDoor.Rd5 (cells3)
open Go.Proofs.YtbbgibbpeibhiaaGreatDoor.FreeH (wp_region_relsH)
open Go.Proofs.YtbbgibbpeibhiaaGreatDoor.NodeH (eval_get)
open Go.Proofs.YtbbgibbpeibhiaaGreatDoor.DrawB5 (wp_made)
open Go.Proofs.YtbbgibbpeibhiaaGreatDoor.Free (fill wp_value wp_enter wp_load_row)
set_option linter.unusedVariables false
set_option linter.unusedSimpArgs false

/-- which arguments there are: both answer none, or it is a protocol with few ends, and sides -/
theorem cases (s : ByteArray) (hs : s.size ≤ 1048576) (r c : Int) :
    ((∀ w, Calls Tryz.prog 5 #[.string s, .int .i64 r, .int .i64 c] w fun e w' => e = .returned (.tuple #[.string (str []), .bool false]) ∧ Below w.heap.size w w') ∧
     (∀ w, Calls Tryz.prog 6 #[.string s, .int .i64 r, .int .i64 c] w fun e w' => e = .returned (.tuple #[.string (str []), .bool false]) ∧ Below w.heap.size w w')) ∨
    (∃ (t : T) (r' c' : Nat), r = (r' : Int) ∧ c = (c' : Int) ∧ wf t ∧ s.data.toList = text t ∧ s.size ≤ 2000 ∧ (1 ≤ r' ∧ r' ≤ 8) ∧ (1 ≤ c' ∧ c' ≤ 8) ∧ ends (trimT t (allN r') (allN c')) ≤ 16 ∧
      (∀ w, Calls Tryz.prog 5 #[.string s, .int .i64 (r' : Int), .int .i64 (c' : Int)] w fun e w' => e = .returned (.tuple #[.string (str (text (trimT (balI 16 (trimT t (allN r') (allN c')) (allN r') (allN c')) (allN r') (allN c')))), .bool true]) ∧ Below w.heap.size w w') ∧
      (∀ w, Calls Tryz.prog 6 #[.string s, .int .i64 (r' : Int), .int .i64 (c' : Int)] w fun e w' => e = .returned (.tuple #[.string (str (text (trimT (balI 16 (trimT t (allN r') (allN c')) (allN r') (allN c')) (allN r') (allN c')))), .bool true]) ∧ Below w.heap.size w w')) := by
  by_cases hsd : Sides r c
  · obtain ⟨⟨r1, r2⟩, c1, c2⟩ := hsd
    obtain ⟨r', rfl⟩ : ∃ r' : Nat, r = (r' : Int) := ⟨r.toNat, by omega⟩
    obtain ⟨c', rfl⟩ : ∃ c' : Nat, c = (c' : Int) := ⟨c.toNat, by omega⟩
    have hr : 1 ≤ r' ∧ r' ≤ 8 := by omega
    have hc : 1 ≤ c' ∧ c' ≤ 8 := by omega
    obtain ⟨_, p2, p3⟩ := pow_facts r' hr
    obtain ⟨_, q2, q3⟩ := pow_facts c' hc
    rcases ok_or s with ⟨t, h1, h2, h3⟩ | h
    · have hl : (text (trimT t (allN r') (allN c'))).length ≤ 2000 := by
        have e1 := trim_length t (allN r') (allN c')
        have e2 : (text t).length = s.size := by rw [← h2]; simp
        omega
      have ht := trim_tight t _ _ p3 q3 p2 q2
      have hS := fnExactBalanceProtocol.spec_yes s t h1 h2 h3 r' c' hr hc
      have hI := fnExactBalanceProtocol.impl_some s r' c' _ (trim_wf t _ _ p3 q3 h1) hl _ _ p3 q3 p2 q2 ht (trimmed_yes s t h1 h2 h3 r' c' hr hc)
      unfold balV at hS hI
      by_cases he : 16 < ends (trimT t (allN r') (allN c'))
      · rw [if_pos he] at hS hI
        exact .inl ⟨hI, hS⟩
      · rw [if_neg he, ← bal_same 16 _ _ _ _ _ p3 q3 p2 q2 ht (Sub.refl _) (Sub.refl _) p3 q3 p2 q2] at hS hI
        exact .inr ⟨t, r', c', rfl, rfl, h1, h2, h3, hr, hc, by omega, hI, hS⟩
    · exact .inl ⟨fnExactBalanceProtocol.impl_nil s r' c' 0 0 (trimmed_nil s r' c' _ _ (in_yes s .nilIface (tree_no s h hs) r' c' hr hc)), fnExactBalanceProtocol.spec_no s false (valid_no s h hs) r' c' (.inl rfl)⟩
  · have hi := fnExactBalanceProtocol.impl_nil s r c 0 0 (trimmed_nil s r c 0 0 (fun W => in_bad s r c hsd W))
    rcases ok_or s with ⟨t, h1, h2, h3⟩ | h
    · exact .inl ⟨hi, fnExactBalanceProtocol.spec_no s true (valid_said s t h1 h2 h3) r c (.inr hsd)⟩
    · exact .inl ⟨hi, fnExactBalanceProtocol.spec_no s false (valid_no s h hs) r c (.inl rfl)⟩
theorem minfo : (Tryz.prog.info? 28).map (·.size) = some 3 := by kernel_rfl
theorem lit_cell (w : World) (n : Nat) (hn : n ≤ 16) : (w.alloc (.cells #[.int .i64 0, .int .i64 0, .int .i64 1, .int .i64 3, .int .i64 5, .int .i64 7, .int .i64 7, .int .i64 9, .int .i64 9, .int .i64 9, .int .i64 11, .int .i64 11, .int .i64 11, .int .i64 11, .int .i64 13, .int .i64 13, .int .i64 13] 3)).cell? ⟨w.heap.size, n, none⟩ = some (.int .i64 (tab n : Int)) := by
  refine (cell_of_row _ _ n _ _ _ (heap_alloc_new w _)).trans ?_
  have h : ∀ m : Fin 17, (#[.int .i64 0, .int .i64 0, .int .i64 1, .int .i64 3, .int .i64 5, .int .i64 7, .int .i64 7, .int .i64 9, .int .i64 9, .int .i64 9, .int .i64 11, .int .i64 11, .int .i64 11, .int .i64 11, .int .i64 13, .int .i64 13, .int .i64 13] : Array Value)[m.1]? = some (.int .i64 (tab m.1 : Int)) := by
    intro m
    obtain ⟨m, hm⟩ := m
    simp only
    match m, hm with
    | 0, _ => rfl
    | 1, _ => rfl
    | 2, _ => rfl
    | 3, _ => rfl
    | 4, _ => rfl
    | 5, _ => rfl
    | 6, _ => rfl
    | 7, _ => rfl
    | 8, _ => rfl
    | 9, _ => rfl
    | 10, _ => rfl
    | 11, _ => rfl
    | 12, _ => rfl
    | 13, _ => rfl
    | 14, _ => rfl
    | 15, _ => rfl
    | 16, _ => rfl
    | q + 17, h => omega
  exact h ⟨n, by omega⟩

set_option maxHeartbeats 8000000 in
set_option maxRecDepth 100000 in
theorem walk (v : Value) (n : Nat) (w : World) (h : ByteArg w v n) :
    Calls Tryz.prog 3 #[v] w fun e w' => e = .returned (.bool true) ∧ Below w.heap.size w w' := by
  obtain ⟨hn0, a, cap, rfl, hc, hb0⟩ := id h
  clear hb0
  have HD := Lib.hid (DrawBal.draw_bal _ n w h)
  clear h
  by_cases hbig : 1048576 < n
  · have hbi : (1048576 : Int) < (n : Int) := by omega
    go_enter Tryz.func3, Tryz.ntmps3
    go_wp2_with fail
    go_ret
    exact ⟨rfl, Below.refl _ _⟩
  · have hbi : ¬ (1048576 : Int) < (n : Int) := by omega
    go_enter Tryz.func3, Tryz.ntmps3
    go_wp2_with fail
    refine HD.out.mono ?_
    rintro e w1 ⟨s, r, c, rfl, hs, -, -, hb⟩
    have hcase := cases s (by omega) r c
    have HK1 := Lib.hid ((Kp.nil w).later hb)
    clear HD hbig hbi hb
    rcases hcase with ⟨hti, hts⟩ | ⟨t, r, c, rfl, rfl, g1, g2, g3, hr, hc, h16, hti, hts⟩
    · have HTI := Lib.hid hti
      have HTS := Lib.hid hts
      clear hti hts hs
      generalize str [] = z at *
      go_wp2_with fail
      refine (HTI.out _).mono ?_
      rintro e w2 ⟨rfl, hb2⟩
      have HK2 := Lib.hid (HK1.out.later hb2)
      clear hb2 HK1
      go_wp2_with fail
      refine (HTS.out _).mono ?_
      rintro e w3 ⟨rfl, hb3⟩
      have HK3 := Lib.hid (HK2.out.later hb3)
      clear hb3 HK2
      go_wp2_with fail
      go_ret
      exact ⟨rfl, HK3.out.below⟩
    · obtain ⟨_, p2, p3⟩ := pow_facts r hr
      obtain ⟨_, q2, q3⟩ := pow_facts c hc
      have hl : (text t).length = s.size := by rw [← g2]; simp
      have wu := trim_wf t (allN r) (allN c) p3 q3 g1
      have tu := trim_tight t _ _ p3 q3 p2 q2
      have lu : (str (text (trimT t (allN r) (allN c)))).size ≤ 2000 := by
        have := trim_length t (allN r) (allN c)
        rw [str_size]; omega
      have hbb := bal_bits 16 (trimT t (allN r) (allN c)) (allN r) (allN c) h16 (by omega)
      have htk := fun x y hx hy => (bal_talk 16 (trimT t (allN r) (allN c)) (allN r) (allN c) x y p3 q3 p2 q2 tu hx hy).trans (trim_talk t _ _ x y p3 q3 hx hy)
      have wb := (bal_wf 16 (trimT t (allN r) (allN c)) (allN r) (allN c) p3 q3 p2 q2 tu wu).1
      have lb := (bal_len (trimT t (allN r) (allN c)) (allN r) (allN c) h16).2
      have hti1 := fun W => fnExactTrimProtocol.impl_yes s t g1 g2 g3 r c hr hc W
      have hlu := fun W => fnExactLeavesOf.impl_yes (str (text (trimT t (allN r) (allN c)))) _ wu (str_data _) lu W
      generalize hE : ends (trimT t (allN r) (allN c)) = n at *
      generalize trimT t (allN r) (allN c) = u at *
      generalize hB : balI 16 u (allN r) (allN c) = b at *
      have lq : (str (text (trimT b (allN r) (allN c)))).size ≤ 2000 := by
        have := trim_length b (allN r) (allN c)
        rw [str_size]; omega
      have wq := trim_wf b (allN r) (allN c) p3 q3 wb
      have hm := fun W => found_mat s t g1 g2 g3 r c hr hc W
      have hag := fun W => fnExactTrimProtocol.impl_yes (str (text (trimT b (allN r) (allN c)))) _ wq (str_data _) lq r c hr hc W
      rw [trim_again b _ _ p3 q3 p2 q2] at hag
      have hco := fun W => comp_true (str (text (trimT b (allN r) (allN c)))) _ wq (str_data _) lq (fun x y => (talkT t x y).2) r c hr.1 hr.2 hc.1 hc.2 (fun x y hx hy => (trim_talk b _ _ x y p3 q3 (all_bit r x hx) (all_bit c y hy)).trans (htk x y (all_bit r x hx) (all_bit c y hy))) W
      have hbq := fun W => fnExactBitsOf.impl_yes (str (text (trimT b (allN r) (allN c)))) _ wq (str_data _) lq W
      have hle : (Tree.bits (trimT b (allN r) (allN c)) : Int) ≤ (tab n : Int) := by have := trim_bits b (allN r) (allN c); omega
      clear lq wq hl g1 g2 g3 hs hr hc p2 p3 q2 q3 wu tu lu htk wb lb hbb hE hB
      generalize Tree.bits (trimT b (allN r) (allN c)) = nq at *
      generalize str (text (trimT b (allN r) (allN c))) = q at *
      generalize str (text u) = su at *
      generalize str (rowsB (fun x y => (talkT t x y).2) r c) = sm at *
      have hn17 : (n : Int) < 17 := by omega
      have hcl := fun W => lit_cell W n h16
      have HTI := Lib.hid hti
      have HTS := Lib.hid hts
      have HTI1 := Lib.hid hti1
      have HLU := Lib.hid hlu
      have HM := Lib.hid hm
      have HAG := Lib.hid hag
      have HCO := Lib.hid hco
      have HBQ := Lib.hid hbq
      clear hti hts hti1 hlu hm hag hco hbq
      go_wp2_with fail
      refine (HTI.out _).mono ?_
      rintro e w2 ⟨rfl, hb2⟩
      have HK2 := Lib.hid (HK1.out.later hb2)
      clear hb2 HK1
      go_wp2_with fail
      refine (HTS.out _).mono ?_
      rintro e w3 ⟨rfl, hb3⟩
      have HK3 := Lib.hid (HK2.out.later hb3)
      clear hb3 HK2
      go_wp2_with fail
      refine (HM.out _).mono ?_
      rintro e w4 ⟨rfl, hb4⟩
      obtain ⟨bm, hbm⟩ : ∃ x, w4.heap.size = x := ⟨_, rfl⟩
      have HK4 := Lib.hid ((HK3.out.later hb4).put (.cells #[.int .i64 (r : Int), .int .i64 (c : Int), .string sm] 28) hbm)
      clear hb4 HK3
      go_wp2_with fail
      refine (HTI1.out _).mono ?_
      rintro e w5 ⟨rfl, hb5⟩
      have HK5 := Lib.hid (HK4.out.later hb5)
      clear hb5 HK4
      clear hbm
      go_wp2_with fail
      refine (HAG.out _).mono ?_
      rintro e w6 ⟨rfl, hb6⟩
      have HK6 := Lib.hid (HK5.out.later hb6)
      clear hb6 HK5
      go_wp2_with fail
      refine (HLU.out _).mono ?_
      rintro e w7 ⟨rfl, hb7⟩
      have HK7 := Lib.hid (HK6.out.later hb7)
      clear hb7 HK6
      obtain ⟨cm0, cm1, cm2, -, -, -⟩ := cells3 (HK7.out.at 0 rfl)
      have HCL := Lib.hid hcl
      clear hcl
      go_wp2_with fail
      refine wp_region_relsH (fun | 0 => fun v wx => v = .string q | 1 => fun v wx => v = mat (r : Int) (c : Int) sm | 2 => fun v wx => v = .bool true | 3 => fun v wx => v = .bool true | 4 => fun v wx => v = .string q | 5 => fun v wx => v = .string q | 6 => fun v wx => v = .bool true | 7 => fun v wx => v = .bool true | 8 => fun v wx => v = .bool true | 9 => fun v wx => v = .string q | 10 => fun v wx => v = .int .i64 (nq : Int) | 11 => fun v wx => ∃ g, v = .slice (some ⟨g, 0, none⟩) 17 17 ∧ wx.cell? ⟨g, n, none⟩ = some (.int .i64 (tab n : Int)) ∧ g < wx.heap.size | 12 => fun v wx => v = .int .i64 (n : Int) | 13 => fun v wx => ∃ g, v = .pointer (some ⟨g, n, none⟩) ∧ wx.cell? ⟨g, n, none⟩ = some (.int .i64 (tab n : Int)) ∧ g < wx.heap.size | 14 => fun v wx => v = .int .i64 (tab n : Int) | 15 => fun v wx => v = .bool true | 16 => fun v wx => v = .bool true | 17 => fun v wx => v = .bool true | _ => fun _ _ => True) ?hR ?hG (by kernel_rfl) (by kernel_rfl) rfl ?con ?en
      case hR =>
        intro i v wa wb ho h
        match i, h with
        | 0, h => exact h
        | 1, h => exact h
        | 2, h => exact h
        | 3, h => exact h
        | 4, h => exact h
        | 5, h => exact h
        | 6, h => exact h
        | 7, h => exact h
        | 8, h => exact h
        | 9, h => exact h
        | 10, h => exact h
        | 11, h =>
          obtain ⟨g, h1, h2, h3⟩ := h
          exact ⟨g, h1, (ho.cell (p := ⟨g, n, none⟩) h3).trans h2, Nat.lt_of_lt_of_le h3 ho.size⟩
        | 12, h => exact h
        | 13, h =>
          obtain ⟨g, h1, h2, h3⟩ := h
          exact ⟨g, h1, (ho.cell (p := ⟨g, n, none⟩) h3).trans h2, Nat.lt_of_lt_of_le h3 ho.size⟩
        | 14, h => exact h
        | 15, h => exact h
        | 16, h => exact h
        | 17, h => exact h
        | k + 18, h => trivial
      case hG =>
        intro i oo j b ho hg v wx h
        match i, ho with
        | 0, ho =>
          obtain rfl := Option.some.inj ho
          cases hg
        | 1, ho =>
          obtain rfl := Option.some.inj ho
          cases hg
        | 2, ho =>
          obtain rfl := Option.some.inj ho
          cases hg
        | 3, ho =>
          obtain rfl := Option.some.inj ho
          cases hg
        | 4, ho =>
          obtain rfl := Option.some.inj ho
          cases hg
          exact h
        | 5, ho =>
          obtain rfl := Option.some.inj ho
          cases hg
          exact h
        | 6, ho =>
          obtain rfl := Option.some.inj ho
          cases hg
          exact h
        | 7, ho =>
          obtain rfl := Option.some.inj ho
          cases hg
        | 8, ho =>
          obtain rfl := Option.some.inj ho
          cases hg
        | 9, ho =>
          obtain rfl := Option.some.inj ho
          cases hg
          exact h
        | 10, ho =>
          obtain rfl := Option.some.inj ho
          cases hg
          exact h
        | 11, ho =>
          obtain rfl := Option.some.inj ho
          cases hg
          exact h
        | 12, ho =>
          obtain rfl := Option.some.inj ho
          cases hg
          exact h
        | 13, ho =>
          obtain rfl := Option.some.inj ho
          cases hg
          exact h
        | 14, ho =>
          obtain rfl := Option.some.inj ho
          cases hg
          exact h
        | 15, ho =>
          obtain rfl := Option.some.inj ho
          cases hg
          exact h
        | 16, ho =>
          obtain rfl := Option.some.inj ho
          cases hg
        | 17, ho =>
          obtain rfl := Option.some.inj ho
          cases hg
        | q + 18, ho => simp at ho
      case con =>
        intro i oo ho a wx hb2 hf
        match i, ho with
        | 0, ho =>
          obtain rfl := Option.some.inj ho
          have b6 : a.tmps[6]?.getD undef = .string q := hf.2 6 (by kernel_rfl)
          exact wp_value (.string q) (by unfold execOp; go_simp) ⟨_, rfl, rfl, Below.refl _ _⟩
        | 1, ho =>
          obtain rfl := Option.some.inj ho
          have b10 : a.tmps[10]?.getD undef = .pointer (some ⟨bm, 0, none⟩) := hf.2 10 (by kernel_rfl)
          exact wp_load_row 28 (.tmp 10) rfl bm (eval_get b10) 28 _ (0, 0) _ ((HK7.out.later hb2).at 0 rfl) Tryz.underlying28 rfl minfo ⟨_, rfl, rfl, Below.refl _ _⟩
        | 2, ho =>
          obtain rfl := Option.some.inj ho
          have e83 : a.tmps[83]?.getD undef = .string q := hf.1 ⟨0, .data⟩ (by simp) rfl _ 83 rfl rfl
          have e84 : a.tmps[84]?.getD undef = mat (r : Int) (c : Int) sm := hf.1 ⟨1, .data⟩ (by simp) rfl _ 84 rfl rfl
          exact wp_enter 10 #[.string q, mat (r : Int) (c : Int) sm] (.bool true) _ (by unfold execOp; go_simp) (HCO.out wx) (fun w' h => ⟨_, rfl, rfl, h⟩)
        | 3, ho =>
          obtain rfl := Option.some.inj ho
          have e85 : a.tmps[85]?.getD undef = .bool true := hf.1 ⟨2, .data⟩ (by simp) rfl _ 85 rfl rfl
          exact wp_value (.bool true) (by unfold execOp; go_simp) ⟨_, rfl, rfl, Below.refl _ _⟩
        | 4, ho =>
          obtain rfl := Option.some.inj ho
          have b14 : a.tmps[14]?.getD undef = .string q := hf.2 14 (by kernel_rfl)
          exact wp_value (.string q) (by unfold execOp; go_simp) ⟨_, rfl, rfl, Below.refl _ _⟩
        | 5, ho =>
          obtain rfl := Option.some.inj ho
          have b6 : a.tmps[6]?.getD undef = .string q := hf.2 6 (by kernel_rfl)
          exact wp_value (.string q) (by unfold execOp; go_simp) ⟨_, rfl, rfl, Below.refl _ _⟩
        | 6, ho =>
          obtain rfl := Option.some.inj ho
          have e87 : a.tmps[87]?.getD undef = .string q := hf.1 ⟨4, .data⟩ (by simp) rfl _ 87 rfl rfl
          have e88 : a.tmps[88]?.getD undef = .string q := hf.1 ⟨5, .data⟩ (by simp) rfl _ 88 rfl rfl
          exact wp_value (.bool true) (by unfold execOp; go_simp) ⟨_, rfl, rfl, Below.refl _ _⟩
        | 7, ho =>
          obtain rfl := Option.some.inj ho
          have e86 : a.tmps[86]?.getD undef = .bool true := hf.1 ⟨3, .data⟩ (by simp) rfl _ 86 rfl rfl
          have e89 : a.tmps[89]?.getD undef = .bool true := hf.1 ⟨6, .data⟩ (by simp) rfl _ 89 rfl rfl
          exact wp_value (.bool true) (by unfold execOp; go_simp) ⟨_, rfl, rfl, Below.refl _ _⟩
        | 8, ho =>
          obtain rfl := Option.some.inj ho
          have e90 : a.tmps[90]?.getD undef = .bool true := hf.1 ⟨7, .data⟩ (by simp) rfl _ 90 rfl rfl
          exact wp_value (.bool true) (by unfold execOp; go_simp) ⟨_, rfl, rfl, Below.refl _ _⟩
        | 9, ho =>
          obtain rfl := Option.some.inj ho
          have b6 : a.tmps[6]?.getD undef = .string q := hf.2 6 (by kernel_rfl)
          exact wp_value (.string q) (by unfold execOp; go_simp) ⟨_, rfl, rfl, Below.refl _ _⟩
        | 10, ho =>
          obtain rfl := Option.some.inj ho
          have e92 : a.tmps[92]?.getD undef = .string q := hf.1 ⟨9, .data⟩ (by simp) rfl _ 92 rfl rfl
          exact wp_enter 11 #[.string q] (.int .i64 (nq : Int)) _ (by unfold execOp; go_simp) (HBQ.out wx) (fun w' h => ⟨_, rfl, rfl, h⟩)
        | 11, ho =>
          obtain rfl := Option.some.inj ho
          exact wp_made (wx.alloc (.cells #[.int .i64 0, .int .i64 0, .int .i64 1, .int .i64 3, .int .i64 5, .int .i64 7, .int .i64 7, .int .i64 9, .int .i64 9, .int .i64 9, .int .i64 11, .int .i64 11, .int .i64 11, .int .i64 11, .int .i64 13, .int .i64 13, .int .i64 13] 3)) (.slice (some ⟨wx.heap.size, 0, none⟩) 17 17) (by unfold execOp; go_simp) ⟨_, rfl, ⟨wx.heap.size, rfl, HCL.out wx, by simp⟩, (Below.refl _ _).alloc (Nat.le_refl _) _⟩
        | 12, ho =>
          obtain rfl := Option.some.inj ho
          have b16 : a.tmps[16]?.getD undef = .int .i64 (n : Int) := hf.2 16 (by kernel_rfl)
          exact wp_value (.int .i64 (n : Int)) (by unfold execOp; go_simp) ⟨_, rfl, rfl, Below.refl _ _⟩
        | 13, ho =>
          obtain rfl := Option.some.inj ho
          obtain ⟨g, e94, hcell, hlt⟩ : ∃ g, a.tmps[94]?.getD undef = .slice (some ⟨g, 0, none⟩) 17 17 ∧ wx.cell? ⟨g, n, none⟩ = some (.int .i64 (tab n : Int)) ∧ g < wx.heap.size := hf.1 ⟨11, .data⟩ (by simp) rfl _ 94 rfl rfl
          have e95 : a.tmps[95]?.getD undef = .int .i64 (n : Int) := hf.1 ⟨12, .data⟩ (by simp) rfl _ 95 rfl rfl
          exact wp_value (.pointer (some ⟨g, n, none⟩)) (by unfold execOp; go_simp) ⟨_, rfl, ⟨g, rfl, hcell, hlt⟩, Below.refl _ _⟩
        | 14, ho =>
          obtain rfl := Option.some.inj ho
          obtain ⟨g, e96, hcell, hlt⟩ : ∃ g, a.tmps[96]?.getD undef = .pointer (some ⟨g, n, none⟩) ∧ wx.cell? ⟨g, n, none⟩ = some (.int .i64 (tab n : Int)) ∧ g < wx.heap.size := hf.1 ⟨13, .data⟩ (by simp) rfl _ 96 rfl rfl
          exact wp_value (.int .i64 (tab n : Int)) (by unfold execOp; go_simp) ⟨_, rfl, rfl, Below.refl _ _⟩
        | 15, ho =>
          obtain rfl := Option.some.inj ho
          have e93 : a.tmps[93]?.getD undef = .int .i64 (nq : Int) := hf.1 ⟨10, .data⟩ (by simp) rfl _ 93 rfl rfl
          have e97 : a.tmps[97]?.getD undef = .int .i64 (tab n : Int) := hf.1 ⟨14, .data⟩ (by simp) rfl _ 97 rfl rfl
          exact wp_value (.bool true) (by unfold execOp; go_simp) ⟨_, rfl, rfl, Below.refl _ _⟩
        | 16, ho =>
          obtain rfl := Option.some.inj ho
          have e91 : a.tmps[91]?.getD undef = .bool true := hf.1 ⟨8, .data⟩ (by simp) rfl _ 91 rfl rfl
          have e98 : a.tmps[98]?.getD undef = .bool true := hf.1 ⟨15, .data⟩ (by simp) rfl _ 98 rfl rfl
          exact wp_value (.bool true) (by unfold execOp; go_simp) ⟨_, rfl, rfl, Below.refl _ _⟩
        | 17, ho =>
          obtain rfl := Option.some.inj ho
          have e99 : a.tmps[99]?.getD undef = .bool true := hf.1 ⟨16, .data⟩ (by simp) rfl _ 99 rfl rfl
          exact wp_value (.bool true) (by unfold execOp; go_simp) ⟨_, rfl, rfl, Below.refl _ _⟩
        | q + 18, ho => simp at ho
      case en =>
        intro vs w2 hb2 hall
        have v17 : vs 17 = .bool true := hall 17 _ rfl
        have HB2 := Lib.hid (HK7.out.later hb2).below
        clear hb2 hall
        simp only [fill, Act.put]
        rw [v17]
        clear v17
        go_simp
        go_wp2_with fail
        go_ret
        exact ⟨rfl, HB2.out⟩
end Go.Proofs.YtbbgibbpeibhiaaGreatDoor.fnBalance

