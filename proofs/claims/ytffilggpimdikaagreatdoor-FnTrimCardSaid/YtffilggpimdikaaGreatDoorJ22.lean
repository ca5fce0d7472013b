/-
  Texts of one seat, joined: ColF, ErrB, CompM.
-/
import Derived.Test.YtffilggpimdikaaGreatDoorJ1
import Derived.Test.YtffilggpimdikaaGreatDoorJ21
import Derived.Test.YtffilggpimdikaaGreatDoorJ14
import Derived.Test.YtffilggpimdikaaGreatDoorJ15
import Derived.Test.YtffilggpimdikaaGreatDoorJ20
import Derived.Test.YtffilggpimdikaaGreatDoorJ4
/-
  What the functions of a valid matrix and a rectangle of it answer, told by the entries.
-/
namespace Go.Proofs.YtffilggpimdikaaGreatDoor.ColF
open Go.RowKit Go.Proofs.YtffilggpimdikaaGreatDoor.Plain Go.Proofs.YtffilggpimdikaaGreatDoor.Base Go.Proofs.YtffilggpimdikaaGreatDoor.Valid Go.Proofs.YtffilggpimdikaaGreatDoor.Law Go.Proofs.YtffilggpimdikaaGreatDoor.GridPlain Go.Proofs.YtffilggpimdikaaGreatDoor.Grid Go.Proofs.YtffilggpimdikaaGreatDoor.Entry Go.Proofs.YtffilggpimdikaaGreatDoor.Pat Go.Proofs.YtffilggpimdikaaGreatDoor.Rect Go.Proofs.YtffilggpimdikaaGreatDoor.Patch Go.Proofs.YtffilggpimdikaaGreatDoor.FreeL Go.Proofs.YtffilggpimdikaaGreatDoor.Board Go.Proofs.YtffilggpimdikaaGreatDoor.BoardM Go.Proofs.YtffilggpimdikaaGreatDoor.RValid Go.Proofs.YtffilggpimdikaaGreatDoor.Area Go.Proofs.YtffilggpimdikaaGreatDoor.Bal Go.Proofs.YtffilggpimdikaaGreatDoor.Colour Go.Proofs.YtffilggpimdikaaGreatDoor.Clos Go.Proofs.YtffilggpimdikaaGreatDoor.SpecTO
set_option linter.unusedVariables false
set_option linter.unusedSectionVars false

theorem valid_rows (E : Nat → Nat → Bool) (R C : Nat) (h1 : 1 ≤ R) (h2 : R ≤ 8) (h3 : 1 ≤ C) (h4 : C ≤ 8) : validB R C (str (rowsB E R C)) = true := by
  rw [validB_in (by omega) (by omega) (by omega) (by omega)]
  have : okB (str (rowsB E R C)) = true := okB_true fun j hj => by
    have hj' : j < R * C := by rw [str_size, rowsB_length] at hj; exact hj
    rw [str_get _ j _ (rowsB_get E R C j hj') hj]
    cases E (j / C) (j % C) <;> rfl
  rw [this, Bool.true_and, str_size, rowsB_length]
  simp
theorem rows_small (E : Nat → Nat → Bool) (R C : Nat) (h2 : R ≤ 8) (h4 : C ≤ 8) : (str (rowsB E R C)).size ≤ 64 := by rw [str_size, rowsB_length]; exact prod_le h2 h4
theorem rows_max (E : Nat → Nat → Bool) (R C : Nat) (h2 : R ≤ 8) (h4 : C ≤ 8) : (str (rowsB E R C)).size ≤ maxLen := by
  have := rows_small E R C h2 h4
  unfold maxLen
  omega
theorem other_yes (E : Nat → Nat → Bool) (R C : Nat) (h1 : 1 ≤ R) (h2 : R ≤ 8) (h3 : 1 ≤ C) (h4 : C ≤ 8) (w : World) :
    Calls Tryz.prog 25 #[mat R C (str (rowsB E R C))] w fun e w' => e = .returned (.tuple #[mat R C (str (rowsB (fun x y => !(E x y)) R C)), .bool true]) ∧ Below w.heap.size w w' :=
  other_impl E R C h1 h2 h3 h4 _ w fun W => grid_yes E R C h1 h2 h3 h4 _ rfl (rows_max E R C h2 h4) (rows_small E R C h2 h4) (valid_rows E R C h1 h2 h3 h4) W

theorem rv_yes (R C : Nat) (h2 : R ≤ 8) (h4 : C ≤ 8) (RS CS : Nat) (k1 : 1 ≤ RS) (k2 : RS < 2 ^ R) (k3 : 1 ≤ CS) (k4 : CS < 2 ^ C) : rvB R C RS CS = true := by
  unfold rvB
  rw [Bool.and_eq_true, decide_eq_true_iff, decide_eq_true_iff]
  have e1 : ((2 ^ R : Nat) : Int) = 2 ^ R := by simp
  have e2 : ((2 ^ C : Nat) : Int) = 2 ^ C := by simp
  omega
section
variable (E : Nat → Nat → Bool) (R C : Nat) (h1 : 1 ≤ R) (h2 : R ≤ 8) (h3 : 1 ≤ C) (h4 : C ≤ 8) (RS CS : Nat) (k1 : 1 ≤ RS) (k2 : RS < 2 ^ R) (k3 : 1 ≤ CS) (k4 : CS < 2 ^ C) (k5 : RS < 256) (k6 : CS < 256)
include h1 h2 h3 h4 k1 k2 k3 k4 k5 k6
end

end Go.Proofs.YtffilggpimdikaaGreatDoor.ColF

/-
  ErrorsOf and Computes: one result for the program and the reference.
-/
namespace Go.Proofs.YtffilggpimdikaaGreatDoor.ErrB
open Go.RowKit Go.Shelf Go.Proofs.YtffilggpimdikaaGreatDoor.Plain Go.Proofs.YtffilggpimdikaaGreatDoor.Base Go.Proofs.YtffilggpimdikaaGreatDoor.Valid Go.Proofs.YtffilggpimdikaaGreatDoor.Entry Go.Proofs.YtffilggpimdikaaGreatDoor.Grid Go.Proofs.YtffilggpimdikaaGreatDoor.Tree Go.Proofs.YtffilggpimdikaaGreatDoor.Read Go.Proofs.YtffilggpimdikaaGreatDoor.TreeOf Go.Proofs.YtffilggpimdikaaGreatDoor.TreeIn Go.Proofs.YtffilggpimdikaaGreatDoor.FreeL Go.Proofs.YtffilggpimdikaaGreatDoor.Talk Go.Proofs.YtffilggpimdikaaGreatDoor.Join Go.Proofs.YtffilggpimdikaaGreatDoor.JoinI Go.Proofs.YtffilggpimdikaaGreatDoor.Ops Go.Proofs.YtffilggpimdikaaGreatDoor.ErrW Go.Proofs.YtffilggpimdikaaGreatDoor.MatP Go.Proofs.YtffilggpimdikaaGreatDoor.MatT Go.Proofs.YtffilggpimdikaaGreatDoor.Leaf
open Go.Proofs.YtffilggpimdikaaGreatDoor.Wq (WQ wq_step wq_nil region_kept drew_at)
open Go.Proofs.YtffilggpimdikaaGreatDoor.SaidMat (mtx)
open Go.Proofs.YtffilggpimdikaaGreatDoor.fnExactCountOnes (cntI)
open Go.Proofs.YtffilggpimdikaaGreatDoor.fnExactMatrixOf (bit_all)
set_option linter.unusedVariables false
set_option linter.unusedSimpArgs false
set_option maxRecDepth 100000

theorem len_E (E : Nat → Nat → Bool) {R C : Nat} (h2 : R ≤ 8) (h4 : C ≤ 8) : (str (rowsB E R C)).size ≤ 64 ∧ (str (rowsB E R C)).size ≤ maxLen := by
  have : (str (rowsB E R C)).size ≤ 64 := by rw [str_size, rowsB_length]; exact prod_le h2 h4
  exact ⟨this, by unfold maxLen; omega⟩
/-- a matrix that is none with any other one -/
theorem join_bad (A B : Int) (u : ByteArray) (hu : u.size ≤ maxLen) (r c : Int) (ms : ByteArray) (hms : ms.size ≤ maxLen) (hbad : validB r c ms = false) (w : World) :
    Calls Tryz.prog 76 #[.string ⟨#[120, 111, 114]⟩, mat A B u, mat r c ms] w fun e w' => e = .returned (.tuple #[mat 0 0 (str []), .bool false]) ∧ Below w.heap.size w w' := by
  have hg2 := fun W => grid_no r c ms hms hbad W
  by_cases hv : validB A B u = true
  · obtain ⟨R, C, E, rfl, rfl, h1, h2, h3, h4, rfl⟩ := valid_form hv
    have hg1 := fun W => grid_yes E R C h1 h2 h3 h4 _ rfl hu (len_E E h2 h4).1 hv W
    exact impl_differ1 xorS known_xor _ _ _ _ _ _ _ _ _ _ _ _ (by omega) hg1 hg2 w
  · rw [Bool.not_eq_true] at hv
    exact impl_zero xorS known_xor _ _ _ _ _ _ _ _ (fun W => grid_no A B u hu hv W) hg2 w
theorem zero_bad : validB 0 0 (str []) = false := by unfold validB; simp
theorem join_none (E : Nat → Nat → Bool) (R C : Nat) (h1 : 1 ≤ R) (h2 : R ≤ 8) (h3 : 1 ≤ C) (h4 : C ≤ 8) (hv : validB R C (str (rowsB E R C)) = true) (w : World) :
    Calls Tryz.prog 76 #[.string ⟨#[120, 111, 114]⟩, mat 0 0 (str []), mat R C (str (rowsB E R C))] w fun e w' => e = .returned (.tuple #[mat 0 0 (str []), .bool false]) ∧ Below w.heap.size w w' := by
  have hg2 := fun W => grid_yes E R C h1 h2 h3 h4 _ rfl (len_E E h2 h4).2 (len_E E h2 h4).1 hv W
  exact impl_differ1 xorS known_xor _ _ _ _ _ _ _ _ _ _ _ _ (by omega) (fun W => grid_no 0 0 (str []) (by unfold maxLen; rw [str_size]; simp) zero_bad W) hg2 w
theorem join_two (F E : Nat → Nat → Bool) (R C : Nat) (h1 : 1 ≤ R) (h2 : R ≤ 8) (h3 : 1 ≤ C) (h4 : C ≤ 8) (hvF : validB R C (str (rowsB F R C)) = true) (hv : validB R C (str (rowsB E R C)) = true) (w : World) :
    Calls Tryz.prog 76 #[.string ⟨#[120, 111, 114]⟩, mat R C (str (rowsB F R C)), mat R C (str (rowsB E R C))] w fun e w' => e = .returned (.tuple #[mat R C (str (rowsB (joinE xorS F E) R C)), .bool true]) ∧ Below w.heap.size w w' :=
  impl_yes xorS known_xor R C h1 h2 h3 h4 F E _ _ (fun W => grid_yes F R C h1 h2 h3 h4 _ rfl (len_E F h2 h4).2 (len_E F h2 h4).1 hvF W) (fun W => grid_yes E R C h1 h2 h3 h4 _ rfl (len_E E h2 h4).2 (len_E E h2 h4).1 hv W) w

/-- the program's matrix of a protocol, or none -/
theorem mat_impl (s : ByteArray) (hs : s.size ≤ 1048576) (r c : Int) : ∃ (A B : Int) (u : ByteArray) (b : Bool), u.size ≤ maxLen ∧
    (∀ w, Calls Tryz.prog 17 #[.string s, .int .i64 r, .int .i64 c] w fun e w' => e = .returned (.tuple #[mat A B u, .bool b]) ∧ Below w.heap.size w w') := by
  have h0 : (str []).size ≤ maxLen := by unfold maxLen; rw [str_size]; simp
  by_cases hsd : Sides r c
  · obtain ⟨⟨r1, r2⟩, c1, c2⟩ := hsd
    obtain ⟨r', rfl⟩ : ∃ r' : Nat, r = (r' : Int) := ⟨r.toNat, by omega⟩
    obtain ⟨c', rfl⟩ : ∃ c' : Nat, c = (c' : Int) := ⟨c.toNat, by omega⟩
    rcases ok_or s with ⟨t, h1, h2, h3⟩ | h
    · exact ⟨_, _, _, _, (len_E _ (by omega) (by omega)).2, MatI.impl_yes s t h1 h2 h3 r' c' (by omega) (by omega)⟩
    · exact ⟨_, _, _, _, h0, MatI.impl_nil s r' c' (allN r') (allN c') (in_yes s .nilIface (tree_no s h hs) r' c' (by omega) (by omega))⟩
  · exact ⟨_, _, _, _, h0, MatI.impl_nil s r c 0 0 (fun W => in_bad s r c hsd W)⟩
theorem none_mat (s : ByteArray) (hs : s.size ≤ 1048576) (h : ¬ Ok s) (R C : Nat) (h1 : 1 ≤ R) (h2 : R ≤ 8) (h3 : 1 ≤ C) (h4 : C ≤ 8) (w : World) :
    Calls Tryz.prog 17 #[.string s, .int .i64 (R : Int), .int .i64 (C : Int)] w fun e w' => e = .returned (.tuple #[mat 0 0 (str []), .bool false]) ∧ Below w.heap.size w w' :=
  MatI.impl_nil s R C (allN R) (allN C) (in_yes s .nilIface (tree_no s h hs) R C (by omega) (by omega)) w
theorem found_mat (s : ByteArray) (t : T) (hw : wf t) (h : s.data.toList = text t) (hs : s.size ≤ 2000) (r' c' : Nat) (hr : 1 ≤ r' ∧ r' ≤ 8) (hc : 1 ≤ c' ∧ c' ≤ 8) (w : World) :
    Calls Tryz.prog 17 #[.string s, .int .i64 (r' : Int), .int .i64 (c' : Int)] w fun e w' => e = .returned (.tuple #[mat r' c' (str (rowsB (fun x y => (talkT t x y).2) r' c')), .bool true]) ∧ Below w.heap.size w w' := by
  obtain ⟨_, _, p3⟩ := pow_facts r' (by omega)
  obtain ⟨_, _, q3⟩ := pow_facts c' (by omega)
  rw [show rowsB (fun x y => (talkT t x y).2) r' c' = rowsB (fun x y => (fB true (leavesT t (allN r') (allN c')) x).testBit y) r' c' from rowsB_congr fun x y hx hy => by
    rw [fB_bit, covered_talk true t (allN r') (allN c') x y p3 q3 (bit_all hx) (bit_all hy)]
    cases (talkT t x y).2 <;> rfl]
  exact MatI.impl_yes s t hw h hs r' c' hr hc w
/-- a matrix of digits is valid -/
theorem rows_valid (F : Nat → Nat → Bool) (R C : Nat) (h1 : 1 ≤ R) (h2 : R ≤ 8) (h3 : 1 ≤ C) (h4 : C ≤ 8) : validB R C (str (rowsB F R C)) = true := Go.Proofs.YtffilggpimdikaaGreatDoor.ColF.valid_rows F R C h1 h2 h3 h4

set_option maxHeartbeats 1000000 in
theorem comp_impl (s : ByteArray) (r c : Int) (ms : ByteArray) (n : Int) (hI : ∀ w, Calls Tryz.prog 39 #[.string s, mat r c ms] w fun e w' => e = .returned (.int .i64 n) ∧ Below w.heap.size w w') (w : World) :
    Calls Tryz.prog 11 #[.string s, mat r c ms] w fun e w' => e = .returned (.bool (n == 0)) ∧ Below w.heap.size w w' := by
  have HI := Lib.hid hI
  clear hI
  obtain ⟨b, hb⟩ : ∃ b, (n == 0) = b := ⟨_, rfl⟩
  rw [hb]
  have n0 := heap_alloc_new w (.cells #[.int .i64 r, .int .i64 c, .string ms] 24)
  obtain ⟨m0, m1, m2⟩ := cells3 n0
  clear n0
  go_enter Tryz.func11, Tryz.ntmps11
  go_wp2_with fail
  refine (HI.out _).mono ?_
  rintro e w1 ⟨rfl, hb1⟩
  have HB := Lib.hid (((Below.refl w.heap.size w).alloc (Nat.le_refl _) (.cells #[.int .i64 r, .int .i64 c, .string ms] 24)).trans (hb1.mono (by simp)))
  clear hb1
  go_wp2_with fail
  go_ret
  exact ⟨rfl, HB.out⟩
/-- no differences: the same digits -/
theorem no_differ (F E : Nat → Nat → Bool) (r c : Nat) (hc : 1 ≤ c) : ((Lib.countByte (str (rowsB (joinE xorS F E) r c)).data.toList 49 : Nat) : Int) = 0 ↔ str (rowsB F r c) = str (rowsB E r c) := by
  have e1 : (str (rowsB (joinE xorS F E) r c)).data.toList = rowsB (joinE xorS F E) r c := by simp [str]
  rw [e1]
  unfold Lib.countByte
  constructor
  · intro h
    have h0 : (rowsB (joinE xorS F E) r c).count 49 = 0 := by omega
    have hne : ∀ x y, x < r → y < c → F x y = E x y := by
      intro x y hx hy
      have hnm : (49 : UInt8) ∉ rowsB (joinE xorS F E) r c := List.count_eq_zero.1 h0
      apply Classical.byContradiction
      intro hd
      apply hnm
      unfold rowsB
      rw [List.mem_flatMap]
      refine ⟨x, List.mem_range.2 hx, ?_⟩
      unfold rowB
      rw [List.mem_map]
      refine ⟨y, List.mem_range.2 hy, ?_⟩
      unfold joinE
      rw [opB_xor]
      cases hF : F x y <;> cases hE : E x y <;> simp [hF, hE] at hd ⊢ <;> rfl
    rw [rowsB_congr hne]
  · intro h
    have hl : rowsB F r c = rowsB E r c := by
      have := congrArg (fun q : ByteArray => q.data.toList) h
      simpa [str] using this
    have h0 : (rowsB (joinE xorS F E) r c).count 49 = 0 := by
      apply List.count_eq_zero.2
      intro hm
      unfold rowsB at hm
      rw [List.mem_flatMap] at hm
      obtain ⟨x, hx, hm⟩ := hm
      unfold rowB at hm
      rw [List.mem_map] at hm
      obtain ⟨y, hy, hm⟩ := hm
      have hx := List.mem_range.1 hx
      have hy := List.mem_range.1 hy
      have hk : x * c + y < r * c := by
        have h1 : (x + 1) * c ≤ r * c := Nat.mul_le_mul_right c (by omega)
        rw [Nat.add_mul] at h1
        omega
      have b1 : (str (rowsB F r c)).size = r * c := by rw [str_size, rowsB_length]
      have b2 : (str (rowsB E r c)).size = r * c := by rw [str_size, rowsB_length]
      have a1 := byte_xy F r c x y _ rfl hx hy (by omega)
      have a2 := byte_xy E r c x y _ rfl hx hy (by omega)
      have a3 : (str (rowsB F r c))[x * c + y]'(by omega) = (str (rowsB E r c))[x * c + y]'(by omega) := by simp only [h]
      rw [a3, a2] at a1
      unfold joinE at hm
      rw [opB_xor] at hm
      cases hF : F x y <;> cases hE : E x y <;> simp [hF, hE, dig] at a1 hm
    rw [h0]
    rfl

end Go.Proofs.YtffilggpimdikaaGreatDoor.ErrB

/-
  Computes of the program where the matrix is the one that is found.
-/
namespace Go.Proofs.YtffilggpimdikaaGreatDoor.CompM
open Go.RowKit Go.Shelf Go.Proofs.YtffilggpimdikaaGreatDoor.Plain Go.Proofs.YtffilggpimdikaaGreatDoor.Base Go.Proofs.YtffilggpimdikaaGreatDoor.Valid Go.Proofs.YtffilggpimdikaaGreatDoor.Entry Go.Proofs.YtffilggpimdikaaGreatDoor.Grid Go.Proofs.YtffilggpimdikaaGreatDoor.Tree Go.Proofs.YtffilggpimdikaaGreatDoor.Read Go.Proofs.YtffilggpimdikaaGreatDoor.TreeOf Go.Proofs.YtffilggpimdikaaGreatDoor.TreeIn Go.Proofs.YtffilggpimdikaaGreatDoor.FreeL Go.Proofs.YtffilggpimdikaaGreatDoor.Talk Go.Proofs.YtffilggpimdikaaGreatDoor.Join Go.Proofs.YtffilggpimdikaaGreatDoor.JoinI Go.Proofs.YtffilggpimdikaaGreatDoor.Ops Go.Proofs.YtffilggpimdikaaGreatDoor.ErrW Go.Proofs.YtffilggpimdikaaGreatDoor.ErrB Go.Proofs.YtffilggpimdikaaGreatDoor.MatP Go.Proofs.YtffilggpimdikaaGreatDoor.MatT Go.Proofs.YtffilggpimdikaaGreatDoor.Leaf
open Go.Proofs.YtffilggpimdikaaGreatDoor.fnExactCountOnes (cntI)
set_option linter.unusedVariables false

theorem comp_true (s : ByteArray) (t : T) (g1 : wf t) (g2 : s.data.toList = text t) (g3 : s.size ≤ 2000) (E : Nat → Nat → Bool) (R C : Nat) (h1 : 1 ≤ R) (h2 : R ≤ 8) (h3 : 1 ≤ C) (h4 : C ≤ 8)
    (hE : ∀ x y, x < R → y < C → (talkT t x y).2 = E x y) (w : World) :
    Calls Tryz.prog 11 #[.string s, mat R C (str (rowsB E R C))] w fun e w' => e = .returned (.bool true) ∧ Below w.heap.size w w' := by
  have hq : rowsB (fun x y => (talkT t x y).2) R C = rowsB E R C := rowsB_congr hE
  rw [← hq]
  have hvF := rows_valid (fun x y => (talkT t x y).2) R C h1 h2 h3 h4
  have hvJ := rows_valid (joinE xorS (fun x y => (talkT t x y).2) (fun x y => (talkT t x y).2)) R C h1 h2 h3 h4
  have hI := impl_err s R C _ _ _ _ _ _ _ _ _ (len_E _ h2 h4).2 (found_mat s t g1 g2 g3 R C ⟨h1, h2⟩ ⟨h3, h4⟩) (join_two _ _ R C h1 h2 h3 h4 hvF hvF)
  unfold cntI at hI
  rw [hvJ] at hI
  have hz := (no_differ (fun x y => (talkT t x y).2) (fun x y => (talkT t x y).2) R C h3).2 rfl
  have hc := comp_impl s R C _ 0 (fun W => (hI W).mono fun e w' h => ⟨by rw [h.1, ← hz]; rfl, h.2⟩) w
  exact hc
end Go.Proofs.YtffilggpimdikaaGreatDoor.CompM

