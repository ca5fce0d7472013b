/-
  The walk of the law on MatrixOf.
-/
import Derived.Test.YtodfeaelidpckaaMatI
import Derived.Test.YtodfeaelidpckaaSaidMat
namespace Go.Proofs.Ytodfeaelidpckaa.fnExactMatrixOf
open Go.RowKit Go.Shelf Go.Proofs.Ytodfeaelidpckaa.Plain Go.Proofs.Ytodfeaelidpckaa.Base Go.Proofs.Ytodfeaelidpckaa.Rect Go.Proofs.Ytodfeaelidpckaa.Tree Go.Proofs.Ytodfeaelidpckaa.Read Go.Proofs.Ytodfeaelidpckaa.TreeOf Go.Proofs.Ytodfeaelidpckaa.TreeIn Go.Proofs.Ytodfeaelidpckaa.Leaf Go.Proofs.Ytodfeaelidpckaa.Talk Go.Proofs.Ytodfeaelidpckaa.MatT Go.Proofs.Ytodfeaelidpckaa.MatP
open Go.Proofs.Ytodfeaelidpckaa.SaidMat (said_matrix mtx)
set_option linter.unusedVariables false
set_option linter.unusedSimpArgs false

/-- one step more: what a callee leaves alone -/
theorem bstep {w a b : World} (h : Below w.heap.size w a) (h2 : Below a.heap.size a b) : Below w.heap.size w b := h.trans (h2.mono h.size)
theorem bstepA {w a : World} (h : Below w.heap.size w a) (o : Obj) : Below w.heap.size w (a.alloc o) := h.alloc h.size o

/-- the law's own copy of its argument, later on -/
theorem three_of {w w1 : World} {a b c : Value} {T : TypeId} (hb : Below (w.alloc (.cells #[a, b, c] T)).heap.size (w.alloc (.cells #[a, b, c] T)) w1) :
    w1.cell? ⟨w.heap.size, 0, none⟩ = some a ∧ w1.cell? ⟨w.heap.size, 1, none⟩ = some b ∧ w1.cell? ⟨w.heap.size, 2, none⟩ = some c := by
  have hs : (w.alloc (.cells #[a, b, c] T)).heap.size = w.heap.size + 1 := by simp
  refine ⟨?_, ?_, ?_⟩
  · exact (hb.cell (p := ⟨w.heap.size, 0, none⟩) (by show w.heap.size < _; omega)).trans (by simp)
  · exact (hb.cell (p := ⟨w.heap.size, 1, none⟩) (by show w.heap.size < _; omega)).trans (by simp)
  · exact (hb.cell (p := ⟨w.heap.size, 2, none⟩) (by show w.heap.size < _; omega)).trans (by simp)
theorem three_on {w1 w2 : World} {g : Nat} {a b c : Value} (hb : Below w1.heap.size w1 w2) (hg : g < w1.heap.size)
    (h0 : w1.cell? ⟨g, 0, none⟩ = some a) (h1 : w1.cell? ⟨g, 1, none⟩ = some b) (h2 : w1.cell? ⟨g, 2, none⟩ = some c) :
    w2.cell? ⟨g, 0, none⟩ = some a ∧ w2.cell? ⟨g, 1, none⟩ = some b ∧ w2.cell? ⟨g, 2, none⟩ = some c :=
  ⟨(hb.cell (p := ⟨g, 0, none⟩) hg).trans h0, (hb.cell (p := ⟨g, 1, none⟩) hg).trans h1, (hb.cell (p := ⟨g, 2, none⟩) hg).trans h2⟩

set_option maxHeartbeats 4000000 in
set_option maxRecDepth 100000 in
theorem spec_yes (s : ByteArray) (t : T) (hw : wf t) (h : s.data.toList = text t) (hs : s.size ≤ 2000) (r c : Nat) (hr : 1 ≤ r ∧ r ≤ 8) (hc : 1 ≤ c ∧ c ≤ 8) (w : World) :
    Calls Try.prog 31 #[.string s, .int .i64 (r : Int), .int .i64 (c : Int)] w fun e w' => e = .returned (.tuple #[mat r c (str (rowsB (fun x y => (talkT t x y).2) r c)), .bool true]) ∧ Below w.heap.size w w' := by
  have HV := Lib.hid (valid_said s t hw h hs)
  have HSd := Lib.hid (sides_yes (r : Int) (c : Int) ⟨by omega, by omega⟩)
  have hl : (text t).length = s.size := by rw [← h]; simp
  have hSM : ∀ W : World, Calls Try.prog 49 #[.string s, .int .i64 (r : Int), .int .i64 (c : Int)] W fun e w' => e = .returned (mat r c (str (rowsB (fun x y => (talkT t x y).2) r c))) ∧ Below W.heap.size W w' := fun W => by
    have h0 := said_matrix t hw (by omega) r c hr.2 hc.2 W
    rw [← eq_str h] at h0
    exact h0
  have HSM := Lib.hid hSM
  generalize str (rowsB (fun x y => (talkT t x y).2) r c) = u at *
  clear h hl hw hSM
  have hM0 : (w.alloc (.cells #[.int .i64 0, .int .i64 0, .string ⟨#[]⟩] 35)).heap[w.heap.size]? = some (.cells #[.int .i64 0, .int .i64 0, .string ⟨#[]⟩] 35 (0, 0)) := heap_alloc_new w _
  have HM := Lib.hid hM0
  clear hM0
  go_enter Try.func31, Try.ntmps31
  go_wp2_with fail
  refine (HV.out _).mono ?_
  rintro e w1 ⟨rfl, rfl⟩
  go_wp2_with fail
  refine (HSd.out _).mono ?_
  rintro e w1 ⟨rfl, rfl⟩
  go_wp2_with fail
  refine (HSM.out _).mono ?_
  rintro e w3 ⟨rfl, hb3⟩
  have HM6 := Lib.hid ((hb3.block _ (Array.getElem?_eq_some_iff.1 HM.out).1).trans HM.out)
  have HB6 := Lib.hid (((Below.refl w.heap.size w).alloc (Nat.le_refl _) _).trans (hb3.mono (by simp)))
  clear hb3 HM
  have k0 := cell_of_row _ _ 0 _ _ _ HM6.out
  have k1 := cell_of_row _ _ 1 _ _ _ HM6.out
  have k2 := cell_of_row _ _ 2 _ _ _ HM6.out
  have f1 := frozen_of_row _ _ 0 _ _ HM6.out
  have f2 := frozen_of_row _ _ 1 _ _ HM6.out
  have f3 := frozen_of_row _ _ 2 _ _ HM6.out
  go_wp2_with fail
  refine bodyPost_ret (v := .tuple #[mat r c u, .bool true]) (by simp [results, Try.results31, go_sem, k0, k1, k2]) rfl ⟨rfl, ?_⟩
  exact ((HB6.out.setCell (Nat.le_refl _) _).setCell (Nat.le_refl _) _).setCell (Nat.le_refl _) _

set_option maxHeartbeats 2000000 in
theorem spec_no (s : ByteArray) (b : Bool) (hV : ∀ W : World, Calls Try.prog 12 #[.string s] W fun e w' => e = .returned (.bool b) ∧ W = w') (r c : Int) (hb : b = false ∨ ¬ Sides r c) (w : World) :
    Calls Try.prog 31 #[.string s, .int .i64 r, .int .i64 c] w fun e w' => e = .returned (.tuple #[mat 0 0 (str []), .bool false]) ∧ Below w.heap.size w w' := by
  have HV := Lib.hid hV
  clear hV
  cases b
  · clear hb
    go_enter Try.func31, Try.ntmps31
    go_wp2_with fail
    refine (HV.out _).mono ?_
    rintro e w1 ⟨rfl, rfl⟩
    go_wp2_with fail
    refine bodyPost_ret (v := .tuple #[mat 0 0 (str []), .bool false]) (by simp [results, Try.results31, go_sem, str]) rfl ⟨rfl, by go_grown⟩
  · have HSd := Lib.hid (sides_no r c (by simpa using hb))
    clear hb
    go_enter Try.func31, Try.ntmps31
    go_wp2_with fail
    refine (HV.out _).mono ?_
    rintro e w1 ⟨rfl, rfl⟩
    go_wp2_with fail
    refine (HSd.out _).mono ?_
    rintro e w1 ⟨rfl, rfl⟩
    go_wp2_with fail
    refine bodyPost_ret (v := .tuple #[mat 0 0 (str []), .bool false]) (by simp [results, Try.results31, go_sem, str]) rfl ⟨rfl, by go_grown⟩
theorem bit_all {r x : Nat} (h : x < r) : (allN r).testBit x = true := by
  unfold allN
  rw [Nat.testBit_two_pow_sub_one]
  exact decide_eq_true h
/-- both find one matrix, or none -/
theorem both (s : ByteArray) (hs : s.size ≤ 1048576) (r c : Int) : ∃ (A B : Int) (u : ByteArray) (b : Bool),
    (∀ w, Calls Try.prog 31 #[.string s, .int .i64 r, .int .i64 c] w fun e w' => e = .returned (.tuple #[mat A B u, .bool b]) ∧ Below w.heap.size w w') ∧
    (∀ w, Calls Try.prog 32 #[.string s, .int .i64 r, .int .i64 c] w fun e w' => e = .returned (.tuple #[mat A B u, .bool b]) ∧ Below w.heap.size w w') := by
  by_cases hsd : Sides r c
  · obtain ⟨⟨r1, r2⟩, c1, c2⟩ := hsd
    obtain ⟨r', rfl⟩ : ∃ r' : Nat, r = (r' : Int) := ⟨r.toNat, by omega⟩
    obtain ⟨c', rfl⟩ : ∃ c' : Nat, c = (c' : Int) := ⟨c.toNat, by omega⟩
    rcases ok_or s with ⟨t, h1, h2, h3⟩ | h
    · obtain ⟨_, _, p3⟩ := pow_facts r' (by omega)
      obtain ⟨_, _, q3⟩ := pow_facts c' (by omega)
      refine ⟨r', c', str (rowsB (fun x y => (talkT t x y).2) r' c'), true, spec_yes s t h1 h2 h3 r' c' (by omega) (by omega), ?_⟩
      rw [show rowsB (fun x y => (talkT t x y).2) r' c' = rowsB (fun x y => (fB true (leavesT t (allN r') (allN c')) x).testBit y) r' c' from rowsB_congr fun x y hx hy => by
        rw [fB_bit, covered_talk true t (allN r') (allN c') x y p3 q3 (bit_all hx) (bit_all hy)]
        cases (talkT t x y).2 <;> rfl]
      exact MatI.impl_yes s t h1 h2 h3 r' c' (by omega) (by omega)
    · exact ⟨0, 0, str [], false, spec_no s false (valid_no s h hs) r' c' (.inl rfl), MatI.impl_nil s r' c' (allN r') (allN c') (in_yes s .nilIface (tree_no s h hs) r' c' (by omega) (by omega))⟩
  · have hi := MatI.impl_nil s r c 0 0 (fun W => in_bad s r c hsd W)
    rcases ok_or s with ⟨t, h1, h2, h3⟩ | h
    · exact ⟨0, 0, str [], false, spec_no s true (valid_said s t h1 h2 h3) r c (.inr hsd), hi⟩
    · exact ⟨0, 0, str [], false, spec_no s false (valid_no s h hs) r c (.inr hsd), hi⟩

set_option maxHeartbeats 4000000 in
set_option maxRecDepth 100000 in
theorem walk (s : ByteArray) (hs : s.size ≤ maxLen) (r : Int) (wr : (Lit.int .i64 r).wf = true) (c : Int) (wc : (Lit.int .i64 c).wf = true) (w : World) :
    Calls Try.prog 11 #[.string s, .int .i64 r, .int .i64 c] w fun e w' => e = .returned (.bool true) ∧ Below w.heap.size w w' := by
  unfold maxLen at hs
  by_cases hbig : 1048576 < s.size
  · go_enter Try.func11, Try.ntmps11
    go_wp2_with fail
    go_ret
    exact ⟨rfl, Below.refl _ _⟩
  obtain ⟨A, B, u, b, hspec, himpl⟩ := both s (by omega) r c
  have HS := Lib.hid hspec
  have HI := Lib.hid himpl
  replace hbig : s.size ≤ 1048576 := by omega
  clear hspec himpl wr wc hs
  go_enter Try.func11, Try.ntmps11
  go_wp2_with fail
  refine (HS.out _).mono ?_
  rintro e w3 ⟨rfl, hb3⟩
  have HB3 := Lib.hid hb3
  clear hb3
  go_wp2_with fail
  refine (HI.out _).mono ?_
  rintro e w5 ⟨rfl, hb5⟩
  obtain ⟨q0, q1, q2⟩ := three_of hb5
  have hz : w3.heap.size < w5.heap.size := by have := hb5.size; simp at this; omega
  have HB5 := Lib.hid (bstep (bstepA HB3.out _) hb5)
  clear hb5 HB3
  go_wp2_with fail
  refine (eq_same _ _ _ _).mono ?_
  rintro e w6 ⟨rfl, hb6⟩
  have HB6 := Lib.hid (bstep (bstepA HB5.out _) hb6)
  clear hb6 HB5
  cases b
  all_goals
    go_wp2_with fail
    go_ret
    exact ⟨rfl, HB6.out⟩
end Go.Proofs.Ytodfeaelidpckaa.fnExactMatrixOf
