/-
  The walk of the law on HeavyRect.
-/
import Derived.Test.YtgfhahlkffagaaaHvI
namespace Go.Proofs.Ytgfhahlkffagaaa.fnExactHeavyRect
open Go.RowKit Go.Shelf Go.Proofs.Ytgfhahlkffagaaa.Plain Go.Proofs.Ytgfhahlkffagaaa.Tree Go.Proofs.Ytgfhahlkffagaaa.Read Go.Proofs.Ytgfhahlkffagaaa.Rect Go.Proofs.Ytgfhahlkffagaaa.Parts Go.Proofs.Ytgfhahlkffagaaa.TreeOf Go.Proofs.Ytgfhahlkffagaaa.TreeIn Go.Proofs.Ytgfhahlkffagaaa.TrimT Go.Proofs.Ytgfhahlkffagaaa.CutT Go.Proofs.Ytgfhahlkffagaaa.SaidCut Go.Proofs.Ytgfhahlkffagaaa.HvI
open Go.Proofs.Ytgfhahlkffagaaa.Split (cells2)
set_option linter.unusedVariables false
set_option linter.unusedSimpArgs false

/-- the result's block -/
structure Rs (w wx : World) (B : Nat) : Prop where
  res : wx.heap[B]? = some (.cells #[.int .i64 0, .int .i64 0] 23 (0, 0))
  below : Below w.heap.size w wx
  size : w.heap.size = B
theorem Rs.later {w wx w2 : World} {B : Nat} (h : Rs w wx B) (hb : Below wx.heap.size wx w2) : Rs w w2 B :=
  ⟨(hb.block _ (Array.getElem?_eq_some_iff.1 h.res).1).trans h.res, h.below.trans (hb.mono h.below.size), h.size⟩
theorem Rs.start (w : World) (B : Nat) (hB : w.heap.size = B) : Rs w (w.alloc (.cells #[.int .i64 0, .int .i64 0] 23)) B := by
  subst hB
  exact ⟨heap_alloc_new w _, (Below.refl _ _).alloc (Nat.le_refl _) _, rfl⟩
theorem Rs.done {w w1 : World} {B : Nat} (h : Rs w w1 B) (x y : Int) : Below w.heap.size w ((w1.setCell ⟨B, 0, none⟩ (.int .i64 x)).setCell ⟨B, 1, none⟩ (.int .i64 y)) ∧
    ((w1.setCell ⟨B, 0, none⟩ (.int .i64 x)).setCell ⟨B, 1, none⟩ (.int .i64 y)).heap[B]? = some (.cells #[.int .i64 x, .int .i64 y] 23 (0, 0)) := by
  have hs := h.size
  exact ⟨Go.Proofs.Ytgfhahlkffagaaa.Split.set_below (Go.Proofs.Ytgfhahlkffagaaa.Split.set_below h.below (by omega)) (by omega), Go.Proofs.Ytgfhahlkffagaaa.Split.set_row 1 (Go.Proofs.Ytgfhahlkffagaaa.Split.set_row 0 h.res)⟩

set_option maxHeartbeats 2000000 in
set_option maxRecDepth 100000 in
theorem spec_nil (s : ByteArray) (r c : Int) (q : ByteArray) (hT : ∀ W : World, Calls Try.prog 22 #[.string s, .int .i64 r, .int .i64 c] W fun e w' => e = .returned (.tuple #[.string q, .bool false]) ∧ Below W.heap.size W w') (w : World) :
    Calls Try.prog 7 #[.string s, .int .i64 r, .int .i64 c] w fun e w' => e = .returned (.tuple #[rect 0 0, .bool false]) ∧ Below w.heap.size w w' := by
  have HT := Lib.hid hT
  obtain ⟨B, hB⟩ : ∃ B, w.heap.size = B := ⟨_, rfl⟩
  have H0 := Lib.hid (Rs.start w B hB)
  clear hT
  go_enter Try.func7, Try.ntmps7
  go_wp2_with fail
  refine (HT.out _).mono ?_
  rintro e w1 ⟨rfl, hb1⟩
  have H1 := Lib.hid (H0.out.later hb1)
  clear hb1 H0 HT hB
  obtain ⟨q0, q1, q2, q3⟩ := cells2 H1.out.res
  go_wp2_with fail
  obtain ⟨hb9, hc9⟩ := H1.out.done 0 0
  generalize ((w1.setCell ⟨B, 0, none⟩ (.int .i64 0)).setCell ⟨B, 1, none⟩ (.int .i64 0)) = w9 at *
  obtain ⟨k0, k1, _, _⟩ := cells2 hc9
  refine bodyPost_ret (v := .tuple #[rect 0 0, .bool false]) (by simp [results, Try.results7, go_sem, k0, k1]) rfl ⟨rfl, hb9⟩

set_option maxHeartbeats 4000000 in
set_option maxRecDepth 100000 in
theorem spec_some (s : ByteArray) (r c : Nat) (hr : 1 ≤ r ∧ r ≤ 8) (hc : 1 ≤ c ∧ c ≤ 8) (u : T) (hw : wf u) (hl : (text u).length ≤ 2000) (hT : ∀ W : World, Calls Try.prog 22 #[.string s, .int .i64 (r : Int), .int .i64 (c : Int)] W fun e w' => e = .returned (.tuple #[.string (str (text u)), .bool true]) ∧ Below W.heap.size W w') (w : World) :
    Calls Try.prog 7 #[.string s, .int .i64 (r : Int), .int .i64 (c : Int)] w fun e w' => e = .returned (heavyV u (allN r) (allN c)) ∧ Below w.heap.size w w' := by
  obtain ⟨_, p2, p3⟩ := pow_facts r hr
  obtain ⟨_, q2, q3⟩ := pow_facts c hc
  have HL := Lib.hid (said_ends u hw hl)
  have HWh := Lib.hid (whole_said r c hr hc)
  have hep := ends_pos u
  have hle := ends_le u
  have hH : 2 ≤ ends u → ∀ W : World, Calls Try.prog 24 #[.string (str (text u)), rect (allN r) (allN c), .int .i64 (ends u : Int), .string ⟨#[48]⟩] W fun e w' => e = .returned (.tuple #[.string (str (text (cutT (ends u) u (allN r) (allN c)).part)), rect (cutT (ends u) u (allN r) (allN c)).rows (cutT (ends u) u (allN r) (allN c)).cols, .string (str (text (cutT (ends u) u (allN r) (allN c)).rest))]) ∧ Below W.heap.size W w' :=
    fun h2 W => said_cut (ends u) h2 (by omega) u hw hl (allN r) (allN c) W p3 q3
  unfold heavyV
  generalize cutT (ends u) u (allN r) (allN c) = cu at *
  obtain ⟨pa, ra, ca, xa⟩ := cu
  simp only at hH ⊢
  obtain ⟨E, hEE⟩ : ∃ E, ends u = E := ⟨_, rfl⟩
  rw [hEE] at HL hep hle hH ⊢
  have HT := Lib.hid hT
  generalize str (text u) = q at *
  generalize str (text pa) = sp at *
  generalize str (text xa) = sx at *
  generalize allN r = M at *
  generalize allN c = N at *
  obtain ⟨B, hB⟩ : ∃ B, w.heap.size = B := ⟨_, rfl⟩
  have H0 := Lib.hid (Rs.start w B hB)
  clear hT hw hl hEE p2 p3 q2 q3
  by_cases h2 : E < 2
  · rw [if_pos h2]
    have h2i : (E : Int) < 2 := by omega
    clear hH HWh
    go_enter Try.func7, Try.ntmps7
    go_wp2_with fail
    refine (HT.out _).mono ?_
    rintro e w1 ⟨rfl, hb1⟩
    have H1 := Lib.hid (H0.out.later hb1)
    clear hb1 H0 HT hB
    go_wp2_with fail
    refine (HL.out _).mono ?_
    rintro e w2 ⟨rfl, hb2⟩
    have H2 := Lib.hid (H1.out.later hb2)
    clear hb2 H1 HL
    obtain ⟨q0, q1, q2, q3⟩ := cells2 H2.out.res
    go_wp2_with fail
    obtain ⟨hb9, hc9⟩ := H2.out.done 0 0
    generalize ((w2.setCell ⟨B, 0, none⟩ (.int .i64 0)).setCell ⟨B, 1, none⟩ (.int .i64 0)) = w9 at *
    obtain ⟨k0, k1, _, _⟩ := cells2 hc9
    refine bodyPost_ret (v := .tuple #[rect 0 0, .bool false]) (by simp [results, Try.results7, go_sem, k0, k1]) rfl ⟨rfl, hb9⟩
  · rw [if_neg h2]
    have h2i : ¬ (E : Int) < 2 := by omega
    have HH := Lib.hid (hH (by omega))
    clear hH
    go_enter Try.func7, Try.ntmps7
    go_wp2_with fail
    refine (HT.out _).mono ?_
    rintro e w1 ⟨rfl, hb1⟩
    have H1 := Lib.hid (H0.out.later hb1)
    clear hb1 H0 HT hB
    go_wp2_with fail
    refine (HL.out _).mono ?_
    rintro e w2 ⟨rfl, hb2⟩
    have H2 := Lib.hid (H1.out.later hb2)
    clear hb2 H1
    go_wp2_with fail
    refine (HWh.out _).mono ?_
    rintro e w3 ⟨rfl, hb3⟩
    have H3 := Lib.hid (H2.out.later hb3)
    clear hb3 H2 HWh
    go_wp2_with fail
    refine (HL.out _).mono ?_
    rintro e w4 ⟨rfl, hb4⟩
    have H4 := Lib.hid (H3.out.later hb4)
    clear hb4 H3 HL
    go_wp2_with fail
    refine (HH.out _).mono ?_
    rintro e w5 ⟨rfl, hb5⟩
    have H5 := Lib.hid (H4.out.later hb5)
    clear hb5 H4 HH
    obtain ⟨F, hF⟩ : ∃ F, w5.heap.size = F := ⟨_, rfl⟩
    have hn0 := heap_alloc_new w5 (.cells #[.int .i64 (ra : Int), .int .i64 (ca : Int)] 23)
    have H6 : Hid (Rs w (w5.alloc (.cells #[.int .i64 (ra : Int), .int .i64 (ca : Int)] 23)) B) := H5.out.later ((Below.refl _ _).alloc (Nat.le_refl _) _)
    have hlt : B < w5.heap.size := (Array.getElem?_eq_some_iff.1 H5.out.res).1
    rw [hF] at hn0 hlt
    have n1 : F ≠ B := by omega
    have n2 : B ≠ F := by omega
    obtain ⟨q0, q1, q2, q3⟩ := cells2 H6.out.res
    obtain ⟨r0, r1, r2, r3⟩ := cells2 hn0
    clear hlt hn0 H5
    go_wp2_with fail
    obtain ⟨hb9, hc9⟩ := H6.out.done (ra : Int) (ca : Int)
    generalize (((w5.alloc (.cells #[.int .i64 (ra : Int), .int .i64 (ca : Int)] 23)).setCell ⟨B, 0, none⟩ (.int .i64 (ra : Int))).setCell ⟨B, 1, none⟩ (.int .i64 (ca : Int))) = w9 at *
    obtain ⟨k0, k1, _, _⟩ := cells2 hc9
    refine bodyPost_ret (v := .tuple #[rect ra ca, .bool true]) (by simp [results, Try.results7, go_sem, k0, k1]) rfl ⟨rfl, hb9⟩

open Go.Proofs.Ytgfhahlkffagaaa.fnExactTrimProtocol (spec_yes spec_no spec_bad) in
theorem both (s : ByteArray) (hs : s.size ≤ 1048576) (r c : Int) : ∃ (A B : Int) (b : Bool), (∀ w, Calls Try.prog 7 #[.string s, .int .i64 r, .int .i64 c] w fun e w' => e = .returned (.tuple #[rect A B, .bool b]) ∧ Below w.heap.size w w') ∧
    (∀ w, Calls Try.prog 8 #[.string s, .int .i64 r, .int .i64 c] w fun e w' => e = .returned (.tuple #[rect A B, .bool b]) ∧ Below w.heap.size w w') := by
  by_cases hsd : Sides r c
  · obtain ⟨⟨r1, r2⟩, c1, c2⟩ := hsd
    obtain ⟨r', rfl⟩ : ∃ r' : Nat, r = (r' : Int) := ⟨r.toNat, by omega⟩
    obtain ⟨c', rfl⟩ : ∃ c' : Nat, c = (c' : Int) := ⟨c.toNat, by omega⟩
    have hr : 1 ≤ r' ∧ r' ≤ 8 := by omega
    have hc : 1 ≤ c' ∧ c' ≤ 8 := by omega
    obtain ⟨_, p2, p3⟩ := pow_facts r' hr
    obtain ⟨_, q2, q3⟩ := pow_facts c' hc
    rcases ok_or s with ⟨t, h1, h2, h3⟩ | h
    · have hl : (text (trimT t (allN r') (allN c'))).length ≤ 2000 := by
        have e1 := trim_length t (allN r') (allN c')
        have e2 : (text t).length = s.size := by rw [← h2]; simp
        omega
      have hS := spec_some s r' c' hr hc _ (trim_wf t _ _ p3 q3 h1) hl (spec_yes s t h1 h2 h3 r' c' hr hc)
      have hI := heavy_some s r' c' _ hl _ _ p3 q3 (trimmed_yes s t h1 h2 h3 r' c' hr hc)
      unfold heavyV at hS hI
      by_cases he : ends (trimT t (allN r') (allN c')) < 2
      · rw [if_pos he] at hS hI
        exact ⟨0, 0, false, hS, hI⟩
      · rw [if_neg he] at hS hI
        exact ⟨_, _, true, hS, hI⟩
    · exact ⟨0, 0, false, spec_nil s r' c' _ (spec_no s h hs r' c'), heavy_nil s r' c' 0 0 (trimmed_nil s r' c' _ _ (in_yes s .nilIface (tree_no s h hs) r' c' hr hc))⟩
  · have hi := heavy_nil s r c 0 0 (trimmed_nil s r c 0 0 (fun W => in_bad s r c hsd W))
    rcases ok_or s with ⟨t, h1, h2, h3⟩ | h
    · exact ⟨0, 0, false, spec_nil s r c _ (spec_bad s true (valid_said s t h1 h2 h3) r c hsd), hi⟩
    · exact ⟨0, 0, false, spec_nil s r c _ (spec_bad s false (valid_no s h hs) r c hsd), hi⟩

set_option maxHeartbeats 2000000 in
theorem walk (s : ByteArray) (hs : s.size ≤ maxLen) (r : Int) (wr : (Lit.int .i64 r).wf = true) (c : Int) (wc : (Lit.int .i64 c).wf = true) (w : World) :
    Calls Try.prog 3 #[.string s, .int .i64 r, .int .i64 c] w fun e w' => e = .returned (.bool true) ∧ Below w.heap.size w w' := by
  unfold maxLen at hs
  by_cases hbig : 1048576 < s.size
  · go_enter Try.func3, Try.ntmps3
    go_wp2_with fail
    go_ret
    exact ⟨rfl, Below.refl _ _⟩
  obtain ⟨A, B, b, hS, hI⟩ := both s (by omega) r c
  have HS := Lib.hid hS
  have HI := Lib.hid hI
  have HE := Lib.hid (fun W => eq_rect A B W)
  replace hbig : s.size ≤ 1048576 := by omega
  clear hS hI wr wc
  go_enter Try.func3, Try.ntmps3
  go_wp2_with fail
  refine (HS.out _).mono ?_
  rintro e w1 ⟨rfl, hb1⟩
  obtain ⟨D, hD⟩ : ∃ D, w1.heap.size = D := ⟨_, rfl⟩
  have hn0 := heap_alloc_new w1 (.cells #[.int .i64 A, .int .i64 B] 23)
  have hbA := hb1.alloc hb1.size (.cells #[.int .i64 A, .int .i64 B] 23)
  rw [hD] at hn0
  have HN0 := Lib.hid hn0
  have HBA := Lib.hid hbA
  clear hn0 hbA hb1 HS
  go_wp2_with fail
  generalize w1.alloc (.cells #[.int .i64 A, .int .i64 B] 23) = w2 at *
  refine (HI.out _).mono ?_
  rintro e w3 ⟨rfl, hb3⟩
  obtain ⟨F, hF⟩ : ∃ F, w3.heap.size = F := ⟨_, rfl⟩
  have hk0 := (hb3.block _ (Array.getElem?_eq_some_iff.1 HN0.out).1).trans HN0.out
  have hk1 := (heap_alloc_old w3 (.cells #[.int .i64 A, .int .i64 B] 23) (Array.getElem?_eq_some_iff.1 hk0).1).trans hk0
  have hn1 := heap_alloc_new w3 (.cells #[.int .i64 A, .int .i64 B] 23)
  rw [hF] at hn1
  have HBB := Lib.hid (HBA.out.trans (hb3.mono HBA.out.size))
  have HBC := Lib.hid (HBB.out.alloc HBB.out.size (.cells #[.int .i64 A, .int .i64 B] 23))
  obtain ⟨q0, q1, q2, q3⟩ := cells2 hk1
  obtain ⟨r0, r1, r2, r3⟩ := cells2 hn1
  clear hk0 hk1 hn1 hb3 HI HN0 HBA HBB hD
  go_wp2_with fail
  generalize w3.alloc (.cells #[.int .i64 A, .int .i64 B] 23) = w4 at *
  refine (HE.out _).mono ?_
  rintro e w5 ⟨rfl, hb5⟩
  have HB := Lib.hid (HBC.out.trans (hb5.mono HBC.out.size))
  clear hb5
  have hbb : (b != b) = false := by cases b <;> rfl
  go_wp2_with fail
  go_ret
  exact ⟨rfl, HB.out⟩
end Go.Proofs.Ytgfhahlkffagaaa.fnExactHeavyRect
