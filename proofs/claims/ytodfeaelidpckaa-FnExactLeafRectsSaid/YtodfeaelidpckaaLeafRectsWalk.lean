/-
  The walk of the law on LeafRects.
-/
import Derived.Test.YtodfeaelidpckaaLeafRectsI
import Derived.Test.YtodfeaelidpckaaMarksP
namespace Go.Proofs.Ytodfeaelidpckaa.fnExactLeafRects
open Go.RowKit Go.Shelf Go.Proofs.Ytodfeaelidpckaa.Plain Go.Proofs.Ytodfeaelidpckaa.Tree Go.Proofs.Ytodfeaelidpckaa.Read Go.Proofs.Ytodfeaelidpckaa.Rect Go.Proofs.Ytodfeaelidpckaa.TreeOf Go.Proofs.Ytodfeaelidpckaa.TreeIn Go.Proofs.Ytodfeaelidpckaa.App Go.Proofs.Ytodfeaelidpckaa.Leaf Go.Proofs.Ytodfeaelidpckaa.LeafRectsI Go.Proofs.Ytodfeaelidpckaa.Rects Go.Proofs.Ytodfeaelidpckaa.Marks
open Go.Proofs.Ytodfeaelidpckaa.SaidRects (said_rects)
set_option linter.unusedVariables false
set_option linter.unusedSimpArgs false

theorem leaves_few : ∀ (t : T) (R C : Nat), 4 * (leavesT t R C).length ≤ (text t).length + 3
  | .leaf _, R, C => by simp only [leavesT]; split <;> simp [text]
  | .say a s z o, R, C => by
    have h1 := leaves_few z (TrimT.outR a s R) (TrimT.outC a s C)
    have h2 := leaves_few o (TrimT.inR a s R) (TrimT.inC a s C)
    simp only [leavesT, text, List.length_append, List.length_cons]
    omega
def pairs (l : List (Nat × Nat × Bool)) : List (Int × Int) := l.map fun p => ((p.1 : Int), (p.2.1 : Int))
theorem flat_pairs (l : List (Nat × Nat × Bool)) : flat (pairs l) = cellsR l := by
  simp only [flat, pairs, cellsR, List.flatMap_map]
theorem pairs_len (l : List (Nat × Nat × Bool)) : (pairs l).length = l.length := by simp [pairs]

set_option maxHeartbeats 4000000 in
set_option maxRecDepth 100000 in
theorem spec_yes (s : ByteArray) (t : T) (hw : wf t) (h : s.data.toList = text t) (hs : s.size ≤ 2000) (r c : Nat) (hr : 1 ≤ r ∧ r ≤ 8) (hc : 1 ≤ c ∧ c ≤ 8) (w : World) :
    Calls Try.prog 26 #[.string s, .int .i64 (r : Int), .int .i64 (c : Int)] w fun e w' => ∃ v, e = .returned v ∧ Own w w' 57 2 v (leavesT t (allN r) (allN c)).length (cellsR (leavesT t (allN r) (allN c))) := by
  have HV := Lib.hid (valid_said s t hw h hs)
  have HSd := Lib.hid (sides_yes (r : Int) (c : Int) ⟨by omega, by omega⟩)
  have HWh := Lib.hid (whole_said r c hr hc)
  obtain ⟨_, p2, p3⟩ := pow_facts r hr
  obtain ⟨_, q2, q3⟩ := pow_facts c hc
  have hl : (text t).length = s.size := by rw [← h]; simp
  have HL := Lib.hid (fun W => said_rects t hw (by omega) (allN r) (allN c) W p3 q3)
  have e : s = str (text t) := eq_str h
  rw [← e] at HL
  generalize leavesT t (allN r) (allN c) = LA at *
  clear h e hl hw p2 p3 q2 q3
  go_enter Try.func26, Try.ntmps26
  go_wp2_with fail
  refine (HV.out _).mono ?_
  rintro e w1 ⟨rfl, rfl⟩
  go_wp2_with fail
  refine (HSd.out _).mono ?_
  rintro e w1 ⟨rfl, rfl⟩
  go_wp2_with fail
  refine (HWh.out _).mono ?_
  rintro e w2 ⟨rfl, hb2⟩
  go_wp2_with fail
  refine (HL.out _).mono ?_
  rintro e w3 ⟨v, rfl, hO⟩
  obtain ⟨vp, vc, rfl⟩ := hO.slice
  have HF := Lib.hid (Leaf.Own.lower hO hb2)
  clear hb2 hO
  go_wp2_with fail
  go_ret
  exact ⟨_, rfl, HF.out⟩
theorem lit_own (w w1 : World) (hb : Below w.heap.size w w1) : Own w (w1.alloc (.cells #[] 57)) 57 2 (.slice (some ⟨w1.heap.size, 0, none⟩) 0 0) 0 [] :=
  ⟨World.ownsRow_lit (base := w.heap.size) (e := 57) (size := 2) w1 #[] 0 hb.size (by unfold maxLen; omega) rfl, hb.alloc hb.size _⟩
set_option maxHeartbeats 1000000 in
theorem spec_no (s : ByteArray) (b : Bool) (hV : ∀ W : World, Calls Try.prog 12 #[.string s] W fun e w' => e = .returned (.bool b) ∧ W = w') (r c : Int) (hb : b = false ∨ ¬ Sides r c) (w : World) :
    Calls Try.prog 26 #[.string s, .int .i64 r, .int .i64 c] w fun e w' => ∃ v, e = .returned v ∧ Own w w' 57 2 v 0 [] := by
  have HV := Lib.hid hV
  have HOn := Lib.hid (lit_own w w (Below.refl _ _))
  clear hV
  cases b
  · clear hb
    go_enter Try.func26, Try.ntmps26
    go_wp2_with fail
    refine (HV.out _).mono ?_
    rintro e w1 ⟨rfl, rfl⟩
    go_wp2_with fail
    go_ret
    exact ⟨_, rfl, HOn.out⟩
  · have HSd := Lib.hid (sides_no r c (by simpa using hb))
    clear hb
    go_enter Try.func26, Try.ntmps26
    go_wp2_with fail
    refine (HV.out _).mono ?_
    rintro e w1 ⟨rfl, rfl⟩
    go_wp2_with fail
    refine (HSd.out _).mono ?_
    rintro e w1 ⟨rfl, rfl⟩
    go_wp2_with fail
    go_ret
    exact ⟨_, rfl, HOn.out⟩
theorem both (s : ByteArray) (hs : s.size ≤ 1048576) (r c : Int) : ∃ ts : List (Int × Int), ts.length ≤ 1000 ∧ (∀ w, Calls Try.prog 26 #[.string s, .int .i64 r, .int .i64 c] w fun e w' => ∃ v, e = .returned v ∧ Own w w' 57 2 v ts.length (flat ts)) ∧
    (∀ w, Calls Try.prog 27 #[.string s, .int .i64 r, .int .i64 c] w fun e w' => ∃ v, e = .returned v ∧ Own w w' 57 2 v ts.length (flat ts)) := by
  by_cases hsd : Sides r c
  · obtain ⟨⟨r1, r2⟩, c1, c2⟩ := hsd
    obtain ⟨r', rfl⟩ : ∃ r' : Nat, r = (r' : Int) := ⟨r.toNat, by omega⟩
    obtain ⟨c', rfl⟩ : ∃ c' : Nat, c = (c' : Int) := ⟨c.toNat, by omega⟩
    rcases ok_or s with ⟨t, h1, h2, h3⟩ | h
    · have hl : (text t).length = s.size := by rw [← h2]; simp
      have hf := leaves_few t (allN r') (allN c')
      refine ⟨pairs (leavesT t (allN r') (allN c')), by rw [pairs_len]; omega, ?_, ?_⟩
      · rw [pairs_len, flat_pairs]
        exact spec_yes s t h1 h2 h3 r' c' (by omega) (by omega)
      · rw [pairs_len, flat_pairs]
        exact LeafRectsI.impl_yes s t h1 h2 h3 r' c' (by omega) (by omega)
    · exact ⟨[], by simp, spec_no s false (valid_no s h hs) r' c' (.inl rfl), LeafRectsI.impl_nil s r' c' (allN r') (allN c') (in_yes s .nilIface (tree_no s h hs) r' c' (by omega) (by omega))⟩
  · have hi := LeafRectsI.impl_nil s r c 0 0 (fun W => in_bad s r c hsd W)
    rcases ok_or s with ⟨t, h1, h2, h3⟩ | h
    · exact ⟨[], by simp, spec_no s true (valid_said s t h1 h2 h3) r c (.inr hsd), hi⟩
    · exact ⟨[], by simp, spec_no s false (valid_no s h hs) r c (.inr hsd), hi⟩
theorem rv_on {w w1 : World} {v : Value} {xs : List (Int × Int)} (h : RV w w.heap.size v xs) (hb : Below w.heap.size w w1) : RV w1 w1.heap.size v xs := (h.later (Nat.le_refl _) hb).mono hb.size

set_option maxHeartbeats 4000000 in
set_option maxRecDepth 100000 in
theorem walk (s : ByteArray) (hs : s.size ≤ maxLen) (r : Int) (wr : (Lit.int .i64 r).wf = true) (c : Int) (wc : (Lit.int .i64 c).wf = true) (w : World) :
    Calls Try.prog 10 #[.string s, .int .i64 r, .int .i64 c] w fun e w' => e = .returned (.bool true) ∧ Below w.heap.size w w' := by
  unfold maxLen at hs
  by_cases hbig : 1048576 < s.size
  · go_enter Try.func10, Try.ntmps10
    go_wp2_with fail
    go_ret
    exact ⟨rfl, Below.refl _ _⟩
  obtain ⟨ts, hln, hS, hI⟩ := both s (by omega) r c
  have HS := Lib.hid hS
  have HI := Lib.hid hI
  have HLN := Lib.hid hln
  replace hbig : s.size ≤ 1048576 := by omega
  clear hS hI hln wr wc hs
  go_enter Try.func10, Try.ntmps10
  go_wp2_with fail
  refine (HS.out _).mono ?_
  rintro e w3 ⟨v0, rfl, ho0⟩
  have R4 := Lib.hid (rv_own ho0.row HLN.out)
  have HB4 := Lib.hid ho0.below
  obtain ⟨u0, u1, hu⟩ := ho0.slice
  subst hu
  clear ho0
  go_wp2_with fail
  refine (HI.out _).mono ?_
  rintro e w5 ⟨v1, rfl, ho1⟩
  have HO1 := Lib.hid ho1
  have hr1 := rv_own ho1.row HLN.out
  have hr0 := rv_on R4.out ho1.below
  clear ho1
  go_wp2_with fail
  refine (eq_rects ts v1 _ _ hr1 hr0).mono ?_
  rintro e w6 ⟨rfl, hb6⟩
  have HO6 := Lib.hid (HO1.out.later hb6)
  clear hb6 hr1 hr0 HO1
  go_wp2_with fail
  refine (Marks.mark w3 w6 v1 ts HLN.out HO6.out.below HO6.out.row).mono ?_
  rintro e w7 ⟨rfl, hr1, hb7⟩
  have R7 := Lib.hid hr1
  have R0 := Lib.hid (rv_on R4.out hb7)
  have HB7 := Lib.hid (HB4.out.trans (hb7.mono HB4.out.size))
  clear hr1 hb7 HO6 HB4 R4
  have HHELD := Lib.hid (fun W h => held v1 ts.length HLN.out W h)
  obtain ⟨Q, hQ⟩ : ∃ Q : Nat, 1 + 2 * ts.length = Q := ⟨_, rfl⟩
  rw [hQ] at HHELD ⊢
  clear hQ
  have hneg : ¬ ((Q : Nat) : Int) < 0 := by omega
  go_wp2_with fail
  refine (HHELD.out _ R7.out).mono ?_
  rintro e w' ⟨rfl, rfl⟩
  go_wp2_with fail
  refine (HI.out _).mono ?_
  rintro e w9 ⟨v2, rfl, ho2⟩
  have hr2 := rv_own ho2.row HLN.out
  have R9 := Lib.hid (rv_on R7.out ho2.below)
  have hr0 := rv_on R0.out ho2.below
  have HB9 := Lib.hid (HB7.out.trans (ho2.below.mono HB7.out.size))
  clear ho2 R7 R0 HB7
  go_wp2_with fail
  refine (eq_rects ts v2 _ _ hr2 hr0).mono ?_
  rintro e w10 ⟨rfl, hb10⟩
  have R10 := Lib.hid (rv_on R9.out hb10)
  have HB10 := Lib.hid (HB9.out.trans (hb10.mono HB9.out.size))
  clear hb10 R9 HB9 hr2 hr0
  go_wp2_with fail
  refine (HHELD.out _ R10.out).mono ?_
  rintro e w' ⟨rfl, rfl⟩
  go_wp2_with fail
  go_ret
  exact ⟨rfl, HB10.out⟩
end Go.Proofs.Ytodfeaelidpckaa.fnExactLeafRects
