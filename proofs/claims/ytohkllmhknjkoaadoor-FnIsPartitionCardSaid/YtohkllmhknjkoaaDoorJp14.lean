/-
  Texts of one seat, joined: InRectWalk, EntWalk, CountWalk.
-/
import Derived.Test.YtohkllmhknjkoaaDoorJp1
import Derived.Test.YtohkllmhknjkoaaDoorJp4
import Derived.Deep.WholeRow
import Derived.Test.YtohkllmhknjkoaaDoorJp3
import Derived.Shelf.Strings.Count
/-
  The walk of the law on InRect.
-/
namespace Go.Proofs.YtohkllmhknjkoaaDoor.fnExactInRect
open Go.RowKit Go.Proofs.YtohkllmhknjkoaaDoor.Plain Go.Proofs.YtohkllmhknjkoaaDoor.Pat Go.Proofs.YtohkllmhknjkoaaDoor.Rect
set_option linter.unusedVariables false

set_option maxHeartbeats 1000000 in
theorem spec_yes (R C x y : Nat) (hR1 : 1 ≤ R) (hR : R < 256) (hC1 : 1 ≤ C) (hC : C < 256) (hx : x < 8) (hy : y < 8) (w : World) :
    Calls Tryd.prog 73 #[rect R C, .int .i64 (x : Int), .int .i64 (y : Int)] w fun e w' => e = .returned (.bool (R.testBit x && C.testBit y)) ∧ Below w.heap.size w w' := by
  have HS := Lib.hid (show someB R C = true by rw [someB_iff]; omega)
  obtain ⟨b1, h1⟩ : ∃ b, R.testBit x = b := ⟨_, rfl⟩
  obtain ⟨b2, h2⟩ : ∃ b, C.testBit y = b := ⟨_, rfl⟩
  rw [h1, h2]
  have H1 := Lib.hid h1
  have H2 := Lib.hid h2
  clear h1 h2
  go_enter Tryd.func73, Tryd.ntmps73
  go_wp2_with fail
  refine (some_any _ _ _).mono ?_
  rintro e w1 ⟨rfl, hb1⟩
  rw [HS.out]
  obtain ⟨c0, c1, hz, HB⟩ := box2 hb1
  clear hb1
  go_wp2_with fail
  refine (in_any _ _ _ _).mono ?_
  rintro e w' ⟨rfl, rfl⟩
  rw [decide_eq_true (by omega)]
  go_wp2_with fail
  refine (in_any _ _ _ _).mono ?_
  rintro e w' ⟨rfl, rfl⟩
  rw [decide_eq_true (by omega)]
  go_wp2_with fail
  refine (l2In_any R x hR hx _).mono ?_
  rintro e w' ⟨rfl, rfl⟩
  rw [H1.out]
  cases b1
  · go_wp2_with fail
    go_ret
    exact ⟨rfl, HB.out⟩
  · go_wp2_with fail
    refine (l2In_any C y hC hy _).mono ?_
    rintro e w' ⟨rfl, rfl⟩
    rw [H2.out]
    go_wp2_with fail
    go_ret
    exact ⟨rfl, HB.out⟩
set_option maxHeartbeats 1000000 in
theorem spec_none (r c x y : Int) (h : someB r c = false) (w : World) :
    Calls Tryd.prog 73 #[rect r c, .int .i64 x, .int .i64 y] w fun e w' => e = .returned (.bool false) ∧ Below w.heap.size w w' := by
  have HS := Lib.hid h
  clear h
  go_enter Tryd.func73, Tryd.ntmps73
  go_wp2_with fail
  refine (some_any _ _ _).mono ?_
  rintro e w1 ⟨rfl, hb1⟩
  rw [HS.out]
  obtain ⟨c0, c1, hz, HB⟩ := box2 hb1
  clear hb1
  go_wp2_with fail
  go_ret
  exact ⟨rfl, HB.out⟩
set_option maxHeartbeats 1000000 in
theorem spec_x (r c x y : Int) (h : someB r c = true) (hx : ¬ (0 ≤ x ∧ x ≤ 7)) (w : World) :
    Calls Tryd.prog 73 #[rect r c, .int .i64 x, .int .i64 y] w fun e w' => e = .returned (.bool false) ∧ Below w.heap.size w w' := by
  have HS := Lib.hid h
  have HX := Lib.hid hx
  clear h hx
  go_enter Tryd.func73, Tryd.ntmps73
  go_wp2_with fail
  refine (some_any _ _ _).mono ?_
  rintro e w1 ⟨rfl, hb1⟩
  rw [HS.out]
  obtain ⟨c0, c1, hz, HB⟩ := box2 hb1
  clear hb1
  go_wp2_with fail
  refine (in_any _ _ _ _).mono ?_
  rintro e w' ⟨rfl, rfl⟩
  rw [decide_eq_false HX.out]
  go_wp2_with fail
  go_ret
  exact ⟨rfl, HB.out⟩
set_option maxHeartbeats 1000000 in
theorem spec_y (r c x y : Int) (h : someB r c = true) (hx : 0 ≤ x ∧ x ≤ 7) (hy : ¬ (0 ≤ y ∧ y ≤ 7)) (w : World) :
    Calls Tryd.prog 73 #[rect r c, .int .i64 x, .int .i64 y] w fun e w' => e = .returned (.bool false) ∧ Below w.heap.size w w' := by
  have HS := Lib.hid h
  have HX := Lib.hid hx
  have HY := Lib.hid hy
  clear h hx hy
  go_enter Tryd.func73, Tryd.ntmps73
  go_wp2_with fail
  refine (some_any _ _ _).mono ?_
  rintro e w1 ⟨rfl, hb1⟩
  rw [HS.out]
  obtain ⟨c0, c1, hz, HB⟩ := box2 hb1
  clear hb1
  go_wp2_with fail
  refine (in_any _ _ _ _).mono ?_
  rintro e w' ⟨rfl, rfl⟩
  rw [decide_eq_true HX.out]
  go_wp2_with fail
  refine (in_any _ _ _ _).mono ?_
  rintro e w' ⟨rfl, rfl⟩
  rw [decide_eq_false HY.out]
  go_wp2_with fail
  go_ret
  exact ⟨rfl, HB.out⟩

set_option maxHeartbeats 1000000 in
/-- the program's, where each test is told -/
theorem impl_yes (r c x y : Int) (h : someB r c = true) (b1 b2 : Bool)
    (h1 : ∀ W : World, Calls Tryd.prog 77 #[.int .i64 r, .int .i64 x] W fun e w' => e = .returned (.bool b1) ∧ W = w')
    (h2 : ∀ W : World, Calls Tryd.prog 77 #[.int .i64 c, .int .i64 y] W fun e w' => e = .returned (.bool b2) ∧ W = w') (w : World) :
    Calls Tryd.prog 27 #[rect r c, .int .i64 x, .int .i64 y] w fun e w' => e = .returned (.bool (b1 && b2)) ∧ Below w.heap.size w w' := by
  have HS := Lib.hid h
  have H1 := Lib.hid h1
  have H2 := Lib.hid h2
  clear h h1 h2
  go_enter Tryd.func27, Tryd.ntmps27
  go_wp2_with fail
  refine (rect_any _ _ _).mono ?_
  rintro e w1 ⟨rfl, hb1⟩
  rw [HS.out]
  obtain ⟨c0, c1, hz, HB⟩ := box2 hb1
  clear hb1
  go_wp2_with fail
  refine (H1.out _).mono ?_
  rintro e w' ⟨rfl, rfl⟩
  cases b1
  · go_wp2_with fail
    go_ret
    exact ⟨rfl, HB.out⟩
  · go_wp2_with fail
    refine (H2.out _).mono ?_
    rintro e w' ⟨rfl, rfl⟩
    go_wp2_with fail
    go_ret
    exact ⟨rfl, HB.out⟩
set_option maxHeartbeats 1000000 in
theorem impl_none (r c x y : Int) (h : someB r c = false) (w : World) :
    Calls Tryd.prog 27 #[rect r c, .int .i64 x, .int .i64 y] w fun e w' => e = .returned (.bool false) ∧ Below w.heap.size w w' := by
  have HS := Lib.hid h
  clear h
  go_enter Tryd.func27, Tryd.ntmps27
  go_wp2_with fail
  refine (rect_any _ _ _).mono ?_
  rintro e w1 ⟨rfl, hb1⟩
  rw [HS.out]
  obtain ⟨c0, c1, hz, HB⟩ := box2 hb1
  clear hb1
  go_wp2_with fail
  go_ret
  exact ⟨rfl, HB.out⟩

/-- a set's test, whatever the number -/
theorem inSet_any (s : Nat) (hs : s < 256) (i : Int) : ∃ b : Bool, ∀ W : World, Calls Tryd.prog 77 #[.int .i64 (s : Int), .int .i64 i] W fun e w' => e = .returned (.bool b) ∧ W = w' := by
  by_cases h : 0 ≤ i ∧ i < 8
  · obtain ⟨k, rfl⟩ := Int.eq_ofNat_of_zero_le h.1
    exact ⟨_, fun W => inSet_yes s k hs (by omega) W⟩
  · exact ⟨false, fun W => inSet_no s i (by omega) W⟩

/-- both find one truth value -/
theorem both (r c x y : Int) : ∃ v : Bool,
    (∀ w, Calls Tryd.prog 73 #[rect r c, .int .i64 x, .int .i64 y] w fun e w' => e = .returned (.bool v) ∧ Below w.heap.size w w') ∧
    (∀ w, Calls Tryd.prog 27 #[rect r c, .int .i64 x, .int .i64 y] w fun e w' => e = .returned (.bool v) ∧ Below w.heap.size w w') := by
  by_cases h : someB r c = true
  · have hh := (someB_iff r c).1 h
    obtain ⟨R, rfl⟩ := Int.eq_ofNat_of_zero_le (show 0 ≤ r by omega)
    obtain ⟨C, rfl⟩ := Int.eq_ofNat_of_zero_le (show 0 ≤ c by omega)
    by_cases hx : 0 ≤ x ∧ x ≤ 7
    · by_cases hy : 0 ≤ y ∧ y ≤ 7
      · obtain ⟨X, rfl⟩ := Int.eq_ofNat_of_zero_le hx.1
        obtain ⟨Y, rfl⟩ := Int.eq_ofNat_of_zero_le hy.1
        exact ⟨_, fun w => spec_yes R C X Y (by omega) (by omega) (by omega) (by omega) (by omega) (by omega) w,
          fun w => impl_yes R C X Y h _ _ (fun W => inSet_yes R X (by omega) (by omega) W) (fun W => inSet_yes C Y (by omega) (by omega) W) w⟩
      · obtain ⟨b, hb⟩ := inSet_any R (by omega) x
        refine ⟨false, fun w => spec_y R C x y h hx hy w, fun w => ?_⟩
        have := impl_yes R C x y h b false hb (fun W => inSet_no C y (by omega) W) w
        rwa [Bool.and_false] at this
    · obtain ⟨b, hb⟩ := inSet_any C (by omega) y
      refine ⟨false, fun w => spec_x R C x y h hx w, fun w => ?_⟩
      have := impl_yes R C x y h false b (fun W => inSet_no R x (by omega) W) hb w
      rwa [Bool.false_and] at this
  · have h' : someB r c = false := by simpa using h
    exact ⟨false, fun w => spec_none r c x y h' w, fun w => impl_none r c x y h' w⟩

end Go.Proofs.YtohkllmhknjkoaaDoor.fnExactInRect

/-
  The walk of the law on EntryOf.
-/
namespace Go.Proofs.YtohkllmhknjkoaaDoor.fnExactEntryOf
open Go.RowKit Go.Proofs.YtohkllmhknjkoaaDoor.Plain Go.Proofs.YtohkllmhknjkoaaDoor.Base Go.Proofs.YtohkllmhknjkoaaDoor.Valid Go.Proofs.YtohkllmhknjkoaaDoor.Law Go.Proofs.YtohkllmhknjkoaaDoor.GridPlain Go.Proofs.YtohkllmhknjkoaaDoor.Grid Go.Proofs.YtohkllmhknjkoaaDoor.Entry
set_option linter.unusedVariables false

set_option maxHeartbeats 1000000 in
set_option maxRecDepth 100000 in
/-- the program's EntryOf, whatever grid gridOf tells -/
theorem impl_of (r c : Int) (s : ByteArray) (x y : Int) (R C : Int) (f : Nat → Int) (v : Int) (w : World)
    (hg : ∀ W : World, Calls Tryd.prog 78 #[mat r c s] W fun e w' => e = .returned (gval R C f) ∧ Below W.heap.size W w')
    (hv : (¬ ((0 ≤ x ∧ x < R) ∧ (0 ≤ y ∧ y < C)) ∧ v = -1) ∨ (∃ a b : Nat, x = a ∧ y = b ∧ a < 8 ∧ b < 8 ∧ ((0 ≤ x ∧ x < R) ∧ (0 ≤ y ∧ y < C)) ∧ v = f (8 * a + b))) :
    Calls Tryd.prog 28 #[mat r c s, .int .i64 x, .int .i64 y] w fun e w' => e = .returned (.int .i64 v) ∧ Below w.heap.size w w' := by
  have HG := Lib.hid hg
  clear hg
  have HV := Lib.hid hv
  clear hv
  go_enter Tryd.func28, Tryd.ntmps28
  go_wp2_with fail
  refine (HG.out _).mono ?_
  rintro e w1 ⟨rfl, hb1⟩
  have HB1 := Lib.hid (bstep ((Below.refl w.heap.size w).alloc (Nat.le_refl _) _) hb1)
  clear hb1
  go_wp2_with (first | (refine wpList_store_row rfl 96 (.tmp 7) (.tmp 9) rfl w1.heap.size (gcells R C f) rfl rfl 96 _ (heap_alloc_new w1 _) (ginfo' _ _ _) (by rw [gzero, gsize, gsize]) (gone _ _ _) ?_; rw [World.setRow_alloc_new]) | (refine wpList_load_row rfl 96 (.tmp 7) rfl w1.heap.size rfl 96 (gcells R C f) (0, 0) _ (heap_alloc_new w1 _) Tryd.underlying96 rfl (ginfo' _ _ _) ?_))
  refine (has_any R C f x y _).mono ?_
  rintro e w2 ⟨rfl, hb2⟩
  have h2 : w2.heap[w1.heap.size]? = some (.cells (gcells R C f) 96 (0, 0)) := (hb2.block _ (by simp)).trans (heap_alloc_new w1 _)
  have H2 := Lib.hid h2
  have HB2 := Lib.hid (bstep (bstepA HB1.out _) hb2)
  clear h2 hb2 HB1
  rcases HV.out with ⟨hno, rfl⟩ | ⟨a, b, rfl, rfl, ha, hb, hin, rfl⟩
  · rw [decide_eq_false hno]
    clear hno HV
    go_wp2_with fail
    go_ret
    exact ⟨rfl, HB2.out⟩
  · rw [decide_eq_true hin]
    clear hin HV
    go_wp2_with (have X := H2.out; refine wpList_load_row rfl 96 (.tmp 7) rfl w1.heap.size rfl 96 (gcells R C f) (0, 0) _ X Tryd.underlying96 rfl (ginfo' _ _ _) ?_; clear X)
    refine (entry_any R C f a b ha hb _).mono ?_
    rintro e w3 ⟨rfl, hb3⟩
    have HB3 := Lib.hid (bstep HB2.out hb3)
    clear hb3
    go_wp2_with fail
    go_ret
    exact ⟨rfl, HB3.out⟩

/-- m's box later on -/
theorem box3 {w w1 : World} {a b c : Value} {T : TypeId} (hb : Below (w.alloc (.cells #[a, b, c] T)).heap.size (w.alloc (.cells #[a, b, c] T)) w1) :
    w1.cell? ⟨w.heap.size, 0, none⟩ = some a ∧ w1.cell? ⟨w.heap.size, 1, none⟩ = some b ∧ w1.cell? ⟨w.heap.size, 2, none⟩ = some c ∧ w.heap.size < w1.heap.size ∧ Hid (Below w.heap.size w w1) := by
  obtain ⟨h0, h1, h2⟩ := three_of hb
  exact ⟨h0, h1, h2, by have := hb.size; simp at this; omega, bstep ((Below.refl w.heap.size w).alloc (Nat.le_refl _) _) hb⟩

set_option maxHeartbeats 400000 in
theorem int_any (b : Bool) (w : World) :
    Calls Tryd.prog 71 #[.bool b] w fun e w' => e = .returned (.int .i64 (bitI b)) ∧ w = w' := by
  cases b
  all_goals
    go_enter Tryd.func71, Tryd.ntmps71
    go_wp2
    go_ret
    exact ⟨rfl, rfl⟩

end Go.Proofs.YtohkllmhknjkoaaDoor.fnExactEntryOf

/-
  The walk of the law on CountOnes.
-/
namespace Go.Proofs.YtohkllmhknjkoaaDoor.fnExactCountOnes
open Go.RowKit Go.Proofs.YtohkllmhknjkoaaDoor.Plain Go.Proofs.YtohkllmhknjkoaaDoor.Base Go.Proofs.YtohkllmhknjkoaaDoor.Valid Go.Proofs.YtohkllmhknjkoaaDoor.Law
set_option linter.unusedVariables false

/-- what CountOnes returns -/
def cntI (r c : Int) (s : ByteArray) : Int := if validB r c s then (Lib.countByte s.data.toList 49 : Nat) else -1

theorem count_any (s : ByteArray) (w : World) :
    Calls Tryd.prog 89 #[.string s, .string ⟨#[49]⟩] w fun e w' => e = .returned (.int .i64 (Lib.countByte s.data.toList 49 : Nat)) ∧ w' = w :=
  Any.strings_Count_one Tryd.lays138 s 49 w

set_option maxHeartbeats 400000 in
theorem impl_count (r c : Int) (s : ByteArray) (hs : s.size ≤ maxLen) (w : World) :
    Calls Tryd.prog 35 #[mat r c s] w fun e w' => e = .returned (.int .i64 (cntI r c s)) ∧ Below w.heap.size w w' := by
  unfold cntI
  obtain ⟨b, hb⟩ : ∃ b, validB r c s = b := ⟨_, rfl⟩
  rw [hb]
  have HV := Lib.hid hb
  clear hb
  go_enter Tryd.func35, Tryd.ntmps35
  go_wp2_with fail
  refine (impl_valid r c s hs _).mono ?_
  rintro e w1 ⟨rfl, hb1⟩
  rw [HV.out]
  have HB := Lib.hid (bstep ((Below.refl w.heap.size w).alloc (Nat.le_refl _) _) hb1)
  obtain ⟨hc, hf⟩ := bcell hb1
  clear hb1
  cases b
  · go_wp2_with fail
    go_ret
    exact ⟨rfl, HB.out⟩
  · go_wp2_with fail
    refine (count_any s _).mono ?_
    rintro e w2 ⟨rfl, rfl⟩
    go_wp2_with fail
    go_ret
    exact ⟨rfl, HB.out⟩

set_option maxHeartbeats 400000 in
theorem l1Int_any (b : Bool) (w : World) :
    Calls Tryd.prog 71 #[.bool b] w fun e w' => e = .returned (.int .i64 (bitI b)) ∧ w = w' := by
  cases b
  all_goals
    go_enter Tryd.func71, Tryd.ntmps71
    go_wp2
    go_ret
    exact ⟨rfl, rfl⟩

theorem count_next (s : ByteArray) (k : Nat) (hk : k < s.size) (b : Bool) (hb : ((s[k].toNat : Int) == 49) = b) :
    ((Lib.countByte (s.data.toList.take (k + 1)) 49 : Nat) : Int) = ((Lib.countByte (s.data.toList.take k) 49 : Nat) : Int) + bitI b := by
  have ht : s.data.toList.take (k + 1) = s.data.toList.take k ++ [s[k]] := by
    rw [List.take_succ_eq_append_getElem (by simpa using hk)]; rfl
  rw [ht]
  unfold Lib.countByte
  rw [List.count_append]
  subst hb
  by_cases h : s[k] = 49
  · rw [h]; rfl
  · have h2 : ((s[k].toNat : Int) == 49) = false := beq_eq_false_iff_ne.2 fun e => h (UInt8.toNat_inj.1 (by show s[k].toNat = 49; omega))
    have h3 : List.count 49 [s[k]] = 0 := by simp [h]
    rw [h2, h3]
    simp [bitI]

end Go.Proofs.YtohkllmhknjkoaaDoor.fnExactCountOnes

