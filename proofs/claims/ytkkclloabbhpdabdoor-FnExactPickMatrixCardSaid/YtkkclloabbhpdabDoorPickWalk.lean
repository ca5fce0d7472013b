/-
  The walk of the law on PickMatrix.
-/
import Derived.Test.YtkkclloabbhpdabDoorPick
import Derived.Test.YtkkclloabbhpdabDoorPickI
namespace Go.Proofs.YtkkclloabbhpdabDoor.fnExactPickMatrix
open Go.RowKit Go.Proofs.YtkkclloabbhpdabDoor.Plain Go.Proofs.YtkkclloabbhpdabDoor.Base Go.Proofs.YtkkclloabbhpdabDoor.Valid Go.Proofs.YtkkclloabbhpdabDoor.Law Go.Proofs.YtkkclloabbhpdabDoor.GridPlain Go.Proofs.YtkkclloabbhpdabDoor.Grid Go.Proofs.YtkkclloabbhpdabDoor.Entry Go.Proofs.YtkkclloabbhpdabDoor.Ints Go.Proofs.YtkkclloabbhpdabDoor.Pick Go.Proofs.YtkkclloabbhpdabDoor.PickI
set_option linter.unusedVariables false

theorem two_boxes {w w1 : World} {o1 o2 : Obj} (hb : Below ((w.alloc o1).alloc o2).heap.size ((w.alloc o1).alloc o2) w1) :
    w1.heap[w.heap.size]? = some o1 ∧ w1.heap[w.heap.size + 1]? = some o2 ∧ Below w.heap.size w w1 ∧ w.heap.size + 2 ≤ w1.heap.size := by
  have hs : ((w.alloc o1).alloc o2).heap.size = w.heap.size + 2 := by simp
  have h2 : ((w.alloc o1).alloc o2).heap[w.heap.size + 1]? = some o2 := by
    have := heap_alloc_new (w.alloc o1) o2
    rwa [World.size_alloc] at this
  have h1 : ((w.alloc o1).alloc o2).heap[w.heap.size]? = some o1 := (Below.heap_alloc _ _ _ (by simp)).trans (heap_alloc_new w o1)
  exact ⟨(hb.block _ (by omega)).trans h1, (hb.block _ (by omega)).trans h2, (((Below.refl w.heap.size w).alloc (Nat.le_refl _) _).alloc (by simp) _).trans (hb.mono (by omega)), by have := hb.size; omega⟩

set_option maxHeartbeats 1000000 in
theorem pick_spec (E : Nat → Nat → Bool) (r c : Nat) (hr : 1 ≤ r) (hr8 : r ≤ 8) (hc : 1 ≤ c) (hc8 : c ≤ 8) (hs : (str (rowsB E r c)).size ≤ maxLen) (hv : validB r c (str (rowsB E r c)) = true)
    (xs ys : List Int) (v u : Value) (okx : okI xs r = true) (oky : okI ys c = true) (hx1 : 1 ≤ xs.length) (hx8 : xs.length ≤ 8) (hy1 : 1 ≤ ys.length) (hy8 : ys.length ≤ 8)
    (w : World) (hiv : IV w w.heap.size v xs) (hiu : IV w w.heap.size u ys) :
    Calls Tryd.prog 9 #[mat r c (str (rowsB E r c)), v, u] w fun e w' => e = .returned (.tuple #[mat xs.length ys.length (str (rowsB (pickI E xs ys) xs.length ys.length)), .bool true]) ∧ Below w.heap.size w w' := by
  have HV := Lib.hid hv
  have HO : Hid (∀ W : World, IV W W.heap.size v xs → IV W W.heap.size u ys → Calls Tryd.prog 25 #[mat r c (str (rowsB E r c)), v, u] W fun e w' => e = .returned (mat xs.length ys.length (str (rowsB (pickI E xs ys) xs.length ys.length))) ∧ Below W.heap.size W w') :=
    fun W h1 h2 => pick_spec1 E r c hr8 hc8 xs ys v u okx oky hx1 hx8 hy1 hy8 W h1 h2
  have OX : Hid ((okI xs (r : Int) && decide (1 ≤ xs.length ∧ xs.length ≤ 8)) = true) := by unfold Hid; simp [okx, hx1, hx8]
  have OY : Hid ((okI ys (c : Int) && decide (1 ≤ ys.length ∧ ys.length ≤ 8)) = true) := by unfold Hid; simp [oky, hy1, hy8]
  obtain ⟨p1, k1, rfl⟩ := iv_slice hiv
  obtain ⟨p2, k2, rfl⟩ := iv_slice hiu
  have HIV := Lib.hid hiv
  have HIU := Lib.hid hiu
  clear hv okx oky hiv hiu
  generalize str (rowsB (pickI E xs ys) xs.length ys.length) = t at *
  generalize str (rowsB E r c) = s at *
  go_enter Tryd.func9, Tryd.ntmps9
  go_wp2_with fail
  refine (spec_valid _ _ s hs _).mono ?_
  rintro e w1 ⟨rfl, hb1⟩
  rw [HV.out]
  obtain ⟨b0, b1, hbel, hz⟩ := two_boxes hb1
  obtain ⟨m0, m1, m2⟩ := cells3 b0
  have HB := Lib.hid hbel
  have H1 := Lib.hid b1
  have I1 := Lib.hid ((HIV.out.later (Nat.le_refl _) hbel).mono hbel.size)
  have I2 := Lib.hid ((HIU.out.later (Nat.le_refl _) hbel).mono hbel.size)
  clear hb1 b0 b1 hbel
  go_wp2_with fail
  refine (num_any xs _ _ (by omega) (by omega) _ I1.out).mono ?_
  rintro e w' ⟨rfl, rfl⟩
  rw [OX.out]
  go_wp2_with fail
  refine (num_any ys _ _ (by omega) (by omega) _ I2.out).mono ?_
  rintro e w' ⟨rfl, rfl⟩
  rw [OY.out]
  go_wp2_with fail
  refine (HO.out _ I1.out I2.out).mono ?_
  rintro e w2 ⟨rfl, hb2⟩
  have hres : w2.heap[w.heap.size + 1]? = some (.cells #[.int .i64 0, .int .i64 0, .string ⟨#[]⟩] 26 (0, 0)) := (hb2.block _ (by omega)).trans H1.out
  obtain ⟨d0, d1, d2⟩ := cells3 hres
  obtain ⟨f0, f1, f2⟩ := free3 hres
  have HB2 := Lib.hid (bstep HB.out hb2)
  clear hb2 hres m0 m1 m2
  go_wp2_with fail
  refine bodyPost_ret (v := .tuple #[mat xs.length ys.length t, .bool true]) (by simp [results, Tryd.results9, go_sem, d0, d1, d2]) rfl ⟨rfl, ?_⟩
  exact ((HB2.out.setCell (by simp) _).setCell (by simp) _).setCell (by simp) _

set_option maxHeartbeats 1000000 in
theorem pick_spec_no (r c : Int) (s : ByteArray) (hs : s.size ≤ maxLen) (hv : validB r c s = false) (v u : Value) (w : World) :
    Calls Tryd.prog 9 #[mat r c s, v, u] w fun e w' => e = .returned (.tuple #[mat 0 0 (str []), .bool false]) ∧ Below w.heap.size w w' := by
  have HV := Lib.hid hv
  clear hv
  go_enter Tryd.func9, Tryd.ntmps9
  go_wp2_with fail
  refine (spec_valid _ _ s hs _).mono ?_
  rintro e w1 ⟨rfl, hb1⟩
  rw [HV.out]
  obtain ⟨b0, b1, hbel, hz⟩ := two_boxes hb1
  obtain ⟨d0, d1, d2⟩ := cells3 b1
  obtain ⟨f0, f1, f2⟩ := free3 b1
  have HB := Lib.hid hbel
  clear hb1 b0 b1 hbel
  go_wp2_with fail
  refine bodyPost_ret (v := .tuple #[mat 0 0 (str []), .bool false]) (by simp [results, Tryd.results9, go_sem, d0, d1, d2, str]) rfl ⟨rfl, ?_⟩
  exact ((HB.out.setCell (by simp) _).setCell (by simp) _).setCell (by simp) _

set_option maxHeartbeats 1000000 in
theorem pick_spec_not (r c : Nat) (s : ByteArray) (hr : 1 ≤ r) (hr8 : r ≤ 8) (hc : 1 ≤ c) (hc8 : c ≤ 8) (hs : s.size ≤ maxLen) (hv : validB r c s = true)
    (xs ys : List Int) (v u : Value) (hno : ¬ ((okI xs r = true ∧ okI ys c = true) ∧ (1 ≤ xs.length ∧ xs.length ≤ 8) ∧ (1 ≤ ys.length ∧ ys.length ≤ 8)))
    (w : World) (hiv : IV w w.heap.size v xs) (hiu : IV w w.heap.size u ys) :
    Calls Tryd.prog 9 #[mat r c s, v, u] w fun e w' => e = .returned (.tuple #[mat 0 0 (str []), .bool false]) ∧ Below w.heap.size w w' := by
  have HV := Lib.hid hv
  obtain ⟨bx, hbx⟩ : ∃ b, (okI xs (r : Int) && decide (1 ≤ xs.length ∧ xs.length ≤ 8)) = b := ⟨_, rfl⟩
  obtain ⟨bY, hby⟩ : ∃ b, (okI ys (c : Int) && decide (1 ≤ ys.length ∧ ys.length ≤ 8)) = b := ⟨_, rfl⟩
  have hne : ¬ (bx = true ∧ bY = true) := by
    rintro ⟨rfl, rfl⟩
    simp only [Bool.and_eq_true, decide_eq_true_eq] at hbx hby
    exact hno ⟨⟨hbx.1, hby.1⟩, hbx.2, hby.2⟩
  have OX := Lib.hid hbx
  have OY := Lib.hid hby
  obtain ⟨p1, k1, rfl⟩ := iv_slice hiv
  obtain ⟨p2, k2, rfl⟩ := iv_slice hiu
  have HIV := Lib.hid hiv
  have HIU := Lib.hid hiu
  clear hv hno hiv hiu hbx hby
  go_enter Tryd.func9, Tryd.ntmps9
  go_wp2_with fail
  refine (spec_valid _ _ s hs _).mono ?_
  rintro e w1 ⟨rfl, hb1⟩
  rw [HV.out]
  obtain ⟨b0, b1, hbel, hz⟩ := two_boxes hb1
  obtain ⟨m0, m1, m2⟩ := cells3 b0
  obtain ⟨d0, d1, d2⟩ := cells3 b1
  obtain ⟨f0, f1, f2⟩ := free3 b1
  have HB := Lib.hid hbel
  have I1 := Lib.hid ((HIV.out.later (Nat.le_refl _) hbel).mono hbel.size)
  have I2 := Lib.hid ((HIU.out.later (Nat.le_refl _) hbel).mono hbel.size)
  clear hb1 b0 b1 hbel
  go_wp2_with fail
  refine (num_any xs _ _ (by omega) (by omega) _ I1.out).mono ?_
  rintro e w' ⟨rfl, rfl⟩
  rw [OX.out]
  cases bx
  · go_wp2_with fail
    refine bodyPost_ret (v := .tuple #[mat 0 0 (str []), .bool false]) (by simp [results, Tryd.results9, go_sem, d0, d1, d2, str]) rfl ⟨rfl, ?_⟩
    exact ((HB.out.setCell (by simp) _).setCell (by simp) _).setCell (by simp) _
  · go_wp2_with fail
    refine (num_any ys _ _ (by omega) (by omega) _ I2.out).mono ?_
    rintro e w' ⟨rfl, rfl⟩
    rw [OY.out]
    obtain rfl : bY = false := by simpa using hne
    go_wp2_with fail
    refine bodyPost_ret (v := .tuple #[mat 0 0 (str []), .bool false]) (by simp [results, Tryd.results9, go_sem, d0, d1, d2, str]) rfl ⟨rfl, ?_⟩
    exact ((HB.out.setCell (by simp) _).setCell (by simp) _).setCell (by simp) _

/-- both find one matrix, or none -/
theorem both (r c : Int) (s : ByteArray) (hs : s.size ≤ maxLen) (xs ys : List Int) : ∃ (A B : Int) (t : ByteArray) (b : Bool),
    (∀ (v u : Value) (w : World), IV w w.heap.size v xs → IV w w.heap.size u ys → Calls Tryd.prog 9 #[mat r c s, v, u] w fun e w' => e = .returned (.tuple #[mat A B t, .bool b]) ∧ Below w.heap.size w w') ∧
    (∀ (v u : Value) (w : World), IV w w.heap.size v xs → IV w w.heap.size u ys → Calls Tryd.prog 12 #[mat r c s, v, u] w fun e w' => e = .returned (.tuple #[mat A B t, .bool b]) ∧ Below w.heap.size w w') := by
  by_cases hv : validB r c s = true
  · obtain ⟨R, C, E, rfl, rfl, h1, h2, h3, h4, rfl⟩ := valid_form hv
    have hsz : (str (rowsB E R C)).size ≤ 64 := by rw [str_size, rowsB_length]; exact prod_le h2 h4
    by_cases hno : (okI xs R = true ∧ okI ys C = true) ∧ (1 ≤ xs.length ∧ xs.length ≤ 8) ∧ (1 ≤ ys.length ∧ ys.length ≤ 8)
    · obtain ⟨⟨okx, oky⟩, ⟨hx1, hx8⟩, hy1, hy8⟩ := hno
      exact ⟨xs.length, ys.length, str (rowsB (pickI E xs ys) xs.length ys.length), true, fun v u w i1 i2 => pick_spec E R C h1 h2 h3 h4 hs hv xs ys v u okx oky hx1 hx8 hy1 hy8 w i1 i2,
        fun v u w i1 i2 => pick_impl E R C h1 h2 h3 h4 _ xs ys v u okx oky hx1 hx8 hy1 hy8 w i1 i2 fun W => grid_yes E R C h1 h2 h3 h4 _ rfl hs hsz hv W⟩
    · exact ⟨0, 0, str [], false, fun v u w i1 i2 => pick_spec_not R C _ h1 h2 h3 h4 hs hv xs ys v u hno w i1 i2,
        fun v u w i1 i2 => pick_impl_no R C _ R C _ xs ys v u hno w i1 i2 fun W => grid_yes E R C h1 h2 h3 h4 _ rfl hs hsz hv W⟩
  · have hv' : validB r c s = false := by simpa using hv
    refine ⟨0, 0, str [], false, fun v u w i1 i2 => pick_spec_no r c s hs hv' v u w, fun v u w i1 i2 => pick_impl_no 0 0 _ r c s xs ys v u ?_ w i1 i2 fun W => grid_no r c s hs hv' W⟩
    rintro ⟨⟨hx, _⟩, ⟨hl, _⟩, _⟩
    have := okI_get hx 0 hl
    omega

theorem three_at {w1 w2 : World} {a b c : Value} {T : TypeId} (hb : Below (w1.alloc (.cells #[a, b, c] T)).heap.size (w1.alloc (.cells #[a, b, c] T)) w2) :
    w1.heap.size < w2.heap.size ∧ w2.cell? ⟨w1.heap.size, 0, none⟩ = some a ∧ w2.cell? ⟨w1.heap.size, 1, none⟩ = some b ∧ w2.cell? ⟨w1.heap.size, 2, none⟩ = some c := by
  obtain ⟨h0, h1, h2⟩ := three_of hb
  exact ⟨by have := hb.size; simp at this; omega, h0, h1, h2⟩

set_option maxHeartbeats 2000000 in
theorem walk (r c : Int) (s : ByteArray) (wr : (Lit.int .i64 r).wf = true) (wc : (Lit.int .i64 c).wf = true) (hs : s.size ≤ maxLen) (xs ys : List Int) (v u : Value) (w : World) (hiv : IV w w.heap.size v xs) (hiu : IV w w.heap.size u ys) :
    Calls Tryd.prog 3 #[mat r c s, v, u] w fun e w' => e = .returned (.bool true) ∧ Below w.heap.size w w' := by
  obtain ⟨A, B, t, b, hspec, himpl⟩ := both r c s hs xs ys
  have HS := Lib.hid hspec
  have HI := Lib.hid himpl
  clear hspec himpl
  have hs2 := hs
  unfold maxLen at hs2
  have hxl := hiv.1
  have hyl := hiu.1
  obtain ⟨p1, k1, rfl⟩ := iv_slice hiv
  obtain ⟨p2, k2, rfl⟩ := iv_slice hiu
  have HIV := Lib.hid hiv
  have HIU := Lib.hid hiu
  clear hiv hiu
  by_cases hbx : (1048576 : Int) < (xs.length : Int)
  · go_enter Tryd.func3, Tryd.ntmps3
    go_wp2_with fail
    go_ret
    exact ⟨rfl, (Below.refl w.heap.size w).alloc (Nat.le_refl _) _⟩
  by_cases hby : (1048576 : Int) < (ys.length : Int)
  · go_enter Tryd.func3, Tryd.ntmps3
    go_wp2_with fail
    go_ret
    exact ⟨rfl, (Below.refl w.heap.size w).alloc (Nat.le_refl _) _⟩
  by_cases hbig : 1048576 < s.size
  · go_enter Tryd.func3, Tryd.ntmps3
    go_wp2_with fail
    refine (sz_over r c s _ (by omega) (by omega) hs _).mono ?_
    rintro e w1 ⟨rfl, hb1⟩
    have HB := Lib.hid (bstep ((Below.refl w.heap.size w).alloc (Nat.le_refl _) _) hb1)
    clear hb1
    go_wp2_with fail
    go_ret
    exact ⟨rfl, HB.out⟩
  · go_enter Tryd.func3, Tryd.ntmps3
    go_wp2_with fail
    refine (sz_fits r c s _ (by omega) (by omega) _).mono ?_
    rintro e w1 ⟨rfl, hb1⟩
    obtain ⟨k0, k1', k2'⟩ := three_of hb1
    have hg : w.heap.size < w1.heap.size := by have := hb1.size; simp at this; omega
    have HB := Lib.hid (bstep ((Below.refl w.heap.size w).alloc (Nat.le_refl _) _) hb1)
    clear hb1
    go_wp2_with fail
    refine (to_any r c s _).mono ?_
    rintro e w2 ⟨rfl, hb2⟩
    obtain ⟨k0, k1', k2'⟩ := three_on hb2 hg k0 k1' k2'
    have hg := Nat.lt_of_lt_of_le hg hb2.size
    have HB := Lib.hid (bstep HB.out hb2)
    clear hb2
    go_wp2_with fail
    refine (copy_any xs _ (by omega) _ ((HIV.out.later (Nat.le_refl _) HB.out).mono HB.out.size)).mono ?_
    rintro e w3 ⟨v3, rfl, i3, hb3⟩
    obtain ⟨k0, k1', k2'⟩ := three_on hb3 hg k0 k1' k2'
    have hg := Nat.lt_of_lt_of_le hg hb3.size
    have HB := Lib.hid (bstep HB.out hb3)
    have I3 := Lib.hid i3
    clear hb3 i3
    go_wp2_with fail
    refine (copy_any ys _ (by omega) _ ((HIU.out.later (Nat.le_refl _) HB.out).mono HB.out.size)).mono ?_
    rintro e w4 ⟨v4, rfl, i4, hb4⟩
    obtain ⟨k0, k1', k2'⟩ := three_on hb4 hg k0 k1' k2'
    have hg := Nat.lt_of_lt_of_le hg hb4.size
    have HB := Lib.hid (bstep HB.out hb4)
    have I3 := Lib.hid ((I3.out.later (Nat.le_refl _) hb4).mono hb4.size)
    have I4 := Lib.hid i4
    clear hb4 i4
    go_wp2_with fail
    refine (HS.out _ _ _ I3.out I4.out).mono ?_
    rintro e w5 ⟨rfl, hb5⟩
    obtain ⟨k0, k1', k2'⟩ := three_on hb5 hg k0 k1' k2'
    have hg := Nat.lt_of_lt_of_le hg hb5.size
    have HB := Lib.hid (bstep HB.out hb5)
    clear hb5 I3 I4
    go_wp2_with fail
    refine (copy_any xs _ (by omega) _ ((HIV.out.later (Nat.le_refl _) (bstepA HB.out _)).mono (bstepA HB.out _).size)).mono ?_
    rintro e w6 ⟨v6, rfl, i6, hb6⟩
    obtain ⟨hq, q0, q1, q2⟩ := three_at hb6
    obtain ⟨k0, k1', k2'⟩ := three_on ((Below.refl w5.heap.size w5).alloc (Nat.le_refl _) _ |>.trans (hb6.mono (by simp))) hg k0 k1' k2'
    have hg := Nat.lt_trans hg hq
    have HB := Lib.hid (bstep (bstepA HB.out _) hb6)
    have I6 := Lib.hid i6
    clear hb6 i6
    go_wp2_with fail
    refine (copy_any ys _ (by omega) _ ((HIU.out.later (Nat.le_refl _) HB.out).mono HB.out.size)).mono ?_
    rintro e w7 ⟨v7, rfl, i7, hb7⟩
    obtain ⟨k0, k1', k2'⟩ := three_on hb7 hg k0 k1' k2'
    obtain ⟨q0, q1, q2⟩ := three_on hb7 hq q0 q1 q2
    have hg := Nat.lt_of_lt_of_le hg hb7.size
    have hq := Nat.lt_of_lt_of_le hq hb7.size
    have HB := Lib.hid (bstep HB.out hb7)
    have I6 := Lib.hid ((I6.out.later (Nat.le_refl _) hb7).mono hb7.size)
    have I7 := Lib.hid i7
    clear hb7 i7
    go_wp2_with fail
    refine (to_any r c s _).mono ?_
    rintro e w8 ⟨rfl, hb8⟩
    obtain ⟨q0, q1, q2⟩ := three_on hb8 hq q0 q1 q2
    have hq := Nat.lt_of_lt_of_le hq hb8.size
    have HB := Lib.hid (bstep HB.out hb8)
    have I6 := Lib.hid ((I6.out.later (Nat.le_refl _) hb8).mono hb8.size)
    have I7 := Lib.hid ((I7.out.later (Nat.le_refl _) hb8).mono hb8.size)
    clear hb8 k0 k1' k2'
    go_wp2_with fail
    refine (HI.out _ _ _ I6.out I7.out).mono ?_
    rintro e w9 ⟨rfl, hb9⟩
    obtain ⟨q0, q1, q2⟩ := three_on hb9 hq q0 q1 q2
    have hq := Nat.lt_of_lt_of_le hq hb9.size
    have HB := Lib.hid (bstep HB.out hb9)
    have I6 := Lib.hid ((I6.out.later (Nat.le_refl _) hb9).mono hb9.size)
    have I7 := Lib.hid ((I7.out.later (Nat.le_refl _) hb9).mono hb9.size)
    clear hb9
    go_wp2_with fail
    refine (eq_same _ _ _ _).mono ?_
    rintro e w10 ⟨rfl, hb10⟩
    have hbA := ((Below.refl w9.heap.size w9).alloc (Nat.le_refl _) _).trans (hb10.mono (by simp))
    have HB := Lib.hid (bstep HB.out hbA)
    have I6 := Lib.hid ((I6.out.later (Nat.le_refl _) hbA).mono hbA.size)
    have I7 := Lib.hid ((I7.out.later (Nat.le_refl _) hbA).mono hbA.size)
    clear hb10 hbA q0 q1 q2
    cases b
    all_goals
      go_wp2_with fail
      refine (copy_any xs _ (by omega) _ ((HIV.out.later (Nat.le_refl _) HB.out).mono HB.out.size)).mono ?_
      rintro e w11 ⟨v11, rfl, i11, hb11⟩
      have HB := Lib.hid (bstep HB.out hb11)
      have I6 := Lib.hid ((I6.out.later (Nat.le_refl _) hb11).mono hb11.size)
      have I7 := Lib.hid ((I7.out.later (Nat.le_refl _) hb11).mono hb11.size)
      have I11 := Lib.hid i11
      clear hb11 i11
      go_wp2_with fail
      refine (same_any xs _ _ _ I6.out I11.out).mono ?_
      rintro e w12 ⟨rfl, hb12⟩
      have HB := Lib.hid (bstep HB.out hb12)
      have I7 := Lib.hid ((I7.out.later (Nat.le_refl _) hb12).mono hb12.size)
      clear hb12 I11 I6
      go_wp2_with fail
      refine (copy_any ys _ (by omega) _ ((HIU.out.later (Nat.le_refl _) HB.out).mono HB.out.size)).mono ?_
      rintro e w13 ⟨v13, rfl, i13, hb13⟩
      have HB := Lib.hid (bstep HB.out hb13)
      have I7 := Lib.hid ((I7.out.later (Nat.le_refl _) hb13).mono hb13.size)
      have I13 := Lib.hid i13
      clear hb13 i13
      go_wp2_with fail
      refine (same_any ys _ _ _ I7.out I13.out).mono ?_
      rintro e w14 ⟨rfl, hb14⟩
      have HB := Lib.hid (bstep HB.out hb14)
      clear hb14 I13 I7
      go_wp2_with fail
      go_ret
      exact ⟨rfl, HB.out⟩
end Go.Proofs.YtkkclloabbhpdabDoor.fnExactPickMatrix
