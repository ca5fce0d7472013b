/-
  The walk of the law on PickMatrix.
-/
import Derived.Test.YtbbgibbpeibhiaaDoorPick
import Derived.Test.YtbbgibbpeibhiaaDoorPickI
namespace Go.Proofs.YtbbgibbpeibhiaaDoor.fnExactPickMatrix
open Go.RowKit Go.Proofs.YtbbgibbpeibhiaaDoor.Plain Go.Proofs.YtbbgibbpeibhiaaDoor.Base Go.Proofs.YtbbgibbpeibhiaaDoor.Valid Go.Proofs.YtbbgibbpeibhiaaDoor.Law Go.Proofs.YtbbgibbpeibhiaaDoor.GridPlain Go.Proofs.YtbbgibbpeibhiaaDoor.Grid Go.Proofs.YtbbgibbpeibhiaaDoor.Entry Go.Proofs.YtbbgibbpeibhiaaDoor.Ints Go.Proofs.YtbbgibbpeibhiaaDoor.Pick Go.Proofs.YtbbgibbpeibhiaaDoor.PickI
set_option linter.unusedVariables false

theorem two_boxes {w w1 : World} {o1 o2 : Obj} (hb : Below ((w.alloc o1).alloc o2).heap.size ((w.alloc o1).alloc o2) w1) :
    w1.heap[w.heap.size]? = some o1 ∧ w1.heap[w.heap.size + 1]? = some o2 ∧ Below w.heap.size w w1 ∧ w.heap.size + 2 ≤ w1.heap.size := by
  have hs : ((w.alloc o1).alloc o2).heap.size = w.heap.size + 2 := by simp
  have h2 : ((w.alloc o1).alloc o2).heap[w.heap.size + 1]? = some o2 := by
    have := heap_alloc_new (w.alloc o1) o2
    rwa [World.size_alloc] at this
  have h1 : ((w.alloc o1).alloc o2).heap[w.heap.size]? = some o1 := (Below.heap_alloc _ _ _ (by simp)).trans (heap_alloc_new w o1)
  exact ⟨(hb.block _ (by omega)).trans h1, (hb.block _ (by omega)).trans h2, (((Below.refl w.heap.size w).alloc (Nat.le_refl _) _).alloc (by simp) _).trans (hb.mono (by omega)), by have := hb.size; omega⟩

set_option maxHeartbeats 1000000 in
theorem pick_spec (E : Nat → Nat → Bool) (r c : Nat) (hr : 1 ≤ r) (hr8 : r ≤ 8) (hc : 1 ≤ c) (hc8 : c ≤ 8) (hs : (str (rowsB E r c)).size ≤ maxLen) (hv : validB r c (str (rowsB E r c)) = true)
    (xs ys : List Int) (v u : Value) (okx : okI xs r = true) (oky : okI ys c = true) (hx1 : 1 ≤ xs.length) (hx8 : xs.length ≤ 8) (hy1 : 1 ≤ ys.length) (hy8 : ys.length ≤ 8)
    (w : World) (hiv : IV w w.heap.size v xs) (hiu : IV w w.heap.size u ys) :
    Calls Tryd.prog 25 #[mat r c (str (rowsB E r c)), v, u] w fun e w' => e = .returned (.tuple #[mat xs.length ys.length (str (rowsB (pickI E xs ys) xs.length ys.length)), .bool true]) ∧ Below w.heap.size w w' := by
  have HV := Lib.hid hv
  have HO : Hid (∀ W : World, IV W W.heap.size v xs → IV W W.heap.size u ys → Calls Tryd.prog 32 #[mat r c (str (rowsB E r c)), v, u] W fun e w' => e = .returned (mat xs.length ys.length (str (rowsB (pickI E xs ys) xs.length ys.length))) ∧ Below W.heap.size W w') :=
    fun W h1 h2 => pick_spec1 E r c hr8 hc8 xs ys v u okx oky hx1 hx8 hy1 hy8 W h1 h2
  have OX : Hid ((okI xs (r : Int) && decide (1 ≤ xs.length ∧ xs.length ≤ 8)) = true) := by unfold Hid; simp [okx, hx1, hx8]
  have OY : Hid ((okI ys (c : Int) && decide (1 ≤ ys.length ∧ ys.length ≤ 8)) = true) := by unfold Hid; simp [oky, hy1, hy8]
  obtain ⟨p1, k1, rfl⟩ := iv_slice hiv
  obtain ⟨p2, k2, rfl⟩ := iv_slice hiu
  have HIV := Lib.hid hiv
  have HIU := Lib.hid hiu
  clear hv okx oky hiv hiu
  generalize str (rowsB (pickI E xs ys) xs.length ys.length) = t at *
  generalize str (rowsB E r c) = s at *
  go_enter Tryd.func25, Tryd.ntmps25
  go_wp2_with fail
  refine (spec_valid _ _ s hs _).mono ?_
  rintro e w1 ⟨rfl, hb1⟩
  rw [HV.out]
  obtain ⟨b0, b1, hbel, hz⟩ := two_boxes hb1
  obtain ⟨m0, m1, m2⟩ := cells3 b0
  have HB := Lib.hid hbel
  have H1 := Lib.hid b1
  have I1 := Lib.hid ((HIV.out.later (Nat.le_refl _) hbel).mono hbel.size)
  have I2 := Lib.hid ((HIU.out.later (Nat.le_refl _) hbel).mono hbel.size)
  clear hb1 b0 b1 hbel
  go_wp2_with fail
  refine (num_any xs _ _ (by omega) (by omega) _ I1.out).mono ?_
  rintro e w' ⟨rfl, rfl⟩
  rw [OX.out]
  go_wp2_with fail
  refine (num_any ys _ _ (by omega) (by omega) _ I2.out).mono ?_
  rintro e w' ⟨rfl, rfl⟩
  rw [OY.out]
  go_wp2_with fail
  refine (HO.out _ I1.out I2.out).mono ?_
  rintro e w2 ⟨rfl, hb2⟩
  have hres : w2.heap[w.heap.size + 1]? = some (.cells #[.int .i64 0, .int .i64 0, .string ⟨#[]⟩] 24 (0, 0)) := (hb2.block _ (by omega)).trans H1.out
  obtain ⟨d0, d1, d2⟩ := cells3 hres
  obtain ⟨f0, f1, f2⟩ := free3 hres
  have HB2 := Lib.hid (bstep HB.out hb2)
  clear hb2 hres m0 m1 m2
  go_wp2_with fail
  refine bodyPost_ret (v := .tuple #[mat xs.length ys.length t, .bool true]) (by simp [results, Tryd.results25, go_sem, d0, d1, d2]) rfl ⟨rfl, ?_⟩
  exact ((HB2.out.setCell (by simp) _).setCell (by simp) _).setCell (by simp) _

set_option maxHeartbeats 1000000 in
theorem pick_spec_no (r c : Int) (s : ByteArray) (hs : s.size ≤ maxLen) (hv : validB r c s = false) (v u : Value) (w : World) :
    Calls Tryd.prog 25 #[mat r c s, v, u] w fun e w' => e = .returned (.tuple #[mat 0 0 (str []), .bool false]) ∧ Below w.heap.size w w' := by
  have HV := Lib.hid hv
  clear hv
  go_enter Tryd.func25, Tryd.ntmps25
  go_wp2_with fail
  refine (spec_valid _ _ s hs _).mono ?_
  rintro e w1 ⟨rfl, hb1⟩
  rw [HV.out]
  obtain ⟨b0, b1, hbel, hz⟩ := two_boxes hb1
  obtain ⟨d0, d1, d2⟩ := cells3 b1
  obtain ⟨f0, f1, f2⟩ := free3 b1
  have HB := Lib.hid hbel
  clear hb1 b0 b1 hbel
  go_wp2_with fail
  refine bodyPost_ret (v := .tuple #[mat 0 0 (str []), .bool false]) (by simp [results, Tryd.results25, go_sem, d0, d1, d2, str]) rfl ⟨rfl, ?_⟩
  exact ((HB.out.setCell (by simp) _).setCell (by simp) _).setCell (by simp) _

set_option maxHeartbeats 1000000 in
theorem pick_spec_not (r c : Nat) (s : ByteArray) (hr : 1 ≤ r) (hr8 : r ≤ 8) (hc : 1 ≤ c) (hc8 : c ≤ 8) (hs : s.size ≤ maxLen) (hv : validB r c s = true)
    (xs ys : List Int) (v u : Value) (hno : ¬ ((okI xs r = true ∧ okI ys c = true) ∧ (1 ≤ xs.length ∧ xs.length ≤ 8) ∧ (1 ≤ ys.length ∧ ys.length ≤ 8)))
    (w : World) (hiv : IV w w.heap.size v xs) (hiu : IV w w.heap.size u ys) :
    Calls Tryd.prog 25 #[mat r c s, v, u] w fun e w' => e = .returned (.tuple #[mat 0 0 (str []), .bool false]) ∧ Below w.heap.size w w' := by
  have HV := Lib.hid hv
  obtain ⟨bx, hbx⟩ : ∃ b, (okI xs (r : Int) && decide (1 ≤ xs.length ∧ xs.length ≤ 8)) = b := ⟨_, rfl⟩
  obtain ⟨bY, hby⟩ : ∃ b, (okI ys (c : Int) && decide (1 ≤ ys.length ∧ ys.length ≤ 8)) = b := ⟨_, rfl⟩
  have hne : ¬ (bx = true ∧ bY = true) := by
    rintro ⟨rfl, rfl⟩
    simp only [Bool.and_eq_true, decide_eq_true_eq] at hbx hby
    exact hno ⟨⟨hbx.1, hby.1⟩, hbx.2, hby.2⟩
  have OX := Lib.hid hbx
  have OY := Lib.hid hby
  obtain ⟨p1, k1, rfl⟩ := iv_slice hiv
  obtain ⟨p2, k2, rfl⟩ := iv_slice hiu
  have HIV := Lib.hid hiv
  have HIU := Lib.hid hiu
  clear hv hno hiv hiu hbx hby
  go_enter Tryd.func25, Tryd.ntmps25
  go_wp2_with fail
  refine (spec_valid _ _ s hs _).mono ?_
  rintro e w1 ⟨rfl, hb1⟩
  rw [HV.out]
  obtain ⟨b0, b1, hbel, hz⟩ := two_boxes hb1
  obtain ⟨m0, m1, m2⟩ := cells3 b0
  obtain ⟨d0, d1, d2⟩ := cells3 b1
  obtain ⟨f0, f1, f2⟩ := free3 b1
  have HB := Lib.hid hbel
  have I1 := Lib.hid ((HIV.out.later (Nat.le_refl _) hbel).mono hbel.size)
  have I2 := Lib.hid ((HIU.out.later (Nat.le_refl _) hbel).mono hbel.size)
  clear hb1 b0 b1 hbel
  go_wp2_with fail
  refine (num_any xs _ _ (by omega) (by omega) _ I1.out).mono ?_
  rintro e w' ⟨rfl, rfl⟩
  rw [OX.out]
  cases bx
  · go_wp2_with fail
    refine bodyPost_ret (v := .tuple #[mat 0 0 (str []), .bool false]) (by simp [results, Tryd.results25, go_sem, d0, d1, d2, str]) rfl ⟨rfl, ?_⟩
    exact ((HB.out.setCell (by simp) _).setCell (by simp) _).setCell (by simp) _
  · go_wp2_with fail
    refine (num_any ys _ _ (by omega) (by omega) _ I2.out).mono ?_
    rintro e w' ⟨rfl, rfl⟩
    rw [OY.out]
    obtain rfl : bY = false := by simpa using hne
    go_wp2_with fail
    refine bodyPost_ret (v := .tuple #[mat 0 0 (str []), .bool false]) (by simp [results, Tryd.results25, go_sem, d0, d1, d2, str]) rfl ⟨rfl, ?_⟩
    exact ((HB.out.setCell (by simp) _).setCell (by simp) _).setCell (by simp) _

/-- both find one matrix, or none -/
theorem both (r c : Int) (s : ByteArray) (hs : s.size ≤ maxLen) (xs ys : List Int) : ∃ (A B : Int) (t : ByteArray) (b : Bool),
    (∀ (v u : Value) (w : World), IV w w.heap.size v xs → IV w w.heap.size u ys → Calls Tryd.prog 25 #[mat r c s, v, u] w fun e w' => e = .returned (.tuple #[mat A B t, .bool b]) ∧ Below w.heap.size w w') ∧
    (∀ (v u : Value) (w : World), IV w w.heap.size v xs → IV w w.heap.size u ys → Calls Tryd.prog 12 #[mat r c s, v, u] w fun e w' => e = .returned (.tuple #[mat A B t, .bool b]) ∧ Below w.heap.size w w') := by
  by_cases hv : validB r c s = true
  · obtain ⟨R, C, E, rfl, rfl, h1, h2, h3, h4, rfl⟩ := valid_form hv
    have hsz : (str (rowsB E R C)).size ≤ 64 := by rw [str_size, rowsB_length]; exact prod_le h2 h4
    by_cases hno : (okI xs R = true ∧ okI ys C = true) ∧ (1 ≤ xs.length ∧ xs.length ≤ 8) ∧ (1 ≤ ys.length ∧ ys.length ≤ 8)
    · obtain ⟨⟨okx, oky⟩, ⟨hx1, hx8⟩, hy1, hy8⟩ := hno
      exact ⟨xs.length, ys.length, str (rowsB (pickI E xs ys) xs.length ys.length), true, fun v u w i1 i2 => pick_spec E R C h1 h2 h3 h4 hs hv xs ys v u okx oky hx1 hx8 hy1 hy8 w i1 i2,
        fun v u w i1 i2 => pick_impl E R C h1 h2 h3 h4 _ xs ys v u okx oky hx1 hx8 hy1 hy8 w i1 i2 fun W => grid_yes E R C h1 h2 h3 h4 _ rfl hs hsz hv W⟩
    · exact ⟨0, 0, str [], false, fun v u w i1 i2 => pick_spec_not R C _ h1 h2 h3 h4 hs hv xs ys v u hno w i1 i2,
        fun v u w i1 i2 => pick_impl_no R C _ R C _ xs ys v u hno w i1 i2 fun W => grid_yes E R C h1 h2 h3 h4 _ rfl hs hsz hv W⟩
  · have hv' : validB r c s = false := by simpa using hv
    refine ⟨0, 0, str [], false, fun v u w i1 i2 => pick_spec_no r c s hs hv' v u w, fun v u w i1 i2 => pick_impl_no 0 0 _ r c s xs ys v u ?_ w i1 i2 fun W => grid_no r c s hs hv' W⟩
    rintro ⟨⟨hx, _⟩, ⟨hl, _⟩, _⟩
    have := okI_get hx 0 hl
    omega

theorem three_at {w1 w2 : World} {a b c : Value} {T : TypeId} (hb : Below (w1.alloc (.cells #[a, b, c] T)).heap.size (w1.alloc (.cells #[a, b, c] T)) w2) :
    w1.heap.size < w2.heap.size ∧ w2.cell? ⟨w1.heap.size, 0, none⟩ = some a ∧ w2.cell? ⟨w1.heap.size, 1, none⟩ = some b ∧ w2.cell? ⟨w1.heap.size, 2, none⟩ = some c := by
  obtain ⟨h0, h1, h2⟩ := three_of hb
  exact ⟨by have := hb.size; simp at this; omega, h0, h1, h2⟩

end Go.Proofs.YtbbgibbpeibhiaaDoor.fnExactPickMatrix
