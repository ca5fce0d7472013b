/-
  The drawing function DrawShrinkMatrix.
-/
import Derived.Test.YtbbgibbpeibhiaaDoorDrawPk
import Derived.Test.YtbbgibbpeibhiaaDoorPickWalk
namespace Go.Proofs.YtbbgibbpeibhiaaDoor.DrawSh
open Go Go.RowKit Go.Proofs.YtbbgibbpeibhiaaDoor.Plain Go.Proofs.YtbbgibbpeibhiaaDoor.Base Go.Proofs.YtbbgibbpeibhiaaDoor.Valid Go.Proofs.YtbbgibbpeibhiaaDoor.Entry Go.Proofs.YtbbgibbpeibhiaaDoor.Rd Go.Proofs.YtbbgibbpeibhiaaDoor.Rd2 Go.Proofs.YtbbgibbpeibhiaaDoor.Rd3 Go.Proofs.YtbbgibbpeibhiaaDoor.Rd5 Go.Proofs.YtbbgibbpeibhiaaDoor.KeptR Go.Proofs.YtbbgibbpeibhiaaDoor.Ints
open Go.Proofs.YtbbgibbpeibhiaaDoor.fnExactPickMatrix (pick_spec pick_spec_no pick_spec_not)
set_option linter.unusedVariables false

abbrev M (a b : Int) (t : ByteArray) : Obj := .cells #[.int .i64 a, .int .i64 b, .string t] 24 (0, 0)
/-- whatever is picked -/
theorem picks (a b : Int) (t : ByteArray) (ht : t.size ≤ 100) (xs ys : List Int) : ∃ (A B : Int) (u : ByteArray) (ok : Bool), u.size ≤ 100 ∧
    ∀ (v1 v2 : Value) (w : World), IV w w.heap.size v1 xs → IV w w.heap.size v2 ys → Calls Tryd.prog 25 #[mtx a b t, v1, v2] w fun e w' => e = .returned (.tuple #[mtx A B u, .bool ok]) ∧ Below w.heap.size w w' := by
  have hs : t.size ≤ maxLen := by unfold maxLen; omega
  by_cases hv : validB a b t = true
  · obtain ⟨R, C, E, rfl, rfl, h1, h2, h3, h4, rfl⟩ := valid_form hv
    by_cases hno : (okI xs R = true ∧ okI ys C = true) ∧ (1 ≤ xs.length ∧ xs.length ≤ 8) ∧ (1 ≤ ys.length ∧ ys.length ≤ 8)
    · obtain ⟨⟨okx, oky⟩, ⟨hx1, hx8⟩, hy1, hy8⟩ := hno
      exact ⟨_, _, _, _, by rw [str_size, rowsB_length]; have := prod_le hx8 hy8; omega, fun v u w i1 i2 => pick_spec E R C h1 h2 h3 h4 hs hv xs ys v u okx oky hx1 hx8 hy1 hy8 w i1 i2⟩
    · exact ⟨_, _, _, _, by decide, fun v u w i1 i2 => pick_spec_not R C _ h1 h2 h3 h4 hs hv xs ys v u hno w i1 i2⟩
  · exact ⟨_, _, _, _, by decide, fun v u w i1 i2 => pick_spec_no a b t hs (by simpa using hv) v u w⟩

set_option maxHeartbeats 4000000 in
set_option maxRecDepth 100000 in
theorem draw_any (v : Value) (n : Nat) (w : World) (h : ByteArg w v n) :
    Calls Tryd.prog 8 #[v] w fun e w' => ∃ (a b : Int) (t : ByteArray), e = .returned (mtx a b t) ∧ t.size ≤ 100 ∧ Below w.heap.size w w' := by
  have hst := (Below.refl w.heap.size w).alloc (Nat.le_refl _) (.cells #[.int .i64 0, .int .i64 0, .string ⟨#[]⟩] 24)
  have h1 := h.later hst
  have HO := Lib.hid (open_lo v n _ h1 (lo_of h))
  have HST := Lib.hid hst
  have HA := Lib.hid h
  clear h h1 hst
  go_enter Tryd.func8, Tryd.ntmps8
  go_wp2_with fail
  refine HO.out.mono ?_
  rintro e w1 ⟨g, rfl, hr, hb, hg⟩
  have hs2 : w.heap.size + 1 ≤ g := by simp at hg; omega
  have r1 : w1.heap[w.heap.size]? = some (M 0 0 ⟨#[]⟩) := (hb.block _ (by simp)).trans (heap_alloc_new w _)
  have HK1 : Hid (Kr g w w1 [(w.heap.size, M 0 0 ⟨#[]⟩)]) := by
    refine ⟨fun p hp => ?_, HST.out.trans (hb.mono (by simp)), by omega⟩
    simp only [List.mem_cons, List.not_mem_nil, or_false] at hp
    subst hp
    exact ⟨by simp only; omega, r1⟩
  have HR := Lib.hid hr
  have HD := Lib.hid (Go.Proofs.YtbbgibbpeibhiaaDoor.DrawPk.draw_any v n w1 (HA.out.later HK1.out.below))
  clear hr hb hg r1 HO HST HA
  go_wp2_with fail
  refine HD.out.mono ?_
  rintro e w2 ⟨a, b, t, v1, v2, l1, l2, rfl, ht, hl1, hl2, i1, i2, hb2⟩
  obtain ⟨A, C, u, ok, hu, hp⟩ := picks a b t ht l1 l2
  obtain ⟨B, hB⟩ : ∃ x, w2.heap.size = x := ⟨_, rfl⟩
  have hr2 := HR.out.later hb2
  have hgB : g < B := by have := hr2.lt; omega
  have hst2 := (Below.refl w2.heap.size w2).alloc (Nat.le_refl _) (.cells #[.int .i64 a, .int .i64 b, .string t] 24)
  have HK2 := Lib.hid ((HK1.out.on hb2).put (M a b t) hB (by omega))
  have HR2 := Lib.hid (hr2.later hst2)
  have HP := Lib.hid hp
  have HI := Lib.hid (And.intro ((i1.later (Nat.le_refl _) hst2).mono hst2.size) ((i2.later (Nat.le_refl _) hst2).mono hst2.size))
  have HU := Lib.hid (And.intro ht hu)
  clear ht hl1 hl2 i1 i2 hb2 hu hp hr2 hst2 HK1 HR HD
  go_wp2_with fail
  clear hB
  refine (HP.out _ _ _ HI.out.1 HI.out.2).mono ?_
  rintro e w3 ⟨rfl, hb3⟩
  obtain ⟨B3, hB3⟩ : ∃ x, w3.heap.size = x := ⟨_, rfl⟩
  have hst3 := (Below.refl w3.heap.size w3).alloc (Nat.le_refl _) (.cells #[.int .i64 A, .int .i64 C, .string u] 24)
  have hr3 := HR2.out.later hb3
  have HK3 := Lib.hid ((HK2.out.on hb3).put (M A C u) hB3 hr3.lt)
  have HR3 := Lib.hid (hr3.later hst3)
  clear hb3 hst3 hr3 HK2 HR2 HI HP
  have HPK := Lib.hid (pick_r g 0 (by omega) 2 _ HR3.out)
  clear HR3
  cases ok
  · clear HPK
    obtain ⟨o0, o1, o2, f0, f1, f2⟩ := cells3 (HK3.out.at 2 rfl)
    obtain ⟨d0, d1, d2, -, -, -⟩ := cells3 (HK3.out.at 1 rfl)
    have HB := Lib.hid HK3.out.below
    clear HK3
    go_wp2_with fail
    refine bodyPost_ret (v := mtx a b t) (by simp [results, Tryd.results8, go_sem, o0, o1, o2]) rfl ⟨a, b, t, rfl, HU.out.1, ?_⟩
    exact ((HB.out.setCell (by simp) _).setCell (by simp) _).setCell (by simp) _
  · go_wp2_with fail
    clear hB3
    refine HPK.out.mono ?_
    rintro e w4 ⟨x, rfl, hx, -, -, ha⟩
    have HK4 := Lib.hid (HK3.out.later ha)
    clear ha hx HPK HK3
    by_cases hx0 : x = 0
    · subst hx0
      obtain ⟨o0, o1, o2, f0, f1, f2⟩ := cells3 (HK4.out.at 2 rfl)
      obtain ⟨d0, d1, d2, -, -, -⟩ := cells3 (HK4.out.at 0 rfl)
      have HB := Lib.hid HK4.out.below
      clear HK4
      go_wp2_with fail
      refine bodyPost_ret (v := mtx A C u) (by simp [results, Tryd.results8, go_sem, o0, o1, o2]) rfl ⟨A, C, u, rfl, HU.out.2, ?_⟩
      exact ((HB.out.setCell (by simp) _).setCell (by simp) _).setCell (by simp) _
    · obtain ⟨o0, o1, o2, f0, f1, f2⟩ := cells3 (HK4.out.at 2 rfl)
      obtain ⟨d0, d1, d2, -, -, -⟩ := cells3 (HK4.out.at 1 rfl)
      have HB := Lib.hid HK4.out.below
      clear HK4
      go_wp2_with fail
      refine bodyPost_ret (v := mtx a b t) (by simp [results, Tryd.results8, go_sem, o0, o1, o2]) rfl ⟨a, b, t, rfl, HU.out.1, ?_⟩
      exact ((HB.out.setCell (by simp) _).setCell (by simp) _).setCell (by simp) _
end Go.Proofs.YtbbgibbpeibhiaaDoor.DrawSh
