/-
  The walk of the law on ShrinkMatrix.
-/
import Derived.Test.YtppmecpodleoiaaDoorShr
namespace Go.Proofs.YtppmecpodleoiaaDoor.fnExactShrinkMatrix
open Go.RowKit Go.Proofs.YtppmecpodleoiaaDoor.Plain Go.Proofs.YtppmecpodleoiaaDoor.Base Go.Proofs.YtppmecpodleoiaaDoor.Valid Go.Proofs.YtppmecpodleoiaaDoor.Law Go.Proofs.YtppmecpodleoiaaDoor.GridPlain Go.Proofs.YtppmecpodleoiaaDoor.Grid Go.Proofs.YtppmecpodleoiaaDoor.Entry Go.Proofs.YtppmecpodleoiaaDoor.First Go.Proofs.YtppmecpodleoiaaDoor.Line Go.Proofs.YtppmecpodleoiaaDoor.FirstI Go.Proofs.YtppmecpodleoiaaDoor.ShrM Go.Proofs.YtppmecpodleoiaaDoor.Shr
set_option linter.unusedVariables false

/-- both find one matrix, or none -/
theorem both (r c : Int) (s : ByteArray) (hs : s.size ≤ maxLen) : ∃ (A B : Int) (u : ByteArray) (b : Bool),
    (∀ w, Calls Tryd.prog 14 #[mat r c s] w fun e w' => e = .returned (.tuple #[mat A B u, .bool b]) ∧ Below w.heap.size w w') ∧
    (∀ w, Calls Tryd.prog 16 #[mat r c s] w fun e w' => e = .returned (.tuple #[mat A B u, .bool b]) ∧ Below w.heap.size w w') := by
  by_cases hv : validB r c s = true
  · obtain ⟨R, C, E, rfl, rfl, h1, h2, h3, h4, rfl⟩ := valid_form hv
    have hsz : (str (rowsB E R C)).size ≤ 64 := by rw [str_size, rowsB_length]; exact prod_le h2 h4
    have hG := fun W => grid_yes E R C h1 h2 h3 h4 _ rfl hs hsz hv W
    have hxl := firsts_len (keyR E C) R
    have hyl := firsts_len (keyC E R) C
    have hx1 := firsts_one (keyR E C) R h1
    have hy1 := firsts_one (keyC E R) C h3
    have hxm := firsts_lt (keyR E C) R
    have hym := firsts_lt (keyC E R) C
    exact ⟨_, _, _, true,
      fun w => shrink_spec R C _ (str (rowsB (fun x y => E y x) C R)) hs hv (firsts (keyR E C) R) (firsts (keyC E R) C) _ _ _ w (w.heap.size + 2) rfl
        (fun W h => first_sv E R C h2 h4 _ W h) (fun W => Turn1.turn_spec1 E R C h1 h2 h3 h4 W) (fun W h => first_sv (fun x y => E y x) C R h4 h2 _ W h)
        (fun v1 v2 W s1 s2 => pick_s E R C h2 h4 _ _ hxm hym hx1 (by omega) hy1 (by omega) _ v1 v2 W s1 s2),
      fun w => shrink_impl R C _ R C _ (firsts (keyR E C) R) (firsts (keyC E R) C) _ _ _ true w (w.heap.size + 2) rfl hG
        (fun W h => firsts_rows E R C h2 h4 _ W h) (fun W h => firsts_cols E R C h2 h4 _ W h)
        (fun v1 v2 W s1 s2 => pick_i E R C h1 h2 h3 h4 _ _ _ hxm hym hx1 (by omega) hy1 (by omega) hG _ v1 v2 W s1 s2)⟩
  · have hv' : validB r c s = false := by simpa using hv
    have hG := fun W => grid_no r c s hs hv' W
    exact ⟨0, 0, str [], false, fun w => shrink_spec_no r c s hs hv' w,
      fun w => shrink_impl r c s 0 0 _ [] [] 0 0 (str []) false w (w.heap.size + 2) rfl hG (fun W h => firsts_none _ _ row_enters _ W h) (fun W h => firsts_none _ _ col_enters _ W h)
        (fun v1 v2 W s1 s2 => pick_n r c s hG _ v1 v2 W s1 s2)⟩

theorem three_at {w1 w2 : World} {a b c : Value} {T : TypeId} (hb : Below (w1.alloc (.cells #[a, b, c] T)).heap.size (w1.alloc (.cells #[a, b, c] T)) w2) :
    w1.heap.size < w2.heap.size ∧ w2.cell? ⟨w1.heap.size, 0, none⟩ = some a ∧ w2.cell? ⟨w1.heap.size, 1, none⟩ = some b ∧ w2.cell? ⟨w1.heap.size, 2, none⟩ = some c := by
  obtain ⟨h0, h1, h2⟩ := three_of hb
  exact ⟨by have := hb.size; simp at this; omega, h0, h1, h2⟩

set_option maxHeartbeats 1000000 in
theorem walk (r c : Int) (s : ByteArray) (wr : (Lit.int .i64 r).wf = true) (wc : (Lit.int .i64 c).wf = true) (hs : s.size ≤ maxLen) (w : World) :
    Calls Tryd.prog 4 #[mat r c s] w fun e w' => e = .returned (.bool true) ∧ Below w.heap.size w w' := by
  obtain ⟨A, B, u, b, hspec, himpl⟩ := both r c s hs
  have HS := Lib.hid hspec
  have HI := Lib.hid himpl
  clear hspec himpl
  have hs2 := hs
  unfold maxLen at hs2
  by_cases hbig : 1048576 < s.size
  · go_enter Tryd.func4, Tryd.ntmps4
    go_wp2_with fail
    refine (sz_over r c s _ (by omega) (by omega) hs _).mono ?_
    rintro e w1 ⟨rfl, hb1⟩
    have HB := Lib.hid (bstep ((Below.refl w.heap.size w).alloc (Nat.le_refl _) _) hb1)
    clear hb1
    go_wp2_with fail
    go_ret
    exact ⟨rfl, HB.out⟩
  · go_enter Tryd.func4, Tryd.ntmps4
    go_wp2_with fail
    refine (sz_fits r c s _ (by omega) (by omega) _).mono ?_
    rintro e w1 ⟨rfl, hb1⟩
    obtain ⟨k0, k1, k2⟩ := three_of hb1
    have hg : w.heap.size < w1.heap.size := by have := hb1.size; simp at this; omega
    have HB := Lib.hid (bstep ((Below.refl w.heap.size w).alloc (Nat.le_refl _) _) hb1)
    clear hb1
    go_wp2_with fail
    refine (to_any r c s _).mono ?_
    rintro e w2 ⟨rfl, hb2⟩
    go_wp2_with fail
    refine (HS.out _).mono ?_
    rintro e w3 ⟨rfl, hb3⟩
    have hg3 : w.heap.size < w3.heap.size := by have := hb2.size; have := hb3.size; omega
    obtain ⟨j0, j1, j2⟩ := three_on (hb2.trans (hb3.mono hb2.size)) hg k0 k1 k2
    have HB3 := Lib.hid (bstep (bstep HB.out hb2) hb3)
    clear hb2 hb3 k0 k1 k2 HB hg
    go_wp2_with fail
    refine (to_any r c s _).mono ?_
    rintro e w4 ⟨rfl, hb4⟩
    go_wp2_with fail
    refine (HI.out _).mono ?_
    rintro e w5 ⟨rfl, hb5⟩
    obtain ⟨hz, q0, q1, q2⟩ := three_at (hb4.trans (hb5.mono hb4.size))
    have HB5 := Lib.hid (bstep (bstep (bstepA HB3.out _) hb4) hb5)
    clear hb4 hb5 j0 j1 j2 HB3 hg3
    go_wp2_with fail
    refine (eq_same _ _ _ _).mono ?_
    rintro e w6 ⟨rfl, hb6⟩
    have HB6 := Lib.hid (bstep (bstepA HB5.out _) hb6)
    clear hb6 HB5
    cases b
    all_goals
      go_wp2_with fail
      go_ret
      exact ⟨rfl, HB6.out⟩
end Go.Proofs.YtppmecpodleoiaaDoor.fnExactShrinkMatrix
