/-
  The program's LiveRects answers as the reference's at all lists, rectangles and sides; its list is memory of its own.
-/
import Derived.Test.YtcafingoghoijaaLiveRectsWalk
import Derived.Test.YtcafingoghoijaaRDoor
import Derived.Test.YtcafingoghoijaaDoorQP
namespace Go.Proofs.Ytcafingoghoijaa.fnExactLiveRects
open Go.ChangeShapes Go.WideShapes Go.ChangeAt Go.RowKit Go.Joins
open Go.Proofs.Ytcafingoghoijaa.Plain Go.Proofs.Ytcafingoghoijaa.RDoor
set_option linter.unusedVariables false
set_option linter.unusedSimpArgs false

set_option maxRecDepth 100000 in
theorem lifted (os : Os) (started : os.Started) (H : Type) (enc : TypeId × Value → H) :
    ReturnsInHanded {} Try.checked os 6 .any (Rows.fnExactLiveRectsSpec.pre6 enc Try.prog Try.f6 Rows.fnExactLiveRectsRow.domain false) (Rows.fnExactLiveRectsSpec.post enc Try.prog Try.f6 false true false false) := by
  refine returnsInHanded_of_change (C := Try.checked) own started (by kernel_rfl) Try.func6
    (ChangeSpec.witness6 (enc := enc) (C := Try.checked) false ⟨#[], #[(.slice none 0 0), (.agg #[.int .i64 0, .int .i64 0]), (.bool false)], []⟩ 8 (by kernel_rfl) (by kernel_rfl) (by kernel_rfl) (by kernel_rfl)) ?_
  intro W base args ds gs before hval0 hW hcnd _
  have hval : ∀ (j : Nat) t v, Try.f6.params[j]? = some t → args[j]? = some v → Value.okWide Try.prog W .any base t v := hval0
  have hW' := hW
  obtain ⟨p, q, hA0, hV, rfl, hfz, hnd⟩ := hW
  have hA : DataW.TrodAll enc Try.prog W 0 (fun _ => true) true Try.f6.params.toList args.toList ds p := hA0
  rw [Try.params6] at hA hval
  obtain ⟨v0, vs0, d0, ds0, p0, q0, hargs, rfl, rfl, h0, r0⟩ := trodAll_cons hA
  obtain ⟨v1, vs1, d1, ds1, p1, q1, rfl, rfl, rfl, h1, r1⟩ := trodAll_cons r0
  obtain ⟨v2, vs2, d2, ds2, p2, q2, rfl, rfl, rfl, h2, r2⟩ := trodAll_cons r1
  obtain ⟨rfl, rfl, rfl⟩ := trodAll_nil r2
  obtain rfl : args = #[v0, v1, v2] := by cases args; simp_all
  obtain ⟨rfl, rfl⟩ := trodVars_none hV
  obtain ⟨xs0, iv0⟩ := Go.Proofs.Ytcafingoghoijaa.DoorQ.opened (hval 0 22 v0 rfl rfl) h0
  obtain ⟨x10, x11, y10, y11, m1, rfl, rfl, rfl, z10, z11⟩ := open_agg2 Try.underlying31 (by kernel_rfl) cellsR (hval 1 31 v1 rfl rfl) h1
  obtain ⟨r1x, e10, rfl, wr1⟩ := DataW.trod_int Try.underlying3 z10
  obtain ⟨c1x, e11, rfl, wc1⟩ := DataW.trod_int Try.underlying3 z11
  simp only [List.cons.injEq, and_true] at e10 e11
  subst e10 e11
  obtain ⟨a2, rfl, rfl, rfl⟩ := open_bool Try.underlying4 (hval 2 4 v2 rfl rfl) h2
  clear hA0 hval0
  simp only [List.append_nil, List.nil_append] at hW'
  have hlt := hW'.lt
  refine (walk v0 xs0 r1x c1x wr1 wc1 a2 W iv0).mono fun e W' ⟨he, hg⟩ => ?_
  subst he
  exact ⟨_, rfl, post_below hW' hg (fun _ _ _ => (trodAll_cons_mk (shut_bool Try.underlying4 _) trodAll_mk0)) (fun sp hp => (by have T := (trodAll_cons_mk (Go.Proofs.Ytcafingoghoijaa.DoorQ.again h0 hg hlt (by intro x hx; simp [hx]) sp hp) (trodAll_cons_mk (shutR _ sp r1x c1x wr1 wc1) (trodAll_cons_mk (shut_bool Try.underlying4 a2) trodAll_mk0))); simp only [List.append_nil, List.nil_append] at T; exact T)) (fun _ _ => rfl)
    (ok_one (by kernel_rfl) rfl (okWide_bool_mk Try.underlying4 _))⟩

theorem proved : Rows.FnExactLiveRectsSaid :=
  OpenClaim.holds_of_wide 6 Try.f6 rfl rfl rfl rfl rfl rfl rfl ⟨rfl, rfl, rfl, rfl, rfl⟩ rfl rfl rfl rfl rfl (by kernel_rfl) Try.func6 (by kernel_rfl)
    (of_decide_eq_true (by kernel_rfl)) (by unfold Func.isWrapper; first | (rw [if_pos (by decide +kernel)]; kernel_rfl) | (rw [if_neg (by decide +kernel)]; exact ⟨rfl, rfl⟩))
    (fun os started H enc _ => lifted os started H enc)
end Go.Proofs.Ytcafingoghoijaa.fnExactLiveRects
