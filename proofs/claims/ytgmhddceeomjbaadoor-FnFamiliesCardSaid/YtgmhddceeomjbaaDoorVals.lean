/-
  The drawing functions l2Value and l1Count.
-/
import Derived.Test.YtgmhddceeomjbaaDoorRdA
namespace Go.Proofs.YtgmhddceeomjbaaDoor.Vals
open Go.RowKit Go.Proofs.YtgmhddceeomjbaaDoor.Plain Go.Proofs.YtgmhddceeomjbaaDoor.Rd Go.Proofs.YtgmhddceeomjbaaDoor.Rd2
set_option linter.unusedVariables false

set_option maxHeartbeats 1000000 in
theorem value_any {lo : Nat} (g p : Nat) (hp : p < 1000000) (w : World) (h : Rdr lo w g p) :
    Calls Tryd.prog 70 #[.pointer (some ⟨g, 0, none⟩)] w fun e w' => ∃ x : Int, e = .returned (.int .i64 x) ∧ -1 ≤ x ∧ x ≤ 2 ∧ Rdr lo w' g (p + 1) ∧ Apt g w w' := by
  have hgl := h.lt
  have hb := (Below.refl w.heap.size w).alloc (Nat.le_refl _) (.cells ([1, 0, 1, 0, 1, 0, 1, 0, 1, 0, 2, -1].map fun x : Int => Value.int .i64 x).toArray 3)
  have HN := Lib.hid (num_any g p (by omega) [1, 0, 1, 0, 1, 0, 1, 0, 1, 0, 2, -1] (by decide) (by decide) w.heap.size 12 (by omega) _ (h.later hb) (by simp) (fun j hj => cells_lit w 3 [1, 0, 1, 0, 1, 0, 1, 0, 1, 0, 2, -1] j hj))
  have HB := Lib.hid hb
  clear h hb
  go_enter Tryd.func70, Tryd.ntmps70
  go_wp2_with fail
  refine HN.out.mono ?_
  rintro e w2 ⟨x, rfl, hm, hr, ha⟩
  have HR := Lib.hid hr
  have HA := Lib.hid ((Apt.of_below HB.out).trans ha)
  have hx : -1 ≤ x ∧ x ≤ 2 := by
    simp at hm
    omega
  clear hr ha hm HN HB
  go_wp2_with fail
  go_ret
  exact ⟨x, rfl, hx.1, hx.2, HR.out, HA.out⟩

set_option maxHeartbeats 1000000 in
theorem count_any {lo : Nat} (g p : Nat) (hp : p < 1000000) (w : World) (h : Rdr lo w g p) :
    Calls Tryd.prog 104 #[.pointer (some ⟨g, 0, none⟩)] w fun e w' => ∃ x : Int, e = .returned (.int .i64 x) ∧ -1 ≤ x ∧ x ≤ 9 ∧ Rdr lo w' g (p + 1) ∧ Apt g w w' := by
  have hgl := h.lt
  have hb := (Below.refl w.heap.size w).alloc (Nat.le_refl _) (.cells ([3, 1, 2, 4, 8, 0, 9, -1, 5].map fun x : Int => Value.int .i64 x).toArray 3)
  have HN := Lib.hid (num_any g p (by omega) [3, 1, 2, 4, 8, 0, 9, -1, 5] (by decide) (by decide) w.heap.size 9 (by omega) _ (h.later hb) (by simp) (fun j hj => cells_lit w 3 [3, 1, 2, 4, 8, 0, 9, -1, 5] j hj))
  have HB := Lib.hid hb
  clear h hb
  go_enter Tryd.func104, Tryd.ntmps104
  go_wp2_with fail
  refine HN.out.mono ?_
  rintro e w2 ⟨x, rfl, hm, hr, ha⟩
  have HR := Lib.hid hr
  have HA := Lib.hid ((Apt.of_below HB.out).trans ha)
  have hx : -1 ≤ x ∧ x ≤ 9 := by
    simp at hm
    omega
  clear hr ha hm HN HB
  go_wp2_with fail
  go_ret
  exact ⟨x, rfl, hx.1, hx.2, HR.out, HA.out⟩
end Go.Proofs.YtgmhddceeomjbaaDoor.Vals
