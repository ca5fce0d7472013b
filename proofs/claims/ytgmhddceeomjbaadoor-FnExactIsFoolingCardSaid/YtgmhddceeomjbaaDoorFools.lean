/-
  The closure of the program's board.foolsWith, slices.ContainsFunc and slices.IndexFunc at it.
-/
import Derived.Test.YtgmhddceeomjbaaDoorApart
import Derived.Test.YtgmhddceeomjbaaDoorFreeL
namespace Go.Proofs.YtgmhddceeomjbaaDoor.Fools
open Go.RowKit Go.Proofs.YtgmhddceeomjbaaDoor.Plain Go.Proofs.YtgmhddceeomjbaaDoor.Base Go.Proofs.YtgmhddceeomjbaaDoor.Law Go.Proofs.YtgmhddceeomjbaaDoor.Pat Go.Proofs.YtgmhddceeomjbaaDoor.Rect Go.Proofs.YtgmhddceeomjbaaDoor.Board Go.Proofs.YtgmhddceeomjbaaDoor.BoardM Go.Proofs.YtgmhddceeomjbaaDoor.Cell Go.Proofs.YtgmhddceeomjbaaDoor.Apart Go.Proofs.YtgmhddceeomjbaaDoor.FreeL
open Go.Proofs.YtgmhddceeomjbaaDoor.Free (fill wp_value wp_enter wp_load_row freeB)
set_option linter.unusedVariables false

theorem eval_get {a : Act} {d : Tmp} {v : Value} (h : a.tmps[d]?.getD undef = v) (_ : True) : a.eval (.tmp d) = v := by
  rw [← h]
  show a.tmps.getD d undef = _
  simp [Array.getD_eq_getD_getElem?]

set_option maxHeartbeats 2000000 in
set_option maxRecDepth 100000 in
theorem together_any (R C : Int) (z o : Nat) (i j bit : Int) (ap : Bool) (k h g : Nat) (W : World)
    (ha : ∀ W : World, Calls Tryd.prog 121 #[brd R C z o, .int .i64 i, .int .i64 j, .int .i64 bit] W fun e w' => e = .returned (.bool ap) ∧ Below W.heap.size W w')
    (hk : W.heap[k]? = some (.cells #[.int .i64 R, .int .i64 C, .int .u64 (z : Int), .int .u64 (o : Int)] 70 (0, 0))) (hh : W.cell? ⟨h, 0, none⟩ = some (.int .i64 i)) (hhb : h < W.heap.size)
    (hg : W.cell? ⟨g, 0, none⟩ = some (.int .i64 bit)) (hgb : g < W.heap.size) :
    Calls Tryd.prog 120 #[.int .i64 j, .pointer (some ⟨k, 0, none⟩), .pointer (some ⟨h, 0, none⟩), .pointer (some ⟨g, 0, none⟩)] W
      fun e W' => e = .returned (.bool (!ap)) ∧ Below W.heap.size W W' := by
  have HK : Hid (∀ W' : World, Below W.heap.size W W' → W'.heap[k]? = some (.cells #[.int .i64 R, .int .i64 C, .int .u64 (z : Int), .int .u64 (o : Int)] 70 (0, 0))) := fun W' hb => (hb.block _ (Array.getElem?_eq_some_iff.1 hk).1).trans hk
  have HN : Hid (∀ W' : World, Below W.heap.size W W' → W'.cell? ⟨h, 0, none⟩ = some (.int .i64 i)) := fun W' hb => (hb.cell (p := ⟨h, 0, none⟩) hhb).trans hh
  have HD : Hid (∀ W' : World, Below W.heap.size W W' → W'.cell? ⟨g, 0, none⟩ = some (.int .i64 bit)) := fun W' hb => (hb.cell (p := ⟨g, 0, none⟩) hgb).trans hg
  have HA := Lib.hid ha
  obtain ⟨q0, q1, q2, q3⟩ := cells4 hk
  clear ha
  go_enter Tryd.func120, Tryd.ntmps120
  go_wp2_with fail
  refine (HA.out _).mono ?_
  rintro e w2 ⟨rfl, hb2⟩
  have HB2 := Lib.hid hb2
  clear hb2
  go_wp2_with fail
  go_ret
  exact ⟨rfl, HB2.out⟩
theorem clos_enters (args : Array Value) (W : World) : (callFunc 120 args).run Tryd.prog W = .ok (.enter 120 args) W := by kernel_rfl

/-- a predicate's answers at these numbers -/
def Tests (lb : Array Value) (l : List Nat) (pr : Nat → Bool) (w : World) : Prop :=
  ∀ (j : Nat), j ∈ l → ∀ W : World, Below w.heap.size w W → Calls Tryd.prog 120 (#[.int .i64 (j : Int)] ++ lb) W fun e W' => e = .returned (.bool (pr j)) ∧ Below W.heap.size W W'

set_option maxHeartbeats 2000000 in
set_option maxRecDepth 100000 in
theorem index_any (p1 p2 p3 : Value) (l : List Nat) (hlen : l.length ≤ 4611686018427387904) (pr : Nat → Bool) (p : Option Addr) (cc : Nat) (w : World) (ht : Tests #[p1, p2, p3] l pr w)
    (hc : ∀ (j : Nat) (hj : j < l.length), ∃ g off, p = some ⟨g, off, none⟩ ∧ g < w.heap.size ∧ w.cell? ⟨g, off + j, none⟩ = some (.int .i64 (l[j] : Int))) :
    Calls Tryd.prog 153 #[.slice p l.length cc, .func (.func 120) #[] #[p1, p2, p3]] w fun e w' => ∃ k : Int, e = .returned (.int .i64 k) ∧ decide (0 ≤ k) = l.any pr ∧ Below w.heap.size w w' := by
  have HT := Lib.hid ht
  have HC := Lib.hid hc
  clear ht hc
  go_enter Tryd.func153, Tryd.ntmps153
  go_wp2_with fail
  go_loopw [5, 8] (fun _ x wr => ∃ k : Nat, k ≤ l.length ∧ x = .int .i64 (k : Int) ∧ Below w.heap.size w wr ∧ Hid (∀ (j : Nat) (hj : j < l.length), j < k → pr l[j] = false)) (fun _ x _ => l.length - (intOf x).toNat)
  case atStart => exact ⟨0, Nat.zero_le _, rfl, Below.refl _ _, fun j hj h => absurd h (by omega)⟩
  case round =>
    obtain ⟨k, hk, rfl, hb, hall⟩ := hrel
    have HB := Lib.hid hb
    by_cases hlt : k < l.length
    · obtain ⟨g, off, hp, hg, hcell⟩ := HC.out k hlt
      subst hp
      have hcl : wr.cell? ⟨g, off + k, none⟩ = some (.int .i64 (l[k] : Int)) := (hb.cell (p := ⟨g, off + k, none⟩) hg).trans hcell
      have HP := Lib.hid (HT.out l[k] (List.getElem_mem hlt))
      have HM : Hid (l[k] ∈ l) := List.getElem_mem hlt
      have HA : Hid (∀ (j : Nat) (hj : j < l.length), j < k + 1 → j ≠ k → pr l[j] = false) := fun j hj h h2 => hall.out j hj (by omega)
      obtain ⟨y, hy⟩ : ∃ y, l[k] = y := ⟨_, rfl⟩
      have HY := Lib.hid hy
      rw [hy] at hcl HP HM
      have k0 : (0 : Int) ≤ (k : Int) := Int.natCast_nonneg k
      have k1 : (k : Int) < (l.length : Int) := by omega
      clear hy hcell hb hall
      obtain ⟨b, hb⟩ : ∃ b, pr y = b := ⟨_, rfl⟩
      have HPB := Lib.hid hb
      rw [hb] at HP
      clear hb
      cases b with
      | true =>
        go_wp2_with fail
        refine (HP.out _ HB.out).mono ?_
        rintro e w2 ⟨rfl, hb2⟩
        have HB2 := Lib.hid (bstep HB.out hb2)
        clear hb2
        go_wp2_with fail
        go_ret
        refine ⟨_, rfl, ?_, HB2.out⟩
        rw [List.any_eq_true.2 ⟨y, HM.out, HPB.out⟩]
        simp
      | false =>
        go_wp2_with fail
        refine (HP.out _ HB.out).mono ?_
        rintro e w2 ⟨rfl, hb2⟩
        have HB2 := Lib.hid (bstep HB.out hb2)
        clear hb2
        go_wp2_with fail
        go_roundw
        case rel => exact ⟨k + 1, by omega, by go_num, HB2.out, fun j hj h => by
          by_cases e : j = k
          · subst e; rw [HY.out]; exact HPB.out
          · exact HA.out j hj h e⟩
        case measure => simp [intOf]; omega
    · obtain rfl : k = l.length := by omega
      clear hb
      go_wp2_with fail
      go_ret
      refine ⟨-1, rfl, ?_, HB.out⟩
      have : l.any pr = false := by
        rw [List.any_eq_false]
        intro x hx
        obtain ⟨j, hj, rfl⟩ := List.getElem_of_mem hx
        rw [hall.out j hj hj]; simp
      rw [this]; rfl

set_option maxHeartbeats 1000000 in
theorem contains_any (p1 p2 p3 : Value) (l : List Nat) (hlen : l.length ≤ 4611686018427387904) (pr : Nat → Bool) (p : Option Addr) (cc : Nat) (w : World) (ht : Tests #[p1, p2, p3] l pr w)
    (hc : ∀ (j : Nat) (hj : j < l.length), ∃ g off, p = some ⟨g, off, none⟩ ∧ g < w.heap.size ∧ w.cell? ⟨g, off + j, none⟩ = some (.int .i64 (l[j] : Int))) :
    Calls Tryd.prog 123 #[.slice p l.length cc, .func (.func 120) #[] #[p1, p2, p3]] w fun e w' => e = .returned (.bool (l.any pr)) ∧ Below w.heap.size w w' := by
  have HX := Lib.hid (index_any p1 p2 p3 l hlen pr p cc w ht hc)
  clear ht hc
  go_enter Tryd.func123, Tryd.ntmps123
  go_wp2_with fail
  refine HX.out.mono ?_
  rintro e w2 ⟨k, rfl, hk, hb⟩
  have HB := Lib.hid hb
  have HK := Lib.hid hk
  clear hb hk
  go_wp2_with fail
  go_ret
  exact ⟨by rw [← HK.out]; rfl, HB.out⟩


end Go.Proofs.YtgmhddceeomjbaaDoor.Fools
