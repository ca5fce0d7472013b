/-
  Contracts of the laws' own szRectS and toRectS at a plain seat.
-/
import Derived.Test.YtcafingoghoijaaRectsP
namespace Go.Proofs.Ytcafingoghoijaa.RectsQ
open Go.RowKit Go.Proofs.Ytcafingoghoijaa.Plain Go.Proofs.Ytcafingoghoijaa.Pat Go.Proofs.Ytcafingoghoijaa.Rect Go.Proofs.Ytcafingoghoijaa.Rects
set_option linter.unusedVariables false

set_option maxHeartbeats 400000 in
theorem sz_rects (p : Option Addr) (n k : Nat) (left : Int) (h0 : 0 ≤ left) (h1 : left ≤ 1048576) (hn : n ≤ 9223372036854775807) (w : World) :
    Calls Try.prog 13 #[.slice p n k, .int .i64 left] w fun e w' => e = .returned (.int .i64 (if (n : Int) ≤ left then left - n else -1)) ∧ w = w' := by
  by_cases h : (n : Int) ≤ left
  · rw [if_pos h]
    go_enter Try.func13, Try.ntmps13
    go_wp2_with fail
    go_ret
    exact ⟨rfl, rfl⟩
  · rw [if_neg h]
    go_enter Try.func13, Try.ntmps13
    go_wp2_with fail
    go_ret
    exact ⟨rfl, rfl⟩

set_option maxHeartbeats 1000000 in
theorem to_own (xs : List (Int × Int)) (v : Value) (hlen : xs.length ≤ 1048576) (w : World) (hiv : RV w w.heap.size v xs) :
    Calls Try.prog 15 #[v] w fun e w' => e = .returned (.slice (some ⟨w.heap.size, 0, none⟩) xs.length xs.length) ∧ Out w w' w.heap.size xs xs.length := by
  obtain ⟨i0, hi, hz0, hz1, hz2⟩ := info_parts rinfos
  have HMK : Hid (∀ W : World, (Instr.makeSlice 25 (.int .i64 (xs.length : Int)) (.int .i64 (xs.length : Int))).run Try.prog W = .ok (.slice (some ⟨W.heap.size, 0, none⟩) xs.length xs.length) (W.alloc (.cells (madeCells #[.int .i64 0, .int .i64 0] (xs.length * 2)) 33))) := fun W => by
    have := run_make (P := Try.prog) W 25 33 i0 _ Try.underlying25 hi hz0 .i64 .i64 (xs.length : Int) (xs.length : Int) (by omega) (Int.le_refl _) (by rw [hz2]; omega) (by omega)
    rw [hz1] at this
    simpa [Value.cells] using this
  have HC : Hid (∀ j (hj : j < xs.length), ∃ b off c, v = .slice (some ⟨b, off, none⟩) xs.length c ∧ b < w.heap.size ∧ w.cell? ⟨b, off + j * 2, none⟩ = some (.int .i64 xs[j].1) ∧ w.cell? ⟨b, off + j * 2 + 1, none⟩ = some (.int .i64 xs[j].2)) := fun j hj => by
    rcases hiv.2 with ⟨_, rfl⟩ | ⟨b, off, c, rfl, hlt, hc⟩
    · cases hj
    · exact ⟨b, off, c, rfl, hlt, hc j hj⟩
  obtain ⟨p, kk, rfl⟩ := hiv.slice
  clear hiv
  go_enter Try.func15, Try.ntmps15
  have hmk := HMK.out
  go_wp2_with fail
  clear hmk HMK hi hz0 hz1 hz2
  have HO : Hid (Out w (w.alloc (.cells (madeCells #[.int .i64 0, .int .i64 0] (xs.length * 2)) 33)) w.heap.size xs 0) := by
    have hn := heap_alloc_new w (.cells (madeCells #[.int .i64 0, .int .i64 0] (xs.length * 2)) 33)
    refine ⟨fun j _ h => absurd h (by omega), fun j hj => ⟨?_, ?_⟩, (Below.refl _ _).alloc (Nat.le_refl _) _, Nat.le_refl _, by simp⟩
    · rw [Nat.zero_add, cell_of_row _ _ j _ _ _ hn, Array.getElem?_eq_getElem (by rw [size_madeCells]; exact hj)]
      rfl
    · exact frozen_of_row _ _ _ _ _ hn
  generalize w.alloc (.cells (madeCells #[.int .i64 0, .int .i64 0] (xs.length * 2)) 33) = W0 at *
  go_loopw [4] (fun i wr => ∃ k : Nat, k ≤ xs.length ∧ i = .int .i64 (k : Int) ∧ Out w wr w.heap.size xs k) (fun i _ => xs.length - (intOf i).toNat)
  case atStart => exact ⟨0, Nat.zero_le _, rfl, HO.out⟩
  case round =>
    obtain ⟨k, hk, rfl, ho⟩ := hrel
    clear HO
    have HOK := Lib.hid ho
    by_cases hkl : k < xs.length
    · obtain ⟨b, off, c, e, hlt, c0, c1⟩ := HC.out k hkl
      injection e with e1 e2 e3
      subst e1 e3
      have c0 := (ho.below.cell (p := ⟨b, off + k * 2, none⟩) hlt).trans c0
      have c1 := (ho.below.cell (p := ⟨b, off + k * 2 + 1, none⟩) hlt).trans c1
      have HX : Hid (∃ x y, xs[k].1 = x ∧ xs[k].2 = y) := ⟨_, _, rfl, rfl⟩
      obtain ⟨x, y, hx, hy⟩ := HX.out
      rw [hx] at c0
      rw [hy] at c1
      clear ho HX
      go_wp2_with fail
      refine (to_rect x y _).mono ?_
      rintro e w2 ⟨rfl, hb2⟩
      have ho2 := HOK.out.later hb2
      obtain ⟨⟨u0, h0⟩, ⟨u1, h1⟩, f0, f1⟩ := ho2.place hkl
      have HO2 := Lib.hid (ho2.set_ hkl x y hx hy)
      clear hb2 ho2 c0 c1 HOK hx hy
      go_wp2_with fail
      go_roundw
      case rel => exact ⟨k + 1, by omega, by go_num, HO2.out⟩
      case measure => simp [intOf]; omega
    · obtain rfl : k = xs.length := by omega
      clear ho
      go_wp2_with fail
      refine bodyPost_ret (v := .slice (some ⟨w.heap.size, 0, none⟩) xs.length xs.length) (by simp [results, Try.results15, go_sem]) rfl ?_
      have ho := HOK.out
      exact ⟨rfl, ho⟩

theorem rv_out {w w' : World} {b : Nat} {xs : List (Int × Int)} (hlen : xs.length ≤ 1048576) (ho : Out w w' b xs xs.length) : RV w' w'.heap.size (.slice (some ⟨b, 0, none⟩) xs.length xs.length) xs :=
  ⟨by omega, .inr ⟨_, 0, _, rfl, ho.hi, fun j hj => by rw [Nat.zero_add]; exact ho.cells j hj hj⟩⟩
theorem to_rects (xs : List (Int × Int)) (v : Value) (hlen : xs.length ≤ 1048576) (w : World) (hiv : RV w w.heap.size v xs) :
    Calls Try.prog 15 #[v] w fun e w' => ∃ v', e = .returned v' ∧ RV w' w'.heap.size v' xs ∧ Below w.heap.size w w' := by
  refine (to_own xs v hlen w hiv).mono ?_
  rintro e w' ⟨rfl, ho⟩
  exact ⟨_, rfl, rv_out hlen ho, ho.below⟩
end Go.Proofs.Ytcafingoghoijaa.RectsQ
