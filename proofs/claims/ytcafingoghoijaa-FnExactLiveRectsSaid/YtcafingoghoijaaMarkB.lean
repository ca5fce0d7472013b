/-
  markRectS over whatever slice that may be written: only its block turns, and the marks lie in it.
-/
import Derived.Test.YtcafingoghoijaaMarksQ
import Derived.Maps.AppendAt
namespace Go.Proofs.Ytcafingoghoijaa.MarkB
open Go.RowKit Go.Proofs.Ytcafingoghoijaa.Plain Go.Proofs.Ytcafingoghoijaa.Pat Go.Proofs.Ytcafingoghoijaa.Rect Go.Proofs.Ytcafingoghoijaa.Rects Go.Proofs.Ytcafingoghoijaa.Marks
set_option linter.unusedVariables false

theorem grown_set {w wr : World} {g : Nat} (h : w.grownBy wr (some g)) (off : Nat) (v : Value) : w.grownBy (wr.setCell ⟨g, off, none⟩ v) (some g) :=
  World.grownBy.trans h ⟨rfl, rfl, rfl, by simp, fun k _ hk => Below.heap_setCell _ _ _ k (fun e => hk (by rw [e]))⟩
theorem grown_refl (w : World) (g : Nat) : w.grownBy w (some g) := ⟨rfl, rfl, rfl, Nat.le_refl _, fun _ _ _ => rfl⟩

/-- the marks so far -/
structure MK (w wr : World) (g n j : Nat) : Prop where
  grown : w.grownBy wr (some g)
  there : wr.there g 0 (n * 2)
  cells : ∀ i, i < n → i < j → wr.cell? ⟨g, i * 2, none⟩ = some (.int .i64 ((1 + 2 * i : Nat) : Int)) ∧ wr.cell? ⟨g, i * 2 + 1, none⟩ = some (.int .i64 ((2 + 2 * i : Nat) : Int))
theorem MK.place {w wr : World} {g n k : Nat} (h : MK w wr g n k) (hk : k < n) :
    (∃ u, wr.cell? ⟨g, k * 2, none⟩ = some u) ∧ (∃ u, wr.cell? ⟨g, k * 2 + 1, none⟩ = some u) ∧ wr.frozen? ⟨g, k * 2, none⟩ = false ∧ wr.frozen? ⟨g, k * 2 + 1, none⟩ = false := by
  have h0 := h.there (k * 2) (by omega)
  have h1 := h.there (k * 2 + 1) (by omega)
  rw [Nat.zero_add] at h0 h1
  exact ⟨Option.isSome_iff_exists.1 h0.1, Option.isSome_iff_exists.1 h1.1, h0.2, h1.2⟩
theorem MK.set_ {w wr : World} {g n k : Nat} (h : MK w wr g n k) (hk : k < n) (x y : Int) (hx : ((1 + 2 * k : Nat) : Int) = x) (hy : ((2 + 2 * k : Nat) : Int) = y) :
    MK w ((wr.setCell ⟨g, k * 2, none⟩ (.int .i64 x)).setCell ⟨g, k * 2 + 1, none⟩ (.int .i64 y)) g n (k + 1) := by
  obtain ⟨⟨u0, h0⟩, ⟨u1, h1⟩, _, _⟩ := h.place hk
  refine ⟨grown_set (grown_set h.grown _ _) _ _, fun j hj => ?_, fun j hj hjk => ?_⟩
  · have ht : (wr.setCells g (k * 2) [.int .i64 x, .int .i64 y]).there g 0 (n * 2) := World.there_setCells h.there g (k * 2) _
    exact ht j hj
  · by_cases e : j = k
    · subst e
      refine ⟨?_, ?_⟩
      · rw [World.cell?_setCell_other _ _ _ _ (by simp), World.cell?_setCell_same _ _ _ h0, hx]
      · rw [World.cell?_setCell_same _ _ _ (u := u1) (by rw [World.cell?_setCell_other _ _ _ _ (by simp)]; exact h1), hy]
    · obtain ⟨c0, c1⟩ := h.cells j hj (by omega)
      refine ⟨?_, ?_⟩
      · rw [World.cell?_setCell_other _ _ _ _ (by simp <;> omega), World.cell?_setCell_other _ _ _ _ (by simp <;> omega)]
        exact c0
      · rw [World.cell?_setCell_other _ _ _ _ (by simp <;> omega), World.cell?_setCell_other _ _ _ _ (by simp <;> omega)]
        exact c1

set_option maxHeartbeats 1000000 in
theorem mark_any (g cap n : Nat) (hn : n ≤ 1048576) (w : World) (hth : w.there g 0 (n * 2)) :
    Calls Try.prog 25 #[.slice (some ⟨g, 0, none⟩) n cap, .int .i64 1] w fun e w' => e = .returned (.int .i64 ((1 + 2 * n : Nat) : Int)) ∧ MK w w' g n n := by
  have HO : Hid (MK w w g n 0) := ⟨grown_refl w g, hth, fun i _ h => absurd h (Nat.not_lt_zero i)⟩
  clear hth
  go_enter Try.func25, Try.ntmps25
  go_wp2_with fail
  go_loopw [1, 5] (fun k i wr => ∃ j : Nat, j ≤ n ∧ k = .int .i64 ((1 + 2 * j : Nat) : Int) ∧ i = .int .i64 (j : Int) ∧ MK w wr g n j) (fun _ i _ => n - (intOf i).toNat)
  case atStart => exact ⟨0, Nat.zero_le _, rfl, rfl, HO.out⟩
  case round =>
    obtain ⟨j, hj, rfl, rfl, ho⟩ := hrel
    clear HO
    have HOK := Lib.hid ho
    by_cases hlt : j < n
    · obtain ⟨⟨u0, h0⟩, ⟨u1, h1⟩, f0, f1⟩ := ho.place hlt
      have HO2 := Lib.hid (ho.set_ hlt (((1 + 2 * j : Nat) : Int)) (((2 + 2 * j : Nat) : Int)) rfl rfl)
      clear ho
      obtain ⟨a, ha⟩ : ∃ a : Nat, 1 + 2 * j = a := ⟨_, rfl⟩
      obtain ⟨b, hb⟩ : ∃ b : Nat, 2 + 2 * j = b := ⟨_, rfl⟩
      have hab : (b : Int) = (a : Int) + 1 := by omega
      rw [ha, hb, hab] at HO2
      rw [ha]
      have HAB := Lib.hid (And.intro ha (And.intro hb hab))
      have ha4 : a ≤ 4200000 := by omega
      clear ha hb hab
      go_wp2_with fail
      go_roundw
      case rel => exact ⟨j + 1, by omega, by have := HAB.out; go_num, by go_num, HO2.out⟩
      case measure => simp [intOf]; omega
    · obtain rfl : j = n := by omega
      clear ho
      go_wp2_with fail
      go_ret
      exact ⟨rfl, HOK.out⟩

theorem MK.rv {w wr : World} {g n cap : Nat} (h : MK w wr g n n) (hn : n ≤ 1048576) (hg : g < wr.heap.size) : RV wr wr.heap.size (.slice (some ⟨g, 0, none⟩) n cap) (nums n) := by
  have hl := nums_len n
  refine ⟨by omega, .inr ⟨g, 0, cap, by rw [hl], hg, fun j hj => ?_⟩⟩
  rw [nums_get, Nat.zero_add]
  exact h.cells j (by omega) (by omega)

/-- a slice of one's own is marked -/
theorem mark_own (B : Nat) (w : World) (v : Value) (xs : List (Int × Int)) (hlen : xs.length ≤ 1048576) (h : w.ownsRow B 33 2 v xs.length (flat xs)) (hB : B ≤ w.heap.size) :
    Calls Try.prog 25 #[v, .int .i64 1] w fun e w' => e = .returned (.int .i64 ((1 + 2 * xs.length : Nat) : Int)) ∧ RV w' w'.heap.size v (nums xs.length) ∧ ∃ g, B ≤ g ∧ w.grownBy w' (some g) := by
  rcases h.2 with ⟨rfl, h0⟩ | ⟨g, cap, cur, rfl, hg, hheap, hn, hcap, hsz, htake⟩
  · rw [h0]
    refine (mark_none w).mono ?_
    rintro e w' ⟨rfl, rfl⟩
    exact ⟨rfl, ⟨by simp [nums], .inl ⟨rfl, rfl⟩⟩, w.heap.size, hB, grown_refl w _⟩
  · have hglt := (Array.getElem?_eq_some_iff.1 hheap).1
    refine (mark_any g cap xs.length hlen w (fun j hj => ⟨?_, by simp [World.frozen?, hheap]⟩)).mono ?_
    · rw [Nat.zero_add, cell_of_row _ _ j _ _ _ hheap, Array.getElem?_eq_getElem (by rw [hsz]; have := Nat.mul_le_mul_right 2 hn; omega)]
      rfl
    · rintro e w' ⟨rfl, hm⟩
      exact ⟨rfl, hm.rv hlen (Nat.lt_of_lt_of_le hglt hm.grown.size), g, hg, hm.grown⟩

/-- what lies below stays -/
theorem rv_grown {w w' : World} {B g : Nat} {v : Value} {xs : List (Int × Int)} (h : RV w B v xs) (hg : w.grownBy w' (some g)) (hB : B ≤ g) (hw : B ≤ w.heap.size) : RV w' B v xs := by
  refine ⟨h.1, ?_⟩
  rcases h.2 with h2 | ⟨b, off, c, rfl, hlt, hc⟩
  · exact .inl h2
  · have hb := hg.block b (by omega) (by intro e; injection e with e; omega)
    exact .inr ⟨b, off, c, rfl, hlt, fun j hj => ⟨(World.cell?_of_block (a := ⟨b, off + j * 2, none⟩) hb).trans (hc j hj).1, (World.cell?_of_block (a := ⟨b, off + j * 2 + 1, none⟩) hb).trans (hc j hj).2⟩⟩
theorem below_grown {w0 w w' : World} {B g : Nat} (h : Below B w0 w) (hg : w.grownBy w' (some g)) (hB : B ≤ g) (hw : B ≤ w.heap.size) : Below B w0 w' := h.grown hg hw (fun k e => by injection e with e; omega)
end Go.Proofs.Ytcafingoghoijaa.MarkB
