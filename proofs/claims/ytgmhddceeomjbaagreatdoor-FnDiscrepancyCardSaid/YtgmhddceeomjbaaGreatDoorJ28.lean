/-
  Texts of one seat, joined: Rects, Marks.
-/
import Derived.Test.YtgmhddceeomjbaaGreatDoorJ9
import Derived.Test.YtgmhddceeomjbaaGreatDoorJ11
import Derived.Laws.MakeOwn
import Derived.Deep.MidRow
import Derived.Test.YtgmhddceeomjbaaGreatDoorJ14
import Derived.Test.YtgmhddceeomjbaaGreatDoorJ24
/-
  A slice of rectangles as a value; contracts of the laws' own small functions on it: szRectS, toRectS, eqRectS.
-/
namespace Go.Proofs.YtgmhddceeomjbaaGreatDoor.Rects
open Go.RowKit Go.Proofs.YtgmhddceeomjbaaGreatDoor.Plain Go.Proofs.YtgmhddceeomjbaaGreatDoor.Base Go.Proofs.YtgmhddceeomjbaaGreatDoor.Law Go.Proofs.YtgmhddceeomjbaaGreatDoor.Pat Go.Proofs.YtgmhddceeomjbaaGreatDoor.Rect Go.Proofs.YtgmhddceeomjbaaGreatDoor.FreeL Go.Proofs.YtgmhddceeomjbaaGreatDoor.Board
open Go.Proofs.YtgmhddceeomjbaaGreatDoor.Free (fill wp_value wp_enter wp_load_row freeB)
set_option linter.unusedVariables false

/-- v is a slice of these rectangles, in blocks that lie below B -/
def RV (w : World) (B : Nat) (v : Value) (xs : List (Int × Int)) : Prop :=
  xs.length ≤ 9223372036854775807 ∧ ((v = .slice none 0 0 ∧ xs = []) ∨ ∃ b off c, v = .slice (some ⟨b, off, none⟩) xs.length c ∧ b < B ∧
    ∀ j (hj : j < xs.length), w.cell? ⟨b, off + j * 2, none⟩ = some (.int .i64 xs[j].1) ∧ w.cell? ⟨b, off + j * 2 + 1, none⟩ = some (.int .i64 xs[j].2))
theorem RV.later {w w1 : World} {B : Nat} {v : Value} {xs : List (Int × Int)} (h : RV w B v xs) (hB : B ≤ w.heap.size) (hb : Below w.heap.size w w1) : RV w1 B v xs := by
  refine ⟨h.1, ?_⟩
  rcases h.2 with h2 | ⟨b, off, c, rfl, hlt, hc⟩
  · exact .inl h2
  · exact .inr ⟨b, off, c, rfl, hlt, fun j hj => ⟨(hb.cell (p := ⟨b, off + j * 2, none⟩) (by show b < _; omega)).trans (hc j hj).1, (hb.cell (p := ⟨b, off + j * 2 + 1, none⟩) (by show b < _; omega)).trans (hc j hj).2⟩⟩
theorem RV.mono {w : World} {B B' : Nat} {v : Value} {xs : List (Int × Int)} (h : RV w B v xs) (hB : B ≤ B') : RV w B' v xs := by
  refine ⟨h.1, ?_⟩
  rcases h.2 with h2 | ⟨b, off, c, rfl, hlt, hc⟩
  · exact .inl h2
  · exact .inr ⟨b, off, c, rfl, by omega, hc⟩
theorem RV.slice {w : World} {B : Nat} {v : Value} {xs : List (Int × Int)} (h : RV w B v xs) : ∃ p k, v = .slice p xs.length k := by
  rcases h.2 with ⟨rfl, rfl⟩ | ⟨b, off, c, rfl, _, _⟩
  · exact ⟨none, 0, rfl⟩
  · exact ⟨_, _, rfl⟩

theorem rinfos : (Tryz.prog.info? 34).map (fun i => (i.zero, i.size, i.bytes)) = some (some (.agg #[.int .i64 0, .int .i64 0]), 2, 16) := by kernel_rfl

/-- the copy so far -/
structure Out (w wr : World) (b : Nat) (xs : List (Int × Int)) (k : Nat) : Prop where
  cells : ∀ j (hj : j < xs.length), j < k → wr.cell? ⟨b, j * 2, none⟩ = some (.int .i64 xs[j].1) ∧ wr.cell? ⟨b, j * 2 + 1, none⟩ = some (.int .i64 xs[j].2)
  there : wr.there b 0 (xs.length * 2)
  below : Below w.heap.size w wr
  lo : w.heap.size ≤ b
  hi : b < wr.heap.size
theorem Out.later {w wr w2 : World} {b : Nat} {xs : List (Int × Int)} {k : Nat} (h : Out w wr b xs k) (hb : Below wr.heap.size wr w2) : Out w w2 b xs k :=
  ⟨fun j hj hk => ⟨(hb.cell (p := ⟨b, j * 2, none⟩) h.hi).trans (h.cells j hj hk).1, (hb.cell (p := ⟨b, j * 2 + 1, none⟩) h.hi).trans (h.cells j hj hk).2⟩,
   fun j hj => ⟨by rw [hb.cell (p := ⟨b, 0 + j, none⟩) h.hi]; exact (h.there j hj).1, by rw [hb.frozen (p := ⟨b, 0 + j, none⟩) h.hi]; exact (h.there j hj).2⟩,
   rstep h.below hb, h.lo, Nat.lt_of_lt_of_le h.hi hb.size⟩
theorem Out.place {w wr : World} {b : Nat} {xs : List (Int × Int)} {k : Nat} (h : Out w wr b xs k) (hk : k < xs.length) :
    (∃ u, wr.cell? ⟨b, k * 2, none⟩ = some u) ∧ (∃ u, wr.cell? ⟨b, k * 2 + 1, none⟩ = some u) ∧ wr.frozen? ⟨b, k * 2, none⟩ = false ∧ wr.frozen? ⟨b, k * 2 + 1, none⟩ = false := by
  have h0 := h.there (k * 2) (by omega)
  have h1 := h.there (k * 2 + 1) (by omega)
  rw [Nat.zero_add] at h0 h1
  exact ⟨Option.isSome_iff_exists.1 h0.1, Option.isSome_iff_exists.1 h1.1, h0.2, h1.2⟩
theorem Out.set_ {w wr : World} {b : Nat} {xs : List (Int × Int)} {k : Nat} (h : Out w wr b xs k) (hk : k < xs.length) (x y : Int) (hx : xs[k].1 = x) (hy : xs[k].2 = y) :
    Out w ((wr.setCell ⟨b, k * 2, none⟩ (.int .i64 x)).setCell ⟨b, k * 2 + 1, none⟩ (.int .i64 y)) b xs (k + 1) := by
  obtain ⟨⟨u0, h0⟩, ⟨u1, h1⟩, _, _⟩ := h.place hk
  refine ⟨fun j hj hjk => ?_, fun j hj => ?_, (h.below.setCell (p := ⟨b, k * 2, none⟩) h.lo _).setCell (p := ⟨b, k * 2 + 1, none⟩) h.lo _, h.lo, by simpa using h.hi⟩
  · by_cases e : j = k
    · subst e
      refine ⟨?_, ?_⟩
      · rw [World.cell?_setCell_other _ _ _ _ (by simp), World.cell?_setCell_same _ _ _ h0, hx]
      · rw [World.cell?_setCell_same _ _ _ (u := u1) (by rw [World.cell?_setCell_other _ _ _ _ (by simp)]; exact h1), hy]
    · obtain ⟨c0, c1⟩ := h.cells j hj (by omega)
      refine ⟨?_, ?_⟩
      · rw [World.cell?_setCell_other _ _ _ _ (by simp <;> omega), World.cell?_setCell_other _ _ _ _ (by simp <;> omega)]
        exact c0
      · rw [World.cell?_setCell_other _ _ _ _ (by simp <;> omega), World.cell?_setCell_other _ _ _ _ (by simp <;> omega)]
        exact c1
  · have ht : (wr.setCells b (k * 2) [.int .i64 x, .int .i64 y]).there b 0 (xs.length * 2) := World.there_setCells h.there b (k * 2) _
    exact ht j hj

/-- a row of cells read as a rectangle -/
theorem range_two {w : World} {b o : Nat} {x y : Value} (h0 : w.cell? ⟨b, o, none⟩ = some x) (h1 : w.cell? ⟨b, o + 1, none⟩ = some y) : w.rangeAt b o [x, y] := fun j v hv => by
  match j, hv with
  | 0, hv => obtain rfl := Option.some.inj hv; exact h0
  | 1, hv => obtain rfl := Option.some.inj hv; exact h1
  | j + 2, hv => simp at hv
theorem range_on {w w1 : World} {b o : Nat} {cs : List Value} (h : w.rangeAt b o cs) (hb : Below w.heap.size w w1) : w1.rangeAt b o cs := fun j v hv => (hb.cell (p := ⟨b, o + j, none⟩) (World.block_lt_of_cell? w _ (h j v hv))).trans (h j v hv)
theorem rinfo2 : (Tryz.prog.info? 34).map (·.size) = some 2 := by kernel_rfl

set_option maxHeartbeats 1000000 in
set_option maxRecDepth 100000 in
theorem eq_rects (xs : List (Int × Int)) (v u : Value) (w : World) (hv : RV w w.heap.size v xs) (hu : RV w w.heap.size u xs) :
    Calls Tryz.prog 11 #[v, u] w fun e w' => e = .returned (.bool true) ∧ Below w.heap.size w w' := by
  have HC : ∀ v, RV w w.heap.size v xs → Hid (∀ j (hj : j < xs.length), ∃ b off c, v = .slice (some ⟨b, off, none⟩) xs.length c ∧ b < w.heap.size ∧ w.cell? ⟨b, off + j * 2, none⟩ = some (.int .i64 xs[j].1) ∧ w.cell? ⟨b, off + j * 2 + 1, none⟩ = some (.int .i64 xs[j].2)) := fun v hiv j hj => by
    rcases hiv.2 with ⟨_, rfl⟩ | ⟨b, off, c, rfl, hlt, hc⟩
    · cases hj
    · exact ⟨b, off, c, rfl, hlt, hc j hj⟩
  have H1 := HC v hv
  have H2 := HC u hu
  have hl := hv.1
  obtain ⟨p, kp, rfl⟩ := hv.slice
  obtain ⟨q, kq, rfl⟩ := hu.slice
  clear hv hu HC
  go_enter Tryz.func11, Tryz.ntmps11
  go_wp2_with fail
  go_loopw [5] (fun i wr => ∃ k : Nat, k ≤ xs.length ∧ i = .int .i64 (k : Int) ∧ Below w.heap.size w wr) (fun i _ => xs.length - (intOf i).toNat)
  case atStart => exact ⟨0, Nat.zero_le _, rfl, Below.refl _ _⟩
  case round =>
    obtain ⟨k, hk, rfl, hb⟩ := hrel
    have HB := Lib.hid hb
    by_cases hkl : k < xs.length
    · obtain ⟨b, off, c, e, hlt, c0, c1⟩ := H1.out k hkl
      injection e with e1 e2 e3
      subst e1 e3
      obtain ⟨b', off', c', e, hlt', d0, d1⟩ := H2.out k hkl
      injection e with e1 e2 e3
      subst e1 e3
      have R1 : Hid (wr.rangeAt b (off + k * 2) [.int .i64 xs[k].1, .int .i64 xs[k].2]) := range_two ((hb.cell (p := ⟨b, off + k * 2, none⟩) hlt).trans c0) ((hb.cell (p := ⟨b, off + k * 2 + 1, none⟩) hlt).trans c1)
      have R2 : Hid (wr.rangeAt b' (off' + k * 2) [.int .i64 xs[k].1, .int .i64 xs[k].2]) := range_two ((hb.cell (p := ⟨b', off' + k * 2, none⟩) hlt').trans d0) ((hb.cell (p := ⟨b', off' + k * 2 + 1, none⟩) hlt').trans d1)
      clear hb c0 c1 d0 d1 hlt hlt'
      generalize xs[k].1 = x at *
      generalize xs[k].2 = y at *
      go_wp2_with fail
      refine wp_region_below (fun | 0 => .slice (some ⟨b, off, none⟩) xs.length kp | 1 => .int .i64 (k : Int) | 2 => .pointer (some ⟨b, off + k * 2, none⟩) | 3 => rect x y | 4 => Value.slice (some ⟨b', off', none⟩) xs.length kq | 5 => .int .i64 (k : Int) | 6 => Value.pointer (some ⟨b', off' + k * 2, none⟩) | 7 => rect x y | 8 => .bool true | 9 => .bool false | _ => undef) (by kernel_rfl) (by kernel_rfl) rfl ?con ?en
      case con =>
        intro i o ho a w2 hb2 hf
        match i, ho with
        | 0, ho =>
          obtain rfl := Option.some.inj ho
          have b0 : a.tmps[0]?.getD undef = .slice (some ⟨b, off, none⟩) xs.length kp := hf.2 0 (by kernel_rfl)
          exact wp_value (.slice (some ⟨b, off, none⟩) xs.length kp) (by unfold execOp; go_simp) ⟨rfl, Below.refl _ _⟩
        | 1, ho =>
          obtain rfl := Option.some.inj ho
          have b5 : a.tmps[5]?.getD undef = .int .i64 (k : Int) := hf.2 5 (by kernel_rfl)
          exact wp_value (.int .i64 (k : Int)) (by unfold execOp; go_simp) ⟨rfl, Below.refl _ _⟩
        | 2, ho =>
          obtain rfl := Option.some.inj ho
          have e17 : a.tmps[17]?.getD undef = .slice (some ⟨b, off, none⟩) xs.length kp := hf.1 ⟨0, .data⟩ (by simp) rfl _ 17 rfl rfl
          have e18 : a.tmps[18]?.getD undef = .int .i64 (k : Int) := hf.1 ⟨1, .data⟩ (by simp) rfl _ 18 rfl rfl
          exact wp_value (.pointer (some ⟨b, off + k * 2, none⟩)) (by unfold execOp; go_simp) ⟨rfl, Below.refl _ _⟩
        | 3, ho =>
          obtain rfl := Option.some.inj ho
          have e19 : a.tmps[19]?.getD undef = .pointer (some ⟨b, off + k * 2, none⟩) := hf.1 ⟨2, .data⟩ (by simp) rfl _ 19 rfl rfl
          exact wp_load_mid 34 (.tmp 19) rfl b (off + k * 2) (eval_get e19 trivial) [.int .i64 x, .int .i64 y] _ (range_on R1.out hb2) Tryz.underlying34 rfl rinfo2 ⟨rfl, Below.refl _ _⟩
        | 4, ho =>
          obtain rfl := Option.some.inj ho
          have b1 : a.tmps[1]?.getD undef = Value.slice (some ⟨b', off', none⟩) xs.length kq := hf.2 1 (by kernel_rfl)
          exact wp_value (Value.slice (some ⟨b', off', none⟩) xs.length kq) (by unfold execOp; go_simp) ⟨rfl, Below.refl _ _⟩
        | 5, ho =>
          obtain rfl := Option.some.inj ho
          have b5 : a.tmps[5]?.getD undef = .int .i64 (k : Int) := hf.2 5 (by kernel_rfl)
          exact wp_value (.int .i64 (k : Int)) (by unfold execOp; go_simp) ⟨rfl, Below.refl _ _⟩
        | 6, ho =>
          obtain rfl := Option.some.inj ho
          have e21 : a.tmps[21]?.getD undef = Value.slice (some ⟨b', off', none⟩) xs.length kq := hf.1 ⟨4, .data⟩ (by simp) rfl _ 21 rfl rfl
          have e22 : a.tmps[22]?.getD undef = .int .i64 (k : Int) := hf.1 ⟨5, .data⟩ (by simp) rfl _ 22 rfl rfl
          exact wp_value (Value.pointer (some ⟨b', off' + k * 2, none⟩)) (by unfold execOp; go_simp) ⟨rfl, Below.refl _ _⟩
        | 7, ho =>
          obtain rfl := Option.some.inj ho
          have e23 : a.tmps[23]?.getD undef = Value.pointer (some ⟨b', off' + k * 2, none⟩) := hf.1 ⟨6, .data⟩ (by simp) rfl _ 23 rfl rfl
          exact wp_load_mid 34 (.tmp 23) rfl b' (off' + k * 2) (eval_get e23 trivial) [.int .i64 x, .int .i64 y] _ (range_on R2.out hb2) Tryz.underlying34 rfl rinfo2 ⟨rfl, Below.refl _ _⟩
        | 8, ho =>
          obtain rfl := Option.some.inj ho
          have e20 : a.tmps[20]?.getD undef = rect x y := hf.1 ⟨3, .data⟩ (by simp) rfl _ 20 rfl rfl
          have e24 : a.tmps[24]?.getD undef = rect x y := hf.1 ⟨7, .data⟩ (by simp) rfl _ 24 rfl rfl
          exact wp_enter 42 #[rect x y, rect x y] (.bool true) _ (by unfold execOp; go_simp) (eq_rect x y w2) (fun w' h => ⟨rfl, h⟩)
        | 9, ho =>
          obtain rfl := Option.some.inj ho
          have e25 : a.tmps[25]?.getD undef = .bool true := hf.1 ⟨8, .data⟩ (by simp) rfl _ 25 rfl rfl
          exact wp_value (.bool false) (by unfold execOp; go_simp) ⟨rfl, Below.refl _ _⟩
        | q + 10, ho => simp at ho
      case en =>
        intro w2 hb2
        have HB2 := Lib.hid (rstep HB.out hb2)
        clear hb2 HB
        simp only [fill, Act.put]
        go_simp
        go_wp2_with fail
        go_roundw
        case rel => exact ⟨k + 1, by omega, by go_num, HB2.out⟩
        case measure => simp [intOf]; omega
    · obtain rfl : k = xs.length := by omega
      clear hb
      go_wp2_with fail
      go_ret
      exact ⟨rfl, HB.out⟩
end Go.Proofs.YtgmhddceeomjbaaGreatDoor.Rects

/-
  Contracts of the laws' own markRectS and heldRectS over a slice of a call's own.
-/
namespace Go.Proofs.YtgmhddceeomjbaaGreatDoor.Marks
open Go.RowKit Go.Proofs.YtgmhddceeomjbaaGreatDoor.Plain Go.Proofs.YtgmhddceeomjbaaGreatDoor.Base Go.Proofs.YtgmhddceeomjbaaGreatDoor.Law Go.Proofs.YtgmhddceeomjbaaGreatDoor.Pat Go.Proofs.YtgmhddceeomjbaaGreatDoor.Rect Go.Proofs.YtgmhddceeomjbaaGreatDoor.Rects
open Go.Proofs.YtgmhddceeomjbaaGreatDoor.KeysI (flat)
open Go.Proofs.YtgmhddceeomjbaaGreatDoor.SortR (flat_get flat_length)
set_option linter.unusedVariables false

/-- the marks -/
def nums (n : Nat) : List (Int × Int) := (List.range n).map fun j => (((1 + 2 * j : Nat) : Int), ((2 + 2 * j : Nat) : Int))
theorem nums_len (n : Nat) : (nums n).length = n := by simp [nums]
theorem nums_get (n j : Nat) (h : j < (nums n).length) : (nums n)[j] = (((1 + 2 * j : Nat) : Int), ((2 + 2 * j : Nat) : Int)) := by simp [nums]

/-- a slice of the call's own is a slice of these rectangles -/
theorem rv_own {w : World} {B : Nat} {v : Value} {xs : List (Int × Int)} (h : w.ownsRow B 34 2 v xs.length (flat xs)) (hl : xs.length ≤ 1000) : RV w w.heap.size v xs := by
  refine ⟨by omega, ?_⟩
  rcases h.2 with ⟨rfl, h0⟩ | ⟨g, cap, cur, rfl, hg, hheap, hn, hcap, hsz, htake⟩
  · exact .inl ⟨rfl, List.length_eq_zero_iff.1 h0⟩
  · refine .inr ⟨g, 0, cap, rfl, (Array.getElem?_eq_some_iff.1 hheap).1, fun j hj => ?_⟩
    have key : ∀ t, t < xs.length * 2 → w.cell? ⟨g, t, none⟩ = (flat xs)[t]? := by
      intro t ht
      rw [← htake, List.getElem?_take_of_lt ht, Array.getElem?_toList]
      simp [World.cell?, hheap]
    have h1 := key (j * 2) (by omega)
    have h2 := key (j * 2 + 1) (by omega)
    rw [flat_get _ _ (by omega)] at h1 h2
    have e1 : j * 2 / 2 = j := by omega
    have e2 : j * 2 % 2 = 0 := by omega
    have e3 : (j * 2 + 1) / 2 = j := by omega
    have e4 : (j * 2 + 1) % 2 = 1 := by omega
    rw [e1, e2, getElem!_pos xs j hj] at h1
    rw [e3, e4, getElem!_pos xs j hj] at h2
    exact ⟨by rw [Nat.zero_add]; exact h1, by rw [Nat.zero_add]; exact h2⟩

set_option maxHeartbeats 1000000 in
theorem mark_block (wb : World) (g cap n : Nat) (hn : n ≤ 1000) (w : World) (ho : Out wb w g (nums n) 0) :
    Calls Tryz.prog 12 #[.slice (some ⟨g, 0, none⟩) n cap, .int .i64 1] w fun e w' => e = .returned (.int .i64 ((1 + 2 * n : Nat) : Int)) ∧ Out wb w' g (nums n) n := by
  have HO := Lib.hid ho
  clear ho
  go_enter Tryz.func12, Tryz.ntmps12
  go_wp2_with fail
  go_loopw [1, 5] (fun k i wr => ∃ j : Nat, j ≤ n ∧ k = .int .i64 ((1 + 2 * j : Nat) : Int) ∧ i = .int .i64 (j : Int) ∧ Out wb wr g (nums n) j) (fun _ i _ => n - (intOf i).toNat)
  case atStart => exact ⟨0, Nat.zero_le _, rfl, rfl, HO.out⟩
  case round =>
    obtain ⟨j, hj, rfl, rfl, ho⟩ := hrel
    clear HO
    have HOK := Lib.hid ho
    by_cases hlt : j < n
    · have hl : j < (nums n).length := by rw [nums_len]; exact hlt
      obtain ⟨⟨u0, h0⟩, ⟨u1, h1⟩, f0, f1⟩ := ho.place hl
      have HO2 := Lib.hid (ho.set_ hl (((1 + 2 * j : Nat) : Int)) (((2 + 2 * j : Nat) : Int)) (by rw [nums_get]) (by rw [nums_get]))
      clear ho hl
      obtain ⟨a, ha⟩ : ∃ a : Nat, 1 + 2 * j = a := ⟨_, rfl⟩
      obtain ⟨b, hb⟩ : ∃ b : Nat, 2 + 2 * j = b := ⟨_, rfl⟩
      have hab : (b : Int) = (a : Int) + 1 := by omega
      rw [ha, hb, hab] at HO2
      rw [ha]
      have HAB := Lib.hid (And.intro ha (And.intro hb hab))
      have ha4 : a ≤ 4000 := by omega
      clear ha hb hab
      go_wp2_with fail
      go_roundw
      case rel => exact ⟨j + 1, by omega, by have := HAB.out; go_num, by go_num, HO2.out⟩
      case measure => simp [intOf]; omega
    · obtain rfl : j = n := by omega
      clear ho
      go_wp2_with fail
      go_ret
      exact ⟨rfl, HOK.out⟩

set_option maxHeartbeats 1000000 in
theorem mark_none (w : World) :
    Calls Tryz.prog 12 #[.slice none 0 0, .int .i64 1] w fun e w' => e = .returned (.int .i64 1) ∧ w = w' := by
  go_enter Tryz.func12, Tryz.ntmps12
  go_wp2_with fail
  go_loopw [1, 5] (fun k i wr => k = .int .i64 1 ∧ i = .int .i64 0 ∧ w = wr) (fun _ _ _ => 0)
  case atStart => exact ⟨rfl, rfl, rfl⟩
  case round =>
    obtain ⟨rfl, rfl, rfl⟩ := hrel
    go_wp2_with fail
    go_ret
    exact ⟨rfl, rfl⟩

/-- the marks are written -/
theorem mark (wb w : World) (v : Value) (xs : List (Int × Int)) (hlen : xs.length ≤ 1000) (hb : Below wb.heap.size wb w) (h : w.ownsRow wb.heap.size 34 2 v xs.length (flat xs)) :
    Calls Tryz.prog 12 #[v, .int .i64 1] w fun e w' => e = .returned (.int .i64 ((1 + 2 * xs.length : Nat) : Int)) ∧ RV w' w'.heap.size v (nums xs.length) ∧ Below wb.heap.size wb w' := by
  rcases h.2 with ⟨rfl, h0⟩ | ⟨g, cap, cur, rfl, hg, hheap, hn, hcap, hsz, htake⟩
  · rw [h0]
    refine (mark_none w).mono ?_
    rintro e w' ⟨rfl, rfl⟩
    exact ⟨rfl, ⟨by simp [nums], .inl ⟨rfl, rfl⟩⟩, hb⟩
  · have hglt := (Array.getElem?_eq_some_iff.1 hheap).1
    refine (mark_block wb g cap xs.length hlen w ⟨fun _ _ h => absurd h (by omega), fun j hj => ⟨?_, by simp [World.frozen?, hheap]⟩, hb, hg, hglt⟩).mono ?_
    · rw [nums_len] at hj
      rw [Nat.zero_add, cell_of_row _ _ j _ _ _ hheap, Array.getElem?_eq_getElem (by rw [hsz]; have := Nat.mul_le_mul_right 2 hn; omega)]
      rfl
    · rintro e w' ⟨rfl, ho⟩
      have hl := nums_len xs.length
      refine ⟨rfl, ⟨by rw [hl]; omega, .inr ⟨g, 0, cap, by rw [hl], ho.hi, fun j hj => by rw [Nat.zero_add]; exact ho.cells j hj (by omega)⟩⟩, ho.below⟩

set_option maxHeartbeats 1000000 in
/-- the marks are found -/
theorem held (v : Value) (n : Nat) (hn : n ≤ 1000) (w : World) (hv : RV w w.heap.size v (nums n)) :
    Calls Tryz.prog 13 #[v, .int .i64 1] w fun e w' => e = .returned (.int .i64 ((1 + 2 * n : Nat) : Int)) ∧ w = w' := by
  have HC : Hid (∀ j, j < n → ∃ b off c, v = .slice (some ⟨b, off, none⟩) n c ∧ w.cell? ⟨b, off + j * 2, none⟩ = some (.int .i64 ((1 + 2 * j : Nat) : Int)) ∧ w.cell? ⟨b, off + j * 2 + 1, none⟩ = some (.int .i64 ((2 + 2 * j : Nat) : Int))) := fun j hj => by
    have hl := nums_len n
    have hj2 : j < (nums n).length := by omega
    rcases hv.2 with ⟨_, h0⟩ | ⟨b, off, c, rfl, hlt, hc⟩
    · rw [h0] at hj2; cases hj2
    · have := hc j hj2
      rw [nums_get] at this
      exact ⟨b, off, c, by rw [hl], this.1, this.2⟩
  obtain ⟨p, k, rfl⟩ := hv.slice
  rw [nums_len] at HC ⊢
  clear hv
  go_enter Tryz.func13, Tryz.ntmps13
  go_wp2_with fail
  go_loopw [1, 5] (fun k i wr => ∃ j : Nat, j ≤ n ∧ k = .int .i64 ((1 + 2 * j : Nat) : Int) ∧ i = .int .i64 (j : Int) ∧ w = wr) (fun _ i _ => n - (intOf i).toNat)
  case atStart => exact ⟨0, Nat.zero_le _, rfl, rfl, rfl⟩
  case round =>
    obtain ⟨j, hj, rfl, rfl, rfl⟩ := hrel
    by_cases hlt : j < n
    · obtain ⟨b, off, c, e, c0, c1⟩ := HC.out j hlt
      injection e with e1 e2 e3
      subst e1 e3
      obtain ⟨x, hx⟩ : ∃ x : Nat, 1 + 2 * j = x := ⟨_, rfl⟩
      obtain ⟨y, hy⟩ : ∃ y : Nat, 2 + 2 * j = y := ⟨_, rfl⟩
      have hxy : (y : Int) = (x : Int) + 1 := by omega
      rw [hx] at c0 ⊢
      rw [hy, hxy] at c1
      have HX := Lib.hid (And.intro hx (And.intro hy hxy))
      have hx4 : x ≤ 4000 := by omega
      clear hx hy hxy
      go_wp2_with fail
      go_roundw
      case rel => exact ⟨j + 1, by omega, by have := HX.out; go_num, by go_num, trivial⟩
      case measure => simp [intOf]; omega
    · obtain rfl : j = n := by omega
      go_wp2_with fail
      go_ret
      exact ⟨rfl, rfl⟩
end Go.Proofs.YtgmhddceeomjbaaGreatDoor.Marks

