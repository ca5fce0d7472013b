/-
  A slice of rectangles as a value, and the contract of the laws' own eqRectS, at a plain seat.
-/
import Derived.Test.YtcafingoghoijaaRect
import Derived.Test.YtcafingoghoijaaFree
import Derived.Test.YtcafingoghoijaaFreeL
import Derived.Laws.MakeOwn
import Derived.Deep.MidRow
import Derived.OwnWalk
import Derived.Deep.QuietTactic
import Derived.BigQuiet
namespace Go.Proofs.Ytcafingoghoijaa.Rects
open Go.RowKit Go.Proofs.Ytcafingoghoijaa.Plain Go.Proofs.Ytcafingoghoijaa.Pat Go.Proofs.Ytcafingoghoijaa.Rect Go.Proofs.Ytcafingoghoijaa.FreeL
open Go.Proofs.Ytcafingoghoijaa.Free (fill wp_value wp_enter wp_load_row freeB)
set_option linter.unusedVariables false

theorem eval_get {a : Act} {d : Tmp} {v : Value} (h : a.tmps[d]?.getD undef = v) (_ : True) : a.eval (.tmp d) = v := by
  rw [← h]
  show a.tmps.getD d undef = _
  simp [Array.getD_eq_getD_getElem?]
/-- v is a slice of these rectangles, in blocks that lie below B -/
def RV (w : World) (B : Nat) (v : Value) (xs : List (Int × Int)) : Prop :=
  xs.length ≤ 9223372036854775807 ∧ ((v = .slice none 0 0 ∧ xs = []) ∨ ∃ b off c, v = .slice (some ⟨b, off, none⟩) xs.length c ∧ b < B ∧
    ∀ j (hj : j < xs.length), w.cell? ⟨b, off + j * 2, none⟩ = some (.int .i64 xs[j].1) ∧ w.cell? ⟨b, off + j * 2 + 1, none⟩ = some (.int .i64 xs[j].2))
theorem RV.later {w w1 : World} {B : Nat} {v : Value} {xs : List (Int × Int)} (h : RV w B v xs) (hB : B ≤ w.heap.size) (hb : Below w.heap.size w w1) : RV w1 B v xs := by
  refine ⟨h.1, ?_⟩
  rcases h.2 with h2 | ⟨b, off, c, rfl, hlt, hc⟩
  · exact .inl h2
  · exact .inr ⟨b, off, c, rfl, hlt, fun j hj => ⟨(hb.cell (p := ⟨b, off + j * 2, none⟩) (by show b < _; omega)).trans (hc j hj).1, (hb.cell (p := ⟨b, off + j * 2 + 1, none⟩) (by show b < _; omega)).trans (hc j hj).2⟩⟩
theorem RV.mono {w : World} {B B' : Nat} {v : Value} {xs : List (Int × Int)} (h : RV w B v xs) (hB : B ≤ B') : RV w B' v xs := by
  refine ⟨h.1, ?_⟩
  rcases h.2 with h2 | ⟨b, off, c, rfl, hlt, hc⟩
  · exact .inl h2
  · exact .inr ⟨b, off, c, rfl, by omega, hc⟩
theorem RV.slice {w : World} {B : Nat} {v : Value} {xs : List (Int × Int)} (h : RV w B v xs) : ∃ p k, v = .slice p xs.length k := by
  rcases h.2 with ⟨rfl, rfl⟩ | ⟨b, off, c, rfl, _, _⟩
  · exact ⟨none, 0, rfl⟩
  · exact ⟨_, _, rfl⟩

theorem rinfos : (Try.prog.info? 33).map (fun i => (i.zero, i.size, i.bytes)) = some (some (.agg #[.int .i64 0, .int .i64 0]), 2, 16) := by kernel_rfl

/-- the copy so far -/
structure Out (w wr : World) (b : Nat) (xs : List (Int × Int)) (k : Nat) : Prop where
  cells : ∀ j (hj : j < xs.length), j < k → wr.cell? ⟨b, j * 2, none⟩ = some (.int .i64 xs[j].1) ∧ wr.cell? ⟨b, j * 2 + 1, none⟩ = some (.int .i64 xs[j].2)
  there : wr.there b 0 (xs.length * 2)
  below : Below w.heap.size w wr
  lo : w.heap.size ≤ b
  hi : b < wr.heap.size
theorem Out.later {w wr w2 : World} {b : Nat} {xs : List (Int × Int)} {k : Nat} (h : Out w wr b xs k) (hb : Below wr.heap.size wr w2) : Out w w2 b xs k :=
  ⟨fun j hj hk => ⟨(hb.cell (p := ⟨b, j * 2, none⟩) h.hi).trans (h.cells j hj hk).1, (hb.cell (p := ⟨b, j * 2 + 1, none⟩) h.hi).trans (h.cells j hj hk).2⟩,
   fun j hj => ⟨by rw [hb.cell (p := ⟨b, 0 + j, none⟩) h.hi]; exact (h.there j hj).1, by rw [hb.frozen (p := ⟨b, 0 + j, none⟩) h.hi]; exact (h.there j hj).2⟩,
   rstep h.below hb, h.lo, Nat.lt_of_lt_of_le h.hi hb.size⟩
theorem Out.place {w wr : World} {b : Nat} {xs : List (Int × Int)} {k : Nat} (h : Out w wr b xs k) (hk : k < xs.length) :
    (∃ u, wr.cell? ⟨b, k * 2, none⟩ = some u) ∧ (∃ u, wr.cell? ⟨b, k * 2 + 1, none⟩ = some u) ∧ wr.frozen? ⟨b, k * 2, none⟩ = false ∧ wr.frozen? ⟨b, k * 2 + 1, none⟩ = false := by
  have h0 := h.there (k * 2) (by omega)
  have h1 := h.there (k * 2 + 1) (by omega)
  rw [Nat.zero_add] at h0 h1
  exact ⟨Option.isSome_iff_exists.1 h0.1, Option.isSome_iff_exists.1 h1.1, h0.2, h1.2⟩
theorem Out.set_ {w wr : World} {b : Nat} {xs : List (Int × Int)} {k : Nat} (h : Out w wr b xs k) (hk : k < xs.length) (x y : Int) (hx : xs[k].1 = x) (hy : xs[k].2 = y) :
    Out w ((wr.setCell ⟨b, k * 2, none⟩ (.int .i64 x)).setCell ⟨b, k * 2 + 1, none⟩ (.int .i64 y)) b xs (k + 1) := by
  obtain ⟨⟨u0, h0⟩, ⟨u1, h1⟩, _, _⟩ := h.place hk
  refine ⟨fun j hj hjk => ?_, fun j hj => ?_, (h.below.setCell (p := ⟨b, k * 2, none⟩) h.lo _).setCell (p := ⟨b, k * 2 + 1, none⟩) h.lo _, h.lo, by simpa using h.hi⟩
  · by_cases e : j = k
    · subst e
      refine ⟨?_, ?_⟩
      · rw [World.cell?_setCell_other _ _ _ _ (by simp), World.cell?_setCell_same _ _ _ h0, hx]
      · rw [World.cell?_setCell_same _ _ _ (u := u1) (by rw [World.cell?_setCell_other _ _ _ _ (by simp)]; exact h1), hy]
    · obtain ⟨c0, c1⟩ := h.cells j hj (by omega)
      refine ⟨?_, ?_⟩
      · rw [World.cell?_setCell_other _ _ _ _ (by simp <;> omega), World.cell?_setCell_other _ _ _ _ (by simp <;> omega)]
        exact c0
      · rw [World.cell?_setCell_other _ _ _ _ (by simp <;> omega), World.cell?_setCell_other _ _ _ _ (by simp <;> omega)]
        exact c1
  · have ht : (wr.setCells b (k * 2) [.int .i64 x, .int .i64 y]).there b 0 (xs.length * 2) := World.there_setCells h.there b (k * 2) _
    exact ht j hj

/-- a row of cells read as a rectangle -/
theorem range_two {w : World} {b o : Nat} {x y : Value} (h0 : w.cell? ⟨b, o, none⟩ = some x) (h1 : w.cell? ⟨b, o + 1, none⟩ = some y) : w.rangeAt b o [x, y] := fun j v hv => by
  match j, hv with
  | 0, hv => obtain rfl := Option.some.inj hv; exact h0
  | 1, hv => obtain rfl := Option.some.inj hv; exact h1
  | j + 2, hv => simp at hv
theorem range_on {w w1 : World} {b o : Nat} {cs : List Value} (h : w.rangeAt b o cs) (hb : Below w.heap.size w w1) : w1.rangeAt b o cs := fun j v hv => (hb.cell (p := ⟨b, o + j, none⟩) (World.block_lt_of_cell? w _ (h j v hv))).trans (h j v hv)
theorem rinfo2 : (Try.prog.info? 33).map (·.size) = some 2 := by kernel_rfl

set_option maxHeartbeats 1000000 in
set_option maxRecDepth 100000 in
theorem eq_rects (xs : List (Int × Int)) (v u : Value) (w : World) (hv : RV w w.heap.size v xs) (hu : RV w w.heap.size u xs) :
    Calls Try.prog 17 #[v, u] w fun e w' => e = .returned (.bool true) ∧ Below w.heap.size w w' := by
  have HC : ∀ v, RV w w.heap.size v xs → Hid (∀ j (hj : j < xs.length), ∃ b off c, v = .slice (some ⟨b, off, none⟩) xs.length c ∧ b < w.heap.size ∧ w.cell? ⟨b, off + j * 2, none⟩ = some (.int .i64 xs[j].1) ∧ w.cell? ⟨b, off + j * 2 + 1, none⟩ = some (.int .i64 xs[j].2)) := fun v hiv j hj => by
    rcases hiv.2 with ⟨_, rfl⟩ | ⟨b, off, c, rfl, hlt, hc⟩
    · cases hj
    · exact ⟨b, off, c, rfl, hlt, hc j hj⟩
  have H1 := HC v hv
  have H2 := HC u hu
  have hl := hv.1
  obtain ⟨p, kp, rfl⟩ := hv.slice
  obtain ⟨q, kq, rfl⟩ := hu.slice
  clear hv hu HC
  go_enter Try.func17, Try.ntmps17
  go_wp2_with fail
  go_loopw [5] (fun i wr => ∃ k : Nat, k ≤ xs.length ∧ i = .int .i64 (k : Int) ∧ Below w.heap.size w wr) (fun i _ => xs.length - (intOf i).toNat)
  case atStart => exact ⟨0, Nat.zero_le _, rfl, Below.refl _ _⟩
  case round =>
    obtain ⟨k, hk, rfl, hb⟩ := hrel
    have HB := Lib.hid hb
    by_cases hkl : k < xs.length
    · obtain ⟨b, off, c, e, hlt, c0, c1⟩ := H1.out k hkl
      injection e with e1 e2 e3
      subst e1 e3
      obtain ⟨b', off', c', e, hlt', d0, d1⟩ := H2.out k hkl
      injection e with e1 e2 e3
      subst e1 e3
      have R1 : Hid (wr.rangeAt b (off + k * 2) [.int .i64 xs[k].1, .int .i64 xs[k].2]) := range_two ((hb.cell (p := ⟨b, off + k * 2, none⟩) hlt).trans c0) ((hb.cell (p := ⟨b, off + k * 2 + 1, none⟩) hlt).trans c1)
      have R2 : Hid (wr.rangeAt b' (off' + k * 2) [.int .i64 xs[k].1, .int .i64 xs[k].2]) := range_two ((hb.cell (p := ⟨b', off' + k * 2, none⟩) hlt').trans d0) ((hb.cell (p := ⟨b', off' + k * 2 + 1, none⟩) hlt').trans d1)
      clear hb c0 c1 d0 d1 hlt hlt'
      generalize xs[k].1 = x at *
      generalize xs[k].2 = y at *
      go_wp2_with fail
      refine wp_region_below (fun | 0 => .slice (some ⟨b, off, none⟩) xs.length kp | 1 => .int .i64 (k : Int) | 2 => .pointer (some ⟨b, off + k * 2, none⟩) | 3 => rect x y | 4 => Value.slice (some ⟨b', off', none⟩) xs.length kq | 5 => .int .i64 (k : Int) | 6 => Value.pointer (some ⟨b', off' + k * 2, none⟩) | 7 => rect x y | 8 => .bool true | 9 => .bool false | _ => undef) (by kernel_rfl) (by kernel_rfl) rfl ?con ?en
      case con =>
        intro i o ho a w2 hb2 hf
        match i, ho with
        | 0, ho =>
          obtain rfl := Option.some.inj ho
          have b0 : a.tmps[0]?.getD undef = .slice (some ⟨b, off, none⟩) xs.length kp := hf.2 0 (by kernel_rfl)
          exact wp_value (.slice (some ⟨b, off, none⟩) xs.length kp) (by unfold execOp; go_simp) ⟨rfl, Below.refl _ _⟩
        | 1, ho =>
          obtain rfl := Option.some.inj ho
          have b5 : a.tmps[5]?.getD undef = .int .i64 (k : Int) := hf.2 5 (by kernel_rfl)
          exact wp_value (.int .i64 (k : Int)) (by unfold execOp; go_simp) ⟨rfl, Below.refl _ _⟩
        | 2, ho =>
          obtain rfl := Option.some.inj ho
          have e17 : a.tmps[17]?.getD undef = .slice (some ⟨b, off, none⟩) xs.length kp := hf.1 ⟨0, .data⟩ (by simp) rfl _ 17 rfl rfl
          have e18 : a.tmps[18]?.getD undef = .int .i64 (k : Int) := hf.1 ⟨1, .data⟩ (by simp) rfl _ 18 rfl rfl
          exact wp_value (.pointer (some ⟨b, off + k * 2, none⟩)) (by unfold execOp; go_simp) ⟨rfl, Below.refl _ _⟩
        | 3, ho =>
          obtain rfl := Option.some.inj ho
          have e19 : a.tmps[19]?.getD undef = .pointer (some ⟨b, off + k * 2, none⟩) := hf.1 ⟨2, .data⟩ (by simp) rfl _ 19 rfl rfl
          exact wp_load_mid 33 (.tmp 19) rfl b (off + k * 2) (eval_get e19 trivial) [.int .i64 x, .int .i64 y] _ (range_on R1.out hb2) Try.underlying33 rfl rinfo2 ⟨rfl, Below.refl _ _⟩
        | 4, ho =>
          obtain rfl := Option.some.inj ho
          have b1 : a.tmps[1]?.getD undef = Value.slice (some ⟨b', off', none⟩) xs.length kq := hf.2 1 (by kernel_rfl)
          exact wp_value (Value.slice (some ⟨b', off', none⟩) xs.length kq) (by unfold execOp; go_simp) ⟨rfl, Below.refl _ _⟩
        | 5, ho =>
          obtain rfl := Option.some.inj ho
          have b5 : a.tmps[5]?.getD undef = .int .i64 (k : Int) := hf.2 5 (by kernel_rfl)
          exact wp_value (.int .i64 (k : Int)) (by unfold execOp; go_simp) ⟨rfl, Below.refl _ _⟩
        | 6, ho =>
          obtain rfl := Option.some.inj ho
          have e21 : a.tmps[21]?.getD undef = Value.slice (some ⟨b', off', none⟩) xs.length kq := hf.1 ⟨4, .data⟩ (by simp) rfl _ 21 rfl rfl
          have e22 : a.tmps[22]?.getD undef = .int .i64 (k : Int) := hf.1 ⟨5, .data⟩ (by simp) rfl _ 22 rfl rfl
          exact wp_value (Value.pointer (some ⟨b', off' + k * 2, none⟩)) (by unfold execOp; go_simp) ⟨rfl, Below.refl _ _⟩
        | 7, ho =>
          obtain rfl := Option.some.inj ho
          have e23 : a.tmps[23]?.getD undef = Value.pointer (some ⟨b', off' + k * 2, none⟩) := hf.1 ⟨6, .data⟩ (by simp) rfl _ 23 rfl rfl
          exact wp_load_mid 33 (.tmp 23) rfl b' (off' + k * 2) (eval_get e23 trivial) [.int .i64 x, .int .i64 y] _ (range_on R2.out hb2) Try.underlying33 rfl rinfo2 ⟨rfl, Below.refl _ _⟩
        | 8, ho =>
          obtain rfl := Option.some.inj ho
          have e20 : a.tmps[20]?.getD undef = rect x y := hf.1 ⟨3, .data⟩ (by simp) rfl _ 20 rfl rfl
          have e24 : a.tmps[24]?.getD undef = rect x y := hf.1 ⟨7, .data⟩ (by simp) rfl _ 24 rfl rfl
          exact wp_enter 42 #[rect x y, rect x y] (.bool true) _ (by unfold execOp; go_simp) (eq_rect x y w2) (fun w' h => ⟨rfl, h⟩)
        | 9, ho =>
          obtain rfl := Option.some.inj ho
          have e25 : a.tmps[25]?.getD undef = .bool true := hf.1 ⟨8, .data⟩ (by simp) rfl _ 25 rfl rfl
          exact wp_value (.bool false) (by unfold execOp; go_simp) ⟨rfl, Below.refl _ _⟩
        | q + 10, ho => simp at ho
      case en =>
        intro w2 hb2
        have HB2 := Lib.hid (rstep HB.out hb2)
        clear hb2 HB
        simp only [fill, Act.put]
        go_simp
        go_wp2_with fail
        go_roundw
        case rel => exact ⟨k + 1, by omega, by go_num, HB2.out⟩
        case measure => simp [intOf]; omega
    · obtain rfl : k = xs.length := by omega
      clear hb
      go_wp2_with fail
      go_ret
      exact ⟨rfl, HB.out⟩
end Go.Proofs.Ytcafingoghoijaa.Rects
