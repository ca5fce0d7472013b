/-
  Texts of one seat, joined: Turn1, Where, RectsP, MarksQ.
-/
import Derived.Test.YtcafingoghoijaaJo1
import Derived.Test.YtcafingoghoijaaJo3
import Derived.Deep.RegionWith
import Derived.Test.YtcafingoghoijaaJo4
import Derived.Laws.MakeOwn
import Derived.Deep.MidRow
import Derived.OwnWalk
import Derived.Deep.QuietTactic
import Derived.BigQuiet
import Derived.Laws.AppendOwn
/-
  The reference's l1Turn.
-/
namespace Go.Proofs.Ytcafingoghoijaa.Turn1
open Go.RowKit Go.Proofs.Ytcafingoghoijaa.Plain Go.Proofs.Ytcafingoghoijaa.Base Go.Proofs.Ytcafingoghoijaa.Valid Go.Proofs.Ytcafingoghoijaa.Law Go.Proofs.Ytcafingoghoijaa.GridPlain Go.Proofs.Ytcafingoghoijaa.Grid Go.Proofs.Ytcafingoghoijaa.Entry
set_option linter.unusedVariables false

theorem two_blocks {w w1 : World} {o1 o2 : Obj} (hb : Below ((w.alloc o1).alloc o2).heap.size ((w.alloc o1).alloc o2) w1) :
    w1.heap[w.heap.size + 1]? = some o2 ∧ Below w.heap.size w w1 ∧ w.heap.size + 2 ≤ w1.heap.size := by
  have hs : ((w.alloc o1).alloc o2).heap.size = w.heap.size + 2 := by simp
  have h2 : ((w.alloc o1).alloc o2).heap[w.heap.size + 1]? = some o2 := by
    have := heap_alloc_new (w.alloc o1) o2
    rwa [World.size_alloc] at this
  exact ⟨(hb.block _ (by omega)).trans h2, (((Below.refl w.heap.size w).alloc (Nat.le_refl _) _).alloc (by simp) _).trans (hb.mono (by omega)), by have := hb.size; omega⟩
theorem two_blocks' {w w1 : World} {o1 o2 : Obj} (hb : Below ((w.alloc o1).alloc o2).heap.size ((w.alloc o1).alloc o2) w1) :
    w1.heap[w.heap.size]? = some o1 ∧ w1.heap[w.heap.size + 1]? = some o2 ∧ Below w.heap.size w w1 ∧ w.heap.size + 2 ≤ w1.heap.size := by
  obtain ⟨h1, h2, h3⟩ := two_blocks hb
  refine ⟨(hb.block _ (by simp; omega)).trans ?_, h1, h2, h3⟩
  rw [Below.heap_alloc _ _ _ (by simp)]
  exact heap_alloc_new w o1
theorem cells3 {w : World} {g : Nat} {T : TypeId} {a b c : Value} (h : w.heap[g]? = some (.cells #[a, b, c] T (0, 0))) :
    w.cell? ⟨g, 0, none⟩ = some a ∧ w.cell? ⟨g, 1, none⟩ = some b ∧ w.cell? ⟨g, 2, none⟩ = some c :=
  ⟨cell_of_row _ _ 0 _ _ _ h, cell_of_row _ _ 1 _ _ _ h, cell_of_row _ _ 2 _ _ _ h⟩
theorem free3 {w : World} {g : Nat} {T : TypeId} {a b c : Value} (h : w.heap[g]? = some (.cells #[a, b, c] T (0, 0))) :
    w.frozen? ⟨g, 0, none⟩ = false ∧ w.frozen? ⟨g, 1, none⟩ = false ∧ w.frozen? ⟨g, 2, none⟩ = false :=
  ⟨frozen_of_row _ _ 0 _ _ h, frozen_of_row _ _ 1 _ _ h, frozen_of_row _ _ 2 _ _ h⟩
/-- what holds while l1Turn runs: out has these bytes -/
def TInv (w wr : World) (r c : Nat) (s t : ByteArray) : Prop :=
  wr.heap[w.heap.size]? = some (.cells #[.int .i64 (r : Int), .int .i64 (c : Int), .string s] 78 (0, 0)) ∧ wr.heap[w.heap.size + 1]? = some (.cells #[.int .i64 0, .int .i64 0, .string ⟨#[]⟩] 78 (0, 0)) ∧
    wr.heap[w.heap.size + 2]? = some (.cells #[.int .i64 (c : Int), .int .i64 (r : Int), .string t] 78 (0, 0)) ∧ Below w.heap.size w wr ∧ w.heap.size + 3 ≤ wr.heap.size
theorem TInv.cells {w wr : World} {r c : Nat} {s t : ByteArray} (h : TInv w wr r c s t) :
    wr.cell? ⟨w.heap.size, 0, none⟩ = some (.int .i64 (r : Int)) ∧ wr.cell? ⟨w.heap.size, 1, none⟩ = some (.int .i64 (c : Int)) ∧ wr.cell? ⟨w.heap.size, 2, none⟩ = some (.string s) ∧
    wr.cell? ⟨w.heap.size + 1 + 1, 0, none⟩ = some (.int .i64 (c : Int)) ∧ wr.cell? ⟨w.heap.size + 1 + 1, 1, none⟩ = some (.int .i64 (r : Int)) ∧ wr.cell? ⟨w.heap.size + 1 + 1, 2, none⟩ = some (.string t) ∧
    wr.frozen? ⟨w.heap.size + 1 + 1, 2, none⟩ = false :=
  ⟨cell_of_row _ _ 0 _ _ _ h.1, cell_of_row _ _ 1 _ _ _ h.1, cell_of_row _ _ 2 _ _ _ h.1, cell_of_row _ _ 0 _ _ _ h.2.2.1, cell_of_row _ _ 1 _ _ _ h.2.2.1, cell_of_row _ _ 2 _ _ _ h.2.2.1, frozen_of_row _ _ 2 _ _ h.2.2.1⟩
theorem TInv.res {w wr : World} {r c : Nat} {s t : ByteArray} (h : TInv w wr r c s t) :
    wr.cell? ⟨w.heap.size + 1, 0, none⟩ = some (.int .i64 0) ∧ wr.cell? ⟨w.heap.size + 1, 1, none⟩ = some (.int .i64 0) ∧ wr.cell? ⟨w.heap.size + 1, 2, none⟩ = some (.string ⟨#[]⟩) ∧
    wr.frozen? ⟨w.heap.size + 1, 0, none⟩ = false ∧ wr.frozen? ⟨w.heap.size + 1, 1, none⟩ = false ∧ wr.frozen? ⟨w.heap.size + 1, 2, none⟩ = false :=
  ⟨cell_of_row _ _ 0 _ _ _ h.2.1, cell_of_row _ _ 1 _ _ _ h.2.1, cell_of_row _ _ 2 _ _ _ h.2.1, frozen_of_row _ _ 0 _ _ h.2.1, frozen_of_row _ _ 1 _ _ h.2.1, frozen_of_row _ _ 2 _ _ h.2.1⟩
theorem TInv.later {w wr w2 : World} {r c : Nat} {s t : ByteArray} (h : TInv w wr r c s t) (hb : Below wr.heap.size wr w2) : TInv w w2 r c s t := by
  obtain ⟨h0, h1, h2, h3, h4⟩ := h
  exact ⟨(hb.block _ (by omega)).trans h0, (hb.block _ (by omega)).trans h1, (hb.block _ (by omega)).trans h2, bstep h3 hb, Nat.le_trans h4 hb.size⟩
theorem TInv.drew {w wr : World} {r c : Nat} {s t : ByteArray} (h : TInv w wr r c s t) (n : Nat) : TInv w (wr.drewN n) r c s t :=
  ⟨h.1, h.2.1, h.2.2.1, ⟨h.2.2.2.1.os, h.2.2.2.1.tape, h.2.2.2.1.output, h.2.2.2.1.size, h.2.2.2.1.block⟩, h.2.2.2.2⟩
theorem TInv.set_ {w wr : World} {r c : Nat} {s t : ByteArray} (h : TInv w wr r c s t) (u : ByteArray) : TInv w (wr.setCell ⟨w.heap.size + 1 + 1, 2, none⟩ (.string u)) r c s u := by
  obtain ⟨h0, h1, h2, h3, h4⟩ := h
  exact ⟨(heap_setCell_other _ _ _ _ (by simp; omega)).trans h0, (heap_setCell_other _ _ _ _ (by simp)).trans h1, (heap_setCell_same _ _ _ _ _ _ h2).trans rfl, h3.setCell (by simp; omega) _, by simpa using h4⟩

set_option maxHeartbeats 4000000 in
theorem turn_spec1 (E : Nat → Nat → Bool) (r c : Nat) (hr : 1 ≤ r) (hr8 : r ≤ 8) (hc : 1 ≤ c) (hc8 : c ≤ 8) (w : World) :
    Calls Try.prog 102 #[mat r c (str (rowsB E r c))] w fun e w' => e = .returned (mat c r (str (rowsB (fun x y => E y x) c r))) ∧ Below w.heap.size w w' := by
  have HAT : Hid (∀ x y : Nat, x < r → y < c → ∀ W : World, Calls Try.prog 101 #[mat r c (str (rowsB E r c)), .int .i64 (x : Int), .int .i64 (y : Int)] W fun e w' => e = .returned (.bool (E x y)) ∧ Below W.heap.size W w') :=
    fun x y hx hy W => at_any E r c hr8 hc8 x y hx hy W
  generalize str (rowsB E r c) = s at *
  go_enter Try.func102, Try.ntmps102
  go_wp2_with fail
  have HI : Hid (TInv w (((w.alloc (.cells #[.int .i64 (r : Int), .int .i64 (c : Int), .string s] 78)).alloc (.cells #[.int .i64 0, .int .i64 0, .string ⟨#[]⟩] 78)).alloc (.cells #[.int .i64 (c : Int), .int .i64 (r : Int), .string ⟨#[]⟩] 78)) r c s ⟨#[]⟩) :=
    blocks3 (Below.refl _ _)
  go_loopw [4] (fun y wr => ∃ (k : Nat) (t : ByteArray), k ≤ c ∧ y = .int .i64 (k : Int) ∧ Hid (t = str (rowsB (fun x y => E y x) k r)) ∧ TInv w wr r c s t) (fun y _ => c - (intOf y).toNat)
  case atStart => exact ⟨0, _, Nat.zero_le _, rfl, rfl, HI.out⟩
  case round =>
    obtain ⟨k, t, hk, rfl, ht, hinv⟩ := hrel
    clear HI
    have HI := Lib.hid hinv
    obtain ⟨m0, m1, m2, o0, o1, o2, fo⟩ := hinv.cells
    obtain ⟨e0, e1, e2, g0, g1, g2⟩ := hinv.res
    clear hinv
    by_cases hlt : k < c
    · clear e0 e1 e2 g0 g1 g2
      go_wp2_with fail
      go_loopw [5] (fun x wr => ∃ (j : Nat) (t : ByteArray), j ≤ r ∧ x = .int .i64 (j : Int) ∧ Hid (t = str (rowsB (fun x y => E y x) k r ++ rowB (fun x y => E y x) k j)) ∧ TInv w wr r c s t) (fun x _ => r - (intOf x).toNat)
      case atStart => exact ⟨0, _, Nat.zero_le _, rfl, by rw [ht.out]; exact part_start _ _ _, HI.out⟩
      case round =>
        clear HI m0 m1 m2 o0 o1 o2 fo
        obtain ⟨j, t', hj, rfl, ht', hinv⟩ := hrel
        have HI := Lib.hid hinv
        obtain ⟨m0, m1, m2, o0, o1, o2, fo⟩ := hinv.cells
        clear hinv
        by_cases hlt' : j < r
        · go_wp2_with fail
          have htz : t'.size + 1 ≤ 9223372036854775807 := by
            have := part_size (fun x y => E y x) hc8 hr8 hlt hlt'
            rw [ht'.out]
            omega
          obtain ⟨b, hb⟩ : ∃ b : Bool, E j k = b := ⟨_, rfl⟩
          have hcat := fun W => run_string_add_sum (P := Try.prog) (w := W) t' ⟨#[dig b]⟩ htz
          have HC := Lib.hid (HAT.out j k hlt' hlt)
          rw [hb] at HC
          have HB := Lib.hid hb
          clear htz hb
          go_region_with (first | (go_at_call 101; refine (HC.out _).mono ?_; rintro e w2 ⟨rfl, hb2⟩; have HI2 := Lib.hid ((HI.out.drew 1).later hb2); obtain ⟨n0, n1, n2, p0, p1, p2, fp⟩ := HI2.out.cells; clear hb2) | (go_at_call 84; refine (l1Bit_any b _).mono ?_; rintro e w' ⟨rfl, rfl⟩))
          all_goals go_wp2_with fail
          all_goals
            go_roundw
            case rel => exact ⟨j + 1, _, by omega, by go_num, by rw [ht'.out, ← HB.out]; exact part_next (fun x y => E y x) k j r, HI2.out.set_ _⟩
            case measure => simp [intOf]; omega
        · obtain rfl : j = r := by omega
          go_wp2_with fail
          go_roundw
          case rel => exact ⟨k + 1, t', by omega, by go_num, by rw [ht'.out]; exact part_done _ _ _, HI.out⟩
          case measure => simp [intOf]; omega
    · obtain rfl : k = c := by omega
      go_wp2_with fail
      refine bodyPost_ret (v := mat k r t) (by simp [results, Try.results102, go_sem, e0, e1, e2]) rfl ⟨by rw [ht.out], ?_⟩
      exact ((HI.out.2.2.2.1.setCell (by simp) _).setCell (by simp) _).setCell (by simp) _
end Go.Proofs.Ytcafingoghoijaa.Turn1

/-
  The program's setWhere, whatever function tells which numbers are in the set.
-/
namespace Go.Proofs.Ytcafingoghoijaa.Where
open Go.RowKit Go.Proofs.Ytcafingoghoijaa.Plain Go.Proofs.Ytcafingoghoijaa.Base Go.Proofs.Ytcafingoghoijaa.Pat
set_option linter.unusedVariables false

/-- what is asked of the function value -/
def Says (g : Nat) (lb : Array Value) (n : Nat) (P : Nat → Bool) (w : World) : Prop :=
  ∀ (W : World) (i : Nat), i < n → Below w.heap.size w W → Calls Try.prog g (#[.int .i64 (i : Int)] ++ lb) W fun e W' => e = .returned (.bool (P i)) ∧ Below W.heap.size W W'
theorem wrap8 (n : Nat) (h : n ≤ 256) : IntKind.i64.wrap (n : Int) = (n : Int) := by
  rw [IntKind.wrap_i64]
  omega
theorem or8 (a b : Nat) (ha : a < 256) (hb : b < 256) : Go.bits .or .i64 (a : Int) (b : Int) = ((a ||| b : Nat) : Int) :=
  (bits_nat .i64 8 (by decide) (fun n h0 h1 => by rw [IntKind.wrap_i64]; omega) a b (by omega) (by omega)).2

end Go.Proofs.Ytcafingoghoijaa.Where

/-
  A slice of rectangles as a value, and the contract of the laws' own eqRectS, at a plain seat.
-/
namespace Go.Proofs.Ytcafingoghoijaa.Rects
open Go.RowKit Go.Proofs.Ytcafingoghoijaa.Plain Go.Proofs.Ytcafingoghoijaa.Pat Go.Proofs.Ytcafingoghoijaa.Rect Go.Proofs.Ytcafingoghoijaa.FreeL
open Go.Proofs.Ytcafingoghoijaa.Free (fill wp_value wp_enter wp_load_row freeB)
set_option linter.unusedVariables false

theorem eval_get {a : Act} {d : Tmp} {v : Value} (h : a.tmps[d]?.getD undef = v) (_ : True) : a.eval (.tmp d) = v := by
  rw [← h]
  show a.tmps.getD d undef = _
  simp [Array.getD_eq_getD_getElem?]
/-- v is a slice of these rectangles, in blocks that lie below B -/
def RV (w : World) (B : Nat) (v : Value) (xs : List (Int × Int)) : Prop :=
  xs.length ≤ 9223372036854775807 ∧ ((v = .slice none 0 0 ∧ xs = []) ∨ ∃ b off c, v = .slice (some ⟨b, off, none⟩) xs.length c ∧ b < B ∧
    ∀ j (hj : j < xs.length), w.cell? ⟨b, off + j * 2, none⟩ = some (.int .i64 xs[j].1) ∧ w.cell? ⟨b, off + j * 2 + 1, none⟩ = some (.int .i64 xs[j].2))
theorem RV.later {w w1 : World} {B : Nat} {v : Value} {xs : List (Int × Int)} (h : RV w B v xs) (hB : B ≤ w.heap.size) (hb : Below w.heap.size w w1) : RV w1 B v xs := by
  refine ⟨h.1, ?_⟩
  rcases h.2 with h2 | ⟨b, off, c, rfl, hlt, hc⟩
  · exact .inl h2
  · exact .inr ⟨b, off, c, rfl, hlt, fun j hj => ⟨(hb.cell (p := ⟨b, off + j * 2, none⟩) (by show b < _; omega)).trans (hc j hj).1, (hb.cell (p := ⟨b, off + j * 2 + 1, none⟩) (by show b < _; omega)).trans (hc j hj).2⟩⟩
theorem RV.mono {w : World} {B B' : Nat} {v : Value} {xs : List (Int × Int)} (h : RV w B v xs) (hB : B ≤ B') : RV w B' v xs := by
  refine ⟨h.1, ?_⟩
  rcases h.2 with h2 | ⟨b, off, c, rfl, hlt, hc⟩
  · exact .inl h2
  · exact .inr ⟨b, off, c, rfl, by omega, hc⟩
theorem RV.slice {w : World} {B : Nat} {v : Value} {xs : List (Int × Int)} (h : RV w B v xs) : ∃ p k, v = .slice p xs.length k := by
  rcases h.2 with ⟨rfl, rfl⟩ | ⟨b, off, c, rfl, _, _⟩
  · exact ⟨none, 0, rfl⟩
  · exact ⟨_, _, rfl⟩

theorem rinfos : (Try.prog.info? 33).map (fun i => (i.zero, i.size, i.bytes)) = some (some (.agg #[.int .i64 0, .int .i64 0]), 2, 16) := by kernel_rfl

/-- the copy so far -/
structure Out (w wr : World) (b : Nat) (xs : List (Int × Int)) (k : Nat) : Prop where
  cells : ∀ j (hj : j < xs.length), j < k → wr.cell? ⟨b, j * 2, none⟩ = some (.int .i64 xs[j].1) ∧ wr.cell? ⟨b, j * 2 + 1, none⟩ = some (.int .i64 xs[j].2)
  there : wr.there b 0 (xs.length * 2)
  below : Below w.heap.size w wr
  lo : w.heap.size ≤ b
  hi : b < wr.heap.size
theorem Out.later {w wr w2 : World} {b : Nat} {xs : List (Int × Int)} {k : Nat} (h : Out w wr b xs k) (hb : Below wr.heap.size wr w2) : Out w w2 b xs k :=
  ⟨fun j hj hk => ⟨(hb.cell (p := ⟨b, j * 2, none⟩) h.hi).trans (h.cells j hj hk).1, (hb.cell (p := ⟨b, j * 2 + 1, none⟩) h.hi).trans (h.cells j hj hk).2⟩,
   fun j hj => ⟨by rw [hb.cell (p := ⟨b, 0 + j, none⟩) h.hi]; exact (h.there j hj).1, by rw [hb.frozen (p := ⟨b, 0 + j, none⟩) h.hi]; exact (h.there j hj).2⟩,
   rstep h.below hb, h.lo, Nat.lt_of_lt_of_le h.hi hb.size⟩
theorem Out.place {w wr : World} {b : Nat} {xs : List (Int × Int)} {k : Nat} (h : Out w wr b xs k) (hk : k < xs.length) :
    (∃ u, wr.cell? ⟨b, k * 2, none⟩ = some u) ∧ (∃ u, wr.cell? ⟨b, k * 2 + 1, none⟩ = some u) ∧ wr.frozen? ⟨b, k * 2, none⟩ = false ∧ wr.frozen? ⟨b, k * 2 + 1, none⟩ = false := by
  have h0 := h.there (k * 2) (by omega)
  have h1 := h.there (k * 2 + 1) (by omega)
  rw [Nat.zero_add] at h0 h1
  exact ⟨Option.isSome_iff_exists.1 h0.1, Option.isSome_iff_exists.1 h1.1, h0.2, h1.2⟩
theorem Out.set_ {w wr : World} {b : Nat} {xs : List (Int × Int)} {k : Nat} (h : Out w wr b xs k) (hk : k < xs.length) (x y : Int) (hx : xs[k].1 = x) (hy : xs[k].2 = y) :
    Out w ((wr.setCell ⟨b, k * 2, none⟩ (.int .i64 x)).setCell ⟨b, k * 2 + 1, none⟩ (.int .i64 y)) b xs (k + 1) := by
  obtain ⟨⟨u0, h0⟩, ⟨u1, h1⟩, _, _⟩ := h.place hk
  refine ⟨fun j hj hjk => ?_, fun j hj => ?_, (h.below.setCell (p := ⟨b, k * 2, none⟩) h.lo _).setCell (p := ⟨b, k * 2 + 1, none⟩) h.lo _, h.lo, by simpa using h.hi⟩
  · by_cases e : j = k
    · subst e
      refine ⟨?_, ?_⟩
      · rw [World.cell?_setCell_other _ _ _ _ (by simp), World.cell?_setCell_same _ _ _ h0, hx]
      · rw [World.cell?_setCell_same _ _ _ (u := u1) (by rw [World.cell?_setCell_other _ _ _ _ (by simp)]; exact h1), hy]
    · obtain ⟨c0, c1⟩ := h.cells j hj (by omega)
      refine ⟨?_, ?_⟩
      · rw [World.cell?_setCell_other _ _ _ _ (by simp <;> omega), World.cell?_setCell_other _ _ _ _ (by simp <;> omega)]
        exact c0
      · rw [World.cell?_setCell_other _ _ _ _ (by simp <;> omega), World.cell?_setCell_other _ _ _ _ (by simp <;> omega)]
        exact c1
  · have ht : (wr.setCells b (k * 2) [.int .i64 x, .int .i64 y]).there b 0 (xs.length * 2) := World.there_setCells h.there b (k * 2) _
    exact ht j hj

/-- a row of cells read as a rectangle -/
theorem range_two {w : World} {b o : Nat} {x y : Value} (h0 : w.cell? ⟨b, o, none⟩ = some x) (h1 : w.cell? ⟨b, o + 1, none⟩ = some y) : w.rangeAt b o [x, y] := fun j v hv => by
  match j, hv with
  | 0, hv => obtain rfl := Option.some.inj hv; exact h0
  | 1, hv => obtain rfl := Option.some.inj hv; exact h1
  | j + 2, hv => simp at hv
theorem range_on {w w1 : World} {b o : Nat} {cs : List Value} (h : w.rangeAt b o cs) (hb : Below w.heap.size w w1) : w1.rangeAt b o cs := fun j v hv => (hb.cell (p := ⟨b, o + j, none⟩) (World.block_lt_of_cell? w _ (h j v hv))).trans (h j v hv)
theorem rinfo2 : (Try.prog.info? 33).map (·.size) = some 2 := by kernel_rfl

set_option maxHeartbeats 1000000 in
set_option maxRecDepth 100000 in
theorem eq_rects (xs : List (Int × Int)) (v u : Value) (w : World) (hv : RV w w.heap.size v xs) (hu : RV w w.heap.size u xs) :
    Calls Try.prog 17 #[v, u] w fun e w' => e = .returned (.bool true) ∧ Below w.heap.size w w' := by
  have HC : ∀ v, RV w w.heap.size v xs → Hid (∀ j (hj : j < xs.length), ∃ b off c, v = .slice (some ⟨b, off, none⟩) xs.length c ∧ b < w.heap.size ∧ w.cell? ⟨b, off + j * 2, none⟩ = some (.int .i64 xs[j].1) ∧ w.cell? ⟨b, off + j * 2 + 1, none⟩ = some (.int .i64 xs[j].2)) := fun v hiv j hj => by
    rcases hiv.2 with ⟨_, rfl⟩ | ⟨b, off, c, rfl, hlt, hc⟩
    · cases hj
    · exact ⟨b, off, c, rfl, hlt, hc j hj⟩
  have H1 := HC v hv
  have H2 := HC u hu
  have hl := hv.1
  obtain ⟨p, kp, rfl⟩ := hv.slice
  obtain ⟨q, kq, rfl⟩ := hu.slice
  clear hv hu HC
  go_enter Try.func17, Try.ntmps17
  go_wp2_with fail
  go_loopw [5] (fun i wr => ∃ k : Nat, k ≤ xs.length ∧ i = .int .i64 (k : Int) ∧ Below w.heap.size w wr) (fun i _ => xs.length - (intOf i).toNat)
  case atStart => exact ⟨0, Nat.zero_le _, rfl, Below.refl _ _⟩
  case round =>
    obtain ⟨k, hk, rfl, hb⟩ := hrel
    have HB := Lib.hid hb
    by_cases hkl : k < xs.length
    · obtain ⟨b, off, c, e, hlt, c0, c1⟩ := H1.out k hkl
      injection e with e1 e2 e3
      subst e1 e3
      obtain ⟨b', off', c', e, hlt', d0, d1⟩ := H2.out k hkl
      injection e with e1 e2 e3
      subst e1 e3
      have R1 : Hid (wr.rangeAt b (off + k * 2) [.int .i64 xs[k].1, .int .i64 xs[k].2]) := range_two ((hb.cell (p := ⟨b, off + k * 2, none⟩) hlt).trans c0) ((hb.cell (p := ⟨b, off + k * 2 + 1, none⟩) hlt).trans c1)
      have R2 : Hid (wr.rangeAt b' (off' + k * 2) [.int .i64 xs[k].1, .int .i64 xs[k].2]) := range_two ((hb.cell (p := ⟨b', off' + k * 2, none⟩) hlt').trans d0) ((hb.cell (p := ⟨b', off' + k * 2 + 1, none⟩) hlt').trans d1)
      clear hb c0 c1 d0 d1 hlt hlt'
      generalize xs[k].1 = x at *
      generalize xs[k].2 = y at *
      go_wp2_with fail
      refine wp_region_below (fun | 0 => .slice (some ⟨b, off, none⟩) xs.length kp | 1 => .int .i64 (k : Int) | 2 => .pointer (some ⟨b, off + k * 2, none⟩) | 3 => rect x y | 4 => Value.slice (some ⟨b', off', none⟩) xs.length kq | 5 => .int .i64 (k : Int) | 6 => Value.pointer (some ⟨b', off' + k * 2, none⟩) | 7 => rect x y | 8 => .bool true | 9 => .bool false | _ => undef) (by kernel_rfl) (by kernel_rfl) rfl ?con ?en
      case con =>
        intro i o ho a w2 hb2 hf
        match i, ho with
        | 0, ho =>
          obtain rfl := Option.some.inj ho
          have b0 : a.tmps[0]?.getD undef = .slice (some ⟨b, off, none⟩) xs.length kp := hf.2 0 (by kernel_rfl)
          exact wp_value (.slice (some ⟨b, off, none⟩) xs.length kp) (by unfold execOp; go_simp) ⟨rfl, Below.refl _ _⟩
        | 1, ho =>
          obtain rfl := Option.some.inj ho
          have b5 : a.tmps[5]?.getD undef = .int .i64 (k : Int) := hf.2 5 (by kernel_rfl)
          exact wp_value (.int .i64 (k : Int)) (by unfold execOp; go_simp) ⟨rfl, Below.refl _ _⟩
        | 2, ho =>
          obtain rfl := Option.some.inj ho
          have e17 : a.tmps[17]?.getD undef = .slice (some ⟨b, off, none⟩) xs.length kp := hf.1 ⟨0, .data⟩ (by simp) rfl _ 17 rfl rfl
          have e18 : a.tmps[18]?.getD undef = .int .i64 (k : Int) := hf.1 ⟨1, .data⟩ (by simp) rfl _ 18 rfl rfl
          exact wp_value (.pointer (some ⟨b, off + k * 2, none⟩)) (by unfold execOp; go_simp) ⟨rfl, Below.refl _ _⟩
        | 3, ho =>
          obtain rfl := Option.some.inj ho
          have e19 : a.tmps[19]?.getD undef = .pointer (some ⟨b, off + k * 2, none⟩) := hf.1 ⟨2, .data⟩ (by simp) rfl _ 19 rfl rfl
          exact wp_load_mid 33 (.tmp 19) rfl b (off + k * 2) (eval_get e19 trivial) [.int .i64 x, .int .i64 y] _ (range_on R1.out hb2) Try.underlying33 rfl rinfo2 ⟨rfl, Below.refl _ _⟩
        | 4, ho =>
          obtain rfl := Option.some.inj ho
          have b1 : a.tmps[1]?.getD undef = Value.slice (some ⟨b', off', none⟩) xs.length kq := hf.2 1 (by kernel_rfl)
          exact wp_value (Value.slice (some ⟨b', off', none⟩) xs.length kq) (by unfold execOp; go_simp) ⟨rfl, Below.refl _ _⟩
        | 5, ho =>
          obtain rfl := Option.some.inj ho
          have b5 : a.tmps[5]?.getD undef = .int .i64 (k : Int) := hf.2 5 (by kernel_rfl)
          exact wp_value (.int .i64 (k : Int)) (by unfold execOp; go_simp) ⟨rfl, Below.refl _ _⟩
        | 6, ho =>
          obtain rfl := Option.some.inj ho
          have e21 : a.tmps[21]?.getD undef = Value.slice (some ⟨b', off', none⟩) xs.length kq := hf.1 ⟨4, .data⟩ (by simp) rfl _ 21 rfl rfl
          have e22 : a.tmps[22]?.getD undef = .int .i64 (k : Int) := hf.1 ⟨5, .data⟩ (by simp) rfl _ 22 rfl rfl
          exact wp_value (Value.pointer (some ⟨b', off' + k * 2, none⟩)) (by unfold execOp; go_simp) ⟨rfl, Below.refl _ _⟩
        | 7, ho =>
          obtain rfl := Option.some.inj ho
          have e23 : a.tmps[23]?.getD undef = Value.pointer (some ⟨b', off' + k * 2, none⟩) := hf.1 ⟨6, .data⟩ (by simp) rfl _ 23 rfl rfl
          exact wp_load_mid 33 (.tmp 23) rfl b' (off' + k * 2) (eval_get e23 trivial) [.int .i64 x, .int .i64 y] _ (range_on R2.out hb2) Try.underlying33 rfl rinfo2 ⟨rfl, Below.refl _ _⟩
        | 8, ho =>
          obtain rfl := Option.some.inj ho
          have e20 : a.tmps[20]?.getD undef = rect x y := hf.1 ⟨3, .data⟩ (by simp) rfl _ 20 rfl rfl
          have e24 : a.tmps[24]?.getD undef = rect x y := hf.1 ⟨7, .data⟩ (by simp) rfl _ 24 rfl rfl
          exact wp_enter 42 #[rect x y, rect x y] (.bool true) _ (by unfold execOp; go_simp) (eq_rect x y w2) (fun w' h => ⟨rfl, h⟩)
        | 9, ho =>
          obtain rfl := Option.some.inj ho
          have e25 : a.tmps[25]?.getD undef = .bool true := hf.1 ⟨8, .data⟩ (by simp) rfl _ 25 rfl rfl
          exact wp_value (.bool false) (by unfold execOp; go_simp) ⟨rfl, Below.refl _ _⟩
        | q + 10, ho => simp at ho
      case en =>
        intro w2 hb2
        have HB2 := Lib.hid (rstep HB.out hb2)
        clear hb2 HB
        simp only [fill, Act.put]
        go_simp
        go_wp2_with fail
        go_roundw
        case rel => exact ⟨k + 1, by omega, by go_num, HB2.out⟩
        case measure => simp [intOf]; omega
    · obtain rfl : k = xs.length := by omega
      clear hb
      go_wp2_with fail
      go_ret
      exact ⟨rfl, HB.out⟩
end Go.Proofs.Ytcafingoghoijaa.Rects

/-
  Contracts of the laws' own markRectS and heldRectS over a slice of a call's own.
-/
namespace Go.Proofs.Ytcafingoghoijaa.Marks
open Go.RowKit Go.Proofs.Ytcafingoghoijaa.Plain Go.Proofs.Ytcafingoghoijaa.Pat Go.Proofs.Ytcafingoghoijaa.Rect Go.Proofs.Ytcafingoghoijaa.Rects
set_option linter.unusedVariables false

abbrev encR (p : Int × Int) : List Value := [.int .i64 p.1, .int .i64 p.2]
def flat (ss : List (Int × Int)) : List Value := ss.flatMap fun p => [.int .i64 p.1, .int .i64 p.2]
theorem flat_get : ∀ (ss : List (Int × Int)) (t : Nat), t < ss.length * 2 → (flat ss)[t]? = some ((encR ss[t / 2]!)[t % 2]!)
  | [], t, h => by simp at h
  | p :: r, 0, h => by simp [flat]
  | p :: r, 1, h => by simp [flat]
  | p :: r, t + 2, h => by
    have ih := flat_get r t (by simp at h; omega)
    have e1 : (t + 2) / 2 = t / 2 + 1 := by omega
    have e2 : (t + 2) % 2 = t % 2 := by omega
    have e3 : flat (p :: r) = Value.int .i64 p.1 :: Value.int .i64 p.2 :: flat r := by simp [flat]
    rw [e3, e1, e2, List.getElem?_cons_succ, List.getElem?_cons_succ, ih]
    simp
theorem flat_length (ss : List (Int × Int)) : (flat ss).length = ss.length * 2 := by
  induction ss with
  | nil => rfl
  | cons p r ih =>
    have e3 : flat (p :: r) = Value.int .i64 p.1 :: Value.int .i64 p.2 :: flat r := by simp [flat]
    rw [e3]; simp [ih]; omega
/-- the marks -/
def nums (n : Nat) : List (Int × Int) := (List.range n).map fun j => (((1 + 2 * j : Nat) : Int), ((2 + 2 * j : Nat) : Int))
theorem nums_len (n : Nat) : (nums n).length = n := by simp [nums]
theorem nums_get (n j : Nat) (h : j < (nums n).length) : (nums n)[j] = (((1 + 2 * j : Nat) : Int), ((2 + 2 * j : Nat) : Int)) := by simp [nums]

/-- a slice of the call's own is a slice of these rectangles -/
theorem rv_own {w : World} {B : Nat} {v : Value} {xs : List (Int × Int)} (h : w.ownsRow B 33 2 v xs.length (flat xs)) (hl : xs.length ≤ 1048576) : RV w w.heap.size v xs := by
  refine ⟨by omega, ?_⟩
  rcases h.2 with ⟨rfl, h0⟩ | ⟨g, cap, cur, rfl, hg, hheap, hn, hcap, hsz, htake⟩
  · exact .inl ⟨rfl, List.length_eq_zero_iff.1 h0⟩
  · refine .inr ⟨g, 0, cap, rfl, (Array.getElem?_eq_some_iff.1 hheap).1, fun j hj => ?_⟩
    have key : ∀ t, t < xs.length * 2 → w.cell? ⟨g, t, none⟩ = (flat xs)[t]? := by
      intro t ht
      rw [← htake, List.getElem?_take_of_lt ht, Array.getElem?_toList]
      simp [World.cell?, hheap]
    have h1 := key (j * 2) (by omega)
    have h2 := key (j * 2 + 1) (by omega)
    rw [flat_get _ _ (by omega)] at h1 h2
    have e1 : j * 2 / 2 = j := by omega
    have e2 : j * 2 % 2 = 0 := by omega
    have e3 : (j * 2 + 1) / 2 = j := by omega
    have e4 : (j * 2 + 1) % 2 = 1 := by omega
    rw [e1, e2, getElem!_pos xs j hj] at h1
    rw [e3, e4, getElem!_pos xs j hj] at h2
    exact ⟨by rw [Nat.zero_add]; exact h1, by rw [Nat.zero_add]; exact h2⟩

set_option maxHeartbeats 1000000 in
theorem mark_block (wb : World) (g cap n : Nat) (hn : n ≤ 1048576) (w : World) (ho : Out wb w g (nums n) 0) :
    Calls Try.prog 25 #[.slice (some ⟨g, 0, none⟩) n cap, .int .i64 1] w fun e w' => e = .returned (.int .i64 ((1 + 2 * n : Nat) : Int)) ∧ Out wb w' g (nums n) n := by
  have HO := Lib.hid ho
  clear ho
  go_enter Try.func25, Try.ntmps25
  go_wp2_with fail
  go_loopw [1, 5] (fun k i wr => ∃ j : Nat, j ≤ n ∧ k = .int .i64 ((1 + 2 * j : Nat) : Int) ∧ i = .int .i64 (j : Int) ∧ Out wb wr g (nums n) j) (fun _ i _ => n - (intOf i).toNat)
  case atStart => exact ⟨0, Nat.zero_le _, rfl, rfl, HO.out⟩
  case round =>
    obtain ⟨j, hj, rfl, rfl, ho⟩ := hrel
    clear HO
    have HOK := Lib.hid ho
    by_cases hlt : j < n
    · have hl : j < (nums n).length := by rw [nums_len]; exact hlt
      obtain ⟨⟨u0, h0⟩, ⟨u1, h1⟩, f0, f1⟩ := ho.place hl
      have HO2 := Lib.hid (ho.set_ hl (((1 + 2 * j : Nat) : Int)) (((2 + 2 * j : Nat) : Int)) (by rw [nums_get]) (by rw [nums_get]))
      clear ho hl
      obtain ⟨a, ha⟩ : ∃ a : Nat, 1 + 2 * j = a := ⟨_, rfl⟩
      obtain ⟨b, hb⟩ : ∃ b : Nat, 2 + 2 * j = b := ⟨_, rfl⟩
      have hab : (b : Int) = (a : Int) + 1 := by omega
      rw [ha, hb, hab] at HO2
      rw [ha]
      have HAB := Lib.hid (And.intro ha (And.intro hb hab))
      have ha4 : a ≤ 4200000 := by omega
      clear ha hb hab
      go_wp2_with fail
      go_roundw
      case rel => exact ⟨j + 1, by omega, by have := HAB.out; go_num, by go_num, HO2.out⟩
      case measure => simp [intOf]; omega
    · obtain rfl : j = n := by omega
      clear ho
      go_wp2_with fail
      go_ret
      exact ⟨rfl, HOK.out⟩

set_option maxHeartbeats 1000000 in
theorem mark_none (w : World) :
    Calls Try.prog 25 #[.slice none 0 0, .int .i64 1] w fun e w' => e = .returned (.int .i64 1) ∧ w = w' := by
  go_enter Try.func25, Try.ntmps25
  go_wp2_with fail
  go_loopw [1, 5] (fun k i wr => k = .int .i64 1 ∧ i = .int .i64 0 ∧ w = wr) (fun _ _ _ => 0)
  case atStart => exact ⟨rfl, rfl, rfl⟩
  case round =>
    obtain ⟨rfl, rfl, rfl⟩ := hrel
    go_wp2_with fail
    go_ret
    exact ⟨rfl, rfl⟩

/-- the marks are written -/
theorem mark (wb w : World) (v : Value) (xs : List (Int × Int)) (hlen : xs.length ≤ 1048576) (hb : Below wb.heap.size wb w) (h : w.ownsRow wb.heap.size 33 2 v xs.length (flat xs)) :
    Calls Try.prog 25 #[v, .int .i64 1] w fun e w' => e = .returned (.int .i64 ((1 + 2 * xs.length : Nat) : Int)) ∧ RV w' w'.heap.size v (nums xs.length) ∧ Below wb.heap.size wb w' := by
  rcases h.2 with ⟨rfl, h0⟩ | ⟨g, cap, cur, rfl, hg, hheap, hn, hcap, hsz, htake⟩
  · rw [h0]
    refine (mark_none w).mono ?_
    rintro e w' ⟨rfl, rfl⟩
    exact ⟨rfl, ⟨by simp [nums], .inl ⟨rfl, rfl⟩⟩, hb⟩
  · have hglt := (Array.getElem?_eq_some_iff.1 hheap).1
    refine (mark_block wb g cap xs.length hlen w ⟨fun _ _ h => absurd h (by omega), fun j hj => ⟨?_, by simp [World.frozen?, hheap]⟩, hb, hg, hglt⟩).mono ?_
    · rw [nums_len] at hj
      rw [Nat.zero_add, cell_of_row _ _ j _ _ _ hheap, Array.getElem?_eq_getElem (by rw [hsz]; have := Nat.mul_le_mul_right 2 hn; omega)]
      rfl
    · rintro e w' ⟨rfl, ho⟩
      have hl := nums_len xs.length
      refine ⟨rfl, ⟨by rw [hl]; omega, .inr ⟨g, 0, cap, by rw [hl], ho.hi, fun j hj => by rw [Nat.zero_add]; exact ho.cells j hj (by omega)⟩⟩, ho.below⟩

set_option maxHeartbeats 1000000 in
/-- the marks are found -/
theorem held (v : Value) (n : Nat) (hn : n ≤ 1048576) (w : World) (hv : RV w w.heap.size v (nums n)) :
    Calls Try.prog 26 #[v, .int .i64 1] w fun e w' => e = .returned (.int .i64 ((1 + 2 * n : Nat) : Int)) ∧ w = w' := by
  have HC : Hid (∀ j, j < n → ∃ b off c, v = .slice (some ⟨b, off, none⟩) n c ∧ w.cell? ⟨b, off + j * 2, none⟩ = some (.int .i64 ((1 + 2 * j : Nat) : Int)) ∧ w.cell? ⟨b, off + j * 2 + 1, none⟩ = some (.int .i64 ((2 + 2 * j : Nat) : Int))) := fun j hj => by
    have hl := nums_len n
    have hj2 : j < (nums n).length := by omega
    rcases hv.2 with ⟨_, h0⟩ | ⟨b, off, c, rfl, hlt, hc⟩
    · rw [h0] at hj2; cases hj2
    · have := hc j hj2
      rw [nums_get] at this
      exact ⟨b, off, c, by rw [hl], this.1, this.2⟩
  obtain ⟨p, k, rfl⟩ := hv.slice
  rw [nums_len] at HC ⊢
  clear hv
  go_enter Try.func26, Try.ntmps26
  go_wp2_with fail
  go_loopw [1, 5] (fun k i wr => ∃ j : Nat, j ≤ n ∧ k = .int .i64 ((1 + 2 * j : Nat) : Int) ∧ i = .int .i64 (j : Int) ∧ w = wr) (fun _ i _ => n - (intOf i).toNat)
  case atStart => exact ⟨0, Nat.zero_le _, rfl, rfl, rfl⟩
  case round =>
    obtain ⟨j, hj, rfl, rfl, rfl⟩ := hrel
    by_cases hlt : j < n
    · obtain ⟨b, off, c, e, c0, c1⟩ := HC.out j hlt
      injection e with e1 e2 e3
      subst e1 e3
      obtain ⟨x, hx⟩ : ∃ x : Nat, 1 + 2 * j = x := ⟨_, rfl⟩
      obtain ⟨y, hy⟩ : ∃ y : Nat, 2 + 2 * j = y := ⟨_, rfl⟩
      have hxy : (y : Int) = (x : Int) + 1 := by omega
      rw [hx] at c0 ⊢
      rw [hy, hxy] at c1
      have HX := Lib.hid (And.intro hx (And.intro hy hxy))
      have hx4 : x ≤ 4200000 := by omega
      clear hx hy hxy
      go_wp2_with fail
      go_roundw
      case rel => exact ⟨j + 1, by omega, by have := HX.out; go_num, by go_num, trivial⟩
      case measure => simp [intOf]; omega
    · obtain rfl : j = n := by omega
      go_wp2_with fail
      go_ret
      exact ⟨rfl, rfl⟩
end Go.Proofs.Ytcafingoghoijaa.Marks

