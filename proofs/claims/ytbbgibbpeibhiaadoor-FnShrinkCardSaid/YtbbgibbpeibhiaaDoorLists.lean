/-
  The drawing function l1List: some slice of at most nine numbers, beside the reader.
-/
import Derived.Test.YtbbgibbpeibhiaaDoorKeptR
import Derived.Test.YtbbgibbpeibhiaaDoorApp
import Derived.Test.YtbbgibbpeibhiaaDoorInts
import Derived.OwnWalk
import Derived.Laws.MakeOwn
namespace Go.Proofs.YtbbgibbpeibhiaaDoor.Lists
open Go.RowKit Go.Proofs.YtbbgibbpeibhiaaDoor.Plain Go.Proofs.YtbbgibbpeibhiaaDoor.Rd Go.Proofs.YtbbgibbpeibhiaaDoor.Rd2 Go.Proofs.YtbbgibbpeibhiaaDoor.Rd3 Go.Proofs.YtbbgibbpeibhiaaDoor.App Go.Proofs.YtbbgibbpeibhiaaDoor.Ints
set_option linter.unusedVariables false

theorem rdr_grown {lo g p : Nat} {w w' : World} {row : Option Nat} (h : Rdr lo w g p) (hg : w.grownBy w' row) (hr : ∀ k, row = some k → g < k) : Rdr lo w' g p := by
  obtain ⟨v, n, h, hl⟩ := h
  obtain ⟨h0, a, c, hv, h1⟩ := h.bytes
  have hgl := h.lt
  refine ⟨v, n, ⟨(hg.block g hgl (fun e => by have := hr g e.symm; omega)).trans h.cells, h0, a, c, hv, ?_⟩, hl⟩
  rcases h1 with h1 | ⟨b, off, h1, h2, h3, h4⟩
  · exact .inl h1
  · refine .inr ⟨b, off, h1, h2, Nat.lt_of_lt_of_le h3 hg.size, fun j hj => ?_⟩
    obtain ⟨y, hy0, hy1, hy⟩ := h4 j hj
    exact ⟨y, hy0, hy1, (World.cell?_of_block (a := ⟨b, off + j, none⟩) (hg.block b h3 (fun e => by have := hr b e.symm; omega))).trans hy⟩
theorem apt_grown {g : Nat} {w w1 w' : World} {row : Option Nat} (h : Apt g w w1) (hg : w1.grownBy w' row) (hr : ∀ k, row = some k → w.heap.size ≤ k) : Apt g w w' :=
  ⟨hg.os.trans h.os, hg.tape.trans h.tape, hg.output.trans h.output, Nat.le_trans h.size hg.size, fun k hk hkg => (hg.block k (Nat.lt_of_lt_of_le hk h.size) (fun e => by have := hr k e.symm; omega)).trans (h.block k hk hkg)⟩
def ivl (l : List Int) : List Value := l.map fun x : Int => Value.int .i64 x
theorem ivl_len (l : List Int) : (ivl l).length = l.length := by simp [ivl]
theorem ivl_snoc (l : List Int) (x : Int) : ivl l ++ [.int .i64 x] = ivl (l ++ [x]) := by simp [ivl]
/-- a slice of these numbers, made since w, beside the reader -/
structure LI (lo g : Nat) (w wr : World) (p : Nat) (v : Value) (l : List Int) : Prop where
  row : wr.ownsRow w.heap.size 3 1 v l.length (ivl l)
  rd : Rdr lo wr g p
  apt : Apt g w wr
  hg : g < w.heap.size
theorem LI.later {lo g : Nat} {w wr w2 : World} {p q : Nat} {v : Value} {l : List Int} (h : LI lo g w wr p v l) (ha : Apt g wr w2) (hr : Rdr lo w2 g q) : LI lo g w w2 q v l := by
  refine ⟨⟨h.row.1, ?_⟩, hr, h.apt.trans ha, h.hg⟩
  rcases h.row.2 with h1 | ⟨b, cap, cur, h2, h3, h4, h5⟩
  · exact .inl h1
  · exact .inr ⟨b, cap, cur, h2, h3, (ha.block b (Array.getElem?_eq_some_iff.1 h4).1 (by have := h.hg; omega)).trans h4, h5⟩
theorem LI.next {lo g : Nat} {w wr w3 : World} {p : Nat} {v v3 : Value} {l : List Int} {m : Nat} {ys : List Value} (h : LI lo g w wr p v l) (o : Obj) (x : Int)
    (h3 : w3.ownsRow w.heap.size 3 1 v3 m ys) (hm : m = (l ++ [x]).length) (hy : ys = ivl (l ++ [x])) (hg : (wr.alloc o).grownBy w3 v.ownBlock) : LI lo g w w3 p v3 (l ++ [x]) := by
  subst hm hy
  have hb := (Below.refl wr.heap.size wr).alloc (Nat.le_refl _) o
  have hrow : ∀ k, v.ownBlock = some k → w.heap.size ≤ k := fun k hk => (h.row.lt k hk).1
  exact ⟨h3, rdr_grown (h.rd.later hb) hg (fun k hk => by have := hrow k hk; have := h.hg; omega), apt_grown (h.apt.trans (Apt.of_below hb)) hg hrow, h.hg⟩
theorem LI.slice {lo g : Nat} {w wr : World} {p : Nat} {v : Value} {l : List Int} (h : LI lo g w wr p v l) : ∃ q c, v = .slice q l.length c := by
  rcases h.row.2 with ⟨rfl, e⟩ | ⟨b, cap, cur, rfl, _⟩
  · rw [e]; exact ⟨_, _, rfl⟩
  · exact ⟨_, _, rfl⟩
theorem LI.iv {lo g : Nat} {w wr : World} {p : Nat} {v : Value} {l : List Int} (h : LI lo g w wr p v l) (hl : l.length ≤ 9) : IV wr wr.heap.size v l := by
  refine ⟨by omega, ?_⟩
  rcases h.row.2 with ⟨rfl, e⟩ | ⟨b, cap, cur, rfl, h2, h3, h4⟩
  · exact .inl ⟨rfl, List.length_eq_zero_iff.1 e⟩
  · refine .inr ⟨b, 0, cap, rfl, (Array.getElem?_eq_some_iff.1 h3).1, fun j hj => ?_⟩
    rw [Nat.zero_add]
    exact (World.ownsRow.cellAt (cap := cap) h.row j (by omega)).trans (by simp [ivl, hj])
theorem LI.lit {lo g : Nat} {w wr : World} {p : Nat} (hr : Rdr lo wr g p) (ha : Apt g w wr) (hg : g < w.heap.size) (xs : List Int) (hl : xs.length ≤ 9) :
    LI lo g w (wr.alloc (.cells (ivl xs).toArray 3)) p (.slice (some ⟨wr.heap.size, 0, none⟩) xs.length xs.length) xs := by
  have hb := (Below.refl wr.heap.size wr).alloc (Nat.le_refl _) (.cells (ivl xs).toArray 3)
  refine ⟨⟨by simp [ivl], .inr ⟨wr.heap.size, xs.length, (ivl xs).toArray, rfl, ha.size, heap_alloc_new wr _, Nat.le_refl _, by unfold maxLen; omega, by simp [ivl], ?_⟩⟩, hr.later hb, ha.trans (Apt.of_below hb), hg⟩
  show (ivl xs).take (xs.length * 1) = ivl xs
  exact List.take_of_length_le (by rw [ivl_len]; omega)
theorem info3 : (Tryd.prog.info? 3).map (fun i => (i.zero, i.size, i.bytes)) = some (some (.int .i64 0), 1, 8) := by kernel_rfl
theorem cell_one (w : World) (u : Value) (t : TypeId) (j : Nat) (v : Value) (h : [u][j]? = some v) : (w.alloc (.cells #[u] t)).cell? (Addr.add ⟨w.heap.size, 0, none⟩ j) = some v := by
  match j, h with
  | 0, h =>
    obtain rfl := Option.some.inj h
    simp [Addr.add]
  | j + 1, h => simp at h
/-- what l1List hands back -/
def ListOut (lo g p : Nat) (w : World) (e : Ending) (w' : World) : Prop := ∃ (v : Value) (l : List Int) (p' : Nat), e = .returned v ∧ l.length ≤ 9 ∧ p ≤ p' ∧ p' ≤ p + 20 ∧ LI lo g w w' p' v l
theorem list_out {lo g p : Nat} {w w' : World} {v : Value} (l : List Int) (p' : Nat) (hl : l.length ≤ 9) (h1 : p ≤ p') (h2 : p' ≤ p + 20) (h : LI lo g w w' p' v l) : ListOut lo g p w (.returned v) w' := ⟨v, l, p', rfl, hl, h1, h2, h⟩

set_option maxHeartbeats 4000000 in
set_option maxRecDepth 100000 in
theorem list_any {lo : Nat} (g p : Nat) (hp : p < 900000) (n : Int) (hn : -9223372036854775808 ≤ n ∧ n ≤ 9223372036854775807) (w : World) (h : Rdr lo w g p) :
    Calls Tryd.prog 50 #[.pointer (some ⟨g, 0, none⟩), .int .i64 n] w (ListOut lo g p w) := by
  obtain ⟨i0, hi, hz0, hz1, hz2⟩ := info_parts info3
  have hgl := h.lt
  obtain ⟨hn1, hn2⟩ := hn
  have HL0 := Lib.hid (LI.lit (lo := lo) h (Apt.refl g w) hgl [] (by decide))
  clear h
  have HP0 := Lib.hid (pick_r g p (by omega) 5 _ HL0.out.rd)
  go_enter Tryd.func50, Tryd.ntmps50
  go_wp2_with fail
  refine HP0.out.mono ?_
  rintro e w1 ⟨k0, rfl, ⟨k1, -⟩, k2, hr, ha⟩
  have HL1 := Lib.hid (HL0.out.later ha hr)
  clear hr ha HP0 HL0
  obtain ⟨K, rfl⟩ := Int.eq_ofNat_of_zero_le k1
  have hK : K ≤ 4 := by omega
  clear k1 k2
  go_wp2_with fail
  go_loopw [5, 6] (fun v k wr => ∃ (j : Nat) (l : List Int), k = .int .i64 (j : Int) ∧ l.length + j = K + 1 ∧ Hid (LI lo g w wr (p + 1 + l.length) v l)) (fun _ k _ => (intOf k).toNat)
  case atStart => exact ⟨K + 1, [], by go_num, by simp, HL1.out⟩
  case round =>
    obtain ⟨j, l, rfl, hlj, HL⟩ := hrel
    clear HL1
    by_cases hj : 0 < j
    · obtain ⟨q, c, hv⟩ := HL.out.slice
      subst hv
      have HP := Lib.hid (fun m => pick_r g (p + 1 + l.length) (by omega) m _ HL.out.rd)
      have hjj : (0 : Int) < (j : Int) := by omega
      go_wp2_with fail
      all_goals
        refine (HP.out _).mono ?_
        rintro e w2 ⟨x, rfl, ⟨hx0, hx1⟩, -, hr, ha⟩
        have HL2 := Lib.hid (HL.out.later ha hr)
        clear hr ha HP
        go_wp2_with (at_builtin; have HH := HL2.out; refine wpList_append_own _ rfl (.tmp 15) (.tmp 21) 28 rfl w.heap.size 3 i0 (.int .i64 0) 1 8 Tryd.underlying28 hi hz0 hz1 hz2 rfl (by decide) _ _ _ rfl (HH.row.alloc _) ⟨w2.heap.size, 0, none⟩ 1 1 [.int .i64 x] rfl rfl ?c1 ?c2 ?c3 ?c4 ?c5 ?c6; go_must (case c1 => exact (cell_one _ _ _)); go_must (case c2 => simp [Value.oneCell']); go_must (case c3 => (unfold maxLen; omega)); go_must (case c4 => omega); go_must (case c5 => (have := HH.apt.size; simp; omega)); go_must (clear HH; intro v3 w3 hown3 hgrow3 _; have H3 := Lib.hid (HL2.out.next _ x hown3 (by simp) (by rw [← ivl_snoc]) hgrow3); clear HL2 hown3 hgrow3))
        go_wp2_with fail
        go_roundw
        case rel => exact ⟨j - 1, l ++ [x], by go_num, by simp; omega, Lib.hid (by have := H3.out; simpa [Nat.add_assoc] using this)⟩
        case measure => simp [intOf]; omega
    · obtain rfl : j = 0 := by omega
      have hll : l.length ≤ 5 := by omega
      have HP := Lib.hid (pick_r g (p + 1 + l.length) (by omega) 24 _ HL.out.rd)
      go_wp2_with fail
      refine HP.out.mono ?_
      rintro e w2 ⟨x, rfl, ⟨hx0, hx1⟩, -, hr, ha⟩
      have HL2 := Lib.hid (HL.out.later ha hr)
      clear hr ha HP HL
      by_cases e0 : x = 0
      · subst e0
        have HL3 := Lib.hid (LI.lit HL2.out.rd HL2.out.apt hgl [] (by decide))
        go_wp2_with fail
        go_ret
        exact list_out [] _ (by decide) (by omega) (by omega) HL3.out
      by_cases e1 : x = 1
      · subst e1
        have hb := (Below.refl w2.heap.size w2).alloc (Nat.le_refl _) (.cells ([-1, 8].map fun x : Int => Value.int .i64 x).toArray 3)
        have hr2 := HL2.out.rd.later hb
        have HN := Lib.hid (num_any g (p + 1 + l.length + 1) (by omega) [-1, 8] (by decide) (by decide) w2.heap.size 2 (by have := HL2.out.apt.size; omega) _ hr2 (by simp) (fun j hj => cells_lit w2 3 [-1, 8] j hj))
        have HB := Lib.hid hb
        obtain ⟨q, c, hv⟩ := HL2.out.slice
        subst hv
        clear hb hr2
        go_wp2_with fail
        refine HN.out.mono ?_
        rintro e w4 ⟨y, rfl, -, hr, ha⟩
        have HL4 := Lib.hid (HL2.out.later ((Apt.of_below HB.out).trans ha) hr)
        clear hr ha HN HB
        go_wp2_with (at_builtin; have HH := HL4.out; refine wpList_append_own _ rfl (.tmp 30) (.tmp 34) 28 rfl w.heap.size 3 i0 (.int .i64 0) 1 8 Tryd.underlying28 hi hz0 hz1 hz2 rfl (by decide) _ _ _ rfl (HH.row.alloc _) ⟨w4.heap.size, 0, none⟩ 1 1 [.int .i64 y] rfl rfl ?d1 ?d2 ?d3 ?d4 ?d5 ?d6; go_must (case d1 => exact (cell_one _ _ _)); go_must (case d2 => simp [Value.oneCell']); go_must (case d3 => (unfold maxLen; omega)); go_must (case d4 => omega); go_must (case d5 => (have := HH.apt.size; simp; omega)); go_must (clear HH; intro v3 w3 hown3 hgrow3 _; have H3 := Lib.hid (HL4.out.next _ y hown3 (by simp) (by rw [← ivl_snoc]) hgrow3); clear HL4 hown3 hgrow3))
        go_wp2_with fail
        go_ret
        exact list_out _ _ (by simp; omega) (by omega) (by omega) H3.out
      by_cases e2 : x = 2
      · subst e2
        have HL3 := Lib.hid (LI.lit HL2.out.rd HL2.out.apt hgl [0, 0, 0, 0, 0, 0, 0, 0, 0] (by decide))
        have hmk : ∀ w : World, (Instr.makeSlice 28 (.int .i64 9) (.int .i64 9)).run Tryd.prog w = .ok (.slice (some ⟨w.heap.size, 0, none⟩) 9 9) (w.alloc (.cells #[.int .i64 0, .int .i64 0, .int .i64 0, .int .i64 0, .int .i64 0, .int .i64 0, .int .i64 0, .int .i64 0, .int .i64 0] 3)) := fun _ => by kernel_rfl
        go_wp2_with fail
        go_ret
        exact list_out [0, 0, 0, 0, 0, 0, 0, 0, 0] _ (by decide) (by omega) (by omega) HL3.out
      · go_wp2_with fail
        go_ret
        exact list_out l _ (by omega) (by omega) (by omega) HL2.out
end Go.Proofs.YtbbgibbpeibhiaaDoor.Lists
