/-
  The program's board.areApart, by what cell, HullRects and isPlain answer.
-/
import Derived.Test.YtgmhddceeomjbaaDoorCell
import Derived.Test.YtgmhddceeomjbaaDoorMeet
namespace Go.Proofs.YtgmhddceeomjbaaDoor.Apart
open Go.RowKit Go.Proofs.YtgmhddceeomjbaaDoor.Plain Go.Proofs.YtgmhddceeomjbaaDoor.Base Go.Proofs.YtgmhddceeomjbaaDoor.Law Go.Proofs.YtgmhddceeomjbaaDoor.Pat Go.Proofs.YtgmhddceeomjbaaDoor.Rect Go.Proofs.YtgmhddceeomjbaaDoor.Board Go.Proofs.YtgmhddceeomjbaaDoor.BoardM Go.Proofs.YtgmhddceeomjbaaDoor.Cell
open Go.Proofs.YtgmhddceeomjbaaDoor.Free (fill wp_value wp_enter wp_load_row freeB wp_region_one get_of)
set_option linter.unusedVariables false

theorem binfo4 : (Tryd.prog.info? 70).map (·.size) = some 4 := by kernel_rfl

set_option maxHeartbeats 2000000 in
set_option maxRecDepth 20000 in
theorem apart_any (R C : Int) (z o : Nat) (i j bit : Int) (x1 y1 x2 y2 x y : Int) (tt pl : Bool)
    (hc1 : ∀ W : World, Calls Tryd.prog 122 #[brd R C z o, .int .i64 i] W fun e w' => e = .returned (rect x1 y1) ∧ Below W.heap.size W w')
    (hc2 : ∀ W : World, Calls Tryd.prog 122 #[brd R C z o, .int .i64 j] W fun e w' => e = .returned (rect x2 y2) ∧ Below W.heap.size W w')
    (hh : ∀ W : World, Calls Tryd.prog 152 #[rect x1 y1, rect x2 y2] W fun e w' => e = .returned (.tuple #[rect x y, .bool tt]) ∧ Below W.heap.size W w')
    (hpl : ∀ W : World, Calls Tryd.prog 92 #[brd R C z o, rect x y, .int .i64 bit] W fun e w' => e = .returned (.bool pl) ∧ Below W.heap.size W w') (w : World) :
    Calls Tryd.prog 121 #[brd R C z o, .int .i64 i, .int .i64 j, .int .i64 bit] w fun e w' => e = .returned (.bool (!pl)) ∧ Below w.heap.size w w' := by
  have H1 := Lib.hid hc1
  have H2 := Lib.hid hc2
  have HH := Lib.hid hh
  have HP := Lib.hid hpl
  clear hc1 hc2 hh hpl
  have HR1 : Hid ((w.alloc (.cells #[.int .i64 R, .int .i64 C, .int .u64 (z : Int), .int .u64 (o : Int)] 70)).heap[w.heap.size]? = some (.cells #[.int .i64 R, .int .i64 C, .int .u64 (z : Int), .int .u64 (o : Int)] 70 (0, 0))) := heap_alloc_new w _
  have HB1 : Hid (Below w.heap.size w (w.alloc (.cells #[.int .i64 R, .int .i64 C, .int .u64 (z : Int), .int .u64 (o : Int)] 70))) := (Below.refl w.heap.size w).alloc (Nat.le_refl _) _
  go_enter Tryd.func121, Tryd.ntmps121
  go_wp2_with fail
  generalize w.alloc (.cells #[.int .i64 R, .int .i64 C, .int .u64 (z : Int), .int .u64 (o : Int)] 70) = w1 at *
  refine wp_region_one (fun | 0 => brd R C z o | 1 => .int .i64 i | 2 => rect x1 y1 | 3 => brd R C z o | 4 => .int .i64 j | 5 => rect x2 y2 | 6 => .tuple #[rect x y, .bool tt] | 7 => .tuple #[rect x y, .bool tt] | 8 => rect x y | 9 => .bool tt | 12 => .bool tt | _ => undef) 10 11 9 42 #[.int .i64 0, .int .i64 0] #[.int .i64 x, .int .i64 y] _ _
    (by kernel_rfl) (by kernel_rfl) rfl rfl rfl rfl rfl (by decide) ⟨_, List.mem_toArray.2 List.mem_cons_self, rfl, rfl⟩ rfl ?al ?st ?con ?en
  case al =>
    intro a w
    unfold execOp
    go_simp
  case st =>
    intro a w1 b old hf hp hg hsz
    refine wp_store_row 42 (.tmp 9) (.tmp 19) rfl b #[.int .i64 x, .int .i64 y] hp ?_ 42 old hg rinfo2 hsz (by simp [Value.oneCell']) ⟨rfl, rfl⟩
    exact hf.1 ⟨8, .data⟩ (by simp) rfl _ 19 rfl rfl (by decide) (by decide)
  case con =>
    intro k o ho n1 n2 a w2 hb hf
    match k, ho with
    | 0, ho =>
      obtain rfl := Option.some.inj ho
      exact wp_load_row 70 (.tmp 4) rfl w.heap.size (hf.2 4 (by kernel_rfl)) 70 _ (0, 0) _ ((hb.block _ (Array.getElem?_eq_some_iff.1 HR1.out).1).trans HR1.out) Tryd.underlying70 rfl binfo4 ⟨rfl, Below.refl _ _⟩
    | 1, ho =>
      obtain rfl := Option.some.inj ho
      have e : a.tmps[1]?.getD undef = .int .i64 i := get_of (hf.2 1 (by kernel_rfl))
      exact wp_value (.int .i64 i) (by unfold execOp; go_simp) ⟨rfl, Below.refl _ _⟩
    | 2, ho =>
      obtain rfl := Option.some.inj ho
      have e0 : a.tmps[12]?.getD undef = brd R C z o := get_of (hf.1 ⟨0, .data⟩ (by simp) rfl _ 12 rfl rfl (by decide) (by decide))
      have e1 : a.tmps[13]?.getD undef = .int .i64 i := get_of (hf.1 ⟨1, .data⟩ (by simp) rfl _ 13 rfl rfl (by decide) (by decide))
      exact wp_enter 122 #[brd R C z o, .int .i64 i] (rect x1 y1) _ (by unfold execOp; go_simp) (H1.out w2) (fun w' h => ⟨rfl, h⟩)
    | 3, ho =>
      obtain rfl := Option.some.inj ho
      exact wp_load_row 70 (.tmp 4) rfl w.heap.size (hf.2 4 (by kernel_rfl)) 70 _ (0, 0) _ ((hb.block _ (Array.getElem?_eq_some_iff.1 HR1.out).1).trans HR1.out) Tryd.underlying70 rfl binfo4 ⟨rfl, Below.refl _ _⟩
    | 4, ho =>
      obtain rfl := Option.some.inj ho
      have e : a.tmps[2]?.getD undef = .int .i64 j := get_of (hf.2 2 (by kernel_rfl))
      exact wp_value (.int .i64 j) (by unfold execOp; go_simp) ⟨rfl, Below.refl _ _⟩
    | 5, ho =>
      obtain rfl := Option.some.inj ho
      have e0 : a.tmps[15]?.getD undef = brd R C z o := get_of (hf.1 ⟨3, .data⟩ (by simp) rfl _ 15 rfl rfl (by decide) (by decide))
      have e1 : a.tmps[16]?.getD undef = .int .i64 j := get_of (hf.1 ⟨4, .data⟩ (by simp) rfl _ 16 rfl rfl (by decide) (by decide))
      exact wp_enter 122 #[brd R C z o, .int .i64 j] (rect x2 y2) _ (by unfold execOp; go_simp) (H2.out w2) (fun w' h => ⟨rfl, h⟩)
    | 6, ho =>
      obtain rfl := Option.some.inj ho
      have e0 : a.tmps[14]?.getD undef = rect x1 y1 := get_of (hf.1 ⟨2, .data⟩ (by simp) rfl _ 14 rfl rfl (by decide) (by decide))
      have e1 : a.tmps[17]?.getD undef = rect x2 y2 := get_of (hf.1 ⟨5, .data⟩ (by simp) rfl _ 17 rfl rfl (by decide) (by decide))
      exact wp_enter 152 #[rect x1 y1, rect x2 y2] (.tuple #[rect x y, .bool tt]) _ (by unfold execOp; go_simp) (HH.out w2) (fun w' h => ⟨rfl, h⟩)
    | 7, ho =>
      obtain rfl := Option.some.inj ho
      have e : a.tmps[18]?.getD undef = .tuple #[rect x y, .bool tt] := get_of (hf.1 ⟨6, .data⟩ (by simp) rfl _ 18 rfl rfl (by decide) (by decide))
      exact wp_value (.tuple #[rect x y, .bool tt]) (by unfold execOp; go_simp) ⟨rfl, Below.refl _ _⟩
    | 8, ho =>
      obtain rfl := Option.some.inj ho
      have e : a.tmps[11]?.getD undef = .tuple #[rect x y, .bool tt] := get_of (hf.1 ⟨7, .data⟩ (by simp) rfl _ 11 rfl rfl (by decide) (by decide))
      exact wp_value (rect x y) (by unfold execOp; go_simp) ⟨rfl, Below.refl _ _⟩
    | 9, ho =>
      obtain rfl := Option.some.inj ho
      have e : a.tmps[11]?.getD undef = .tuple #[rect x y, .bool tt] := get_of (hf.1 ⟨7, .data⟩ (by simp) rfl _ 11 rfl rfl (by decide) (by decide))
      exact wp_value (.bool tt) (by unfold execOp; go_simp) ⟨rfl, Below.refl _ _⟩
    | 10, ho => exact absurd rfl n1
    | 11, ho => exact absurd rfl n2
    | 12, ho =>
      obtain rfl := Option.some.inj ho
      have e : a.tmps[20]?.getD undef = .bool tt := get_of (hf.1 ⟨9, .data⟩ (by simp) rfl _ 20 rfl rfl (by decide) (by decide))
      exact wp_value (.bool tt) (by unfold execOp; go_simp) ⟨rfl, Below.refl _ _⟩
    | k + 13, ho => simp at ho
  case en =>
    intro b1 w2 hb hle hcell
    obtain ⟨q0, q1, q2, q3⟩ := cells4 ((hb.block _ (Array.getElem?_eq_some_iff.1 HR1.out).1).trans HR1.out)
    obtain ⟨k0, k1, -, -⟩ := cells2 hcell
    have HB2 : Hid (Below w.heap.size w w2) := HB1.out.trans (hb.mono HB1.out.size)
    clear hb hcell HR1 HB1
    simp only [fill, Act.put]
    go_simp
    go_wp2_with fail
    refine (HP.out _).mono ?_
    rintro e w3 ⟨rfl, hb3⟩
    have HB3 : Hid (Below w.heap.size w w3) := HB2.out.trans (hb3.mono HB2.out.size)
    clear hb3 HB2 q0 q1 q2 q3 k0 k1
    go_wp2_with fail
    go_ret
    exact ⟨rfl, HB3.out⟩
end Go.Proofs.YtgmhddceeomjbaaDoor.Apart
