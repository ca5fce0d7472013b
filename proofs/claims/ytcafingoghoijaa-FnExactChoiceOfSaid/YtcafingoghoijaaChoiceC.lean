/-
  ChoiceOf: the closure of the program, where its test of the side is told.
-/
import Derived.Test.YtcafingoghoijaaLiveS
import Derived.Test.YtcafingoghoijaaFreeH
import Derived.Test.YtcafingoghoijaaWq
namespace Go.Proofs.Ytcafingoghoijaa.ChoiceC
open Go.RowKit Go.Proofs.Ytcafingoghoijaa.Plain Go.Proofs.Ytcafingoghoijaa.Rect Go.Proofs.Ytcafingoghoijaa.FreeL Go.Proofs.Ytcafingoghoijaa.GuessM Go.Proofs.Ytcafingoghoijaa.GuessI Go.Proofs.Ytcafingoghoijaa.GuessT Go.Proofs.Ytcafingoghoijaa.Rects Go.Proofs.Ytcafingoghoijaa.Things Go.Proofs.Ytcafingoghoijaa.Accept Go.Proofs.Ytcafingoghoijaa.LiveI Go.Proofs.Ytcafingoghoijaa.Live
open Go.Proofs.Ytcafingoghoijaa.Free (fill wp_value wp_enter wp_load_row freeB)
open Go.Proofs.Ytcafingoghoijaa.FreeH (wp_region_relsH wp_enterE)
open Go.Proofs.Ytcafingoghoijaa.Wq (WQ wq_step wq_nil region_kept drew_at)
open Go.Proofs.Ytcafingoghoijaa.Marks (flat encR)
set_option linter.unusedVariables false
set_option linter.unusedSimpArgs false

theorem own_slice {w : World} {B n : Nat} {v : Value} {xs : List Value} (h : w.ownsRow B 33 2 v n xs) : ∃ p k, v = .slice p n k := by
  rcases h.2 with ⟨rfl, h0⟩ | ⟨g, cap, cur, rfl, _⟩
  · exact ⟨none, 0, by rw [h0]⟩
  · exact ⟨_, _, rfl⟩

/-- what the closure sees -/
structure Sees (W : World) (lv : List (Int × Int)) (p : Option Addr) (k : Nat) (x y input : Int) (cols : Bool) (Br Bl Bi Bc B : Nat) (wx : World) : Prop where
  rect : wx.heap[Br]? = some (.cells #[.int .i64 x, .int .i64 y] 33 (0, 0))
  live : wx.cell? ⟨Bl, 0, none⟩ = some (.slice p lv.length k)
  inp : wx.cell? ⟨Bi, 0, none⟩ = some (.int .i64 input)
  cls : wx.cell? ⟨Bc, 0, none⟩ = some (.bool cols)
  list : RV wx B (.slice p lv.length k) lv
  lts : Bl < wx.heap.size ∧ Bi < wx.heap.size ∧ Bc < wx.heap.size ∧ B ≤ wx.heap.size
theorem Sees.later {W : World} {lv : List (Int × Int)} {p : Option Addr} {k : Nat} {x y input : Int} {cols : Bool} {Br Bl Bi Bc B : Nat} {wx wy : World} (h : Sees W lv p k x y input cols Br Bl Bi Bc B wx) (hb : Below wx.heap.size wx wy) : Sees W lv p k x y input cols Br Bl Bi Bc B wy := by
  obtain ⟨l1, l2, l3, l4⟩ := h.lts
  have hs := hb.size
  exact ⟨(hb.block _ (Array.getElem?_eq_some_iff.1 h.rect).1).trans h.rect, (hb.cell (p := ⟨Bl, 0, none⟩) l1).trans h.live, (hb.cell (p := ⟨Bi, 0, none⟩) l2).trans h.inp, (hb.cell (p := ⟨Bc, 0, none⟩) l3).trans h.cls, h.list.later l4 hb, by omega⟩

set_option maxRecDepth 100000 in
set_option maxHeartbeats 4000000 in
/-- where the side has it: half of those that live -/
theorem clo_yes (lv : List (Int × Int)) (hlen : lv.length ≤ 1048576) (p : Option Addr) (k : Nat) (x y input : Int) (cols : Bool) (Bl Bi Bc B : Nat) (W : World)
    (h1 : W.cell? ⟨Bl, 0, none⟩ = some (.slice p lv.length k)) (h2 : W.cell? ⟨Bi, 0, none⟩ = some (.int .i64 input)) (h3 : W.cell? ⟨Bc, 0, none⟩ = some (.bool cols)) (hv : RV W B (.slice p lv.length k) lv) (hl : Bl < W.heap.size ∧ Bi < W.heap.size ∧ Bc < W.heap.size ∧ B ≤ W.heap.size)
    (hs1 : someB x y = true) (hs2 : allR lv = true)
    (ht : ∀ W : World, Calls Try.prog 57 #[.int .i64 (side (x, y) cols), .int .i64 input] W fun e w' => e = .returned (.bool true) ∧ W = w') :
    Calls Try.prog 56 #[rect x y, .pointer (some ⟨Bc, 0, none⟩), .pointer (some ⟨Bi, 0, none⟩), .pointer (some ⟨Bl, 0, none⟩)] W fun e w' => e = .returned (.bool (decide (2 * (live lv (x, y) cols).length ≤ lv.length))) ∧ Below W.heap.size W w' := by
  have HI := Lib.hid (fun wx => inputs_any x y cols wx)
  obtain ⟨s, hs⟩ : ∃ s, side (x, y) cols = s := ⟨_, rfl⟩
  rw [hs] at HI ht
  have HT := Lib.hid ht
  have HL : Hid (∀ wx : World, RV wx wx.heap.size (.slice p lv.length k) lv → Calls Try.prog 24 #[.slice p lv.length k, rect x y, .bool cols] wx fun e w' => ∃ v, e = .returned v ∧ (∃ p' k', v = .slice p' (live lv (x, y) cols).length k') ∧ Below wx.heap.size wx w') := fun wx hvx =>
    (impl_yes lv hlen _ x y cols hs1 hs2 wx hvx).mono (fun e w' h => by obtain ⟨v, h1, h2, h3⟩ := h; exact ⟨v, h1, own_slice h2, h3⟩)
  have hLn : (live lv (x, y) cols).length ≤ 1048576 := Nat.le_trans (kept_len lv _) hlen
  obtain ⟨L, hL⟩ : ∃ L, (live lv (x, y) cols).length = L := ⟨_, rfl⟩
  rw [hL] at HL hLn ⊢
  obtain ⟨d, hd⟩ : ∃ d, decide (2 * L ≤ lv.length) = d := ⟨_, rfl⟩
  have HD : Hid (decide (2 * (L : Int) ≤ (lv.length : Int)) = d) := by
    show _ = d
    rw [← hd]
    by_cases h : 2 * L ≤ lv.length
    · rw [decide_eq_true h, decide_eq_true (by omega)]
    · rw [decide_eq_false h, decide_eq_false (by omega)]
  rw [hd]
  have HW : Hid (Sees W lv p k x y input cols W.heap.size Bl Bi Bc B (W.alloc (.cells #[.int .i64 x, .int .i64 y] 33))) := by
    obtain ⟨l1, l2, l3, l4⟩ := hl
    have hb : Below W.heap.size W (W.alloc (.cells #[.int .i64 x, .int .i64 y] 33)) := (Below.refl _ _).alloc (Nat.le_refl _) _
    have hs := hb.size
    exact ⟨heap_alloc_new W _, (hb.cell (p := ⟨Bl, 0, none⟩) l1).trans h1, (hb.cell (p := ⟨Bi, 0, none⟩) l2).trans h2, (hb.cell (p := ⟨Bc, 0, none⟩) l3).trans h3, hv.later l4 hb, by omega⟩
  have HB0 : Hid (Below W.heap.size W (W.alloc (.cells #[.int .i64 x, .int .i64 y] 33))) := (Below.refl _ _).alloc (Nat.le_refl _) _
  clear h1 h2 h3 hv hl hs1 hs2 ht hs hL hd
  go_enter Try.func56, Try.ntmps56
  go_wp2_with fail
  obtain ⟨W0, hW0⟩ : ∃ W0, W.alloc (.cells #[.int .i64 x, .int .i64 y] 33) = W0 := ⟨_, rfl⟩
  rw [hW0] at HW HB0
  first | rw [hW0] | skip
  clear hW0
  refine wp_region_relsH (fun | 0 => fun v _ => v = rect x y | 1 => fun v _ => v = .bool cols | 2 => fun v _ => v = .int .i64 s | 3 => fun v _ => v = .int .i64 input | 4 => fun v _ => v = .bool true | 5 => fun v _ => v = .bool true | 6 => fun v _ => v = .slice p lv.length k | 7 => fun v _ => v = rect x y | 8 => fun v _ => v = .bool cols | 9 => fun v _ => ∃ p' k', v = .slice p' L k' | 10 => fun v _ => v = .int .i64 (L : Int) | 11 => fun v _ => v = .int .i64 (2 * (L : Int)) | 12 => fun v _ => v = .slice p lv.length k | 13 => fun v _ => v = .int .i64 (lv.length : Int) | 14 => fun v _ => v = .bool d | 15 => fun v _ => v = .bool d | 16 => fun v _ => v = .bool d | _ => fun _ _ => True) ?hR ?hG (by kernel_rfl) (by kernel_rfl) rfl ?con ?en
  case hR =>
    intro i v wa wb ho h
    match i, h with
    | 0, h => exact h
    | 1, h => exact h
    | 2, h => exact h
    | 3, h => exact h
    | 4, h => exact h
    | 5, h => exact h
    | 6, h => exact h
    | 7, h => exact h
    | 8, h => exact h
    | 9, h => exact h
    | 10, h => exact h
    | 11, h => exact h
    | 12, h => exact h
    | 13, h => exact h
    | 14, h => exact h
    | 15, h => exact h
    | 16, h => exact h
    | q + 17, h => trivial
  case hG =>
    intro i oo j b ho hg v wx h
    match i, ho with
    | 0, ho =>
      obtain rfl := Option.some.inj ho
      cases hg
    | 1, ho =>
      obtain rfl := Option.some.inj ho
      cases hg
    | 2, ho =>
      obtain rfl := Option.some.inj ho
      cases hg
    | 3, ho =>
      obtain rfl := Option.some.inj ho
      cases hg
    | 4, ho =>
      obtain rfl := Option.some.inj ho
      cases hg
    | 5, ho =>
      obtain rfl := Option.some.inj ho
      cases hg
    | 6, ho =>
      obtain rfl := Option.some.inj ho
      cases hg
      exact h
    | 7, ho =>
      obtain rfl := Option.some.inj ho
      cases hg
      exact h
    | 8, ho =>
      obtain rfl := Option.some.inj ho
      cases hg
      exact h
    | 9, ho =>
      obtain rfl := Option.some.inj ho
      cases hg
      exact h
    | 10, ho =>
      obtain rfl := Option.some.inj ho
      cases hg
      exact h
    | 11, ho =>
      obtain rfl := Option.some.inj ho
      cases hg
      exact h
    | 12, ho =>
      obtain rfl := Option.some.inj ho
      cases hg
      exact h
    | 13, ho =>
      obtain rfl := Option.some.inj ho
      cases hg
      exact h
    | 14, ho =>
      obtain rfl := Option.some.inj ho
      cases hg
      exact h
    | 15, ho =>
      obtain rfl := Option.some.inj ho
      cases hg
    | 16, ho =>
      obtain rfl := Option.some.inj ho
      cases hg
    | q + 17, ho => simp at ho
  case con =>
    intro i oo ho a wx hb2 hf
    have hS := HW.out.later hb2
    match i, ho with
    | 0, ho =>
      obtain rfl := Option.some.inj ho
      have b4 : a.tmps[4]?.getD undef = .pointer (some ⟨W.heap.size, 0, none⟩) := hf.2 4 (by kernel_rfl)
      exact wp_load_row 33 (.tmp 4) rfl W.heap.size (eval_get b4 trivial) 33 _ (0, 0) _ hS.rect Try.underlying33 rfl rinfo2 ⟨_, rfl, rfl, Below.refl _ _⟩
    | 1, ho =>
      obtain rfl := Option.some.inj ho
      have b1 : a.tmps[1]?.getD undef = .pointer (some ⟨Bc, 0, none⟩) := hf.2 1 (by kernel_rfl)
      have c1 := hS.cls
      exact wp_value (.bool cols) (by unfold execOp; go_simp) ⟨_, rfl, rfl, Below.refl _ _⟩
    | 2, ho =>
      obtain rfl := Option.some.inj ho
      have e6 : a.tmps[6]?.getD undef = rect x y := hf.1 ⟨0, .data⟩ (by simp) rfl _ 6 rfl rfl
      have e7 : a.tmps[7]?.getD undef = .bool cols := hf.1 ⟨1, .data⟩ (by simp) rfl _ 7 rfl rfl
      exact wp_enter 51 #[rect x y, .bool cols] (.int .i64 s) _ (by unfold execOp; go_simp) (HI.out wx) (fun w' h => ⟨_, rfl, rfl, h⟩)
    | 3, ho =>
      obtain rfl := Option.some.inj ho
      have b2 : a.tmps[2]?.getD undef = .pointer (some ⟨Bi, 0, none⟩) := hf.2 2 (by kernel_rfl)
      have c2 := hS.inp
      exact wp_value (.int .i64 input) (by unfold execOp; go_simp) ⟨_, rfl, rfl, Below.refl _ _⟩
    | 4, ho =>
      obtain rfl := Option.some.inj ho
      have e8 : a.tmps[8]?.getD undef = .int .i64 s := hf.1 ⟨2, .data⟩ (by simp) rfl _ 8 rfl rfl
      have e9 : a.tmps[9]?.getD undef = .int .i64 input := hf.1 ⟨3, .data⟩ (by simp) rfl _ 9 rfl rfl
      exact wp_enter 57 #[.int .i64 s, .int .i64 input] (.bool true) (fun w' => wx = w') (by unfold execOp; go_simp) (HT.out wx) (fun w' h => ⟨_, rfl, rfl, by rw [← h]; exact Below.refl _ _⟩)
    | 5, ho =>
      obtain rfl := Option.some.inj ho
      have e10 : a.tmps[10]?.getD undef = .bool true := hf.1 ⟨4, .data⟩ (by simp) rfl _ 10 rfl rfl
      exact wp_value (.bool true) (by unfold execOp; go_simp) ⟨_, rfl, rfl, Below.refl _ _⟩
    | 6, ho =>
      obtain rfl := Option.some.inj ho
      have b3 : a.tmps[3]?.getD undef = .pointer (some ⟨Bl, 0, none⟩) := hf.2 3 (by kernel_rfl)
      have c3 := hS.live
      exact wp_value (.slice p lv.length k) (by unfold execOp; go_simp) ⟨_, rfl, rfl, Below.refl _ _⟩
    | 7, ho =>
      obtain rfl := Option.some.inj ho
      have b4 : a.tmps[4]?.getD undef = .pointer (some ⟨W.heap.size, 0, none⟩) := hf.2 4 (by kernel_rfl)
      exact wp_load_row 33 (.tmp 4) rfl W.heap.size (eval_get b4 trivial) 33 _ (0, 0) _ hS.rect Try.underlying33 rfl rinfo2 ⟨_, rfl, rfl, Below.refl _ _⟩
    | 8, ho =>
      obtain rfl := Option.some.inj ho
      have b1 : a.tmps[1]?.getD undef = .pointer (some ⟨Bc, 0, none⟩) := hf.2 1 (by kernel_rfl)
      have c1 := hS.cls
      exact wp_value (.bool cols) (by unfold execOp; go_simp) ⟨_, rfl, rfl, Below.refl _ _⟩
    | 9, ho =>
      obtain rfl := Option.some.inj ho
      have e12 : a.tmps[12]?.getD undef = .slice p lv.length k := hf.1 ⟨6, .data⟩ (by simp) rfl _ 12 rfl rfl
      have e13 : a.tmps[13]?.getD undef = rect x y := hf.1 ⟨7, .data⟩ (by simp) rfl _ 13 rfl rfl
      have e14 : a.tmps[14]?.getD undef = .bool cols := hf.1 ⟨8, .data⟩ (by simp) rfl _ 14 rfl rfl
      exact wp_enterE 24 #[.slice p lv.length k, rect x y, .bool cols] (fun v w' => (∃ p' k', v = .slice p' L k') ∧ Below wx.heap.size wx w') (by unfold execOp; go_simp) (HL.out wx (hS.list.mono hS.lts.2.2.2)) (fun v w' h => ⟨_, rfl, h.1, h.2⟩)
    | 10, ho =>
      obtain rfl := Option.some.inj ho
      obtain ⟨p', k', e15⟩ : ∃ p' k', a.tmps[15]?.getD undef = .slice p' L k' := hf.1 ⟨9, .data⟩ (by simp) rfl _ 15 rfl rfl
      exact wp_value (.int .i64 (L : Int)) (by unfold execOp; go_simp) ⟨_, rfl, rfl, Below.refl _ _⟩
    | 11, ho =>
      obtain rfl := Option.some.inj ho
      have e16 : a.tmps[16]?.getD undef = .int .i64 (L : Int) := hf.1 ⟨10, .data⟩ (by simp) rfl _ 16 rfl rfl
      exact wp_value (.int .i64 (2 * (L : Int))) (by unfold execOp; go_simp; exact IntWalk.i64_in _ ⟨by omega, by omega⟩) ⟨_, rfl, rfl, Below.refl _ _⟩
    | 12, ho =>
      obtain rfl := Option.some.inj ho
      have b3 : a.tmps[3]?.getD undef = .pointer (some ⟨Bl, 0, none⟩) := hf.2 3 (by kernel_rfl)
      have c3 := hS.live
      exact wp_value (.slice p lv.length k) (by unfold execOp; go_simp) ⟨_, rfl, rfl, Below.refl _ _⟩
    | 13, ho =>
      obtain rfl := Option.some.inj ho
      have e18 : a.tmps[18]?.getD undef = .slice p lv.length k := hf.1 ⟨12, .data⟩ (by simp) rfl _ 18 rfl rfl
      exact wp_value (.int .i64 (lv.length : Int)) (by unfold execOp; go_simp) ⟨_, rfl, rfl, Below.refl _ _⟩
    | 14, ho =>
      obtain rfl := Option.some.inj ho
      have e17 : a.tmps[17]?.getD undef = .int .i64 (2 * (L : Int)) := hf.1 ⟨11, .data⟩ (by simp) rfl _ 17 rfl rfl
      have e19 : a.tmps[19]?.getD undef = .int .i64 (lv.length : Int) := hf.1 ⟨13, .data⟩ (by simp) rfl _ 19 rfl rfl
      exact wp_value (.bool d) (by unfold execOp; go_simp; exact HD.out) ⟨_, rfl, rfl, Below.refl _ _⟩
    | 15, ho =>
      obtain rfl := Option.some.inj ho
      have e11 : a.tmps[11]?.getD undef = .bool true := hf.1 ⟨5, .data⟩ (by simp) rfl _ 11 rfl rfl
      have e20 : a.tmps[20]?.getD undef = .bool d := hf.1 ⟨14, .data⟩ (by simp) rfl _ 20 rfl rfl
      exact wp_value (.bool d) (by unfold execOp; go_simp) ⟨_, rfl, rfl, Below.refl _ _⟩
    | 16, ho =>
      obtain rfl := Option.some.inj ho
      have e21 : a.tmps[21]?.getD undef = .bool d := hf.1 ⟨15, .data⟩ (by simp) rfl _ 21 rfl rfl
      exact wp_value (.bool d) (by unfold execOp; go_simp) ⟨_, rfl, rfl, Below.refl _ _⟩
    | q + 17, ho => simp at ho
  case en =>
    intro vs w2 hb2 hall
    have e16 : vs 16 = .bool d := hall 16 _ rfl
    have HB2 := Lib.hid (HB0.out.trans (hb2.mono HB0.out.size))
    simp only [fill, Act.put]
    rw [e16]
    clear hall hb2 e16
    go_simp
    go_wp2_with fail
    go_ret
    exact ⟨rfl, HB2.out⟩

set_option maxRecDepth 100000 in
set_option maxHeartbeats 4000000 in
/-- where the side has it not -/
theorem clo_no (lv : List (Int × Int)) (hlen : lv.length ≤ 1048576) (p : Option Addr) (k : Nat) (x y input : Int) (cols : Bool) (Bl Bi Bc B : Nat) (W : World)
    (h1 : W.cell? ⟨Bl, 0, none⟩ = some (.slice p lv.length k)) (h2 : W.cell? ⟨Bi, 0, none⟩ = some (.int .i64 input)) (h3 : W.cell? ⟨Bc, 0, none⟩ = some (.bool cols)) (hv : RV W B (.slice p lv.length k) lv) (hl : Bl < W.heap.size ∧ Bi < W.heap.size ∧ Bc < W.heap.size ∧ B ≤ W.heap.size)
    (ht : ∀ W : World, Calls Try.prog 57 #[.int .i64 (side (x, y) cols), .int .i64 input] W fun e w' => e = .returned (.bool false) ∧ W = w') :
    Calls Try.prog 56 #[rect x y, .pointer (some ⟨Bc, 0, none⟩), .pointer (some ⟨Bi, 0, none⟩), .pointer (some ⟨Bl, 0, none⟩)] W fun e w' => e = .returned (.bool false) ∧ Below W.heap.size W w' := by
  have HI := Lib.hid (fun wx => inputs_any x y cols wx)
  obtain ⟨s, hs⟩ : ∃ s, side (x, y) cols = s := ⟨_, rfl⟩
  rw [hs] at HI ht
  have HT := Lib.hid ht
  have HW : Hid (Sees W lv p k x y input cols W.heap.size Bl Bi Bc B (W.alloc (.cells #[.int .i64 x, .int .i64 y] 33))) := by
    obtain ⟨l1, l2, l3, l4⟩ := hl
    have hb : Below W.heap.size W (W.alloc (.cells #[.int .i64 x, .int .i64 y] 33)) := (Below.refl _ _).alloc (Nat.le_refl _) _
    have hs := hb.size
    exact ⟨heap_alloc_new W _, (hb.cell (p := ⟨Bl, 0, none⟩) l1).trans h1, (hb.cell (p := ⟨Bi, 0, none⟩) l2).trans h2, (hb.cell (p := ⟨Bc, 0, none⟩) l3).trans h3, hv.later l4 hb, by omega⟩
  have HB0 : Hid (Below W.heap.size W (W.alloc (.cells #[.int .i64 x, .int .i64 y] 33))) := (Below.refl _ _).alloc (Nat.le_refl _) _
  clear h1 h2 h3 hv hl ht hs
  go_enter Try.func56, Try.ntmps56
  go_wp2_with fail
  obtain ⟨W0, hW0⟩ : ∃ W0, W.alloc (.cells #[.int .i64 x, .int .i64 y] 33) = W0 := ⟨_, rfl⟩
  rw [hW0] at HW HB0
  first | rw [hW0] | skip
  clear hW0
  refine region_kept (C := fun wx => Below W0.heap.size W0 wx) (drew_at W0) (by kernel_rfl) (by kernel_rfl) ?_
  repeat
    (refine wq_step (fun K hK => ?_)
     go_simp
     first
       | (refine hK _ ?_; clear hK K)
       | (apply Exists.intro
          refine ⟨fun wx hC => ?_, hK _ ?_⟩
          · first
            | with_reducible rfl
            | (with_reducible exact ((HI.out wx).mono fun e w' h => ⟨h.1, hC.trans (h.2.mono hC.size)⟩))
            | (with_reducible exact ((HT.out wx).mono fun e w' h => ⟨h.1, by rw [← h.2]; exact hC⟩))
            | (have hS := HW.out.later hC; have c1 := hS.cls; have c2 := hS.inp; go_simp; first | done | rfl)
            | (have hS := HW.out.later hC; have c0 : wx.cell? ⟨W.heap.size, 0, none⟩ = some (.int .i64 x) := cell_of_row _ _ 0 _ _ _ hS.rect; have c9 : wx.cell? ⟨W.heap.size, 1, none⟩ = some (.int .i64 y) := cell_of_row _ _ 1 _ _ _ hS.rect; go_simp; first | done | rfl)
          clear hK K))
  refine wq_nil ?_
  intro w2 hC
  have HC := Lib.hid (HB0.out.trans (hC.mono HB0.out.size))
  clear hC
  go_simp
  go_wp2_with fail
  go_ret
  exact ⟨rfl, HC.out⟩
end Go.Proofs.Ytcafingoghoijaa.ChoiceC
