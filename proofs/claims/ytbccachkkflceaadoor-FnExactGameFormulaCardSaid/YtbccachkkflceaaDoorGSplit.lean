/-
  The reference's rectangles behind both bits.
-/
import Derived.Test.YtbccachkkflceaaDoorGSetW
import Derived.Test.YtbccachkkflceaaDoorGTrimT
import Derived.Test.YtbccachkkflceaaDoorRect
import Derived.Test.YtbccachkkflceaaDoorFreeN
import Derived.RegionTactic
import Derived.ChangeAlike
namespace Go.Proofs.YtbccachkkflceaaDoor.Split
open Go.RowKit Go.Shelf Go.Proofs.YtbccachkkflceaaDoor.Plain Go.Proofs.YtbccachkkflceaaDoor.Tree Go.Proofs.YtbccachkkflceaaDoor.Hex Go.Proofs.YtbccachkkflceaaDoor.Read Go.Proofs.YtbccachkkflceaaDoor.Parts Go.Proofs.YtbccachkkflceaaDoor.SetW Go.Proofs.YtbccachkkflceaaDoor.TrimT Go.Proofs.YtbccachkkflceaaDoor.Rect Go.Proofs.YtbccachkkflceaaDoor.FreeL
open Go.Proofs.YtbccachkkflceaaDoor.Free (fill wp_value wp_enter wp_load_row freeB)
open Go.Proofs.YtbccachkkflceaaDoor.FreeN (wp_region_apart)
set_option linter.unusedVariables false
set_option linter.unusedSimpArgs false

theorem eval_get {a : Act} {d : Tmp} {v : Value} (h : a.tmps[d]?.getD undef = v) : a.eval (.tmp d) = v := by
  rw [← h]
  show a.tmps.getD d undef = _
  simp [Array.getD_eq_getD_getElem?]
theorem wp_skip {P : Program} {o : Oper} {a : Act} {w w' : World} {K : Act → World → Prop} {Q : Exit → Act → World → Prop} (h : (execOp a.eval o).run P w = .ok .skip w') (hK : K (a.put o.dst undef) w') : o.wp P a w K Q := by
  unfold Oper.wp
  rw [h]
  exact hK
def row (x y : Nat) : Array Value := #[.int .i64 (x : Int), .int .i64 (y : Int)]
theorem cells2 {w : World} {b : Nat} {c0 c1 : Value} {ty : TypeId} (h : w.heap[b]? = some (.cells #[c0, c1] ty (0, 0))) : w.cell? ⟨b, 0, none⟩ = some c0 ∧ w.cell? ⟨b, 1, none⟩ = some c1 ∧ w.frozen? ⟨b, 0, none⟩ = false ∧ w.frozen? ⟨b, 1, none⟩ = false :=
  ⟨cell_of_row _ _ 0 _ _ _ h, cell_of_row _ _ 1 _ _ _ h, frozen_of_row _ _ _ _ _ h, frozen_of_row _ _ _ _ _ h⟩
theorem info_rect (x y : Value) : (Tryd.prog.info? 33).map (·.size) = some (#[x, y] : Array Value).size := by kernel_rfl
theorem one_rect (x y : Int) : (#[.int .i64 x, .int .i64 y] : Array Value).all (·.oneCell') = true := by simp [Value.oneCell']
/-- the blocks of a call: the argument, both results, both rectangles -/
structure Sp (w wr : World) (B g1 g2 R C x1 x2 y1 y2 : Nat) : Prop where
  arg : wr.heap[B]? = some (.cells #[.int .i64 (R : Int), .int .i64 (C : Int)] 33 (0, 0))
  r1 : wr.heap[B + 1]? = some (.cells #[.int .i64 0, .int .i64 0] 33 (0, 0))
  r2 : wr.heap[B + 2]? = some (.cells #[.int .i64 0, .int .i64 0] 33 (0, 0))
  z : wr.heap[g1]? = some (.cells #[.int .i64 (x1 : Int), .int .i64 (x2 : Int)] 33 (0, 0))
  o : wr.heap[g2]? = some (.cells #[.int .i64 (y1 : Int), .int .i64 (y2 : Int)] 33 (0, 0))
  below : Below w.heap.size w wr
  apart : g1 ≠ g2 ∧ B + 3 ≤ g1 ∧ B + 3 ≤ g2 ∧ w.heap.size = B
theorem Sp.later {w wr w2 : World} {B g1 g2 R C x1 x2 y1 y2 : Nat} (h : Sp w wr B g1 g2 R C x1 x2 y1 y2) (hb : Below wr.heap.size wr w2) : Sp w w2 B g1 g2 R C x1 x2 y1 y2 :=
  have k : ∀ {g : Nat} {o : Obj}, wr.heap[g]? = some o → w2.heap[g]? = some o := fun e => (hb.block _ (Array.getElem?_eq_some_iff.1 e).1).trans e
  ⟨k h.arg, k h.r1, k h.r2, k h.z, k h.o, h.below.trans (hb.mono h.below.size), h.apart⟩
theorem set_other {w : World} {B k i : Nat} {v : Value} (h : k ≠ B) : (w.setCell ⟨B, i, none⟩ v).heap[k]? = w.heap[k]? := by
  simp only [World.setCell, Array.getElem?_modify]
  rw [if_neg (by omega)]
theorem set_row {w : World} {g : Nat} {c0 c1 v : Value} (i : Nat) (h : w.heap[g]? = some (.cells #[c0, c1] 33 (0, 0))) : (w.setCell ⟨g, i, none⟩ v).heap[g]? = some (.cells (#[c0, c1].setIfInBounds i v) 33 (0, 0)) := by
  simp [World.setCell, Array.getElem?_modify, h]
theorem set_below {b : Nat} {w w1 : World} {B i : Nat} {v : Value} (h : Below b w w1) (hB : b ≤ B) : Below b w (w1.setCell ⟨B, i, none⟩ v) :=
  h.trans ⟨rfl, rfl, rfl, by simp [World.setCell], fun k hk => set_other (by omega)⟩
theorem Sp.z0 {w wr : World} {B g1 g2 R C x1 x2 y1 y2 : Nat} (h : Sp w wr B g1 g2 R C x1 x2 y1 y2) (m : Nat) : Sp w (wr.setCell ⟨g1, 0, none⟩ (.int .i64 (m : Int))) B g1 g2 R C m x2 y1 y2 :=
  ⟨(set_other (by have := h.apart; omega)).trans h.arg, (set_other (by have := h.apart; omega)).trans h.r1, (set_other (by have := h.apart; omega)).trans h.r2, (set_row 0 h.z), ((set_other (Ne.symm h.apart.1)).trans h.o), set_below h.below (by have := h.apart; omega), h.apart⟩
theorem Sp.z1 {w wr : World} {B g1 g2 R C x1 x2 y1 y2 : Nat} (h : Sp w wr B g1 g2 R C x1 x2 y1 y2) (m : Nat) : Sp w (wr.setCell ⟨g1, 1, none⟩ (.int .i64 (m : Int))) B g1 g2 R C x1 m y1 y2 :=
  ⟨(set_other (by have := h.apart; omega)).trans h.arg, (set_other (by have := h.apart; omega)).trans h.r1, (set_other (by have := h.apart; omega)).trans h.r2, (set_row 1 h.z), ((set_other (Ne.symm h.apart.1)).trans h.o), set_below h.below (by have := h.apart; omega), h.apart⟩
theorem Sp.o0 {w wr : World} {B g1 g2 R C x1 x2 y1 y2 : Nat} (h : Sp w wr B g1 g2 R C x1 x2 y1 y2) (m : Nat) : Sp w (wr.setCell ⟨g2, 0, none⟩ (.int .i64 (m : Int))) B g1 g2 R C x1 x2 m y2 :=
  ⟨(set_other (by have := h.apart; omega)).trans h.arg, (set_other (by have := h.apart; omega)).trans h.r1, (set_other (by have := h.apart; omega)).trans h.r2, ((set_other h.apart.1).trans h.z), (set_row 0 h.o), set_below h.below (by have := h.apart; omega), h.apart⟩
theorem Sp.o1 {w wr : World} {B g1 g2 R C x1 x2 y1 y2 : Nat} (h : Sp w wr B g1 g2 R C x1 x2 y1 y2) (m : Nat) : Sp w (wr.setCell ⟨g2, 1, none⟩ (.int .i64 (m : Int))) B g1 g2 R C x1 x2 y1 m :=
  ⟨(set_other (by have := h.apart; omega)).trans h.arg, (set_other (by have := h.apart; omega)).trans h.r1, (set_other (by have := h.apart; omega)).trans h.r2, ((set_other h.apart.1).trans h.z), (set_row 1 h.o), set_below h.below (by have := h.apart; omega), h.apart⟩

set_option maxHeartbeats 8000000 in
set_option maxRecDepth 100000 in
theorem split_said (a : Bool) (v : Nat) (z o : T) (hv : v < 256) (st : ByteArray) (h : st.data.toList = text (.say a v z o)) (hs : st.size ≤ 1048576) (R C : Nat) (hR : R < 256) (hC : C < 256) (w : World) :
    Calls Tryd.prog 48 #[.string st, rect R C] w fun e w' => e = .returned (.tuple #[rect (outR a v R) (outC a v C), rect (inR a v R) (inC a v C)]) ∧ Below w.heap.size w w' := by
  have HS := Lib.hid (set_said a v z o hv st h hs)
  obtain ⟨hk, hx0⟩ := at_drop (s := st) (k := 0) (c := whoB a) (r := hexD (v / 16) :: hexD (v % 16) :: (text z ++ text o)) (by rw [List.drop_zero, h]; rfl)
  have hn : (st[0]'hk).toNat = (whoB a).toNat := by rw [hx0]
  have HN := Lib.hid hn
  obtain ⟨B, hB⟩ : ∃ B, w.heap.size = B := ⟨_, rfl⟩
  have HBB := Lib.hid hB
  have a1 := bit_minus R v hR
  have a2 := bit_and R v hR
  have a3 := bit_minus C v hC
  have a4 := bit_and C v hC
  have HA := Lib.hid (And.intro (And.intro a1 a2) (And.intro a3 a4))
  clear h hx0 hn a1 a2 a3 a4 hs hv
  go_enter Tryd.func48, Tryd.ntmps48
  go_wp2_with fail
  obtain ⟨W1, hW1⟩ : ∃ W1, ((w.alloc (.cells #[.int .i64 (R : Int), .int .i64 (C : Int)] 33)).alloc (.cells #[.int .i64 0, .int .i64 0] 33)).alloc (.cells #[.int .i64 0, .int .i64 0] 33) = W1 := ⟨_, rfl⟩
  rw [hW1]
  have H0 : Hid (W1.heap.size = B + 3 ∧ Below w.heap.size w W1 ∧ W1.heap[B]? = some (.cells #[.int .i64 (R : Int), .int .i64 (C : Int)] 33 (0, 0)) ∧ W1.heap[B + 1]? = some (.cells #[.int .i64 0, .int .i64 0] 33 (0, 0)) ∧ W1.heap[B + 2]? = some (.cells #[.int .i64 0, .int .i64 0] 33 (0, 0))) := by
    show _ ∧ _ ∧ _ ∧ _ ∧ _
    rw [← hW1, ← HBB.out]
    have b0 := Below.refl w.heap.size w
    have b1 := b0.alloc b0.size (.cells #[.int .i64 (R : Int), .int .i64 (C : Int)] 33)
    have b2 := b1.alloc b1.size (.cells #[.int .i64 0, .int .i64 0] 33)
    have b3 := b2.alloc b2.size (.cells #[.int .i64 0, .int .i64 0] 33)
    have n0 := heap_alloc_new w (.cells #[.int .i64 (R : Int), .int .i64 (C : Int)] 33)
    have n1 := heap_alloc_new (w.alloc (.cells #[.int .i64 (R : Int), .int .i64 (C : Int)] 33)) (.cells #[.int .i64 0, .int .i64 0] 33)
    have n2 := heap_alloc_new ((w.alloc (.cells #[.int .i64 (R : Int), .int .i64 (C : Int)] 33)).alloc (.cells #[.int .i64 0, .int .i64 0] 33)) (.cells #[.int .i64 0, .int .i64 0] 33)
    have m0 := (Array.getElem?_eq_some_iff.1 n0).1
    have k0 := (heap_alloc_old (w.alloc (.cells #[.int .i64 (R : Int), .int .i64 (C : Int)] 33)) (.cells #[.int .i64 0, .int .i64 0] 33) m0).trans n0
    have m0' := (Array.getElem?_eq_some_iff.1 k0).1
    have k0' := (heap_alloc_old ((w.alloc (.cells #[.int .i64 (R : Int), .int .i64 (C : Int)] 33)).alloc (.cells #[.int .i64 0, .int .i64 0] 33)) (.cells #[.int .i64 0, .int .i64 0] 33) m0').trans k0
    have m1 := (Array.getElem?_eq_some_iff.1 n1).1
    have k1 := (heap_alloc_old ((w.alloc (.cells #[.int .i64 (R : Int), .int .i64 (C : Int)] 33)).alloc (.cells #[.int .i64 0, .int .i64 0] 33)) (.cells #[.int .i64 0, .int .i64 0] 33) m1).trans n1
    rw [show (w.alloc (.cells #[.int .i64 (R : Int), .int .i64 (C : Int)] 33)).heap.size = w.heap.size + 1 by simp] at k1
    rw [show ((w.alloc (.cells #[.int .i64 (R : Int), .int .i64 (C : Int)] 33)).alloc (.cells #[.int .i64 0, .int .i64 0] 33)).heap.size = w.heap.size + 2 by simp] at n2
    exact ⟨by simp, b3, k0', k1, n2⟩
  clear hW1 hB
  have HM0 : Hid (∀ wx : World, Below W1.heap.size W1 wx → wx.heap[B]? = some (.cells #[.int .i64 (R : Int), .int .i64 (C : Int)] 33 (0, 0))) := fun wx h => (h.block _ (Array.getElem?_eq_some_iff.1 H0.out.2.2.1).1).trans H0.out.2.2.1
  refine wp_region_apart (fun | 0 => rect R C | 1 => rect R C | _ => undef) _ 2 3 4 5 6 7 33 #[.int .i64 0, .int .i64 0] #[.int .i64 (R : Int), .int .i64 (C : Int)] #[.int .i64 (R : Int), .int .i64 (C : Int)] _ _ _ _
    (by kernel_rfl) (by kernel_rfl) rfl rfl rfl rfl rfl rfl rfl rfl rfl rfl (by decide) (by decide) ⟨⟨2, .data⟩, (by simp), rfl, rfl⟩ ⟨⟨3, .data⟩, (by simp), rfl, rfl⟩ ?oth rfl rfl ?al1 ?al2 ?st1 ?st2 ?con ?en
  case oth =>
    intro i o ho hk
    match i, ho, hk with
    | 0, ho, _ => obtain rfl := Option.some.inj ho; exact ⟨by decide, by decide⟩
    | 1, ho, _ => obtain rfl := Option.some.inj ho; exact ⟨by decide, by decide⟩
    | 2, _, hk => exact absurd hk (by decide)
    | 3, _, hk => exact absurd hk (by decide)
    | 4, _, hk => exact absurd hk (by decide)
    | 5, _, hk => exact absurd hk (by decide)
    | q + 6, ho, _ => simp at ho
  case al1 =>
    intro a w
    unfold execOp
    go_simp
  case al2 =>
    intro a w
    unfold execOp
    go_simp
  case st1 =>
    intro a w1 b old hf hp hg ho
    have e8 : a.tmps[8]?.getD undef = rect R C := hf.1 ⟨0, .data⟩ (by simp) rfl _ 8 rfl rfl rfl
    exact wp_store_row 33 (.tmp 6) (.tmp 8) rfl b #[.int .i64 (R : Int), .int .i64 (C : Int)] (eval_get (by rw [hp]; rfl)) (eval_get e8) 33 old hg (info_rect _ _) (by rcases ho with rfl | rfl <;> rfl) (one_rect _ _) ⟨rfl, rfl⟩
  case st2 =>
    intro a w1 b old hf hp hg ho
    have e9 : a.tmps[9]?.getD undef = rect R C := hf.1 ⟨1, .data⟩ (by simp) rfl _ 9 rfl rfl rfl
    exact wp_store_row 33 (.tmp 7) (.tmp 9) rfl b #[.int .i64 (R : Int), .int .i64 (C : Int)] (eval_get (by rw [hp]; rfl)) (eval_get e9) 33 old hg (info_rect _ _) (by rcases ho with rfl | rfl <;> rfl) (one_rect _ _) ⟨rfl, rfl⟩
  case con =>
    intro i o ho hk a w2 hb2 hf
    match i, ho, hk with
    | 0, ho, _ =>
      obtain rfl := Option.some.inj ho
      have b3 : a.tmps[3]?.getD undef = .pointer (some ⟨B, 0, none⟩) := hf.2 3 (by kernel_rfl)
      exact wp_load_row 33 (.tmp 3) rfl B (eval_get b3) 33 _ (0, 0) _ (HM0.out w2 hb2) Tryd.underlying33 rfl (info_rect _ _) ⟨rfl, Below.refl _ _⟩
    | 1, ho, _ =>
      obtain rfl := Option.some.inj ho
      have b3 : a.tmps[3]?.getD undef = .pointer (some ⟨B, 0, none⟩) := hf.2 3 (by kernel_rfl)
      exact wp_load_row 33 (.tmp 3) rfl B (eval_get b3) 33 _ (0, 0) _ (HM0.out w2 hb2) Tryd.underlying33 rfl (info_rect _ _) ⟨rfl, Below.refl _ _⟩
    | 2, _, hk => exact absurd hk (by decide)
    | 3, _, hk => exact absurd hk (by decide)
    | 4, _, hk => exact absurd hk (by decide)
    | 5, _, hk => exact absurd hk (by decide)
    | q + 6, ho, _ => simp at ho
  intro g1 g2 w5 hb5 l1 l2 x1 x2 hap
  have HT : Hid (Sp w w5 B g1 g2 R C R C R C) := by
    obtain ⟨s0, s1, s2, s3, s4⟩ := H0.out
    have k : ∀ {g : Nat} {o : Obj}, W1.heap[g]? = some o → w5.heap[g]? = some o := fun e => (hb5.block _ (Array.getElem?_eq_some_iff.1 e).1).trans e
    exact ⟨k s2, k s3, k s4, x1, x2, s1.trans (hb5.mono s1.size), hap, by omega, by omega, HBB.out⟩
  clear hb5 l1 l2 x1 x2 hap HM0 H0
  simp only [fill, Act.put]
  go_simp
  cases a
  · have hn : (st[0]'hk).toNat = 66 := HN.out
    go_wp2_with fail
    refine wp_region_last (fun | 0 => .pointer (some ⟨B, 1, none⟩) | 1 => .int .i64 (C : Int) | 2 => .string st | 3 => .int .i64 (v : Int) | 4 => .int .i64 (minusN C v : Int) | 5 => .pointer (some ⟨g1, 1, none⟩) | _ => undef) 6 (fun wx => wx.setCell ⟨g1, 1, none⟩ (.int .i64 (minusN C v : Int))) _ (by kernel_rfl) (by kernel_rfl) rfl rfl rfl rfl (by kernel_rfl) ?confz ?stfz ?enfz
    case confz =>
      intro i o ho hlt a wx hb hf
      match i, ho with
      | 0, ho =>
        obtain rfl := Option.some.inj ho
        have b3 : a.tmps[3]?.getD undef = .pointer (some ⟨B, 0, none⟩) := hf.2 3 (by kernel_rfl)
        exact wp_value (.pointer (some ⟨B, 1, none⟩)) (by unfold execOp; go_simp) ⟨rfl, Below.refl _ _⟩
      | 1, ho =>
        obtain rfl := Option.some.inj ho
        have e25 : a.tmps[25]?.getD undef = .pointer (some ⟨B, 1, none⟩) := hf.1 ⟨0, .data⟩ (by simp) rfl _ 25 rfl rfl
        obtain ⟨c0, c1, c2, c3⟩ := cells2 (HT.out.later hb).arg
        exact wp_value (.int .i64 (C : Int)) (by unfold execOp; go_simp) ⟨rfl, Below.refl _ _⟩
      | 2, ho =>
        obtain rfl := Option.some.inj ho
        have b0 : a.tmps[0]?.getD undef = .string st := hf.2 0 (by kernel_rfl)
        exact wp_value (.string st) (by unfold execOp; go_simp) ⟨rfl, Below.refl _ _⟩
      | 3, ho =>
        obtain rfl := Option.some.inj ho
        have e27 : a.tmps[27]?.getD undef = .string st := hf.1 ⟨2, .data⟩ (by simp) rfl _ 27 rfl rfl
        exact wp_enter 68 #[.string st] (.int .i64 (v : Int)) _ (by unfold execOp; go_simp) (HS.out wx) (fun w' h => ⟨rfl, h⟩)
      | 4, ho =>
        obtain rfl := Option.some.inj ho
        have e26 : a.tmps[26]?.getD undef = .int .i64 (C : Int) := hf.1 ⟨1, .data⟩ (by simp) rfl _ 26 rfl rfl
        have e28 : a.tmps[28]?.getD undef = .int .i64 (v : Int) := hf.1 ⟨3, .data⟩ (by simp) rfl _ 28 rfl rfl
        have q1 := HA.out.1.1; have q2 := HA.out.1.2; have q3 := HA.out.2.1; have q4 := HA.out.2.2
        exact wp_value (.int .i64 (minusN C v : Int)) (by unfold execOp; go_simp) ⟨rfl, Below.refl _ _⟩
      | 5, ho =>
        obtain rfl := Option.some.inj ho
        have b6 : a.tmps[6]?.getD undef = .pointer (some ⟨g1, 0, none⟩) := hf.2 6 (by kernel_rfl)
        exact wp_value (.pointer (some ⟨g1, 1, none⟩)) (by unfold execOp; go_simp) ⟨rfl, Below.refl _ _⟩
      | 6, ho => exact absurd hlt (by omega)
      | q + 7, ho => simp at ho
    case stfz =>
      intro a wx hb hf
      have e29 : a.tmps[29]?.getD undef = .int .i64 (minusN C v : Int) := hf.1 ⟨4, .data⟩ (by simp) rfl _ 29 rfl rfl
      have e30 : a.tmps[30]?.getD undef = .pointer (some ⟨g1, 1, none⟩) := hf.1 ⟨5, .data⟩ (by simp) rfl _ 30 rfl rfl
      obtain ⟨c0, c1, c2, c3⟩ := cells2 (HT.out.later hb).z
      exact wp_skip (by unfold execOp; go_simp) ⟨rfl, rfl⟩
    intro w6 hb6
    have HT2 := Lib.hid ((HT.out.later hb6).z1 (minusN C v))
    clear hb6 HT
    simp only [fill, Act.put]
    go_simp
    generalize w6.setCell ⟨g1, 1, none⟩ (.int .i64 (minusN C v : Int)) = w7 at *
    have HT := Lib.hid HT2.out
    clear HT2
    go_wp2_with fail
    refine wp_region_last (fun | 0 => .pointer (some ⟨B, 1, none⟩) | 1 => .int .i64 (C : Int) | 2 => .string st | 3 => .int .i64 (v : Int) | 4 => .int .i64 (meetN C v : Int) | 5 => .pointer (some ⟨g2, 1, none⟩) | _ => undef) 6 (fun wx => wx.setCell ⟨g2, 1, none⟩ (.int .i64 (meetN C v : Int))) _ (by kernel_rfl) (by kernel_rfl) rfl rfl rfl rfl (by kernel_rfl) ?confo ?stfo ?enfo
    case confo =>
      intro i o ho hlt a wx hb hf
      match i, ho with
      | 0, ho =>
        obtain rfl := Option.some.inj ho
        have b3 : a.tmps[3]?.getD undef = .pointer (some ⟨B, 0, none⟩) := hf.2 3 (by kernel_rfl)
        exact wp_value (.pointer (some ⟨B, 1, none⟩)) (by unfold execOp; go_simp) ⟨rfl, Below.refl _ _⟩
      | 1, ho =>
        obtain rfl := Option.some.inj ho
        have e31 : a.tmps[31]?.getD undef = .pointer (some ⟨B, 1, none⟩) := hf.1 ⟨0, .data⟩ (by simp) rfl _ 31 rfl rfl
        obtain ⟨c0, c1, c2, c3⟩ := cells2 (HT.out.later hb).arg
        exact wp_value (.int .i64 (C : Int)) (by unfold execOp; go_simp) ⟨rfl, Below.refl _ _⟩
      | 2, ho =>
        obtain rfl := Option.some.inj ho
        have b0 : a.tmps[0]?.getD undef = .string st := hf.2 0 (by kernel_rfl)
        exact wp_value (.string st) (by unfold execOp; go_simp) ⟨rfl, Below.refl _ _⟩
      | 3, ho =>
        obtain rfl := Option.some.inj ho
        have e33 : a.tmps[33]?.getD undef = .string st := hf.1 ⟨2, .data⟩ (by simp) rfl _ 33 rfl rfl
        exact wp_enter 68 #[.string st] (.int .i64 (v : Int)) _ (by unfold execOp; go_simp) (HS.out wx) (fun w' h => ⟨rfl, h⟩)
      | 4, ho =>
        obtain rfl := Option.some.inj ho
        have e32 : a.tmps[32]?.getD undef = .int .i64 (C : Int) := hf.1 ⟨1, .data⟩ (by simp) rfl _ 32 rfl rfl
        have e34 : a.tmps[34]?.getD undef = .int .i64 (v : Int) := hf.1 ⟨3, .data⟩ (by simp) rfl _ 34 rfl rfl
        have q1 := HA.out.1.1; have q2 := HA.out.1.2; have q3 := HA.out.2.1; have q4 := HA.out.2.2
        exact wp_value (.int .i64 (meetN C v : Int)) (by unfold execOp; go_simp) ⟨rfl, Below.refl _ _⟩
      | 5, ho =>
        obtain rfl := Option.some.inj ho
        have b7 : a.tmps[7]?.getD undef = .pointer (some ⟨g2, 0, none⟩) := hf.2 7 (by kernel_rfl)
        exact wp_value (.pointer (some ⟨g2, 1, none⟩)) (by unfold execOp; go_simp) ⟨rfl, Below.refl _ _⟩
      | 6, ho => exact absurd hlt (by omega)
      | q + 7, ho => simp at ho
    case stfo =>
      intro a wx hb hf
      have e35 : a.tmps[35]?.getD undef = .int .i64 (meetN C v : Int) := hf.1 ⟨4, .data⟩ (by simp) rfl _ 35 rfl rfl
      have e36 : a.tmps[36]?.getD undef = .pointer (some ⟨g2, 1, none⟩) := hf.1 ⟨5, .data⟩ (by simp) rfl _ 36 rfl rfl
      obtain ⟨c0, c1, c2, c3⟩ := cells2 (HT.out.later hb).o
      exact wp_skip (by unfold execOp; go_simp) ⟨rfl, rfl⟩
    intro w6 hb6
    have HT2 := Lib.hid ((HT.out.later hb6).o1 (meetN C v))
    clear hb6 HT
    simp only [fill, Act.put]
    go_simp
    generalize w6.setCell ⟨g2, 1, none⟩ (.int .i64 (meetN C v : Int)) = w7 at *
    have HT := Lib.hid HT2.out
    clear HT2
    go_wp2_with fail
    have hap := HT.out.apart
    obtain ⟨z0, z1, z2, z3⟩ := cells2 HT.out.z
    obtain ⟨o0, o1, o2, o3⟩ := cells2 HT.out.o
    obtain ⟨p0, p1, p2, p3⟩ := cells2 HT.out.r1
    obtain ⟨q0, q1, q2, q3⟩ := cells2 HT.out.r2
    have hg1 : g1 ≠ B + 1 := by omega
    have hg2 : g2 ≠ B + 1 := by omega
    have hg3 : g1 ≠ B + 2 := by omega
    have hg4 : g2 ≠ B + 2 := by omega
    have HBL : Hid (Below w.heap.size w w7 ∧ w.heap.size = B) := ⟨HT.out.below, hap.2.2.2⟩
    have HR1 := Lib.hid HT.out.r1
    have HR2 : Hid (w7.heap[B + 1 + 1]? = some (.cells #[.int .i64 0, .int .i64 0] 33 (0, 0))) := HT.out.r2
    clear HT hap HS HA HN
    go_region
    obtain ⟨W8, hW8⟩ : ∃ W8, (((((w7.setCell ⟨B + 1, 0, none⟩ (.int .i64 (R : Nat))).setCell ⟨B + 1, 1, none⟩ (.int .i64 (minusN C v : Nat))).setCell ⟨B + 1 + 1, 0, none⟩ (.int .i64 (R : Nat))).setCell ⟨B + 1 + 1, 1, none⟩ (.int .i64 (meetN C v : Nat))).drew) = W8 := ⟨_, rfl⟩
    rw [hW8]
    have HF : Hid (Below w.heap.size w W8 ∧ W8.heap[B + 1]? = some (.cells #[.int .i64 (R : Nat), .int .i64 (minusN C v : Nat)] 33 (0, 0)) ∧ W8.heap[B + 1 + 1]? = some (.cells #[.int .i64 (R : Nat), .int .i64 (meetN C v : Nat)] 33 (0, 0))) := by
      show _ ∧ _ ∧ _
      rw [← hW8]
      obtain ⟨b0, bB⟩ := HBL.out
      have l1 : w.heap.size ≤ B + 1 := by omega
      have l2 : w.heap.size ≤ B + 1 + 1 := by omega
      refine ⟨Below.drew (set_below (set_below (set_below (set_below b0 l1) l1) l2) l2), ?_, ?_⟩
      · exact (set_other (by omega)).trans ((set_other (by omega)).trans (set_row 1 (set_row 0 HR1.out)))
      · exact set_row 1 (set_row 0 ((set_other (by omega)).trans ((set_other (by omega)).trans HR2.out)))
    clear hW8 HR1 HR2 HBL z0 z1 z2 z3 o0 o1 o2 o3 p0 p1 p2 p3 q0 q1 q2 q3
    obtain ⟨p0, p1, p2, p3⟩ := cells2 HF.out.2.1
    obtain ⟨q0, q1, q2, q3⟩ := cells2 HF.out.2.2
    go_wp2_with fail
    refine bodyPost_ret (v := .tuple #[rect (R : Nat) (minusN C v : Nat), rect (R : Nat) (meetN C v : Nat)]) (by simp [results, Tryd.results48, go_sem, p0, p1, q0, q1]) rfl ⟨rfl, HF.out.1⟩
  · have hn : (st[0]'hk).toNat = 65 := HN.out
    go_wp2_with fail
    refine wp_region_last (fun | 0 => .pointer (some ⟨B, 0, none⟩) | 1 => .int .i64 (R : Int) | 2 => .string st | 3 => .int .i64 (v : Int) | 4 => .int .i64 (minusN R v : Int) | 5 => .pointer (some ⟨g1, 0, none⟩) | _ => undef) 6 (fun wx => wx.setCell ⟨g1, 0, none⟩ (.int .i64 (minusN R v : Int))) _ (by kernel_rfl) (by kernel_rfl) rfl rfl rfl rfl (by kernel_rfl) ?contz ?sttz ?entz
    case contz =>
      intro i o ho hlt a wx hb hf
      match i, ho with
      | 0, ho =>
        obtain rfl := Option.some.inj ho
        have b3 : a.tmps[3]?.getD undef = .pointer (some ⟨B, 0, none⟩) := hf.2 3 (by kernel_rfl)
        exact wp_value (.pointer (some ⟨B, 0, none⟩)) (by unfold execOp; go_simp) ⟨rfl, Below.refl _ _⟩
      | 1, ho =>
        obtain rfl := Option.some.inj ho
        have e13 : a.tmps[13]?.getD undef = .pointer (some ⟨B, 0, none⟩) := hf.1 ⟨0, .data⟩ (by simp) rfl _ 13 rfl rfl
        obtain ⟨c0, c1, c2, c3⟩ := cells2 (HT.out.later hb).arg
        exact wp_value (.int .i64 (R : Int)) (by unfold execOp; go_simp) ⟨rfl, Below.refl _ _⟩
      | 2, ho =>
        obtain rfl := Option.some.inj ho
        have b0 : a.tmps[0]?.getD undef = .string st := hf.2 0 (by kernel_rfl)
        exact wp_value (.string st) (by unfold execOp; go_simp) ⟨rfl, Below.refl _ _⟩
      | 3, ho =>
        obtain rfl := Option.some.inj ho
        have e15 : a.tmps[15]?.getD undef = .string st := hf.1 ⟨2, .data⟩ (by simp) rfl _ 15 rfl rfl
        exact wp_enter 68 #[.string st] (.int .i64 (v : Int)) _ (by unfold execOp; go_simp) (HS.out wx) (fun w' h => ⟨rfl, h⟩)
      | 4, ho =>
        obtain rfl := Option.some.inj ho
        have e14 : a.tmps[14]?.getD undef = .int .i64 (R : Int) := hf.1 ⟨1, .data⟩ (by simp) rfl _ 14 rfl rfl
        have e16 : a.tmps[16]?.getD undef = .int .i64 (v : Int) := hf.1 ⟨3, .data⟩ (by simp) rfl _ 16 rfl rfl
        have q1 := HA.out.1.1; have q2 := HA.out.1.2; have q3 := HA.out.2.1; have q4 := HA.out.2.2
        exact wp_value (.int .i64 (minusN R v : Int)) (by unfold execOp; go_simp) ⟨rfl, Below.refl _ _⟩
      | 5, ho =>
        obtain rfl := Option.some.inj ho
        have b6 : a.tmps[6]?.getD undef = .pointer (some ⟨g1, 0, none⟩) := hf.2 6 (by kernel_rfl)
        exact wp_value (.pointer (some ⟨g1, 0, none⟩)) (by unfold execOp; go_simp) ⟨rfl, Below.refl _ _⟩
      | 6, ho => exact absurd hlt (by omega)
      | q + 7, ho => simp at ho
    case sttz =>
      intro a wx hb hf
      have e17 : a.tmps[17]?.getD undef = .int .i64 (minusN R v : Int) := hf.1 ⟨4, .data⟩ (by simp) rfl _ 17 rfl rfl
      have e18 : a.tmps[18]?.getD undef = .pointer (some ⟨g1, 0, none⟩) := hf.1 ⟨5, .data⟩ (by simp) rfl _ 18 rfl rfl
      obtain ⟨c0, c1, c2, c3⟩ := cells2 (HT.out.later hb).z
      exact wp_skip (by unfold execOp; go_simp) ⟨rfl, rfl⟩
    intro w6 hb6
    have HT2 := Lib.hid ((HT.out.later hb6).z0 (minusN R v))
    clear hb6 HT
    simp only [fill, Act.put]
    go_simp
    generalize w6.setCell ⟨g1, 0, none⟩ (.int .i64 (minusN R v : Int)) = w7 at *
    have HT := Lib.hid HT2.out
    clear HT2
    go_wp2_with fail
    refine wp_region_last (fun | 0 => .pointer (some ⟨B, 0, none⟩) | 1 => .int .i64 (R : Int) | 2 => .string st | 3 => .int .i64 (v : Int) | 4 => .int .i64 (meetN R v : Int) | 5 => .pointer (some ⟨g2, 0, none⟩) | _ => undef) 6 (fun wx => wx.setCell ⟨g2, 0, none⟩ (.int .i64 (meetN R v : Int))) _ (by kernel_rfl) (by kernel_rfl) rfl rfl rfl rfl (by kernel_rfl) ?conto ?stto ?ento
    case conto =>
      intro i o ho hlt a wx hb hf
      match i, ho with
      | 0, ho =>
        obtain rfl := Option.some.inj ho
        have b3 : a.tmps[3]?.getD undef = .pointer (some ⟨B, 0, none⟩) := hf.2 3 (by kernel_rfl)
        exact wp_value (.pointer (some ⟨B, 0, none⟩)) (by unfold execOp; go_simp) ⟨rfl, Below.refl _ _⟩
      | 1, ho =>
        obtain rfl := Option.some.inj ho
        have e19 : a.tmps[19]?.getD undef = .pointer (some ⟨B, 0, none⟩) := hf.1 ⟨0, .data⟩ (by simp) rfl _ 19 rfl rfl
        obtain ⟨c0, c1, c2, c3⟩ := cells2 (HT.out.later hb).arg
        exact wp_value (.int .i64 (R : Int)) (by unfold execOp; go_simp) ⟨rfl, Below.refl _ _⟩
      | 2, ho =>
        obtain rfl := Option.some.inj ho
        have b0 : a.tmps[0]?.getD undef = .string st := hf.2 0 (by kernel_rfl)
        exact wp_value (.string st) (by unfold execOp; go_simp) ⟨rfl, Below.refl _ _⟩
      | 3, ho =>
        obtain rfl := Option.some.inj ho
        have e21 : a.tmps[21]?.getD undef = .string st := hf.1 ⟨2, .data⟩ (by simp) rfl _ 21 rfl rfl
        exact wp_enter 68 #[.string st] (.int .i64 (v : Int)) _ (by unfold execOp; go_simp) (HS.out wx) (fun w' h => ⟨rfl, h⟩)
      | 4, ho =>
        obtain rfl := Option.some.inj ho
        have e20 : a.tmps[20]?.getD undef = .int .i64 (R : Int) := hf.1 ⟨1, .data⟩ (by simp) rfl _ 20 rfl rfl
        have e22 : a.tmps[22]?.getD undef = .int .i64 (v : Int) := hf.1 ⟨3, .data⟩ (by simp) rfl _ 22 rfl rfl
        have q1 := HA.out.1.1; have q2 := HA.out.1.2; have q3 := HA.out.2.1; have q4 := HA.out.2.2
        exact wp_value (.int .i64 (meetN R v : Int)) (by unfold execOp; go_simp) ⟨rfl, Below.refl _ _⟩
      | 5, ho =>
        obtain rfl := Option.some.inj ho
        have b7 : a.tmps[7]?.getD undef = .pointer (some ⟨g2, 0, none⟩) := hf.2 7 (by kernel_rfl)
        exact wp_value (.pointer (some ⟨g2, 0, none⟩)) (by unfold execOp; go_simp) ⟨rfl, Below.refl _ _⟩
      | 6, ho => exact absurd hlt (by omega)
      | q + 7, ho => simp at ho
    case stto =>
      intro a wx hb hf
      have e23 : a.tmps[23]?.getD undef = .int .i64 (meetN R v : Int) := hf.1 ⟨4, .data⟩ (by simp) rfl _ 23 rfl rfl
      have e24 : a.tmps[24]?.getD undef = .pointer (some ⟨g2, 0, none⟩) := hf.1 ⟨5, .data⟩ (by simp) rfl _ 24 rfl rfl
      obtain ⟨c0, c1, c2, c3⟩ := cells2 (HT.out.later hb).o
      exact wp_skip (by unfold execOp; go_simp) ⟨rfl, rfl⟩
    intro w6 hb6
    have HT2 := Lib.hid ((HT.out.later hb6).o0 (meetN R v))
    clear hb6 HT
    simp only [fill, Act.put]
    go_simp
    generalize w6.setCell ⟨g2, 0, none⟩ (.int .i64 (meetN R v : Int)) = w7 at *
    have HT := Lib.hid HT2.out
    clear HT2
    go_wp2_with fail
    have hap := HT.out.apart
    obtain ⟨z0, z1, z2, z3⟩ := cells2 HT.out.z
    obtain ⟨o0, o1, o2, o3⟩ := cells2 HT.out.o
    obtain ⟨p0, p1, p2, p3⟩ := cells2 HT.out.r1
    obtain ⟨q0, q1, q2, q3⟩ := cells2 HT.out.r2
    have hg1 : g1 ≠ B + 1 := by omega
    have hg2 : g2 ≠ B + 1 := by omega
    have hg3 : g1 ≠ B + 2 := by omega
    have hg4 : g2 ≠ B + 2 := by omega
    have HBL : Hid (Below w.heap.size w w7 ∧ w.heap.size = B) := ⟨HT.out.below, hap.2.2.2⟩
    have HR1 := Lib.hid HT.out.r1
    have HR2 : Hid (w7.heap[B + 1 + 1]? = some (.cells #[.int .i64 0, .int .i64 0] 33 (0, 0))) := HT.out.r2
    clear HT hap HS HA HN
    go_region
    obtain ⟨W8, hW8⟩ : ∃ W8, (((((w7.setCell ⟨B + 1, 0, none⟩ (.int .i64 (minusN R v : Nat))).setCell ⟨B + 1, 1, none⟩ (.int .i64 (C : Nat))).setCell ⟨B + 1 + 1, 0, none⟩ (.int .i64 (meetN R v : Nat))).setCell ⟨B + 1 + 1, 1, none⟩ (.int .i64 (C : Nat))).drew) = W8 := ⟨_, rfl⟩
    rw [hW8]
    have HF : Hid (Below w.heap.size w W8 ∧ W8.heap[B + 1]? = some (.cells #[.int .i64 (minusN R v : Nat), .int .i64 (C : Nat)] 33 (0, 0)) ∧ W8.heap[B + 1 + 1]? = some (.cells #[.int .i64 (meetN R v : Nat), .int .i64 (C : Nat)] 33 (0, 0))) := by
      show _ ∧ _ ∧ _
      rw [← hW8]
      obtain ⟨b0, bB⟩ := HBL.out
      have l1 : w.heap.size ≤ B + 1 := by omega
      have l2 : w.heap.size ≤ B + 1 + 1 := by omega
      refine ⟨Below.drew (set_below (set_below (set_below (set_below b0 l1) l1) l2) l2), ?_, ?_⟩
      · exact (set_other (by omega)).trans ((set_other (by omega)).trans (set_row 1 (set_row 0 HR1.out)))
      · exact set_row 1 (set_row 0 ((set_other (by omega)).trans ((set_other (by omega)).trans HR2.out)))
    clear hW8 HR1 HR2 HBL z0 z1 z2 z3 o0 o1 o2 o3 p0 p1 p2 p3 q0 q1 q2 q3
    obtain ⟨p0, p1, p2, p3⟩ := cells2 HF.out.2.1
    obtain ⟨q0, q1, q2, q3⟩ := cells2 HF.out.2.2
    go_wp2_with fail
    refine bodyPost_ret (v := .tuple #[rect (minusN R v : Nat) (C : Nat), rect (meetN R v : Nat) (C : Nat)]) (by simp [results, Tryd.results48, go_sem, p0, p1, q0, q1]) rfl ⟨rfl, HF.out.1⟩
end Go.Proofs.YtbccachkkflceaaDoor.Split
