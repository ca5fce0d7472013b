/-
  Texts of one seat, joined: GSplit, GfS.
-/
import Derived.Test.YtbccachkkflceaaGreatDoorJn1
import Derived.Test.YtbccachkkflceaaGreatDoorJn21
import Derived.Test.YtbccachkkflceaaGreatDoorJn26
import Derived.Test.YtbccachkkflceaaGreatDoorJn6
import Derived.Test.YtbccachkkflceaaGreatDoorJn39
import Derived.RegionTactic
import Derived.ChangeAlike
import Derived.Test.YtbccachkkflceaaGreatDoorJn33
import Derived.Test.YtbccachkkflceaaGreatDoorFreeL
/-
  The reference's rectangles behind both bits.
-/
namespace Go.Proofs.YtbccachkkflceaaGreatDoor.Split
open Go.RowKit Go.Shelf Go.Proofs.YtbccachkkflceaaGreatDoor.Plain Go.Proofs.YtbccachkkflceaaGreatDoor.Tree Go.Proofs.YtbccachkkflceaaGreatDoor.Hex Go.Proofs.YtbccachkkflceaaGreatDoor.Read Go.Proofs.YtbccachkkflceaaGreatDoor.Parts Go.Proofs.YtbccachkkflceaaGreatDoor.SetW Go.Proofs.YtbccachkkflceaaGreatDoor.TrimT Go.Proofs.YtbccachkkflceaaGreatDoor.Rect Go.Proofs.YtbccachkkflceaaGreatDoor.FreeL
open Go.Proofs.YtbccachkkflceaaGreatDoor.Free (fill wp_value wp_enter wp_load_row freeB)
open Go.Proofs.YtbccachkkflceaaGreatDoor.FreeN (wp_region_apart)
set_option linter.unusedVariables false
set_option linter.unusedSimpArgs false

theorem eval_get {a : Act} {d : Tmp} {v : Value} (h : a.tmps[d]?.getD undef = v) : a.eval (.tmp d) = v := by
  rw [← h]
  show a.tmps.getD d undef = _
  simp [Array.getD_eq_getD_getElem?]
theorem wp_skip {P : Program} {o : Oper} {a : Act} {w w' : World} {K : Act → World → Prop} {Q : Exit → Act → World → Prop} (h : (execOp a.eval o).run P w = .ok .skip w') (hK : K (a.put o.dst undef) w') : o.wp P a w K Q := by
  unfold Oper.wp
  rw [h]
  exact hK
def row (x y : Nat) : Array Value := #[.int .i64 (x : Int), .int .i64 (y : Int)]
theorem cells2 {w : World} {b : Nat} {c0 c1 : Value} {ty : TypeId} (h : w.heap[b]? = some (.cells #[c0, c1] ty (0, 0))) : w.cell? ⟨b, 0, none⟩ = some c0 ∧ w.cell? ⟨b, 1, none⟩ = some c1 ∧ w.frozen? ⟨b, 0, none⟩ = false ∧ w.frozen? ⟨b, 1, none⟩ = false :=
  ⟨cell_of_row _ _ 0 _ _ _ h, cell_of_row _ _ 1 _ _ _ h, frozen_of_row _ _ _ _ _ h, frozen_of_row _ _ _ _ _ h⟩
theorem info_rect (x y : Value) : (Tryz.prog.info? 51).map (·.size) = some (#[x, y] : Array Value).size := by kernel_rfl
theorem one_rect (x y : Int) : (#[.int .i64 x, .int .i64 y] : Array Value).all (·.oneCell') = true := by simp [Value.oneCell']
/-- the blocks of a call: the argument, both results, both rectangles -/
structure Sp (w wr : World) (B g1 g2 R C x1 x2 y1 y2 : Nat) : Prop where
  arg : wr.heap[B]? = some (.cells #[.int .i64 (R : Int), .int .i64 (C : Int)] 51 (0, 0))
  r1 : wr.heap[B + 1]? = some (.cells #[.int .i64 0, .int .i64 0] 51 (0, 0))
  r2 : wr.heap[B + 2]? = some (.cells #[.int .i64 0, .int .i64 0] 51 (0, 0))
  z : wr.heap[g1]? = some (.cells #[.int .i64 (x1 : Int), .int .i64 (x2 : Int)] 51 (0, 0))
  o : wr.heap[g2]? = some (.cells #[.int .i64 (y1 : Int), .int .i64 (y2 : Int)] 51 (0, 0))
  below : Below w.heap.size w wr
  apart : g1 ≠ g2 ∧ B + 3 ≤ g1 ∧ B + 3 ≤ g2 ∧ w.heap.size = B
theorem Sp.later {w wr w2 : World} {B g1 g2 R C x1 x2 y1 y2 : Nat} (h : Sp w wr B g1 g2 R C x1 x2 y1 y2) (hb : Below wr.heap.size wr w2) : Sp w w2 B g1 g2 R C x1 x2 y1 y2 :=
  have k : ∀ {g : Nat} {o : Obj}, wr.heap[g]? = some o → w2.heap[g]? = some o := fun e => (hb.block _ (Array.getElem?_eq_some_iff.1 e).1).trans e
  ⟨k h.arg, k h.r1, k h.r2, k h.z, k h.o, h.below.trans (hb.mono h.below.size), h.apart⟩
theorem set_other {w : World} {B k i : Nat} {v : Value} (h : k ≠ B) : (w.setCell ⟨B, i, none⟩ v).heap[k]? = w.heap[k]? := by
  simp only [World.setCell, Array.getElem?_modify]
  rw [if_neg (by omega)]
theorem set_row {w : World} {g : Nat} {c0 c1 v : Value} (i : Nat) (h : w.heap[g]? = some (.cells #[c0, c1] 51 (0, 0))) : (w.setCell ⟨g, i, none⟩ v).heap[g]? = some (.cells (#[c0, c1].setIfInBounds i v) 51 (0, 0)) := by
  simp [World.setCell, Array.getElem?_modify, h]
theorem set_below {b : Nat} {w w1 : World} {B i : Nat} {v : Value} (h : Below b w w1) (hB : b ≤ B) : Below b w (w1.setCell ⟨B, i, none⟩ v) :=
  h.trans ⟨rfl, rfl, rfl, by simp [World.setCell], fun k hk => set_other (by omega)⟩
theorem Sp.z0 {w wr : World} {B g1 g2 R C x1 x2 y1 y2 : Nat} (h : Sp w wr B g1 g2 R C x1 x2 y1 y2) (m : Nat) : Sp w (wr.setCell ⟨g1, 0, none⟩ (.int .i64 (m : Int))) B g1 g2 R C m x2 y1 y2 :=
  ⟨(set_other (by have := h.apart; omega)).trans h.arg, (set_other (by have := h.apart; omega)).trans h.r1, (set_other (by have := h.apart; omega)).trans h.r2, (set_row 0 h.z), ((set_other (Ne.symm h.apart.1)).trans h.o), set_below h.below (by have := h.apart; omega), h.apart⟩
theorem Sp.z1 {w wr : World} {B g1 g2 R C x1 x2 y1 y2 : Nat} (h : Sp w wr B g1 g2 R C x1 x2 y1 y2) (m : Nat) : Sp w (wr.setCell ⟨g1, 1, none⟩ (.int .i64 (m : Int))) B g1 g2 R C x1 m y1 y2 :=
  ⟨(set_other (by have := h.apart; omega)).trans h.arg, (set_other (by have := h.apart; omega)).trans h.r1, (set_other (by have := h.apart; omega)).trans h.r2, (set_row 1 h.z), ((set_other (Ne.symm h.apart.1)).trans h.o), set_below h.below (by have := h.apart; omega), h.apart⟩
theorem Sp.o0 {w wr : World} {B g1 g2 R C x1 x2 y1 y2 : Nat} (h : Sp w wr B g1 g2 R C x1 x2 y1 y2) (m : Nat) : Sp w (wr.setCell ⟨g2, 0, none⟩ (.int .i64 (m : Int))) B g1 g2 R C x1 x2 m y2 :=
  ⟨(set_other (by have := h.apart; omega)).trans h.arg, (set_other (by have := h.apart; omega)).trans h.r1, (set_other (by have := h.apart; omega)).trans h.r2, ((set_other h.apart.1).trans h.z), (set_row 0 h.o), set_below h.below (by have := h.apart; omega), h.apart⟩
theorem Sp.o1 {w wr : World} {B g1 g2 R C x1 x2 y1 y2 : Nat} (h : Sp w wr B g1 g2 R C x1 x2 y1 y2) (m : Nat) : Sp w (wr.setCell ⟨g2, 1, none⟩ (.int .i64 (m : Int))) B g1 g2 R C x1 x2 y1 m :=
  ⟨(set_other (by have := h.apart; omega)).trans h.arg, (set_other (by have := h.apart; omega)).trans h.r1, (set_other (by have := h.apart; omega)).trans h.r2, ((set_other h.apart.1).trans h.z), (set_row 1 h.o), set_below h.below (by have := h.apart; omega), h.apart⟩

set_option maxHeartbeats 8000000 in
set_option maxRecDepth 100000 in
theorem split_said (a : Bool) (v : Nat) (z o : T) (hv : v < 256) (st : ByteArray) (h : st.data.toList = text (.say a v z o)) (hs : st.size ≤ 1048576) (R C : Nat) (hR : R < 256) (hC : C < 256) (w : World) :
    Calls Tryz.prog 72 #[.string st, rect R C] w fun e w' => e = .returned (.tuple #[rect (outR a v R) (outC a v C), rect (inR a v R) (inC a v C)]) ∧ Below w.heap.size w w' := by
  have HS := Lib.hid (set_said a v z o hv st h hs)
  obtain ⟨hk, hx0⟩ := at_drop (s := st) (k := 0) (c := whoB a) (r := hexD (v / 16) :: hexD (v % 16) :: (text z ++ text o)) (by rw [List.drop_zero, h]; rfl)
  have hn : (st[0]'hk).toNat = (whoB a).toNat := by rw [hx0]
  have HN := Lib.hid hn
  obtain ⟨B, hB⟩ : ∃ B, w.heap.size = B := ⟨_, rfl⟩
  have HBB := Lib.hid hB
  have a1 := bit_minus R v hR
  have a2 := bit_and R v hR
  have a3 := bit_minus C v hC
  have a4 := bit_and C v hC
  have HA := Lib.hid (And.intro (And.intro a1 a2) (And.intro a3 a4))
  clear h hx0 hn a1 a2 a3 a4 hs hv
  go_enter Tryz.func72, Tryz.ntmps72
  go_wp2_with fail
  obtain ⟨W1, hW1⟩ : ∃ W1, ((w.alloc (.cells #[.int .i64 (R : Int), .int .i64 (C : Int)] 51)).alloc (.cells #[.int .i64 0, .int .i64 0] 51)).alloc (.cells #[.int .i64 0, .int .i64 0] 51) = W1 := ⟨_, rfl⟩
  rw [hW1]
  have H0 : Hid (W1.heap.size = B + 3 ∧ Below w.heap.size w W1 ∧ W1.heap[B]? = some (.cells #[.int .i64 (R : Int), .int .i64 (C : Int)] 51 (0, 0)) ∧ W1.heap[B + 1]? = some (.cells #[.int .i64 0, .int .i64 0] 51 (0, 0)) ∧ W1.heap[B + 2]? = some (.cells #[.int .i64 0, .int .i64 0] 51 (0, 0))) := by
    show _ ∧ _ ∧ _ ∧ _ ∧ _
    rw [← hW1, ← HBB.out]
    have b0 := Below.refl w.heap.size w
    have b1 := b0.alloc b0.size (.cells #[.int .i64 (R : Int), .int .i64 (C : Int)] 51)
    have b2 := b1.alloc b1.size (.cells #[.int .i64 0, .int .i64 0] 51)
    have b3 := b2.alloc b2.size (.cells #[.int .i64 0, .int .i64 0] 51)
    have n0 := heap_alloc_new w (.cells #[.int .i64 (R : Int), .int .i64 (C : Int)] 51)
    have n1 := heap_alloc_new (w.alloc (.cells #[.int .i64 (R : Int), .int .i64 (C : Int)] 51)) (.cells #[.int .i64 0, .int .i64 0] 51)
    have n2 := heap_alloc_new ((w.alloc (.cells #[.int .i64 (R : Int), .int .i64 (C : Int)] 51)).alloc (.cells #[.int .i64 0, .int .i64 0] 51)) (.cells #[.int .i64 0, .int .i64 0] 51)
    have m0 := (Array.getElem?_eq_some_iff.1 n0).1
    have k0 := (heap_alloc_old (w.alloc (.cells #[.int .i64 (R : Int), .int .i64 (C : Int)] 51)) (.cells #[.int .i64 0, .int .i64 0] 51) m0).trans n0
    have m0' := (Array.getElem?_eq_some_iff.1 k0).1
    have k0' := (heap_alloc_old ((w.alloc (.cells #[.int .i64 (R : Int), .int .i64 (C : Int)] 51)).alloc (.cells #[.int .i64 0, .int .i64 0] 51)) (.cells #[.int .i64 0, .int .i64 0] 51) m0').trans k0
    have m1 := (Array.getElem?_eq_some_iff.1 n1).1
    have k1 := (heap_alloc_old ((w.alloc (.cells #[.int .i64 (R : Int), .int .i64 (C : Int)] 51)).alloc (.cells #[.int .i64 0, .int .i64 0] 51)) (.cells #[.int .i64 0, .int .i64 0] 51) m1).trans n1
    rw [show (w.alloc (.cells #[.int .i64 (R : Int), .int .i64 (C : Int)] 51)).heap.size = w.heap.size + 1 by simp] at k1
    rw [show ((w.alloc (.cells #[.int .i64 (R : Int), .int .i64 (C : Int)] 51)).alloc (.cells #[.int .i64 0, .int .i64 0] 51)).heap.size = w.heap.size + 2 by simp] at n2
    exact ⟨by simp, b3, k0', k1, n2⟩
  clear hW1 hB
  have HM0 : Hid (∀ wx : World, Below W1.heap.size W1 wx → wx.heap[B]? = some (.cells #[.int .i64 (R : Int), .int .i64 (C : Int)] 51 (0, 0))) := fun wx h => (h.block _ (Array.getElem?_eq_some_iff.1 H0.out.2.2.1).1).trans H0.out.2.2.1
  refine wp_region_apart (fun | 0 => rect R C | 1 => rect R C | _ => undef) _ 2 3 4 5 6 7 51 #[.int .i64 0, .int .i64 0] #[.int .i64 (R : Int), .int .i64 (C : Int)] #[.int .i64 (R : Int), .int .i64 (C : Int)] _ _ _ _
    (by kernel_rfl) (by kernel_rfl) rfl rfl rfl rfl rfl rfl rfl rfl rfl rfl (by decide) (by decide) ⟨⟨2, .data⟩, (by simp), rfl, rfl⟩ ⟨⟨3, .data⟩, (by simp), rfl, rfl⟩ ?oth rfl rfl ?al1 ?al2 ?st1 ?st2 ?con ?en
  case oth =>
    intro i o ho hk
    match i, ho, hk with
    | 0, ho, _ => obtain rfl := Option.some.inj ho; exact ⟨by decide, by decide⟩
    | 1, ho, _ => obtain rfl := Option.some.inj ho; exact ⟨by decide, by decide⟩
    | 2, _, hk => exact absurd hk (by decide)
    | 3, _, hk => exact absurd hk (by decide)
    | 4, _, hk => exact absurd hk (by decide)
    | 5, _, hk => exact absurd hk (by decide)
    | q + 6, ho, _ => simp at ho
  case al1 =>
    intro a w
    unfold execOp
    go_simp
  case al2 =>
    intro a w
    unfold execOp
    go_simp
  case st1 =>
    intro a w1 b old hf hp hg ho
    have e8 : a.tmps[8]?.getD undef = rect R C := hf.1 ⟨0, .data⟩ (by simp) rfl _ 8 rfl rfl rfl
    exact wp_store_row 51 (.tmp 6) (.tmp 8) rfl b #[.int .i64 (R : Int), .int .i64 (C : Int)] (eval_get (by rw [hp]; rfl)) (eval_get e8) 51 old hg (info_rect _ _) (by rcases ho with rfl | rfl <;> rfl) (one_rect _ _) ⟨rfl, rfl⟩
  case st2 =>
    intro a w1 b old hf hp hg ho
    have e9 : a.tmps[9]?.getD undef = rect R C := hf.1 ⟨1, .data⟩ (by simp) rfl _ 9 rfl rfl rfl
    exact wp_store_row 51 (.tmp 7) (.tmp 9) rfl b #[.int .i64 (R : Int), .int .i64 (C : Int)] (eval_get (by rw [hp]; rfl)) (eval_get e9) 51 old hg (info_rect _ _) (by rcases ho with rfl | rfl <;> rfl) (one_rect _ _) ⟨rfl, rfl⟩
  case con =>
    intro i o ho hk a w2 hb2 hf
    match i, ho, hk with
    | 0, ho, _ =>
      obtain rfl := Option.some.inj ho
      have b3 : a.tmps[3]?.getD undef = .pointer (some ⟨B, 0, none⟩) := hf.2 3 (by kernel_rfl)
      exact wp_load_row 51 (.tmp 3) rfl B (eval_get b3) 51 _ (0, 0) _ (HM0.out w2 hb2) Tryz.underlying51 rfl (info_rect _ _) ⟨rfl, Below.refl _ _⟩
    | 1, ho, _ =>
      obtain rfl := Option.some.inj ho
      have b3 : a.tmps[3]?.getD undef = .pointer (some ⟨B, 0, none⟩) := hf.2 3 (by kernel_rfl)
      exact wp_load_row 51 (.tmp 3) rfl B (eval_get b3) 51 _ (0, 0) _ (HM0.out w2 hb2) Tryz.underlying51 rfl (info_rect _ _) ⟨rfl, Below.refl _ _⟩
    | 2, _, hk => exact absurd hk (by decide)
    | 3, _, hk => exact absurd hk (by decide)
    | 4, _, hk => exact absurd hk (by decide)
    | 5, _, hk => exact absurd hk (by decide)
    | q + 6, ho, _ => simp at ho
  intro g1 g2 w5 hb5 l1 l2 x1 x2 hap
  have HT : Hid (Sp w w5 B g1 g2 R C R C R C) := by
    obtain ⟨s0, s1, s2, s3, s4⟩ := H0.out
    have k : ∀ {g : Nat} {o : Obj}, W1.heap[g]? = some o → w5.heap[g]? = some o := fun e => (hb5.block _ (Array.getElem?_eq_some_iff.1 e).1).trans e
    exact ⟨k s2, k s3, k s4, x1, x2, s1.trans (hb5.mono s1.size), hap, by omega, by omega, HBB.out⟩
  clear hb5 l1 l2 x1 x2 hap HM0 H0
  simp only [fill, Act.put]
  go_simp
  cases a
  · have hn : (st[0]'hk).toNat = 66 := HN.out
    go_wp2_with fail
    refine wp_region_last (fun | 0 => .pointer (some ⟨B, 1, none⟩) | 1 => .int .i64 (C : Int) | 2 => .string st | 3 => .int .i64 (v : Int) | 4 => .int .i64 (minusN C v : Int) | 5 => .pointer (some ⟨g1, 1, none⟩) | _ => undef) 6 (fun wx => wx.setCell ⟨g1, 1, none⟩ (.int .i64 (minusN C v : Int))) _ (by kernel_rfl) (by kernel_rfl) rfl rfl rfl rfl (by kernel_rfl) ?confz ?stfz ?enfz
    case confz =>
      intro i o ho hlt a wx hb hf
      match i, ho with
      | 0, ho =>
        obtain rfl := Option.some.inj ho
        have b3 : a.tmps[3]?.getD undef = .pointer (some ⟨B, 0, none⟩) := hf.2 3 (by kernel_rfl)
        exact wp_value (.pointer (some ⟨B, 1, none⟩)) (by unfold execOp; go_simp) ⟨rfl, Below.refl _ _⟩
      | 1, ho =>
        obtain rfl := Option.some.inj ho
        have e25 : a.tmps[25]?.getD undef = .pointer (some ⟨B, 1, none⟩) := hf.1 ⟨0, .data⟩ (by simp) rfl _ 25 rfl rfl
        obtain ⟨c0, c1, c2, c3⟩ := cells2 (HT.out.later hb).arg
        exact wp_value (.int .i64 (C : Int)) (by unfold execOp; go_simp) ⟨rfl, Below.refl _ _⟩
      | 2, ho =>
        obtain rfl := Option.some.inj ho
        have b0 : a.tmps[0]?.getD undef = .string st := hf.2 0 (by kernel_rfl)
        exact wp_value (.string st) (by unfold execOp; go_simp) ⟨rfl, Below.refl _ _⟩
      | 3, ho =>
        obtain rfl := Option.some.inj ho
        have e27 : a.tmps[27]?.getD undef = .string st := hf.1 ⟨2, .data⟩ (by simp) rfl _ 27 rfl rfl
        exact wp_enter 99 #[.string st] (.int .i64 (v : Int)) _ (by unfold execOp; go_simp) (HS.out wx) (fun w' h => ⟨rfl, h⟩)
      | 4, ho =>
        obtain rfl := Option.some.inj ho
        have e26 : a.tmps[26]?.getD undef = .int .i64 (C : Int) := hf.1 ⟨1, .data⟩ (by simp) rfl _ 26 rfl rfl
        have e28 : a.tmps[28]?.getD undef = .int .i64 (v : Int) := hf.1 ⟨3, .data⟩ (by simp) rfl _ 28 rfl rfl
        have q1 := HA.out.1.1; have q2 := HA.out.1.2; have q3 := HA.out.2.1; have q4 := HA.out.2.2
        exact wp_value (.int .i64 (minusN C v : Int)) (by unfold execOp; go_simp) ⟨rfl, Below.refl _ _⟩
      | 5, ho =>
        obtain rfl := Option.some.inj ho
        have b6 : a.tmps[6]?.getD undef = .pointer (some ⟨g1, 0, none⟩) := hf.2 6 (by kernel_rfl)
        exact wp_value (.pointer (some ⟨g1, 1, none⟩)) (by unfold execOp; go_simp) ⟨rfl, Below.refl _ _⟩
      | 6, ho => exact absurd hlt (by omega)
      | q + 7, ho => simp at ho
    case stfz =>
      intro a wx hb hf
      have e29 : a.tmps[29]?.getD undef = .int .i64 (minusN C v : Int) := hf.1 ⟨4, .data⟩ (by simp) rfl _ 29 rfl rfl
      have e30 : a.tmps[30]?.getD undef = .pointer (some ⟨g1, 1, none⟩) := hf.1 ⟨5, .data⟩ (by simp) rfl _ 30 rfl rfl
      obtain ⟨c0, c1, c2, c3⟩ := cells2 (HT.out.later hb).z
      exact wp_skip (by unfold execOp; go_simp) ⟨rfl, rfl⟩
    intro w6 hb6
    have HT2 := Lib.hid ((HT.out.later hb6).z1 (minusN C v))
    clear hb6 HT
    simp only [fill, Act.put]
    go_simp
    generalize w6.setCell ⟨g1, 1, none⟩ (.int .i64 (minusN C v : Int)) = w7 at *
    have HT := Lib.hid HT2.out
    clear HT2
    go_wp2_with fail
    refine wp_region_last (fun | 0 => .pointer (some ⟨B, 1, none⟩) | 1 => .int .i64 (C : Int) | 2 => .string st | 3 => .int .i64 (v : Int) | 4 => .int .i64 (meetN C v : Int) | 5 => .pointer (some ⟨g2, 1, none⟩) | _ => undef) 6 (fun wx => wx.setCell ⟨g2, 1, none⟩ (.int .i64 (meetN C v : Int))) _ (by kernel_rfl) (by kernel_rfl) rfl rfl rfl rfl (by kernel_rfl) ?confo ?stfo ?enfo
    case confo =>
      intro i o ho hlt a wx hb hf
      match i, ho with
      | 0, ho =>
        obtain rfl := Option.some.inj ho
        have b3 : a.tmps[3]?.getD undef = .pointer (some ⟨B, 0, none⟩) := hf.2 3 (by kernel_rfl)
        exact wp_value (.pointer (some ⟨B, 1, none⟩)) (by unfold execOp; go_simp) ⟨rfl, Below.refl _ _⟩
      | 1, ho =>
        obtain rfl := Option.some.inj ho
        have e31 : a.tmps[31]?.getD undef = .pointer (some ⟨B, 1, none⟩) := hf.1 ⟨0, .data⟩ (by simp) rfl _ 31 rfl rfl
        obtain ⟨c0, c1, c2, c3⟩ := cells2 (HT.out.later hb).arg
        exact wp_value (.int .i64 (C : Int)) (by unfold execOp; go_simp) ⟨rfl, Below.refl _ _⟩
      | 2, ho =>
        obtain rfl := Option.some.inj ho
        have b0 : a.tmps[0]?.getD undef = .string st := hf.2 0 (by kernel_rfl)
        exact wp_value (.string st) (by unfold execOp; go_simp) ⟨rfl, Below.refl _ _⟩
      | 3, ho =>
        obtain rfl := Option.some.inj ho
        have e33 : a.tmps[33]?.getD undef = .string st := hf.1 ⟨2, .data⟩ (by simp) rfl _ 33 rfl rfl
        exact wp_enter 99 #[.string st] (.int .i64 (v : Int)) _ (by unfold execOp; go_simp) (HS.out wx) (fun w' h => ⟨rfl, h⟩)
      | 4, ho =>
        obtain rfl := Option.some.inj ho
        have e32 : a.tmps[32]?.getD undef = .int .i64 (C : Int) := hf.1 ⟨1, .data⟩ (by simp) rfl _ 32 rfl rfl
        have e34 : a.tmps[34]?.getD undef = .int .i64 (v : Int) := hf.1 ⟨3, .data⟩ (by simp) rfl _ 34 rfl rfl
        have q1 := HA.out.1.1; have q2 := HA.out.1.2; have q3 := HA.out.2.1; have q4 := HA.out.2.2
        exact wp_value (.int .i64 (meetN C v : Int)) (by unfold execOp; go_simp) ⟨rfl, Below.refl _ _⟩
      | 5, ho =>
        obtain rfl := Option.some.inj ho
        have b7 : a.tmps[7]?.getD undef = .pointer (some ⟨g2, 0, none⟩) := hf.2 7 (by kernel_rfl)
        exact wp_value (.pointer (some ⟨g2, 1, none⟩)) (by unfold execOp; go_simp) ⟨rfl, Below.refl _ _⟩
      | 6, ho => exact absurd hlt (by omega)
      | q + 7, ho => simp at ho
    case stfo =>
      intro a wx hb hf
      have e35 : a.tmps[35]?.getD undef = .int .i64 (meetN C v : Int) := hf.1 ⟨4, .data⟩ (by simp) rfl _ 35 rfl rfl
      have e36 : a.tmps[36]?.getD undef = .pointer (some ⟨g2, 1, none⟩) := hf.1 ⟨5, .data⟩ (by simp) rfl _ 36 rfl rfl
      obtain ⟨c0, c1, c2, c3⟩ := cells2 (HT.out.later hb).o
      exact wp_skip (by unfold execOp; go_simp) ⟨rfl, rfl⟩
    intro w6 hb6
    have HT2 := Lib.hid ((HT.out.later hb6).o1 (meetN C v))
    clear hb6 HT
    simp only [fill, Act.put]
    go_simp
    generalize w6.setCell ⟨g2, 1, none⟩ (.int .i64 (meetN C v : Int)) = w7 at *
    have HT := Lib.hid HT2.out
    clear HT2
    go_wp2_with fail
    have hap := HT.out.apart
    obtain ⟨z0, z1, z2, z3⟩ := cells2 HT.out.z
    obtain ⟨o0, o1, o2, o3⟩ := cells2 HT.out.o
    obtain ⟨p0, p1, p2, p3⟩ := cells2 HT.out.r1
    obtain ⟨q0, q1, q2, q3⟩ := cells2 HT.out.r2
    have hg1 : g1 ≠ B + 1 := by omega
    have hg2 : g2 ≠ B + 1 := by omega
    have hg3 : g1 ≠ B + 2 := by omega
    have hg4 : g2 ≠ B + 2 := by omega
    have HBL : Hid (Below w.heap.size w w7 ∧ w.heap.size = B) := ⟨HT.out.below, hap.2.2.2⟩
    have HR1 := Lib.hid HT.out.r1
    have HR2 : Hid (w7.heap[B + 1 + 1]? = some (.cells #[.int .i64 0, .int .i64 0] 51 (0, 0))) := HT.out.r2
    clear HT hap HS HA HN
    go_region
    obtain ⟨W8, hW8⟩ : ∃ W8, (((((w7.setCell ⟨B + 1, 0, none⟩ (.int .i64 (R : Nat))).setCell ⟨B + 1, 1, none⟩ (.int .i64 (minusN C v : Nat))).setCell ⟨B + 1 + 1, 0, none⟩ (.int .i64 (R : Nat))).setCell ⟨B + 1 + 1, 1, none⟩ (.int .i64 (meetN C v : Nat))).drew) = W8 := ⟨_, rfl⟩
    rw [hW8]
    have HF : Hid (Below w.heap.size w W8 ∧ W8.heap[B + 1]? = some (.cells #[.int .i64 (R : Nat), .int .i64 (minusN C v : Nat)] 51 (0, 0)) ∧ W8.heap[B + 1 + 1]? = some (.cells #[.int .i64 (R : Nat), .int .i64 (meetN C v : Nat)] 51 (0, 0))) := by
      show _ ∧ _ ∧ _
      rw [← hW8]
      obtain ⟨b0, bB⟩ := HBL.out
      have l1 : w.heap.size ≤ B + 1 := by omega
      have l2 : w.heap.size ≤ B + 1 + 1 := by omega
      refine ⟨Below.drew (set_below (set_below (set_below (set_below b0 l1) l1) l2) l2), ?_, ?_⟩
      · exact (set_other (by omega)).trans ((set_other (by omega)).trans (set_row 1 (set_row 0 HR1.out)))
      · exact set_row 1 (set_row 0 ((set_other (by omega)).trans ((set_other (by omega)).trans HR2.out)))
    clear hW8 HR1 HR2 HBL z0 z1 z2 z3 o0 o1 o2 o3 p0 p1 p2 p3 q0 q1 q2 q3
    obtain ⟨p0, p1, p2, p3⟩ := cells2 HF.out.2.1
    obtain ⟨q0, q1, q2, q3⟩ := cells2 HF.out.2.2
    go_wp2_with fail
    refine bodyPost_ret (v := .tuple #[rect (R : Nat) (minusN C v : Nat), rect (R : Nat) (meetN C v : Nat)]) (by simp [results, Tryz.results72, go_sem, p0, p1, q0, q1]) rfl ⟨rfl, HF.out.1⟩
  · have hn : (st[0]'hk).toNat = 65 := HN.out
    go_wp2_with fail
    refine wp_region_last (fun | 0 => .pointer (some ⟨B, 0, none⟩) | 1 => .int .i64 (R : Int) | 2 => .string st | 3 => .int .i64 (v : Int) | 4 => .int .i64 (minusN R v : Int) | 5 => .pointer (some ⟨g1, 0, none⟩) | _ => undef) 6 (fun wx => wx.setCell ⟨g1, 0, none⟩ (.int .i64 (minusN R v : Int))) _ (by kernel_rfl) (by kernel_rfl) rfl rfl rfl rfl (by kernel_rfl) ?contz ?sttz ?entz
    case contz =>
      intro i o ho hlt a wx hb hf
      match i, ho with
      | 0, ho =>
        obtain rfl := Option.some.inj ho
        have b3 : a.tmps[3]?.getD undef = .pointer (some ⟨B, 0, none⟩) := hf.2 3 (by kernel_rfl)
        exact wp_value (.pointer (some ⟨B, 0, none⟩)) (by unfold execOp; go_simp) ⟨rfl, Below.refl _ _⟩
      | 1, ho =>
        obtain rfl := Option.some.inj ho
        have e13 : a.tmps[13]?.getD undef = .pointer (some ⟨B, 0, none⟩) := hf.1 ⟨0, .data⟩ (by simp) rfl _ 13 rfl rfl
        obtain ⟨c0, c1, c2, c3⟩ := cells2 (HT.out.later hb).arg
        exact wp_value (.int .i64 (R : Int)) (by unfold execOp; go_simp) ⟨rfl, Below.refl _ _⟩
      | 2, ho =>
        obtain rfl := Option.some.inj ho
        have b0 : a.tmps[0]?.getD undef = .string st := hf.2 0 (by kernel_rfl)
        exact wp_value (.string st) (by unfold execOp; go_simp) ⟨rfl, Below.refl _ _⟩
      | 3, ho =>
        obtain rfl := Option.some.inj ho
        have e15 : a.tmps[15]?.getD undef = .string st := hf.1 ⟨2, .data⟩ (by simp) rfl _ 15 rfl rfl
        exact wp_enter 99 #[.string st] (.int .i64 (v : Int)) _ (by unfold execOp; go_simp) (HS.out wx) (fun w' h => ⟨rfl, h⟩)
      | 4, ho =>
        obtain rfl := Option.some.inj ho
        have e14 : a.tmps[14]?.getD undef = .int .i64 (R : Int) := hf.1 ⟨1, .data⟩ (by simp) rfl _ 14 rfl rfl
        have e16 : a.tmps[16]?.getD undef = .int .i64 (v : Int) := hf.1 ⟨3, .data⟩ (by simp) rfl _ 16 rfl rfl
        have q1 := HA.out.1.1; have q2 := HA.out.1.2; have q3 := HA.out.2.1; have q4 := HA.out.2.2
        exact wp_value (.int .i64 (minusN R v : Int)) (by unfold execOp; go_simp) ⟨rfl, Below.refl _ _⟩
      | 5, ho =>
        obtain rfl := Option.some.inj ho
        have b6 : a.tmps[6]?.getD undef = .pointer (some ⟨g1, 0, none⟩) := hf.2 6 (by kernel_rfl)
        exact wp_value (.pointer (some ⟨g1, 0, none⟩)) (by unfold execOp; go_simp) ⟨rfl, Below.refl _ _⟩
      | 6, ho => exact absurd hlt (by omega)
      | q + 7, ho => simp at ho
    case sttz =>
      intro a wx hb hf
      have e17 : a.tmps[17]?.getD undef = .int .i64 (minusN R v : Int) := hf.1 ⟨4, .data⟩ (by simp) rfl _ 17 rfl rfl
      have e18 : a.tmps[18]?.getD undef = .pointer (some ⟨g1, 0, none⟩) := hf.1 ⟨5, .data⟩ (by simp) rfl _ 18 rfl rfl
      obtain ⟨c0, c1, c2, c3⟩ := cells2 (HT.out.later hb).z
      exact wp_skip (by unfold execOp; go_simp) ⟨rfl, rfl⟩
    intro w6 hb6
    have HT2 := Lib.hid ((HT.out.later hb6).z0 (minusN R v))
    clear hb6 HT
    simp only [fill, Act.put]
    go_simp
    generalize w6.setCell ⟨g1, 0, none⟩ (.int .i64 (minusN R v : Int)) = w7 at *
    have HT := Lib.hid HT2.out
    clear HT2
    go_wp2_with fail
    refine wp_region_last (fun | 0 => .pointer (some ⟨B, 0, none⟩) | 1 => .int .i64 (R : Int) | 2 => .string st | 3 => .int .i64 (v : Int) | 4 => .int .i64 (meetN R v : Int) | 5 => .pointer (some ⟨g2, 0, none⟩) | _ => undef) 6 (fun wx => wx.setCell ⟨g2, 0, none⟩ (.int .i64 (meetN R v : Int))) _ (by kernel_rfl) (by kernel_rfl) rfl rfl rfl rfl (by kernel_rfl) ?conto ?stto ?ento
    case conto =>
      intro i o ho hlt a wx hb hf
      match i, ho with
      | 0, ho =>
        obtain rfl := Option.some.inj ho
        have b3 : a.tmps[3]?.getD undef = .pointer (some ⟨B, 0, none⟩) := hf.2 3 (by kernel_rfl)
        exact wp_value (.pointer (some ⟨B, 0, none⟩)) (by unfold execOp; go_simp) ⟨rfl, Below.refl _ _⟩
      | 1, ho =>
        obtain rfl := Option.some.inj ho
        have e19 : a.tmps[19]?.getD undef = .pointer (some ⟨B, 0, none⟩) := hf.1 ⟨0, .data⟩ (by simp) rfl _ 19 rfl rfl
        obtain ⟨c0, c1, c2, c3⟩ := cells2 (HT.out.later hb).arg
        exact wp_value (.int .i64 (R : Int)) (by unfold execOp; go_simp) ⟨rfl, Below.refl _ _⟩
      | 2, ho =>
        obtain rfl := Option.some.inj ho
        have b0 : a.tmps[0]?.getD undef = .string st := hf.2 0 (by kernel_rfl)
        exact wp_value (.string st) (by unfold execOp; go_simp) ⟨rfl, Below.refl _ _⟩
      | 3, ho =>
        obtain rfl := Option.some.inj ho
        have e21 : a.tmps[21]?.getD undef = .string st := hf.1 ⟨2, .data⟩ (by simp) rfl _ 21 rfl rfl
        exact wp_enter 99 #[.string st] (.int .i64 (v : Int)) _ (by unfold execOp; go_simp) (HS.out wx) (fun w' h => ⟨rfl, h⟩)
      | 4, ho =>
        obtain rfl := Option.some.inj ho
        have e20 : a.tmps[20]?.getD undef = .int .i64 (R : Int) := hf.1 ⟨1, .data⟩ (by simp) rfl _ 20 rfl rfl
        have e22 : a.tmps[22]?.getD undef = .int .i64 (v : Int) := hf.1 ⟨3, .data⟩ (by simp) rfl _ 22 rfl rfl
        have q1 := HA.out.1.1; have q2 := HA.out.1.2; have q3 := HA.out.2.1; have q4 := HA.out.2.2
        exact wp_value (.int .i64 (meetN R v : Int)) (by unfold execOp; go_simp) ⟨rfl, Below.refl _ _⟩
      | 5, ho =>
        obtain rfl := Option.some.inj ho
        have b7 : a.tmps[7]?.getD undef = .pointer (some ⟨g2, 0, none⟩) := hf.2 7 (by kernel_rfl)
        exact wp_value (.pointer (some ⟨g2, 0, none⟩)) (by unfold execOp; go_simp) ⟨rfl, Below.refl _ _⟩
      | 6, ho => exact absurd hlt (by omega)
      | q + 7, ho => simp at ho
    case stto =>
      intro a wx hb hf
      have e23 : a.tmps[23]?.getD undef = .int .i64 (meetN R v : Int) := hf.1 ⟨4, .data⟩ (by simp) rfl _ 23 rfl rfl
      have e24 : a.tmps[24]?.getD undef = .pointer (some ⟨g2, 0, none⟩) := hf.1 ⟨5, .data⟩ (by simp) rfl _ 24 rfl rfl
      obtain ⟨c0, c1, c2, c3⟩ := cells2 (HT.out.later hb).o
      exact wp_skip (by unfold execOp; go_simp) ⟨rfl, rfl⟩
    intro w6 hb6
    have HT2 := Lib.hid ((HT.out.later hb6).o0 (meetN R v))
    clear hb6 HT
    simp only [fill, Act.put]
    go_simp
    generalize w6.setCell ⟨g2, 0, none⟩ (.int .i64 (meetN R v : Int)) = w7 at *
    have HT := Lib.hid HT2.out
    clear HT2
    go_wp2_with fail
    have hap := HT.out.apart
    obtain ⟨z0, z1, z2, z3⟩ := cells2 HT.out.z
    obtain ⟨o0, o1, o2, o3⟩ := cells2 HT.out.o
    obtain ⟨p0, p1, p2, p3⟩ := cells2 HT.out.r1
    obtain ⟨q0, q1, q2, q3⟩ := cells2 HT.out.r2
    have hg1 : g1 ≠ B + 1 := by omega
    have hg2 : g2 ≠ B + 1 := by omega
    have hg3 : g1 ≠ B + 2 := by omega
    have hg4 : g2 ≠ B + 2 := by omega
    have HBL : Hid (Below w.heap.size w w7 ∧ w.heap.size = B) := ⟨HT.out.below, hap.2.2.2⟩
    have HR1 := Lib.hid HT.out.r1
    have HR2 : Hid (w7.heap[B + 1 + 1]? = some (.cells #[.int .i64 0, .int .i64 0] 51 (0, 0))) := HT.out.r2
    clear HT hap HS HA HN
    go_region
    obtain ⟨W8, hW8⟩ : ∃ W8, (((((w7.setCell ⟨B + 1, 0, none⟩ (.int .i64 (minusN R v : Nat))).setCell ⟨B + 1, 1, none⟩ (.int .i64 (C : Nat))).setCell ⟨B + 1 + 1, 0, none⟩ (.int .i64 (meetN R v : Nat))).setCell ⟨B + 1 + 1, 1, none⟩ (.int .i64 (C : Nat))).drew) = W8 := ⟨_, rfl⟩
    rw [hW8]
    have HF : Hid (Below w.heap.size w W8 ∧ W8.heap[B + 1]? = some (.cells #[.int .i64 (minusN R v : Nat), .int .i64 (C : Nat)] 51 (0, 0)) ∧ W8.heap[B + 1 + 1]? = some (.cells #[.int .i64 (meetN R v : Nat), .int .i64 (C : Nat)] 51 (0, 0))) := by
      show _ ∧ _ ∧ _
      rw [← hW8]
      obtain ⟨b0, bB⟩ := HBL.out
      have l1 : w.heap.size ≤ B + 1 := by omega
      have l2 : w.heap.size ≤ B + 1 + 1 := by omega
      refine ⟨Below.drew (set_below (set_below (set_below (set_below b0 l1) l1) l2) l2), ?_, ?_⟩
      · exact (set_other (by omega)).trans ((set_other (by omega)).trans (set_row 1 (set_row 0 HR1.out)))
      · exact set_row 1 (set_row 0 ((set_other (by omega)).trans ((set_other (by omega)).trans HR2.out)))
    clear hW8 HR1 HR2 HBL z0 z1 z2 z3 o0 o1 o2 o3 p0 p1 p2 p3 q0 q1 q2 q3
    obtain ⟨p0, p1, p2, p3⟩ := cells2 HF.out.2.1
    obtain ⟨q0, q1, q2, q3⟩ := cells2 HF.out.2.2
    go_wp2_with fail
    refine bodyPost_ret (v := .tuple #[rect (minusN R v : Nat) (C : Nat), rect (meetN R v : Nat) (C : Nat)]) (by simp [results, Tryz.results72, go_sem, p0, p1, q0, q1]) rfl ⟨rfl, HF.out.1⟩
end Go.Proofs.YtbccachkkflceaaGreatDoor.Split

/-
  The reference's formula of a protocol that plays a game.
-/
namespace Go.Proofs.YtbccachkkflceaaGreatDoor.GfS
open Go.RowKit Go.Shelf Go.Proofs.YtbccachkkflceaaGreatDoor.Plain Go.Proofs.YtbccachkkflceaaGreatDoor.Base Go.Proofs.YtbccachkkflceaaGreatDoor.Pat Go.Proofs.YtbccachkkflceaaGreatDoor.Tree Go.Proofs.YtbccachkkflceaaGreatDoor.TrimT Go.Proofs.YtbccachkkflceaaGreatDoor.Talk Go.Proofs.YtbccachkkflceaaGreatDoor.PlM Go.Proofs.YtbccachkkflceaaGreatDoor.PlN Go.Proofs.YtbccachkkflceaaGreatDoor.GfM Go.Proofs.YtbccachkkflceaaGreatDoor.FreeL Go.Proofs.YtbccachkkflceaaGreatDoor.Rect Go.Proofs.YtbccachkkflceaaGreatDoor.Wid
open Go.Proofs.YtbccachkkflceaaGreatDoor.Fm (F val sgn litB)
open Go.Proofs.YtbccachkkflceaaGreatDoor.Parts (leaf_yes leaf_no parts_w str_data)
open Go.Proofs.YtbccachkkflceaaGreatDoor.Hex (at_drop)
open Go.Proofs.YtbccachkkflceaaGreatDoor.Split (split_said)
open Go.Proofs.YtbccachkkflceaaGreatDoor.Where (or8)
open Go.Proofs.YtbccachkkflceaaGreatDoor.Free (fill wp_value wp_enter wp_load_row freeB)
set_option linter.unusedVariables false
set_option linter.unusedSimpArgs false

theorem eval_get {a : Act} {d : Tmp} {v : Value} (h : a.tmps[d]?.getD undef = v) : a.eval (.tmp d) = v := by
  rw [← h]
  show a.tmps.getD d undef = _
  simp [Array.getD_eq_getD_getElem?]
theorem cells2 {w : World} {b : Nat} {c0 c1 : Value} {ty : TypeId} (h : w.heap[b]? = some (.cells #[c0, c1] ty (0, 0))) : w.cell? ⟨b, 0, none⟩ = some c0 ∧ w.cell? ⟨b, 1, none⟩ = some c1 ∧ w.frozen? ⟨b, 0, none⟩ = false ∧ w.frozen? ⟨b, 1, none⟩ = false :=
  ⟨cell_of_row _ _ 0 _ _ _ h, cell_of_row _ _ 1 _ _ _ h, frozen_of_row _ _ _ _ _ h, frozen_of_row _ _ _ _ _ h⟩
theorem set_two {w : World} {g : Nat} {c0 c1 v : Value} {T : TypeId} (i : Nat) (h : w.heap[g]? = some (.cells #[c0, c1] T (0, 0))) : (w.setCell ⟨g, i, none⟩ v).heap[g]? = some (.cells (#[c0, c1].setIfInBounds i v) T (0, 0)) := by
  simp [World.setCell, Array.getElem?_modify, h]
theorem set_other {w : World} {B k i : Nat} {v : Value} (h : k ≠ B) : (w.setCell ⟨B, i, none⟩ v).heap[k]? = w.heap[k]? := by
  simp only [World.setCell, Array.getElem?_modify]
  rw [if_neg (by omega)]
/-- the result's block, and the sets so far -/
structure Sd (w wr : World) (B : Nat) (x y : Int) : Prop where
  res : wr.heap[B]? = some (.cells #[.int .i64 0, .int .i64 0] 51 (0, 0))
  cur : wr.heap[B + 1]? = some (.cells #[.int .i64 x, .int .i64 y] 51 (0, 0))
  below : Below w.heap.size w wr
  low : w.heap.size = B
theorem Sd.put0 {w wr : World} {B : Nat} {x y : Int} (h : Sd w wr B x y) (v : Int) : Sd w (wr.setCell ⟨B + 1, 0, none⟩ (.int .i64 v)) B v y :=
  ⟨(set_other (by omega)).trans h.res, set_two 0 h.cur, h.below.setCell (by have := h.low; show _ ≤ B + 1; omega) _, h.low⟩
theorem Sd.put1 {w wr : World} {B : Nat} {x y : Int} (h : Sd w wr B x y) (v : Int) : Sd w (wr.setCell ⟨B + 1, 1, none⟩ (.int .i64 v)) B x v :=
  ⟨(set_other (by omega)).trans h.res, set_two 1 h.cur, h.below.setCell (by have := h.low; show _ ≤ B + 1; omega) _, h.low⟩

theorem pow64 (k : Nat) (h : k ≤ 8) : wrap64 (2 ^ k) = ((2 ^ k : Nat) : Int) := by
  have h2 : (2 : Nat) ^ k ≤ 256 := Nat.pow_le_pow_right (n := 2) (by decide) h
  rw [show ((2 : Int) ^ k) = ((2 ^ k : Nat) : Int) by simp]
  generalize (2 : Nat) ^ k = X at *
  simp only [wrap64]
  omega
theorem on_byte (s : ByteArray) (k : Nat) (hk : k < s.size) : (((s[k]).toNat : Int) == 49) = onB s k := by
  rw [on_at s k hk]
  by_cases e : (s[k]).toNat = 49
  · rw [e]; rfl
  · rw [decide_eq_false e]; exact beq_false_of_ne (by omega)
set_option maxHeartbeats 4000000 in
set_option maxRecDepth 100000 in
theorem sides_any (s : ByteArray) (hs : s.size ≤ 1048576) (w : World) :
    Calls Tryz.prog 40 #[.string s] w fun e w' => ∃ x y : Int, e = .returned (.agg #[.int .i64 x, .int .i64 y]) ∧ (s.size ≤ 8 → x = (onesN s : Int) ∧ y = (zerosN s : Int)) ∧ Below w.heap.size w w' := by
  have hsd : Sd w ((w.alloc (.cells #[.int .i64 0, .int .i64 0] 51)).alloc (.cells #[.int .i64 0, .int .i64 0] 51)) w.heap.size 0 0 := by
    refine ⟨?_, ?_, ((Below.refl w.heap.size w).alloc (Nat.le_refl _) _).alloc (by simp) _, rfl⟩
    · rw [Below.heap_alloc _ _ _ (by simp)]; exact heap_alloc_new w _
    · have h := heap_alloc_new (w.alloc (.cells #[.int .i64 0, .int .i64 0] 51)) (.cells #[.int .i64 0, .int .i64 0] 51)
      rw [World.size_alloc] at h
      exact h
  have HSD := Lib.hid hsd
  clear hsd
  go_enter Tryz.func40, Tryz.ntmps40
  go_wp2_with fail
  generalize (w.alloc (.cells #[.int .i64 0, .int .i64 0] 51)).alloc (.cells #[.int .i64 0, .int .i64 0] 51) = W2 at *
  obtain ⟨B, hB⟩ : ∃ B, w.heap.size = B := ⟨_, rfl⟩
  rw [hB] at HSD ⊢
  have HB0 := Lib.hid hB
  clear hB
  go_loopw [4] (fun i wr => ∃ (k : Nat) (x y : Int), k ≤ s.size ∧ i = .int .i64 (k : Int) ∧ Hid (k ≤ 8 → x = (setB (onB s) k : Int) ∧ y = (setB (fun n => !onB s n) k : Int)) ∧ Hid (Sd w wr B x y)) (fun i _ => s.size - (intOf i).toNat)
  case atStart => exact ⟨0, 0, 0, Nat.zero_le _, rfl, fun _ => ⟨rfl, rfl⟩, HSD⟩
  case round =>
    obtain ⟨k, x, y, hk, rfl, HE, HS⟩ := hrel
    by_cases hlt : k < s.size
    · have hb := on_byte s k hlt
      have hku : IntKind.u64.wrap (k : Int) = (k : Int) := by rw [IntKind.wrap_u64]; omega
      obtain ⟨Z, hZ⟩ : ∃ Z : Int, wrap64 (2 ^ min k 64) = Z := ⟨_, rfl⟩
      have HZ8 : Hid (k + 1 ≤ 8 → Z = ((2 ^ k : Nat) : Int)) := fun h => by rw [← hZ, show min k 64 = k by omega]; exact pow64 k (by omega)
      obtain ⟨p, hp⟩ : ∃ p, onB s k = p := ⟨_, rfl⟩
      rw [hp] at hb
      have HP := Lib.hid hp
      clear hp
      obtain ⟨c0, c1, f0, f1⟩ := cells2 HS.out.cur
      cases p
      · obtain ⟨V, hV⟩ : ∃ V : Int, Go.bits .or .i64 y Z = V := ⟨_, rfl⟩
        have HN := Lib.hid (HS.out.put1 V)
        have HE2 : Hid (k + 1 ≤ 8 → x = (setB (onB s) (k + 1) : Int) ∧ V = (setB (fun n => !onB s n) (k + 1) : Int)) := fun h => by
          obtain ⟨e1, e2⟩ := HE.out (by omega)
          have hl : setB (fun n => !onB s n) k < 256 := setB_lt8 _ k (by omega)
          have hX : 2 ^ k < 256 := Nat.lt_of_lt_of_le (Nat.pow_lt_pow_right (by decide) (show k < 8 by omega)) (by decide)
          refine ⟨?_, ?_⟩
          · rw [e1, ← setB_or, HP.out]; simp
          · rw [← hV, e2, HZ8.out h, or8 _ _ hl hX, ← setB_or]
            simp [HP.out]
        clear HE HZ8 HP
        go_wp2_with fail
        go_roundw
        case rel => exact ⟨k + 1, x, V, by omega, by go_num, HE2, HN⟩
        case measure => simp [intOf]; omega
      · obtain ⟨V, hV⟩ : ∃ V : Int, Go.bits .or .i64 x Z = V := ⟨_, rfl⟩
        have HN := Lib.hid (HS.out.put0 V)
        have HE2 : Hid (k + 1 ≤ 8 → V = (setB (onB s) (k + 1) : Int) ∧ y = (setB (fun n => !onB s n) (k + 1) : Int)) := fun h => by
          obtain ⟨e1, e2⟩ := HE.out (by omega)
          have hl : setB (onB s) k < 256 := setB_lt8 _ k (by omega)
          have hX : 2 ^ k < 256 := Nat.lt_of_lt_of_le (Nat.pow_lt_pow_right (by decide) (show k < 8 by omega)) (by decide)
          refine ⟨?_, ?_⟩
          · rw [← hV, e1, HZ8.out h, or8 _ _ hl hX, ← setB_or]
            simp [HP.out]
          · rw [e2, ← setB_or, HP.out]; simp
        clear HE HZ8 HP
        go_wp2_with fail
        go_roundw
        case rel => exact ⟨k + 1, V, y, by omega, by go_num, HE2, HN⟩
        case measure => simp [intOf]; omega
    · obtain rfl : k = s.size := by omega
      have HRR : Hid ((wr.setRow B #[.int .i64 x, .int .i64 y]).heap[B]? = some (.cells #[.int .i64 x, .int .i64 y] 51 (0, 0))) := setRow_at' HS.out.res
      have HBB : Hid (Below w.heap.size w (wr.setRow B #[.int .i64 x, .int .i64 y])) := setRow_below' HS.out.below (by rw [HS.out.low]; exact Nat.le_refl _) _
      go_wp2_with (first | (have Z := HS.out.cur; refine wpList_load_row rfl 51 (.tmp 3) rfl (B + 1) rfl 51 _ (0, 0) _ Z Tryz.underlying51 rfl (info_rect _ _) ?_; clear Z) | (have Z := HS.out.res; refine wpList_store_row rfl 51 (.tmp 2) (.tmp 30) rfl B _ rfl rfl 51 _ Z (info_rect _ _) rfl (one_rect _ _) ?_; clear Z))
      refine bodyPost_ret (v := .agg #[.int .i64 x, .int .i64 y]) (results_cell_row Tryz.results40 _ _ B 51 _ (0, 0) _ rfl HRR.out Tryz.underlying51 rfl (info_rect _ _)) rfl ⟨x, y, rfl, HE.out, HBB.out⟩

/-- whether a table has both values -/
def bothB (s : ByteArray) : Bool := tabV s && (decide (onesN s ≠ 0) && decide (zerosN s ≠ 0))
set_option maxHeartbeats 2000000 in
theorem both_w (s : ByteArray) (hs : s.size ≤ 1048576) (w : World) : Calls Tryz.prog 37 #[.string s] w fun e w' => e = .returned (.bool (bothB s)) ∧ Below w.heap.size w w' := by
  have HS := Lib.hid (fun W => sides_any s hs W)
  have HT := Lib.hid (spec_tab s (by unfold maxLen; omega))
  have htab := tab_size s
  unfold bothB
  obtain ⟨tv, htv⟩ : ∃ tv, tabV s = tv := ⟨_, rfl⟩
  rw [htv] at HT htab ⊢
  generalize onesN s = on at *
  generalize zerosN s = ze at *
  clear htv
  go_enter Tryz.func37, Tryz.ntmps37
  go_wp2_with fail
  refine (HS.out _).mono ?_
  rintro e w2 ⟨x, y, rfl, hxy, hb⟩
  have hr := heap_alloc_new w2 (.cells #[.int .i64 x, .int .i64 y] 51)
  obtain ⟨c0, c1, _, _⟩ := cells2 hr
  have HB := Lib.hid (hb.alloc hb.size (.cells #[.int .i64 x, .int .i64 y] 51))
  clear hb hr HS
  cases tv
  · clear hxy htab
    go_wp2_with fail
    refine (HT.out _).mono ?_
    rintro e w3 ⟨rfl, rfl⟩
    go_wp2_with fail
    go_ret
    exact ⟨rfl, HB.out⟩
  · obtain ⟨b, _, _, _, _, _, h8⟩ := htab rfl
    obtain ⟨rfl, rfl⟩ := hxy h8
    clear htab h8
    by_cases h1 : on = 0
    · have e1 : ((on : Int) != 0) = false := by rw [h1]; rfl
      have hdd : decide (on ≠ 0) = false := decide_eq_false (by omega)
      have HD := Lib.hid hdd
      clear h1 hdd
      go_wp2_with fail
      refine (HT.out _).mono ?_
      rintro e w3 ⟨rfl, rfl⟩
      go_wp2_with fail
      go_ret
      exact ⟨by rw [HD.out]; rfl, HB.out⟩
    · have e1 : ((on : Int) != 0) = true := bne_iff_ne.2 (by omega)
      have HD1 : Hid (decide (on ≠ 0) = true) := decide_eq_true h1
      clear h1
      by_cases h2 : ze = 0
      · have e2 : ((ze : Int) != 0) = false := by rw [h2]; rfl
        have HD : Hid (decide (ze ≠ 0) = false) := decide_eq_false (by omega)
        clear h2
        go_wp2_with fail
        refine (HT.out _).mono ?_
        rintro e w3 ⟨rfl, rfl⟩
        go_wp2_with fail
        go_ret
        exact ⟨by rw [HD1.out, HD.out]; rfl, HB.out⟩
      · have e2 : ((ze : Int) != 0) = true := bne_iff_ne.2 (by omega)
        have HD2 : Hid (decide (ze ≠ 0) = true) := decide_eq_true h2
        clear h2
        go_wp2_with fail
        refine (HT.out _).mono ?_
        rintro e w3 ⟨rfl, rfl⟩
        go_wp2_with fail
        go_ret
        exact ⟨by rw [HD1.out, HD2.out]; rfl, HB.out⟩

theorem let_part (k : Nat) (hk : k < 3) : (⟨#[120, 121, 122]⟩ : ByteArray).extract k (k + 1) = str [litB k true] ∧ (⟨#[88, 89, 90]⟩ : ByteArray).extract k (k + 1) = str [litB k false] := by
  have e : ∀ k : Fin 3, ((⟨#[120, 121, 122]⟩ : ByteArray).extract k.1 (k.1 + 1)).data.toList = [litB k.1 true] ∧ ((⟨#[88, 89, 90]⟩ : ByteArray).extract k.1 (k.1 + 1)).data.toList = [litB k.1 false] := by decide
  exact ⟨Read.eq_str (e ⟨k, hk⟩).1, Read.eq_str (e ⟨k, hk⟩).2⟩
set_option maxHeartbeats 4000000 in
set_option maxRecDepth 100000 in
theorem form_leaf (b : V3) (R C : Nat) (hR : R < 256) (hR0 : R ≠ 0) (w : World) :
    Calls Tryz.prog 39 #[.string (str (text (.leaf b))), rect R C] w fun e w' => e = .returned (.string (str (Fm.text (frmS (.leaf b) R C)))) ∧ Below w.heap.size w w' := by
  have HL : Hid (∀ W, Calls Tryz.prog 70 #[.string (str (text (.leaf b)))] W fun e w' => e = .returned (.bool true) ∧ W = w') := leaf_yes _ (by rw [str_size]; rfl)
  obtain ⟨hk, hx0⟩ := at_drop (s := str (text (.leaf b))) (k := 0) (c := gD b) (r := []) (by rw [str_data]; rfl)
  have hn : ((str (text (.leaf b)))[0]'hk).toNat = (gD b).toNat := by rw [hx0]
  obtain ⟨hl1, hl2, hl3⟩ := least_in hR hR0
  have HIN := Lib.hid (fun (x : Nat) (hx : x < 8) W => l2In_any R x hR hx W)
  have HIX := Lib.hid (fun (i : Nat) (hi : i < 8) W => l2In_any (leastN R) i (by omega) hi W)
  have hg3 := gN_lt b
  have hgd : ((gD b).toNat : Int) - 48 = (gN b : Int) := by cases b <;> rfl
  have HRES : Hid (str (Fm.text (frmS (.leaf b) R C)) = str [litB (gN b) ((leastN R).testBit (gN b))]) := rfl
  obtain ⟨p1, p2⟩ := let_part (gN b) hg3
  obtain ⟨res, hres⟩ : ∃ res, str (Fm.text (frmS (.leaf b) R C)) = res := ⟨_, rfl⟩
  rw [hres] at HRES ⊢
  clear hres hx0
  generalize str (text (.leaf b)) = s at *
  generalize (gD b).toNat = d at *
  generalize gN b = g at *
  rw [← hn] at hgd
  clear hn
  have HLA := Lib.hid (And.intro hl1 hl3)
  have HP := Lib.hid (And.intro p1 p2)
  clear hl1 hl3 p1 p2
  generalize leastN R = L at *
  have hb0 := (Below.refl w.heap.size w).alloc (Nat.le_refl _) (.cells #[.int .i64 (R : Int), .int .i64 (C : Int)] 51)
  have hrow := heap_alloc_new w (.cells #[.int .i64 (R : Int), .int .i64 (C : Int)] 51)
  have HB0 := Lib.hid hb0
  have HRW := Lib.hid hrow
  clear hb0 hrow
  go_enter Tryz.func39, Tryz.ntmps39
  go_wp2_with fail
  refine (HL.out _).mono ?_
  rintro e w1 ⟨rfl, rfl⟩
  go_wp2_with fail
  obtain ⟨X, hX⟩ : ∃ X, w.heap.size = X := ⟨_, rfl⟩
  rw [hX] at HRW ⊢
  generalize w.alloc (.cells #[.int .i64 (R : Int), .int .i64 (C : Int)] 51) = W1 at *
  obtain ⟨c0, c1, _, _⟩ := cells2 HRW.out
  have HXX := Lib.hid hX
  clear hX
  go_loop [6] (fun i => ∃ x : Nat, x ≤ L ∧ i = .int .i64 (x : Int)) (fun i => L - (intOf i).toNat)
  case atStart => exact ⟨0, Nat.zero_le _, rfl⟩
  case round =>
    obtain ⟨x, hx, rfl⟩ := hrel
    have HI := Lib.hid (HIN.out x (by omega))
    by_cases hlt : x < L
    · have hbit := HLA.out.2 x hlt
      rw [hbit] at HI
      clear hbit
      go_wp2_with fail
      refine (HI.out _).mono ?_
      rintro e w2 ⟨rfl, rfl⟩
      go_wp2_with fail
      go_round
      case rel => exact ⟨x + 1, by omega, by go_num⟩
      case measure => simp [intOf]; omega
    · obtain rfl : x = L := by omega
      have hbit := HLA.out.1
      rw [hbit] at HI
      have HJ := Lib.hid (HIX.out g (by omega))
      obtain ⟨v, hv⟩ : ∃ v, x.testBit g = v := ⟨_, rfl⟩
      rw [hv] at HJ HRES
      clear hbit hv HIX HIN HLA
      cases v
      · have hpp := HP.out.2
        have HR2 : Hid (res = str [litB g false]) := HRES.out
        generalize str [litB g false] = q at *
        clear HRES HP
        have hg33 : (g : Int) + 1 ≤ 3 := by omega
        go_wp2_with fail
        refine (HI.out _).mono ?_
        rintro e w2 ⟨rfl, rfl⟩
        go_wp2_with fail
        refine (HJ.out _).mono ?_
        rintro e w2 ⟨rfl, rfl⟩
        go_wp2_with fail
        go_ret
        exact ⟨by rw [HR2.out, ← hpp]; rfl, HB0.out⟩
      · have hpp := HP.out.1
        have HR2 : Hid (res = str [litB g true]) := HRES.out
        generalize str [litB g true] = q at *
        clear HRES HP
        have hg33 : (g : Int) + 1 ≤ 3 := by omega
        go_wp2_with fail
        refine (HI.out _).mono ?_
        rintro e w2 ⟨rfl, rfl⟩
        go_wp2_with fail
        refine (HJ.out _).mono ?_
        rintro e w2 ⟨rfl, rfl⟩
        go_wp2_with fail
        go_ret
        exact ⟨by rw [HR2.out, ← hpp]; rfl, HB0.out⟩

set_option maxHeartbeats 8000000 in
set_option maxRecDepth 100000 in
/-- the reference's formula -/
theorem form_said (t : T) : wf t → (text t).length ≤ 2000 → ∀ (R C : Nat), R < 256 → C < 256 → R ≠ 0 → C ≠ 0 → ∀ w : World,
    Calls Tryz.prog 39 #[.string (str (text t)), rect R C] w fun e w' => e = .returned (.string (str (Fm.text (frmS t R C)))) ∧ Below w.heap.size w w' := by
  induction t with
  | leaf b => exact fun _ _ R C hR _ hR0 _ w => form_leaf b R C hR hR0 w
  | say a s z o ihz iho =>
    intro hw hl R C hR hC hR0 hC0 w
    have hlz : (text (.say a s z o)).length = (text z).length + (text o).length + 3 := by simp [text]
    obtain ⟨h1, h2, h3, h4⟩ := parts_lt a s hR hC
    have HL : Hid (∀ W, Calls Tryz.prog 70 #[.string (str (text (.say a s z o)))] W fun e w' => e = .returned (.bool false) ∧ W = w') := leaf_no _ (by rw [str_size]; omega)
    have HPA := Lib.hid (parts_w a s z o hw.2.1 (str (text (.say a s z o))) (str_data _) (by rw [str_size]; omega))
    have HSP := Lib.hid (split_said a s z o hw.1 (str (text (.say a s z o))) (str_data _) (by rw [str_size]; omega) R C hR hC)
    obtain ⟨hk, hx0⟩ := at_drop (s := str (text (.say a s z o))) (k := 0) (c := whoB a) (r := hexD (s / 16) :: hexD (s % 16) :: (text z ++ text o)) (by rw [str_data]; rfl)
    have hn : ((str (text (.say a s z o)))[0]'hk).toNat = (whoB a).toNat := by rw [hx0]
    have HN := Lib.hid hn
    have hZ := fun (g1 : outR a s R ≠ 0) (g2 : outC a s C ≠ 0) => ihz hw.2.1 (by omega) (outR a s R) (outC a s C) h1 h2 g1 g2
    have hO := fun (g1 : inR a s R ≠ 0) (g2 : inC a s C ≠ 0) => iho hw.2.2 (by omega) (inR a s R) (inC a s C) h3 h4 g1 g2
    have HNB := Lib.hid (not_both a s hR hC (by omega) (by omega))
    have hfr : frmS (.say a s z o) R C = if outR a s R = 0 ∨ outC a s C = 0 then frmS o (inR a s R) (inC a s C) else if inR a s R = 0 ∨ inC a s C = 0 then frmS z (outR a s R) (outC a s C) else .gate (!a) (frmS z (outR a s R) (outC a s C)) (frmS o (inR a s R) (inC a s C)) := rfl
    have HNB2 : Hid (outR a s R = 0 ∨ outC a s C = 0 → inR a s R ≠ 0 ∧ inC a s C ≠ 0) := fun h => by
      obtain ⟨e1, e2⟩ := out_none a s R C hR hC hR0 hC0 h
      exact ⟨by rw [e1]; exact hR0, by rw [e2]; exact hC0⟩
    have hszz := frm_size z (outR a s R) (outC a s C) h1 h2
    have hszo := frm_size o (inR a s R) (inC a s C) h3 h4
    rw [hfr]
    generalize str (text (.say a s z o)) = st at *
    generalize str (text z) = sz at *
    generalize str (text o) = so at *
    generalize outR a s R = oR at *
    generalize outC a s C = oC at *
    generalize inR a s R = iR at *
    generalize inC a s C = iC at *
    have hb0 := (Below.refl w.heap.size w).alloc (Nat.le_refl _) (.cells #[.int .i64 (R : Int), .int .i64 (C : Int)] 51)
    have hrow := heap_alloc_new w (.cells #[.int .i64 (R : Int), .int .i64 (C : Int)] 51)
    have HB0 := Lib.hid hb0
    have HRW := Lib.hid hrow
    clear hb0 hrow hx0 hn hl hlz hw ihz iho hfr
    by_cases a1 : oR = 0
    · rw [if_pos (.inl a1)]
      have HO := Lib.hid (hO (HNB2.out (.inl a1)).1 (HNB2.out (.inl a1)).2)
      have z1 : ((oR : Int) == 0) = true := by rw [a1]; rfl
      clear hO hZ HNB HNB2 hszz hszo a1
      go_enter Tryz.func39, Tryz.ntmps39
      go_wp2_with fail
      refine (HL.out _).mono ?_
      rintro e w1 ⟨rfl, rfl⟩
      go_wp2_with fail
      refine (HPA.out _).mono ?_
      rintro e w2 ⟨rfl, hb2⟩
      have HR2 : Hid (w2.heap[w.heap.size]? = some (.cells #[.int .i64 (R : Int), .int .i64 (C : Int)] 51 (0, 0))) := (hb2.block _ (by simp)).trans HRW.out
      have HB2 := Lib.hid (HB0.out.trans (hb2.mono HB0.out.size))
      clear hb2
      go_wp2_with (have Z := HR2.out; refine wpList_load_row rfl 51 (.tmp 3) rfl w.heap.size rfl 51 _ (0, 0) _ Z Tryz.underlying51 rfl (info_rect _ _) ?_; clear Z)
      refine (HSP.out _).mono ?_
      rintro e w3 ⟨rfl, hb3⟩
      have HB3 := Lib.hid (HB2.out.trans (hb3.mono HB2.out.size))
      obtain ⟨D, hD⟩ : ∃ D, w3.heap.size = D := ⟨_, rfl⟩
      have hZA : ((w3.alloc (.cells #[.int .i64 (oR : Int), .int .i64 (oC : Int)] 51)).alloc (.cells #[.int .i64 (iR : Int), .int .i64 (iC : Int)] 51)).heap[D]? = some (.cells #[.int .i64 (oR : Int), .int .i64 (oC : Int)] 51 (0, 0)) := by
        rw [← hD, Below.heap_alloc _ _ _ (by simp)]; exact heap_alloc_new w3 _
      have hZB : ((w3.alloc (.cells #[.int .i64 (oR : Int), .int .i64 (oC : Int)] 51)).alloc (.cells #[.int .i64 (iR : Int), .int .i64 (iC : Int)] 51)).heap[D + 1]? = some (.cells #[.int .i64 (iR : Int), .int .i64 (iC : Int)] 51 (0, 0)) := by
        have h := heap_alloc_new (w3.alloc (.cells #[.int .i64 (oR : Int), .int .i64 (oC : Int)] 51)) (.cells #[.int .i64 (iR : Int), .int .i64 (iC : Int)] 51)
        rw [World.size_alloc] at h
        rw [← hD]; exact h
      have HB4 := Lib.hid ((HB3.out.alloc HB3.out.size (.cells #[.int .i64 (oR : Int), .int .i64 (oC : Int)] 51)).alloc (by have := HB3.out.size; simp; omega) (.cells #[.int .i64 (iR : Int), .int .i64 (iC : Int)] 51))
      have HZA := Lib.hid hZA
      have HZB := Lib.hid hZB
      have HDD := Lib.hid hD
      clear hb3 hZA hZB hD HB3 HB2 HR2 HRW HB0
      go_wp2_with fail
      refine (HO.out _).mono ?_
      rintro e w5 ⟨rfl, hb5⟩
      have HB5 := Lib.hid (HB4.out.trans (hb5.mono HB4.out.size))
      clear hb5
      go_wp2_with fail
      go_ret
      exact ⟨rfl, HB5.out⟩
    by_cases a2 : oC = 0
    · rw [if_pos (.inr a2)]
      have HO := Lib.hid (hO (HNB2.out (.inr a2)).1 (HNB2.out (.inr a2)).2)
      have z1 : ((oR : Int) == 0) = false := beq_false_of_ne (by omega)
      have z2 : ((oC : Int) == 0) = true := by rw [a2]; rfl
      clear hO hZ HNB HNB2 hszz hszo a1 a2
      go_enter Tryz.func39, Tryz.ntmps39
      go_wp2_with fail
      refine (HL.out _).mono ?_
      rintro e w1 ⟨rfl, rfl⟩
      go_wp2_with fail
      refine (HPA.out _).mono ?_
      rintro e w2 ⟨rfl, hb2⟩
      have HR2 : Hid (w2.heap[w.heap.size]? = some (.cells #[.int .i64 (R : Int), .int .i64 (C : Int)] 51 (0, 0))) := (hb2.block _ (by simp)).trans HRW.out
      have HB2 := Lib.hid (HB0.out.trans (hb2.mono HB0.out.size))
      clear hb2
      go_wp2_with (have Z := HR2.out; refine wpList_load_row rfl 51 (.tmp 3) rfl w.heap.size rfl 51 _ (0, 0) _ Z Tryz.underlying51 rfl (info_rect _ _) ?_; clear Z)
      refine (HSP.out _).mono ?_
      rintro e w3 ⟨rfl, hb3⟩
      have HB3 := Lib.hid (HB2.out.trans (hb3.mono HB2.out.size))
      obtain ⟨D, hD⟩ : ∃ D, w3.heap.size = D := ⟨_, rfl⟩
      have hZA : ((w3.alloc (.cells #[.int .i64 (oR : Int), .int .i64 (oC : Int)] 51)).alloc (.cells #[.int .i64 (iR : Int), .int .i64 (iC : Int)] 51)).heap[D]? = some (.cells #[.int .i64 (oR : Int), .int .i64 (oC : Int)] 51 (0, 0)) := by
        rw [← hD, Below.heap_alloc _ _ _ (by simp)]; exact heap_alloc_new w3 _
      have hZB : ((w3.alloc (.cells #[.int .i64 (oR : Int), .int .i64 (oC : Int)] 51)).alloc (.cells #[.int .i64 (iR : Int), .int .i64 (iC : Int)] 51)).heap[D + 1]? = some (.cells #[.int .i64 (iR : Int), .int .i64 (iC : Int)] 51 (0, 0)) := by
        have h := heap_alloc_new (w3.alloc (.cells #[.int .i64 (oR : Int), .int .i64 (oC : Int)] 51)) (.cells #[.int .i64 (iR : Int), .int .i64 (iC : Int)] 51)
        rw [World.size_alloc] at h
        rw [← hD]; exact h
      have HB4 := Lib.hid ((HB3.out.alloc HB3.out.size (.cells #[.int .i64 (oR : Int), .int .i64 (oC : Int)] 51)).alloc (by have := HB3.out.size; simp; omega) (.cells #[.int .i64 (iR : Int), .int .i64 (iC : Int)] 51))
      have HZA := Lib.hid hZA
      have HZB := Lib.hid hZB
      have HDD := Lib.hid hD
      clear hb3 hZA hZB hD HB3 HB2 HR2 HRW HB0
      go_wp2_with fail
      refine (HO.out _).mono ?_
      rintro e w5 ⟨rfl, hb5⟩
      have HB5 := Lib.hid (HB4.out.trans (hb5.mono HB4.out.size))
      clear hb5
      go_wp2_with fail
      go_ret
      exact ⟨rfl, HB5.out⟩
    have z1 : ((oR : Int) == 0) = false := beq_false_of_ne (by omega)
    have z2 : ((oC : Int) == 0) = false := beq_false_of_ne (by omega)
    rw [if_neg (by omega)]
    have HZ := Lib.hid (hZ a1 a2)
    by_cases a3 : iR = 0
    · rw [if_pos (.inl a3)]
      have z3 : ((iR : Int) == 0) = true := by rw [a3]; rfl
      clear hO hZ HNB HNB2 hszz hszo a1 a2 a3
      go_enter Tryz.func39, Tryz.ntmps39
      go_wp2_with fail
      refine (HL.out _).mono ?_
      rintro e w1 ⟨rfl, rfl⟩
      go_wp2_with fail
      refine (HPA.out _).mono ?_
      rintro e w2 ⟨rfl, hb2⟩
      have HR2 : Hid (w2.heap[w.heap.size]? = some (.cells #[.int .i64 (R : Int), .int .i64 (C : Int)] 51 (0, 0))) := (hb2.block _ (by simp)).trans HRW.out
      have HB2 := Lib.hid (HB0.out.trans (hb2.mono HB0.out.size))
      clear hb2
      go_wp2_with (have Z := HR2.out; refine wpList_load_row rfl 51 (.tmp 3) rfl w.heap.size rfl 51 _ (0, 0) _ Z Tryz.underlying51 rfl (info_rect _ _) ?_; clear Z)
      refine (HSP.out _).mono ?_
      rintro e w3 ⟨rfl, hb3⟩
      have HB3 := Lib.hid (HB2.out.trans (hb3.mono HB2.out.size))
      obtain ⟨D, hD⟩ : ∃ D, w3.heap.size = D := ⟨_, rfl⟩
      have hZA : ((w3.alloc (.cells #[.int .i64 (oR : Int), .int .i64 (oC : Int)] 51)).alloc (.cells #[.int .i64 (iR : Int), .int .i64 (iC : Int)] 51)).heap[D]? = some (.cells #[.int .i64 (oR : Int), .int .i64 (oC : Int)] 51 (0, 0)) := by
        rw [← hD, Below.heap_alloc _ _ _ (by simp)]; exact heap_alloc_new w3 _
      have hZB : ((w3.alloc (.cells #[.int .i64 (oR : Int), .int .i64 (oC : Int)] 51)).alloc (.cells #[.int .i64 (iR : Int), .int .i64 (iC : Int)] 51)).heap[D + 1]? = some (.cells #[.int .i64 (iR : Int), .int .i64 (iC : Int)] 51 (0, 0)) := by
        have h := heap_alloc_new (w3.alloc (.cells #[.int .i64 (oR : Int), .int .i64 (oC : Int)] 51)) (.cells #[.int .i64 (iR : Int), .int .i64 (iC : Int)] 51)
        rw [World.size_alloc] at h
        rw [← hD]; exact h
      have HB4 := Lib.hid ((HB3.out.alloc HB3.out.size (.cells #[.int .i64 (oR : Int), .int .i64 (oC : Int)] 51)).alloc (by have := HB3.out.size; simp; omega) (.cells #[.int .i64 (iR : Int), .int .i64 (iC : Int)] 51))
      have HZA := Lib.hid hZA
      have HZB := Lib.hid hZB
      have HDD := Lib.hid hD
      clear hb3 hZA hZB hD HB3 HB2 HR2 HRW HB0
      go_wp2_with fail
      refine (HZ.out _).mono ?_
      rintro e w5 ⟨rfl, hb5⟩
      have HB5 := Lib.hid (HB4.out.trans (hb5.mono HB4.out.size))
      clear hb5
      go_wp2_with fail
      go_ret
      exact ⟨rfl, HB5.out⟩
    by_cases a4 : iC = 0
    · rw [if_pos (.inr a4)]
      have z3 : ((iR : Int) == 0) = false := beq_false_of_ne (by omega)
      have z4 : ((iC : Int) == 0) = true := by rw [a4]; rfl
      clear hO hZ HNB HNB2 hszz hszo a1 a2 a3 a4
      go_enter Tryz.func39, Tryz.ntmps39
      go_wp2_with fail
      refine (HL.out _).mono ?_
      rintro e w1 ⟨rfl, rfl⟩
      go_wp2_with fail
      refine (HPA.out _).mono ?_
      rintro e w2 ⟨rfl, hb2⟩
      have HR2 : Hid (w2.heap[w.heap.size]? = some (.cells #[.int .i64 (R : Int), .int .i64 (C : Int)] 51 (0, 0))) := (hb2.block _ (by simp)).trans HRW.out
      have HB2 := Lib.hid (HB0.out.trans (hb2.mono HB0.out.size))
      clear hb2
      go_wp2_with (have Z := HR2.out; refine wpList_load_row rfl 51 (.tmp 3) rfl w.heap.size rfl 51 _ (0, 0) _ Z Tryz.underlying51 rfl (info_rect _ _) ?_; clear Z)
      refine (HSP.out _).mono ?_
      rintro e w3 ⟨rfl, hb3⟩
      have HB3 := Lib.hid (HB2.out.trans (hb3.mono HB2.out.size))
      obtain ⟨D, hD⟩ : ∃ D, w3.heap.size = D := ⟨_, rfl⟩
      have hZA : ((w3.alloc (.cells #[.int .i64 (oR : Int), .int .i64 (oC : Int)] 51)).alloc (.cells #[.int .i64 (iR : Int), .int .i64 (iC : Int)] 51)).heap[D]? = some (.cells #[.int .i64 (oR : Int), .int .i64 (oC : Int)] 51 (0, 0)) := by
        rw [← hD, Below.heap_alloc _ _ _ (by simp)]; exact heap_alloc_new w3 _
      have hZB : ((w3.alloc (.cells #[.int .i64 (oR : Int), .int .i64 (oC : Int)] 51)).alloc (.cells #[.int .i64 (iR : Int), .int .i64 (iC : Int)] 51)).heap[D + 1]? = some (.cells #[.int .i64 (iR : Int), .int .i64 (iC : Int)] 51 (0, 0)) := by
        have h := heap_alloc_new (w3.alloc (.cells #[.int .i64 (oR : Int), .int .i64 (oC : Int)] 51)) (.cells #[.int .i64 (iR : Int), .int .i64 (iC : Int)] 51)
        rw [World.size_alloc] at h
        rw [← hD]; exact h
      have HB4 := Lib.hid ((HB3.out.alloc HB3.out.size (.cells #[.int .i64 (oR : Int), .int .i64 (oC : Int)] 51)).alloc (by have := HB3.out.size; simp; omega) (.cells #[.int .i64 (iR : Int), .int .i64 (iC : Int)] 51))
      have HZA := Lib.hid hZA
      have HZB := Lib.hid hZB
      have HDD := Lib.hid hD
      clear hb3 hZA hZB hD HB3 HB2 HR2 HRW HB0
      go_wp2_with fail
      refine (HZ.out _).mono ?_
      rintro e w5 ⟨rfl, hb5⟩
      have HB5 := Lib.hid (HB4.out.trans (hb5.mono HB4.out.size))
      clear hb5
      go_wp2_with fail
      go_ret
      exact ⟨rfl, HB5.out⟩
    have z3 : ((iR : Int) == 0) = false := beq_false_of_ne (by omega)
    have z4 : ((iC : Int) == 0) = false := beq_false_of_ne (by omega)
    rw [if_neg (by omega)]
    have HO := Lib.hid (hO a3 a4)
    have hts : (Fm.text (frmS z oR oC)).length ≤ 1000 ∧ (Fm.text (frmS o iR iC)).length ≤ 1000 := by
      have e1 := Fm.text_size (frmS z oR oC)
      have e2 := Fm.text_size (frmS o iR iC)
      have k1 := hszz a1 a2
      have k2 := hszo a3 a4
      have m : ∀ n, cnt n ≤ 8 := fun n => by unfold cnt; exact Nat.le_trans (List.countP_le_length) (by simp)
      have q1 : cnt oR * cnt oC ≤ 8 * 8 := Nat.mul_le_mul (m _) (m _)
      have q2 : cnt iR * cnt iC ≤ 8 * 8 := Nat.mul_le_mul (m _) (m _)
      omega
    have hq : ∀ b : Bool, str [sgn b] ++ str (Fm.text (frmS z oR oC)) ++ str (Fm.text (frmS o iR iC)) = str (Fm.text (.gate b (frmS z oR oC) (frmS o iR iC))) := fun b => by
      rw [str_append, str_append]
      simp [Fm.text]
    have hz1 : (str (Fm.text (frmS z oR oC))).size ≤ 1000 := by rw [str_size]; exact hts.1
    have ho1 : (str (Fm.text (frmS o iR iC))).size ≤ 1000 := by rw [str_size]; exact hts.2
    have HQ := Lib.hid (hq (!a))
    generalize str (Fm.text (.gate (!a) (frmS z oR oC) (frmS o iR iC))) = res at *
    generalize str (Fm.text (frmS z oR oC)) = fz at *
    generalize str (Fm.text (frmS o iR iC)) = fo at *
    clear hO hZ HNB HNB2 hszz hszo a1 a2 a3 a4 hts hq
    cases a
    · have hn' : (st[0]'hk).toNat = 66 := HN.out
      have HQ2 : Hid (⟨#[38]⟩ ++ fz ++ fo = res) := HQ.out
      clear HN HQ
      go_enter Tryz.func39, Tryz.ntmps39
      go_wp2_with fail
      refine (HL.out _).mono ?_
      rintro e w1 ⟨rfl, rfl⟩
      go_wp2_with fail
      refine (HPA.out _).mono ?_
      rintro e w2 ⟨rfl, hb2⟩
      have HR2 : Hid (w2.heap[w.heap.size]? = some (.cells #[.int .i64 (R : Int), .int .i64 (C : Int)] 51 (0, 0))) := (hb2.block _ (by simp)).trans HRW.out
      have HB2 := Lib.hid (HB0.out.trans (hb2.mono HB0.out.size))
      clear hb2
      go_wp2_with (have Z := HR2.out; refine wpList_load_row rfl 51 (.tmp 3) rfl w.heap.size rfl 51 _ (0, 0) _ Z Tryz.underlying51 rfl (info_rect _ _) ?_; clear Z)
      refine (HSP.out _).mono ?_
      rintro e w3 ⟨rfl, hb3⟩
      have HB3 := Lib.hid (HB2.out.trans (hb3.mono HB2.out.size))
      obtain ⟨D, hD⟩ : ∃ D, w3.heap.size = D := ⟨_, rfl⟩
      have hZA : ((w3.alloc (.cells #[.int .i64 (oR : Int), .int .i64 (oC : Int)] 51)).alloc (.cells #[.int .i64 (iR : Int), .int .i64 (iC : Int)] 51)).heap[D]? = some (.cells #[.int .i64 (oR : Int), .int .i64 (oC : Int)] 51 (0, 0)) := by
        rw [← hD, Below.heap_alloc _ _ _ (by simp)]; exact heap_alloc_new w3 _
      have hZB : ((w3.alloc (.cells #[.int .i64 (oR : Int), .int .i64 (oC : Int)] 51)).alloc (.cells #[.int .i64 (iR : Int), .int .i64 (iC : Int)] 51)).heap[D + 1]? = some (.cells #[.int .i64 (iR : Int), .int .i64 (iC : Int)] 51 (0, 0)) := by
        have h := heap_alloc_new (w3.alloc (.cells #[.int .i64 (oR : Int), .int .i64 (oC : Int)] 51)) (.cells #[.int .i64 (iR : Int), .int .i64 (iC : Int)] 51)
        rw [World.size_alloc] at h
        rw [← hD]; exact h
      have HB4 := Lib.hid ((HB3.out.alloc HB3.out.size (.cells #[.int .i64 (oR : Int), .int .i64 (oC : Int)] 51)).alloc (by have := HB3.out.size; simp; omega) (.cells #[.int .i64 (iR : Int), .int .i64 (iC : Int)] 51))
      have HZA := Lib.hid hZA
      have HZB := Lib.hid hZB
      have HDD := Lib.hid hD
      clear hb3 hZA hZB hD HB3 HB2 HR2 HRW HB0
      go_wp2_with fail
      try rw [HDD.out]
      obtain ⟨W4, hW4⟩ : ∃ W4, (w3.alloc (.cells #[.int .i64 (oR : Int), .int .i64 (oC : Int)] 51)).alloc (.cells #[.int .i64 (iR : Int), .int .i64 (iC : Int)] 51) = W4 := ⟨_, rfl⟩
      rw [hW4] at HZA HZB HB4 ⊢
      have HDA : Hid (∀ wx : World, Below W4.heap.size W4 wx → wx.heap[D]? = some (.cells #[.int .i64 (oR : Int), .int .i64 (oC : Int)] 51 (0, 0))) := fun wx h => (h.block _ (Array.getElem?_eq_some_iff.1 HZA.out).1).trans HZA.out
      have HDB : Hid (∀ wx : World, Below W4.heap.size W4 wx → wx.heap[D + 1]? = some (.cells #[.int .i64 (iR : Int), .int .i64 (iC : Int)] 51 (0, 0))) := fun wx h => (h.block _ (Array.getElem?_eq_some_iff.1 HZB.out).1).trans HZB.out
      clear hW4 HZA HZB
      refine wp_region_below (fun | 0 => .string sz | 1 => rect oR oC | 2 => .string fz | 3 => .string (⟨#[38]⟩ ++ fz) | 4 => .string so | 5 => rect iR iC | 6 => .string fo | 7 => .string (⟨#[38]⟩ ++ fz ++ fo) | 8 => .string (⟨#[38]⟩ ++ fz ++ fo) | _ => undef) (by kernel_rfl) (by kernel_rfl) rfl ?conGfalse ?enGfalse
      case conGfalse =>
        intro i o ho a wx hb hf
        match i, ho with
        | 0, ho =>
          obtain rfl := Option.some.inj ho
          have b7 : a.tmps[7]?.getD undef = .string sz := hf.2 7 (by kernel_rfl)
          exact wp_value (.string sz) (by unfold execOp; go_simp) ⟨rfl, Below.refl _ _⟩
        | 1, ho =>
          obtain rfl := Option.some.inj ho
          have b9 : a.tmps[9]?.getD undef = .pointer (some ⟨D, 0, none⟩) := hf.2 9 (by kernel_rfl)
          exact wp_load_row 51 (.tmp 9) rfl D (eval_get b9) 51 _ (0, 0) _ (HDA.out _ hb) Tryz.underlying51 rfl (info_rect _ _) ⟨rfl, Below.refl _ _⟩
        | 2, ho =>
          obtain rfl := Option.some.inj ho
          have e82 : a.tmps[82]?.getD undef = .string sz := hf.1 ⟨0, .data⟩ (by simp) rfl _ 82 rfl rfl
          have e83 : a.tmps[83]?.getD undef = rect oR oC := hf.1 ⟨1, .data⟩ (by simp) rfl _ 83 rfl rfl
          exact wp_enter 39 #[.string sz, rect oR oC] (.string fz) _ (by unfold execOp; go_simp) (HZ.out wx) (fun w' h => ⟨rfl, h⟩)
        | 3, ho =>
          obtain rfl := Option.some.inj ho
          have e84 : a.tmps[84]?.getD undef = .string fz := hf.1 ⟨2, .data⟩ (by simp) rfl _ 84 rfl rfl
          have hcat := run_string_add_sum (P := Tryz.prog) (w := wx) (⟨#[38]⟩ : ByteArray) fz (by show 1 + _ ≤ _; omega)
          exact wp_value (.string (⟨#[38]⟩ ++ fz)) (by unfold execOp; go_simp) ⟨rfl, Below.refl _ _⟩
        | 4, ho =>
          obtain rfl := Option.some.inj ho
          have b8 : a.tmps[8]?.getD undef = .string so := hf.2 8 (by kernel_rfl)
          exact wp_value (.string so) (by unfold execOp; go_simp) ⟨rfl, Below.refl _ _⟩
        | 5, ho =>
          obtain rfl := Option.some.inj ho
          have b10 : a.tmps[10]?.getD undef = .pointer (some ⟨D + 1, 0, none⟩) := hf.2 10 (by kernel_rfl)
          exact wp_load_row 51 (.tmp 10) rfl (D + 1) (eval_get b10) 51 _ (0, 0) _ (HDB.out _ hb) Tryz.underlying51 rfl (info_rect _ _) ⟨rfl, Below.refl _ _⟩
        | 6, ho =>
          obtain rfl := Option.some.inj ho
          have e86 : a.tmps[86]?.getD undef = .string so := hf.1 ⟨4, .data⟩ (by simp) rfl _ 86 rfl rfl
          have e87 : a.tmps[87]?.getD undef = rect iR iC := hf.1 ⟨5, .data⟩ (by simp) rfl _ 87 rfl rfl
          exact wp_enter 39 #[.string so, rect iR iC] (.string fo) _ (by unfold execOp; go_simp) (HO.out wx) (fun w' h => ⟨rfl, h⟩)
        | 7, ho =>
          obtain rfl := Option.some.inj ho
          have e85 : a.tmps[85]?.getD undef = .string (⟨#[38]⟩ ++ fz) := hf.1 ⟨3, .data⟩ (by simp) rfl _ 85 rfl rfl
          have e88 : a.tmps[88]?.getD undef = .string fo := hf.1 ⟨6, .data⟩ (by simp) rfl _ 88 rfl rfl
          have hcat := run_string_add_sum (P := Tryz.prog) (w := wx) (⟨#[38]⟩ ++ fz) fo (by rw [ByteArray.size_append]; show 1 + _ + _ ≤ _; omega)
          exact wp_value (.string (⟨#[38]⟩ ++ fz ++ fo)) (by unfold execOp; go_simp) ⟨rfl, Below.refl _ _⟩
        | 8, ho =>
          obtain rfl := Option.some.inj ho
          have e89 : a.tmps[89]?.getD undef = .string (⟨#[38]⟩ ++ fz ++ fo) := hf.1 ⟨7, .data⟩ (by simp) rfl _ 89 rfl rfl
          exact wp_value (.string (⟨#[38]⟩ ++ fz ++ fo)) (by unfold execOp; go_simp) ⟨rfl, Below.refl _ _⟩
        | q + 9, ho => simp at ho
      case enGfalse =>
        intro w5 hb5
        have HB5 : Hid (Below w.heap.size w w5) := HB4.out.trans (hb5.mono HB4.out.size)
        clear hb5
        simp only [fill, Act.put]
        go_simp
        go_wp2_with fail
        go_ret
        exact ⟨by rw [← HQ2.out]; rfl, HB5.out⟩
    · have hn' : (st[0]'hk).toNat = 65 := HN.out
      have HQ2 : Hid (⟨#[124]⟩ ++ fz ++ fo = res) := HQ.out
      clear HN HQ
      go_enter Tryz.func39, Tryz.ntmps39
      go_wp2_with fail
      refine (HL.out _).mono ?_
      rintro e w1 ⟨rfl, rfl⟩
      go_wp2_with fail
      refine (HPA.out _).mono ?_
      rintro e w2 ⟨rfl, hb2⟩
      have HR2 : Hid (w2.heap[w.heap.size]? = some (.cells #[.int .i64 (R : Int), .int .i64 (C : Int)] 51 (0, 0))) := (hb2.block _ (by simp)).trans HRW.out
      have HB2 := Lib.hid (HB0.out.trans (hb2.mono HB0.out.size))
      clear hb2
      go_wp2_with (have Z := HR2.out; refine wpList_load_row rfl 51 (.tmp 3) rfl w.heap.size rfl 51 _ (0, 0) _ Z Tryz.underlying51 rfl (info_rect _ _) ?_; clear Z)
      refine (HSP.out _).mono ?_
      rintro e w3 ⟨rfl, hb3⟩
      have HB3 := Lib.hid (HB2.out.trans (hb3.mono HB2.out.size))
      obtain ⟨D, hD⟩ : ∃ D, w3.heap.size = D := ⟨_, rfl⟩
      have hZA : ((w3.alloc (.cells #[.int .i64 (oR : Int), .int .i64 (oC : Int)] 51)).alloc (.cells #[.int .i64 (iR : Int), .int .i64 (iC : Int)] 51)).heap[D]? = some (.cells #[.int .i64 (oR : Int), .int .i64 (oC : Int)] 51 (0, 0)) := by
        rw [← hD, Below.heap_alloc _ _ _ (by simp)]; exact heap_alloc_new w3 _
      have hZB : ((w3.alloc (.cells #[.int .i64 (oR : Int), .int .i64 (oC : Int)] 51)).alloc (.cells #[.int .i64 (iR : Int), .int .i64 (iC : Int)] 51)).heap[D + 1]? = some (.cells #[.int .i64 (iR : Int), .int .i64 (iC : Int)] 51 (0, 0)) := by
        have h := heap_alloc_new (w3.alloc (.cells #[.int .i64 (oR : Int), .int .i64 (oC : Int)] 51)) (.cells #[.int .i64 (iR : Int), .int .i64 (iC : Int)] 51)
        rw [World.size_alloc] at h
        rw [← hD]; exact h
      have HB4 := Lib.hid ((HB3.out.alloc HB3.out.size (.cells #[.int .i64 (oR : Int), .int .i64 (oC : Int)] 51)).alloc (by have := HB3.out.size; simp; omega) (.cells #[.int .i64 (iR : Int), .int .i64 (iC : Int)] 51))
      have HZA := Lib.hid hZA
      have HZB := Lib.hid hZB
      have HDD := Lib.hid hD
      clear hb3 hZA hZB hD HB3 HB2 HR2 HRW HB0
      go_wp2_with fail
      try rw [HDD.out]
      obtain ⟨W4, hW4⟩ : ∃ W4, (w3.alloc (.cells #[.int .i64 (oR : Int), .int .i64 (oC : Int)] 51)).alloc (.cells #[.int .i64 (iR : Int), .int .i64 (iC : Int)] 51) = W4 := ⟨_, rfl⟩
      rw [hW4] at HZA HZB HB4 ⊢
      have HDA : Hid (∀ wx : World, Below W4.heap.size W4 wx → wx.heap[D]? = some (.cells #[.int .i64 (oR : Int), .int .i64 (oC : Int)] 51 (0, 0))) := fun wx h => (h.block _ (Array.getElem?_eq_some_iff.1 HZA.out).1).trans HZA.out
      have HDB : Hid (∀ wx : World, Below W4.heap.size W4 wx → wx.heap[D + 1]? = some (.cells #[.int .i64 (iR : Int), .int .i64 (iC : Int)] 51 (0, 0))) := fun wx h => (h.block _ (Array.getElem?_eq_some_iff.1 HZB.out).1).trans HZB.out
      clear hW4 HZA HZB
      refine wp_region_below (fun | 0 => .string sz | 1 => rect oR oC | 2 => .string fz | 3 => .string (⟨#[124]⟩ ++ fz) | 4 => .string so | 5 => rect iR iC | 6 => .string fo | 7 => .string (⟨#[124]⟩ ++ fz ++ fo) | 8 => .string (⟨#[124]⟩ ++ fz ++ fo) | _ => undef) (by kernel_rfl) (by kernel_rfl) rfl ?conGtrue ?enGtrue
      case conGtrue =>
        intro i o ho a wx hb hf
        match i, ho with
        | 0, ho =>
          obtain rfl := Option.some.inj ho
          have b7 : a.tmps[7]?.getD undef = .string sz := hf.2 7 (by kernel_rfl)
          exact wp_value (.string sz) (by unfold execOp; go_simp) ⟨rfl, Below.refl _ _⟩
        | 1, ho =>
          obtain rfl := Option.some.inj ho
          have b9 : a.tmps[9]?.getD undef = .pointer (some ⟨D, 0, none⟩) := hf.2 9 (by kernel_rfl)
          exact wp_load_row 51 (.tmp 9) rfl D (eval_get b9) 51 _ (0, 0) _ (HDA.out _ hb) Tryz.underlying51 rfl (info_rect _ _) ⟨rfl, Below.refl _ _⟩
        | 2, ho =>
          obtain rfl := Option.some.inj ho
          have e74 : a.tmps[74]?.getD undef = .string sz := hf.1 ⟨0, .data⟩ (by simp) rfl _ 74 rfl rfl
          have e75 : a.tmps[75]?.getD undef = rect oR oC := hf.1 ⟨1, .data⟩ (by simp) rfl _ 75 rfl rfl
          exact wp_enter 39 #[.string sz, rect oR oC] (.string fz) _ (by unfold execOp; go_simp) (HZ.out wx) (fun w' h => ⟨rfl, h⟩)
        | 3, ho =>
          obtain rfl := Option.some.inj ho
          have e76 : a.tmps[76]?.getD undef = .string fz := hf.1 ⟨2, .data⟩ (by simp) rfl _ 76 rfl rfl
          have hcat := run_string_add_sum (P := Tryz.prog) (w := wx) (⟨#[124]⟩ : ByteArray) fz (by show 1 + _ ≤ _; omega)
          exact wp_value (.string (⟨#[124]⟩ ++ fz)) (by unfold execOp; go_simp) ⟨rfl, Below.refl _ _⟩
        | 4, ho =>
          obtain rfl := Option.some.inj ho
          have b8 : a.tmps[8]?.getD undef = .string so := hf.2 8 (by kernel_rfl)
          exact wp_value (.string so) (by unfold execOp; go_simp) ⟨rfl, Below.refl _ _⟩
        | 5, ho =>
          obtain rfl := Option.some.inj ho
          have b10 : a.tmps[10]?.getD undef = .pointer (some ⟨D + 1, 0, none⟩) := hf.2 10 (by kernel_rfl)
          exact wp_load_row 51 (.tmp 10) rfl (D + 1) (eval_get b10) 51 _ (0, 0) _ (HDB.out _ hb) Tryz.underlying51 rfl (info_rect _ _) ⟨rfl, Below.refl _ _⟩
        | 6, ho =>
          obtain rfl := Option.some.inj ho
          have e78 : a.tmps[78]?.getD undef = .string so := hf.1 ⟨4, .data⟩ (by simp) rfl _ 78 rfl rfl
          have e79 : a.tmps[79]?.getD undef = rect iR iC := hf.1 ⟨5, .data⟩ (by simp) rfl _ 79 rfl rfl
          exact wp_enter 39 #[.string so, rect iR iC] (.string fo) _ (by unfold execOp; go_simp) (HO.out wx) (fun w' h => ⟨rfl, h⟩)
        | 7, ho =>
          obtain rfl := Option.some.inj ho
          have e77 : a.tmps[77]?.getD undef = .string (⟨#[124]⟩ ++ fz) := hf.1 ⟨3, .data⟩ (by simp) rfl _ 77 rfl rfl
          have e80 : a.tmps[80]?.getD undef = .string fo := hf.1 ⟨6, .data⟩ (by simp) rfl _ 80 rfl rfl
          have hcat := run_string_add_sum (P := Tryz.prog) (w := wx) (⟨#[124]⟩ ++ fz) fo (by rw [ByteArray.size_append]; show 1 + _ + _ ≤ _; omega)
          exact wp_value (.string (⟨#[124]⟩ ++ fz ++ fo)) (by unfold execOp; go_simp) ⟨rfl, Below.refl _ _⟩
        | 8, ho =>
          obtain rfl := Option.some.inj ho
          have e81 : a.tmps[81]?.getD undef = .string (⟨#[124]⟩ ++ fz ++ fo) := hf.1 ⟨7, .data⟩ (by simp) rfl _ 81 rfl rfl
          exact wp_value (.string (⟨#[124]⟩ ++ fz ++ fo)) (by unfold execOp; go_simp) ⟨rfl, Below.refl _ _⟩
        | q + 9, ho => simp at ho
      case enGtrue =>
        intro w5 hb5
        have HB5 : Hid (Below w.heap.size w w5) := HB4.out.trans (hb5.mono HB4.out.size)
        clear hb5
        simp only [fill, Act.put]
        go_simp
        go_wp2_with fail
        go_ret
        exact ⟨by rw [← HQ2.out]; rfl, HB5.out⟩

end Go.Proofs.YtbccachkkflceaaGreatDoor.GfS

