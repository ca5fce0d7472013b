/-
  Texts of one seat, joined: GTrimI, GLeavesI.
-/
import Derived.Test.YtbccachkkflceaaGreatDoorJn1
import Derived.Test.YtbccachkkflceaaGreatDoorJn29
import Derived.Test.YtbccachkkflceaaGreatDoorJn14
import Derived.Test.YtbccachkkflceaaGreatDoorJn27
import Derived.Test.YtbccachkkflceaaGreatDoorJn15
/-
  What is never said left out, in the program's trees.
-/
namespace Go.Proofs.YtbccachkkflceaaGreatDoor.TrimI
open Go.RowKit Go.Shelf Go.Proofs.YtbccachkkflceaaGreatDoor.Plain Go.Proofs.YtbccachkkflceaaGreatDoor.Tree Go.Proofs.YtbccachkkflceaaGreatDoor.Read Go.Proofs.YtbccachkkflceaaGreatDoor.Rect Go.Proofs.YtbccachkkflceaaGreatDoor.TurnC Go.Proofs.YtbccachkkflceaaGreatDoor.FreeL Go.Proofs.YtbccachkkflceaaGreatDoor.TrimT Go.Proofs.YtbccachkkflceaaGreatDoor.PartC
open Go.Proofs.YtbccachkkflceaaGreatDoor.NodeH (eval_get there_row all2 all4 info_two)
open Go.Proofs.YtbccachkkflceaaGreatDoor.Count (cells4)
open Go.Proofs.YtbccachkkflceaaGreatDoor.Free (fill wp_value wp_enter wp_load_row freeB)
open Go.Proofs.YtbccachkkflceaaGreatDoor.FreeW (wp_region_two)
set_option linter.unusedVariables false
set_option linter.unusedSimpArgs false

def TrimC (t : T) (f : FuncId) (V : Value) : Prop := ∀ (R C : Nat) (W : World), R < 256 → C < 256 → 1 ≤ R → 1 ≤ C → Calls Tryz.prog f #[V, rect R C] W fun e w' => e = .returned (tree (trimT t R C)) ∧ Below W.heap.size W w'

set_option maxHeartbeats 1000000 in
theorem end_trim (b : V3) : TrimC (.leaf b) 140 (.int .i64 (gI b)) := by
  intro R C w _ _ _ _
  show Calls _ _ _ _ fun e w' => e = .returned (leafV b) ∧ _
  go_enter Tryz.func140, Tryz.ntmps140
  go_wp2
  go_ret
  exact ⟨rfl, by go_grown⟩

theorem set1 {w : World} {B : Nat} {c0 c1 c2 c3 v : Value} {T : TypeId} {fr : Nat × Nat} (h : w.heap[B]? = some (.cells #[c0, c1, c2, c3] T fr)) : (w.setCell ⟨B, 1, none⟩ v).heap[B]? = some (.cells #[c0, v, c2, c3] T fr) := by
  simp [World.setCell, Array.getElem?_modify, h]
theorem set1_other {w : World} {B k : Nat} {v : Value} (h : k ≠ B) : (w.setCell ⟨B, 1, none⟩ v).heap[k]? = w.heap[k]? := by
  simp only [World.setCell, Array.getElem?_modify]
  rw [if_neg (by omega)]
theorem set1_below {b : Nat} {w w1 : World} {B : Nat} {v : Value} (h : Below b w w1) (hB : b ≤ B) : Below b w (w1.setCell ⟨B, 1, none⟩ v) :=
  h.trans ⟨rfl, rfl, rfl, by simp [World.setCell], fun k hk => set1_other (by omega)⟩
theorem cells2 {w : World} {b : Nat} {c0 c1 : Value} {ty : TypeId} (h : w.heap[b]? = some (.cells #[c0, c1] ty (0, 0))) : w.cell? ⟨b, 0, none⟩ = some c0 ∧ w.cell? ⟨b, 1, none⟩ = some c1 :=
  ⟨cell_of_row _ _ 0 _ _ _ h, cell_of_row _ _ 1 _ _ _ h⟩
theorem info_rect (x y : Value) : (Tryz.prog.info? 51).map (·.size) = some (#[x, y] : Array Value).size := by kernel_rfl
theorem one_rect (x y : Int) : (#[.int .i64 x, .int .i64 y] : Array Value).all (·.oneCell') = true := by simp [Value.oneCell']
/-- the node's block and both rectangles' -/
structure Tr (w wr : World) (B b1 b2 : Nat) (cs : Array Value) (oR oC iR iC : Nat) : Prop where
  node : wr.heap[B]? = some (.cells cs 72 (0, 0))
  out : wr.heap[b1]? = some (.cells #[.int .i64 (oR : Int), .int .i64 (oC : Int)] 51 (0, 0))
  inn : wr.heap[b2]? = some (.cells #[.int .i64 (iR : Int), .int .i64 (iC : Int)] 51 (0, 0))
  below : Below w.heap.size w wr
theorem Tr.later {w wr w2 : World} {B b1 b2 : Nat} {cs : Array Value} {oR oC iR iC : Nat} (h : Tr w wr B b1 b2 cs oR oC iR iC) (hb : Below wr.heap.size wr w2) : Tr w w2 B b1 b2 cs oR oC iR iC :=
  ⟨(hb.block _ (Array.getElem?_eq_some_iff.1 h.node).1).trans h.node, (hb.block _ (Array.getElem?_eq_some_iff.1 h.out).1).trans h.out, (hb.block _ (Array.getElem?_eq_some_iff.1 h.inn).1).trans h.inn, h.below.trans (hb.mono h.below.size)⟩
theorem some_no {R C : Nat} (h : R = 0 ∨ C = 0) : someB (R : Int) (C : Int) = false := by
  unfold someB
  rcases h with rfl | rfl
  · simp
  · simp
theorem some_yes {R C : Nat} (h1 : 1 ≤ R) (h2 : R < 256) (h3 : 1 ≤ C) (h4 : C < 256) : someB (R : Int) (C : Int) = true := by
  unfold someB
  rw [decide_eq_true (by omega), decide_eq_true (by omega)]
  rfl

set_option maxHeartbeats 8000000 in
set_option maxRecDepth 100000 in
theorem say_trim (a : Bool) (s : Nat) (z o : T) (hZ : Go.Proofs.YtbccachkkflceaaGreatDoor.Count.Node 140 153 z (TrimC z)) (hO : Go.Proofs.YtbccachkkflceaaGreatDoor.Count.Node 140 153 o (TrimC o)) :
    TrimC (.say a s z o) 153 (.agg #[.int .u8 ((whoB a).toNat : Int), .int .i64 (s : Int), tree z, tree o]) := by
  intro R C w hR hC hR1 hC1
  obtain ⟨h1, h2, h3, h4⟩ := parts_lt a s hR hC
  have hnb := not_both a s hR hC hR1 hC1
  obtain ⟨t1, v1, e1⟩ := tree_iface z
  obtain ⟨t2, v2, e2⟩ := tree_iface o
  unfold TrimC Go.Proofs.YtbccachkkflceaaGreatDoor.Count.Node at hZ hO
  rw [e1] at hZ
  rw [e2] at hO
  rw [e1, e2]
  have HPo := Lib.hid fun W => part_out a s R C hR hC t1 t2 v1 v2 W
  have HPi := Lib.hid fun W => part_in a s R C hR hC t1 t2 v1 v2 W
  have HIn := Lib.hid fun (s' R' C' : Int) (W : World) => inputs_w a s' R' C' t1 t2 v1 v2 W
  have HT : trimT (.say a s z o) R C = if inR a s R = 0 ∨ inC a s C = 0 then trimT z (outR a s R) (outC a s C)
    else if outR a s R = 0 ∨ outC a s C = 0 then trimT o (inR a s R) (inC a s C)
    else .say a (if a then inR a s R else inC a s C) (trimT z (outR a s R) (outC a s C)) (trimT o (inR a s R) (inC a s C)) := rfl
  rw [HT]
  clear HT e1 e2
  obtain ⟨oR, hoR⟩ : ∃ x, outR a s R = x := ⟨_, rfl⟩
  obtain ⟨oC, hoC⟩ : ∃ x, outC a s C = x := ⟨_, rfl⟩
  obtain ⟨iR, hiR⟩ : ∃ x, inR a s R = x := ⟨_, rfl⟩
  obtain ⟨iC, hiC⟩ : ∃ x, inC a s C = x := ⟨_, rfl⟩
  rw [hoR, hoC] at HPo
  rw [hiR, hiC] at HPi
  rw [hoR, hoC, hiR, hiC] at hnb ⊢
  rw [hoR] at h1
  rw [hoC] at h2
  rw [hiR] at h3
  rw [hiC] at h4
  clear hoR hoC hiR hiC
  obtain ⟨res, hres⟩ : ∃ res, tree (if iR = 0 ∨ iC = 0 then trimT z oR oC else if oR = 0 ∨ oC = 0 then trimT o iR iC else .say a (if a then iR else iC) (trimT z oR oC) (trimT o iR iC)) = res := ⟨_, rfl⟩
  rw [hres]
  have HRS := Lib.hid hres
  clear hres
  obtain ⟨wh, hwh⟩ : ∃ wh, ((whoB a).toNat : Int) = wh := ⟨_, rfl⟩
  have HWH := Lib.hid hwh
  rw [hwh] at HPo HPi HIn ⊢
  clear hwh
  obtain ⟨B, hB⟩ : ∃ B, w.heap.size = B := ⟨_, rfl⟩
  have HBB := Lib.hid hB
  go_enter Tryz.func153, Tryz.ntmps153
  go_wp2_with fail
  obtain ⟨W1, hW1⟩ : ∃ W1, (w.alloc (.cells #[.int .u8 wh, .int .i64 (s : Int), .iface t1 v1, .iface t2 v2] 72)).alloc (.cells #[.int .i64 (R : Int), .int .i64 (C : Int)] 51) = W1 := ⟨_, rfl⟩
  rw [hW1]
  have hsz : W1.heap.size = B + 2 := by rw [← hW1, ← HBB.out]; simp
  have HSZ := Lib.hid hsz
  have HWW : Hid (Below w.heap.size w W1) := by
    have h0 : Below w.heap.size w (w.alloc (.cells #[.int .u8 wh, .int .i64 (s : Int), .iface t1 v1, .iface t2 v2] 72)) := (Below.refl _ _).alloc (Nat.le_refl _) _
    show Below _ _ _; rw [← hW1]; exact h0.alloc h0.size _
  have HM0 : Hid (∀ wx : World, Below W1.heap.size W1 wx → wx.heap[B]? = some (.cells #[.int .u8 wh, .int .i64 (s : Int), .iface t1 v1, .iface t2 v2] 72 (0, 0))) := fun wx h => by
    have h1 : (w.alloc (.cells #[.int .u8 wh, .int .i64 (s : Int), .iface t1 v1, .iface t2 v2] 72)).heap[w.heap.size]? = some (.cells #[.int .u8 wh, .int .i64 (s : Int), .iface t1 v1, .iface t2 v2] 72 (0, 0)) := heap_alloc_new w _
    have h0 : W1.heap[B]? = some (.cells #[.int .u8 wh, .int .i64 (s : Int), .iface t1 v1, .iface t2 v2] 72 (0, 0)) := by rw [← hW1, ← HBB.out]; rw [heap_alloc_old _ _ (Array.getElem?_eq_some_iff.1 h1).1]; exact h1
    exact (h.block _ (Array.getElem?_eq_some_iff.1 h0).1).trans h0
  have HN0 : Hid (∀ wx : World, Below W1.heap.size W1 wx → wx.heap[B + 1]? = some (.cells #[.int .i64 (R : Int), .int .i64 (C : Int)] 51 (0, 0))) := fun wx h => by
    have h0 : W1.heap[B + 1]? = some (.cells #[.int .i64 (R : Int), .int .i64 (C : Int)] 51 (0, 0)) := by
      rw [← hW1, ← HBB.out]
      have h2 := heap_alloc_new (w.alloc (.cells #[.int .u8 wh, .int .i64 (s : Int), .iface t1 v1, .iface t2 v2] 72)) (.cells #[.int .i64 (R : Int), .int .i64 (C : Int)] 51)
      rw [show (w.alloc (.cells #[.int .u8 wh, .int .i64 (s : Int), .iface t1 v1, .iface t2 v2] 72)).heap.size = w.heap.size + 1 by simp] at h2
      exact h2
    exact (h.block _ (Array.getElem?_eq_some_iff.1 h0).1).trans h0
  clear hW1 hB hsz
  refine wp_region_two (fun | 0 => .agg #[.int .u8 wh, .int .i64 (s : Int), .iface t1 v1, .iface t2 v2] | 1 => rect R C | 2 => rect oR oC | 3 => .agg #[.int .u8 wh, .int .i64 (s : Int), .iface t1 v1, .iface t2 v2] | 4 => rect R C | 5 => rect iR iC | _ => undef) _ 6 7 8 9 5 6 51 #[.int .i64 0, .int .i64 0] #[.int .i64 (oR : Int), .int .i64 (oC : Int)] #[.int .i64 (iR : Int), .int .i64 (iC : Int)] _ _ _ _
    (by kernel_rfl) (by kernel_rfl) rfl rfl rfl rfl rfl rfl rfl rfl rfl rfl (by decide) (by decide) ⟨⟨6, .data⟩, (by simp), rfl, rfl⟩ ⟨⟨7, .data⟩, (by simp), rfl, rfl⟩ ?oth rfl rfl ?al1 ?al2 ?st1 ?st2 ?con ?en
  case oth =>
    intro i o ho hk
    match i, ho, hk with
    | 0, ho, _ => obtain rfl := Option.some.inj ho; exact ⟨by decide, by decide⟩
    | 1, ho, _ => obtain rfl := Option.some.inj ho; exact ⟨by decide, by decide⟩
    | 2, ho, _ => obtain rfl := Option.some.inj ho; exact ⟨by decide, by decide⟩
    | 3, ho, _ => obtain rfl := Option.some.inj ho; exact ⟨by decide, by decide⟩
    | 4, ho, _ => obtain rfl := Option.some.inj ho; exact ⟨by decide, by decide⟩
    | 5, ho, _ => obtain rfl := Option.some.inj ho; exact ⟨by decide, by decide⟩
    | 6, _, hk => exact absurd hk (by decide)
    | 7, _, hk => exact absurd hk (by decide)
    | 8, _, hk => exact absurd hk (by decide)
    | 9, _, hk => exact absurd hk (by decide)
    | q + 10, ho, _ => simp at ho
  case al1 =>
    intro a w
    unfold execOp
    go_simp
  case al2 =>
    intro a w
    unfold execOp
    go_simp
  case st1 =>
    intro a w1 b old hf hp hg ho
    have e9 : a.tmps[9]?.getD undef = rect oR oC := hf.1 ⟨2, .data⟩ (by simp) rfl _ 9 rfl rfl rfl
    exact wp_store_row 51 (.tmp 5) (.tmp 9) rfl b #[.int .i64 (oR : Int), .int .i64 (oC : Int)] (eval_get (by rw [hp]; rfl)) (eval_get e9) 51 old hg (info_rect _ _) (by rcases ho with rfl | rfl <;> rfl) (one_rect _ _) ⟨rfl, rfl⟩
  case st2 =>
    intro a w1 b old hf hp hg ho
    have e12 : a.tmps[12]?.getD undef = rect iR iC := hf.1 ⟨5, .data⟩ (by simp) rfl _ 12 rfl rfl rfl
    exact wp_store_row 51 (.tmp 6) (.tmp 12) rfl b #[.int .i64 (iR : Int), .int .i64 (iC : Int)] (eval_get (by rw [hp]; rfl)) (eval_get e12) 51 old hg (info_rect _ _) (by rcases ho with rfl | rfl <;> rfl) (one_rect _ _) ⟨rfl, rfl⟩
  case con =>
    intro i o ho hk a w2 hb2 hf
    match i, ho, hk with
    | 0, ho, _ =>
      obtain rfl := Option.some.inj ho
      have b2 : a.tmps[2]?.getD undef = .pointer (some ⟨B, 0, none⟩) := hf.2 2 (by kernel_rfl)
      exact wp_load_row 72 (.tmp 2) rfl (B) (eval_get b2) 72 _ (0, 0) _ (HM0.out w2 hb2) Tryz.underlying72 rfl (info_say _ _ _ _) ⟨rfl, Below.refl _ _⟩
    | 1, ho, _ =>
      obtain rfl := Option.some.inj ho
      have b3 : a.tmps[3]?.getD undef = .pointer (some ⟨B + 1, 0, none⟩) := hf.2 3 (by kernel_rfl)
      exact wp_load_row 51 (.tmp 3) rfl (B + 1) (eval_get b3) 51 _ (0, 0) _ (HN0.out w2 hb2) Tryz.underlying51 rfl (info_rect _ _) ⟨rfl, Below.refl _ _⟩
    | 2, ho, _ =>
      obtain rfl := Option.some.inj ho
      have e7 : a.tmps[7]?.getD undef = .agg #[.int .u8 wh, .int .i64 (s : Int), .iface t1 v1, .iface t2 v2] := hf.1 ⟨0, .data⟩ (by simp) rfl _ 7 rfl rfl rfl
      have e8 : a.tmps[8]?.getD undef = rect R C := hf.1 ⟨1, .data⟩ (by simp) rfl _ 8 rfl rfl rfl
      exact wp_enter 63 #[.agg #[.int .u8 wh, .int .i64 (s : Int), .iface t1 v1, .iface t2 v2], rect R C, .int .i64 0] (rect oR oC) _ (by unfold execOp; go_simp) (HPo.out w2) (fun w' h => ⟨rfl, h⟩)
    | 3, ho, _ =>
      obtain rfl := Option.some.inj ho
      have b2 : a.tmps[2]?.getD undef = .pointer (some ⟨B, 0, none⟩) := hf.2 2 (by kernel_rfl)
      exact wp_load_row 72 (.tmp 2) rfl (B) (eval_get b2) 72 _ (0, 0) _ (HM0.out w2 hb2) Tryz.underlying72 rfl (info_say _ _ _ _) ⟨rfl, Below.refl _ _⟩
    | 4, ho, _ =>
      obtain rfl := Option.some.inj ho
      have b3 : a.tmps[3]?.getD undef = .pointer (some ⟨B + 1, 0, none⟩) := hf.2 3 (by kernel_rfl)
      exact wp_load_row 51 (.tmp 3) rfl (B + 1) (eval_get b3) 51 _ (0, 0) _ (HN0.out w2 hb2) Tryz.underlying51 rfl (info_rect _ _) ⟨rfl, Below.refl _ _⟩
    | 5, ho, _ =>
      obtain rfl := Option.some.inj ho
      have e10 : a.tmps[10]?.getD undef = .agg #[.int .u8 wh, .int .i64 (s : Int), .iface t1 v1, .iface t2 v2] := hf.1 ⟨3, .data⟩ (by simp) rfl _ 10 rfl rfl rfl
      have e11 : a.tmps[11]?.getD undef = rect R C := hf.1 ⟨4, .data⟩ (by simp) rfl _ 11 rfl rfl rfl
      exact wp_enter 63 #[.agg #[.int .u8 wh, .int .i64 (s : Int), .iface t1 v1, .iface t2 v2], rect R C, .int .i64 1] (rect iR iC) _ (by unfold execOp; go_simp) (HPi.out w2) (fun w' h => ⟨rfl, h⟩)
    | 6, _, hk => exact absurd hk (by decide)
    | 7, _, hk => exact absurd hk (by decide)
    | 8, _, hk => exact absurd hk (by decide)
    | 9, _, hk => exact absurd hk (by decide)
    | q + 10, ho, _ => simp at ho
  intro b1 b2 w5 hb5 g1 g2 x1 x2
  have HTr := Lib.hid (Tr.mk (HM0.out w5 hb5) x1 x2 (HWW.out.trans (hb5.mono HWW.out.size)) : Tr w w5 B b1 b2 #[.int .u8 wh, .int .i64 (s : Int), .iface t1 v1, .iface t2 v2] oR oC iR iC)
  have n1 : b1 ≠ B := by rw [HSZ.out] at g1; omega
  have n2 : b2 ≠ B := by rw [HSZ.out] at g2; omega
  have N1 := Lib.hid n1
  have N2 := Lib.hid n2
  clear hb5 g1 g2 x1 x2 HM0 HN0 HWW HPo HPi HSZ n1 n2
  simp only [fill, Act.put]
  go_simp
  obtain ⟨c0, c1, c2, c3⟩ := cells4 HTr.out.node
  obtain ⟨d0, d1⟩ := cells2 HTr.out.out
  obtain ⟨f0, f1⟩ := cells2 HTr.out.inn
  go_wp2_with fail
  refine (rect_any _ _ _).mono ?_
  rintro e w6 ⟨rfl, hb6⟩
  have HT6 := Lib.hid (HTr.out.later hb6)
  clear hb6 HTr c0 c1 c2 c3 d0 d1 f0 f1
  obtain ⟨c0, c1, c2, c3⟩ := cells4 HT6.out.node
  obtain ⟨d0, d1⟩ := cells2 HT6.out.out
  obtain ⟨f0, f1⟩ := cells2 HT6.out.inn
  by_cases hin : iR = 0 ∨ iC = 0
  · have HR1 : Hid (tree (trimT z oR oC) = res) := by have h := HRS.out; rw [if_pos hin] at h; exact h
    rw [some_no hin]
    obtain ⟨q1, q2⟩ := hnb hin
    have HZ2 := Lib.hid hZ
    clear hZ hO hnb hin HIn
    rcases HZ2.out with ⟨V, ez, hz⟩ | ⟨V, ez, hz⟩
    all_goals
      simp only [Value.iface.injEq] at ez
      obtain ⟨rfl, rfl⟩ := ez
      have HZ := Lib.hid (fun W => hz oR oC W h1 h2 q1 q2)
      clear hz HZ2
      go_wp2_with fail
      refine (HZ.out _).mono ?_
      rintro e w7 ⟨rfl, hb7⟩
      have HB := Lib.hid (HT6.out.below.trans (hb7.mono HT6.out.below.size))
      clear hb7
      go_wp2_with fail
      go_ret
      exact ⟨by rw [← HR1.out]; rfl, HB.out⟩
  have i1 : 1 ≤ iR := by omega
  have i2 : 1 ≤ iC := by omega
  have HRS2 : Hid (tree (if oR = 0 ∨ oC = 0 then trimT o iR iC else .say a (if a then iR else iC) (trimT z oR oC) (trimT o iR iC)) = res) := by have h := HRS.out; rw [if_neg hin] at h; exact h
  clear HRS
  rw [some_yes i1 h3 i2 h4]
  go_wp2_with fail
  refine (rect_any _ _ _).mono ?_
  rintro e w7 ⟨rfl, hb7⟩
  have HT7 := Lib.hid (HT6.out.later hb7)
  clear hb7 HT6 c0 c1 c2 c3 d0 d1 f0 f1
  obtain ⟨c0, c1, c2, c3⟩ := cells4 HT7.out.node
  obtain ⟨d0, d1⟩ := cells2 HT7.out.out
  obtain ⟨f0, f1⟩ := cells2 HT7.out.inn
  by_cases hou : oR = 0 ∨ oC = 0
  · have HR1 : Hid (tree (trimT o iR iC) = res) := by have h := HRS2.out; rw [if_pos hou] at h; exact h
    rw [some_no hou]
    have HO2 := Lib.hid hO
    clear hZ hO hnb hin hou HIn
    rcases HO2.out with ⟨V, eo, ho⟩ | ⟨V, eo, ho⟩
    all_goals
      simp only [Value.iface.injEq] at eo
      obtain ⟨rfl, rfl⟩ := eo
      have HO := Lib.hid (fun W => ho iR iC W h3 h4 i1 i2)
      clear ho HO2
      go_wp2_with fail
      refine (HO.out _).mono ?_
      rintro e w8 ⟨rfl, hb8⟩
      have HB := Lib.hid (HT7.out.below.trans (hb8.mono HT7.out.below.size))
      clear hb8
      go_wp2_with fail
      go_ret
      exact ⟨by rw [← HR1.out]; rfl, HB.out⟩
  have o1 : 1 ≤ oR := by omega
  have o2 : 1 ≤ oC := by omega
  have HRS3 : Hid (tree (.say a (if a then iR else iC) (trimT z oR oC) (trimT o iR iC)) = res) := by have h := HRS2.out; rw [if_neg hou] at h; exact h
  clear HRS2
  rw [some_yes o1 h1 o2 h2]
  obtain ⟨S, hS⟩ : ∃ S : Nat, (if a then iR else iC) = S := ⟨_, rfl⟩
  have HS : Hid ((if a then (iR : Int) else (iC : Int)) = (S : Int)) := by show _ = _; rw [← hS]; cases a <;> rfl
  rw [hS] at HRS3
  go_wp2_with fail
  refine (HIn.out _ _ _ _).mono ?_
  rintro e w8 ⟨rfl, hb8⟩
  rw [HS.out]
  have HT8 := Lib.hid (HT7.out.later hb8)
  clear hb8 HT7 c0 c1 c2 c3 d0 d1 f0 f1 hS
  obtain ⟨c0, c1, c2, c3⟩ := cells4 HT8.out.node
  have fz : w8.frozen? ⟨B, 1, none⟩ = false := frozen_of_row _ _ _ _ _ HT8.out.node
  go_wp2_with fail
  obtain ⟨W2, hW2⟩ : ∃ W2, w8.setCell ⟨B, 1, none⟩ (.int .i64 (S : Int)) = W2 := ⟨_, rfl⟩
  rw [hW2]
  have HT9 : Hid (Tr w W2 B b1 b2 #[.int .u8 wh, .int .i64 (S : Int), .iface t1 v1, .iface t2 v2] oR oC iR iC) := by
    show Tr _ _ _ _ _ _ _ _ _ _
    rw [← hW2]
    exact ⟨set1 HT8.out.node, (set1_other N1.out).trans HT8.out.out, (set1_other N2.out).trans HT8.out.inn, set1_below HT8.out.below (by rw [HBB.out]; exact Nat.le_refl _)⟩
  clear hW2 HT8 c0 c1 c2 c3 fz
  obtain ⟨tz, vz, ez2⟩ := tree_iface (trimT z oR oC)
  obtain ⟨to, vo, eo2⟩ := tree_iface (trimT o iR iC)
  have HRes : Hid (res = .iface 72 (.agg #[.int .u8 wh, .int .i64 (S : Int), .iface tz vz, .iface to vo])) := by
    show res = _
    rw [← HRS3.out]
    simp only [tree, sayV, ez2, eo2, HWH.out]
  have HM0 : Hid (∀ wx : World, Below W2.heap.size W2 wx → Tr w wx B b1 b2 #[.int .u8 wh, .int .i64 (S : Int), .iface t1 v1, .iface t2 v2] oR oC iR iC) := fun wx h => HT9.out.later h
  have HZ2 := Lib.hid hZ
  have HO2 := Lib.hid hO
  clear hZ hO hnb hin hou HIn
  rcases HZ2.out with ⟨V, ez, hz⟩ | ⟨V, ez, hz⟩ <;> rcases HO2.out with ⟨U, eo, ho⟩ | ⟨U, eo, ho⟩
  · simp only [Value.iface.injEq] at ez eo
    obtain ⟨rfl, rfl⟩ := ez
    obtain ⟨rfl, rfl⟩ := eo
    have hz2 := fun W => hz oR oC W h1 h2 o1 o2
    have ho2 := fun W => ho iR iC W h3 h4 i1 i2
    rw [ez2] at hz2
    rw [eo2] at ho2
    have HZ := Lib.hid hz2
    have HO := Lib.hid ho2
    clear hz ho hz2 ho2 HZ2 HO2 ez2 eo2
    refine wp_region_last (fun | 0 => .pointer (some ⟨B, 2, none⟩) | 1 => .pointer (some ⟨B, 2, none⟩) | 2 => .iface 65 v1 | 3 => rect oR oC | 4 => .iface tz vz | 5 => .pointer (some ⟨B, 2, none⟩) | 6 => .pointer (some ⟨B, 3, none⟩) | 7 => .iface 65 v2 | 8 => rect iR iC | 9 => .iface to vo | 10 => .agg #[.iface tz vz, .iface to vo] | 11 => .pointer (some ⟨B, 2, none⟩) | _ => undef) 12 (fun wx => wx.setRow B #[.int .u8 wh, .int .i64 (S : Int), .iface tz vz, .iface to vo]) _ (by kernel_rfl) (by kernel_rfl) rfl rfl rfl rfl (by kernel_rfl) ?conTee ?stTee ?enTee
    case conTee =>
      intro i o ho hlt a wx hb hf
      match i, ho with
      | 0, ho =>
        obtain rfl := Option.some.inj ho
        have b2 : a.tmps[2]?.getD undef = .pointer (some ⟨B, 0, none⟩) := hf.2 2 (by kernel_rfl)
        exact wp_value (.pointer (some ⟨B, 2, none⟩)) (by unfold execOp; go_simp) ⟨rfl, Below.refl _ _⟩
      | 1, ho =>
        obtain rfl := Option.some.inj ho
        have e33 : a.tmps[33]?.getD undef = .pointer (some ⟨B, 2, none⟩) := hf.1 ⟨0, .data⟩ (by simp) rfl _ 33 rfl rfl
        exact wp_value (.pointer (some ⟨B, 2, none⟩)) (by unfold execOp; go_simp) ⟨rfl, Below.refl _ _⟩
      | 2, ho =>
        obtain rfl := Option.some.inj ho
        have e34 : a.tmps[34]?.getD undef = .pointer (some ⟨B, 2, none⟩) := hf.1 ⟨1, .data⟩ (by simp) rfl _ 34 rfl rfl
        obtain ⟨c0, c1, c2, c3⟩ := cells4 (HM0.out wx hb).node
        exact wp_value (.iface 65 v1) (by unfold execOp; go_simp) ⟨rfl, Below.refl _ _⟩
      | 3, ho =>
        obtain rfl := Option.some.inj ho
        have b5 : a.tmps[5]?.getD undef = .pointer (some ⟨b1, 0, none⟩) := hf.2 5 (by kernel_rfl)
        obtain ⟨d0, d1⟩ := cells2 (HM0.out wx hb).out
        exact wp_value (rect oR oC) (by unfold execOp; go_simp) ⟨rfl, Below.refl _ _⟩
      | 4, ho =>
        obtain rfl := Option.some.inj ho
        have e35 : a.tmps[35]?.getD undef = .iface 65 v1 := hf.1 ⟨2, .data⟩ (by simp) rfl _ 35 rfl rfl
        have e36 : a.tmps[36]?.getD undef = rect oR oC := hf.1 ⟨3, .data⟩ (by simp) rfl _ 36 rfl rfl
        exact wp_enter 140 #[v1, rect oR oC] (.iface tz vz) _ (by unfold execOp; go_simp; go_invoke; rfl) (HZ.out wx) (fun w' h => ⟨rfl, h⟩)
      | 5, ho =>
        obtain rfl := Option.some.inj ho
        have b2 : a.tmps[2]?.getD undef = .pointer (some ⟨B, 0, none⟩) := hf.2 2 (by kernel_rfl)
        exact wp_value (.pointer (some ⟨B, 2, none⟩)) (by unfold execOp; go_simp) ⟨rfl, Below.refl _ _⟩
      | 6, ho =>
        obtain rfl := Option.some.inj ho
        have e38 : a.tmps[38]?.getD undef = .pointer (some ⟨B, 2, none⟩) := hf.1 ⟨5, .data⟩ (by simp) rfl _ 38 rfl rfl
        exact wp_value (.pointer (some ⟨B, 3, none⟩)) (by unfold execOp; go_simp) ⟨rfl, Below.refl _ _⟩
      | 7, ho =>
        obtain rfl := Option.some.inj ho
        have e39 : a.tmps[39]?.getD undef = .pointer (some ⟨B, 3, none⟩) := hf.1 ⟨6, .data⟩ (by simp) rfl _ 39 rfl rfl
        obtain ⟨c0, c1, c2, c3⟩ := cells4 (HM0.out wx hb).node
        exact wp_value (.iface 65 v2) (by unfold execOp; go_simp) ⟨rfl, Below.refl _ _⟩
      | 8, ho =>
        obtain rfl := Option.some.inj ho
        have b6 : a.tmps[6]?.getD undef = .pointer (some ⟨b2, 0, none⟩) := hf.2 6 (by kernel_rfl)
        obtain ⟨f0, f1⟩ := cells2 (HM0.out wx hb).inn
        exact wp_value (rect iR iC) (by unfold execOp; go_simp) ⟨rfl, Below.refl _ _⟩
      | 9, ho =>
        obtain rfl := Option.some.inj ho
        have e40 : a.tmps[40]?.getD undef = .iface 65 v2 := hf.1 ⟨7, .data⟩ (by simp) rfl _ 40 rfl rfl
        have e41 : a.tmps[41]?.getD undef = rect iR iC := hf.1 ⟨8, .data⟩ (by simp) rfl _ 41 rfl rfl
        exact wp_enter 140 #[v2, rect iR iC] (.iface to vo) _ (by unfold execOp; go_simp; go_invoke; rfl) (HO.out wx) (fun w' h => ⟨rfl, h⟩)
      | 10, ho =>
        obtain rfl := Option.some.inj ho
        have e37 : a.tmps[37]?.getD undef = .iface tz vz := hf.1 ⟨4, .data⟩ (by simp) rfl _ 37 rfl rfl
        have e42 : a.tmps[42]?.getD undef = .iface to vo := hf.1 ⟨9, .data⟩ (by simp) rfl _ 42 rfl rfl
        exact wp_value (.agg #[.iface tz vz, .iface to vo]) (by unfold execOp; go_simp) ⟨rfl, Below.refl _ _⟩
      | 11, ho =>
        obtain rfl := Option.some.inj ho
        have b2 : a.tmps[2]?.getD undef = .pointer (some ⟨B, 0, none⟩) := hf.2 2 (by kernel_rfl)
        exact wp_value (.pointer (some ⟨B, 2, none⟩)) (by unfold execOp; go_simp) ⟨rfl, Below.refl _ _⟩
      | 12, ho => exact absurd hlt (by omega)
      | q + 13, ho => simp at ho
    case stTee =>
      intro a wx hb hf
      have e43 : a.tmps[43]?.getD undef = .agg #[.iface tz vz, .iface to vo] := hf.1 ⟨10, .data⟩ (by simp) rfl _ 43 rfl rfl
      have e44 : a.tmps[44]?.getD undef = .pointer (some ⟨B, 2, none⟩) := hf.1 ⟨11, .data⟩ (by simp) rfl _ 44 rfl rfl
      exact wp_store_mid 70 (.tmp 44) (.tmp 43) rfl B 2 #[.iface tz vz, .iface to vo] (eval_get e44) (eval_get e43) (there_row (HM0.out wx hb).node) (info_two _ _) (all2 _ _ _ _) ⟨rfl, set2 (HM0.out wx hb).node _ _⟩
    intro w5 hb5
    have HR : Hid ((w5.setRow B #[.int .u8 wh, .int .i64 (S : Int), .iface tz vz, .iface to vo]).heap[B]? = some (.cells #[.int .u8 wh, .int .i64 (S : Int), .iface tz vz, .iface to vo] 72 (0, 0))) := setRow_at' (HM0.out w5 hb5).node
    have HB5 : Hid (Below w.heap.size w (w5.setRow B #[.int .u8 wh, .int .i64 (S : Int), .iface tz vz, .iface to vo])) := setRow_below' (HM0.out w5 hb5).below (by rw [HBB.out]; exact Nat.le_refl _) _
    clear hb5 HM0 HT9
    simp only [fill, Act.put]
    go_simp
    generalize w5.setRow B #[.int .u8 wh, .int .i64 (S : Int), .iface tz vz, .iface to vo] = w6 at *
    obtain ⟨c0, c1, c2, c3⟩ := cells4 HR.out
    clear HR
    go_wp2_with fail
    go_ret
    exact ⟨by rw [HRes.out]; rfl, HB5.out⟩
  · simp only [Value.iface.injEq] at ez eo
    obtain ⟨rfl, rfl⟩ := ez
    obtain ⟨rfl, rfl⟩ := eo
    have hz2 := fun W => hz oR oC W h1 h2 o1 o2
    have ho2 := fun W => ho iR iC W h3 h4 i1 i2
    rw [ez2] at hz2
    rw [eo2] at ho2
    have HZ := Lib.hid hz2
    have HO := Lib.hid ho2
    clear hz ho hz2 ho2 HZ2 HO2 ez2 eo2
    refine wp_region_last (fun | 0 => .pointer (some ⟨B, 2, none⟩) | 1 => .pointer (some ⟨B, 2, none⟩) | 2 => .iface 65 v1 | 3 => rect oR oC | 4 => .iface tz vz | 5 => .pointer (some ⟨B, 2, none⟩) | 6 => .pointer (some ⟨B, 3, none⟩) | 7 => .iface 72 v2 | 8 => rect iR iC | 9 => .iface to vo | 10 => .agg #[.iface tz vz, .iface to vo] | 11 => .pointer (some ⟨B, 2, none⟩) | _ => undef) 12 (fun wx => wx.setRow B #[.int .u8 wh, .int .i64 (S : Int), .iface tz vz, .iface to vo]) _ (by kernel_rfl) (by kernel_rfl) rfl rfl rfl rfl (by kernel_rfl) ?conTes ?stTes ?enTes
    case conTes =>
      intro i o ho hlt a wx hb hf
      match i, ho with
      | 0, ho =>
        obtain rfl := Option.some.inj ho
        have b2 : a.tmps[2]?.getD undef = .pointer (some ⟨B, 0, none⟩) := hf.2 2 (by kernel_rfl)
        exact wp_value (.pointer (some ⟨B, 2, none⟩)) (by unfold execOp; go_simp) ⟨rfl, Below.refl _ _⟩
      | 1, ho =>
        obtain rfl := Option.some.inj ho
        have e33 : a.tmps[33]?.getD undef = .pointer (some ⟨B, 2, none⟩) := hf.1 ⟨0, .data⟩ (by simp) rfl _ 33 rfl rfl
        exact wp_value (.pointer (some ⟨B, 2, none⟩)) (by unfold execOp; go_simp) ⟨rfl, Below.refl _ _⟩
      | 2, ho =>
        obtain rfl := Option.some.inj ho
        have e34 : a.tmps[34]?.getD undef = .pointer (some ⟨B, 2, none⟩) := hf.1 ⟨1, .data⟩ (by simp) rfl _ 34 rfl rfl
        obtain ⟨c0, c1, c2, c3⟩ := cells4 (HM0.out wx hb).node
        exact wp_value (.iface 65 v1) (by unfold execOp; go_simp) ⟨rfl, Below.refl _ _⟩
      | 3, ho =>
        obtain rfl := Option.some.inj ho
        have b5 : a.tmps[5]?.getD undef = .pointer (some ⟨b1, 0, none⟩) := hf.2 5 (by kernel_rfl)
        obtain ⟨d0, d1⟩ := cells2 (HM0.out wx hb).out
        exact wp_value (rect oR oC) (by unfold execOp; go_simp) ⟨rfl, Below.refl _ _⟩
      | 4, ho =>
        obtain rfl := Option.some.inj ho
        have e35 : a.tmps[35]?.getD undef = .iface 65 v1 := hf.1 ⟨2, .data⟩ (by simp) rfl _ 35 rfl rfl
        have e36 : a.tmps[36]?.getD undef = rect oR oC := hf.1 ⟨3, .data⟩ (by simp) rfl _ 36 rfl rfl
        exact wp_enter 140 #[v1, rect oR oC] (.iface tz vz) _ (by unfold execOp; go_simp; go_invoke; rfl) (HZ.out wx) (fun w' h => ⟨rfl, h⟩)
      | 5, ho =>
        obtain rfl := Option.some.inj ho
        have b2 : a.tmps[2]?.getD undef = .pointer (some ⟨B, 0, none⟩) := hf.2 2 (by kernel_rfl)
        exact wp_value (.pointer (some ⟨B, 2, none⟩)) (by unfold execOp; go_simp) ⟨rfl, Below.refl _ _⟩
      | 6, ho =>
        obtain rfl := Option.some.inj ho
        have e38 : a.tmps[38]?.getD undef = .pointer (some ⟨B, 2, none⟩) := hf.1 ⟨5, .data⟩ (by simp) rfl _ 38 rfl rfl
        exact wp_value (.pointer (some ⟨B, 3, none⟩)) (by unfold execOp; go_simp) ⟨rfl, Below.refl _ _⟩
      | 7, ho =>
        obtain rfl := Option.some.inj ho
        have e39 : a.tmps[39]?.getD undef = .pointer (some ⟨B, 3, none⟩) := hf.1 ⟨6, .data⟩ (by simp) rfl _ 39 rfl rfl
        obtain ⟨c0, c1, c2, c3⟩ := cells4 (HM0.out wx hb).node
        exact wp_value (.iface 72 v2) (by unfold execOp; go_simp) ⟨rfl, Below.refl _ _⟩
      | 8, ho =>
        obtain rfl := Option.some.inj ho
        have b6 : a.tmps[6]?.getD undef = .pointer (some ⟨b2, 0, none⟩) := hf.2 6 (by kernel_rfl)
        obtain ⟨f0, f1⟩ := cells2 (HM0.out wx hb).inn
        exact wp_value (rect iR iC) (by unfold execOp; go_simp) ⟨rfl, Below.refl _ _⟩
      | 9, ho =>
        obtain rfl := Option.some.inj ho
        have e40 : a.tmps[40]?.getD undef = .iface 72 v2 := hf.1 ⟨7, .data⟩ (by simp) rfl _ 40 rfl rfl
        have e41 : a.tmps[41]?.getD undef = rect iR iC := hf.1 ⟨8, .data⟩ (by simp) rfl _ 41 rfl rfl
        exact wp_enter 153 #[v2, rect iR iC] (.iface to vo) _ (by unfold execOp; go_simp; go_invoke; rfl) (HO.out wx) (fun w' h => ⟨rfl, h⟩)
      | 10, ho =>
        obtain rfl := Option.some.inj ho
        have e37 : a.tmps[37]?.getD undef = .iface tz vz := hf.1 ⟨4, .data⟩ (by simp) rfl _ 37 rfl rfl
        have e42 : a.tmps[42]?.getD undef = .iface to vo := hf.1 ⟨9, .data⟩ (by simp) rfl _ 42 rfl rfl
        exact wp_value (.agg #[.iface tz vz, .iface to vo]) (by unfold execOp; go_simp) ⟨rfl, Below.refl _ _⟩
      | 11, ho =>
        obtain rfl := Option.some.inj ho
        have b2 : a.tmps[2]?.getD undef = .pointer (some ⟨B, 0, none⟩) := hf.2 2 (by kernel_rfl)
        exact wp_value (.pointer (some ⟨B, 2, none⟩)) (by unfold execOp; go_simp) ⟨rfl, Below.refl _ _⟩
      | 12, ho => exact absurd hlt (by omega)
      | q + 13, ho => simp at ho
    case stTes =>
      intro a wx hb hf
      have e43 : a.tmps[43]?.getD undef = .agg #[.iface tz vz, .iface to vo] := hf.1 ⟨10, .data⟩ (by simp) rfl _ 43 rfl rfl
      have e44 : a.tmps[44]?.getD undef = .pointer (some ⟨B, 2, none⟩) := hf.1 ⟨11, .data⟩ (by simp) rfl _ 44 rfl rfl
      exact wp_store_mid 70 (.tmp 44) (.tmp 43) rfl B 2 #[.iface tz vz, .iface to vo] (eval_get e44) (eval_get e43) (there_row (HM0.out wx hb).node) (info_two _ _) (all2 _ _ _ _) ⟨rfl, set2 (HM0.out wx hb).node _ _⟩
    intro w5 hb5
    have HR : Hid ((w5.setRow B #[.int .u8 wh, .int .i64 (S : Int), .iface tz vz, .iface to vo]).heap[B]? = some (.cells #[.int .u8 wh, .int .i64 (S : Int), .iface tz vz, .iface to vo] 72 (0, 0))) := setRow_at' (HM0.out w5 hb5).node
    have HB5 : Hid (Below w.heap.size w (w5.setRow B #[.int .u8 wh, .int .i64 (S : Int), .iface tz vz, .iface to vo])) := setRow_below' (HM0.out w5 hb5).below (by rw [HBB.out]; exact Nat.le_refl _) _
    clear hb5 HM0 HT9
    simp only [fill, Act.put]
    go_simp
    generalize w5.setRow B #[.int .u8 wh, .int .i64 (S : Int), .iface tz vz, .iface to vo] = w6 at *
    obtain ⟨c0, c1, c2, c3⟩ := cells4 HR.out
    clear HR
    go_wp2_with fail
    go_ret
    exact ⟨by rw [HRes.out]; rfl, HB5.out⟩
  · simp only [Value.iface.injEq] at ez eo
    obtain ⟨rfl, rfl⟩ := ez
    obtain ⟨rfl, rfl⟩ := eo
    have hz2 := fun W => hz oR oC W h1 h2 o1 o2
    have ho2 := fun W => ho iR iC W h3 h4 i1 i2
    rw [ez2] at hz2
    rw [eo2] at ho2
    have HZ := Lib.hid hz2
    have HO := Lib.hid ho2
    clear hz ho hz2 ho2 HZ2 HO2 ez2 eo2
    refine wp_region_last (fun | 0 => .pointer (some ⟨B, 2, none⟩) | 1 => .pointer (some ⟨B, 2, none⟩) | 2 => .iface 72 v1 | 3 => rect oR oC | 4 => .iface tz vz | 5 => .pointer (some ⟨B, 2, none⟩) | 6 => .pointer (some ⟨B, 3, none⟩) | 7 => .iface 65 v2 | 8 => rect iR iC | 9 => .iface to vo | 10 => .agg #[.iface tz vz, .iface to vo] | 11 => .pointer (some ⟨B, 2, none⟩) | _ => undef) 12 (fun wx => wx.setRow B #[.int .u8 wh, .int .i64 (S : Int), .iface tz vz, .iface to vo]) _ (by kernel_rfl) (by kernel_rfl) rfl rfl rfl rfl (by kernel_rfl) ?conTse ?stTse ?enTse
    case conTse =>
      intro i o ho hlt a wx hb hf
      match i, ho with
      | 0, ho =>
        obtain rfl := Option.some.inj ho
        have b2 : a.tmps[2]?.getD undef = .pointer (some ⟨B, 0, none⟩) := hf.2 2 (by kernel_rfl)
        exact wp_value (.pointer (some ⟨B, 2, none⟩)) (by unfold execOp; go_simp) ⟨rfl, Below.refl _ _⟩
      | 1, ho =>
        obtain rfl := Option.some.inj ho
        have e33 : a.tmps[33]?.getD undef = .pointer (some ⟨B, 2, none⟩) := hf.1 ⟨0, .data⟩ (by simp) rfl _ 33 rfl rfl
        exact wp_value (.pointer (some ⟨B, 2, none⟩)) (by unfold execOp; go_simp) ⟨rfl, Below.refl _ _⟩
      | 2, ho =>
        obtain rfl := Option.some.inj ho
        have e34 : a.tmps[34]?.getD undef = .pointer (some ⟨B, 2, none⟩) := hf.1 ⟨1, .data⟩ (by simp) rfl _ 34 rfl rfl
        obtain ⟨c0, c1, c2, c3⟩ := cells4 (HM0.out wx hb).node
        exact wp_value (.iface 72 v1) (by unfold execOp; go_simp) ⟨rfl, Below.refl _ _⟩
      | 3, ho =>
        obtain rfl := Option.some.inj ho
        have b5 : a.tmps[5]?.getD undef = .pointer (some ⟨b1, 0, none⟩) := hf.2 5 (by kernel_rfl)
        obtain ⟨d0, d1⟩ := cells2 (HM0.out wx hb).out
        exact wp_value (rect oR oC) (by unfold execOp; go_simp) ⟨rfl, Below.refl _ _⟩
      | 4, ho =>
        obtain rfl := Option.some.inj ho
        have e35 : a.tmps[35]?.getD undef = .iface 72 v1 := hf.1 ⟨2, .data⟩ (by simp) rfl _ 35 rfl rfl
        have e36 : a.tmps[36]?.getD undef = rect oR oC := hf.1 ⟨3, .data⟩ (by simp) rfl _ 36 rfl rfl
        exact wp_enter 153 #[v1, rect oR oC] (.iface tz vz) _ (by unfold execOp; go_simp; go_invoke; rfl) (HZ.out wx) (fun w' h => ⟨rfl, h⟩)
      | 5, ho =>
        obtain rfl := Option.some.inj ho
        have b2 : a.tmps[2]?.getD undef = .pointer (some ⟨B, 0, none⟩) := hf.2 2 (by kernel_rfl)
        exact wp_value (.pointer (some ⟨B, 2, none⟩)) (by unfold execOp; go_simp) ⟨rfl, Below.refl _ _⟩
      | 6, ho =>
        obtain rfl := Option.some.inj ho
        have e38 : a.tmps[38]?.getD undef = .pointer (some ⟨B, 2, none⟩) := hf.1 ⟨5, .data⟩ (by simp) rfl _ 38 rfl rfl
        exact wp_value (.pointer (some ⟨B, 3, none⟩)) (by unfold execOp; go_simp) ⟨rfl, Below.refl _ _⟩
      | 7, ho =>
        obtain rfl := Option.some.inj ho
        have e39 : a.tmps[39]?.getD undef = .pointer (some ⟨B, 3, none⟩) := hf.1 ⟨6, .data⟩ (by simp) rfl _ 39 rfl rfl
        obtain ⟨c0, c1, c2, c3⟩ := cells4 (HM0.out wx hb).node
        exact wp_value (.iface 65 v2) (by unfold execOp; go_simp) ⟨rfl, Below.refl _ _⟩
      | 8, ho =>
        obtain rfl := Option.some.inj ho
        have b6 : a.tmps[6]?.getD undef = .pointer (some ⟨b2, 0, none⟩) := hf.2 6 (by kernel_rfl)
        obtain ⟨f0, f1⟩ := cells2 (HM0.out wx hb).inn
        exact wp_value (rect iR iC) (by unfold execOp; go_simp) ⟨rfl, Below.refl _ _⟩
      | 9, ho =>
        obtain rfl := Option.some.inj ho
        have e40 : a.tmps[40]?.getD undef = .iface 65 v2 := hf.1 ⟨7, .data⟩ (by simp) rfl _ 40 rfl rfl
        have e41 : a.tmps[41]?.getD undef = rect iR iC := hf.1 ⟨8, .data⟩ (by simp) rfl _ 41 rfl rfl
        exact wp_enter 140 #[v2, rect iR iC] (.iface to vo) _ (by unfold execOp; go_simp; go_invoke; rfl) (HO.out wx) (fun w' h => ⟨rfl, h⟩)
      | 10, ho =>
        obtain rfl := Option.some.inj ho
        have e37 : a.tmps[37]?.getD undef = .iface tz vz := hf.1 ⟨4, .data⟩ (by simp) rfl _ 37 rfl rfl
        have e42 : a.tmps[42]?.getD undef = .iface to vo := hf.1 ⟨9, .data⟩ (by simp) rfl _ 42 rfl rfl
        exact wp_value (.agg #[.iface tz vz, .iface to vo]) (by unfold execOp; go_simp) ⟨rfl, Below.refl _ _⟩
      | 11, ho =>
        obtain rfl := Option.some.inj ho
        have b2 : a.tmps[2]?.getD undef = .pointer (some ⟨B, 0, none⟩) := hf.2 2 (by kernel_rfl)
        exact wp_value (.pointer (some ⟨B, 2, none⟩)) (by unfold execOp; go_simp) ⟨rfl, Below.refl _ _⟩
      | 12, ho => exact absurd hlt (by omega)
      | q + 13, ho => simp at ho
    case stTse =>
      intro a wx hb hf
      have e43 : a.tmps[43]?.getD undef = .agg #[.iface tz vz, .iface to vo] := hf.1 ⟨10, .data⟩ (by simp) rfl _ 43 rfl rfl
      have e44 : a.tmps[44]?.getD undef = .pointer (some ⟨B, 2, none⟩) := hf.1 ⟨11, .data⟩ (by simp) rfl _ 44 rfl rfl
      exact wp_store_mid 70 (.tmp 44) (.tmp 43) rfl B 2 #[.iface tz vz, .iface to vo] (eval_get e44) (eval_get e43) (there_row (HM0.out wx hb).node) (info_two _ _) (all2 _ _ _ _) ⟨rfl, set2 (HM0.out wx hb).node _ _⟩
    intro w5 hb5
    have HR : Hid ((w5.setRow B #[.int .u8 wh, .int .i64 (S : Int), .iface tz vz, .iface to vo]).heap[B]? = some (.cells #[.int .u8 wh, .int .i64 (S : Int), .iface tz vz, .iface to vo] 72 (0, 0))) := setRow_at' (HM0.out w5 hb5).node
    have HB5 : Hid (Below w.heap.size w (w5.setRow B #[.int .u8 wh, .int .i64 (S : Int), .iface tz vz, .iface to vo])) := setRow_below' (HM0.out w5 hb5).below (by rw [HBB.out]; exact Nat.le_refl _) _
    clear hb5 HM0 HT9
    simp only [fill, Act.put]
    go_simp
    generalize w5.setRow B #[.int .u8 wh, .int .i64 (S : Int), .iface tz vz, .iface to vo] = w6 at *
    obtain ⟨c0, c1, c2, c3⟩ := cells4 HR.out
    clear HR
    go_wp2_with fail
    go_ret
    exact ⟨by rw [HRes.out]; rfl, HB5.out⟩
  · simp only [Value.iface.injEq] at ez eo
    obtain ⟨rfl, rfl⟩ := ez
    obtain ⟨rfl, rfl⟩ := eo
    have hz2 := fun W => hz oR oC W h1 h2 o1 o2
    have ho2 := fun W => ho iR iC W h3 h4 i1 i2
    rw [ez2] at hz2
    rw [eo2] at ho2
    have HZ := Lib.hid hz2
    have HO := Lib.hid ho2
    clear hz ho hz2 ho2 HZ2 HO2 ez2 eo2
    refine wp_region_last (fun | 0 => .pointer (some ⟨B, 2, none⟩) | 1 => .pointer (some ⟨B, 2, none⟩) | 2 => .iface 72 v1 | 3 => rect oR oC | 4 => .iface tz vz | 5 => .pointer (some ⟨B, 2, none⟩) | 6 => .pointer (some ⟨B, 3, none⟩) | 7 => .iface 72 v2 | 8 => rect iR iC | 9 => .iface to vo | 10 => .agg #[.iface tz vz, .iface to vo] | 11 => .pointer (some ⟨B, 2, none⟩) | _ => undef) 12 (fun wx => wx.setRow B #[.int .u8 wh, .int .i64 (S : Int), .iface tz vz, .iface to vo]) _ (by kernel_rfl) (by kernel_rfl) rfl rfl rfl rfl (by kernel_rfl) ?conTss ?stTss ?enTss
    case conTss =>
      intro i o ho hlt a wx hb hf
      match i, ho with
      | 0, ho =>
        obtain rfl := Option.some.inj ho
        have b2 : a.tmps[2]?.getD undef = .pointer (some ⟨B, 0, none⟩) := hf.2 2 (by kernel_rfl)
        exact wp_value (.pointer (some ⟨B, 2, none⟩)) (by unfold execOp; go_simp) ⟨rfl, Below.refl _ _⟩
      | 1, ho =>
        obtain rfl := Option.some.inj ho
        have e33 : a.tmps[33]?.getD undef = .pointer (some ⟨B, 2, none⟩) := hf.1 ⟨0, .data⟩ (by simp) rfl _ 33 rfl rfl
        exact wp_value (.pointer (some ⟨B, 2, none⟩)) (by unfold execOp; go_simp) ⟨rfl, Below.refl _ _⟩
      | 2, ho =>
        obtain rfl := Option.some.inj ho
        have e34 : a.tmps[34]?.getD undef = .pointer (some ⟨B, 2, none⟩) := hf.1 ⟨1, .data⟩ (by simp) rfl _ 34 rfl rfl
        obtain ⟨c0, c1, c2, c3⟩ := cells4 (HM0.out wx hb).node
        exact wp_value (.iface 72 v1) (by unfold execOp; go_simp) ⟨rfl, Below.refl _ _⟩
      | 3, ho =>
        obtain rfl := Option.some.inj ho
        have b5 : a.tmps[5]?.getD undef = .pointer (some ⟨b1, 0, none⟩) := hf.2 5 (by kernel_rfl)
        obtain ⟨d0, d1⟩ := cells2 (HM0.out wx hb).out
        exact wp_value (rect oR oC) (by unfold execOp; go_simp) ⟨rfl, Below.refl _ _⟩
      | 4, ho =>
        obtain rfl := Option.some.inj ho
        have e35 : a.tmps[35]?.getD undef = .iface 72 v1 := hf.1 ⟨2, .data⟩ (by simp) rfl _ 35 rfl rfl
        have e36 : a.tmps[36]?.getD undef = rect oR oC := hf.1 ⟨3, .data⟩ (by simp) rfl _ 36 rfl rfl
        exact wp_enter 153 #[v1, rect oR oC] (.iface tz vz) _ (by unfold execOp; go_simp; go_invoke; rfl) (HZ.out wx) (fun w' h => ⟨rfl, h⟩)
      | 5, ho =>
        obtain rfl := Option.some.inj ho
        have b2 : a.tmps[2]?.getD undef = .pointer (some ⟨B, 0, none⟩) := hf.2 2 (by kernel_rfl)
        exact wp_value (.pointer (some ⟨B, 2, none⟩)) (by unfold execOp; go_simp) ⟨rfl, Below.refl _ _⟩
      | 6, ho =>
        obtain rfl := Option.some.inj ho
        have e38 : a.tmps[38]?.getD undef = .pointer (some ⟨B, 2, none⟩) := hf.1 ⟨5, .data⟩ (by simp) rfl _ 38 rfl rfl
        exact wp_value (.pointer (some ⟨B, 3, none⟩)) (by unfold execOp; go_simp) ⟨rfl, Below.refl _ _⟩
      | 7, ho =>
        obtain rfl := Option.some.inj ho
        have e39 : a.tmps[39]?.getD undef = .pointer (some ⟨B, 3, none⟩) := hf.1 ⟨6, .data⟩ (by simp) rfl _ 39 rfl rfl
        obtain ⟨c0, c1, c2, c3⟩ := cells4 (HM0.out wx hb).node
        exact wp_value (.iface 72 v2) (by unfold execOp; go_simp) ⟨rfl, Below.refl _ _⟩
      | 8, ho =>
        obtain rfl := Option.some.inj ho
        have b6 : a.tmps[6]?.getD undef = .pointer (some ⟨b2, 0, none⟩) := hf.2 6 (by kernel_rfl)
        obtain ⟨f0, f1⟩ := cells2 (HM0.out wx hb).inn
        exact wp_value (rect iR iC) (by unfold execOp; go_simp) ⟨rfl, Below.refl _ _⟩
      | 9, ho =>
        obtain rfl := Option.some.inj ho
        have e40 : a.tmps[40]?.getD undef = .iface 72 v2 := hf.1 ⟨7, .data⟩ (by simp) rfl _ 40 rfl rfl
        have e41 : a.tmps[41]?.getD undef = rect iR iC := hf.1 ⟨8, .data⟩ (by simp) rfl _ 41 rfl rfl
        exact wp_enter 153 #[v2, rect iR iC] (.iface to vo) _ (by unfold execOp; go_simp; go_invoke; rfl) (HO.out wx) (fun w' h => ⟨rfl, h⟩)
      | 10, ho =>
        obtain rfl := Option.some.inj ho
        have e37 : a.tmps[37]?.getD undef = .iface tz vz := hf.1 ⟨4, .data⟩ (by simp) rfl _ 37 rfl rfl
        have e42 : a.tmps[42]?.getD undef = .iface to vo := hf.1 ⟨9, .data⟩ (by simp) rfl _ 42 rfl rfl
        exact wp_value (.agg #[.iface tz vz, .iface to vo]) (by unfold execOp; go_simp) ⟨rfl, Below.refl _ _⟩
      | 11, ho =>
        obtain rfl := Option.some.inj ho
        have b2 : a.tmps[2]?.getD undef = .pointer (some ⟨B, 0, none⟩) := hf.2 2 (by kernel_rfl)
        exact wp_value (.pointer (some ⟨B, 2, none⟩)) (by unfold execOp; go_simp) ⟨rfl, Below.refl _ _⟩
      | 12, ho => exact absurd hlt (by omega)
      | q + 13, ho => simp at ho
    case stTss =>
      intro a wx hb hf
      have e43 : a.tmps[43]?.getD undef = .agg #[.iface tz vz, .iface to vo] := hf.1 ⟨10, .data⟩ (by simp) rfl _ 43 rfl rfl
      have e44 : a.tmps[44]?.getD undef = .pointer (some ⟨B, 2, none⟩) := hf.1 ⟨11, .data⟩ (by simp) rfl _ 44 rfl rfl
      exact wp_store_mid 70 (.tmp 44) (.tmp 43) rfl B 2 #[.iface tz vz, .iface to vo] (eval_get e44) (eval_get e43) (there_row (HM0.out wx hb).node) (info_two _ _) (all2 _ _ _ _) ⟨rfl, set2 (HM0.out wx hb).node _ _⟩
    intro w5 hb5
    have HR : Hid ((w5.setRow B #[.int .u8 wh, .int .i64 (S : Int), .iface tz vz, .iface to vo]).heap[B]? = some (.cells #[.int .u8 wh, .int .i64 (S : Int), .iface tz vz, .iface to vo] 72 (0, 0))) := setRow_at' (HM0.out w5 hb5).node
    have HB5 : Hid (Below w.heap.size w (w5.setRow B #[.int .u8 wh, .int .i64 (S : Int), .iface tz vz, .iface to vo])) := setRow_below' (HM0.out w5 hb5).below (by rw [HBB.out]; exact Nat.le_refl _) _
    clear hb5 HM0 HT9
    simp only [fill, Act.put]
    go_simp
    generalize w5.setRow B #[.int .u8 wh, .int .i64 (S : Int), .iface tz vz, .iface to vo] = w6 at *
    obtain ⟨c0, c1, c2, c3⟩ := cells4 HR.out
    clear HR
    go_wp2_with fail
    go_ret
    exact ⟨by rw [HRes.out]; rfl, HB5.out⟩

theorem trim_to (t : T) : Go.Proofs.YtbccachkkflceaaGreatDoor.Count.Node 140 153 t (TrimC t) := by
  induction t with
  | leaf b => exact .inl ⟨_, rfl, end_trim b⟩
  | say a s z o ihz iho => exact .inr ⟨_, rfl, say_trim a s z o ihz iho⟩
end Go.Proofs.YtbccachkkflceaaGreatDoor.TrimI

/-
  The ends that the inputs of a rectangle reach, of the program's trees.
-/
namespace Go.Proofs.YtbccachkkflceaaGreatDoor.LeavesI
open Go.RowKit Go.Shelf Go.Proofs.YtbccachkkflceaaGreatDoor.Plain Go.Proofs.YtbccachkkflceaaGreatDoor.Tree Go.Proofs.YtbccachkkflceaaGreatDoor.Read Go.Proofs.YtbccachkkflceaaGreatDoor.Rect Go.Proofs.YtbccachkkflceaaGreatDoor.TurnC Go.Proofs.YtbccachkkflceaaGreatDoor.TrimT Go.Proofs.YtbccachkkflceaaGreatDoor.PartC Go.Proofs.YtbccachkkflceaaGreatDoor.App Go.Proofs.YtbccachkkflceaaGreatDoor.Leaf
open Go.Proofs.YtbccachkkflceaaGreatDoor.NodeH (eval_get)
open Go.Proofs.YtbccachkkflceaaGreatDoor.TrimI (cells2 info_rect some_no some_yes)
open Go.Proofs.YtbccachkkflceaaGreatDoor.Count (cells4)
open Go.Proofs.YtbccachkkflceaaGreatDoor.Wq (drew_at)
open Go.Proofs.YtbccachkkflceaaGreatDoor.Free (fill wp_value wp_enter wp_load_row freeB)
open Go.Proofs.YtbccachkkflceaaGreatDoor.FreeC4 Go.Proofs.YtbccachkkflceaaGreatDoor.FreeW
set_option linter.unusedVariables false
set_option maxRecDepth 100000
set_option linter.unusedSimpArgs false

theorem info_l : ∃ i, Tryz.prog.info? 91 = some i ∧ i.zero = some (.agg #[.int .i64 0, .int .i64 0, .int .i64 0]) ∧ i.size = 3 ∧ i.bytes = 24 := ⟨_, rfl, rfl, rfl, rfl⟩
theorem get_some {a : Act} {d : Tmp} {v : Value} (h : a.tmps[d]? = some v) : a.tmps[d]?.getD undef = v := by rw [h]; rfl
theorem wp_enterR {o : Oper} {a : Act} {w : World} {K : Act → World → Prop} {Q : Exit → Act → World → Prop} {R : Value → World → Prop} (f : FuncId) (args : Array Value) (h : (execOp a.eval o).run Tryz.prog w = .ok (.enter f args) w)
    (hc : Calls Tryz.prog f args w fun e w' => ∃ v, e = .returned v ∧ R v w') (hK : ∀ v w', R v w' → K (a.put o.dst v) w') : o.wp Tryz.prog a w K Q := by
  unfold Oper.wp
  rw [h]
  refine Calls.mono hc ?_
  rintro e w' ⟨v, rfl, hR⟩
  exact hK v w' hR
def LeavesC (t : T) (f : FuncId) (V : Value) : Prop := ∀ (R C : Nat) (W : World), R < 256 → C < 256 → Calls Tryz.prog f #[V, rect R C] W fun e w' => ∃ v, e = .returned v ∧ Own W w' 91 3 v (leavesT t R C).length (cellsL (leavesT t R C))

set_option maxHeartbeats 2000000 in
set_option maxRecDepth 100000 in
theorem end_leaves (b : V3) : LeavesC (.leaf b) 139 (.int .i64 (gI b)) := by
  intro R C w hR hC
  have hb0 := (Below.refl w.heap.size w).alloc (Nat.le_refl _) (.cells #[.int .i64 (R : Int), .int .i64 (C : Int)] 51)
  have HB0 := Lib.hid hb0
  clear hb0
  by_cases h0 : R = 0 ∨ C = 0
  · rw [leaves_none _ R C h0]
    go_enter Tryz.func139, Tryz.ntmps139
    go_wp2_with fail
    refine (rect_any _ _ _).mono ?_
    rintro e w1 ⟨rfl, hb1⟩
    rw [some_no h0]
    have HB1 := Lib.hid (HB0.out.trans (hb1.mono HB0.out.size))
    clear hb1 HB0
    go_wp2_with fail
    go_ret
    exact ⟨.slice none 0 0, rfl, ⟨⟨by simp [cellsL], .inl ⟨rfl, rfl⟩⟩, HB1.out⟩⟩
  · have hl : leavesT (.leaf b) R C = [(R, C, b)] := by simp only [leavesT]; rw [if_neg h0]
    rw [hl]
    go_enter Tryz.func139, Tryz.ntmps139
    go_wp2_with fail
    refine (rect_any _ _ _).mono ?_
    rintro e w1 ⟨rfl, hb1⟩
    rw [some_yes (by omega) hR (by omega) hC]
    have g0 := heap_alloc_new w (.cells #[.int .i64 (R : Int), .int .i64 (C : Int)] 51)
    have g1 : w1.heap[w.heap.size]? = some (.cells #[.int .i64 (R : Int), .int .i64 (C : Int)] 51 (0, 0)) := (hb1.block _ (Array.getElem?_eq_some_iff.1 g0).1).trans g0
    obtain ⟨c0, c1⟩ := cells2 g1
    have HB1 := Lib.hid (HB0.out.trans (hb1.mono HB0.out.size))
    have HOn : Hid (Own w (w1.alloc (.cells #[.int .i64 (R : Int), .int .i64 (C : Int), .int .i64 (gI b)] 91)) 91 3 (.slice (some ⟨w1.heap.size, 0, none⟩) 1 1) 1 [.int .i64 (R : Int), .int .i64 (C : Int), .int .i64 (gI b)]) := by
      have h1 := World.ownsRow_lit (base := w.heap.size) (e := 91) (size := 3) w1 #[.int .i64 (R : Int), .int .i64 (C : Int), .int .i64 (gI b)] 1 HB1.out.size (by unfold maxLen; omega) rfl
      exact ⟨h1, HB1.out.alloc HB1.out.size _⟩
    clear hb1 HB0 g0 g1 HB1 hl h0
    go_wp2_with fail
    go_ret
    exact ⟨_, rfl, HOn.out⟩

set_option maxHeartbeats 8000000 in
set_option maxRecDepth 100000 in
theorem say_leaves (a : Bool) (s : Nat) (z o : T) (hl : (text (.say a s z o)).length ≤ 2000) (hZ : Go.Proofs.YtbccachkkflceaaGreatDoor.Count.Node 139 152 z (LeavesC z)) (hO : Go.Proofs.YtbccachkkflceaaGreatDoor.Count.Node 139 152 o (LeavesC o)) :
    LeavesC (.say a s z o) 152 (.agg #[.int .u8 ((whoB a).toNat : Int), .int .i64 (s : Int), tree z, tree o]) := by
  intro R C w hR hC
  obtain ⟨h1, h2, h3, h4⟩ := parts_lt a s hR hC
  have hlz : (text (.say a s z o)).length = (text z).length + (text o).length + 3 := by simp [text]
  unfold LeavesC Go.Proofs.YtbccachkkflceaaGreatDoor.Count.Node at hZ hO
  have HPo := Lib.hid fun (t1 t2 : TypeId) (v1 v2 : Value) (W : World) => part_out a s R C hR hC t1 t2 v1 v2 W
  have HPi := Lib.hid fun (t1 t2 : TypeId) (v1 v2 : Value) (W : World) => part_in a s R C hR hC t1 t2 v1 v2 W
  have lz := Nat.le_trans (leaves_length z (outR a s R) (outC a s C)) (show _ ≤ 2000 by omega)
  have lo := Nat.le_trans (leaves_length o (inR a s R) (inC a s C)) (show _ ≤ 2000 by omega)
  have HRes : Hid (leavesT (.say a s z o) R C = leavesT z (outR a s R) (outC a s C) ++ leavesT o (inR a s R) (inC a s C)) := rfl
  have lm := cellsL_length (leavesT o (inR a s R) (inC a s C))
  have o1 := cellsL_one (leavesT o (inR a s R) (inC a s C))
  have hZ2 : (∃ V, tree z = .iface 65 V ∧ ∀ W : World, Calls Tryz.prog 139 #[V, rect (outR a s R) (outC a s C)] W fun e w' => ∃ v, e = .returned v ∧ Own W w' 91 3 v (leavesT z (outR a s R) (outC a s C)).length (cellsL (leavesT z (outR a s R) (outC a s C)))) ∨
      (∃ V, tree z = .iface 72 V ∧ ∀ W : World, Calls Tryz.prog 152 #[V, rect (outR a s R) (outC a s C)] W fun e w' => ∃ v, e = .returned v ∧ Own W w' 91 3 v (leavesT z (outR a s R) (outC a s C)).length (cellsL (leavesT z (outR a s R) (outC a s C)))) := by
    rcases hZ with ⟨V, e, h⟩ | ⟨V, e, h⟩
    · exact .inl ⟨V, e, fun W => h _ _ W h1 h2⟩
    · exact .inr ⟨V, e, fun W => h _ _ W h1 h2⟩
  have hO2 : (∃ V, tree o = .iface 65 V ∧ ∀ W : World, Calls Tryz.prog 139 #[V, rect (inR a s R) (inC a s C)] W fun e w' => ∃ v, e = .returned v ∧ Own W w' 91 3 v (leavesT o (inR a s R) (inC a s C)).length (cellsL (leavesT o (inR a s R) (inC a s C)))) ∨
      (∃ V, tree o = .iface 72 V ∧ ∀ W : World, Calls Tryz.prog 152 #[V, rect (inR a s R) (inC a s C)] W fun e w' => ∃ v, e = .returned v ∧ Own W w' 91 3 v (leavesT o (inR a s R) (inC a s C)).length (cellsL (leavesT o (inR a s R) (inC a s C)))) := by
    rcases hO with ⟨V, e, h⟩ | ⟨V, e, h⟩
    · exact .inl ⟨V, e, fun W => h _ _ W h3 h4⟩
    · exact .inr ⟨V, e, fun W => h _ _ W h3 h4⟩
  generalize leavesT (.say a s z o) R C = LA at *
  generalize leavesT z (outR a s R) (outC a s C) = LZ at *
  generalize leavesT o (inR a s R) (inC a s C) = LO at *
  generalize outR a s R = oR at *
  generalize outC a s C = oC at *
  generalize inR a s R = iR at *
  generalize inC a s C = iC at *
  generalize ((whoB a).toNat : Int) = wh at *
  obtain ⟨i0, hi, hz0, hz1, hz2⟩ := info_l
  have LM := Lib.hid lm
  have O1 := Lib.hid o1
  clear hl hlz hR hC hZ hO h1 h2 h3 h4 lm o1
  obtain ⟨B, hB⟩ : ∃ B, w.heap.size = B := ⟨_, rfl⟩
  have HBB := Lib.hid hB
  rcases hZ2 with ⟨V, ez, hz⟩ | ⟨V, ez, hz⟩ <;> rcases hO2 with ⟨U, eo, ho⟩ | ⟨U, eo, ho⟩
  · have HZ := Lib.hid hz
    have HO := Lib.hid ho
    rw [ez, eo]
    clear ez eo hz ho
    go_enter Tryz.func152, Tryz.ntmps152
    go_wp2_with fail
    obtain ⟨W1, hW1⟩ : ∃ W1, (w.alloc (.cells #[.int .u8 wh, .int .i64 (s : Int), .iface 65 V, .iface 65 U] 72)).alloc (.cells #[.int .i64 (R : Int), .int .i64 (C : Int)] 51) = W1 := ⟨_, rfl⟩
    rw [hW1]
    have HWW : Hid (Below w.heap.size w W1) := by
      have h0 : Below w.heap.size w (w.alloc (.cells #[.int .u8 wh, .int .i64 (s : Int), .iface 65 V, .iface 65 U] 72)) := (Below.refl _ _).alloc (Nat.le_refl _) _
      show Below _ _ _; rw [← hW1]; exact h0.alloc h0.size _
    have HM0 : Hid (∀ wx : World, Below W1.heap.size W1 wx → wx.heap[B]? = some (.cells #[.int .u8 wh, .int .i64 (s : Int), .iface 65 V, .iface 65 U] 72 (0, 0))) := fun wx h => by
      have h1 : (w.alloc (.cells #[.int .u8 wh, .int .i64 (s : Int), .iface 65 V, .iface 65 U] 72)).heap[w.heap.size]? = some (.cells #[.int .u8 wh, .int .i64 (s : Int), .iface 65 V, .iface 65 U] 72 (0, 0)) := heap_alloc_new w _
      have h0 : W1.heap[B]? = some (.cells #[.int .u8 wh, .int .i64 (s : Int), .iface 65 V, .iface 65 U] 72 (0, 0)) := by rw [← hW1, ← HBB.out]; rw [heap_alloc_old _ _ (Array.getElem?_eq_some_iff.1 h1).1]; exact h1
      exact (h.block _ (Array.getElem?_eq_some_iff.1 h0).1).trans h0
    have HN0 : Hid (∀ wx : World, Below W1.heap.size W1 wx → wx.heap[B + 1]? = some (.cells #[.int .i64 (R : Int), .int .i64 (C : Int)] 51 (0, 0))) := fun wx h => by
      have h0 : W1.heap[B + 1]? = some (.cells #[.int .i64 (R : Int), .int .i64 (C : Int)] 51 (0, 0)) := by
        rw [← hW1, ← HBB.out]
        have h2 := heap_alloc_new (w.alloc (.cells #[.int .u8 wh, .int .i64 (s : Int), .iface 65 V, .iface 65 U] 72)) (.cells #[.int .i64 (R : Int), .int .i64 (C : Int)] 51)
        rw [show (w.alloc (.cells #[.int .u8 wh, .int .i64 (s : Int), .iface 65 V, .iface 65 U] 72)).heap.size = w.heap.size + 1 by simp] at h2
        exact h2
      exact (h.block _ (Array.getElem?_eq_some_iff.1 h0).1).trans h0
    clear hW1 hB
    refine wp_region_chain4 (fun | 0 => .pointer (some ⟨B, 2, none⟩) | 1 => .pointer (some ⟨B, 2, none⟩) | 2 => .iface 65 V | 3 => .agg #[.int .u8 wh, .int .i64 (s : Int), .iface 65 V, .iface 65 U] | 4 => rect R C | 5 => rect oR oC | 6 => .iface 65 V | 7 => .iface 65 V | 9 => .pointer (some ⟨B, 2, none⟩) | 10 => .pointer (some ⟨B, 3, none⟩) | 11 => .iface 65 U | 12 => .agg #[.int .u8 wh, .int .i64 (s : Int), .iface 65 V, .iface 65 U] | 13 => rect R C | 14 => rect iR iC | 15 => .iface 65 U | 16 => .iface 65 U | _ => undef) (fun i => !(i == 8) && !(i == 17) && !(i == 18) && !(i == 19)) 8 17 18 19 13 22 23 4 _ _ _ _
      (fun w => Below W1.heap.size W1 w) (fun x w => Own W1 w 91 3 x LZ.length (cellsL LZ)) (fun x y w => Own W1 w 91 3 x LZ.length (cellsL LZ) ∧ Own W1 w 91 3 y LO.length (cellsL LO)) (fun y w => Own W1 w 91 3 y (LZ.length + LO.length) (cellsL LZ ++ cellsL LO)) (fun y w => Own W1 w 91 3 y (LZ.length + LO.length) (cellsL LZ ++ cellsL LO)) (fun w => Below W1.heap.size W1 w)
      (by kernel_rfl) (by kernel_rfl) rfl rfl rfl rfl rfl rfl rfl rfl rfl rfl (by decide) (by decide) (.inr ⟨14, _, rfl, ⟨⟨14, .chain⟩, (by simp), rfl, rfl⟩, ⟨8, .chain⟩, (by simp), rfl, rfl⟩) ⟨⟨17, .data⟩, (by simp), rfl, rfl⟩ ⟨⟨18, .data⟩, (by simp), rfl, rfl⟩ ?otLee ?h0Lee (fun w h => h) (fun v w h => h.below) (fun v u w h => h.1.below) (fun t w h => h.below) (fun t w h => h.below) (fun w w1 hb h => h.trans (hb.mono h.size)) (fun v w w1 hb h => h.later hb) (fun v u w w1 hb h => ⟨h.1.later hb, h.2.later hb⟩) (fun t w w1 hb h => h.later hb) (fun t w w1 hb h => h.later hb) ?conLee ?saLee ?sbLee ?scLee ?sdLee ?enLee
    case otLee =>
      intro i o ho hki
      match i, ho with
      | 0, ho =>
        obtain rfl := Option.some.inj ho
        exact ⟨by decide, by decide, by decide, by decide⟩
      | 1, ho =>
        obtain rfl := Option.some.inj ho
        exact ⟨by decide, by decide, by decide, by decide⟩
      | 2, ho =>
        obtain rfl := Option.some.inj ho
        exact ⟨by decide, by decide, by decide, by decide⟩
      | 3, ho =>
        obtain rfl := Option.some.inj ho
        exact ⟨by decide, by decide, by decide, by decide⟩
      | 4, ho =>
        obtain rfl := Option.some.inj ho
        exact ⟨by decide, by decide, by decide, by decide⟩
      | 5, ho =>
        obtain rfl := Option.some.inj ho
        exact ⟨by decide, by decide, by decide, by decide⟩
      | 6, ho =>
        obtain rfl := Option.some.inj ho
        exact ⟨by decide, by decide, by decide, by decide⟩
      | 7, ho =>
        obtain rfl := Option.some.inj ho
        exact ⟨by decide, by decide, by decide, by decide⟩
      | 8, ho => exact absurd hki (by decide)
      | 9, ho =>
        obtain rfl := Option.some.inj ho
        exact ⟨by decide, by decide, by decide, by decide⟩
      | 10, ho =>
        obtain rfl := Option.some.inj ho
        exact ⟨by decide, by decide, by decide, by decide⟩
      | 11, ho =>
        obtain rfl := Option.some.inj ho
        exact ⟨by decide, by decide, by decide, by decide⟩
      | 12, ho =>
        obtain rfl := Option.some.inj ho
        exact ⟨by decide, by decide, by decide, by decide⟩
      | 13, ho =>
        obtain rfl := Option.some.inj ho
        exact ⟨by decide, by decide, by decide, by decide⟩
      | 14, ho =>
        obtain rfl := Option.some.inj ho
        exact ⟨by decide, by decide, by decide, by decide⟩
      | 15, ho =>
        obtain rfl := Option.some.inj ho
        exact ⟨by decide, by decide, by decide, by decide⟩
      | 16, ho =>
        obtain rfl := Option.some.inj ho
        exact ⟨by decide, by decide, by decide, by decide⟩
      | 17, ho => exact absurd hki (by decide)
      | 18, ho => exact absurd hki (by decide)
      | 19, ho => exact absurd hki (by decide)
      | q + 20, ho => simp at ho
    case h0Lee => exact drew_at W1
    case conLee =>
      intro i o ho hki a wx hJ hf
      match i, ho with
      | 0, ho =>
        obtain rfl := Option.some.inj ho
        have b2 : a.tmps[2]?.getD undef = .pointer (some ⟨B, 0, none⟩) := hf.2 2 (by kernel_rfl)
        exact wp_value (.pointer (some ⟨B, 2, none⟩)) (by unfold execOp; go_simp) ⟨rfl, Below.refl _ _⟩
      | 1, ho =>
        obtain rfl := Option.some.inj ho
        have e5 : a.tmps[5]?.getD undef = .pointer (some ⟨B, 2, none⟩) := hf.1 ⟨0, .data⟩ (by simp) rfl _ 5 rfl rfl (by decide)
        exact wp_value (.pointer (some ⟨B, 2, none⟩)) (by unfold execOp; go_simp) ⟨rfl, Below.refl _ _⟩
      | 2, ho =>
        obtain rfl := Option.some.inj ho
        have e6 : a.tmps[6]?.getD undef = .pointer (some ⟨B, 2, none⟩) := hf.1 ⟨1, .data⟩ (by simp) rfl _ 6 rfl rfl (by decide)
        obtain ⟨c0, c1, c2, c3⟩ := cells4 (HM0.out wx hJ)
        exact wp_value (.iface 65 V) (by unfold execOp; go_simp) ⟨rfl, Below.refl _ _⟩
      | 3, ho =>
        obtain rfl := Option.some.inj ho
        have b2 : a.tmps[2]?.getD undef = .pointer (some ⟨B, 0, none⟩) := hf.2 2 (by kernel_rfl)
        exact wp_load_row 72 (.tmp 2) rfl (B) (eval_get b2) 72 _ (0, 0) _ (HM0.out wx hJ) Tryz.underlying72 rfl (info_say _ _ _ _) ⟨rfl, Below.refl _ _⟩
      | 4, ho =>
        obtain rfl := Option.some.inj ho
        have b3 : a.tmps[3]?.getD undef = .pointer (some ⟨B + 1, 0, none⟩) := hf.2 3 (by kernel_rfl)
        exact wp_load_row 51 (.tmp 3) rfl (B + 1) (eval_get b3) 51 _ (0, 0) _ (HN0.out wx hJ) Tryz.underlying51 rfl (info_rect _ _) ⟨rfl, Below.refl _ _⟩
      | 5, ho =>
        obtain rfl := Option.some.inj ho
        have e8 : a.tmps[8]?.getD undef = .agg #[.int .u8 wh, .int .i64 (s : Int), .iface 65 V, .iface 65 U] := hf.1 ⟨3, .data⟩ (by simp) rfl _ 8 rfl rfl (by decide)
        have e9 : a.tmps[9]?.getD undef = rect R C := hf.1 ⟨4, .data⟩ (by simp) rfl _ 9 rfl rfl (by decide)
        exact wp_enter 63 #[.agg #[.int .u8 wh, .int .i64 (s : Int), .iface 65 V, .iface 65 U], rect R C, .int .i64 0] (rect oR oC) _ (by unfold execOp; go_simp) (HPo.out _ _ _ _ wx) (fun w' h => ⟨rfl, h⟩)
      | 6, ho =>
        obtain rfl := Option.some.inj ho
        have e7 : a.tmps[7]?.getD undef = .iface 65 V := hf.1 ⟨2, .data⟩ (by simp) rfl _ 7 rfl rfl (by decide)
        exact wp_value (.iface 65 V) (by unfold execOp; go_simp) ⟨rfl, Below.refl _ _⟩
      | 7, ho =>
        obtain rfl := Option.some.inj ho
        have e7 : a.tmps[7]?.getD undef = .iface 65 V := hf.1 ⟨2, .data⟩ (by simp) rfl _ 7 rfl rfl (by decide)
        exact wp_value (.iface 65 V) (by unfold execOp; go_simp) ⟨rfl, Below.refl _ _⟩
      | 8, ho => exact absurd hki (by decide)
      | 9, ho =>
        obtain rfl := Option.some.inj ho
        have b2 : a.tmps[2]?.getD undef = .pointer (some ⟨B, 0, none⟩) := hf.2 2 (by kernel_rfl)
        exact wp_value (.pointer (some ⟨B, 2, none⟩)) (by unfold execOp; go_simp) ⟨rfl, Below.refl _ _⟩
      | 10, ho =>
        obtain rfl := Option.some.inj ho
        have e14 : a.tmps[14]?.getD undef = .pointer (some ⟨B, 2, none⟩) := hf.1 ⟨9, .data⟩ (by simp) rfl _ 14 rfl rfl (by decide)
        exact wp_value (.pointer (some ⟨B, 3, none⟩)) (by unfold execOp; go_simp) ⟨rfl, Below.refl _ _⟩
      | 11, ho =>
        obtain rfl := Option.some.inj ho
        have e15 : a.tmps[15]?.getD undef = .pointer (some ⟨B, 3, none⟩) := hf.1 ⟨10, .data⟩ (by simp) rfl _ 15 rfl rfl (by decide)
        obtain ⟨c0, c1, c2, c3⟩ := cells4 (HM0.out wx hJ)
        exact wp_value (.iface 65 U) (by unfold execOp; go_simp) ⟨rfl, Below.refl _ _⟩
      | 12, ho =>
        obtain rfl := Option.some.inj ho
        have b2 : a.tmps[2]?.getD undef = .pointer (some ⟨B, 0, none⟩) := hf.2 2 (by kernel_rfl)
        exact wp_load_row 72 (.tmp 2) rfl (B) (eval_get b2) 72 _ (0, 0) _ (HM0.out wx hJ) Tryz.underlying72 rfl (info_say _ _ _ _) ⟨rfl, Below.refl _ _⟩
      | 13, ho =>
        obtain rfl := Option.some.inj ho
        have b3 : a.tmps[3]?.getD undef = .pointer (some ⟨B + 1, 0, none⟩) := hf.2 3 (by kernel_rfl)
        exact wp_load_row 51 (.tmp 3) rfl (B + 1) (eval_get b3) 51 _ (0, 0) _ (HN0.out wx hJ) Tryz.underlying51 rfl (info_rect _ _) ⟨rfl, Below.refl _ _⟩
      | 14, ho =>
        obtain rfl := Option.some.inj ho
        have e17 : a.tmps[17]?.getD undef = .agg #[.int .u8 wh, .int .i64 (s : Int), .iface 65 V, .iface 65 U] := hf.1 ⟨12, .data⟩ (by simp) rfl _ 17 rfl rfl (by decide)
        have e18 : a.tmps[18]?.getD undef = rect R C := hf.1 ⟨13, .data⟩ (by simp) rfl _ 18 rfl rfl (by decide)
        exact wp_enter 63 #[.agg #[.int .u8 wh, .int .i64 (s : Int), .iface 65 V, .iface 65 U], rect R C, .int .i64 1] (rect iR iC) _ (by unfold execOp; go_simp) (HPi.out _ _ _ _ wx) (fun w' h => ⟨rfl, h⟩)
      | 15, ho =>
        obtain rfl := Option.some.inj ho
        have e16 : a.tmps[16]?.getD undef = .iface 65 U := hf.1 ⟨11, .data⟩ (by simp) rfl _ 16 rfl rfl (by decide)
        exact wp_value (.iface 65 U) (by unfold execOp; go_simp) ⟨rfl, Below.refl _ _⟩
      | 16, ho =>
        obtain rfl := Option.some.inj ho
        have e16 : a.tmps[16]?.getD undef = .iface 65 U := hf.1 ⟨11, .data⟩ (by simp) rfl _ 16 rfl rfl (by decide)
        exact wp_value (.iface 65 U) (by unfold execOp; go_simp) ⟨rfl, Below.refl _ _⟩
      | 17, ho => exact absurd hki (by decide)
      | 18, ho => exact absurd hki (by decide)
      | 19, ho => exact absurd hki (by decide)
      | q + 20, ho => simp at ho
    case saLee =>
      intro a wx hI hf
      have e12 : a.tmps[12]?.getD undef = .iface 65 V := hf.1 ⟨7, .data⟩ (by simp) rfl _ 12 rfl rfl (by decide)
      have e10 : a.tmps[10]?.getD undef = rect oR oC := hf.1 ⟨5, .data⟩ (by simp) rfl _ 10 rfl rfl (by decide)
      refine wp_enterR 139 #[V, rect oR oC] (by unfold execOp; go_simp; go_invoke; rfl) (HZ.out wx) ?_
      intro v' w' h1
      exact ⟨v', rfl, Leaf.Own.lower h1 hI⟩
    case sbLee =>
      intro a wx x hI hv hf
      have e21 : a.tmps[21]?.getD undef = .iface 65 U := hf.1 ⟨16, .data⟩ (by simp) rfl _ 21 rfl rfl (by decide)
      have e19 : a.tmps[19]?.getD undef = rect iR iC := hf.1 ⟨14, .data⟩ (by simp) rfl _ 19 rfl rfl (by decide)
      refine wp_enterR 139 #[U, rect iR iC] (by unfold execOp; go_simp; go_invoke; rfl) (HO.out wx) ?_
      intro v' w' h1
      exact ⟨v', rfl, hI.later h1.below, Leaf.Own.lower h1 hI.below⟩
    case scLee =>
      intro a wx x y hI hv hu hf
      refine wp_append_two (w0 := W1) (.tmp 13) (.tmp 22) 88 rfl 91 i0 (.agg #[.int .i64 0, .int .i64 0, .int .i64 0]) 3 24 Tryz.underlying88 hi hz0 hz1 hz2 rfl (by decide) x y LZ.length LO.length (cellsL LZ) (cellsL LO) (eval_get (get_some hv)) hI.1 (eval_get (get_some hu)) hI.2 LM.out O1.out (by omega) (by decide) ?_
      intro v' w' h1
      exact ⟨v', rfl, h1⟩
    case sdLee =>
      intro a wx y hI hv hf
      have e23 := get_some hv
      exact wp_value y (by unfold execOp; go_simp) ⟨y, rfl, hI⟩
    intro k1 k2 k3 res w9 hI
    have HF : Hid (Own w w9 91 3 res (LZ.length + LO.length) (cellsL LZ ++ cellsL LO)) := Leaf.Own.lower hI HWW.out
    clear hI HM0 HN0 HWW
    simp only [fill, Act.put]
    go_simp
    go_wp2_with fail
    go_ret
    exact ⟨res, rfl, by rw [HRes.out, List.length_append, cellsL_append]; exact HF.out⟩
  · have HZ := Lib.hid hz
    have HO := Lib.hid ho
    rw [ez, eo]
    clear ez eo hz ho
    go_enter Tryz.func152, Tryz.ntmps152
    go_wp2_with fail
    obtain ⟨W1, hW1⟩ : ∃ W1, (w.alloc (.cells #[.int .u8 wh, .int .i64 (s : Int), .iface 65 V, .iface 72 U] 72)).alloc (.cells #[.int .i64 (R : Int), .int .i64 (C : Int)] 51) = W1 := ⟨_, rfl⟩
    rw [hW1]
    have HWW : Hid (Below w.heap.size w W1) := by
      have h0 : Below w.heap.size w (w.alloc (.cells #[.int .u8 wh, .int .i64 (s : Int), .iface 65 V, .iface 72 U] 72)) := (Below.refl _ _).alloc (Nat.le_refl _) _
      show Below _ _ _; rw [← hW1]; exact h0.alloc h0.size _
    have HM0 : Hid (∀ wx : World, Below W1.heap.size W1 wx → wx.heap[B]? = some (.cells #[.int .u8 wh, .int .i64 (s : Int), .iface 65 V, .iface 72 U] 72 (0, 0))) := fun wx h => by
      have h1 : (w.alloc (.cells #[.int .u8 wh, .int .i64 (s : Int), .iface 65 V, .iface 72 U] 72)).heap[w.heap.size]? = some (.cells #[.int .u8 wh, .int .i64 (s : Int), .iface 65 V, .iface 72 U] 72 (0, 0)) := heap_alloc_new w _
      have h0 : W1.heap[B]? = some (.cells #[.int .u8 wh, .int .i64 (s : Int), .iface 65 V, .iface 72 U] 72 (0, 0)) := by rw [← hW1, ← HBB.out]; rw [heap_alloc_old _ _ (Array.getElem?_eq_some_iff.1 h1).1]; exact h1
      exact (h.block _ (Array.getElem?_eq_some_iff.1 h0).1).trans h0
    have HN0 : Hid (∀ wx : World, Below W1.heap.size W1 wx → wx.heap[B + 1]? = some (.cells #[.int .i64 (R : Int), .int .i64 (C : Int)] 51 (0, 0))) := fun wx h => by
      have h0 : W1.heap[B + 1]? = some (.cells #[.int .i64 (R : Int), .int .i64 (C : Int)] 51 (0, 0)) := by
        rw [← hW1, ← HBB.out]
        have h2 := heap_alloc_new (w.alloc (.cells #[.int .u8 wh, .int .i64 (s : Int), .iface 65 V, .iface 72 U] 72)) (.cells #[.int .i64 (R : Int), .int .i64 (C : Int)] 51)
        rw [show (w.alloc (.cells #[.int .u8 wh, .int .i64 (s : Int), .iface 65 V, .iface 72 U] 72)).heap.size = w.heap.size + 1 by simp] at h2
        exact h2
      exact (h.block _ (Array.getElem?_eq_some_iff.1 h0).1).trans h0
    clear hW1 hB
    refine wp_region_chain4 (fun | 0 => .pointer (some ⟨B, 2, none⟩) | 1 => .pointer (some ⟨B, 2, none⟩) | 2 => .iface 65 V | 3 => .agg #[.int .u8 wh, .int .i64 (s : Int), .iface 65 V, .iface 72 U] | 4 => rect R C | 5 => rect oR oC | 6 => .iface 65 V | 7 => .iface 65 V | 9 => .pointer (some ⟨B, 2, none⟩) | 10 => .pointer (some ⟨B, 3, none⟩) | 11 => .iface 72 U | 12 => .agg #[.int .u8 wh, .int .i64 (s : Int), .iface 65 V, .iface 72 U] | 13 => rect R C | 14 => rect iR iC | 15 => .iface 72 U | 16 => .iface 72 U | _ => undef) (fun i => !(i == 8) && !(i == 17) && !(i == 18) && !(i == 19)) 8 17 18 19 13 22 23 4 _ _ _ _
      (fun w => Below W1.heap.size W1 w) (fun x w => Own W1 w 91 3 x LZ.length (cellsL LZ)) (fun x y w => Own W1 w 91 3 x LZ.length (cellsL LZ) ∧ Own W1 w 91 3 y LO.length (cellsL LO)) (fun y w => Own W1 w 91 3 y (LZ.length + LO.length) (cellsL LZ ++ cellsL LO)) (fun y w => Own W1 w 91 3 y (LZ.length + LO.length) (cellsL LZ ++ cellsL LO)) (fun w => Below W1.heap.size W1 w)
      (by kernel_rfl) (by kernel_rfl) rfl rfl rfl rfl rfl rfl rfl rfl rfl rfl (by decide) (by decide) (.inr ⟨14, _, rfl, ⟨⟨14, .chain⟩, (by simp), rfl, rfl⟩, ⟨8, .chain⟩, (by simp), rfl, rfl⟩) ⟨⟨17, .data⟩, (by simp), rfl, rfl⟩ ⟨⟨18, .data⟩, (by simp), rfl, rfl⟩ ?otLes ?h0Les (fun w h => h) (fun v w h => h.below) (fun v u w h => h.1.below) (fun t w h => h.below) (fun t w h => h.below) (fun w w1 hb h => h.trans (hb.mono h.size)) (fun v w w1 hb h => h.later hb) (fun v u w w1 hb h => ⟨h.1.later hb, h.2.later hb⟩) (fun t w w1 hb h => h.later hb) (fun t w w1 hb h => h.later hb) ?conLes ?saLes ?sbLes ?scLes ?sdLes ?enLes
    case otLes =>
      intro i o ho hki
      match i, ho with
      | 0, ho =>
        obtain rfl := Option.some.inj ho
        exact ⟨by decide, by decide, by decide, by decide⟩
      | 1, ho =>
        obtain rfl := Option.some.inj ho
        exact ⟨by decide, by decide, by decide, by decide⟩
      | 2, ho =>
        obtain rfl := Option.some.inj ho
        exact ⟨by decide, by decide, by decide, by decide⟩
      | 3, ho =>
        obtain rfl := Option.some.inj ho
        exact ⟨by decide, by decide, by decide, by decide⟩
      | 4, ho =>
        obtain rfl := Option.some.inj ho
        exact ⟨by decide, by decide, by decide, by decide⟩
      | 5, ho =>
        obtain rfl := Option.some.inj ho
        exact ⟨by decide, by decide, by decide, by decide⟩
      | 6, ho =>
        obtain rfl := Option.some.inj ho
        exact ⟨by decide, by decide, by decide, by decide⟩
      | 7, ho =>
        obtain rfl := Option.some.inj ho
        exact ⟨by decide, by decide, by decide, by decide⟩
      | 8, ho => exact absurd hki (by decide)
      | 9, ho =>
        obtain rfl := Option.some.inj ho
        exact ⟨by decide, by decide, by decide, by decide⟩
      | 10, ho =>
        obtain rfl := Option.some.inj ho
        exact ⟨by decide, by decide, by decide, by decide⟩
      | 11, ho =>
        obtain rfl := Option.some.inj ho
        exact ⟨by decide, by decide, by decide, by decide⟩
      | 12, ho =>
        obtain rfl := Option.some.inj ho
        exact ⟨by decide, by decide, by decide, by decide⟩
      | 13, ho =>
        obtain rfl := Option.some.inj ho
        exact ⟨by decide, by decide, by decide, by decide⟩
      | 14, ho =>
        obtain rfl := Option.some.inj ho
        exact ⟨by decide, by decide, by decide, by decide⟩
      | 15, ho =>
        obtain rfl := Option.some.inj ho
        exact ⟨by decide, by decide, by decide, by decide⟩
      | 16, ho =>
        obtain rfl := Option.some.inj ho
        exact ⟨by decide, by decide, by decide, by decide⟩
      | 17, ho => exact absurd hki (by decide)
      | 18, ho => exact absurd hki (by decide)
      | 19, ho => exact absurd hki (by decide)
      | q + 20, ho => simp at ho
    case h0Les => exact drew_at W1
    case conLes =>
      intro i o ho hki a wx hJ hf
      match i, ho with
      | 0, ho =>
        obtain rfl := Option.some.inj ho
        have b2 : a.tmps[2]?.getD undef = .pointer (some ⟨B, 0, none⟩) := hf.2 2 (by kernel_rfl)
        exact wp_value (.pointer (some ⟨B, 2, none⟩)) (by unfold execOp; go_simp) ⟨rfl, Below.refl _ _⟩
      | 1, ho =>
        obtain rfl := Option.some.inj ho
        have e5 : a.tmps[5]?.getD undef = .pointer (some ⟨B, 2, none⟩) := hf.1 ⟨0, .data⟩ (by simp) rfl _ 5 rfl rfl (by decide)
        exact wp_value (.pointer (some ⟨B, 2, none⟩)) (by unfold execOp; go_simp) ⟨rfl, Below.refl _ _⟩
      | 2, ho =>
        obtain rfl := Option.some.inj ho
        have e6 : a.tmps[6]?.getD undef = .pointer (some ⟨B, 2, none⟩) := hf.1 ⟨1, .data⟩ (by simp) rfl _ 6 rfl rfl (by decide)
        obtain ⟨c0, c1, c2, c3⟩ := cells4 (HM0.out wx hJ)
        exact wp_value (.iface 65 V) (by unfold execOp; go_simp) ⟨rfl, Below.refl _ _⟩
      | 3, ho =>
        obtain rfl := Option.some.inj ho
        have b2 : a.tmps[2]?.getD undef = .pointer (some ⟨B, 0, none⟩) := hf.2 2 (by kernel_rfl)
        exact wp_load_row 72 (.tmp 2) rfl (B) (eval_get b2) 72 _ (0, 0) _ (HM0.out wx hJ) Tryz.underlying72 rfl (info_say _ _ _ _) ⟨rfl, Below.refl _ _⟩
      | 4, ho =>
        obtain rfl := Option.some.inj ho
        have b3 : a.tmps[3]?.getD undef = .pointer (some ⟨B + 1, 0, none⟩) := hf.2 3 (by kernel_rfl)
        exact wp_load_row 51 (.tmp 3) rfl (B + 1) (eval_get b3) 51 _ (0, 0) _ (HN0.out wx hJ) Tryz.underlying51 rfl (info_rect _ _) ⟨rfl, Below.refl _ _⟩
      | 5, ho =>
        obtain rfl := Option.some.inj ho
        have e8 : a.tmps[8]?.getD undef = .agg #[.int .u8 wh, .int .i64 (s : Int), .iface 65 V, .iface 72 U] := hf.1 ⟨3, .data⟩ (by simp) rfl _ 8 rfl rfl (by decide)
        have e9 : a.tmps[9]?.getD undef = rect R C := hf.1 ⟨4, .data⟩ (by simp) rfl _ 9 rfl rfl (by decide)
        exact wp_enter 63 #[.agg #[.int .u8 wh, .int .i64 (s : Int), .iface 65 V, .iface 72 U], rect R C, .int .i64 0] (rect oR oC) _ (by unfold execOp; go_simp) (HPo.out _ _ _ _ wx) (fun w' h => ⟨rfl, h⟩)
      | 6, ho =>
        obtain rfl := Option.some.inj ho
        have e7 : a.tmps[7]?.getD undef = .iface 65 V := hf.1 ⟨2, .data⟩ (by simp) rfl _ 7 rfl rfl (by decide)
        exact wp_value (.iface 65 V) (by unfold execOp; go_simp) ⟨rfl, Below.refl _ _⟩
      | 7, ho =>
        obtain rfl := Option.some.inj ho
        have e7 : a.tmps[7]?.getD undef = .iface 65 V := hf.1 ⟨2, .data⟩ (by simp) rfl _ 7 rfl rfl (by decide)
        exact wp_value (.iface 65 V) (by unfold execOp; go_simp) ⟨rfl, Below.refl _ _⟩
      | 8, ho => exact absurd hki (by decide)
      | 9, ho =>
        obtain rfl := Option.some.inj ho
        have b2 : a.tmps[2]?.getD undef = .pointer (some ⟨B, 0, none⟩) := hf.2 2 (by kernel_rfl)
        exact wp_value (.pointer (some ⟨B, 2, none⟩)) (by unfold execOp; go_simp) ⟨rfl, Below.refl _ _⟩
      | 10, ho =>
        obtain rfl := Option.some.inj ho
        have e14 : a.tmps[14]?.getD undef = .pointer (some ⟨B, 2, none⟩) := hf.1 ⟨9, .data⟩ (by simp) rfl _ 14 rfl rfl (by decide)
        exact wp_value (.pointer (some ⟨B, 3, none⟩)) (by unfold execOp; go_simp) ⟨rfl, Below.refl _ _⟩
      | 11, ho =>
        obtain rfl := Option.some.inj ho
        have e15 : a.tmps[15]?.getD undef = .pointer (some ⟨B, 3, none⟩) := hf.1 ⟨10, .data⟩ (by simp) rfl _ 15 rfl rfl (by decide)
        obtain ⟨c0, c1, c2, c3⟩ := cells4 (HM0.out wx hJ)
        exact wp_value (.iface 72 U) (by unfold execOp; go_simp) ⟨rfl, Below.refl _ _⟩
      | 12, ho =>
        obtain rfl := Option.some.inj ho
        have b2 : a.tmps[2]?.getD undef = .pointer (some ⟨B, 0, none⟩) := hf.2 2 (by kernel_rfl)
        exact wp_load_row 72 (.tmp 2) rfl (B) (eval_get b2) 72 _ (0, 0) _ (HM0.out wx hJ) Tryz.underlying72 rfl (info_say _ _ _ _) ⟨rfl, Below.refl _ _⟩
      | 13, ho =>
        obtain rfl := Option.some.inj ho
        have b3 : a.tmps[3]?.getD undef = .pointer (some ⟨B + 1, 0, none⟩) := hf.2 3 (by kernel_rfl)
        exact wp_load_row 51 (.tmp 3) rfl (B + 1) (eval_get b3) 51 _ (0, 0) _ (HN0.out wx hJ) Tryz.underlying51 rfl (info_rect _ _) ⟨rfl, Below.refl _ _⟩
      | 14, ho =>
        obtain rfl := Option.some.inj ho
        have e17 : a.tmps[17]?.getD undef = .agg #[.int .u8 wh, .int .i64 (s : Int), .iface 65 V, .iface 72 U] := hf.1 ⟨12, .data⟩ (by simp) rfl _ 17 rfl rfl (by decide)
        have e18 : a.tmps[18]?.getD undef = rect R C := hf.1 ⟨13, .data⟩ (by simp) rfl _ 18 rfl rfl (by decide)
        exact wp_enter 63 #[.agg #[.int .u8 wh, .int .i64 (s : Int), .iface 65 V, .iface 72 U], rect R C, .int .i64 1] (rect iR iC) _ (by unfold execOp; go_simp) (HPi.out _ _ _ _ wx) (fun w' h => ⟨rfl, h⟩)
      | 15, ho =>
        obtain rfl := Option.some.inj ho
        have e16 : a.tmps[16]?.getD undef = .iface 72 U := hf.1 ⟨11, .data⟩ (by simp) rfl _ 16 rfl rfl (by decide)
        exact wp_value (.iface 72 U) (by unfold execOp; go_simp) ⟨rfl, Below.refl _ _⟩
      | 16, ho =>
        obtain rfl := Option.some.inj ho
        have e16 : a.tmps[16]?.getD undef = .iface 72 U := hf.1 ⟨11, .data⟩ (by simp) rfl _ 16 rfl rfl (by decide)
        exact wp_value (.iface 72 U) (by unfold execOp; go_simp) ⟨rfl, Below.refl _ _⟩
      | 17, ho => exact absurd hki (by decide)
      | 18, ho => exact absurd hki (by decide)
      | 19, ho => exact absurd hki (by decide)
      | q + 20, ho => simp at ho
    case saLes =>
      intro a wx hI hf
      have e12 : a.tmps[12]?.getD undef = .iface 65 V := hf.1 ⟨7, .data⟩ (by simp) rfl _ 12 rfl rfl (by decide)
      have e10 : a.tmps[10]?.getD undef = rect oR oC := hf.1 ⟨5, .data⟩ (by simp) rfl _ 10 rfl rfl (by decide)
      refine wp_enterR 139 #[V, rect oR oC] (by unfold execOp; go_simp; go_invoke; rfl) (HZ.out wx) ?_
      intro v' w' h1
      exact ⟨v', rfl, Leaf.Own.lower h1 hI⟩
    case sbLes =>
      intro a wx x hI hv hf
      have e21 : a.tmps[21]?.getD undef = .iface 72 U := hf.1 ⟨16, .data⟩ (by simp) rfl _ 21 rfl rfl (by decide)
      have e19 : a.tmps[19]?.getD undef = rect iR iC := hf.1 ⟨14, .data⟩ (by simp) rfl _ 19 rfl rfl (by decide)
      refine wp_enterR 152 #[U, rect iR iC] (by unfold execOp; go_simp; go_invoke; rfl) (HO.out wx) ?_
      intro v' w' h1
      exact ⟨v', rfl, hI.later h1.below, Leaf.Own.lower h1 hI.below⟩
    case scLes =>
      intro a wx x y hI hv hu hf
      refine wp_append_two (w0 := W1) (.tmp 13) (.tmp 22) 88 rfl 91 i0 (.agg #[.int .i64 0, .int .i64 0, .int .i64 0]) 3 24 Tryz.underlying88 hi hz0 hz1 hz2 rfl (by decide) x y LZ.length LO.length (cellsL LZ) (cellsL LO) (eval_get (get_some hv)) hI.1 (eval_get (get_some hu)) hI.2 LM.out O1.out (by omega) (by decide) ?_
      intro v' w' h1
      exact ⟨v', rfl, h1⟩
    case sdLes =>
      intro a wx y hI hv hf
      have e23 := get_some hv
      exact wp_value y (by unfold execOp; go_simp) ⟨y, rfl, hI⟩
    intro k1 k2 k3 res w9 hI
    have HF : Hid (Own w w9 91 3 res (LZ.length + LO.length) (cellsL LZ ++ cellsL LO)) := Leaf.Own.lower hI HWW.out
    clear hI HM0 HN0 HWW
    simp only [fill, Act.put]
    go_simp
    go_wp2_with fail
    go_ret
    exact ⟨res, rfl, by rw [HRes.out, List.length_append, cellsL_append]; exact HF.out⟩
  · have HZ := Lib.hid hz
    have HO := Lib.hid ho
    rw [ez, eo]
    clear ez eo hz ho
    go_enter Tryz.func152, Tryz.ntmps152
    go_wp2_with fail
    obtain ⟨W1, hW1⟩ : ∃ W1, (w.alloc (.cells #[.int .u8 wh, .int .i64 (s : Int), .iface 72 V, .iface 65 U] 72)).alloc (.cells #[.int .i64 (R : Int), .int .i64 (C : Int)] 51) = W1 := ⟨_, rfl⟩
    rw [hW1]
    have HWW : Hid (Below w.heap.size w W1) := by
      have h0 : Below w.heap.size w (w.alloc (.cells #[.int .u8 wh, .int .i64 (s : Int), .iface 72 V, .iface 65 U] 72)) := (Below.refl _ _).alloc (Nat.le_refl _) _
      show Below _ _ _; rw [← hW1]; exact h0.alloc h0.size _
    have HM0 : Hid (∀ wx : World, Below W1.heap.size W1 wx → wx.heap[B]? = some (.cells #[.int .u8 wh, .int .i64 (s : Int), .iface 72 V, .iface 65 U] 72 (0, 0))) := fun wx h => by
      have h1 : (w.alloc (.cells #[.int .u8 wh, .int .i64 (s : Int), .iface 72 V, .iface 65 U] 72)).heap[w.heap.size]? = some (.cells #[.int .u8 wh, .int .i64 (s : Int), .iface 72 V, .iface 65 U] 72 (0, 0)) := heap_alloc_new w _
      have h0 : W1.heap[B]? = some (.cells #[.int .u8 wh, .int .i64 (s : Int), .iface 72 V, .iface 65 U] 72 (0, 0)) := by rw [← hW1, ← HBB.out]; rw [heap_alloc_old _ _ (Array.getElem?_eq_some_iff.1 h1).1]; exact h1
      exact (h.block _ (Array.getElem?_eq_some_iff.1 h0).1).trans h0
    have HN0 : Hid (∀ wx : World, Below W1.heap.size W1 wx → wx.heap[B + 1]? = some (.cells #[.int .i64 (R : Int), .int .i64 (C : Int)] 51 (0, 0))) := fun wx h => by
      have h0 : W1.heap[B + 1]? = some (.cells #[.int .i64 (R : Int), .int .i64 (C : Int)] 51 (0, 0)) := by
        rw [← hW1, ← HBB.out]
        have h2 := heap_alloc_new (w.alloc (.cells #[.int .u8 wh, .int .i64 (s : Int), .iface 72 V, .iface 65 U] 72)) (.cells #[.int .i64 (R : Int), .int .i64 (C : Int)] 51)
        rw [show (w.alloc (.cells #[.int .u8 wh, .int .i64 (s : Int), .iface 72 V, .iface 65 U] 72)).heap.size = w.heap.size + 1 by simp] at h2
        exact h2
      exact (h.block _ (Array.getElem?_eq_some_iff.1 h0).1).trans h0
    clear hW1 hB
    refine wp_region_chain4 (fun | 0 => .pointer (some ⟨B, 2, none⟩) | 1 => .pointer (some ⟨B, 2, none⟩) | 2 => .iface 72 V | 3 => .agg #[.int .u8 wh, .int .i64 (s : Int), .iface 72 V, .iface 65 U] | 4 => rect R C | 5 => rect oR oC | 6 => .iface 72 V | 7 => .iface 72 V | 9 => .pointer (some ⟨B, 2, none⟩) | 10 => .pointer (some ⟨B, 3, none⟩) | 11 => .iface 65 U | 12 => .agg #[.int .u8 wh, .int .i64 (s : Int), .iface 72 V, .iface 65 U] | 13 => rect R C | 14 => rect iR iC | 15 => .iface 65 U | 16 => .iface 65 U | _ => undef) (fun i => !(i == 8) && !(i == 17) && !(i == 18) && !(i == 19)) 8 17 18 19 13 22 23 4 _ _ _ _
      (fun w => Below W1.heap.size W1 w) (fun x w => Own W1 w 91 3 x LZ.length (cellsL LZ)) (fun x y w => Own W1 w 91 3 x LZ.length (cellsL LZ) ∧ Own W1 w 91 3 y LO.length (cellsL LO)) (fun y w => Own W1 w 91 3 y (LZ.length + LO.length) (cellsL LZ ++ cellsL LO)) (fun y w => Own W1 w 91 3 y (LZ.length + LO.length) (cellsL LZ ++ cellsL LO)) (fun w => Below W1.heap.size W1 w)
      (by kernel_rfl) (by kernel_rfl) rfl rfl rfl rfl rfl rfl rfl rfl rfl rfl (by decide) (by decide) (.inr ⟨14, _, rfl, ⟨⟨14, .chain⟩, (by simp), rfl, rfl⟩, ⟨8, .chain⟩, (by simp), rfl, rfl⟩) ⟨⟨17, .data⟩, (by simp), rfl, rfl⟩ ⟨⟨18, .data⟩, (by simp), rfl, rfl⟩ ?otLse ?h0Lse (fun w h => h) (fun v w h => h.below) (fun v u w h => h.1.below) (fun t w h => h.below) (fun t w h => h.below) (fun w w1 hb h => h.trans (hb.mono h.size)) (fun v w w1 hb h => h.later hb) (fun v u w w1 hb h => ⟨h.1.later hb, h.2.later hb⟩) (fun t w w1 hb h => h.later hb) (fun t w w1 hb h => h.later hb) ?conLse ?saLse ?sbLse ?scLse ?sdLse ?enLse
    case otLse =>
      intro i o ho hki
      match i, ho with
      | 0, ho =>
        obtain rfl := Option.some.inj ho
        exact ⟨by decide, by decide, by decide, by decide⟩
      | 1, ho =>
        obtain rfl := Option.some.inj ho
        exact ⟨by decide, by decide, by decide, by decide⟩
      | 2, ho =>
        obtain rfl := Option.some.inj ho
        exact ⟨by decide, by decide, by decide, by decide⟩
      | 3, ho =>
        obtain rfl := Option.some.inj ho
        exact ⟨by decide, by decide, by decide, by decide⟩
      | 4, ho =>
        obtain rfl := Option.some.inj ho
        exact ⟨by decide, by decide, by decide, by decide⟩
      | 5, ho =>
        obtain rfl := Option.some.inj ho
        exact ⟨by decide, by decide, by decide, by decide⟩
      | 6, ho =>
        obtain rfl := Option.some.inj ho
        exact ⟨by decide, by decide, by decide, by decide⟩
      | 7, ho =>
        obtain rfl := Option.some.inj ho
        exact ⟨by decide, by decide, by decide, by decide⟩
      | 8, ho => exact absurd hki (by decide)
      | 9, ho =>
        obtain rfl := Option.some.inj ho
        exact ⟨by decide, by decide, by decide, by decide⟩
      | 10, ho =>
        obtain rfl := Option.some.inj ho
        exact ⟨by decide, by decide, by decide, by decide⟩
      | 11, ho =>
        obtain rfl := Option.some.inj ho
        exact ⟨by decide, by decide, by decide, by decide⟩
      | 12, ho =>
        obtain rfl := Option.some.inj ho
        exact ⟨by decide, by decide, by decide, by decide⟩
      | 13, ho =>
        obtain rfl := Option.some.inj ho
        exact ⟨by decide, by decide, by decide, by decide⟩
      | 14, ho =>
        obtain rfl := Option.some.inj ho
        exact ⟨by decide, by decide, by decide, by decide⟩
      | 15, ho =>
        obtain rfl := Option.some.inj ho
        exact ⟨by decide, by decide, by decide, by decide⟩
      | 16, ho =>
        obtain rfl := Option.some.inj ho
        exact ⟨by decide, by decide, by decide, by decide⟩
      | 17, ho => exact absurd hki (by decide)
      | 18, ho => exact absurd hki (by decide)
      | 19, ho => exact absurd hki (by decide)
      | q + 20, ho => simp at ho
    case h0Lse => exact drew_at W1
    case conLse =>
      intro i o ho hki a wx hJ hf
      match i, ho with
      | 0, ho =>
        obtain rfl := Option.some.inj ho
        have b2 : a.tmps[2]?.getD undef = .pointer (some ⟨B, 0, none⟩) := hf.2 2 (by kernel_rfl)
        exact wp_value (.pointer (some ⟨B, 2, none⟩)) (by unfold execOp; go_simp) ⟨rfl, Below.refl _ _⟩
      | 1, ho =>
        obtain rfl := Option.some.inj ho
        have e5 : a.tmps[5]?.getD undef = .pointer (some ⟨B, 2, none⟩) := hf.1 ⟨0, .data⟩ (by simp) rfl _ 5 rfl rfl (by decide)
        exact wp_value (.pointer (some ⟨B, 2, none⟩)) (by unfold execOp; go_simp) ⟨rfl, Below.refl _ _⟩
      | 2, ho =>
        obtain rfl := Option.some.inj ho
        have e6 : a.tmps[6]?.getD undef = .pointer (some ⟨B, 2, none⟩) := hf.1 ⟨1, .data⟩ (by simp) rfl _ 6 rfl rfl (by decide)
        obtain ⟨c0, c1, c2, c3⟩ := cells4 (HM0.out wx hJ)
        exact wp_value (.iface 72 V) (by unfold execOp; go_simp) ⟨rfl, Below.refl _ _⟩
      | 3, ho =>
        obtain rfl := Option.some.inj ho
        have b2 : a.tmps[2]?.getD undef = .pointer (some ⟨B, 0, none⟩) := hf.2 2 (by kernel_rfl)
        exact wp_load_row 72 (.tmp 2) rfl (B) (eval_get b2) 72 _ (0, 0) _ (HM0.out wx hJ) Tryz.underlying72 rfl (info_say _ _ _ _) ⟨rfl, Below.refl _ _⟩
      | 4, ho =>
        obtain rfl := Option.some.inj ho
        have b3 : a.tmps[3]?.getD undef = .pointer (some ⟨B + 1, 0, none⟩) := hf.2 3 (by kernel_rfl)
        exact wp_load_row 51 (.tmp 3) rfl (B + 1) (eval_get b3) 51 _ (0, 0) _ (HN0.out wx hJ) Tryz.underlying51 rfl (info_rect _ _) ⟨rfl, Below.refl _ _⟩
      | 5, ho =>
        obtain rfl := Option.some.inj ho
        have e8 : a.tmps[8]?.getD undef = .agg #[.int .u8 wh, .int .i64 (s : Int), .iface 72 V, .iface 65 U] := hf.1 ⟨3, .data⟩ (by simp) rfl _ 8 rfl rfl (by decide)
        have e9 : a.tmps[9]?.getD undef = rect R C := hf.1 ⟨4, .data⟩ (by simp) rfl _ 9 rfl rfl (by decide)
        exact wp_enter 63 #[.agg #[.int .u8 wh, .int .i64 (s : Int), .iface 72 V, .iface 65 U], rect R C, .int .i64 0] (rect oR oC) _ (by unfold execOp; go_simp) (HPo.out _ _ _ _ wx) (fun w' h => ⟨rfl, h⟩)
      | 6, ho =>
        obtain rfl := Option.some.inj ho
        have e7 : a.tmps[7]?.getD undef = .iface 72 V := hf.1 ⟨2, .data⟩ (by simp) rfl _ 7 rfl rfl (by decide)
        exact wp_value (.iface 72 V) (by unfold execOp; go_simp) ⟨rfl, Below.refl _ _⟩
      | 7, ho =>
        obtain rfl := Option.some.inj ho
        have e7 : a.tmps[7]?.getD undef = .iface 72 V := hf.1 ⟨2, .data⟩ (by simp) rfl _ 7 rfl rfl (by decide)
        exact wp_value (.iface 72 V) (by unfold execOp; go_simp) ⟨rfl, Below.refl _ _⟩
      | 8, ho => exact absurd hki (by decide)
      | 9, ho =>
        obtain rfl := Option.some.inj ho
        have b2 : a.tmps[2]?.getD undef = .pointer (some ⟨B, 0, none⟩) := hf.2 2 (by kernel_rfl)
        exact wp_value (.pointer (some ⟨B, 2, none⟩)) (by unfold execOp; go_simp) ⟨rfl, Below.refl _ _⟩
      | 10, ho =>
        obtain rfl := Option.some.inj ho
        have e14 : a.tmps[14]?.getD undef = .pointer (some ⟨B, 2, none⟩) := hf.1 ⟨9, .data⟩ (by simp) rfl _ 14 rfl rfl (by decide)
        exact wp_value (.pointer (some ⟨B, 3, none⟩)) (by unfold execOp; go_simp) ⟨rfl, Below.refl _ _⟩
      | 11, ho =>
        obtain rfl := Option.some.inj ho
        have e15 : a.tmps[15]?.getD undef = .pointer (some ⟨B, 3, none⟩) := hf.1 ⟨10, .data⟩ (by simp) rfl _ 15 rfl rfl (by decide)
        obtain ⟨c0, c1, c2, c3⟩ := cells4 (HM0.out wx hJ)
        exact wp_value (.iface 65 U) (by unfold execOp; go_simp) ⟨rfl, Below.refl _ _⟩
      | 12, ho =>
        obtain rfl := Option.some.inj ho
        have b2 : a.tmps[2]?.getD undef = .pointer (some ⟨B, 0, none⟩) := hf.2 2 (by kernel_rfl)
        exact wp_load_row 72 (.tmp 2) rfl (B) (eval_get b2) 72 _ (0, 0) _ (HM0.out wx hJ) Tryz.underlying72 rfl (info_say _ _ _ _) ⟨rfl, Below.refl _ _⟩
      | 13, ho =>
        obtain rfl := Option.some.inj ho
        have b3 : a.tmps[3]?.getD undef = .pointer (some ⟨B + 1, 0, none⟩) := hf.2 3 (by kernel_rfl)
        exact wp_load_row 51 (.tmp 3) rfl (B + 1) (eval_get b3) 51 _ (0, 0) _ (HN0.out wx hJ) Tryz.underlying51 rfl (info_rect _ _) ⟨rfl, Below.refl _ _⟩
      | 14, ho =>
        obtain rfl := Option.some.inj ho
        have e17 : a.tmps[17]?.getD undef = .agg #[.int .u8 wh, .int .i64 (s : Int), .iface 72 V, .iface 65 U] := hf.1 ⟨12, .data⟩ (by simp) rfl _ 17 rfl rfl (by decide)
        have e18 : a.tmps[18]?.getD undef = rect R C := hf.1 ⟨13, .data⟩ (by simp) rfl _ 18 rfl rfl (by decide)
        exact wp_enter 63 #[.agg #[.int .u8 wh, .int .i64 (s : Int), .iface 72 V, .iface 65 U], rect R C, .int .i64 1] (rect iR iC) _ (by unfold execOp; go_simp) (HPi.out _ _ _ _ wx) (fun w' h => ⟨rfl, h⟩)
      | 15, ho =>
        obtain rfl := Option.some.inj ho
        have e16 : a.tmps[16]?.getD undef = .iface 65 U := hf.1 ⟨11, .data⟩ (by simp) rfl _ 16 rfl rfl (by decide)
        exact wp_value (.iface 65 U) (by unfold execOp; go_simp) ⟨rfl, Below.refl _ _⟩
      | 16, ho =>
        obtain rfl := Option.some.inj ho
        have e16 : a.tmps[16]?.getD undef = .iface 65 U := hf.1 ⟨11, .data⟩ (by simp) rfl _ 16 rfl rfl (by decide)
        exact wp_value (.iface 65 U) (by unfold execOp; go_simp) ⟨rfl, Below.refl _ _⟩
      | 17, ho => exact absurd hki (by decide)
      | 18, ho => exact absurd hki (by decide)
      | 19, ho => exact absurd hki (by decide)
      | q + 20, ho => simp at ho
    case saLse =>
      intro a wx hI hf
      have e12 : a.tmps[12]?.getD undef = .iface 72 V := hf.1 ⟨7, .data⟩ (by simp) rfl _ 12 rfl rfl (by decide)
      have e10 : a.tmps[10]?.getD undef = rect oR oC := hf.1 ⟨5, .data⟩ (by simp) rfl _ 10 rfl rfl (by decide)
      refine wp_enterR 152 #[V, rect oR oC] (by unfold execOp; go_simp; go_invoke; rfl) (HZ.out wx) ?_
      intro v' w' h1
      exact ⟨v', rfl, Leaf.Own.lower h1 hI⟩
    case sbLse =>
      intro a wx x hI hv hf
      have e21 : a.tmps[21]?.getD undef = .iface 65 U := hf.1 ⟨16, .data⟩ (by simp) rfl _ 21 rfl rfl (by decide)
      have e19 : a.tmps[19]?.getD undef = rect iR iC := hf.1 ⟨14, .data⟩ (by simp) rfl _ 19 rfl rfl (by decide)
      refine wp_enterR 139 #[U, rect iR iC] (by unfold execOp; go_simp; go_invoke; rfl) (HO.out wx) ?_
      intro v' w' h1
      exact ⟨v', rfl, hI.later h1.below, Leaf.Own.lower h1 hI.below⟩
    case scLse =>
      intro a wx x y hI hv hu hf
      refine wp_append_two (w0 := W1) (.tmp 13) (.tmp 22) 88 rfl 91 i0 (.agg #[.int .i64 0, .int .i64 0, .int .i64 0]) 3 24 Tryz.underlying88 hi hz0 hz1 hz2 rfl (by decide) x y LZ.length LO.length (cellsL LZ) (cellsL LO) (eval_get (get_some hv)) hI.1 (eval_get (get_some hu)) hI.2 LM.out O1.out (by omega) (by decide) ?_
      intro v' w' h1
      exact ⟨v', rfl, h1⟩
    case sdLse =>
      intro a wx y hI hv hf
      have e23 := get_some hv
      exact wp_value y (by unfold execOp; go_simp) ⟨y, rfl, hI⟩
    intro k1 k2 k3 res w9 hI
    have HF : Hid (Own w w9 91 3 res (LZ.length + LO.length) (cellsL LZ ++ cellsL LO)) := Leaf.Own.lower hI HWW.out
    clear hI HM0 HN0 HWW
    simp only [fill, Act.put]
    go_simp
    go_wp2_with fail
    go_ret
    exact ⟨res, rfl, by rw [HRes.out, List.length_append, cellsL_append]; exact HF.out⟩
  · have HZ := Lib.hid hz
    have HO := Lib.hid ho
    rw [ez, eo]
    clear ez eo hz ho
    go_enter Tryz.func152, Tryz.ntmps152
    go_wp2_with fail
    obtain ⟨W1, hW1⟩ : ∃ W1, (w.alloc (.cells #[.int .u8 wh, .int .i64 (s : Int), .iface 72 V, .iface 72 U] 72)).alloc (.cells #[.int .i64 (R : Int), .int .i64 (C : Int)] 51) = W1 := ⟨_, rfl⟩
    rw [hW1]
    have HWW : Hid (Below w.heap.size w W1) := by
      have h0 : Below w.heap.size w (w.alloc (.cells #[.int .u8 wh, .int .i64 (s : Int), .iface 72 V, .iface 72 U] 72)) := (Below.refl _ _).alloc (Nat.le_refl _) _
      show Below _ _ _; rw [← hW1]; exact h0.alloc h0.size _
    have HM0 : Hid (∀ wx : World, Below W1.heap.size W1 wx → wx.heap[B]? = some (.cells #[.int .u8 wh, .int .i64 (s : Int), .iface 72 V, .iface 72 U] 72 (0, 0))) := fun wx h => by
      have h1 : (w.alloc (.cells #[.int .u8 wh, .int .i64 (s : Int), .iface 72 V, .iface 72 U] 72)).heap[w.heap.size]? = some (.cells #[.int .u8 wh, .int .i64 (s : Int), .iface 72 V, .iface 72 U] 72 (0, 0)) := heap_alloc_new w _
      have h0 : W1.heap[B]? = some (.cells #[.int .u8 wh, .int .i64 (s : Int), .iface 72 V, .iface 72 U] 72 (0, 0)) := by rw [← hW1, ← HBB.out]; rw [heap_alloc_old _ _ (Array.getElem?_eq_some_iff.1 h1).1]; exact h1
      exact (h.block _ (Array.getElem?_eq_some_iff.1 h0).1).trans h0
    have HN0 : Hid (∀ wx : World, Below W1.heap.size W1 wx → wx.heap[B + 1]? = some (.cells #[.int .i64 (R : Int), .int .i64 (C : Int)] 51 (0, 0))) := fun wx h => by
      have h0 : W1.heap[B + 1]? = some (.cells #[.int .i64 (R : Int), .int .i64 (C : Int)] 51 (0, 0)) := by
        rw [← hW1, ← HBB.out]
        have h2 := heap_alloc_new (w.alloc (.cells #[.int .u8 wh, .int .i64 (s : Int), .iface 72 V, .iface 72 U] 72)) (.cells #[.int .i64 (R : Int), .int .i64 (C : Int)] 51)
        rw [show (w.alloc (.cells #[.int .u8 wh, .int .i64 (s : Int), .iface 72 V, .iface 72 U] 72)).heap.size = w.heap.size + 1 by simp] at h2
        exact h2
      exact (h.block _ (Array.getElem?_eq_some_iff.1 h0).1).trans h0
    clear hW1 hB
    refine wp_region_chain4 (fun | 0 => .pointer (some ⟨B, 2, none⟩) | 1 => .pointer (some ⟨B, 2, none⟩) | 2 => .iface 72 V | 3 => .agg #[.int .u8 wh, .int .i64 (s : Int), .iface 72 V, .iface 72 U] | 4 => rect R C | 5 => rect oR oC | 6 => .iface 72 V | 7 => .iface 72 V | 9 => .pointer (some ⟨B, 2, none⟩) | 10 => .pointer (some ⟨B, 3, none⟩) | 11 => .iface 72 U | 12 => .agg #[.int .u8 wh, .int .i64 (s : Int), .iface 72 V, .iface 72 U] | 13 => rect R C | 14 => rect iR iC | 15 => .iface 72 U | 16 => .iface 72 U | _ => undef) (fun i => !(i == 8) && !(i == 17) && !(i == 18) && !(i == 19)) 8 17 18 19 13 22 23 4 _ _ _ _
      (fun w => Below W1.heap.size W1 w) (fun x w => Own W1 w 91 3 x LZ.length (cellsL LZ)) (fun x y w => Own W1 w 91 3 x LZ.length (cellsL LZ) ∧ Own W1 w 91 3 y LO.length (cellsL LO)) (fun y w => Own W1 w 91 3 y (LZ.length + LO.length) (cellsL LZ ++ cellsL LO)) (fun y w => Own W1 w 91 3 y (LZ.length + LO.length) (cellsL LZ ++ cellsL LO)) (fun w => Below W1.heap.size W1 w)
      (by kernel_rfl) (by kernel_rfl) rfl rfl rfl rfl rfl rfl rfl rfl rfl rfl (by decide) (by decide) (.inr ⟨14, _, rfl, ⟨⟨14, .chain⟩, (by simp), rfl, rfl⟩, ⟨8, .chain⟩, (by simp), rfl, rfl⟩) ⟨⟨17, .data⟩, (by simp), rfl, rfl⟩ ⟨⟨18, .data⟩, (by simp), rfl, rfl⟩ ?otLss ?h0Lss (fun w h => h) (fun v w h => h.below) (fun v u w h => h.1.below) (fun t w h => h.below) (fun t w h => h.below) (fun w w1 hb h => h.trans (hb.mono h.size)) (fun v w w1 hb h => h.later hb) (fun v u w w1 hb h => ⟨h.1.later hb, h.2.later hb⟩) (fun t w w1 hb h => h.later hb) (fun t w w1 hb h => h.later hb) ?conLss ?saLss ?sbLss ?scLss ?sdLss ?enLss
    case otLss =>
      intro i o ho hki
      match i, ho with
      | 0, ho =>
        obtain rfl := Option.some.inj ho
        exact ⟨by decide, by decide, by decide, by decide⟩
      | 1, ho =>
        obtain rfl := Option.some.inj ho
        exact ⟨by decide, by decide, by decide, by decide⟩
      | 2, ho =>
        obtain rfl := Option.some.inj ho
        exact ⟨by decide, by decide, by decide, by decide⟩
      | 3, ho =>
        obtain rfl := Option.some.inj ho
        exact ⟨by decide, by decide, by decide, by decide⟩
      | 4, ho =>
        obtain rfl := Option.some.inj ho
        exact ⟨by decide, by decide, by decide, by decide⟩
      | 5, ho =>
        obtain rfl := Option.some.inj ho
        exact ⟨by decide, by decide, by decide, by decide⟩
      | 6, ho =>
        obtain rfl := Option.some.inj ho
        exact ⟨by decide, by decide, by decide, by decide⟩
      | 7, ho =>
        obtain rfl := Option.some.inj ho
        exact ⟨by decide, by decide, by decide, by decide⟩
      | 8, ho => exact absurd hki (by decide)
      | 9, ho =>
        obtain rfl := Option.some.inj ho
        exact ⟨by decide, by decide, by decide, by decide⟩
      | 10, ho =>
        obtain rfl := Option.some.inj ho
        exact ⟨by decide, by decide, by decide, by decide⟩
      | 11, ho =>
        obtain rfl := Option.some.inj ho
        exact ⟨by decide, by decide, by decide, by decide⟩
      | 12, ho =>
        obtain rfl := Option.some.inj ho
        exact ⟨by decide, by decide, by decide, by decide⟩
      | 13, ho =>
        obtain rfl := Option.some.inj ho
        exact ⟨by decide, by decide, by decide, by decide⟩
      | 14, ho =>
        obtain rfl := Option.some.inj ho
        exact ⟨by decide, by decide, by decide, by decide⟩
      | 15, ho =>
        obtain rfl := Option.some.inj ho
        exact ⟨by decide, by decide, by decide, by decide⟩
      | 16, ho =>
        obtain rfl := Option.some.inj ho
        exact ⟨by decide, by decide, by decide, by decide⟩
      | 17, ho => exact absurd hki (by decide)
      | 18, ho => exact absurd hki (by decide)
      | 19, ho => exact absurd hki (by decide)
      | q + 20, ho => simp at ho
    case h0Lss => exact drew_at W1
    case conLss =>
      intro i o ho hki a wx hJ hf
      match i, ho with
      | 0, ho =>
        obtain rfl := Option.some.inj ho
        have b2 : a.tmps[2]?.getD undef = .pointer (some ⟨B, 0, none⟩) := hf.2 2 (by kernel_rfl)
        exact wp_value (.pointer (some ⟨B, 2, none⟩)) (by unfold execOp; go_simp) ⟨rfl, Below.refl _ _⟩
      | 1, ho =>
        obtain rfl := Option.some.inj ho
        have e5 : a.tmps[5]?.getD undef = .pointer (some ⟨B, 2, none⟩) := hf.1 ⟨0, .data⟩ (by simp) rfl _ 5 rfl rfl (by decide)
        exact wp_value (.pointer (some ⟨B, 2, none⟩)) (by unfold execOp; go_simp) ⟨rfl, Below.refl _ _⟩
      | 2, ho =>
        obtain rfl := Option.some.inj ho
        have e6 : a.tmps[6]?.getD undef = .pointer (some ⟨B, 2, none⟩) := hf.1 ⟨1, .data⟩ (by simp) rfl _ 6 rfl rfl (by decide)
        obtain ⟨c0, c1, c2, c3⟩ := cells4 (HM0.out wx hJ)
        exact wp_value (.iface 72 V) (by unfold execOp; go_simp) ⟨rfl, Below.refl _ _⟩
      | 3, ho =>
        obtain rfl := Option.some.inj ho
        have b2 : a.tmps[2]?.getD undef = .pointer (some ⟨B, 0, none⟩) := hf.2 2 (by kernel_rfl)
        exact wp_load_row 72 (.tmp 2) rfl (B) (eval_get b2) 72 _ (0, 0) _ (HM0.out wx hJ) Tryz.underlying72 rfl (info_say _ _ _ _) ⟨rfl, Below.refl _ _⟩
      | 4, ho =>
        obtain rfl := Option.some.inj ho
        have b3 : a.tmps[3]?.getD undef = .pointer (some ⟨B + 1, 0, none⟩) := hf.2 3 (by kernel_rfl)
        exact wp_load_row 51 (.tmp 3) rfl (B + 1) (eval_get b3) 51 _ (0, 0) _ (HN0.out wx hJ) Tryz.underlying51 rfl (info_rect _ _) ⟨rfl, Below.refl _ _⟩
      | 5, ho =>
        obtain rfl := Option.some.inj ho
        have e8 : a.tmps[8]?.getD undef = .agg #[.int .u8 wh, .int .i64 (s : Int), .iface 72 V, .iface 72 U] := hf.1 ⟨3, .data⟩ (by simp) rfl _ 8 rfl rfl (by decide)
        have e9 : a.tmps[9]?.getD undef = rect R C := hf.1 ⟨4, .data⟩ (by simp) rfl _ 9 rfl rfl (by decide)
        exact wp_enter 63 #[.agg #[.int .u8 wh, .int .i64 (s : Int), .iface 72 V, .iface 72 U], rect R C, .int .i64 0] (rect oR oC) _ (by unfold execOp; go_simp) (HPo.out _ _ _ _ wx) (fun w' h => ⟨rfl, h⟩)
      | 6, ho =>
        obtain rfl := Option.some.inj ho
        have e7 : a.tmps[7]?.getD undef = .iface 72 V := hf.1 ⟨2, .data⟩ (by simp) rfl _ 7 rfl rfl (by decide)
        exact wp_value (.iface 72 V) (by unfold execOp; go_simp) ⟨rfl, Below.refl _ _⟩
      | 7, ho =>
        obtain rfl := Option.some.inj ho
        have e7 : a.tmps[7]?.getD undef = .iface 72 V := hf.1 ⟨2, .data⟩ (by simp) rfl _ 7 rfl rfl (by decide)
        exact wp_value (.iface 72 V) (by unfold execOp; go_simp) ⟨rfl, Below.refl _ _⟩
      | 8, ho => exact absurd hki (by decide)
      | 9, ho =>
        obtain rfl := Option.some.inj ho
        have b2 : a.tmps[2]?.getD undef = .pointer (some ⟨B, 0, none⟩) := hf.2 2 (by kernel_rfl)
        exact wp_value (.pointer (some ⟨B, 2, none⟩)) (by unfold execOp; go_simp) ⟨rfl, Below.refl _ _⟩
      | 10, ho =>
        obtain rfl := Option.some.inj ho
        have e14 : a.tmps[14]?.getD undef = .pointer (some ⟨B, 2, none⟩) := hf.1 ⟨9, .data⟩ (by simp) rfl _ 14 rfl rfl (by decide)
        exact wp_value (.pointer (some ⟨B, 3, none⟩)) (by unfold execOp; go_simp) ⟨rfl, Below.refl _ _⟩
      | 11, ho =>
        obtain rfl := Option.some.inj ho
        have e15 : a.tmps[15]?.getD undef = .pointer (some ⟨B, 3, none⟩) := hf.1 ⟨10, .data⟩ (by simp) rfl _ 15 rfl rfl (by decide)
        obtain ⟨c0, c1, c2, c3⟩ := cells4 (HM0.out wx hJ)
        exact wp_value (.iface 72 U) (by unfold execOp; go_simp) ⟨rfl, Below.refl _ _⟩
      | 12, ho =>
        obtain rfl := Option.some.inj ho
        have b2 : a.tmps[2]?.getD undef = .pointer (some ⟨B, 0, none⟩) := hf.2 2 (by kernel_rfl)
        exact wp_load_row 72 (.tmp 2) rfl (B) (eval_get b2) 72 _ (0, 0) _ (HM0.out wx hJ) Tryz.underlying72 rfl (info_say _ _ _ _) ⟨rfl, Below.refl _ _⟩
      | 13, ho =>
        obtain rfl := Option.some.inj ho
        have b3 : a.tmps[3]?.getD undef = .pointer (some ⟨B + 1, 0, none⟩) := hf.2 3 (by kernel_rfl)
        exact wp_load_row 51 (.tmp 3) rfl (B + 1) (eval_get b3) 51 _ (0, 0) _ (HN0.out wx hJ) Tryz.underlying51 rfl (info_rect _ _) ⟨rfl, Below.refl _ _⟩
      | 14, ho =>
        obtain rfl := Option.some.inj ho
        have e17 : a.tmps[17]?.getD undef = .agg #[.int .u8 wh, .int .i64 (s : Int), .iface 72 V, .iface 72 U] := hf.1 ⟨12, .data⟩ (by simp) rfl _ 17 rfl rfl (by decide)
        have e18 : a.tmps[18]?.getD undef = rect R C := hf.1 ⟨13, .data⟩ (by simp) rfl _ 18 rfl rfl (by decide)
        exact wp_enter 63 #[.agg #[.int .u8 wh, .int .i64 (s : Int), .iface 72 V, .iface 72 U], rect R C, .int .i64 1] (rect iR iC) _ (by unfold execOp; go_simp) (HPi.out _ _ _ _ wx) (fun w' h => ⟨rfl, h⟩)
      | 15, ho =>
        obtain rfl := Option.some.inj ho
        have e16 : a.tmps[16]?.getD undef = .iface 72 U := hf.1 ⟨11, .data⟩ (by simp) rfl _ 16 rfl rfl (by decide)
        exact wp_value (.iface 72 U) (by unfold execOp; go_simp) ⟨rfl, Below.refl _ _⟩
      | 16, ho =>
        obtain rfl := Option.some.inj ho
        have e16 : a.tmps[16]?.getD undef = .iface 72 U := hf.1 ⟨11, .data⟩ (by simp) rfl _ 16 rfl rfl (by decide)
        exact wp_value (.iface 72 U) (by unfold execOp; go_simp) ⟨rfl, Below.refl _ _⟩
      | 17, ho => exact absurd hki (by decide)
      | 18, ho => exact absurd hki (by decide)
      | 19, ho => exact absurd hki (by decide)
      | q + 20, ho => simp at ho
    case saLss =>
      intro a wx hI hf
      have e12 : a.tmps[12]?.getD undef = .iface 72 V := hf.1 ⟨7, .data⟩ (by simp) rfl _ 12 rfl rfl (by decide)
      have e10 : a.tmps[10]?.getD undef = rect oR oC := hf.1 ⟨5, .data⟩ (by simp) rfl _ 10 rfl rfl (by decide)
      refine wp_enterR 152 #[V, rect oR oC] (by unfold execOp; go_simp; go_invoke; rfl) (HZ.out wx) ?_
      intro v' w' h1
      exact ⟨v', rfl, Leaf.Own.lower h1 hI⟩
    case sbLss =>
      intro a wx x hI hv hf
      have e21 : a.tmps[21]?.getD undef = .iface 72 U := hf.1 ⟨16, .data⟩ (by simp) rfl _ 21 rfl rfl (by decide)
      have e19 : a.tmps[19]?.getD undef = rect iR iC := hf.1 ⟨14, .data⟩ (by simp) rfl _ 19 rfl rfl (by decide)
      refine wp_enterR 152 #[U, rect iR iC] (by unfold execOp; go_simp; go_invoke; rfl) (HO.out wx) ?_
      intro v' w' h1
      exact ⟨v', rfl, hI.later h1.below, Leaf.Own.lower h1 hI.below⟩
    case scLss =>
      intro a wx x y hI hv hu hf
      refine wp_append_two (w0 := W1) (.tmp 13) (.tmp 22) 88 rfl 91 i0 (.agg #[.int .i64 0, .int .i64 0, .int .i64 0]) 3 24 Tryz.underlying88 hi hz0 hz1 hz2 rfl (by decide) x y LZ.length LO.length (cellsL LZ) (cellsL LO) (eval_get (get_some hv)) hI.1 (eval_get (get_some hu)) hI.2 LM.out O1.out (by omega) (by decide) ?_
      intro v' w' h1
      exact ⟨v', rfl, h1⟩
    case sdLss =>
      intro a wx y hI hv hf
      have e23 := get_some hv
      exact wp_value y (by unfold execOp; go_simp) ⟨y, rfl, hI⟩
    intro k1 k2 k3 res w9 hI
    have HF : Hid (Own w w9 91 3 res (LZ.length + LO.length) (cellsL LZ ++ cellsL LO)) := Leaf.Own.lower hI HWW.out
    clear hI HM0 HN0 HWW
    simp only [fill, Act.put]
    go_simp
    go_wp2_with fail
    go_ret
    exact ⟨res, rfl, by rw [HRes.out, List.length_append, cellsL_append]; exact HF.out⟩

theorem leaves_to (t : T) : (text t).length ≤ 2000 → Go.Proofs.YtbccachkkflceaaGreatDoor.Count.Node 139 152 t (LeavesC t) := by
  induction t with
  | leaf b => intro _; exact .inl ⟨_, rfl, end_leaves b⟩
  | say a s z o ihz iho =>
    intro hl
    have hlz : (text (.say a s z o)).length = (text z).length + (text o).length + 3 := by simp [text]
    exact .inr ⟨_, rfl, say_leaves a s z o hl (ihz (by omega)) (iho (by omega))⟩
end Go.Proofs.YtbccachkkflceaaGreatDoor.LeavesI

