/-
  Texts of one seat, joined: NodeH, PartC, TrimI, FreeC4.
-/
import Derived.Test.YtbbgibbpeibhiaaGreatDoorJn10
import Derived.Test.YtbbgibbpeibhiaaGreatDoorJn5
import Derived.Test.YtbbgibbpeibhiaaGreatDoorJn3
import Derived.Test.YtbbgibbpeibhiaaGreatDoorJn6
/-
  Small facts on the cells of nodes.
-/
namespace Go.Proofs.YtbbgibbpeibhiaaGreatDoor.NodeH
open Go.RowKit Go.Shelf Go.Proofs.YtbbgibbpeibhiaaGreatDoor.Plain Go.Proofs.YtbbgibbpeibhiaaGreatDoor.Tree Go.Proofs.YtbbgibbpeibhiaaGreatDoor.Read Go.Proofs.YtbbgibbpeibhiaaGreatDoor.TurnC Go.Proofs.YtbbgibbpeibhiaaGreatDoor.FreeL
set_option linter.unusedVariables false
set_option linter.unusedSimpArgs false

theorem eval_get {a : Act} {d : Tmp} {v : Value} (h : a.tmps[d]?.getD undef = v) : a.eval (.tmp d) = v := by
  rw [← h]
  show a.tmps.getD d undef = _
  simp [Array.getD_eq_getD_getElem?]
theorem there_row {w : World} {B : Nat} {c0 c1 c2 c3 : Value} {T : TypeId} (h : w.heap[B]? = some (.cells #[c0, c1, c2, c3] T (0, 0))) : w.there B 2 2 := fun j hj => by
  have e : j = 0 ∨ j = 1 := by omega
  rcases e with rfl | rfl
  · exact ⟨by rw [cell_of_row _ _ _ _ _ _ h]; rfl, frozen_of_row _ _ _ _ _ h⟩
  · exact ⟨by rw [cell_of_row _ _ _ _ _ _ h]; rfl, frozen_of_row _ _ _ _ _ h⟩
theorem all2 (t1 t2 : TypeId) (x y : Value) : (#[.iface t1 x, .iface t2 y] : Array Value).all (·.oneCell') = true := by simp [Value.oneCell']
theorem all4 (a b : Int) (t1 t2 : TypeId) (x y : Value) : (#[.int .u8 a, .int .i64 b, .iface t1 x, .iface t2 y] : Array Value).all (·.oneCell') = true := by simp [Value.oneCell']
theorem info_two (x y : Value) : (Tryz.prog.info? 79).map (·.size) = some (#[x, y] : Array Value).size := by kernel_rfl
end Go.Proofs.YtbbgibbpeibhiaaGreatDoor.NodeH

/-
  The program's part of a rectangle behind a bit, and the inputs of a player.
-/
namespace Go.Proofs.YtbbgibbpeibhiaaGreatDoor.PartC
open Go.RowKit Go.Shelf Go.Proofs.YtbbgibbpeibhiaaGreatDoor.Plain Go.Proofs.YtbbgibbpeibhiaaGreatDoor.Tree Go.Proofs.YtbbgibbpeibhiaaGreatDoor.Read Go.Proofs.YtbbgibbpeibhiaaGreatDoor.Rect Go.Proofs.YtbbgibbpeibhiaaGreatDoor.TrimT
set_option linter.unusedVariables false
set_option linter.unusedSimpArgs false

set_option maxHeartbeats 2000000 in
set_option maxRecDepth 100000 in
theorem part_out (a : Bool) (s R C : Nat) (hR : R < 256) (hC : C < 256) (t1 t2 : TypeId) (v1 v2 : Value) (w : World) :
    Calls Tryz.prog 51 #[.agg #[.int .u8 ((whoB a).toNat : Int), .int .i64 (s : Int), .iface t1 v1, .iface t2 v2], rect R C, .int .i64 0] w fun e w' => e = .returned (rect (outR a s R) (outC a s C)) ∧ Below w.heap.size w w' := by
  cases a
  · show Calls _ _ #[.agg #[.int .u8 66, .int .i64 (s : Int), .iface t1 v1, .iface t2 v2], rect R C, .int .i64 0] _ fun e w' => e = .returned (rect R (minusN C s)) ∧ _
    have hb := bit_not_and C s hC
    have HM := Lib.hid (rfl : minusN C s = minusN C s)
    generalize minusN C s = m at *
    go_enter Tryz.func51, Tryz.ntmps51
    go_wp2
    go_returns
    exact ⟨rfl, by go_grown⟩
  · show Calls _ _ #[.agg #[.int .u8 65, .int .i64 (s : Int), .iface t1 v1, .iface t2 v2], rect R C, .int .i64 0] _ fun e w' => e = .returned (rect (minusN R s) C) ∧ _
    have hb := bit_not_and R s hR
    generalize minusN R s = m at *
    go_enter Tryz.func51, Tryz.ntmps51
    go_wp2
    go_returns
    exact ⟨rfl, by go_grown⟩
set_option maxHeartbeats 2000000 in
set_option maxRecDepth 100000 in
theorem part_in (a : Bool) (s R C : Nat) (hR : R < 256) (hC : C < 256) (t1 t2 : TypeId) (v1 v2 : Value) (w : World) :
    Calls Tryz.prog 51 #[.agg #[.int .u8 ((whoB a).toNat : Int), .int .i64 (s : Int), .iface t1 v1, .iface t2 v2], rect R C, .int .i64 1] w fun e w' => e = .returned (rect (inR a s R) (inC a s C)) ∧ Below w.heap.size w w' := by
  cases a
  · show Calls _ _ #[.agg #[.int .u8 66, .int .i64 (s : Int), .iface t1 v1, .iface t2 v2], rect R C, .int .i64 1] _ fun e w' => e = .returned (rect R (meetN C s)) ∧ _
    have hb := bit_and C s hC
    generalize meetN C s = m at *
    go_enter Tryz.func51, Tryz.ntmps51
    go_wp2
    go_returns
    exact ⟨rfl, by go_grown⟩
  · show Calls _ _ #[.agg #[.int .u8 65, .int .i64 (s : Int), .iface t1 v1, .iface t2 v2], rect R C, .int .i64 1] _ fun e w' => e = .returned (rect (meetN R s) C) ∧ _
    have hb := bit_and R s hR
    generalize meetN R s = m at *
    go_enter Tryz.func51, Tryz.ntmps51
    go_wp2
    go_returns
    exact ⟨rfl, by go_grown⟩
set_option maxHeartbeats 2000000 in
theorem inputs_w (a : Bool) (s R C : Int) (t1 t2 : TypeId) (v1 v2 : Value) (w : World) :
    Calls Tryz.prog 129 #[.agg #[.int .u8 ((whoB a).toNat : Int), .int .i64 s, .iface t1 v1, .iface t2 v2], rect R C] w fun e w' => e = .returned (.int .i64 (if a then R else C)) ∧ Below w.heap.size w w' := by
  cases a
  · show Calls _ _ #[.agg #[.int .u8 66, .int .i64 s, .iface t1 v1, .iface t2 v2], rect R C] _ fun e w' => e = .returned (.int .i64 C) ∧ _
    go_enter Tryz.func129, Tryz.ntmps129
    go_wp2
    go_returns
    exact ⟨rfl, by go_grown⟩
  · show Calls _ _ #[.agg #[.int .u8 65, .int .i64 s, .iface t1 v1, .iface t2 v2], rect R C] _ fun e w' => e = .returned (.int .i64 R) ∧ _
    go_enter Tryz.func129, Tryz.ntmps129
    go_wp2
    go_returns
    exact ⟨rfl, by go_grown⟩
end Go.Proofs.YtbbgibbpeibhiaaGreatDoor.PartC

/-
  What is never said left out, in the program's trees.
-/
namespace Go.Proofs.YtbbgibbpeibhiaaGreatDoor.TrimI
open Go.RowKit Go.Shelf Go.Proofs.YtbbgibbpeibhiaaGreatDoor.Plain Go.Proofs.YtbbgibbpeibhiaaGreatDoor.Tree Go.Proofs.YtbbgibbpeibhiaaGreatDoor.Read Go.Proofs.YtbbgibbpeibhiaaGreatDoor.Rect Go.Proofs.YtbbgibbpeibhiaaGreatDoor.TurnC Go.Proofs.YtbbgibbpeibhiaaGreatDoor.FreeL Go.Proofs.YtbbgibbpeibhiaaGreatDoor.TrimT Go.Proofs.YtbbgibbpeibhiaaGreatDoor.PartC
open Go.Proofs.YtbbgibbpeibhiaaGreatDoor.NodeH (eval_get there_row all2 all4 info_two)
open Go.Proofs.YtbbgibbpeibhiaaGreatDoor.Count (cells4)
open Go.Proofs.YtbbgibbpeibhiaaGreatDoor.Free (fill wp_value wp_enter wp_load_row freeB)
open Go.Proofs.YtbbgibbpeibhiaaGreatDoor.FreeW (wp_region_two)
set_option linter.unusedVariables false
set_option linter.unusedSimpArgs false

def TrimC (t : T) (f : FuncId) (V : Value) : Prop := ∀ (R C : Nat) (W : World), R < 256 → C < 256 → 1 ≤ R → 1 ≤ C → Calls Tryz.prog f #[V, rect R C] W fun e w' => e = .returned (tree (trimT t R C)) ∧ Below W.heap.size W w'

set_option maxHeartbeats 1000000 in
theorem end_trim (b : Bool) : TrimC (.leaf b) 119 (.int .i64 (bitI b)) := by
  intro R C w _ _ _ _
  show Calls _ _ _ _ fun e w' => e = .returned (leafV b) ∧ _
  go_enter Tryz.func119, Tryz.ntmps119
  go_wp2
  go_ret
  exact ⟨rfl, by go_grown⟩

theorem set1 {w : World} {B : Nat} {c0 c1 c2 c3 v : Value} {T : TypeId} {fr : Nat × Nat} (h : w.heap[B]? = some (.cells #[c0, c1, c2, c3] T fr)) : (w.setCell ⟨B, 1, none⟩ v).heap[B]? = some (.cells #[c0, v, c2, c3] T fr) := by
  simp [World.setCell, Array.getElem?_modify, h]
theorem set1_other {w : World} {B k : Nat} {v : Value} (h : k ≠ B) : (w.setCell ⟨B, 1, none⟩ v).heap[k]? = w.heap[k]? := by
  simp only [World.setCell, Array.getElem?_modify]
  rw [if_neg (by omega)]
theorem set1_below {b : Nat} {w w1 : World} {B : Nat} {v : Value} (h : Below b w w1) (hB : b ≤ B) : Below b w (w1.setCell ⟨B, 1, none⟩ v) :=
  h.trans ⟨rfl, rfl, rfl, by simp [World.setCell], fun k hk => set1_other (by omega)⟩
theorem cells2 {w : World} {b : Nat} {c0 c1 : Value} {ty : TypeId} (h : w.heap[b]? = some (.cells #[c0, c1] ty (0, 0))) : w.cell? ⟨b, 0, none⟩ = some c0 ∧ w.cell? ⟨b, 1, none⟩ = some c1 :=
  ⟨cell_of_row _ _ 0 _ _ _ h, cell_of_row _ _ 1 _ _ _ h⟩
theorem info_rect (x y : Value) : (Tryz.prog.info? 45).map (·.size) = some (#[x, y] : Array Value).size := by kernel_rfl
theorem one_rect (x y : Int) : (#[.int .i64 x, .int .i64 y] : Array Value).all (·.oneCell') = true := by simp [Value.oneCell']
/-- the node's block and both rectangles' -/
structure Tr (w wr : World) (B b1 b2 : Nat) (cs : Array Value) (oR oC iR iC : Nat) : Prop where
  node : wr.heap[B]? = some (.cells cs 81 (0, 0))
  out : wr.heap[b1]? = some (.cells #[.int .i64 (oR : Int), .int .i64 (oC : Int)] 45 (0, 0))
  inn : wr.heap[b2]? = some (.cells #[.int .i64 (iR : Int), .int .i64 (iC : Int)] 45 (0, 0))
  below : Below w.heap.size w wr
theorem Tr.later {w wr w2 : World} {B b1 b2 : Nat} {cs : Array Value} {oR oC iR iC : Nat} (h : Tr w wr B b1 b2 cs oR oC iR iC) (hb : Below wr.heap.size wr w2) : Tr w w2 B b1 b2 cs oR oC iR iC :=
  ⟨(hb.block _ (Array.getElem?_eq_some_iff.1 h.node).1).trans h.node, (hb.block _ (Array.getElem?_eq_some_iff.1 h.out).1).trans h.out, (hb.block _ (Array.getElem?_eq_some_iff.1 h.inn).1).trans h.inn, h.below.trans (hb.mono h.below.size)⟩
theorem some_no {R C : Nat} (h : R = 0 ∨ C = 0) : someB (R : Int) (C : Int) = false := by
  unfold someB
  rcases h with rfl | rfl
  · simp
  · simp
theorem some_yes {R C : Nat} (h1 : 1 ≤ R) (h2 : R < 256) (h3 : 1 ≤ C) (h4 : C < 256) : someB (R : Int) (C : Int) = true := by
  unfold someB
  rw [decide_eq_true (by omega), decide_eq_true (by omega)]
  rfl

set_option maxHeartbeats 8000000 in
set_option maxRecDepth 100000 in
theorem say_trim (a : Bool) (s : Nat) (z o : T) (hZ : Go.Proofs.YtbbgibbpeibhiaaGreatDoor.Count.Node 119 128 z (TrimC z)) (hO : Go.Proofs.YtbbgibbpeibhiaaGreatDoor.Count.Node 119 128 o (TrimC o)) :
    TrimC (.say a s z o) 128 (.agg #[.int .u8 ((whoB a).toNat : Int), .int .i64 (s : Int), tree z, tree o]) := by
  intro R C w hR hC hR1 hC1
  obtain ⟨h1, h2, h3, h4⟩ := parts_lt a s hR hC
  have hnb := not_both a s hR hC hR1 hC1
  obtain ⟨t1, v1, e1⟩ := tree_iface z
  obtain ⟨t2, v2, e2⟩ := tree_iface o
  unfold TrimC Go.Proofs.YtbbgibbpeibhiaaGreatDoor.Count.Node at hZ hO
  rw [e1] at hZ
  rw [e2] at hO
  rw [e1, e2]
  have HPo := Lib.hid fun W => part_out a s R C hR hC t1 t2 v1 v2 W
  have HPi := Lib.hid fun W => part_in a s R C hR hC t1 t2 v1 v2 W
  have HIn := Lib.hid fun (s' R' C' : Int) (W : World) => inputs_w a s' R' C' t1 t2 v1 v2 W
  have HT : trimT (.say a s z o) R C = if inR a s R = 0 ∨ inC a s C = 0 then trimT z (outR a s R) (outC a s C)
    else if outR a s R = 0 ∨ outC a s C = 0 then trimT o (inR a s R) (inC a s C)
    else .say a (if a then inR a s R else inC a s C) (trimT z (outR a s R) (outC a s C)) (trimT o (inR a s R) (inC a s C)) := rfl
  rw [HT]
  clear HT e1 e2
  obtain ⟨oR, hoR⟩ : ∃ x, outR a s R = x := ⟨_, rfl⟩
  obtain ⟨oC, hoC⟩ : ∃ x, outC a s C = x := ⟨_, rfl⟩
  obtain ⟨iR, hiR⟩ : ∃ x, inR a s R = x := ⟨_, rfl⟩
  obtain ⟨iC, hiC⟩ : ∃ x, inC a s C = x := ⟨_, rfl⟩
  rw [hoR, hoC] at HPo
  rw [hiR, hiC] at HPi
  rw [hoR, hoC, hiR, hiC] at hnb ⊢
  rw [hoR] at h1
  rw [hoC] at h2
  rw [hiR] at h3
  rw [hiC] at h4
  clear hoR hoC hiR hiC
  obtain ⟨res, hres⟩ : ∃ res, tree (if iR = 0 ∨ iC = 0 then trimT z oR oC else if oR = 0 ∨ oC = 0 then trimT o iR iC else .say a (if a then iR else iC) (trimT z oR oC) (trimT o iR iC)) = res := ⟨_, rfl⟩
  rw [hres]
  have HRS := Lib.hid hres
  clear hres
  obtain ⟨wh, hwh⟩ : ∃ wh, ((whoB a).toNat : Int) = wh := ⟨_, rfl⟩
  have HWH := Lib.hid hwh
  rw [hwh] at HPo HPi HIn ⊢
  clear hwh
  obtain ⟨B, hB⟩ : ∃ B, w.heap.size = B := ⟨_, rfl⟩
  have HBB := Lib.hid hB
  go_enter Tryz.func128, Tryz.ntmps128
  go_wp2_with fail
  obtain ⟨W1, hW1⟩ : ∃ W1, (w.alloc (.cells #[.int .u8 wh, .int .i64 (s : Int), .iface t1 v1, .iface t2 v2] 81)).alloc (.cells #[.int .i64 (R : Int), .int .i64 (C : Int)] 45) = W1 := ⟨_, rfl⟩
  rw [hW1]
  have hsz : W1.heap.size = B + 2 := by rw [← hW1, ← HBB.out]; simp
  have HSZ := Lib.hid hsz
  have HWW : Hid (Below w.heap.size w W1) := by
    have h0 : Below w.heap.size w (w.alloc (.cells #[.int .u8 wh, .int .i64 (s : Int), .iface t1 v1, .iface t2 v2] 81)) := (Below.refl _ _).alloc (Nat.le_refl _) _
    show Below _ _ _; rw [← hW1]; exact h0.alloc h0.size _
  have HM0 : Hid (∀ wx : World, Below W1.heap.size W1 wx → wx.heap[B]? = some (.cells #[.int .u8 wh, .int .i64 (s : Int), .iface t1 v1, .iface t2 v2] 81 (0, 0))) := fun wx h => by
    have h1 : (w.alloc (.cells #[.int .u8 wh, .int .i64 (s : Int), .iface t1 v1, .iface t2 v2] 81)).heap[w.heap.size]? = some (.cells #[.int .u8 wh, .int .i64 (s : Int), .iface t1 v1, .iface t2 v2] 81 (0, 0)) := heap_alloc_new w _
    have h0 : W1.heap[B]? = some (.cells #[.int .u8 wh, .int .i64 (s : Int), .iface t1 v1, .iface t2 v2] 81 (0, 0)) := by rw [← hW1, ← HBB.out]; rw [heap_alloc_old _ _ (Array.getElem?_eq_some_iff.1 h1).1]; exact h1
    exact (h.block _ (Array.getElem?_eq_some_iff.1 h0).1).trans h0
  have HN0 : Hid (∀ wx : World, Below W1.heap.size W1 wx → wx.heap[B + 1]? = some (.cells #[.int .i64 (R : Int), .int .i64 (C : Int)] 45 (0, 0))) := fun wx h => by
    have h0 : W1.heap[B + 1]? = some (.cells #[.int .i64 (R : Int), .int .i64 (C : Int)] 45 (0, 0)) := by
      rw [← hW1, ← HBB.out]
      have h2 := heap_alloc_new (w.alloc (.cells #[.int .u8 wh, .int .i64 (s : Int), .iface t1 v1, .iface t2 v2] 81)) (.cells #[.int .i64 (R : Int), .int .i64 (C : Int)] 45)
      rw [show (w.alloc (.cells #[.int .u8 wh, .int .i64 (s : Int), .iface t1 v1, .iface t2 v2] 81)).heap.size = w.heap.size + 1 by simp] at h2
      exact h2
    exact (h.block _ (Array.getElem?_eq_some_iff.1 h0).1).trans h0
  clear hW1 hB hsz
  refine wp_region_two (fun | 0 => .agg #[.int .u8 wh, .int .i64 (s : Int), .iface t1 v1, .iface t2 v2] | 1 => rect R C | 2 => rect oR oC | 3 => .agg #[.int .u8 wh, .int .i64 (s : Int), .iface t1 v1, .iface t2 v2] | 4 => rect R C | 5 => rect iR iC | _ => undef) _ 6 7 8 9 5 6 45 #[.int .i64 0, .int .i64 0] #[.int .i64 (oR : Int), .int .i64 (oC : Int)] #[.int .i64 (iR : Int), .int .i64 (iC : Int)] _ _ _ _
    (by kernel_rfl) (by kernel_rfl) rfl rfl rfl rfl rfl rfl rfl rfl rfl rfl (by decide) (by decide) ⟨⟨6, .data⟩, (by simp), rfl, rfl⟩ ⟨⟨7, .data⟩, (by simp), rfl, rfl⟩ ?oth rfl rfl ?al1 ?al2 ?st1 ?st2 ?con ?en
  case oth =>
    intro i o ho hk
    match i, ho, hk with
    | 0, ho, _ => obtain rfl := Option.some.inj ho; exact ⟨by decide, by decide⟩
    | 1, ho, _ => obtain rfl := Option.some.inj ho; exact ⟨by decide, by decide⟩
    | 2, ho, _ => obtain rfl := Option.some.inj ho; exact ⟨by decide, by decide⟩
    | 3, ho, _ => obtain rfl := Option.some.inj ho; exact ⟨by decide, by decide⟩
    | 4, ho, _ => obtain rfl := Option.some.inj ho; exact ⟨by decide, by decide⟩
    | 5, ho, _ => obtain rfl := Option.some.inj ho; exact ⟨by decide, by decide⟩
    | 6, _, hk => exact absurd hk (by decide)
    | 7, _, hk => exact absurd hk (by decide)
    | 8, _, hk => exact absurd hk (by decide)
    | 9, _, hk => exact absurd hk (by decide)
    | q + 10, ho, _ => simp at ho
  case al1 =>
    intro a w
    unfold execOp
    go_simp
  case al2 =>
    intro a w
    unfold execOp
    go_simp
  case st1 =>
    intro a w1 b old hf hp hg ho
    have e9 : a.tmps[9]?.getD undef = rect oR oC := hf.1 ⟨2, .data⟩ (by simp) rfl _ 9 rfl rfl rfl
    exact wp_store_row 45 (.tmp 5) (.tmp 9) rfl b #[.int .i64 (oR : Int), .int .i64 (oC : Int)] (eval_get (by rw [hp]; rfl)) (eval_get e9) 45 old hg (info_rect _ _) (by rcases ho with rfl | rfl <;> rfl) (one_rect _ _) ⟨rfl, rfl⟩
  case st2 =>
    intro a w1 b old hf hp hg ho
    have e12 : a.tmps[12]?.getD undef = rect iR iC := hf.1 ⟨5, .data⟩ (by simp) rfl _ 12 rfl rfl rfl
    exact wp_store_row 45 (.tmp 6) (.tmp 12) rfl b #[.int .i64 (iR : Int), .int .i64 (iC : Int)] (eval_get (by rw [hp]; rfl)) (eval_get e12) 45 old hg (info_rect _ _) (by rcases ho with rfl | rfl <;> rfl) (one_rect _ _) ⟨rfl, rfl⟩
  case con =>
    intro i o ho hk a w2 hb2 hf
    match i, ho, hk with
    | 0, ho, _ =>
      obtain rfl := Option.some.inj ho
      have b2 : a.tmps[2]?.getD undef = .pointer (some ⟨B, 0, none⟩) := hf.2 2 (by kernel_rfl)
      exact wp_load_row 81 (.tmp 2) rfl (B) (eval_get b2) 81 _ (0, 0) _ (HM0.out w2 hb2) Tryz.underlying81 rfl (info_say _ _ _ _) ⟨rfl, Below.refl _ _⟩
    | 1, ho, _ =>
      obtain rfl := Option.some.inj ho
      have b3 : a.tmps[3]?.getD undef = .pointer (some ⟨B + 1, 0, none⟩) := hf.2 3 (by kernel_rfl)
      exact wp_load_row 45 (.tmp 3) rfl (B + 1) (eval_get b3) 45 _ (0, 0) _ (HN0.out w2 hb2) Tryz.underlying45 rfl (info_rect _ _) ⟨rfl, Below.refl _ _⟩
    | 2, ho, _ =>
      obtain rfl := Option.some.inj ho
      have e7 : a.tmps[7]?.getD undef = .agg #[.int .u8 wh, .int .i64 (s : Int), .iface t1 v1, .iface t2 v2] := hf.1 ⟨0, .data⟩ (by simp) rfl _ 7 rfl rfl rfl
      have e8 : a.tmps[8]?.getD undef = rect R C := hf.1 ⟨1, .data⟩ (by simp) rfl _ 8 rfl rfl rfl
      exact wp_enter 51 #[.agg #[.int .u8 wh, .int .i64 (s : Int), .iface t1 v1, .iface t2 v2], rect R C, .int .i64 0] (rect oR oC) _ (by unfold execOp; go_simp) (HPo.out w2) (fun w' h => ⟨rfl, h⟩)
    | 3, ho, _ =>
      obtain rfl := Option.some.inj ho
      have b2 : a.tmps[2]?.getD undef = .pointer (some ⟨B, 0, none⟩) := hf.2 2 (by kernel_rfl)
      exact wp_load_row 81 (.tmp 2) rfl (B) (eval_get b2) 81 _ (0, 0) _ (HM0.out w2 hb2) Tryz.underlying81 rfl (info_say _ _ _ _) ⟨rfl, Below.refl _ _⟩
    | 4, ho, _ =>
      obtain rfl := Option.some.inj ho
      have b3 : a.tmps[3]?.getD undef = .pointer (some ⟨B + 1, 0, none⟩) := hf.2 3 (by kernel_rfl)
      exact wp_load_row 45 (.tmp 3) rfl (B + 1) (eval_get b3) 45 _ (0, 0) _ (HN0.out w2 hb2) Tryz.underlying45 rfl (info_rect _ _) ⟨rfl, Below.refl _ _⟩
    | 5, ho, _ =>
      obtain rfl := Option.some.inj ho
      have e10 : a.tmps[10]?.getD undef = .agg #[.int .u8 wh, .int .i64 (s : Int), .iface t1 v1, .iface t2 v2] := hf.1 ⟨3, .data⟩ (by simp) rfl _ 10 rfl rfl rfl
      have e11 : a.tmps[11]?.getD undef = rect R C := hf.1 ⟨4, .data⟩ (by simp) rfl _ 11 rfl rfl rfl
      exact wp_enter 51 #[.agg #[.int .u8 wh, .int .i64 (s : Int), .iface t1 v1, .iface t2 v2], rect R C, .int .i64 1] (rect iR iC) _ (by unfold execOp; go_simp) (HPi.out w2) (fun w' h => ⟨rfl, h⟩)
    | 6, _, hk => exact absurd hk (by decide)
    | 7, _, hk => exact absurd hk (by decide)
    | 8, _, hk => exact absurd hk (by decide)
    | 9, _, hk => exact absurd hk (by decide)
    | q + 10, ho, _ => simp at ho
  intro b1 b2 w5 hb5 g1 g2 x1 x2
  have HTr := Lib.hid (Tr.mk (HM0.out w5 hb5) x1 x2 (HWW.out.trans (hb5.mono HWW.out.size)) : Tr w w5 B b1 b2 #[.int .u8 wh, .int .i64 (s : Int), .iface t1 v1, .iface t2 v2] oR oC iR iC)
  have n1 : b1 ≠ B := by rw [HSZ.out] at g1; omega
  have n2 : b2 ≠ B := by rw [HSZ.out] at g2; omega
  have N1 := Lib.hid n1
  have N2 := Lib.hid n2
  clear hb5 g1 g2 x1 x2 HM0 HN0 HWW HPo HPi HSZ n1 n2
  simp only [fill, Act.put]
  go_simp
  obtain ⟨c0, c1, c2, c3⟩ := cells4 HTr.out.node
  obtain ⟨d0, d1⟩ := cells2 HTr.out.out
  obtain ⟨f0, f1⟩ := cells2 HTr.out.inn
  go_wp2_with fail
  refine (rect_any _ _ _).mono ?_
  rintro e w6 ⟨rfl, hb6⟩
  have HT6 := Lib.hid (HTr.out.later hb6)
  clear hb6 HTr c0 c1 c2 c3 d0 d1 f0 f1
  obtain ⟨c0, c1, c2, c3⟩ := cells4 HT6.out.node
  obtain ⟨d0, d1⟩ := cells2 HT6.out.out
  obtain ⟨f0, f1⟩ := cells2 HT6.out.inn
  by_cases hin : iR = 0 ∨ iC = 0
  · have HR1 : Hid (tree (trimT z oR oC) = res) := by have h := HRS.out; rw [if_pos hin] at h; exact h
    rw [some_no hin]
    obtain ⟨q1, q2⟩ := hnb hin
    have HZ2 := Lib.hid hZ
    clear hZ hO hnb hin HIn
    rcases HZ2.out with ⟨V, ez, hz⟩ | ⟨V, ez, hz⟩
    all_goals
      simp only [Value.iface.injEq] at ez
      obtain ⟨rfl, rfl⟩ := ez
      have HZ := Lib.hid (fun W => hz oR oC W h1 h2 q1 q2)
      clear hz HZ2
      go_wp2_with fail
      refine (HZ.out _).mono ?_
      rintro e w7 ⟨rfl, hb7⟩
      have HB := Lib.hid (HT6.out.below.trans (hb7.mono HT6.out.below.size))
      clear hb7
      go_wp2_with fail
      go_ret
      exact ⟨by rw [← HR1.out]; rfl, HB.out⟩
  have i1 : 1 ≤ iR := by omega
  have i2 : 1 ≤ iC := by omega
  have HRS2 : Hid (tree (if oR = 0 ∨ oC = 0 then trimT o iR iC else .say a (if a then iR else iC) (trimT z oR oC) (trimT o iR iC)) = res) := by have h := HRS.out; rw [if_neg hin] at h; exact h
  clear HRS
  rw [some_yes i1 h3 i2 h4]
  go_wp2_with fail
  refine (rect_any _ _ _).mono ?_
  rintro e w7 ⟨rfl, hb7⟩
  have HT7 := Lib.hid (HT6.out.later hb7)
  clear hb7 HT6 c0 c1 c2 c3 d0 d1 f0 f1
  obtain ⟨c0, c1, c2, c3⟩ := cells4 HT7.out.node
  obtain ⟨d0, d1⟩ := cells2 HT7.out.out
  obtain ⟨f0, f1⟩ := cells2 HT7.out.inn
  by_cases hou : oR = 0 ∨ oC = 0
  · have HR1 : Hid (tree (trimT o iR iC) = res) := by have h := HRS2.out; rw [if_pos hou] at h; exact h
    rw [some_no hou]
    have HO2 := Lib.hid hO
    clear hZ hO hnb hin hou HIn
    rcases HO2.out with ⟨V, eo, ho⟩ | ⟨V, eo, ho⟩
    all_goals
      simp only [Value.iface.injEq] at eo
      obtain ⟨rfl, rfl⟩ := eo
      have HO := Lib.hid (fun W => ho iR iC W h3 h4 i1 i2)
      clear ho HO2
      go_wp2_with fail
      refine (HO.out _).mono ?_
      rintro e w8 ⟨rfl, hb8⟩
      have HB := Lib.hid (HT7.out.below.trans (hb8.mono HT7.out.below.size))
      clear hb8
      go_wp2_with fail
      go_ret
      exact ⟨by rw [← HR1.out]; rfl, HB.out⟩
  have o1 : 1 ≤ oR := by omega
  have o2 : 1 ≤ oC := by omega
  have HRS3 : Hid (tree (.say a (if a then iR else iC) (trimT z oR oC) (trimT o iR iC)) = res) := by have h := HRS2.out; rw [if_neg hou] at h; exact h
  clear HRS2
  rw [some_yes o1 h1 o2 h2]
  obtain ⟨S, hS⟩ : ∃ S : Nat, (if a then iR else iC) = S := ⟨_, rfl⟩
  have HS : Hid ((if a then (iR : Int) else (iC : Int)) = (S : Int)) := by show _ = _; rw [← hS]; cases a <;> rfl
  rw [hS] at HRS3
  go_wp2_with fail
  refine (HIn.out _ _ _ _).mono ?_
  rintro e w8 ⟨rfl, hb8⟩
  rw [HS.out]
  have HT8 := Lib.hid (HT7.out.later hb8)
  clear hb8 HT7 c0 c1 c2 c3 d0 d1 f0 f1 hS
  obtain ⟨c0, c1, c2, c3⟩ := cells4 HT8.out.node
  have fz : w8.frozen? ⟨B, 1, none⟩ = false := frozen_of_row _ _ _ _ _ HT8.out.node
  go_wp2_with fail
  obtain ⟨W2, hW2⟩ : ∃ W2, w8.setCell ⟨B, 1, none⟩ (.int .i64 (S : Int)) = W2 := ⟨_, rfl⟩
  rw [hW2]
  have HT9 : Hid (Tr w W2 B b1 b2 #[.int .u8 wh, .int .i64 (S : Int), .iface t1 v1, .iface t2 v2] oR oC iR iC) := by
    show Tr _ _ _ _ _ _ _ _ _ _
    rw [← hW2]
    exact ⟨set1 HT8.out.node, (set1_other N1.out).trans HT8.out.out, (set1_other N2.out).trans HT8.out.inn, set1_below HT8.out.below (by rw [HBB.out]; exact Nat.le_refl _)⟩
  clear hW2 HT8 c0 c1 c2 c3 fz
  obtain ⟨tz, vz, ez2⟩ := tree_iface (trimT z oR oC)
  obtain ⟨to, vo, eo2⟩ := tree_iface (trimT o iR iC)
  have HRes : Hid (res = .iface 81 (.agg #[.int .u8 wh, .int .i64 (S : Int), .iface tz vz, .iface to vo])) := by
    show res = _
    rw [← HRS3.out]
    simp only [tree, sayV, ez2, eo2, HWH.out]
  have HM0 : Hid (∀ wx : World, Below W2.heap.size W2 wx → Tr w wx B b1 b2 #[.int .u8 wh, .int .i64 (S : Int), .iface t1 v1, .iface t2 v2] oR oC iR iC) := fun wx h => HT9.out.later h
  have HZ2 := Lib.hid hZ
  have HO2 := Lib.hid hO
  clear hZ hO hnb hin hou HIn
  rcases HZ2.out with ⟨V, ez, hz⟩ | ⟨V, ez, hz⟩ <;> rcases HO2.out with ⟨U, eo, ho⟩ | ⟨U, eo, ho⟩
  · simp only [Value.iface.injEq] at ez eo
    obtain ⟨rfl, rfl⟩ := ez
    obtain ⟨rfl, rfl⟩ := eo
    have hz2 := fun W => hz oR oC W h1 h2 o1 o2
    have ho2 := fun W => ho iR iC W h3 h4 i1 i2
    rw [ez2] at hz2
    rw [eo2] at ho2
    have HZ := Lib.hid hz2
    have HO := Lib.hid ho2
    clear hz ho hz2 ho2 HZ2 HO2 ez2 eo2
    refine wp_region_last (fun | 0 => .pointer (some ⟨B, 2, none⟩) | 1 => .pointer (some ⟨B, 2, none⟩) | 2 => .iface 61 v1 | 3 => rect oR oC | 4 => .iface tz vz | 5 => .pointer (some ⟨B, 2, none⟩) | 6 => .pointer (some ⟨B, 3, none⟩) | 7 => .iface 61 v2 | 8 => rect iR iC | 9 => .iface to vo | 10 => .agg #[.iface tz vz, .iface to vo] | 11 => .pointer (some ⟨B, 2, none⟩) | _ => undef) 12 (fun wx => wx.setRow B #[.int .u8 wh, .int .i64 (S : Int), .iface tz vz, .iface to vo]) _ (by kernel_rfl) (by kernel_rfl) rfl rfl rfl rfl (by kernel_rfl) ?conTee ?stTee ?enTee
    case conTee =>
      intro i o ho hlt a wx hb hf
      match i, ho with
      | 0, ho =>
        obtain rfl := Option.some.inj ho
        have b2 : a.tmps[2]?.getD undef = .pointer (some ⟨B, 0, none⟩) := hf.2 2 (by kernel_rfl)
        exact wp_value (.pointer (some ⟨B, 2, none⟩)) (by unfold execOp; go_simp) ⟨rfl, Below.refl _ _⟩
      | 1, ho =>
        obtain rfl := Option.some.inj ho
        have e33 : a.tmps[33]?.getD undef = .pointer (some ⟨B, 2, none⟩) := hf.1 ⟨0, .data⟩ (by simp) rfl _ 33 rfl rfl
        exact wp_value (.pointer (some ⟨B, 2, none⟩)) (by unfold execOp; go_simp) ⟨rfl, Below.refl _ _⟩
      | 2, ho =>
        obtain rfl := Option.some.inj ho
        have e34 : a.tmps[34]?.getD undef = .pointer (some ⟨B, 2, none⟩) := hf.1 ⟨1, .data⟩ (by simp) rfl _ 34 rfl rfl
        obtain ⟨c0, c1, c2, c3⟩ := cells4 (HM0.out wx hb).node
        exact wp_value (.iface 61 v1) (by unfold execOp; go_simp) ⟨rfl, Below.refl _ _⟩
      | 3, ho =>
        obtain rfl := Option.some.inj ho
        have b5 : a.tmps[5]?.getD undef = .pointer (some ⟨b1, 0, none⟩) := hf.2 5 (by kernel_rfl)
        obtain ⟨d0, d1⟩ := cells2 (HM0.out wx hb).out
        exact wp_value (rect oR oC) (by unfold execOp; go_simp) ⟨rfl, Below.refl _ _⟩
      | 4, ho =>
        obtain rfl := Option.some.inj ho
        have e35 : a.tmps[35]?.getD undef = .iface 61 v1 := hf.1 ⟨2, .data⟩ (by simp) rfl _ 35 rfl rfl
        have e36 : a.tmps[36]?.getD undef = rect oR oC := hf.1 ⟨3, .data⟩ (by simp) rfl _ 36 rfl rfl
        exact wp_enter 119 #[v1, rect oR oC] (.iface tz vz) _ (by unfold execOp; go_simp; go_invoke; rfl) (HZ.out wx) (fun w' h => ⟨rfl, h⟩)
      | 5, ho =>
        obtain rfl := Option.some.inj ho
        have b2 : a.tmps[2]?.getD undef = .pointer (some ⟨B, 0, none⟩) := hf.2 2 (by kernel_rfl)
        exact wp_value (.pointer (some ⟨B, 2, none⟩)) (by unfold execOp; go_simp) ⟨rfl, Below.refl _ _⟩
      | 6, ho =>
        obtain rfl := Option.some.inj ho
        have e38 : a.tmps[38]?.getD undef = .pointer (some ⟨B, 2, none⟩) := hf.1 ⟨5, .data⟩ (by simp) rfl _ 38 rfl rfl
        exact wp_value (.pointer (some ⟨B, 3, none⟩)) (by unfold execOp; go_simp) ⟨rfl, Below.refl _ _⟩
      | 7, ho =>
        obtain rfl := Option.some.inj ho
        have e39 : a.tmps[39]?.getD undef = .pointer (some ⟨B, 3, none⟩) := hf.1 ⟨6, .data⟩ (by simp) rfl _ 39 rfl rfl
        obtain ⟨c0, c1, c2, c3⟩ := cells4 (HM0.out wx hb).node
        exact wp_value (.iface 61 v2) (by unfold execOp; go_simp) ⟨rfl, Below.refl _ _⟩
      | 8, ho =>
        obtain rfl := Option.some.inj ho
        have b6 : a.tmps[6]?.getD undef = .pointer (some ⟨b2, 0, none⟩) := hf.2 6 (by kernel_rfl)
        obtain ⟨f0, f1⟩ := cells2 (HM0.out wx hb).inn
        exact wp_value (rect iR iC) (by unfold execOp; go_simp) ⟨rfl, Below.refl _ _⟩
      | 9, ho =>
        obtain rfl := Option.some.inj ho
        have e40 : a.tmps[40]?.getD undef = .iface 61 v2 := hf.1 ⟨7, .data⟩ (by simp) rfl _ 40 rfl rfl
        have e41 : a.tmps[41]?.getD undef = rect iR iC := hf.1 ⟨8, .data⟩ (by simp) rfl _ 41 rfl rfl
        exact wp_enter 119 #[v2, rect iR iC] (.iface to vo) _ (by unfold execOp; go_simp; go_invoke; rfl) (HO.out wx) (fun w' h => ⟨rfl, h⟩)
      | 10, ho =>
        obtain rfl := Option.some.inj ho
        have e37 : a.tmps[37]?.getD undef = .iface tz vz := hf.1 ⟨4, .data⟩ (by simp) rfl _ 37 rfl rfl
        have e42 : a.tmps[42]?.getD undef = .iface to vo := hf.1 ⟨9, .data⟩ (by simp) rfl _ 42 rfl rfl
        exact wp_value (.agg #[.iface tz vz, .iface to vo]) (by unfold execOp; go_simp) ⟨rfl, Below.refl _ _⟩
      | 11, ho =>
        obtain rfl := Option.some.inj ho
        have b2 : a.tmps[2]?.getD undef = .pointer (some ⟨B, 0, none⟩) := hf.2 2 (by kernel_rfl)
        exact wp_value (.pointer (some ⟨B, 2, none⟩)) (by unfold execOp; go_simp) ⟨rfl, Below.refl _ _⟩
      | 12, ho => exact absurd hlt (by omega)
      | q + 13, ho => simp at ho
    case stTee =>
      intro a wx hb hf
      have e43 : a.tmps[43]?.getD undef = .agg #[.iface tz vz, .iface to vo] := hf.1 ⟨10, .data⟩ (by simp) rfl _ 43 rfl rfl
      have e44 : a.tmps[44]?.getD undef = .pointer (some ⟨B, 2, none⟩) := hf.1 ⟨11, .data⟩ (by simp) rfl _ 44 rfl rfl
      exact wp_store_mid 79 (.tmp 44) (.tmp 43) rfl B 2 #[.iface tz vz, .iface to vo] (eval_get e44) (eval_get e43) (there_row (HM0.out wx hb).node) (info_two _ _) (all2 _ _ _ _) ⟨rfl, set2 (HM0.out wx hb).node _ _⟩
    intro w5 hb5
    have HR : Hid ((w5.setRow B #[.int .u8 wh, .int .i64 (S : Int), .iface tz vz, .iface to vo]).heap[B]? = some (.cells #[.int .u8 wh, .int .i64 (S : Int), .iface tz vz, .iface to vo] 81 (0, 0))) := setRow_at' (HM0.out w5 hb5).node
    have HB5 : Hid (Below w.heap.size w (w5.setRow B #[.int .u8 wh, .int .i64 (S : Int), .iface tz vz, .iface to vo])) := setRow_below' (HM0.out w5 hb5).below (by rw [HBB.out]; exact Nat.le_refl _) _
    clear hb5 HM0 HT9
    simp only [fill, Act.put]
    go_simp
    generalize w5.setRow B #[.int .u8 wh, .int .i64 (S : Int), .iface tz vz, .iface to vo] = w6 at *
    obtain ⟨c0, c1, c2, c3⟩ := cells4 HR.out
    clear HR
    go_wp2_with fail
    go_ret
    exact ⟨by rw [HRes.out]; rfl, HB5.out⟩
  · simp only [Value.iface.injEq] at ez eo
    obtain ⟨rfl, rfl⟩ := ez
    obtain ⟨rfl, rfl⟩ := eo
    have hz2 := fun W => hz oR oC W h1 h2 o1 o2
    have ho2 := fun W => ho iR iC W h3 h4 i1 i2
    rw [ez2] at hz2
    rw [eo2] at ho2
    have HZ := Lib.hid hz2
    have HO := Lib.hid ho2
    clear hz ho hz2 ho2 HZ2 HO2 ez2 eo2
    refine wp_region_last (fun | 0 => .pointer (some ⟨B, 2, none⟩) | 1 => .pointer (some ⟨B, 2, none⟩) | 2 => .iface 61 v1 | 3 => rect oR oC | 4 => .iface tz vz | 5 => .pointer (some ⟨B, 2, none⟩) | 6 => .pointer (some ⟨B, 3, none⟩) | 7 => .iface 81 v2 | 8 => rect iR iC | 9 => .iface to vo | 10 => .agg #[.iface tz vz, .iface to vo] | 11 => .pointer (some ⟨B, 2, none⟩) | _ => undef) 12 (fun wx => wx.setRow B #[.int .u8 wh, .int .i64 (S : Int), .iface tz vz, .iface to vo]) _ (by kernel_rfl) (by kernel_rfl) rfl rfl rfl rfl (by kernel_rfl) ?conTes ?stTes ?enTes
    case conTes =>
      intro i o ho hlt a wx hb hf
      match i, ho with
      | 0, ho =>
        obtain rfl := Option.some.inj ho
        have b2 : a.tmps[2]?.getD undef = .pointer (some ⟨B, 0, none⟩) := hf.2 2 (by kernel_rfl)
        exact wp_value (.pointer (some ⟨B, 2, none⟩)) (by unfold execOp; go_simp) ⟨rfl, Below.refl _ _⟩
      | 1, ho =>
        obtain rfl := Option.some.inj ho
        have e33 : a.tmps[33]?.getD undef = .pointer (some ⟨B, 2, none⟩) := hf.1 ⟨0, .data⟩ (by simp) rfl _ 33 rfl rfl
        exact wp_value (.pointer (some ⟨B, 2, none⟩)) (by unfold execOp; go_simp) ⟨rfl, Below.refl _ _⟩
      | 2, ho =>
        obtain rfl := Option.some.inj ho
        have e34 : a.tmps[34]?.getD undef = .pointer (some ⟨B, 2, none⟩) := hf.1 ⟨1, .data⟩ (by simp) rfl _ 34 rfl rfl
        obtain ⟨c0, c1, c2, c3⟩ := cells4 (HM0.out wx hb).node
        exact wp_value (.iface 61 v1) (by unfold execOp; go_simp) ⟨rfl, Below.refl _ _⟩
      | 3, ho =>
        obtain rfl := Option.some.inj ho
        have b5 : a.tmps[5]?.getD undef = .pointer (some ⟨b1, 0, none⟩) := hf.2 5 (by kernel_rfl)
        obtain ⟨d0, d1⟩ := cells2 (HM0.out wx hb).out
        exact wp_value (rect oR oC) (by unfold execOp; go_simp) ⟨rfl, Below.refl _ _⟩
      | 4, ho =>
        obtain rfl := Option.some.inj ho
        have e35 : a.tmps[35]?.getD undef = .iface 61 v1 := hf.1 ⟨2, .data⟩ (by simp) rfl _ 35 rfl rfl
        have e36 : a.tmps[36]?.getD undef = rect oR oC := hf.1 ⟨3, .data⟩ (by simp) rfl _ 36 rfl rfl
        exact wp_enter 119 #[v1, rect oR oC] (.iface tz vz) _ (by unfold execOp; go_simp; go_invoke; rfl) (HZ.out wx) (fun w' h => ⟨rfl, h⟩)
      | 5, ho =>
        obtain rfl := Option.some.inj ho
        have b2 : a.tmps[2]?.getD undef = .pointer (some ⟨B, 0, none⟩) := hf.2 2 (by kernel_rfl)
        exact wp_value (.pointer (some ⟨B, 2, none⟩)) (by unfold execOp; go_simp) ⟨rfl, Below.refl _ _⟩
      | 6, ho =>
        obtain rfl := Option.some.inj ho
        have e38 : a.tmps[38]?.getD undef = .pointer (some ⟨B, 2, none⟩) := hf.1 ⟨5, .data⟩ (by simp) rfl _ 38 rfl rfl
        exact wp_value (.pointer (some ⟨B, 3, none⟩)) (by unfold execOp; go_simp) ⟨rfl, Below.refl _ _⟩
      | 7, ho =>
        obtain rfl := Option.some.inj ho
        have e39 : a.tmps[39]?.getD undef = .pointer (some ⟨B, 3, none⟩) := hf.1 ⟨6, .data⟩ (by simp) rfl _ 39 rfl rfl
        obtain ⟨c0, c1, c2, c3⟩ := cells4 (HM0.out wx hb).node
        exact wp_value (.iface 81 v2) (by unfold execOp; go_simp) ⟨rfl, Below.refl _ _⟩
      | 8, ho =>
        obtain rfl := Option.some.inj ho
        have b6 : a.tmps[6]?.getD undef = .pointer (some ⟨b2, 0, none⟩) := hf.2 6 (by kernel_rfl)
        obtain ⟨f0, f1⟩ := cells2 (HM0.out wx hb).inn
        exact wp_value (rect iR iC) (by unfold execOp; go_simp) ⟨rfl, Below.refl _ _⟩
      | 9, ho =>
        obtain rfl := Option.some.inj ho
        have e40 : a.tmps[40]?.getD undef = .iface 81 v2 := hf.1 ⟨7, .data⟩ (by simp) rfl _ 40 rfl rfl
        have e41 : a.tmps[41]?.getD undef = rect iR iC := hf.1 ⟨8, .data⟩ (by simp) rfl _ 41 rfl rfl
        exact wp_enter 128 #[v2, rect iR iC] (.iface to vo) _ (by unfold execOp; go_simp; go_invoke; rfl) (HO.out wx) (fun w' h => ⟨rfl, h⟩)
      | 10, ho =>
        obtain rfl := Option.some.inj ho
        have e37 : a.tmps[37]?.getD undef = .iface tz vz := hf.1 ⟨4, .data⟩ (by simp) rfl _ 37 rfl rfl
        have e42 : a.tmps[42]?.getD undef = .iface to vo := hf.1 ⟨9, .data⟩ (by simp) rfl _ 42 rfl rfl
        exact wp_value (.agg #[.iface tz vz, .iface to vo]) (by unfold execOp; go_simp) ⟨rfl, Below.refl _ _⟩
      | 11, ho =>
        obtain rfl := Option.some.inj ho
        have b2 : a.tmps[2]?.getD undef = .pointer (some ⟨B, 0, none⟩) := hf.2 2 (by kernel_rfl)
        exact wp_value (.pointer (some ⟨B, 2, none⟩)) (by unfold execOp; go_simp) ⟨rfl, Below.refl _ _⟩
      | 12, ho => exact absurd hlt (by omega)
      | q + 13, ho => simp at ho
    case stTes =>
      intro a wx hb hf
      have e43 : a.tmps[43]?.getD undef = .agg #[.iface tz vz, .iface to vo] := hf.1 ⟨10, .data⟩ (by simp) rfl _ 43 rfl rfl
      have e44 : a.tmps[44]?.getD undef = .pointer (some ⟨B, 2, none⟩) := hf.1 ⟨11, .data⟩ (by simp) rfl _ 44 rfl rfl
      exact wp_store_mid 79 (.tmp 44) (.tmp 43) rfl B 2 #[.iface tz vz, .iface to vo] (eval_get e44) (eval_get e43) (there_row (HM0.out wx hb).node) (info_two _ _) (all2 _ _ _ _) ⟨rfl, set2 (HM0.out wx hb).node _ _⟩
    intro w5 hb5
    have HR : Hid ((w5.setRow B #[.int .u8 wh, .int .i64 (S : Int), .iface tz vz, .iface to vo]).heap[B]? = some (.cells #[.int .u8 wh, .int .i64 (S : Int), .iface tz vz, .iface to vo] 81 (0, 0))) := setRow_at' (HM0.out w5 hb5).node
    have HB5 : Hid (Below w.heap.size w (w5.setRow B #[.int .u8 wh, .int .i64 (S : Int), .iface tz vz, .iface to vo])) := setRow_below' (HM0.out w5 hb5).below (by rw [HBB.out]; exact Nat.le_refl _) _
    clear hb5 HM0 HT9
    simp only [fill, Act.put]
    go_simp
    generalize w5.setRow B #[.int .u8 wh, .int .i64 (S : Int), .iface tz vz, .iface to vo] = w6 at *
    obtain ⟨c0, c1, c2, c3⟩ := cells4 HR.out
    clear HR
    go_wp2_with fail
    go_ret
    exact ⟨by rw [HRes.out]; rfl, HB5.out⟩
  · simp only [Value.iface.injEq] at ez eo
    obtain ⟨rfl, rfl⟩ := ez
    obtain ⟨rfl, rfl⟩ := eo
    have hz2 := fun W => hz oR oC W h1 h2 o1 o2
    have ho2 := fun W => ho iR iC W h3 h4 i1 i2
    rw [ez2] at hz2
    rw [eo2] at ho2
    have HZ := Lib.hid hz2
    have HO := Lib.hid ho2
    clear hz ho hz2 ho2 HZ2 HO2 ez2 eo2
    refine wp_region_last (fun | 0 => .pointer (some ⟨B, 2, none⟩) | 1 => .pointer (some ⟨B, 2, none⟩) | 2 => .iface 81 v1 | 3 => rect oR oC | 4 => .iface tz vz | 5 => .pointer (some ⟨B, 2, none⟩) | 6 => .pointer (some ⟨B, 3, none⟩) | 7 => .iface 61 v2 | 8 => rect iR iC | 9 => .iface to vo | 10 => .agg #[.iface tz vz, .iface to vo] | 11 => .pointer (some ⟨B, 2, none⟩) | _ => undef) 12 (fun wx => wx.setRow B #[.int .u8 wh, .int .i64 (S : Int), .iface tz vz, .iface to vo]) _ (by kernel_rfl) (by kernel_rfl) rfl rfl rfl rfl (by kernel_rfl) ?conTse ?stTse ?enTse
    case conTse =>
      intro i o ho hlt a wx hb hf
      match i, ho with
      | 0, ho =>
        obtain rfl := Option.some.inj ho
        have b2 : a.tmps[2]?.getD undef = .pointer (some ⟨B, 0, none⟩) := hf.2 2 (by kernel_rfl)
        exact wp_value (.pointer (some ⟨B, 2, none⟩)) (by unfold execOp; go_simp) ⟨rfl, Below.refl _ _⟩
      | 1, ho =>
        obtain rfl := Option.some.inj ho
        have e33 : a.tmps[33]?.getD undef = .pointer (some ⟨B, 2, none⟩) := hf.1 ⟨0, .data⟩ (by simp) rfl _ 33 rfl rfl
        exact wp_value (.pointer (some ⟨B, 2, none⟩)) (by unfold execOp; go_simp) ⟨rfl, Below.refl _ _⟩
      | 2, ho =>
        obtain rfl := Option.some.inj ho
        have e34 : a.tmps[34]?.getD undef = .pointer (some ⟨B, 2, none⟩) := hf.1 ⟨1, .data⟩ (by simp) rfl _ 34 rfl rfl
        obtain ⟨c0, c1, c2, c3⟩ := cells4 (HM0.out wx hb).node
        exact wp_value (.iface 81 v1) (by unfold execOp; go_simp) ⟨rfl, Below.refl _ _⟩
      | 3, ho =>
        obtain rfl := Option.some.inj ho
        have b5 : a.tmps[5]?.getD undef = .pointer (some ⟨b1, 0, none⟩) := hf.2 5 (by kernel_rfl)
        obtain ⟨d0, d1⟩ := cells2 (HM0.out wx hb).out
        exact wp_value (rect oR oC) (by unfold execOp; go_simp) ⟨rfl, Below.refl _ _⟩
      | 4, ho =>
        obtain rfl := Option.some.inj ho
        have e35 : a.tmps[35]?.getD undef = .iface 81 v1 := hf.1 ⟨2, .data⟩ (by simp) rfl _ 35 rfl rfl
        have e36 : a.tmps[36]?.getD undef = rect oR oC := hf.1 ⟨3, .data⟩ (by simp) rfl _ 36 rfl rfl
        exact wp_enter 128 #[v1, rect oR oC] (.iface tz vz) _ (by unfold execOp; go_simp; go_invoke; rfl) (HZ.out wx) (fun w' h => ⟨rfl, h⟩)
      | 5, ho =>
        obtain rfl := Option.some.inj ho
        have b2 : a.tmps[2]?.getD undef = .pointer (some ⟨B, 0, none⟩) := hf.2 2 (by kernel_rfl)
        exact wp_value (.pointer (some ⟨B, 2, none⟩)) (by unfold execOp; go_simp) ⟨rfl, Below.refl _ _⟩
      | 6, ho =>
        obtain rfl := Option.some.inj ho
        have e38 : a.tmps[38]?.getD undef = .pointer (some ⟨B, 2, none⟩) := hf.1 ⟨5, .data⟩ (by simp) rfl _ 38 rfl rfl
        exact wp_value (.pointer (some ⟨B, 3, none⟩)) (by unfold execOp; go_simp) ⟨rfl, Below.refl _ _⟩
      | 7, ho =>
        obtain rfl := Option.some.inj ho
        have e39 : a.tmps[39]?.getD undef = .pointer (some ⟨B, 3, none⟩) := hf.1 ⟨6, .data⟩ (by simp) rfl _ 39 rfl rfl
        obtain ⟨c0, c1, c2, c3⟩ := cells4 (HM0.out wx hb).node
        exact wp_value (.iface 61 v2) (by unfold execOp; go_simp) ⟨rfl, Below.refl _ _⟩
      | 8, ho =>
        obtain rfl := Option.some.inj ho
        have b6 : a.tmps[6]?.getD undef = .pointer (some ⟨b2, 0, none⟩) := hf.2 6 (by kernel_rfl)
        obtain ⟨f0, f1⟩ := cells2 (HM0.out wx hb).inn
        exact wp_value (rect iR iC) (by unfold execOp; go_simp) ⟨rfl, Below.refl _ _⟩
      | 9, ho =>
        obtain rfl := Option.some.inj ho
        have e40 : a.tmps[40]?.getD undef = .iface 61 v2 := hf.1 ⟨7, .data⟩ (by simp) rfl _ 40 rfl rfl
        have e41 : a.tmps[41]?.getD undef = rect iR iC := hf.1 ⟨8, .data⟩ (by simp) rfl _ 41 rfl rfl
        exact wp_enter 119 #[v2, rect iR iC] (.iface to vo) _ (by unfold execOp; go_simp; go_invoke; rfl) (HO.out wx) (fun w' h => ⟨rfl, h⟩)
      | 10, ho =>
        obtain rfl := Option.some.inj ho
        have e37 : a.tmps[37]?.getD undef = .iface tz vz := hf.1 ⟨4, .data⟩ (by simp) rfl _ 37 rfl rfl
        have e42 : a.tmps[42]?.getD undef = .iface to vo := hf.1 ⟨9, .data⟩ (by simp) rfl _ 42 rfl rfl
        exact wp_value (.agg #[.iface tz vz, .iface to vo]) (by unfold execOp; go_simp) ⟨rfl, Below.refl _ _⟩
      | 11, ho =>
        obtain rfl := Option.some.inj ho
        have b2 : a.tmps[2]?.getD undef = .pointer (some ⟨B, 0, none⟩) := hf.2 2 (by kernel_rfl)
        exact wp_value (.pointer (some ⟨B, 2, none⟩)) (by unfold execOp; go_simp) ⟨rfl, Below.refl _ _⟩
      | 12, ho => exact absurd hlt (by omega)
      | q + 13, ho => simp at ho
    case stTse =>
      intro a wx hb hf
      have e43 : a.tmps[43]?.getD undef = .agg #[.iface tz vz, .iface to vo] := hf.1 ⟨10, .data⟩ (by simp) rfl _ 43 rfl rfl
      have e44 : a.tmps[44]?.getD undef = .pointer (some ⟨B, 2, none⟩) := hf.1 ⟨11, .data⟩ (by simp) rfl _ 44 rfl rfl
      exact wp_store_mid 79 (.tmp 44) (.tmp 43) rfl B 2 #[.iface tz vz, .iface to vo] (eval_get e44) (eval_get e43) (there_row (HM0.out wx hb).node) (info_two _ _) (all2 _ _ _ _) ⟨rfl, set2 (HM0.out wx hb).node _ _⟩
    intro w5 hb5
    have HR : Hid ((w5.setRow B #[.int .u8 wh, .int .i64 (S : Int), .iface tz vz, .iface to vo]).heap[B]? = some (.cells #[.int .u8 wh, .int .i64 (S : Int), .iface tz vz, .iface to vo] 81 (0, 0))) := setRow_at' (HM0.out w5 hb5).node
    have HB5 : Hid (Below w.heap.size w (w5.setRow B #[.int .u8 wh, .int .i64 (S : Int), .iface tz vz, .iface to vo])) := setRow_below' (HM0.out w5 hb5).below (by rw [HBB.out]; exact Nat.le_refl _) _
    clear hb5 HM0 HT9
    simp only [fill, Act.put]
    go_simp
    generalize w5.setRow B #[.int .u8 wh, .int .i64 (S : Int), .iface tz vz, .iface to vo] = w6 at *
    obtain ⟨c0, c1, c2, c3⟩ := cells4 HR.out
    clear HR
    go_wp2_with fail
    go_ret
    exact ⟨by rw [HRes.out]; rfl, HB5.out⟩
  · simp only [Value.iface.injEq] at ez eo
    obtain ⟨rfl, rfl⟩ := ez
    obtain ⟨rfl, rfl⟩ := eo
    have hz2 := fun W => hz oR oC W h1 h2 o1 o2
    have ho2 := fun W => ho iR iC W h3 h4 i1 i2
    rw [ez2] at hz2
    rw [eo2] at ho2
    have HZ := Lib.hid hz2
    have HO := Lib.hid ho2
    clear hz ho hz2 ho2 HZ2 HO2 ez2 eo2
    refine wp_region_last (fun | 0 => .pointer (some ⟨B, 2, none⟩) | 1 => .pointer (some ⟨B, 2, none⟩) | 2 => .iface 81 v1 | 3 => rect oR oC | 4 => .iface tz vz | 5 => .pointer (some ⟨B, 2, none⟩) | 6 => .pointer (some ⟨B, 3, none⟩) | 7 => .iface 81 v2 | 8 => rect iR iC | 9 => .iface to vo | 10 => .agg #[.iface tz vz, .iface to vo] | 11 => .pointer (some ⟨B, 2, none⟩) | _ => undef) 12 (fun wx => wx.setRow B #[.int .u8 wh, .int .i64 (S : Int), .iface tz vz, .iface to vo]) _ (by kernel_rfl) (by kernel_rfl) rfl rfl rfl rfl (by kernel_rfl) ?conTss ?stTss ?enTss
    case conTss =>
      intro i o ho hlt a wx hb hf
      match i, ho with
      | 0, ho =>
        obtain rfl := Option.some.inj ho
        have b2 : a.tmps[2]?.getD undef = .pointer (some ⟨B, 0, none⟩) := hf.2 2 (by kernel_rfl)
        exact wp_value (.pointer (some ⟨B, 2, none⟩)) (by unfold execOp; go_simp) ⟨rfl, Below.refl _ _⟩
      | 1, ho =>
        obtain rfl := Option.some.inj ho
        have e33 : a.tmps[33]?.getD undef = .pointer (some ⟨B, 2, none⟩) := hf.1 ⟨0, .data⟩ (by simp) rfl _ 33 rfl rfl
        exact wp_value (.pointer (some ⟨B, 2, none⟩)) (by unfold execOp; go_simp) ⟨rfl, Below.refl _ _⟩
      | 2, ho =>
        obtain rfl := Option.some.inj ho
        have e34 : a.tmps[34]?.getD undef = .pointer (some ⟨B, 2, none⟩) := hf.1 ⟨1, .data⟩ (by simp) rfl _ 34 rfl rfl
        obtain ⟨c0, c1, c2, c3⟩ := cells4 (HM0.out wx hb).node
        exact wp_value (.iface 81 v1) (by unfold execOp; go_simp) ⟨rfl, Below.refl _ _⟩
      | 3, ho =>
        obtain rfl := Option.some.inj ho
        have b5 : a.tmps[5]?.getD undef = .pointer (some ⟨b1, 0, none⟩) := hf.2 5 (by kernel_rfl)
        obtain ⟨d0, d1⟩ := cells2 (HM0.out wx hb).out
        exact wp_value (rect oR oC) (by unfold execOp; go_simp) ⟨rfl, Below.refl _ _⟩
      | 4, ho =>
        obtain rfl := Option.some.inj ho
        have e35 : a.tmps[35]?.getD undef = .iface 81 v1 := hf.1 ⟨2, .data⟩ (by simp) rfl _ 35 rfl rfl
        have e36 : a.tmps[36]?.getD undef = rect oR oC := hf.1 ⟨3, .data⟩ (by simp) rfl _ 36 rfl rfl
        exact wp_enter 128 #[v1, rect oR oC] (.iface tz vz) _ (by unfold execOp; go_simp; go_invoke; rfl) (HZ.out wx) (fun w' h => ⟨rfl, h⟩)
      | 5, ho =>
        obtain rfl := Option.some.inj ho
        have b2 : a.tmps[2]?.getD undef = .pointer (some ⟨B, 0, none⟩) := hf.2 2 (by kernel_rfl)
        exact wp_value (.pointer (some ⟨B, 2, none⟩)) (by unfold execOp; go_simp) ⟨rfl, Below.refl _ _⟩
      | 6, ho =>
        obtain rfl := Option.some.inj ho
        have e38 : a.tmps[38]?.getD undef = .pointer (some ⟨B, 2, none⟩) := hf.1 ⟨5, .data⟩ (by simp) rfl _ 38 rfl rfl
        exact wp_value (.pointer (some ⟨B, 3, none⟩)) (by unfold execOp; go_simp) ⟨rfl, Below.refl _ _⟩
      | 7, ho =>
        obtain rfl := Option.some.inj ho
        have e39 : a.tmps[39]?.getD undef = .pointer (some ⟨B, 3, none⟩) := hf.1 ⟨6, .data⟩ (by simp) rfl _ 39 rfl rfl
        obtain ⟨c0, c1, c2, c3⟩ := cells4 (HM0.out wx hb).node
        exact wp_value (.iface 81 v2) (by unfold execOp; go_simp) ⟨rfl, Below.refl _ _⟩
      | 8, ho =>
        obtain rfl := Option.some.inj ho
        have b6 : a.tmps[6]?.getD undef = .pointer (some ⟨b2, 0, none⟩) := hf.2 6 (by kernel_rfl)
        obtain ⟨f0, f1⟩ := cells2 (HM0.out wx hb).inn
        exact wp_value (rect iR iC) (by unfold execOp; go_simp) ⟨rfl, Below.refl _ _⟩
      | 9, ho =>
        obtain rfl := Option.some.inj ho
        have e40 : a.tmps[40]?.getD undef = .iface 81 v2 := hf.1 ⟨7, .data⟩ (by simp) rfl _ 40 rfl rfl
        have e41 : a.tmps[41]?.getD undef = rect iR iC := hf.1 ⟨8, .data⟩ (by simp) rfl _ 41 rfl rfl
        exact wp_enter 128 #[v2, rect iR iC] (.iface to vo) _ (by unfold execOp; go_simp; go_invoke; rfl) (HO.out wx) (fun w' h => ⟨rfl, h⟩)
      | 10, ho =>
        obtain rfl := Option.some.inj ho
        have e37 : a.tmps[37]?.getD undef = .iface tz vz := hf.1 ⟨4, .data⟩ (by simp) rfl _ 37 rfl rfl
        have e42 : a.tmps[42]?.getD undef = .iface to vo := hf.1 ⟨9, .data⟩ (by simp) rfl _ 42 rfl rfl
        exact wp_value (.agg #[.iface tz vz, .iface to vo]) (by unfold execOp; go_simp) ⟨rfl, Below.refl _ _⟩
      | 11, ho =>
        obtain rfl := Option.some.inj ho
        have b2 : a.tmps[2]?.getD undef = .pointer (some ⟨B, 0, none⟩) := hf.2 2 (by kernel_rfl)
        exact wp_value (.pointer (some ⟨B, 2, none⟩)) (by unfold execOp; go_simp) ⟨rfl, Below.refl _ _⟩
      | 12, ho => exact absurd hlt (by omega)
      | q + 13, ho => simp at ho
    case stTss =>
      intro a wx hb hf
      have e43 : a.tmps[43]?.getD undef = .agg #[.iface tz vz, .iface to vo] := hf.1 ⟨10, .data⟩ (by simp) rfl _ 43 rfl rfl
      have e44 : a.tmps[44]?.getD undef = .pointer (some ⟨B, 2, none⟩) := hf.1 ⟨11, .data⟩ (by simp) rfl _ 44 rfl rfl
      exact wp_store_mid 79 (.tmp 44) (.tmp 43) rfl B 2 #[.iface tz vz, .iface to vo] (eval_get e44) (eval_get e43) (there_row (HM0.out wx hb).node) (info_two _ _) (all2 _ _ _ _) ⟨rfl, set2 (HM0.out wx hb).node _ _⟩
    intro w5 hb5
    have HR : Hid ((w5.setRow B #[.int .u8 wh, .int .i64 (S : Int), .iface tz vz, .iface to vo]).heap[B]? = some (.cells #[.int .u8 wh, .int .i64 (S : Int), .iface tz vz, .iface to vo] 81 (0, 0))) := setRow_at' (HM0.out w5 hb5).node
    have HB5 : Hid (Below w.heap.size w (w5.setRow B #[.int .u8 wh, .int .i64 (S : Int), .iface tz vz, .iface to vo])) := setRow_below' (HM0.out w5 hb5).below (by rw [HBB.out]; exact Nat.le_refl _) _
    clear hb5 HM0 HT9
    simp only [fill, Act.put]
    go_simp
    generalize w5.setRow B #[.int .u8 wh, .int .i64 (S : Int), .iface tz vz, .iface to vo] = w6 at *
    obtain ⟨c0, c1, c2, c3⟩ := cells4 HR.out
    clear HR
    go_wp2_with fail
    go_ret
    exact ⟨by rw [HRes.out]; rfl, HB5.out⟩

theorem trim_to (t : T) : Go.Proofs.YtbbgibbpeibhiaaGreatDoor.Count.Node 119 128 t (TrimC t) := by
  induction t with
  | leaf b => exact .inl ⟨_, rfl, end_trim b⟩
  | say a s z o ihz iho => exact .inr ⟨_, rfl, say_trim a s z o ihz iho⟩
end Go.Proofs.YtbbgibbpeibhiaaGreatDoor.TrimI

/-
  A region that draws its order, with four operations that come one after another (each takes what the one before gives, or is chained to it); the others read or only make memory: each walked once.
-/
namespace Go.Proofs.YtbbgibbpeibhiaaGreatDoor.FreeC4
open Go Go.RowKit Go.Proofs.YtbbgibbpeibhiaaGreatDoor.Free Go.Proofs.YtbbgibbpeibhiaaGreatDoor.FreeT Go.Proofs.YtbbgibbpeibhiaaGreatDoor.FreeW
set_option linter.unusedVariables false

section
variable {P : Program} {ops : Array Oper}

set_option maxHeartbeats 2000000 in
theorem wp_region_chain4 {id n : Nat} {a0 : Act} {w0 : World} {Q : Exit → Act → World → Prop} (con : Nat → Value) (kn : Nat → Bool) (s1 s2 s3 s4 d1 d2 d3 d4 : Nat) (o1 o2 o3 o4 : Oper)
    (I0 : World → Prop) (I1 : Value → World → Prop) (I2 : Value → Value → World → Prop) (I3 : Value → World → Prop) (I4 : Value → World → Prop) (J : World → Prop)
    (hm : P.follows .mixedOrders = true) (hB : freeB ops n = true) (hn : a0.tmps.size = n)
    (hs1 : ops[s1]? = some o1) (hd1 : o1.dst = some d1) (hs2 : ops[s2]? = some o2) (hd2 : o2.dst = some d2) (hs3 : ops[s3]? = some o3) (hd3 : o3.dst = some d3) (hs4 : ops[s4]? = some o4) (hd4 : o4.dst = some d4)
    (hk : kn = fun i => !(i == s1) && !(i == s2) && !(i == s3) && !(i == s4)) (hne : [s1, s2, s3, s4].Nodup) (hdd : [d1, d2, d3, d4].Nodup)
    (hdep12 : (∃ e ∈ o2.after, Region.binds .any e = true ∧ e.on = s1) ∨ ∃ (m : Nat) (om : Oper), ops[m]? = some om ∧ (∃ e ∈ o2.after, Region.binds .any e = true ∧ e.on = m) ∧ ∃ e ∈ om.after, Region.binds .any e = true ∧ e.on = s1) (hdep23 : ∃ e ∈ o3.after, Region.binds .any e = true ∧ e.on = s2) (hdep34 : ∃ e ∈ o4.after, Region.binds .any e = true ∧ e.on = s3)
    (hoth : ∀ (i : Nat) (o : Oper), ops[i]? = some o → kn i = true → o.dst ≠ some d1 ∧ o.dst ≠ some d2 ∧ o.dst ≠ some d3 ∧ o.dst ≠ some d4)
    (h0 : I0 { w0 with drawn := w0.drawn + 1 })
    (J0 : ∀ w, I0 w → J w) (J1 : ∀ v w, I1 v w → J w) (J2 : ∀ v u w, I2 v u w → J w) (J3 : ∀ t w, I3 t w → J w) (J4 : ∀ t w, I4 t w → J w)
    (L0 : ∀ w w', Below w.heap.size w w' → I0 w → I0 w') (L1 : ∀ v w w', Below w.heap.size w w' → I1 v w → I1 v w') (L2 : ∀ v u w w', Below w.heap.size w w' → I2 v u w → I2 v u w') (L3 : ∀ t w w', Below w.heap.size w w' → I3 t w → I3 t w') (L4 : ∀ t w w', Below w.heap.size w w' → I4 t w → I4 t w')
    (hcon : ∀ (i : Nat) (o : Oper), ops[i]? = some o → kn i = true → ∀ (a : Act) (w : World), J w → FactsA ops a0 con kn o a →
      o.wp P a w (fun a' w' => a' = a.put o.dst (con i) ∧ Below w.heap.size w w') Q)
    (h1 : ∀ (a : Act) (w : World), I0 w → FactsA ops a0 con kn o1 a → o1.wp P a w (fun a' w' => ∃ v, a' = a.put o1.dst v ∧ I1 v w') Q)
    (h2 : ∀ (a : Act) (w : World) (v : Value), I1 v w → a.tmps[d1]? = some v → FactsA ops a0 con kn o2 a → o2.wp P a w (fun a' w' => ∃ u, a' = a.put o2.dst u ∧ I2 v u w') Q)
    (h3 : ∀ (a : Act) (w : World) (v u : Value), I2 v u w → a.tmps[d1]? = some v → a.tmps[d2]? = some u → FactsA ops a0 con kn o3 a → o3.wp P a w (fun a' w' => ∃ t, a' = a.put o3.dst t ∧ I3 t w') Q)
    (h4 : ∀ (a : Act) (w : World) (t : Value), I3 t w → a.tmps[d3]? = some t → FactsA ops a0 con kn o4 a → o4.wp P a w (fun a' w' => ∃ x, a' = a.put o4.dst x ∧ I4 x w') Q)
    (hend : ∀ (v u t x : Value) (w : World), I4 x w → Q .normal (fill ops.toList (fun i => if i = s1 then v else if i = s2 then u else if i = s3 then t else if i = s4 then x else con i) 0 a0) w) : (Code.region id ops true).wp P Q a0 w0 := by
  have hB2 := hB
  simp only [freeB, Bool.and_eq_true, decide_eq_true_eq] at hB2
  obtain ⟨⟨q1, q2⟩, _⟩ := hB2
  have hdn : ∀ (o : Oper) (k : Tmp), o ∈ ops.toList → o.dst = some k → k < n := fun o k ho hk => by
    have := List.all_eq_true.1 q1 o ho
    simp only [Bool.and_eq_true, hk] at this
    simpa using this.2
  have hd1n : d1 < n := hdn o1 d1 (by simpa using Array.mem_of_getElem? hs1) hd1
  have hd2n : d2 < n := hdn o2 d2 (by simpa using Array.mem_of_getElem? hs2) hd2
  have hd3n : d3 < n := hdn o3 d3 (by simpa using Array.mem_of_getElem? hs3) hd3
  have hd4n : d4 < n := hdn o4 d4 (by simpa using Array.mem_of_getElem? hs4) hd4
  obtain ⟨n12, n13, n14, n23, n24, n34⟩ : s1 ≠ s2 ∧ s1 ≠ s3 ∧ s1 ≠ s4 ∧ s2 ≠ s3 ∧ s2 ≠ s4 ∧ s3 ≠ s4 := by
    simp only [List.nodup_cons, List.mem_cons, List.not_mem_nil, or_false, not_or] at hne
    exact ⟨hne.1.1, hne.1.2.1, hne.1.2.2, hne.2.1.1, hne.2.1.2, hne.2.2.1⟩
  obtain ⟨m12, m13, m14, m23, m24, m34⟩ : d1 ≠ d2 ∧ d1 ≠ d3 ∧ d1 ≠ d4 ∧ d2 ≠ d3 ∧ d2 ≠ d4 ∧ d3 ≠ d4 := by
    simp only [List.nodup_cons, List.mem_cons, List.not_mem_nil, or_false, not_or] at hdd
    exact ⟨hdd.1.1, hdd.1.2.1, hdd.1.2.2, hdd.2.1.1, hdd.2.1.2, hdd.2.2.1⟩
  have hkt : ∀ i, kn i = true ↔ i ≠ s1 ∧ i ≠ s2 ∧ i ≠ s3 ∧ i ≠ s4 := fun i => by
    rw [hk]; simp [and_assoc]
  let Y : Nat → Value → Act → World → Prop := fun i v a w => kn i = true → v = con i
  let S : (Nat → Bool) → Act → World → Prop := fun g a w =>
    (g s1 = false ∧ g s2 = false ∧ g s3 = false ∧ g s4 = false ∧ I0 w) ∨
    (g s1 = true ∧ g s2 = false ∧ g s3 = false ∧ g s4 = false ∧ ∃ v, a.tmps[d1]? = some v ∧ I1 v w) ∨
    (g s1 = true ∧ g s2 = true ∧ g s3 = false ∧ g s4 = false ∧ ∃ v u, a.tmps[d1]? = some v ∧ a.tmps[d2]? = some u ∧ I2 v u w) ∨
    (g s1 = true ∧ g s2 = true ∧ g s3 = true ∧ g s4 = false ∧ ∃ t, a.tmps[d3]? = some t ∧ I3 t w) ∨
    (g s1 = true ∧ g s2 = true ∧ g s3 = true ∧ g s4 = true ∧ ∃ x, a.tmps[d4]? = some x ∧ I4 x w)
  have facts : ∀ (listed : Array Bool) (o : Oper) (a : Act) (w : World), MidA ops a0 Y S listed a w → (∀ e ∈ o.after, Region.binds .any e = true → listed.getD e.on false = true) → FactsA ops a0 con kn o a := by
    intro listed o a w hM hdl
    refine ⟨fun e he hb oj dj hoj hdj hkn => ?_, fun k hk => ?_⟩
    · obtain ⟨v, hv, hvd⟩ := hM.new e.on oj hoj (hdl e he hb)
      rw [hvd dj hdj, ← hv hkn]
      rfl
    · rw [hM.old k fun i o' ho' hd' => ?_]
      have := List.all_eq_true.1 hk o' (by simpa using Array.mem_of_getElem? ho')
      simp [hd'] at this
  refine wp_region_freeA (Y := Y) (S := S) hm hB hn (.inl ⟨rfl, rfl, rfl, rfl, h0⟩) ?_ ?_
  · intro i o ho listed a w hM hu hdl
    have hF := facts listed o a w hM hdl
    have hW := hM.world
    have hsz : a.tmps.size = n := hM.size.trans hn
    have hput : ∀ (d : Nat) (v : Value), d < n → (a.put (some d) v).tmps[d]? = some v := fun d v hd => by simp [Act.put, hsz, hd]
    by_cases e1 : i = s1
    · subst e1
      obtain rfl : o = o1 := Option.some.inj (ho.symm.trans hs1)
      rcases hW with ⟨l1, l2, l3, l4, hI⟩ | ⟨l1, _⟩ | ⟨l1, _⟩ | ⟨l1, _⟩ | ⟨l1, _⟩
      · refine Oper.wp_mono ?_ (h1 a w hI hF)
        rintro a' w' ⟨v, rfl, hv⟩
        refine ⟨v, rfl, fun h => absurd rfl ((hkt _).1 h).1, .inr (.inl ⟨by simp, ?_, ?_, ?_, v, by rw [hd1]; exact hput d1 v hd1n, hv⟩), fun j u _ _ hY => hY⟩
        · show (if s2 = i then true else listed.getD s2 false) = false
          rw [if_neg (Ne.symm n12)]; exact l2
        · show (if s3 = i then true else listed.getD s3 false) = false
          rw [if_neg (Ne.symm n13)]; exact l3
        · show (if s4 = i then true else listed.getD s4 false) = false
          rw [if_neg (Ne.symm n14)]; exact l4
      all_goals
        have l1' : listed.getD i false = true := l1
        rw [hu] at l1'
        cases l1'
    by_cases e2 : i = s2
    · subst e2
      obtain rfl : o = o2 := Option.some.inj (ho.symm.trans hs2)
      have hl1 : listed.getD s1 false = true := by
        rcases hdep12 with ⟨e, he, hb, heq⟩ | ⟨m, om, hm', ⟨e, he, hb, heq⟩, e', he', hb', heq'⟩
        · have h := hdl e he hb
          rw [heq] at h
          exact h
        · have h := hdl e he hb
          rw [heq] at h
          have h' := hM.closed m om hm' h e' he' hb'
          rw [heq'] at h'
          exact h'
      rcases hW with ⟨l1, _⟩ | ⟨l1, l2, l3, l4, v, hv, hI⟩ | ⟨l1, l2, _⟩ | ⟨l1, l2, _⟩ | ⟨l1, l2, _⟩
      · have l1' : listed.getD s1 false = false := l1
        rw [hl1] at l1'
        cases l1'
      · refine Oper.wp_mono ?_ (h2 a w v hI hv hF)
        rintro a' w' ⟨u, rfl, hu'⟩
        refine ⟨u, rfl, fun h => absurd rfl ((hkt _).1 h).2.1, .inr (.inr (.inl ⟨?_, by simp, ?_, ?_, v, u, ?_, by rw [hd2]; exact hput d2 u hd2n, hu'⟩)), fun j u _ _ hY => hY⟩
        · show (if s1 = i then true else listed.getD s1 false) = true
          rw [if_neg n12]; exact hl1
        · show (if s3 = i then true else listed.getD s3 false) = false
          rw [if_neg (Ne.symm n23)]; exact l3
        · show (if s4 = i then true else listed.getD s4 false) = false
          rw [if_neg (Ne.symm n24)]; exact l4
        · rw [put_other (by rw [hd2]; simp; omega)]; exact hv
      all_goals
        have l2' : listed.getD i false = true := l2
        rw [hu] at l2'
        cases l2'
    by_cases e3 : i = s3
    · subst e3
      obtain rfl : o = o3 := Option.some.inj (ho.symm.trans hs3)
      obtain ⟨e, he, hb, heq⟩ := hdep23
      have hl2 := hdl e he hb
      rw [heq] at hl2
      rcases hW with ⟨l1, l2, _⟩ | ⟨l1, l2, _⟩ | ⟨l1, l2, l3, l4, v, u, hv, hu2, hI⟩ | ⟨l1, l2, l3, _⟩ | ⟨l1, l2, l3, _⟩
      · have l2' : listed.getD s2 false = false := l2
        rw [hl2] at l2'
        cases l2'
      · have l2' : listed.getD s2 false = false := l2
        rw [hl2] at l2'
        cases l2'
      · refine Oper.wp_mono ?_ (h3 a w v u hI hv hu2 hF)
        rintro a' w' ⟨t, rfl, ht⟩
        refine ⟨t, rfl, fun h => absurd rfl ((hkt _).1 h).2.2.1, .inr (.inr (.inr (.inl ⟨?_, ?_, by simp, ?_, t, by rw [hd3]; exact hput d3 t hd3n, ht⟩))), fun j u _ _ hY => hY⟩
        · show (if s1 = i then true else listed.getD s1 false) = true
          rw [if_neg n13]; exact l1
        · show (if s2 = i then true else listed.getD s2 false) = true
          rw [if_neg n23]; exact hl2
        · show (if s4 = i then true else listed.getD s4 false) = false
          rw [if_neg (Ne.symm n34)]; exact l4
      all_goals
        have l3' : listed.getD i false = true := l3
        rw [hu] at l3'
        cases l3'
    by_cases e4 : i = s4
    · subst e4
      obtain rfl : o = o4 := Option.some.inj (ho.symm.trans hs4)
      obtain ⟨e, he, hb, heq⟩ := hdep34
      have hl3 := hdl e he hb
      rw [heq] at hl3
      rcases hW with ⟨l1, l2, l3, _⟩ | ⟨l1, l2, l3, _⟩ | ⟨l1, l2, l3, _⟩ | ⟨l1, l2, l3, l4, t, ht, hI⟩ | ⟨l1, l2, l3, l4, _⟩
      · have l3' : listed.getD s3 false = false := l3
        rw [hl3] at l3'
        cases l3'
      · have l3' : listed.getD s3 false = false := l3
        rw [hl3] at l3'
        cases l3'
      · have l3' : listed.getD s3 false = false := l3
        rw [hl3] at l3'
        cases l3'
      · refine Oper.wp_mono ?_ (h4 a w t hI ht hF)
        rintro a' w' ⟨x, rfl, hx⟩
        refine ⟨x, rfl, fun h => absurd rfl ((hkt _).1 h).2.2.2, .inr (.inr (.inr (.inr ⟨?_, ?_, ?_, by simp, x, by rw [hd4]; exact hput d4 x hd4n, hx⟩))), fun j u _ _ hY => hY⟩
        · show (if s1 = i then true else listed.getD s1 false) = true
          rw [if_neg n14]; exact l1
        · show (if s2 = i then true else listed.getD s2 false) = true
          rw [if_neg n24]; exact l2
        · show (if s3 = i then true else listed.getD s3 false) = true
          rw [if_neg n34]; exact hl3
      · have l4' : listed.getD i false = true := l4
        rw [hu] at l4'
        cases l4'
    have hki : kn i = true := (hkt i).2 ⟨e1, e2, e3, e4⟩
    obtain ⟨x1, x2, x3, x4⟩ := hoth i o ho hki
    have hJ : J w := by
      rcases hW with ⟨_, _, _, _, hI⟩ | ⟨_, _, _, _, v, _, hI⟩ | ⟨_, _, _, _, v, u, _, _, hI⟩ | ⟨_, _, _, _, t, _, hI⟩ | ⟨_, _, _, _, t, _, hI⟩
      · exact J0 w hI
      · exact J1 v w hI
      · exact J2 v u w hI
      · exact J3 t w hI
      · exact J4 t w hI
    refine Oper.wp_mono ?_ (hcon i o ho hki a w hJ hF)
    rintro a' w' ⟨rfl, hbl⟩
    refine ⟨con i, rfl, fun _ => rfl, ?_, fun j u _ _ hY => hY⟩
    have g1 : (if s1 = i then true else listed.getD s1 false) = listed.getD s1 false := if_neg (Ne.symm e1)
    have g2 : (if s2 = i then true else listed.getD s2 false) = listed.getD s2 false := if_neg (Ne.symm e2)
    have g3 : (if s3 = i then true else listed.getD s3 false) = listed.getD s3 false := if_neg (Ne.symm e3)
    have g4 : (if s4 = i then true else listed.getD s4 false) = listed.getD s4 false := if_neg (Ne.symm e4)
    show ((if s1 = i then true else listed.getD s1 false) = false ∧ (if s2 = i then true else listed.getD s2 false) = false ∧ (if s3 = i then true else listed.getD s3 false) = false ∧ (if s4 = i then true else listed.getD s4 false) = false ∧ I0 w') ∨
      ((if s1 = i then true else listed.getD s1 false) = true ∧ (if s2 = i then true else listed.getD s2 false) = false ∧ (if s3 = i then true else listed.getD s3 false) = false ∧ (if s4 = i then true else listed.getD s4 false) = false ∧ ∃ v, (a.put o.dst (con i)).tmps[d1]? = some v ∧ I1 v w') ∨
      ((if s1 = i then true else listed.getD s1 false) = true ∧ (if s2 = i then true else listed.getD s2 false) = true ∧ (if s3 = i then true else listed.getD s3 false) = false ∧ (if s4 = i then true else listed.getD s4 false) = false ∧ ∃ v u, (a.put o.dst (con i)).tmps[d1]? = some v ∧ (a.put o.dst (con i)).tmps[d2]? = some u ∧ I2 v u w') ∨
      ((if s1 = i then true else listed.getD s1 false) = true ∧ (if s2 = i then true else listed.getD s2 false) = true ∧ (if s3 = i then true else listed.getD s3 false) = true ∧ (if s4 = i then true else listed.getD s4 false) = false ∧ ∃ t, (a.put o.dst (con i)).tmps[d3]? = some t ∧ I3 t w') ∨
      ((if s1 = i then true else listed.getD s1 false) = true ∧ (if s2 = i then true else listed.getD s2 false) = true ∧ (if s3 = i then true else listed.getD s3 false) = true ∧ (if s4 = i then true else listed.getD s4 false) = true ∧ ∃ x, (a.put o.dst (con i)).tmps[d4]? = some x ∧ I4 x w')
    rw [g1, g2, g3, g4, put_other x1, put_other x2, put_other x3, put_other x4]
    rcases hW with ⟨l1, l2, l3, l4, hI⟩ | ⟨l1, l2, l3, l4, v, hv, hI⟩ | ⟨l1, l2, l3, l4, v, u, hv, hu2, hI⟩ | ⟨l1, l2, l3, l4, t, ht, hI⟩ | ⟨l1, l2, l3, l4, t, ht, hI⟩
    · exact .inl ⟨l1, l2, l3, l4, L0 w w' hbl hI⟩
    · exact .inr (.inl ⟨l1, l2, l3, l4, v, hv, L1 v w w' hbl hI⟩)
    · exact .inr (.inr (.inl ⟨l1, l2, l3, l4, v, u, hv, hu2, L2 v u w w' hbl hI⟩))
    · exact .inr (.inr (.inr (.inl ⟨l1, l2, l3, l4, t, ht, L3 t w w' hbl hI⟩)))
    · exact .inr (.inr (.inr (.inr ⟨l1, l2, l3, l4, t, ht, L4 t w w' hbl hI⟩)))
  · intro vs w hS hall
    have hlt : ∀ (s : Nat) (o : Oper), ops[s]? = some o → decide (s < ops.size) = true := fun s o h => decide_eq_true (Array.getElem?_eq_some_iff.1 h).1
    have f4 : (fill ops.toList vs 0 a0).tmps[d4]? = some (vs s4) := by rw [fill_at d4 ops.toList vs 0 a0 s4 o4 (by simpa using hs4) hd4 q2 (by rw [hn]; exact hd4n), Nat.zero_add]
    rcases hS with ⟨l1, _⟩ | ⟨_, l2, _⟩ | ⟨_, _, l3, _⟩ | ⟨_, _, _, l4, _⟩ | ⟨_, _, _, _, x, hx, hI⟩
    · have l1' : decide (s1 < ops.size) = false := l1
      rw [hlt s1 o1 hs1] at l1'
      cases l1'
    · have l2' : decide (s2 < ops.size) = false := l2
      rw [hlt s2 o2 hs2] at l2'
      cases l2'
    · have l3' : decide (s3 < ops.size) = false := l3
      rw [hlt s3 o3 hs3] at l3'
      cases l3'
    · have l4' : decide (s4 < ops.size) = false := l4
      rw [hlt s4 o4 hs4] at l4'
      cases l4'
    · rw [f4] at hx
      obtain rfl := Option.some.inj hx
      have hc := hend (vs s1) (vs s2) (vs s3) (vs s4) w hI
      rw [fill_congr ops.toList vs (fun i => if i = s1 then vs s1 else if i = s2 then vs s2 else if i = s3 then vs s3 else if i = s4 then vs s4 else con i) 0 a0 (fun i hi => ?_)]
      · exact hc
      · rw [Nat.zero_add]
        show vs i = if i = s1 then vs s1 else if i = s2 then vs s2 else if i = s3 then vs s3 else if i = s4 then vs s4 else con i
        by_cases e1 : i = s1
        · rw [if_pos e1, e1]
        by_cases e2 : i = s2
        · rw [if_neg e1, if_pos e2, e2]
        by_cases e3 : i = s3
        · rw [if_neg e1, if_neg e2, if_pos e3, e3]
        by_cases e4 : i = s4
        · rw [if_neg e1, if_neg e2, if_neg e3, if_pos e4, e4]
        rw [if_neg e1, if_neg e2, if_neg e3, if_neg e4]
        have hi' : i < ops.size := by simpa using hi
        exact hall i ops[i] (by simp [hi']) ((hkt i).2 ⟨e1, e2, e3, e4⟩)
end
end Go.Proofs.YtbbgibbpeibhiaaGreatDoor.FreeC4

