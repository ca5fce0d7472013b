/-
  Texts of one seat, joined: GCountN, GAppendTo.
-/
import Derived.Test.YtbccachkkflceaaGreatDoorJn1
import Derived.Test.YtbccachkkflceaaGreatDoorJn20
import Derived.Test.YtbccachkkflceaaGreatDoorJn9
import Derived.Test.YtbccachkkflceaaGreatDoorJn13
import Derived.Test.YtbccachkkflceaaGreatDoorJn14
/-
  What is said of a method of a node.
-/
namespace Go.Proofs.YtbccachkkflceaaGreatDoor.Count
open Go.RowKit Go.Shelf Go.Proofs.YtbccachkkflceaaGreatDoor.Plain Go.Proofs.YtbccachkkflceaaGreatDoor.Tree Go.Proofs.YtbccachkkflceaaGreatDoor.Hex Go.Proofs.YtbccachkkflceaaGreatDoor.Read
open Go.Proofs.YtbccachkkflceaaGreatDoor.Wq (WQ wq_step wq_nil region_kept drew_at)
set_option linter.unusedVariables false
set_option linter.unusedSimpArgs false

/-- a method of a node: its receiver's kind, and what is said of the call -/
def Node (fe fs : FuncId) (t : T) (C : FuncId → Value → Prop) : Prop :=
  (∃ V, tree t = .iface 65 V ∧ C fe V) ∨ (∃ V, tree t = .iface 72 V ∧ C fs V)
theorem cells4 {w : World} {b : Nat} {c0 c1 c2 c3 : Value} {ty : TypeId} (h : w.heap[b]? = some (.cells #[c0, c1, c2, c3] ty (0, 0))) : w.cell? ⟨b, 0, none⟩ = some c0 ∧ w.cell? ⟨b, 1, none⟩ = some c1 ∧ w.cell? ⟨b, 2, none⟩ = some c2 ∧ w.cell? ⟨b, 3, none⟩ = some c3 :=
  ⟨cell_of_row _ _ 0 _ _ _ h, cell_of_row _ _ 1 _ _ _ h, cell_of_row _ _ 2 _ _ _ h, cell_of_row _ _ 3 _ _ _ h⟩

end Go.Proofs.YtbccachkkflceaaGreatDoor.Count

/-
  The text of the program's trees: each method appends to a slice that grows.
-/
namespace Go.Proofs.YtbccachkkflceaaGreatDoor.AppendTo
open Go.RowKit Go.Shelf Go.Proofs.YtbccachkkflceaaGreatDoor.Plain Go.Proofs.YtbccachkkflceaaGreatDoor.Tree Go.Proofs.YtbccachkkflceaaGreatDoor.Hex Go.Proofs.YtbccachkkflceaaGreatDoor.Read Go.Proofs.YtbccachkkflceaaGreatDoor.App
open Go.Proofs.YtbccachkkflceaaGreatDoor.Count (Node cells4)
open Go.Proofs.YtbccachkkflceaaGreatDoor.Wq (drew_at)
open Go.Proofs.YtbccachkkflceaaGreatDoor.Free (fill wp_value wp_enter wp_load_row freeB)
open Go.Proofs.YtbccachkkflceaaGreatDoor.FreeC Go.Proofs.YtbccachkkflceaaGreatDoor.FreeW
set_option linter.unusedVariables false
set_option linter.unusedSimpArgs false

/-- bytes as cells -/
def cellsU (l : List UInt8) : List Value := l.map fun u => .int .u8 (u.toNat : Int)
theorem cellsU_append (l m : List UInt8) : cellsU (l ++ m) = cellsU l ++ cellsU m := by simp [cellsU]
/-- blocks that are no rows of bytes stay as they are -/
def KeepsU (w w' : World) : Prop := w.heap.size ≤ w'.heap.size ∧ ∀ k, k < w.heap.size → (∀ cur fr, w.heap[k]? ≠ some (.cells cur 5 fr)) → w'.heap[k]? = w.heap[k]?
theorem KeepsU.refl (w : World) : KeepsU w w := ⟨Nat.le_refl _, fun _ _ _ => rfl⟩
theorem KeepsU.trans {a b c : World} (h : KeepsU a b) (g : KeepsU b c) : KeepsU a c :=
  ⟨Nat.le_trans h.1 g.1, fun k hk hn => (g.2 k (Nat.lt_of_lt_of_le hk h.1) (by rw [h.2 k hk hn]; exact hn)).trans (h.2 k hk hn)⟩
theorem KeepsU.of_below {w w' : World} (h : Below w.heap.size w w') : KeepsU w w' := ⟨h.size, fun k hk _ => h.block k hk⟩
theorem KeepsU.of_grown {w w' : World} {v : Value} {base n : Nat} {xs : List Value} (ho : w.ownsRow base 5 1 v n xs) (h : w.grownBy w' v.ownBlock) : KeepsU w w' := by
  refine ⟨h.size, fun k hk hn => h.block k hk fun e => ?_⟩
  rcases ho.2 with ⟨rfl, _⟩ | ⟨g, cap, cur, rfl, _, h2, _⟩
  · simp [Value.ownBlock] at e
  · simp [Value.ownBlock] at e
    subst e
    exact hn _ _ h2
/-- a block of a node stays -/
theorem KeepsU.row {w w' : World} (h : KeepsU w w') {B : Nat} {cs : Array Value} (hB : w.heap[B]? = some (.cells cs 72 (0, 0))) : w'.heap[B]? = some (.cells cs 72 (0, 0)) := by
  rw [h.2 B (Array.getElem?_eq_some_iff.1 hB).1 (fun cur fr e => by rw [hB] at e; cases e)]
  exact hB
theorem wp_enterR {o : Oper} {a : Act} {w : World} {K : Act → World → Prop} {Q : Exit → Act → World → Prop} {R : Value → World → Prop} (f : FuncId) (args : Array Value) (h : (execOp a.eval o).run Tryz.prog w = .ok (.enter f args) w)
    (hc : Calls Tryz.prog f args w fun e w' => ∃ v, e = .returned v ∧ R v w') (hK : ∀ v w', R v w' → K (a.put o.dst v) w') : o.wp Tryz.prog a w K Q := by
  unfold Oper.wp
  rw [h]
  refine Calls.mono hc ?_
  rintro e w' ⟨v, rfl, hR⟩
  exact hK v w' hR
theorem get_some {a : Act} {d : Tmp} {v : Value} (h : a.tmps[d]? = some v) : a.tmps[d]?.getD undef = v := by rw [h]; rfl
theorem wp_valueW {o : Oper} {a : Act} {w : World} {K : Act → World → Prop} {Q : Exit → Act → World → Prop} (v : Value) (w' : World) (h : (execOp a.eval o).run Tryz.prog w = .ok (.value v) w') (hK : K (a.put o.dst v) w') : o.wp Tryz.prog a w K Q := by
  unfold Oper.wp
  rw [h]
  exact hK
theorem eval_get {a : Act} {d : Tmp} {v : Value} (h : a.tmps[d]?.getD undef = v) : a.eval (.tmp d) = v := by
  rw [← h]
  show a.tmps.getD d undef = _
  simp [Array.getD_eq_getD_getElem?]
theorem eval_some {a : Act} {d : Tmp} {v : Value} (h : a.tmps[d]? = some v) : a.eval (.tmp d) = v := eval_get (by rw [h]; rfl)
def AppC (t : T) (f : FuncId) (V : Value) : Prop := ∀ (w0 W : World) (v : Value) (n : Nat) (xs : List Value), Own w0 W 5 1 v n xs → n + (text t).length ≤ 8000000 →
  Calls Tryz.prog f #[V, v] W fun e w' => ∃ v', e = .returned v' ∧ Own w0 w' 5 1 v' (n + (text t).length) (xs ++ cellsU (text t)) ∧ KeepsU W w'

theorem cells_list {w : World} (cs : List Value) (ty : TypeId) : ∀ j u, cs[j]? = some u → (w.alloc (.cells cs.toArray ty)).cell? ((⟨w.heap.size, 0, none⟩ : Addr).add j) = some u := by
  intro j u hj
  have h := cell_of_row (w.alloc (.cells cs.toArray ty)) w.heap.size j cs.toArray ty (0, 0) (heap_alloc_new w _)
  have e : ((⟨w.heap.size, 0, none⟩ : Addr).add j) = ⟨w.heap.size, j, none⟩ := by
    simp [Addr.add]
    try exact fun h => h.symm
  rw [e, h]
  simpa using hj
set_option maxRecDepth 100000 in
theorem info_u8 : ∃ i, Tryz.prog.info? 5 = some i ∧ i.zero = some (.int .u8 0) ∧ i.size = 1 ∧ i.bytes = 1 := ⟨_, rfl, rfl, rfl, rfl⟩
theorem Own.drew {w0 w : World} {e : TypeId} {k n : Nat} {v : Value} {xs : List Value} (h : Own w0 w e k v n xs) : Own w0 w.drew e k v n xs := h.later (drew_at w)

set_option maxHeartbeats 2000000 in
set_option maxRecDepth 100000 in
theorem end_app_0 : AppC (.leaf .v0) 134 (.int .i64 (gI .v0)) := by
  intro w0 W v n xs hO hn
  have hn2 : n ≤ 8000000 := by omega
  obtain ⟨i0, hi, hz0, hz1, hz2⟩ := info_u8
  have HO := Lib.hid hO
  clear hn hO
  rw [show gI .v0 = 0 from rfl]
  go_enter Tryz.func134, Tryz.ntmps134
  go_wp2_with (at_builtin; have HH := HO.out; refine wpList_append_own _ rfl (.tmp 5) (.tmp 9) 22 rfl w0.heap.size 5 i0 (.int .u8 0) 1 1 Tryz.underlying22 hi hz0 hz1 hz2 rfl (by decide) _ _ _ rfl (HH.row.alloc _) ⟨W.heap.size, 0, none⟩ 1 1 [.int .u8 48] rfl rfl ?c1 ?c2 ?c3 ?c4 ?c5 ?c6; go_must (case c1 => exact (cells_list [.int .u8 48] _)); go_must (case c2 => simp [Value.oneCell']); go_must (case c3 => (unfold maxLen; omega)); go_must (case c4 => omega); go_must (case c5 => (have := HH.below.size; simp at this ⊢; omega)); go_must (clear HH; intro v3 w3 hown3 hgrow3 _; have HK := Lib.hid ((KeepsU.of_below ((Below.refl _ _).alloc (Nat.le_refl _) _)).trans (KeepsU.of_grown (HO.out.row.alloc _) hgrow3)); have H3 := Lib.hid (Own.next HO.out _ hown3 hgrow3); clear HO hown3 hgrow3))
  go_wp2_with fail
  go_ret
  exact ⟨v3, rfl, H3.out, HK.out⟩
set_option maxHeartbeats 2000000 in
set_option maxRecDepth 100000 in
theorem end_app_1 : AppC (.leaf .v1) 134 (.int .i64 (gI .v1)) := by
  intro w0 W v n xs hO hn
  have hn2 : n ≤ 8000000 := by omega
  obtain ⟨i0, hi, hz0, hz1, hz2⟩ := info_u8
  have HO := Lib.hid hO
  clear hn hO
  rw [show gI .v1 = 1 from rfl]
  go_enter Tryz.func134, Tryz.ntmps134
  go_wp2_with (at_builtin; have HH := HO.out; refine wpList_append_own _ rfl (.tmp 5) (.tmp 9) 22 rfl w0.heap.size 5 i0 (.int .u8 0) 1 1 Tryz.underlying22 hi hz0 hz1 hz2 rfl (by decide) _ _ _ rfl (HH.row.alloc _) ⟨W.heap.size, 0, none⟩ 1 1 [.int .u8 49] rfl rfl ?c1 ?c2 ?c3 ?c4 ?c5 ?c6; go_must (case c1 => exact (cells_list [.int .u8 49] _)); go_must (case c2 => simp [Value.oneCell']); go_must (case c3 => (unfold maxLen; omega)); go_must (case c4 => omega); go_must (case c5 => (have := HH.below.size; simp at this ⊢; omega)); go_must (clear HH; intro v3 w3 hown3 hgrow3 _; have HK := Lib.hid ((KeepsU.of_below ((Below.refl _ _).alloc (Nat.le_refl _) _)).trans (KeepsU.of_grown (HO.out.row.alloc _) hgrow3)); have H3 := Lib.hid (Own.next HO.out _ hown3 hgrow3); clear HO hown3 hgrow3))
  go_wp2_with fail
  go_ret
  exact ⟨v3, rfl, H3.out, HK.out⟩

set_option maxHeartbeats 2000000 in
set_option maxRecDepth 100000 in
theorem end_app_2 : AppC (.leaf .v2) 134 (.int .i64 (gI .v2)) := by
  intro w0 W v n xs hO hn
  have hn2 : n ≤ 8000000 := by omega
  obtain ⟨i0, hi, hz0, hz1, hz2⟩ := info_u8
  have HO := Lib.hid hO
  clear hn hO
  rw [show gI .v2 = 2 from rfl]
  go_enter Tryz.func134, Tryz.ntmps134
  go_wp2_with (at_builtin; have HH := HO.out; refine wpList_append_own _ rfl (.tmp 5) (.tmp 9) 22 rfl w0.heap.size 5 i0 (.int .u8 0) 1 1 Tryz.underlying22 hi hz0 hz1 hz2 rfl (by decide) _ _ _ rfl (HH.row.alloc _) ⟨W.heap.size, 0, none⟩ 1 1 [.int .u8 50] rfl rfl ?c1 ?c2 ?c3 ?c4 ?c5 ?c6; go_must (case c1 => exact (cells_list [.int .u8 50] _)); go_must (case c2 => simp [Value.oneCell']); go_must (case c3 => (unfold maxLen; omega)); go_must (case c4 => omega); go_must (case c5 => (have := HH.below.size; simp at this ⊢; omega)); go_must (clear HH; intro v3 w3 hown3 hgrow3 _; have HK := Lib.hid ((KeepsU.of_below ((Below.refl _ _).alloc (Nat.le_refl _) _)).trans (KeepsU.of_grown (HO.out.row.alloc _) hgrow3)); have H3 := Lib.hid (Own.next HO.out _ hown3 hgrow3); clear HO hown3 hgrow3))
  go_wp2_with fail
  go_ret
  exact ⟨v3, rfl, H3.out, HK.out⟩

theorem end_app (b : V3) : AppC (.leaf b) 134 (.int .i64 (gI b)) := by
  cases b
  · exact end_app_0
  · exact end_app_1
  · exact end_app_2

/-- a digit of 16 values, as the program looks it up -/
theorem hex_at (d : Nat) (h : d < 16) (h2 : d < (⟨#[48, 49, 50, 51, 52, 53, 54, 55, 56, 57, 97, 98, 99, 100, 101, 102]⟩ : ByteArray).size) : ((⟨#[48, 49, 50, 51, 52, 53, 54, 55, 56, 57, 97, 98, 99, 100, 101, 102]⟩ : ByteArray)[d]'h2).toNat = (hexD d).toNat := by
  have e : ∀ k : Fin 16, ((⟨#[48, 49, 50, 51, 52, 53, 54, 55, 56, 57, 97, 98, 99, 100, 101, 102]⟩ : ByteArray)[k.1]'(by have := k.2; exact this)).toNat = (hexD k.1).toNat := by decide
  exact e ⟨d, h⟩
set_option maxHeartbeats 4000000 in
set_option maxRecDepth 100000 in
theorem say_app (a : Bool) (s : Nat) (hs : s < 256) (z o : T) (hZ : Go.Proofs.YtbccachkkflceaaGreatDoor.Count.Node 134 147 z (AppC z)) (hO : Go.Proofs.YtbccachkkflceaaGreatDoor.Count.Node 134 147 o (AppC o)) :
    AppC (.say a s z o) 147 (.agg #[.int .u8 ((whoB a).toNat : Int), .int .i64 (s : Int), tree z, tree o]) := by
  intro w0 W v n xs hO0 hn
  have hlz : (text (.say a s z o)).length = (text z).length + (text o).length + 3 := by simp [text]
  have hz3 : cellsU (text (.say a s z o)) = [.int .u8 ((whoB a).toNat : Int), .int .u8 ((hexD (s / 16)).toNat : Int), .int .u8 ((hexD (s % 16)).toNat : Int)] ++ cellsU (text z) ++ cellsU (text o) := by simp [text, cellsU]
  have H3C := Lib.hid hz3
  have HLN := Lib.hid hlz
  have hn2 : n ≤ 8000000 := by omega
  have hn3 : n + 3 ≤ 8000000 := by omega
  have hn4 : n + 3 + (text z).length ≤ 8000000 := by omega
  have hn5 : n + 3 + (text z).length + (text o).length ≤ 8000000 := by omega
  obtain ⟨i0, hi, hz0, hz1, hz2⟩ := info_u8
  obtain ⟨d1, hd1⟩ : ∃ d, s / 16 = d := ⟨_, rfl⟩
  obtain ⟨d2, hd2⟩ : ∃ d, s % 16 = d := ⟨_, rfl⟩
  have g1 : d1 < 16 := by omega
  have g2 : d2 < 16 := by omega
  rw [hd1, hd2] at H3C
  have hq : IntKind.i64.wrap ((s : Int) / 16) = (d1 : Int) := by simp only [IntKind.wrap_i64]; omega
  have hm : (s : Int).tmod 16 = (d2 : Int) := by rw [Int.tmod_eq_emod_of_nonneg (by omega)]; omega
  have hx1 := hex_at d1 g1 g1
  have hx2 := hex_at d2 g2 g2
  generalize hexD d1 = D1 at *
  generalize hexD d2 = D2 at *
  have HO0 := Lib.hid hO0
  obtain ⟨wh, hwh⟩ : ∃ wh, ((whoB a).toNat : Int) = wh := ⟨_, rfl⟩
  rw [hwh] at H3C ⊢
  unfold AppC at hZ hO
  generalize (text z).length = lz at *
  generalize (text o).length = lo at *
  generalize cellsU (text z) = cz at *
  generalize cellsU (text o) = co at *
  generalize (text (.say a s z o)).length = ls at *
  generalize cellsU (text (.say a s z o)) = cs at *
  clear hn hO0 hz3 hlz hwh hd1 hd2
  obtain ⟨B, hB⟩ : ∃ B, W.heap.size = B := ⟨_, rfl⟩
  have HBB := Lib.hid hB
  rcases hZ with ⟨V, ez, hz⟩ | ⟨V, ez, hz⟩ <;> rcases hO with ⟨U, eo, ho⟩ | ⟨U, eo, ho⟩
  · have HZ := Lib.hid hz
    have HO := Lib.hid ho
    rw [ez, eo]
    clear ez eo hz ho
    go_enter Tryz.func147, Tryz.ntmps147
    go_wp2_with fail
    obtain ⟨W1, hW1⟩ : ∃ W1, W.alloc (.cells #[.int .u8 wh, .int .i64 (s : Int), .iface 65 V, .iface 65 U] 72) = W1 := ⟨_, rfl⟩
    rw [hW1]
    have HM0 : Hid (W1.heap[B]? = some (.cells #[.int .u8 wh, .int .i64 (s : Int), .iface 65 V, .iface 65 U] 72 (0, 0))) := by show _ = _; rw [← hW1, ← HBB.out]; exact heap_alloc_new W _
    have HO1 : Hid (Own w0 W1 5 1 v n xs) := by show Own _ _ _ _ _ _ _; rw [← hW1]; exact HO0.out.later ((Below.refl _ _).alloc (Nat.le_refl _) _)
    have HKW0 : Hid (KeepsU W W1) := by show KeepsU _ _; rw [← hW1]; exact KeepsU.of_below ((Below.refl _ _).alloc (Nat.le_refl _) _)
    clear hW1 HO0
    obtain ⟨c0, c1, c2, c3⟩ := cells4 HM0.out
    clear c0 c1 c2 c3
    have HKW : Hid (KeepsU W W1) := HKW0
    have hcell := fun (w2 : World) (h : w2.heap[B]? = some (.cells #[.int .u8 wh, .int .i64 (s : Int), .iface 65 V, .iface 65 U] 72 (0, 0))) => cells4 h
    refine wp_region_chain3 (fun | 0 => v | 1 => .pointer (some ⟨B, 0, none⟩) | 2 => .int .u8 wh | 3 => .pointer (some ⟨B, 1, none⟩) | 4 => .int .i64 (s : Int) | 5 => .int .i64 (d1 : Int) | 6 => .int .u8 (D1.toNat : Int) | 7 => .pointer (some ⟨B, 1, none⟩) | 8 => .int .i64 (s : Int) | 9 => .int .i64 (d2 : Int) | 10 => .int .u8 (D2.toNat : Int) | _ => undef) (fun i => !(i == 11) && !(i == 12) && !(i == 13)) 11 12 13 16 17 1 _ _ _
      (fun w => w.heap[B]? = some (.cells #[.int .u8 wh, .int .i64 (s : Int), .iface 65 V, .iface 65 U] 72 (0, 0)) ∧ KeepsU W1 w ∧ Own w0 w 5 1 v n xs) (fun x w => ∃ g, x = .slice (some ⟨g, 0, none⟩) 3 3 ∧ w.heap[B]? = some (.cells #[.int .u8 wh, .int .i64 (s : Int), .iface 65 V, .iface 65 U] 72 (0, 0)) ∧ KeepsU W1 w ∧ Own w0 w 5 1 v n xs ∧ ∀ j u, ([.int .u8 wh, .int .u8 (D1.toNat : Int), .int .u8 (D2.toNat : Int)] : List Value)[j]? = some u → w.cell? ((⟨g, 0, none⟩ : Addr).add j) = some u) (fun _ y w => w.heap[B]? = some (.cells #[.int .u8 wh, .int .i64 (s : Int), .iface 65 V, .iface 65 U] 72 (0, 0)) ∧ KeepsU W1 w ∧ Own w0 w 5 1 y (n + 3) (xs ++ [.int .u8 wh, .int .u8 (D1.toNat : Int), .int .u8 (D2.toNat : Int)])) (fun _ y z w => z = y ∧ w.heap[B]? = some (.cells #[.int .u8 wh, .int .i64 (s : Int), .iface 65 V, .iface 65 U] 72 (0, 0)) ∧ KeepsU W1 w ∧ Own w0 w 5 1 y (n + 3) (xs ++ [.int .u8 wh, .int .u8 (D1.toNat : Int), .int .u8 (D2.toNat : Int)])) (fun w => w.heap[B]? = some (.cells #[.int .u8 wh, .int .i64 (s : Int), .iface 65 V, .iface 65 U] 72 (0, 0)))
      (by kernel_rfl) (by kernel_rfl) rfl rfl rfl rfl rfl rfl rfl rfl (by decide) (by decide) ⟨⟨11, .data⟩, (by simp), rfl, rfl⟩ ⟨⟨12, .data⟩, (by simp), rfl, rfl⟩ ?otAee ?h0Aee ?j0Aee ?j1Aee ?j2Aee ?j3Aee ?conAee ?saAee ?sbAee ?scAee ?enAee
    case otAee =>
      intro i o ho hki
      match i, ho with
      | 0, ho =>
        obtain rfl := Option.some.inj ho
        exact ⟨by decide, by decide, by decide⟩
      | 1, ho =>
        obtain rfl := Option.some.inj ho
        exact ⟨by decide, by decide, by decide⟩
      | 2, ho =>
        obtain rfl := Option.some.inj ho
        exact ⟨by decide, by decide, by decide⟩
      | 3, ho =>
        obtain rfl := Option.some.inj ho
        exact ⟨by decide, by decide, by decide⟩
      | 4, ho =>
        obtain rfl := Option.some.inj ho
        exact ⟨by decide, by decide, by decide⟩
      | 5, ho =>
        obtain rfl := Option.some.inj ho
        exact ⟨by decide, by decide, by decide⟩
      | 6, ho =>
        obtain rfl := Option.some.inj ho
        exact ⟨by decide, by decide, by decide⟩
      | 7, ho =>
        obtain rfl := Option.some.inj ho
        exact ⟨by decide, by decide, by decide⟩
      | 8, ho =>
        obtain rfl := Option.some.inj ho
        exact ⟨by decide, by decide, by decide⟩
      | 9, ho =>
        obtain rfl := Option.some.inj ho
        exact ⟨by decide, by decide, by decide⟩
      | 10, ho =>
        obtain rfl := Option.some.inj ho
        exact ⟨by decide, by decide, by decide⟩
      | 11, ho => exact absurd hki (by decide)
      | 12, ho => exact absurd hki (by decide)
      | 13, ho => exact absurd hki (by decide)
      | q + 14, ho => simp at ho
    case h0Aee => exact ⟨HM0.out, KeepsU.of_below (drew_at W1), HO1.out.later (drew_at W1)⟩
    case j0Aee => exact fun w h => h.1
    case j1Aee => exact fun x w h => (by obtain ⟨g, _, h2, _⟩ := h; exact h2)
    case j2Aee => exact fun x y w h => h.1
    case j3Aee => exact fun x y z w h => h.2.1
    case conAee =>
      intro i o ho hki a w2 hJ hf hold
      match i, ho with
      | 0, ho =>
        obtain rfl := Option.some.inj ho
        have b1 : a.tmps[1]?.getD undef = v := hold ⟨⟨0, .phase⟩, (by simp), rfl, rfl⟩
        exact wp_value (v) (by unfold execOp; go_simp) ⟨rfl, rfl⟩
      | 1, ho =>
        obtain rfl := Option.some.inj ho
        have b2 : a.tmps[2]?.getD undef = .pointer (some ⟨B, 0, none⟩) := hf.2 2 (by kernel_rfl)
        exact wp_value (.pointer (some ⟨B, 0, none⟩)) (by unfold execOp; go_simp) ⟨rfl, rfl⟩
      | 2, ho =>
        obtain rfl := Option.some.inj ho
        have e6 : a.tmps[6]?.getD undef = .pointer (some ⟨B, 0, none⟩) := hf.1 ⟨1, .data⟩ (by simp) rfl _ 6 rfl rfl (by decide)
        obtain ⟨c0, c1, c2, c3⟩ := hcell _ hJ
        exact wp_value (.int .u8 wh) (by unfold execOp; go_simp) ⟨rfl, rfl⟩
      | 3, ho =>
        obtain rfl := Option.some.inj ho
        have b2 : a.tmps[2]?.getD undef = .pointer (some ⟨B, 0, none⟩) := hf.2 2 (by kernel_rfl)
        exact wp_value (.pointer (some ⟨B, 1, none⟩)) (by unfold execOp; go_simp) ⟨rfl, rfl⟩
      | 4, ho =>
        obtain rfl := Option.some.inj ho
        have e8 : a.tmps[8]?.getD undef = .pointer (some ⟨B, 1, none⟩) := hf.1 ⟨3, .data⟩ (by simp) rfl _ 8 rfl rfl (by decide)
        obtain ⟨c0, c1, c2, c3⟩ := hcell _ hJ
        exact wp_value (.int .i64 (s : Int)) (by unfold execOp; go_simp) ⟨rfl, rfl⟩
      | 5, ho =>
        obtain rfl := Option.some.inj ho
        have e9 : a.tmps[9]?.getD undef = .int .i64 (s : Int) := hf.1 ⟨4, .data⟩ (by simp) rfl _ 9 rfl rfl (by decide)
        exact wp_value (.int .i64 (d1 : Int)) (by unfold execOp; go_simp) ⟨rfl, rfl⟩
      | 6, ho =>
        obtain rfl := Option.some.inj ho
        have e10 : a.tmps[10]?.getD undef = .int .i64 (d1 : Int) := hf.1 ⟨5, .data⟩ (by simp) rfl _ 10 rfl rfl (by decide)
        exact wp_value (.int .u8 (D1.toNat : Int)) (by unfold execOp; go_simp; intro hge; exact absurd hge (by omega)) ⟨rfl, rfl⟩
      | 7, ho =>
        obtain rfl := Option.some.inj ho
        have b2 : a.tmps[2]?.getD undef = .pointer (some ⟨B, 0, none⟩) := hf.2 2 (by kernel_rfl)
        exact wp_value (.pointer (some ⟨B, 1, none⟩)) (by unfold execOp; go_simp) ⟨rfl, rfl⟩
      | 8, ho =>
        obtain rfl := Option.some.inj ho
        have e12 : a.tmps[12]?.getD undef = .pointer (some ⟨B, 1, none⟩) := hf.1 ⟨7, .data⟩ (by simp) rfl _ 12 rfl rfl (by decide)
        obtain ⟨c0, c1, c2, c3⟩ := hcell _ hJ
        exact wp_value (.int .i64 (s : Int)) (by unfold execOp; go_simp) ⟨rfl, rfl⟩
      | 9, ho =>
        obtain rfl := Option.some.inj ho
        have e13 : a.tmps[13]?.getD undef = .int .i64 (s : Int) := hf.1 ⟨8, .data⟩ (by simp) rfl _ 13 rfl rfl (by decide)
        exact wp_value (.int .i64 (d2 : Int)) (by unfold execOp; go_simp) ⟨rfl, rfl⟩
      | 10, ho =>
        obtain rfl := Option.some.inj ho
        have e14 : a.tmps[14]?.getD undef = .int .i64 (d2 : Int) := hf.1 ⟨9, .data⟩ (by simp) rfl _ 14 rfl rfl (by decide)
        exact wp_value (.int .u8 (D2.toNat : Int)) (by unfold execOp; go_simp; intro hge; exact absurd hge (by omega)) ⟨rfl, rfl⟩
      | 11, ho => exact absurd hki (by decide)
      | 12, ho => exact absurd hki (by decide)
      | 13, ho => exact absurd hki (by decide)
      | q + 14, ho => simp at ho
    case saAee =>
      intro a w2 hI hf
      have e7 : a.tmps[7]?.getD undef = .int .u8 wh := hf.1 ⟨2, .data⟩ (by simp) rfl _ 7 rfl rfl (by decide)
      have e11 : a.tmps[11]?.getD undef = .int .u8 (D1.toNat : Int) := hf.1 ⟨6, .data⟩ (by simp) rfl _ 11 rfl rfl (by decide)
      have e15 : a.tmps[15]?.getD undef = .int .u8 (D2.toNat : Int) := hf.1 ⟨10, .data⟩ (by simp) rfl _ 15 rfl rfl (by decide)
      obtain ⟨hr, hk, ho⟩ := hI
      have hbl : Below w2.heap.size w2 (w2.alloc (.cells ([.int .u8 wh, .int .u8 (D1.toNat : Int), .int .u8 (D2.toNat : Int)] : List Value).toArray 5)) := (Below.refl _ _).alloc (Nat.le_refl _) _
      exact wp_valueW (.slice (some ⟨w2.heap.size, 0, none⟩) 3 3) (w2.alloc (.cells ([.int .u8 wh, .int .u8 (D1.toNat : Int), .int .u8 (D2.toNat : Int)] : List Value).toArray 5)) (by unfold execOp; go_simp) ⟨_, rfl, w2.heap.size, rfl, (hbl.block B (Array.getElem?_eq_some_iff.1 hr).1).trans hr, hk.trans (KeepsU.of_below hbl), ho.later hbl, cells_list _ _⟩
    case sbAee =>
      intro a w2 x hI hv hf
      have e5 : a.tmps[5]?.getD undef = v := hf.1 ⟨0, .data⟩ (by simp) rfl _ 5 rfl rfl (by decide)
      obtain ⟨g, rfl, hr, hk, ho, hc⟩ := hI
      refine wp_append_own w2 (.tmp 5) (.tmp 16) 22 rfl w0.heap.size 5 i0 (.int .u8 0) 1 1 Tryz.underlying22 hi hz0 hz1 hz2 rfl (by decide) v n xs (eval_get e5) ho.row ⟨g, 0, none⟩ 3 3 [.int .u8 wh, .int .u8 (D1.toNat : Int), .int .u8 (D2.toNat : Int)] (eval_some hv) rfl hc (by simp [Value.oneCell']) (by unfold maxLen; omega) (by omega) ho.below.size ?_
      intro v3 w3 hown3 hgrow3 _
      have hk3 := KeepsU.of_grown ho.row hgrow3
      exact ⟨v3, rfl, hk3.row hr, hk.trans hk3, ⟨hown3, ho.below.grown hgrow3 ho.below.size fun j hj => (ho.row.lt j hj).1⟩⟩
    case scAee =>
      intro a w2 x y hI hv hu hf
      obtain ⟨hr, hk, ho⟩ := hI
      have e17 := get_some hu
      exact wp_value y (by unfold execOp; go_simp) ⟨y, rfl, rfl, hr, hk, ho⟩
    intro x y zz w2 hI
    obtain ⟨rfl, hr, hk, ho⟩ := hI
    have HR2 := Lib.hid hr
    have HK2 := Lib.hid (HKW.out.trans hk)
    have HO2 := Lib.hid ho
    clear hr hk ho HM0 HO1 HKW
    simp only [fill, Act.put]
    go_simp
    go_wp2_with fail
    refine wp_region_chain3 (fun | 0 => .pointer (some ⟨B, 2, none⟩) | 1 => .pointer (some ⟨B, 3, none⟩) | 2 => .iface 65 U | 3 => .pointer (some ⟨B, 2, none⟩) | 4 => .pointer (some ⟨B, 2, none⟩) | 5 => .iface 65 V | 6 => zz | 8 => .iface 65 U | 9 => .iface 65 U | _ => undef) (fun i => !(i == 7) && !(i == 10) && !(i == 11)) 7 10 11 25 28 4 _ _ _
      (fun w => KeepsU w2 w ∧ Own w0 w 5 1 zz (n + 3) (xs ++ [.int .u8 wh, .int .u8 (D1.toNat : Int), .int .u8 (D2.toNat : Int)])) (fun x w => KeepsU w2 w ∧ Own w0 w 5 1 x (n + 3 + lz) (xs ++ [.int .u8 wh, .int .u8 (D1.toNat : Int), .int .u8 (D2.toNat : Int)] ++ cz)) (fun _ u w => KeepsU w2 w ∧ Own w0 w 5 1 u (n + 3 + lz + lo) (xs ++ [.int .u8 wh, .int .u8 (D1.toNat : Int), .int .u8 (D2.toNat : Int)] ++ cz ++ co)) (fun _ u z w => z = u ∧ KeepsU w2 w ∧ Own w0 w 5 1 u (n + 3 + lz + lo) (xs ++ [.int .u8 wh, .int .u8 (D1.toNat : Int), .int .u8 (D2.toNat : Int)] ++ cz ++ co)) (fun w => w.heap[B]? = some (.cells #[.int .u8 wh, .int .i64 (s : Int), .iface 65 V, .iface 65 U] 72 (0, 0)))
      (by kernel_rfl) (by kernel_rfl) rfl rfl rfl rfl rfl rfl rfl rfl (by decide) (by decide) ⟨⟨7, .data⟩, (by simp), rfl, rfl⟩ ⟨⟨10, .data⟩, (by simp), rfl, rfl⟩ ?otBee ?h0Bee ?j0Bee ?j1Bee ?j2Bee ?j3Bee ?conBee ?saBee ?sbBee ?scBee ?enBee
    case otBee =>
      intro i o ho hki
      match i, ho with
      | 0, ho =>
        obtain rfl := Option.some.inj ho
        exact ⟨by decide, by decide, by decide⟩
      | 1, ho =>
        obtain rfl := Option.some.inj ho
        exact ⟨by decide, by decide, by decide⟩
      | 2, ho =>
        obtain rfl := Option.some.inj ho
        exact ⟨by decide, by decide, by decide⟩
      | 3, ho =>
        obtain rfl := Option.some.inj ho
        exact ⟨by decide, by decide, by decide⟩
      | 4, ho =>
        obtain rfl := Option.some.inj ho
        exact ⟨by decide, by decide, by decide⟩
      | 5, ho =>
        obtain rfl := Option.some.inj ho
        exact ⟨by decide, by decide, by decide⟩
      | 6, ho =>
        obtain rfl := Option.some.inj ho
        exact ⟨by decide, by decide, by decide⟩
      | 7, ho => exact absurd hki (by decide)
      | 8, ho =>
        obtain rfl := Option.some.inj ho
        exact ⟨by decide, by decide, by decide⟩
      | 9, ho =>
        obtain rfl := Option.some.inj ho
        exact ⟨by decide, by decide, by decide⟩
      | 10, ho => exact absurd hki (by decide)
      | 11, ho => exact absurd hki (by decide)
      | q + 12, ho => simp at ho
    case h0Bee => exact ⟨KeepsU.of_below (drew_at w2), HO2.out.later (drew_at w2)⟩
    case j0Bee => exact fun w h => h.1.row HR2.out
    case j1Bee => exact fun x w h => h.1.row HR2.out
    case j2Bee => exact fun x u w h => h.1.row HR2.out
    case j3Bee => exact fun x u z w h => h.2.1.row HR2.out
    case conBee =>
      intro i o ho hki a a_w hJ hf hold
      match i, ho with
      | 0, ho =>
        obtain rfl := Option.some.inj ho
        have b2 : a.tmps[2]?.getD undef = .pointer (some ⟨B, 0, none⟩) := hf.2 2 (by kernel_rfl)
        exact wp_value (.pointer (some ⟨B, 2, none⟩)) (by unfold execOp; go_simp) ⟨rfl, rfl⟩
      | 1, ho =>
        obtain rfl := Option.some.inj ho
        have e18 : a.tmps[18]?.getD undef = .pointer (some ⟨B, 2, none⟩) := hf.1 ⟨0, .data⟩ (by simp) rfl _ 18 rfl rfl (by decide)
        exact wp_value (.pointer (some ⟨B, 3, none⟩)) (by unfold execOp; go_simp) ⟨rfl, rfl⟩
      | 2, ho =>
        obtain rfl := Option.some.inj ho
        have e19 : a.tmps[19]?.getD undef = .pointer (some ⟨B, 3, none⟩) := hf.1 ⟨1, .data⟩ (by simp) rfl _ 19 rfl rfl (by decide)
        obtain ⟨c0, c1, c2, c3⟩ := hcell _ hJ
        exact wp_value (.iface 65 U) (by unfold execOp; go_simp) ⟨rfl, rfl⟩
      | 3, ho =>
        obtain rfl := Option.some.inj ho
        have b2 : a.tmps[2]?.getD undef = .pointer (some ⟨B, 0, none⟩) := hf.2 2 (by kernel_rfl)
        exact wp_value (.pointer (some ⟨B, 2, none⟩)) (by unfold execOp; go_simp) ⟨rfl, rfl⟩
      | 4, ho =>
        obtain rfl := Option.some.inj ho
        have e21 : a.tmps[21]?.getD undef = .pointer (some ⟨B, 2, none⟩) := hf.1 ⟨3, .data⟩ (by simp) rfl _ 21 rfl rfl (by decide)
        exact wp_value (.pointer (some ⟨B, 2, none⟩)) (by unfold execOp; go_simp) ⟨rfl, rfl⟩
      | 5, ho =>
        obtain rfl := Option.some.inj ho
        have e22 : a.tmps[22]?.getD undef = .pointer (some ⟨B, 2, none⟩) := hf.1 ⟨4, .data⟩ (by simp) rfl _ 22 rfl rfl (by decide)
        obtain ⟨c0, c1, c2, c3⟩ := hcell _ hJ
        exact wp_value (.iface 65 V) (by unfold execOp; go_simp) ⟨rfl, rfl⟩
      | 6, ho =>
        obtain rfl := Option.some.inj ho
        have b1 : a.tmps[1]?.getD undef = zz := hf.2 1 (by kernel_rfl)
        exact wp_value (zz) (by unfold execOp; go_simp) ⟨rfl, rfl⟩
      | 7, ho => exact absurd hki (by decide)
      | 8, ho =>
        obtain rfl := Option.some.inj ho
        have e20 : a.tmps[20]?.getD undef = .iface 65 U := hf.1 ⟨2, .data⟩ (by simp) rfl _ 20 rfl rfl (by decide)
        exact wp_value (.iface 65 U) (by unfold execOp; go_simp) ⟨rfl, rfl⟩
      | 9, ho =>
        obtain rfl := Option.some.inj ho
        have e20 : a.tmps[20]?.getD undef = .iface 65 U := hf.1 ⟨2, .data⟩ (by simp) rfl _ 20 rfl rfl (by decide)
        exact wp_value (.iface 65 U) (by unfold execOp; go_simp) ⟨rfl, rfl⟩
      | 10, ho => exact absurd hki (by decide)
      | 11, ho => exact absurd hki (by decide)
      | q + 12, ho => simp at ho
    case saBee =>
      intro a a_w hI hf
      have e23 : a.tmps[23]?.getD undef = .iface 65 V := hf.1 ⟨5, .data⟩ (by simp) rfl _ 23 rfl rfl (by decide)
      have e24 : a.tmps[24]?.getD undef = zz := hf.1 ⟨6, .data⟩ (by simp) rfl _ 24 rfl rfl (by decide)
      obtain ⟨hk, ho⟩ := hI
      refine wp_enterR 134 #[V, zz] (by unfold execOp; go_simp; go_invoke; rfl) (HZ.out w0 a_w zz (n + 3) _ ho (by omega)) ?_
      rintro v' w' ⟨h1, h2⟩
      exact ⟨v', rfl, hk.trans h2, h1⟩
    case sbBee =>
      intro a a_w x hI hv hf
      have e27 : a.tmps[27]?.getD undef = .iface 65 U := hf.1 ⟨9, .data⟩ (by simp) rfl _ 27 rfl rfl (by decide)
      obtain ⟨hk, ho⟩ := hI
      have e25 := get_some hv
      refine wp_enterR 134 #[U, x] (by unfold execOp; go_simp; go_invoke; rfl) (HO.out w0 a_w x (n + 3 + lz) _ ho (by omega)) ?_
      rintro v' w' ⟨h1, h2⟩
      exact ⟨v', rfl, hk.trans h2, h1⟩
    case scBee =>
      intro a a_w x y' hI hv hu hf
      obtain ⟨hk, ho⟩ := hI
      have e28 := get_some hu
      exact wp_value y' (by unfold execOp; go_simp) ⟨y', rfl, rfl, hk, ho⟩
    intro x u zz2 w5 hI
    obtain ⟨rfl, hk, ho⟩ := hI
    have HK3 := Lib.hid (HK2.out.trans hk)
    have HO3 := Lib.hid ho
    clear hk ho
    simp only [fill, Act.put]
    go_simp
    go_wp2_with fail
    go_ret
    exact ⟨zz2, rfl, by rw [HLN.out, H3C.out, show n + (lz + lo + 3) = n + 3 + lz + lo by omega]; have h := HO3.out; simp only [List.append_assoc] at h ⊢; exact h, HK3.out⟩
  · have HZ := Lib.hid hz
    have HO := Lib.hid ho
    rw [ez, eo]
    clear ez eo hz ho
    go_enter Tryz.func147, Tryz.ntmps147
    go_wp2_with fail
    obtain ⟨W1, hW1⟩ : ∃ W1, W.alloc (.cells #[.int .u8 wh, .int .i64 (s : Int), .iface 65 V, .iface 72 U] 72) = W1 := ⟨_, rfl⟩
    rw [hW1]
    have HM0 : Hid (W1.heap[B]? = some (.cells #[.int .u8 wh, .int .i64 (s : Int), .iface 65 V, .iface 72 U] 72 (0, 0))) := by show _ = _; rw [← hW1, ← HBB.out]; exact heap_alloc_new W _
    have HO1 : Hid (Own w0 W1 5 1 v n xs) := by show Own _ _ _ _ _ _ _; rw [← hW1]; exact HO0.out.later ((Below.refl _ _).alloc (Nat.le_refl _) _)
    have HKW0 : Hid (KeepsU W W1) := by show KeepsU _ _; rw [← hW1]; exact KeepsU.of_below ((Below.refl _ _).alloc (Nat.le_refl _) _)
    clear hW1 HO0
    obtain ⟨c0, c1, c2, c3⟩ := cells4 HM0.out
    clear c0 c1 c2 c3
    have HKW : Hid (KeepsU W W1) := HKW0
    have hcell := fun (w2 : World) (h : w2.heap[B]? = some (.cells #[.int .u8 wh, .int .i64 (s : Int), .iface 65 V, .iface 72 U] 72 (0, 0))) => cells4 h
    refine wp_region_chain3 (fun | 0 => v | 1 => .pointer (some ⟨B, 0, none⟩) | 2 => .int .u8 wh | 3 => .pointer (some ⟨B, 1, none⟩) | 4 => .int .i64 (s : Int) | 5 => .int .i64 (d1 : Int) | 6 => .int .u8 (D1.toNat : Int) | 7 => .pointer (some ⟨B, 1, none⟩) | 8 => .int .i64 (s : Int) | 9 => .int .i64 (d2 : Int) | 10 => .int .u8 (D2.toNat : Int) | _ => undef) (fun i => !(i == 11) && !(i == 12) && !(i == 13)) 11 12 13 16 17 1 _ _ _
      (fun w => w.heap[B]? = some (.cells #[.int .u8 wh, .int .i64 (s : Int), .iface 65 V, .iface 72 U] 72 (0, 0)) ∧ KeepsU W1 w ∧ Own w0 w 5 1 v n xs) (fun x w => ∃ g, x = .slice (some ⟨g, 0, none⟩) 3 3 ∧ w.heap[B]? = some (.cells #[.int .u8 wh, .int .i64 (s : Int), .iface 65 V, .iface 72 U] 72 (0, 0)) ∧ KeepsU W1 w ∧ Own w0 w 5 1 v n xs ∧ ∀ j u, ([.int .u8 wh, .int .u8 (D1.toNat : Int), .int .u8 (D2.toNat : Int)] : List Value)[j]? = some u → w.cell? ((⟨g, 0, none⟩ : Addr).add j) = some u) (fun _ y w => w.heap[B]? = some (.cells #[.int .u8 wh, .int .i64 (s : Int), .iface 65 V, .iface 72 U] 72 (0, 0)) ∧ KeepsU W1 w ∧ Own w0 w 5 1 y (n + 3) (xs ++ [.int .u8 wh, .int .u8 (D1.toNat : Int), .int .u8 (D2.toNat : Int)])) (fun _ y z w => z = y ∧ w.heap[B]? = some (.cells #[.int .u8 wh, .int .i64 (s : Int), .iface 65 V, .iface 72 U] 72 (0, 0)) ∧ KeepsU W1 w ∧ Own w0 w 5 1 y (n + 3) (xs ++ [.int .u8 wh, .int .u8 (D1.toNat : Int), .int .u8 (D2.toNat : Int)])) (fun w => w.heap[B]? = some (.cells #[.int .u8 wh, .int .i64 (s : Int), .iface 65 V, .iface 72 U] 72 (0, 0)))
      (by kernel_rfl) (by kernel_rfl) rfl rfl rfl rfl rfl rfl rfl rfl (by decide) (by decide) ⟨⟨11, .data⟩, (by simp), rfl, rfl⟩ ⟨⟨12, .data⟩, (by simp), rfl, rfl⟩ ?otAes ?h0Aes ?j0Aes ?j1Aes ?j2Aes ?j3Aes ?conAes ?saAes ?sbAes ?scAes ?enAes
    case otAes =>
      intro i o ho hki
      match i, ho with
      | 0, ho =>
        obtain rfl := Option.some.inj ho
        exact ⟨by decide, by decide, by decide⟩
      | 1, ho =>
        obtain rfl := Option.some.inj ho
        exact ⟨by decide, by decide, by decide⟩
      | 2, ho =>
        obtain rfl := Option.some.inj ho
        exact ⟨by decide, by decide, by decide⟩
      | 3, ho =>
        obtain rfl := Option.some.inj ho
        exact ⟨by decide, by decide, by decide⟩
      | 4, ho =>
        obtain rfl := Option.some.inj ho
        exact ⟨by decide, by decide, by decide⟩
      | 5, ho =>
        obtain rfl := Option.some.inj ho
        exact ⟨by decide, by decide, by decide⟩
      | 6, ho =>
        obtain rfl := Option.some.inj ho
        exact ⟨by decide, by decide, by decide⟩
      | 7, ho =>
        obtain rfl := Option.some.inj ho
        exact ⟨by decide, by decide, by decide⟩
      | 8, ho =>
        obtain rfl := Option.some.inj ho
        exact ⟨by decide, by decide, by decide⟩
      | 9, ho =>
        obtain rfl := Option.some.inj ho
        exact ⟨by decide, by decide, by decide⟩
      | 10, ho =>
        obtain rfl := Option.some.inj ho
        exact ⟨by decide, by decide, by decide⟩
      | 11, ho => exact absurd hki (by decide)
      | 12, ho => exact absurd hki (by decide)
      | 13, ho => exact absurd hki (by decide)
      | q + 14, ho => simp at ho
    case h0Aes => exact ⟨HM0.out, KeepsU.of_below (drew_at W1), HO1.out.later (drew_at W1)⟩
    case j0Aes => exact fun w h => h.1
    case j1Aes => exact fun x w h => (by obtain ⟨g, _, h2, _⟩ := h; exact h2)
    case j2Aes => exact fun x y w h => h.1
    case j3Aes => exact fun x y z w h => h.2.1
    case conAes =>
      intro i o ho hki a w2 hJ hf hold
      match i, ho with
      | 0, ho =>
        obtain rfl := Option.some.inj ho
        have b1 : a.tmps[1]?.getD undef = v := hold ⟨⟨0, .phase⟩, (by simp), rfl, rfl⟩
        exact wp_value (v) (by unfold execOp; go_simp) ⟨rfl, rfl⟩
      | 1, ho =>
        obtain rfl := Option.some.inj ho
        have b2 : a.tmps[2]?.getD undef = .pointer (some ⟨B, 0, none⟩) := hf.2 2 (by kernel_rfl)
        exact wp_value (.pointer (some ⟨B, 0, none⟩)) (by unfold execOp; go_simp) ⟨rfl, rfl⟩
      | 2, ho =>
        obtain rfl := Option.some.inj ho
        have e6 : a.tmps[6]?.getD undef = .pointer (some ⟨B, 0, none⟩) := hf.1 ⟨1, .data⟩ (by simp) rfl _ 6 rfl rfl (by decide)
        obtain ⟨c0, c1, c2, c3⟩ := hcell _ hJ
        exact wp_value (.int .u8 wh) (by unfold execOp; go_simp) ⟨rfl, rfl⟩
      | 3, ho =>
        obtain rfl := Option.some.inj ho
        have b2 : a.tmps[2]?.getD undef = .pointer (some ⟨B, 0, none⟩) := hf.2 2 (by kernel_rfl)
        exact wp_value (.pointer (some ⟨B, 1, none⟩)) (by unfold execOp; go_simp) ⟨rfl, rfl⟩
      | 4, ho =>
        obtain rfl := Option.some.inj ho
        have e8 : a.tmps[8]?.getD undef = .pointer (some ⟨B, 1, none⟩) := hf.1 ⟨3, .data⟩ (by simp) rfl _ 8 rfl rfl (by decide)
        obtain ⟨c0, c1, c2, c3⟩ := hcell _ hJ
        exact wp_value (.int .i64 (s : Int)) (by unfold execOp; go_simp) ⟨rfl, rfl⟩
      | 5, ho =>
        obtain rfl := Option.some.inj ho
        have e9 : a.tmps[9]?.getD undef = .int .i64 (s : Int) := hf.1 ⟨4, .data⟩ (by simp) rfl _ 9 rfl rfl (by decide)
        exact wp_value (.int .i64 (d1 : Int)) (by unfold execOp; go_simp) ⟨rfl, rfl⟩
      | 6, ho =>
        obtain rfl := Option.some.inj ho
        have e10 : a.tmps[10]?.getD undef = .int .i64 (d1 : Int) := hf.1 ⟨5, .data⟩ (by simp) rfl _ 10 rfl rfl (by decide)
        exact wp_value (.int .u8 (D1.toNat : Int)) (by unfold execOp; go_simp; intro hge; exact absurd hge (by omega)) ⟨rfl, rfl⟩
      | 7, ho =>
        obtain rfl := Option.some.inj ho
        have b2 : a.tmps[2]?.getD undef = .pointer (some ⟨B, 0, none⟩) := hf.2 2 (by kernel_rfl)
        exact wp_value (.pointer (some ⟨B, 1, none⟩)) (by unfold execOp; go_simp) ⟨rfl, rfl⟩
      | 8, ho =>
        obtain rfl := Option.some.inj ho
        have e12 : a.tmps[12]?.getD undef = .pointer (some ⟨B, 1, none⟩) := hf.1 ⟨7, .data⟩ (by simp) rfl _ 12 rfl rfl (by decide)
        obtain ⟨c0, c1, c2, c3⟩ := hcell _ hJ
        exact wp_value (.int .i64 (s : Int)) (by unfold execOp; go_simp) ⟨rfl, rfl⟩
      | 9, ho =>
        obtain rfl := Option.some.inj ho
        have e13 : a.tmps[13]?.getD undef = .int .i64 (s : Int) := hf.1 ⟨8, .data⟩ (by simp) rfl _ 13 rfl rfl (by decide)
        exact wp_value (.int .i64 (d2 : Int)) (by unfold execOp; go_simp) ⟨rfl, rfl⟩
      | 10, ho =>
        obtain rfl := Option.some.inj ho
        have e14 : a.tmps[14]?.getD undef = .int .i64 (d2 : Int) := hf.1 ⟨9, .data⟩ (by simp) rfl _ 14 rfl rfl (by decide)
        exact wp_value (.int .u8 (D2.toNat : Int)) (by unfold execOp; go_simp; intro hge; exact absurd hge (by omega)) ⟨rfl, rfl⟩
      | 11, ho => exact absurd hki (by decide)
      | 12, ho => exact absurd hki (by decide)
      | 13, ho => exact absurd hki (by decide)
      | q + 14, ho => simp at ho
    case saAes =>
      intro a w2 hI hf
      have e7 : a.tmps[7]?.getD undef = .int .u8 wh := hf.1 ⟨2, .data⟩ (by simp) rfl _ 7 rfl rfl (by decide)
      have e11 : a.tmps[11]?.getD undef = .int .u8 (D1.toNat : Int) := hf.1 ⟨6, .data⟩ (by simp) rfl _ 11 rfl rfl (by decide)
      have e15 : a.tmps[15]?.getD undef = .int .u8 (D2.toNat : Int) := hf.1 ⟨10, .data⟩ (by simp) rfl _ 15 rfl rfl (by decide)
      obtain ⟨hr, hk, ho⟩ := hI
      have hbl : Below w2.heap.size w2 (w2.alloc (.cells ([.int .u8 wh, .int .u8 (D1.toNat : Int), .int .u8 (D2.toNat : Int)] : List Value).toArray 5)) := (Below.refl _ _).alloc (Nat.le_refl _) _
      exact wp_valueW (.slice (some ⟨w2.heap.size, 0, none⟩) 3 3) (w2.alloc (.cells ([.int .u8 wh, .int .u8 (D1.toNat : Int), .int .u8 (D2.toNat : Int)] : List Value).toArray 5)) (by unfold execOp; go_simp) ⟨_, rfl, w2.heap.size, rfl, (hbl.block B (Array.getElem?_eq_some_iff.1 hr).1).trans hr, hk.trans (KeepsU.of_below hbl), ho.later hbl, cells_list _ _⟩
    case sbAes =>
      intro a w2 x hI hv hf
      have e5 : a.tmps[5]?.getD undef = v := hf.1 ⟨0, .data⟩ (by simp) rfl _ 5 rfl rfl (by decide)
      obtain ⟨g, rfl, hr, hk, ho, hc⟩ := hI
      refine wp_append_own w2 (.tmp 5) (.tmp 16) 22 rfl w0.heap.size 5 i0 (.int .u8 0) 1 1 Tryz.underlying22 hi hz0 hz1 hz2 rfl (by decide) v n xs (eval_get e5) ho.row ⟨g, 0, none⟩ 3 3 [.int .u8 wh, .int .u8 (D1.toNat : Int), .int .u8 (D2.toNat : Int)] (eval_some hv) rfl hc (by simp [Value.oneCell']) (by unfold maxLen; omega) (by omega) ho.below.size ?_
      intro v3 w3 hown3 hgrow3 _
      have hk3 := KeepsU.of_grown ho.row hgrow3
      exact ⟨v3, rfl, hk3.row hr, hk.trans hk3, ⟨hown3, ho.below.grown hgrow3 ho.below.size fun j hj => (ho.row.lt j hj).1⟩⟩
    case scAes =>
      intro a w2 x y hI hv hu hf
      obtain ⟨hr, hk, ho⟩ := hI
      have e17 := get_some hu
      exact wp_value y (by unfold execOp; go_simp) ⟨y, rfl, rfl, hr, hk, ho⟩
    intro x y zz w2 hI
    obtain ⟨rfl, hr, hk, ho⟩ := hI
    have HR2 := Lib.hid hr
    have HK2 := Lib.hid (HKW.out.trans hk)
    have HO2 := Lib.hid ho
    clear hr hk ho HM0 HO1 HKW
    simp only [fill, Act.put]
    go_simp
    go_wp2_with fail
    refine wp_region_chain3 (fun | 0 => .pointer (some ⟨B, 2, none⟩) | 1 => .pointer (some ⟨B, 3, none⟩) | 2 => .iface 72 U | 3 => .pointer (some ⟨B, 2, none⟩) | 4 => .pointer (some ⟨B, 2, none⟩) | 5 => .iface 65 V | 6 => zz | 8 => .iface 72 U | 9 => .iface 72 U | _ => undef) (fun i => !(i == 7) && !(i == 10) && !(i == 11)) 7 10 11 25 28 4 _ _ _
      (fun w => KeepsU w2 w ∧ Own w0 w 5 1 zz (n + 3) (xs ++ [.int .u8 wh, .int .u8 (D1.toNat : Int), .int .u8 (D2.toNat : Int)])) (fun x w => KeepsU w2 w ∧ Own w0 w 5 1 x (n + 3 + lz) (xs ++ [.int .u8 wh, .int .u8 (D1.toNat : Int), .int .u8 (D2.toNat : Int)] ++ cz)) (fun _ u w => KeepsU w2 w ∧ Own w0 w 5 1 u (n + 3 + lz + lo) (xs ++ [.int .u8 wh, .int .u8 (D1.toNat : Int), .int .u8 (D2.toNat : Int)] ++ cz ++ co)) (fun _ u z w => z = u ∧ KeepsU w2 w ∧ Own w0 w 5 1 u (n + 3 + lz + lo) (xs ++ [.int .u8 wh, .int .u8 (D1.toNat : Int), .int .u8 (D2.toNat : Int)] ++ cz ++ co)) (fun w => w.heap[B]? = some (.cells #[.int .u8 wh, .int .i64 (s : Int), .iface 65 V, .iface 72 U] 72 (0, 0)))
      (by kernel_rfl) (by kernel_rfl) rfl rfl rfl rfl rfl rfl rfl rfl (by decide) (by decide) ⟨⟨7, .data⟩, (by simp), rfl, rfl⟩ ⟨⟨10, .data⟩, (by simp), rfl, rfl⟩ ?otBes ?h0Bes ?j0Bes ?j1Bes ?j2Bes ?j3Bes ?conBes ?saBes ?sbBes ?scBes ?enBes
    case otBes =>
      intro i o ho hki
      match i, ho with
      | 0, ho =>
        obtain rfl := Option.some.inj ho
        exact ⟨by decide, by decide, by decide⟩
      | 1, ho =>
        obtain rfl := Option.some.inj ho
        exact ⟨by decide, by decide, by decide⟩
      | 2, ho =>
        obtain rfl := Option.some.inj ho
        exact ⟨by decide, by decide, by decide⟩
      | 3, ho =>
        obtain rfl := Option.some.inj ho
        exact ⟨by decide, by decide, by decide⟩
      | 4, ho =>
        obtain rfl := Option.some.inj ho
        exact ⟨by decide, by decide, by decide⟩
      | 5, ho =>
        obtain rfl := Option.some.inj ho
        exact ⟨by decide, by decide, by decide⟩
      | 6, ho =>
        obtain rfl := Option.some.inj ho
        exact ⟨by decide, by decide, by decide⟩
      | 7, ho => exact absurd hki (by decide)
      | 8, ho =>
        obtain rfl := Option.some.inj ho
        exact ⟨by decide, by decide, by decide⟩
      | 9, ho =>
        obtain rfl := Option.some.inj ho
        exact ⟨by decide, by decide, by decide⟩
      | 10, ho => exact absurd hki (by decide)
      | 11, ho => exact absurd hki (by decide)
      | q + 12, ho => simp at ho
    case h0Bes => exact ⟨KeepsU.of_below (drew_at w2), HO2.out.later (drew_at w2)⟩
    case j0Bes => exact fun w h => h.1.row HR2.out
    case j1Bes => exact fun x w h => h.1.row HR2.out
    case j2Bes => exact fun x u w h => h.1.row HR2.out
    case j3Bes => exact fun x u z w h => h.2.1.row HR2.out
    case conBes =>
      intro i o ho hki a a_w hJ hf hold
      match i, ho with
      | 0, ho =>
        obtain rfl := Option.some.inj ho
        have b2 : a.tmps[2]?.getD undef = .pointer (some ⟨B, 0, none⟩) := hf.2 2 (by kernel_rfl)
        exact wp_value (.pointer (some ⟨B, 2, none⟩)) (by unfold execOp; go_simp) ⟨rfl, rfl⟩
      | 1, ho =>
        obtain rfl := Option.some.inj ho
        have e18 : a.tmps[18]?.getD undef = .pointer (some ⟨B, 2, none⟩) := hf.1 ⟨0, .data⟩ (by simp) rfl _ 18 rfl rfl (by decide)
        exact wp_value (.pointer (some ⟨B, 3, none⟩)) (by unfold execOp; go_simp) ⟨rfl, rfl⟩
      | 2, ho =>
        obtain rfl := Option.some.inj ho
        have e19 : a.tmps[19]?.getD undef = .pointer (some ⟨B, 3, none⟩) := hf.1 ⟨1, .data⟩ (by simp) rfl _ 19 rfl rfl (by decide)
        obtain ⟨c0, c1, c2, c3⟩ := hcell _ hJ
        exact wp_value (.iface 72 U) (by unfold execOp; go_simp) ⟨rfl, rfl⟩
      | 3, ho =>
        obtain rfl := Option.some.inj ho
        have b2 : a.tmps[2]?.getD undef = .pointer (some ⟨B, 0, none⟩) := hf.2 2 (by kernel_rfl)
        exact wp_value (.pointer (some ⟨B, 2, none⟩)) (by unfold execOp; go_simp) ⟨rfl, rfl⟩
      | 4, ho =>
        obtain rfl := Option.some.inj ho
        have e21 : a.tmps[21]?.getD undef = .pointer (some ⟨B, 2, none⟩) := hf.1 ⟨3, .data⟩ (by simp) rfl _ 21 rfl rfl (by decide)
        exact wp_value (.pointer (some ⟨B, 2, none⟩)) (by unfold execOp; go_simp) ⟨rfl, rfl⟩
      | 5, ho =>
        obtain rfl := Option.some.inj ho
        have e22 : a.tmps[22]?.getD undef = .pointer (some ⟨B, 2, none⟩) := hf.1 ⟨4, .data⟩ (by simp) rfl _ 22 rfl rfl (by decide)
        obtain ⟨c0, c1, c2, c3⟩ := hcell _ hJ
        exact wp_value (.iface 65 V) (by unfold execOp; go_simp) ⟨rfl, rfl⟩
      | 6, ho =>
        obtain rfl := Option.some.inj ho
        have b1 : a.tmps[1]?.getD undef = zz := hf.2 1 (by kernel_rfl)
        exact wp_value (zz) (by unfold execOp; go_simp) ⟨rfl, rfl⟩
      | 7, ho => exact absurd hki (by decide)
      | 8, ho =>
        obtain rfl := Option.some.inj ho
        have e20 : a.tmps[20]?.getD undef = .iface 72 U := hf.1 ⟨2, .data⟩ (by simp) rfl _ 20 rfl rfl (by decide)
        exact wp_value (.iface 72 U) (by unfold execOp; go_simp) ⟨rfl, rfl⟩
      | 9, ho =>
        obtain rfl := Option.some.inj ho
        have e20 : a.tmps[20]?.getD undef = .iface 72 U := hf.1 ⟨2, .data⟩ (by simp) rfl _ 20 rfl rfl (by decide)
        exact wp_value (.iface 72 U) (by unfold execOp; go_simp) ⟨rfl, rfl⟩
      | 10, ho => exact absurd hki (by decide)
      | 11, ho => exact absurd hki (by decide)
      | q + 12, ho => simp at ho
    case saBes =>
      intro a a_w hI hf
      have e23 : a.tmps[23]?.getD undef = .iface 65 V := hf.1 ⟨5, .data⟩ (by simp) rfl _ 23 rfl rfl (by decide)
      have e24 : a.tmps[24]?.getD undef = zz := hf.1 ⟨6, .data⟩ (by simp) rfl _ 24 rfl rfl (by decide)
      obtain ⟨hk, ho⟩ := hI
      refine wp_enterR 134 #[V, zz] (by unfold execOp; go_simp; go_invoke; rfl) (HZ.out w0 a_w zz (n + 3) _ ho (by omega)) ?_
      rintro v' w' ⟨h1, h2⟩
      exact ⟨v', rfl, hk.trans h2, h1⟩
    case sbBes =>
      intro a a_w x hI hv hf
      have e27 : a.tmps[27]?.getD undef = .iface 72 U := hf.1 ⟨9, .data⟩ (by simp) rfl _ 27 rfl rfl (by decide)
      obtain ⟨hk, ho⟩ := hI
      have e25 := get_some hv
      refine wp_enterR 147 #[U, x] (by unfold execOp; go_simp; go_invoke; rfl) (HO.out w0 a_w x (n + 3 + lz) _ ho (by omega)) ?_
      rintro v' w' ⟨h1, h2⟩
      exact ⟨v', rfl, hk.trans h2, h1⟩
    case scBes =>
      intro a a_w x y' hI hv hu hf
      obtain ⟨hk, ho⟩ := hI
      have e28 := get_some hu
      exact wp_value y' (by unfold execOp; go_simp) ⟨y', rfl, rfl, hk, ho⟩
    intro x u zz2 w5 hI
    obtain ⟨rfl, hk, ho⟩ := hI
    have HK3 := Lib.hid (HK2.out.trans hk)
    have HO3 := Lib.hid ho
    clear hk ho
    simp only [fill, Act.put]
    go_simp
    go_wp2_with fail
    go_ret
    exact ⟨zz2, rfl, by rw [HLN.out, H3C.out, show n + (lz + lo + 3) = n + 3 + lz + lo by omega]; have h := HO3.out; simp only [List.append_assoc] at h ⊢; exact h, HK3.out⟩
  · have HZ := Lib.hid hz
    have HO := Lib.hid ho
    rw [ez, eo]
    clear ez eo hz ho
    go_enter Tryz.func147, Tryz.ntmps147
    go_wp2_with fail
    obtain ⟨W1, hW1⟩ : ∃ W1, W.alloc (.cells #[.int .u8 wh, .int .i64 (s : Int), .iface 72 V, .iface 65 U] 72) = W1 := ⟨_, rfl⟩
    rw [hW1]
    have HM0 : Hid (W1.heap[B]? = some (.cells #[.int .u8 wh, .int .i64 (s : Int), .iface 72 V, .iface 65 U] 72 (0, 0))) := by show _ = _; rw [← hW1, ← HBB.out]; exact heap_alloc_new W _
    have HO1 : Hid (Own w0 W1 5 1 v n xs) := by show Own _ _ _ _ _ _ _; rw [← hW1]; exact HO0.out.later ((Below.refl _ _).alloc (Nat.le_refl _) _)
    have HKW0 : Hid (KeepsU W W1) := by show KeepsU _ _; rw [← hW1]; exact KeepsU.of_below ((Below.refl _ _).alloc (Nat.le_refl _) _)
    clear hW1 HO0
    obtain ⟨c0, c1, c2, c3⟩ := cells4 HM0.out
    clear c0 c1 c2 c3
    have HKW : Hid (KeepsU W W1) := HKW0
    have hcell := fun (w2 : World) (h : w2.heap[B]? = some (.cells #[.int .u8 wh, .int .i64 (s : Int), .iface 72 V, .iface 65 U] 72 (0, 0))) => cells4 h
    refine wp_region_chain3 (fun | 0 => v | 1 => .pointer (some ⟨B, 0, none⟩) | 2 => .int .u8 wh | 3 => .pointer (some ⟨B, 1, none⟩) | 4 => .int .i64 (s : Int) | 5 => .int .i64 (d1 : Int) | 6 => .int .u8 (D1.toNat : Int) | 7 => .pointer (some ⟨B, 1, none⟩) | 8 => .int .i64 (s : Int) | 9 => .int .i64 (d2 : Int) | 10 => .int .u8 (D2.toNat : Int) | _ => undef) (fun i => !(i == 11) && !(i == 12) && !(i == 13)) 11 12 13 16 17 1 _ _ _
      (fun w => w.heap[B]? = some (.cells #[.int .u8 wh, .int .i64 (s : Int), .iface 72 V, .iface 65 U] 72 (0, 0)) ∧ KeepsU W1 w ∧ Own w0 w 5 1 v n xs) (fun x w => ∃ g, x = .slice (some ⟨g, 0, none⟩) 3 3 ∧ w.heap[B]? = some (.cells #[.int .u8 wh, .int .i64 (s : Int), .iface 72 V, .iface 65 U] 72 (0, 0)) ∧ KeepsU W1 w ∧ Own w0 w 5 1 v n xs ∧ ∀ j u, ([.int .u8 wh, .int .u8 (D1.toNat : Int), .int .u8 (D2.toNat : Int)] : List Value)[j]? = some u → w.cell? ((⟨g, 0, none⟩ : Addr).add j) = some u) (fun _ y w => w.heap[B]? = some (.cells #[.int .u8 wh, .int .i64 (s : Int), .iface 72 V, .iface 65 U] 72 (0, 0)) ∧ KeepsU W1 w ∧ Own w0 w 5 1 y (n + 3) (xs ++ [.int .u8 wh, .int .u8 (D1.toNat : Int), .int .u8 (D2.toNat : Int)])) (fun _ y z w => z = y ∧ w.heap[B]? = some (.cells #[.int .u8 wh, .int .i64 (s : Int), .iface 72 V, .iface 65 U] 72 (0, 0)) ∧ KeepsU W1 w ∧ Own w0 w 5 1 y (n + 3) (xs ++ [.int .u8 wh, .int .u8 (D1.toNat : Int), .int .u8 (D2.toNat : Int)])) (fun w => w.heap[B]? = some (.cells #[.int .u8 wh, .int .i64 (s : Int), .iface 72 V, .iface 65 U] 72 (0, 0)))
      (by kernel_rfl) (by kernel_rfl) rfl rfl rfl rfl rfl rfl rfl rfl (by decide) (by decide) ⟨⟨11, .data⟩, (by simp), rfl, rfl⟩ ⟨⟨12, .data⟩, (by simp), rfl, rfl⟩ ?otAse ?h0Ase ?j0Ase ?j1Ase ?j2Ase ?j3Ase ?conAse ?saAse ?sbAse ?scAse ?enAse
    case otAse =>
      intro i o ho hki
      match i, ho with
      | 0, ho =>
        obtain rfl := Option.some.inj ho
        exact ⟨by decide, by decide, by decide⟩
      | 1, ho =>
        obtain rfl := Option.some.inj ho
        exact ⟨by decide, by decide, by decide⟩
      | 2, ho =>
        obtain rfl := Option.some.inj ho
        exact ⟨by decide, by decide, by decide⟩
      | 3, ho =>
        obtain rfl := Option.some.inj ho
        exact ⟨by decide, by decide, by decide⟩
      | 4, ho =>
        obtain rfl := Option.some.inj ho
        exact ⟨by decide, by decide, by decide⟩
      | 5, ho =>
        obtain rfl := Option.some.inj ho
        exact ⟨by decide, by decide, by decide⟩
      | 6, ho =>
        obtain rfl := Option.some.inj ho
        exact ⟨by decide, by decide, by decide⟩
      | 7, ho =>
        obtain rfl := Option.some.inj ho
        exact ⟨by decide, by decide, by decide⟩
      | 8, ho =>
        obtain rfl := Option.some.inj ho
        exact ⟨by decide, by decide, by decide⟩
      | 9, ho =>
        obtain rfl := Option.some.inj ho
        exact ⟨by decide, by decide, by decide⟩
      | 10, ho =>
        obtain rfl := Option.some.inj ho
        exact ⟨by decide, by decide, by decide⟩
      | 11, ho => exact absurd hki (by decide)
      | 12, ho => exact absurd hki (by decide)
      | 13, ho => exact absurd hki (by decide)
      | q + 14, ho => simp at ho
    case h0Ase => exact ⟨HM0.out, KeepsU.of_below (drew_at W1), HO1.out.later (drew_at W1)⟩
    case j0Ase => exact fun w h => h.1
    case j1Ase => exact fun x w h => (by obtain ⟨g, _, h2, _⟩ := h; exact h2)
    case j2Ase => exact fun x y w h => h.1
    case j3Ase => exact fun x y z w h => h.2.1
    case conAse =>
      intro i o ho hki a w2 hJ hf hold
      match i, ho with
      | 0, ho =>
        obtain rfl := Option.some.inj ho
        have b1 : a.tmps[1]?.getD undef = v := hold ⟨⟨0, .phase⟩, (by simp), rfl, rfl⟩
        exact wp_value (v) (by unfold execOp; go_simp) ⟨rfl, rfl⟩
      | 1, ho =>
        obtain rfl := Option.some.inj ho
        have b2 : a.tmps[2]?.getD undef = .pointer (some ⟨B, 0, none⟩) := hf.2 2 (by kernel_rfl)
        exact wp_value (.pointer (some ⟨B, 0, none⟩)) (by unfold execOp; go_simp) ⟨rfl, rfl⟩
      | 2, ho =>
        obtain rfl := Option.some.inj ho
        have e6 : a.tmps[6]?.getD undef = .pointer (some ⟨B, 0, none⟩) := hf.1 ⟨1, .data⟩ (by simp) rfl _ 6 rfl rfl (by decide)
        obtain ⟨c0, c1, c2, c3⟩ := hcell _ hJ
        exact wp_value (.int .u8 wh) (by unfold execOp; go_simp) ⟨rfl, rfl⟩
      | 3, ho =>
        obtain rfl := Option.some.inj ho
        have b2 : a.tmps[2]?.getD undef = .pointer (some ⟨B, 0, none⟩) := hf.2 2 (by kernel_rfl)
        exact wp_value (.pointer (some ⟨B, 1, none⟩)) (by unfold execOp; go_simp) ⟨rfl, rfl⟩
      | 4, ho =>
        obtain rfl := Option.some.inj ho
        have e8 : a.tmps[8]?.getD undef = .pointer (some ⟨B, 1, none⟩) := hf.1 ⟨3, .data⟩ (by simp) rfl _ 8 rfl rfl (by decide)
        obtain ⟨c0, c1, c2, c3⟩ := hcell _ hJ
        exact wp_value (.int .i64 (s : Int)) (by unfold execOp; go_simp) ⟨rfl, rfl⟩
      | 5, ho =>
        obtain rfl := Option.some.inj ho
        have e9 : a.tmps[9]?.getD undef = .int .i64 (s : Int) := hf.1 ⟨4, .data⟩ (by simp) rfl _ 9 rfl rfl (by decide)
        exact wp_value (.int .i64 (d1 : Int)) (by unfold execOp; go_simp) ⟨rfl, rfl⟩
      | 6, ho =>
        obtain rfl := Option.some.inj ho
        have e10 : a.tmps[10]?.getD undef = .int .i64 (d1 : Int) := hf.1 ⟨5, .data⟩ (by simp) rfl _ 10 rfl rfl (by decide)
        exact wp_value (.int .u8 (D1.toNat : Int)) (by unfold execOp; go_simp; intro hge; exact absurd hge (by omega)) ⟨rfl, rfl⟩
      | 7, ho =>
        obtain rfl := Option.some.inj ho
        have b2 : a.tmps[2]?.getD undef = .pointer (some ⟨B, 0, none⟩) := hf.2 2 (by kernel_rfl)
        exact wp_value (.pointer (some ⟨B, 1, none⟩)) (by unfold execOp; go_simp) ⟨rfl, rfl⟩
      | 8, ho =>
        obtain rfl := Option.some.inj ho
        have e12 : a.tmps[12]?.getD undef = .pointer (some ⟨B, 1, none⟩) := hf.1 ⟨7, .data⟩ (by simp) rfl _ 12 rfl rfl (by decide)
        obtain ⟨c0, c1, c2, c3⟩ := hcell _ hJ
        exact wp_value (.int .i64 (s : Int)) (by unfold execOp; go_simp) ⟨rfl, rfl⟩
      | 9, ho =>
        obtain rfl := Option.some.inj ho
        have e13 : a.tmps[13]?.getD undef = .int .i64 (s : Int) := hf.1 ⟨8, .data⟩ (by simp) rfl _ 13 rfl rfl (by decide)
        exact wp_value (.int .i64 (d2 : Int)) (by unfold execOp; go_simp) ⟨rfl, rfl⟩
      | 10, ho =>
        obtain rfl := Option.some.inj ho
        have e14 : a.tmps[14]?.getD undef = .int .i64 (d2 : Int) := hf.1 ⟨9, .data⟩ (by simp) rfl _ 14 rfl rfl (by decide)
        exact wp_value (.int .u8 (D2.toNat : Int)) (by unfold execOp; go_simp; intro hge; exact absurd hge (by omega)) ⟨rfl, rfl⟩
      | 11, ho => exact absurd hki (by decide)
      | 12, ho => exact absurd hki (by decide)
      | 13, ho => exact absurd hki (by decide)
      | q + 14, ho => simp at ho
    case saAse =>
      intro a w2 hI hf
      have e7 : a.tmps[7]?.getD undef = .int .u8 wh := hf.1 ⟨2, .data⟩ (by simp) rfl _ 7 rfl rfl (by decide)
      have e11 : a.tmps[11]?.getD undef = .int .u8 (D1.toNat : Int) := hf.1 ⟨6, .data⟩ (by simp) rfl _ 11 rfl rfl (by decide)
      have e15 : a.tmps[15]?.getD undef = .int .u8 (D2.toNat : Int) := hf.1 ⟨10, .data⟩ (by simp) rfl _ 15 rfl rfl (by decide)
      obtain ⟨hr, hk, ho⟩ := hI
      have hbl : Below w2.heap.size w2 (w2.alloc (.cells ([.int .u8 wh, .int .u8 (D1.toNat : Int), .int .u8 (D2.toNat : Int)] : List Value).toArray 5)) := (Below.refl _ _).alloc (Nat.le_refl _) _
      exact wp_valueW (.slice (some ⟨w2.heap.size, 0, none⟩) 3 3) (w2.alloc (.cells ([.int .u8 wh, .int .u8 (D1.toNat : Int), .int .u8 (D2.toNat : Int)] : List Value).toArray 5)) (by unfold execOp; go_simp) ⟨_, rfl, w2.heap.size, rfl, (hbl.block B (Array.getElem?_eq_some_iff.1 hr).1).trans hr, hk.trans (KeepsU.of_below hbl), ho.later hbl, cells_list _ _⟩
    case sbAse =>
      intro a w2 x hI hv hf
      have e5 : a.tmps[5]?.getD undef = v := hf.1 ⟨0, .data⟩ (by simp) rfl _ 5 rfl rfl (by decide)
      obtain ⟨g, rfl, hr, hk, ho, hc⟩ := hI
      refine wp_append_own w2 (.tmp 5) (.tmp 16) 22 rfl w0.heap.size 5 i0 (.int .u8 0) 1 1 Tryz.underlying22 hi hz0 hz1 hz2 rfl (by decide) v n xs (eval_get e5) ho.row ⟨g, 0, none⟩ 3 3 [.int .u8 wh, .int .u8 (D1.toNat : Int), .int .u8 (D2.toNat : Int)] (eval_some hv) rfl hc (by simp [Value.oneCell']) (by unfold maxLen; omega) (by omega) ho.below.size ?_
      intro v3 w3 hown3 hgrow3 _
      have hk3 := KeepsU.of_grown ho.row hgrow3
      exact ⟨v3, rfl, hk3.row hr, hk.trans hk3, ⟨hown3, ho.below.grown hgrow3 ho.below.size fun j hj => (ho.row.lt j hj).1⟩⟩
    case scAse =>
      intro a w2 x y hI hv hu hf
      obtain ⟨hr, hk, ho⟩ := hI
      have e17 := get_some hu
      exact wp_value y (by unfold execOp; go_simp) ⟨y, rfl, rfl, hr, hk, ho⟩
    intro x y zz w2 hI
    obtain ⟨rfl, hr, hk, ho⟩ := hI
    have HR2 := Lib.hid hr
    have HK2 := Lib.hid (HKW.out.trans hk)
    have HO2 := Lib.hid ho
    clear hr hk ho HM0 HO1 HKW
    simp only [fill, Act.put]
    go_simp
    go_wp2_with fail
    refine wp_region_chain3 (fun | 0 => .pointer (some ⟨B, 2, none⟩) | 1 => .pointer (some ⟨B, 3, none⟩) | 2 => .iface 65 U | 3 => .pointer (some ⟨B, 2, none⟩) | 4 => .pointer (some ⟨B, 2, none⟩) | 5 => .iface 72 V | 6 => zz | 8 => .iface 65 U | 9 => .iface 65 U | _ => undef) (fun i => !(i == 7) && !(i == 10) && !(i == 11)) 7 10 11 25 28 4 _ _ _
      (fun w => KeepsU w2 w ∧ Own w0 w 5 1 zz (n + 3) (xs ++ [.int .u8 wh, .int .u8 (D1.toNat : Int), .int .u8 (D2.toNat : Int)])) (fun x w => KeepsU w2 w ∧ Own w0 w 5 1 x (n + 3 + lz) (xs ++ [.int .u8 wh, .int .u8 (D1.toNat : Int), .int .u8 (D2.toNat : Int)] ++ cz)) (fun _ u w => KeepsU w2 w ∧ Own w0 w 5 1 u (n + 3 + lz + lo) (xs ++ [.int .u8 wh, .int .u8 (D1.toNat : Int), .int .u8 (D2.toNat : Int)] ++ cz ++ co)) (fun _ u z w => z = u ∧ KeepsU w2 w ∧ Own w0 w 5 1 u (n + 3 + lz + lo) (xs ++ [.int .u8 wh, .int .u8 (D1.toNat : Int), .int .u8 (D2.toNat : Int)] ++ cz ++ co)) (fun w => w.heap[B]? = some (.cells #[.int .u8 wh, .int .i64 (s : Int), .iface 72 V, .iface 65 U] 72 (0, 0)))
      (by kernel_rfl) (by kernel_rfl) rfl rfl rfl rfl rfl rfl rfl rfl (by decide) (by decide) ⟨⟨7, .data⟩, (by simp), rfl, rfl⟩ ⟨⟨10, .data⟩, (by simp), rfl, rfl⟩ ?otBse ?h0Bse ?j0Bse ?j1Bse ?j2Bse ?j3Bse ?conBse ?saBse ?sbBse ?scBse ?enBse
    case otBse =>
      intro i o ho hki
      match i, ho with
      | 0, ho =>
        obtain rfl := Option.some.inj ho
        exact ⟨by decide, by decide, by decide⟩
      | 1, ho =>
        obtain rfl := Option.some.inj ho
        exact ⟨by decide, by decide, by decide⟩
      | 2, ho =>
        obtain rfl := Option.some.inj ho
        exact ⟨by decide, by decide, by decide⟩
      | 3, ho =>
        obtain rfl := Option.some.inj ho
        exact ⟨by decide, by decide, by decide⟩
      | 4, ho =>
        obtain rfl := Option.some.inj ho
        exact ⟨by decide, by decide, by decide⟩
      | 5, ho =>
        obtain rfl := Option.some.inj ho
        exact ⟨by decide, by decide, by decide⟩
      | 6, ho =>
        obtain rfl := Option.some.inj ho
        exact ⟨by decide, by decide, by decide⟩
      | 7, ho => exact absurd hki (by decide)
      | 8, ho =>
        obtain rfl := Option.some.inj ho
        exact ⟨by decide, by decide, by decide⟩
      | 9, ho =>
        obtain rfl := Option.some.inj ho
        exact ⟨by decide, by decide, by decide⟩
      | 10, ho => exact absurd hki (by decide)
      | 11, ho => exact absurd hki (by decide)
      | q + 12, ho => simp at ho
    case h0Bse => exact ⟨KeepsU.of_below (drew_at w2), HO2.out.later (drew_at w2)⟩
    case j0Bse => exact fun w h => h.1.row HR2.out
    case j1Bse => exact fun x w h => h.1.row HR2.out
    case j2Bse => exact fun x u w h => h.1.row HR2.out
    case j3Bse => exact fun x u z w h => h.2.1.row HR2.out
    case conBse =>
      intro i o ho hki a a_w hJ hf hold
      match i, ho with
      | 0, ho =>
        obtain rfl := Option.some.inj ho
        have b2 : a.tmps[2]?.getD undef = .pointer (some ⟨B, 0, none⟩) := hf.2 2 (by kernel_rfl)
        exact wp_value (.pointer (some ⟨B, 2, none⟩)) (by unfold execOp; go_simp) ⟨rfl, rfl⟩
      | 1, ho =>
        obtain rfl := Option.some.inj ho
        have e18 : a.tmps[18]?.getD undef = .pointer (some ⟨B, 2, none⟩) := hf.1 ⟨0, .data⟩ (by simp) rfl _ 18 rfl rfl (by decide)
        exact wp_value (.pointer (some ⟨B, 3, none⟩)) (by unfold execOp; go_simp) ⟨rfl, rfl⟩
      | 2, ho =>
        obtain rfl := Option.some.inj ho
        have e19 : a.tmps[19]?.getD undef = .pointer (some ⟨B, 3, none⟩) := hf.1 ⟨1, .data⟩ (by simp) rfl _ 19 rfl rfl (by decide)
        obtain ⟨c0, c1, c2, c3⟩ := hcell _ hJ
        exact wp_value (.iface 65 U) (by unfold execOp; go_simp) ⟨rfl, rfl⟩
      | 3, ho =>
        obtain rfl := Option.some.inj ho
        have b2 : a.tmps[2]?.getD undef = .pointer (some ⟨B, 0, none⟩) := hf.2 2 (by kernel_rfl)
        exact wp_value (.pointer (some ⟨B, 2, none⟩)) (by unfold execOp; go_simp) ⟨rfl, rfl⟩
      | 4, ho =>
        obtain rfl := Option.some.inj ho
        have e21 : a.tmps[21]?.getD undef = .pointer (some ⟨B, 2, none⟩) := hf.1 ⟨3, .data⟩ (by simp) rfl _ 21 rfl rfl (by decide)
        exact wp_value (.pointer (some ⟨B, 2, none⟩)) (by unfold execOp; go_simp) ⟨rfl, rfl⟩
      | 5, ho =>
        obtain rfl := Option.some.inj ho
        have e22 : a.tmps[22]?.getD undef = .pointer (some ⟨B, 2, none⟩) := hf.1 ⟨4, .data⟩ (by simp) rfl _ 22 rfl rfl (by decide)
        obtain ⟨c0, c1, c2, c3⟩ := hcell _ hJ
        exact wp_value (.iface 72 V) (by unfold execOp; go_simp) ⟨rfl, rfl⟩
      | 6, ho =>
        obtain rfl := Option.some.inj ho
        have b1 : a.tmps[1]?.getD undef = zz := hf.2 1 (by kernel_rfl)
        exact wp_value (zz) (by unfold execOp; go_simp) ⟨rfl, rfl⟩
      | 7, ho => exact absurd hki (by decide)
      | 8, ho =>
        obtain rfl := Option.some.inj ho
        have e20 : a.tmps[20]?.getD undef = .iface 65 U := hf.1 ⟨2, .data⟩ (by simp) rfl _ 20 rfl rfl (by decide)
        exact wp_value (.iface 65 U) (by unfold execOp; go_simp) ⟨rfl, rfl⟩
      | 9, ho =>
        obtain rfl := Option.some.inj ho
        have e20 : a.tmps[20]?.getD undef = .iface 65 U := hf.1 ⟨2, .data⟩ (by simp) rfl _ 20 rfl rfl (by decide)
        exact wp_value (.iface 65 U) (by unfold execOp; go_simp) ⟨rfl, rfl⟩
      | 10, ho => exact absurd hki (by decide)
      | 11, ho => exact absurd hki (by decide)
      | q + 12, ho => simp at ho
    case saBse =>
      intro a a_w hI hf
      have e23 : a.tmps[23]?.getD undef = .iface 72 V := hf.1 ⟨5, .data⟩ (by simp) rfl _ 23 rfl rfl (by decide)
      have e24 : a.tmps[24]?.getD undef = zz := hf.1 ⟨6, .data⟩ (by simp) rfl _ 24 rfl rfl (by decide)
      obtain ⟨hk, ho⟩ := hI
      refine wp_enterR 147 #[V, zz] (by unfold execOp; go_simp; go_invoke; rfl) (HZ.out w0 a_w zz (n + 3) _ ho (by omega)) ?_
      rintro v' w' ⟨h1, h2⟩
      exact ⟨v', rfl, hk.trans h2, h1⟩
    case sbBse =>
      intro a a_w x hI hv hf
      have e27 : a.tmps[27]?.getD undef = .iface 65 U := hf.1 ⟨9, .data⟩ (by simp) rfl _ 27 rfl rfl (by decide)
      obtain ⟨hk, ho⟩ := hI
      have e25 := get_some hv
      refine wp_enterR 134 #[U, x] (by unfold execOp; go_simp; go_invoke; rfl) (HO.out w0 a_w x (n + 3 + lz) _ ho (by omega)) ?_
      rintro v' w' ⟨h1, h2⟩
      exact ⟨v', rfl, hk.trans h2, h1⟩
    case scBse =>
      intro a a_w x y' hI hv hu hf
      obtain ⟨hk, ho⟩ := hI
      have e28 := get_some hu
      exact wp_value y' (by unfold execOp; go_simp) ⟨y', rfl, rfl, hk, ho⟩
    intro x u zz2 w5 hI
    obtain ⟨rfl, hk, ho⟩ := hI
    have HK3 := Lib.hid (HK2.out.trans hk)
    have HO3 := Lib.hid ho
    clear hk ho
    simp only [fill, Act.put]
    go_simp
    go_wp2_with fail
    go_ret
    exact ⟨zz2, rfl, by rw [HLN.out, H3C.out, show n + (lz + lo + 3) = n + 3 + lz + lo by omega]; have h := HO3.out; simp only [List.append_assoc] at h ⊢; exact h, HK3.out⟩
  · have HZ := Lib.hid hz
    have HO := Lib.hid ho
    rw [ez, eo]
    clear ez eo hz ho
    go_enter Tryz.func147, Tryz.ntmps147
    go_wp2_with fail
    obtain ⟨W1, hW1⟩ : ∃ W1, W.alloc (.cells #[.int .u8 wh, .int .i64 (s : Int), .iface 72 V, .iface 72 U] 72) = W1 := ⟨_, rfl⟩
    rw [hW1]
    have HM0 : Hid (W1.heap[B]? = some (.cells #[.int .u8 wh, .int .i64 (s : Int), .iface 72 V, .iface 72 U] 72 (0, 0))) := by show _ = _; rw [← hW1, ← HBB.out]; exact heap_alloc_new W _
    have HO1 : Hid (Own w0 W1 5 1 v n xs) := by show Own _ _ _ _ _ _ _; rw [← hW1]; exact HO0.out.later ((Below.refl _ _).alloc (Nat.le_refl _) _)
    have HKW0 : Hid (KeepsU W W1) := by show KeepsU _ _; rw [← hW1]; exact KeepsU.of_below ((Below.refl _ _).alloc (Nat.le_refl _) _)
    clear hW1 HO0
    obtain ⟨c0, c1, c2, c3⟩ := cells4 HM0.out
    clear c0 c1 c2 c3
    have HKW : Hid (KeepsU W W1) := HKW0
    have hcell := fun (w2 : World) (h : w2.heap[B]? = some (.cells #[.int .u8 wh, .int .i64 (s : Int), .iface 72 V, .iface 72 U] 72 (0, 0))) => cells4 h
    refine wp_region_chain3 (fun | 0 => v | 1 => .pointer (some ⟨B, 0, none⟩) | 2 => .int .u8 wh | 3 => .pointer (some ⟨B, 1, none⟩) | 4 => .int .i64 (s : Int) | 5 => .int .i64 (d1 : Int) | 6 => .int .u8 (D1.toNat : Int) | 7 => .pointer (some ⟨B, 1, none⟩) | 8 => .int .i64 (s : Int) | 9 => .int .i64 (d2 : Int) | 10 => .int .u8 (D2.toNat : Int) | _ => undef) (fun i => !(i == 11) && !(i == 12) && !(i == 13)) 11 12 13 16 17 1 _ _ _
      (fun w => w.heap[B]? = some (.cells #[.int .u8 wh, .int .i64 (s : Int), .iface 72 V, .iface 72 U] 72 (0, 0)) ∧ KeepsU W1 w ∧ Own w0 w 5 1 v n xs) (fun x w => ∃ g, x = .slice (some ⟨g, 0, none⟩) 3 3 ∧ w.heap[B]? = some (.cells #[.int .u8 wh, .int .i64 (s : Int), .iface 72 V, .iface 72 U] 72 (0, 0)) ∧ KeepsU W1 w ∧ Own w0 w 5 1 v n xs ∧ ∀ j u, ([.int .u8 wh, .int .u8 (D1.toNat : Int), .int .u8 (D2.toNat : Int)] : List Value)[j]? = some u → w.cell? ((⟨g, 0, none⟩ : Addr).add j) = some u) (fun _ y w => w.heap[B]? = some (.cells #[.int .u8 wh, .int .i64 (s : Int), .iface 72 V, .iface 72 U] 72 (0, 0)) ∧ KeepsU W1 w ∧ Own w0 w 5 1 y (n + 3) (xs ++ [.int .u8 wh, .int .u8 (D1.toNat : Int), .int .u8 (D2.toNat : Int)])) (fun _ y z w => z = y ∧ w.heap[B]? = some (.cells #[.int .u8 wh, .int .i64 (s : Int), .iface 72 V, .iface 72 U] 72 (0, 0)) ∧ KeepsU W1 w ∧ Own w0 w 5 1 y (n + 3) (xs ++ [.int .u8 wh, .int .u8 (D1.toNat : Int), .int .u8 (D2.toNat : Int)])) (fun w => w.heap[B]? = some (.cells #[.int .u8 wh, .int .i64 (s : Int), .iface 72 V, .iface 72 U] 72 (0, 0)))
      (by kernel_rfl) (by kernel_rfl) rfl rfl rfl rfl rfl rfl rfl rfl (by decide) (by decide) ⟨⟨11, .data⟩, (by simp), rfl, rfl⟩ ⟨⟨12, .data⟩, (by simp), rfl, rfl⟩ ?otAss ?h0Ass ?j0Ass ?j1Ass ?j2Ass ?j3Ass ?conAss ?saAss ?sbAss ?scAss ?enAss
    case otAss =>
      intro i o ho hki
      match i, ho with
      | 0, ho =>
        obtain rfl := Option.some.inj ho
        exact ⟨by decide, by decide, by decide⟩
      | 1, ho =>
        obtain rfl := Option.some.inj ho
        exact ⟨by decide, by decide, by decide⟩
      | 2, ho =>
        obtain rfl := Option.some.inj ho
        exact ⟨by decide, by decide, by decide⟩
      | 3, ho =>
        obtain rfl := Option.some.inj ho
        exact ⟨by decide, by decide, by decide⟩
      | 4, ho =>
        obtain rfl := Option.some.inj ho
        exact ⟨by decide, by decide, by decide⟩
      | 5, ho =>
        obtain rfl := Option.some.inj ho
        exact ⟨by decide, by decide, by decide⟩
      | 6, ho =>
        obtain rfl := Option.some.inj ho
        exact ⟨by decide, by decide, by decide⟩
      | 7, ho =>
        obtain rfl := Option.some.inj ho
        exact ⟨by decide, by decide, by decide⟩
      | 8, ho =>
        obtain rfl := Option.some.inj ho
        exact ⟨by decide, by decide, by decide⟩
      | 9, ho =>
        obtain rfl := Option.some.inj ho
        exact ⟨by decide, by decide, by decide⟩
      | 10, ho =>
        obtain rfl := Option.some.inj ho
        exact ⟨by decide, by decide, by decide⟩
      | 11, ho => exact absurd hki (by decide)
      | 12, ho => exact absurd hki (by decide)
      | 13, ho => exact absurd hki (by decide)
      | q + 14, ho => simp at ho
    case h0Ass => exact ⟨HM0.out, KeepsU.of_below (drew_at W1), HO1.out.later (drew_at W1)⟩
    case j0Ass => exact fun w h => h.1
    case j1Ass => exact fun x w h => (by obtain ⟨g, _, h2, _⟩ := h; exact h2)
    case j2Ass => exact fun x y w h => h.1
    case j3Ass => exact fun x y z w h => h.2.1
    case conAss =>
      intro i o ho hki a w2 hJ hf hold
      match i, ho with
      | 0, ho =>
        obtain rfl := Option.some.inj ho
        have b1 : a.tmps[1]?.getD undef = v := hold ⟨⟨0, .phase⟩, (by simp), rfl, rfl⟩
        exact wp_value (v) (by unfold execOp; go_simp) ⟨rfl, rfl⟩
      | 1, ho =>
        obtain rfl := Option.some.inj ho
        have b2 : a.tmps[2]?.getD undef = .pointer (some ⟨B, 0, none⟩) := hf.2 2 (by kernel_rfl)
        exact wp_value (.pointer (some ⟨B, 0, none⟩)) (by unfold execOp; go_simp) ⟨rfl, rfl⟩
      | 2, ho =>
        obtain rfl := Option.some.inj ho
        have e6 : a.tmps[6]?.getD undef = .pointer (some ⟨B, 0, none⟩) := hf.1 ⟨1, .data⟩ (by simp) rfl _ 6 rfl rfl (by decide)
        obtain ⟨c0, c1, c2, c3⟩ := hcell _ hJ
        exact wp_value (.int .u8 wh) (by unfold execOp; go_simp) ⟨rfl, rfl⟩
      | 3, ho =>
        obtain rfl := Option.some.inj ho
        have b2 : a.tmps[2]?.getD undef = .pointer (some ⟨B, 0, none⟩) := hf.2 2 (by kernel_rfl)
        exact wp_value (.pointer (some ⟨B, 1, none⟩)) (by unfold execOp; go_simp) ⟨rfl, rfl⟩
      | 4, ho =>
        obtain rfl := Option.some.inj ho
        have e8 : a.tmps[8]?.getD undef = .pointer (some ⟨B, 1, none⟩) := hf.1 ⟨3, .data⟩ (by simp) rfl _ 8 rfl rfl (by decide)
        obtain ⟨c0, c1, c2, c3⟩ := hcell _ hJ
        exact wp_value (.int .i64 (s : Int)) (by unfold execOp; go_simp) ⟨rfl, rfl⟩
      | 5, ho =>
        obtain rfl := Option.some.inj ho
        have e9 : a.tmps[9]?.getD undef = .int .i64 (s : Int) := hf.1 ⟨4, .data⟩ (by simp) rfl _ 9 rfl rfl (by decide)
        exact wp_value (.int .i64 (d1 : Int)) (by unfold execOp; go_simp) ⟨rfl, rfl⟩
      | 6, ho =>
        obtain rfl := Option.some.inj ho
        have e10 : a.tmps[10]?.getD undef = .int .i64 (d1 : Int) := hf.1 ⟨5, .data⟩ (by simp) rfl _ 10 rfl rfl (by decide)
        exact wp_value (.int .u8 (D1.toNat : Int)) (by unfold execOp; go_simp; intro hge; exact absurd hge (by omega)) ⟨rfl, rfl⟩
      | 7, ho =>
        obtain rfl := Option.some.inj ho
        have b2 : a.tmps[2]?.getD undef = .pointer (some ⟨B, 0, none⟩) := hf.2 2 (by kernel_rfl)
        exact wp_value (.pointer (some ⟨B, 1, none⟩)) (by unfold execOp; go_simp) ⟨rfl, rfl⟩
      | 8, ho =>
        obtain rfl := Option.some.inj ho
        have e12 : a.tmps[12]?.getD undef = .pointer (some ⟨B, 1, none⟩) := hf.1 ⟨7, .data⟩ (by simp) rfl _ 12 rfl rfl (by decide)
        obtain ⟨c0, c1, c2, c3⟩ := hcell _ hJ
        exact wp_value (.int .i64 (s : Int)) (by unfold execOp; go_simp) ⟨rfl, rfl⟩
      | 9, ho =>
        obtain rfl := Option.some.inj ho
        have e13 : a.tmps[13]?.getD undef = .int .i64 (s : Int) := hf.1 ⟨8, .data⟩ (by simp) rfl _ 13 rfl rfl (by decide)
        exact wp_value (.int .i64 (d2 : Int)) (by unfold execOp; go_simp) ⟨rfl, rfl⟩
      | 10, ho =>
        obtain rfl := Option.some.inj ho
        have e14 : a.tmps[14]?.getD undef = .int .i64 (d2 : Int) := hf.1 ⟨9, .data⟩ (by simp) rfl _ 14 rfl rfl (by decide)
        exact wp_value (.int .u8 (D2.toNat : Int)) (by unfold execOp; go_simp; intro hge; exact absurd hge (by omega)) ⟨rfl, rfl⟩
      | 11, ho => exact absurd hki (by decide)
      | 12, ho => exact absurd hki (by decide)
      | 13, ho => exact absurd hki (by decide)
      | q + 14, ho => simp at ho
    case saAss =>
      intro a w2 hI hf
      have e7 : a.tmps[7]?.getD undef = .int .u8 wh := hf.1 ⟨2, .data⟩ (by simp) rfl _ 7 rfl rfl (by decide)
      have e11 : a.tmps[11]?.getD undef = .int .u8 (D1.toNat : Int) := hf.1 ⟨6, .data⟩ (by simp) rfl _ 11 rfl rfl (by decide)
      have e15 : a.tmps[15]?.getD undef = .int .u8 (D2.toNat : Int) := hf.1 ⟨10, .data⟩ (by simp) rfl _ 15 rfl rfl (by decide)
      obtain ⟨hr, hk, ho⟩ := hI
      have hbl : Below w2.heap.size w2 (w2.alloc (.cells ([.int .u8 wh, .int .u8 (D1.toNat : Int), .int .u8 (D2.toNat : Int)] : List Value).toArray 5)) := (Below.refl _ _).alloc (Nat.le_refl _) _
      exact wp_valueW (.slice (some ⟨w2.heap.size, 0, none⟩) 3 3) (w2.alloc (.cells ([.int .u8 wh, .int .u8 (D1.toNat : Int), .int .u8 (D2.toNat : Int)] : List Value).toArray 5)) (by unfold execOp; go_simp) ⟨_, rfl, w2.heap.size, rfl, (hbl.block B (Array.getElem?_eq_some_iff.1 hr).1).trans hr, hk.trans (KeepsU.of_below hbl), ho.later hbl, cells_list _ _⟩
    case sbAss =>
      intro a w2 x hI hv hf
      have e5 : a.tmps[5]?.getD undef = v := hf.1 ⟨0, .data⟩ (by simp) rfl _ 5 rfl rfl (by decide)
      obtain ⟨g, rfl, hr, hk, ho, hc⟩ := hI
      refine wp_append_own w2 (.tmp 5) (.tmp 16) 22 rfl w0.heap.size 5 i0 (.int .u8 0) 1 1 Tryz.underlying22 hi hz0 hz1 hz2 rfl (by decide) v n xs (eval_get e5) ho.row ⟨g, 0, none⟩ 3 3 [.int .u8 wh, .int .u8 (D1.toNat : Int), .int .u8 (D2.toNat : Int)] (eval_some hv) rfl hc (by simp [Value.oneCell']) (by unfold maxLen; omega) (by omega) ho.below.size ?_
      intro v3 w3 hown3 hgrow3 _
      have hk3 := KeepsU.of_grown ho.row hgrow3
      exact ⟨v3, rfl, hk3.row hr, hk.trans hk3, ⟨hown3, ho.below.grown hgrow3 ho.below.size fun j hj => (ho.row.lt j hj).1⟩⟩
    case scAss =>
      intro a w2 x y hI hv hu hf
      obtain ⟨hr, hk, ho⟩ := hI
      have e17 := get_some hu
      exact wp_value y (by unfold execOp; go_simp) ⟨y, rfl, rfl, hr, hk, ho⟩
    intro x y zz w2 hI
    obtain ⟨rfl, hr, hk, ho⟩ := hI
    have HR2 := Lib.hid hr
    have HK2 := Lib.hid (HKW.out.trans hk)
    have HO2 := Lib.hid ho
    clear hr hk ho HM0 HO1 HKW
    simp only [fill, Act.put]
    go_simp
    go_wp2_with fail
    refine wp_region_chain3 (fun | 0 => .pointer (some ⟨B, 2, none⟩) | 1 => .pointer (some ⟨B, 3, none⟩) | 2 => .iface 72 U | 3 => .pointer (some ⟨B, 2, none⟩) | 4 => .pointer (some ⟨B, 2, none⟩) | 5 => .iface 72 V | 6 => zz | 8 => .iface 72 U | 9 => .iface 72 U | _ => undef) (fun i => !(i == 7) && !(i == 10) && !(i == 11)) 7 10 11 25 28 4 _ _ _
      (fun w => KeepsU w2 w ∧ Own w0 w 5 1 zz (n + 3) (xs ++ [.int .u8 wh, .int .u8 (D1.toNat : Int), .int .u8 (D2.toNat : Int)])) (fun x w => KeepsU w2 w ∧ Own w0 w 5 1 x (n + 3 + lz) (xs ++ [.int .u8 wh, .int .u8 (D1.toNat : Int), .int .u8 (D2.toNat : Int)] ++ cz)) (fun _ u w => KeepsU w2 w ∧ Own w0 w 5 1 u (n + 3 + lz + lo) (xs ++ [.int .u8 wh, .int .u8 (D1.toNat : Int), .int .u8 (D2.toNat : Int)] ++ cz ++ co)) (fun _ u z w => z = u ∧ KeepsU w2 w ∧ Own w0 w 5 1 u (n + 3 + lz + lo) (xs ++ [.int .u8 wh, .int .u8 (D1.toNat : Int), .int .u8 (D2.toNat : Int)] ++ cz ++ co)) (fun w => w.heap[B]? = some (.cells #[.int .u8 wh, .int .i64 (s : Int), .iface 72 V, .iface 72 U] 72 (0, 0)))
      (by kernel_rfl) (by kernel_rfl) rfl rfl rfl rfl rfl rfl rfl rfl (by decide) (by decide) ⟨⟨7, .data⟩, (by simp), rfl, rfl⟩ ⟨⟨10, .data⟩, (by simp), rfl, rfl⟩ ?otBss ?h0Bss ?j0Bss ?j1Bss ?j2Bss ?j3Bss ?conBss ?saBss ?sbBss ?scBss ?enBss
    case otBss =>
      intro i o ho hki
      match i, ho with
      | 0, ho =>
        obtain rfl := Option.some.inj ho
        exact ⟨by decide, by decide, by decide⟩
      | 1, ho =>
        obtain rfl := Option.some.inj ho
        exact ⟨by decide, by decide, by decide⟩
      | 2, ho =>
        obtain rfl := Option.some.inj ho
        exact ⟨by decide, by decide, by decide⟩
      | 3, ho =>
        obtain rfl := Option.some.inj ho
        exact ⟨by decide, by decide, by decide⟩
      | 4, ho =>
        obtain rfl := Option.some.inj ho
        exact ⟨by decide, by decide, by decide⟩
      | 5, ho =>
        obtain rfl := Option.some.inj ho
        exact ⟨by decide, by decide, by decide⟩
      | 6, ho =>
        obtain rfl := Option.some.inj ho
        exact ⟨by decide, by decide, by decide⟩
      | 7, ho => exact absurd hki (by decide)
      | 8, ho =>
        obtain rfl := Option.some.inj ho
        exact ⟨by decide, by decide, by decide⟩
      | 9, ho =>
        obtain rfl := Option.some.inj ho
        exact ⟨by decide, by decide, by decide⟩
      | 10, ho => exact absurd hki (by decide)
      | 11, ho => exact absurd hki (by decide)
      | q + 12, ho => simp at ho
    case h0Bss => exact ⟨KeepsU.of_below (drew_at w2), HO2.out.later (drew_at w2)⟩
    case j0Bss => exact fun w h => h.1.row HR2.out
    case j1Bss => exact fun x w h => h.1.row HR2.out
    case j2Bss => exact fun x u w h => h.1.row HR2.out
    case j3Bss => exact fun x u z w h => h.2.1.row HR2.out
    case conBss =>
      intro i o ho hki a a_w hJ hf hold
      match i, ho with
      | 0, ho =>
        obtain rfl := Option.some.inj ho
        have b2 : a.tmps[2]?.getD undef = .pointer (some ⟨B, 0, none⟩) := hf.2 2 (by kernel_rfl)
        exact wp_value (.pointer (some ⟨B, 2, none⟩)) (by unfold execOp; go_simp) ⟨rfl, rfl⟩
      | 1, ho =>
        obtain rfl := Option.some.inj ho
        have e18 : a.tmps[18]?.getD undef = .pointer (some ⟨B, 2, none⟩) := hf.1 ⟨0, .data⟩ (by simp) rfl _ 18 rfl rfl (by decide)
        exact wp_value (.pointer (some ⟨B, 3, none⟩)) (by unfold execOp; go_simp) ⟨rfl, rfl⟩
      | 2, ho =>
        obtain rfl := Option.some.inj ho
        have e19 : a.tmps[19]?.getD undef = .pointer (some ⟨B, 3, none⟩) := hf.1 ⟨1, .data⟩ (by simp) rfl _ 19 rfl rfl (by decide)
        obtain ⟨c0, c1, c2, c3⟩ := hcell _ hJ
        exact wp_value (.iface 72 U) (by unfold execOp; go_simp) ⟨rfl, rfl⟩
      | 3, ho =>
        obtain rfl := Option.some.inj ho
        have b2 : a.tmps[2]?.getD undef = .pointer (some ⟨B, 0, none⟩) := hf.2 2 (by kernel_rfl)
        exact wp_value (.pointer (some ⟨B, 2, none⟩)) (by unfold execOp; go_simp) ⟨rfl, rfl⟩
      | 4, ho =>
        obtain rfl := Option.some.inj ho
        have e21 : a.tmps[21]?.getD undef = .pointer (some ⟨B, 2, none⟩) := hf.1 ⟨3, .data⟩ (by simp) rfl _ 21 rfl rfl (by decide)
        exact wp_value (.pointer (some ⟨B, 2, none⟩)) (by unfold execOp; go_simp) ⟨rfl, rfl⟩
      | 5, ho =>
        obtain rfl := Option.some.inj ho
        have e22 : a.tmps[22]?.getD undef = .pointer (some ⟨B, 2, none⟩) := hf.1 ⟨4, .data⟩ (by simp) rfl _ 22 rfl rfl (by decide)
        obtain ⟨c0, c1, c2, c3⟩ := hcell _ hJ
        exact wp_value (.iface 72 V) (by unfold execOp; go_simp) ⟨rfl, rfl⟩
      | 6, ho =>
        obtain rfl := Option.some.inj ho
        have b1 : a.tmps[1]?.getD undef = zz := hf.2 1 (by kernel_rfl)
        exact wp_value (zz) (by unfold execOp; go_simp) ⟨rfl, rfl⟩
      | 7, ho => exact absurd hki (by decide)
      | 8, ho =>
        obtain rfl := Option.some.inj ho
        have e20 : a.tmps[20]?.getD undef = .iface 72 U := hf.1 ⟨2, .data⟩ (by simp) rfl _ 20 rfl rfl (by decide)
        exact wp_value (.iface 72 U) (by unfold execOp; go_simp) ⟨rfl, rfl⟩
      | 9, ho =>
        obtain rfl := Option.some.inj ho
        have e20 : a.tmps[20]?.getD undef = .iface 72 U := hf.1 ⟨2, .data⟩ (by simp) rfl _ 20 rfl rfl (by decide)
        exact wp_value (.iface 72 U) (by unfold execOp; go_simp) ⟨rfl, rfl⟩
      | 10, ho => exact absurd hki (by decide)
      | 11, ho => exact absurd hki (by decide)
      | q + 12, ho => simp at ho
    case saBss =>
      intro a a_w hI hf
      have e23 : a.tmps[23]?.getD undef = .iface 72 V := hf.1 ⟨5, .data⟩ (by simp) rfl _ 23 rfl rfl (by decide)
      have e24 : a.tmps[24]?.getD undef = zz := hf.1 ⟨6, .data⟩ (by simp) rfl _ 24 rfl rfl (by decide)
      obtain ⟨hk, ho⟩ := hI
      refine wp_enterR 147 #[V, zz] (by unfold execOp; go_simp; go_invoke; rfl) (HZ.out w0 a_w zz (n + 3) _ ho (by omega)) ?_
      rintro v' w' ⟨h1, h2⟩
      exact ⟨v', rfl, hk.trans h2, h1⟩
    case sbBss =>
      intro a a_w x hI hv hf
      have e27 : a.tmps[27]?.getD undef = .iface 72 U := hf.1 ⟨9, .data⟩ (by simp) rfl _ 27 rfl rfl (by decide)
      obtain ⟨hk, ho⟩ := hI
      have e25 := get_some hv
      refine wp_enterR 147 #[U, x] (by unfold execOp; go_simp; go_invoke; rfl) (HO.out w0 a_w x (n + 3 + lz) _ ho (by omega)) ?_
      rintro v' w' ⟨h1, h2⟩
      exact ⟨v', rfl, hk.trans h2, h1⟩
    case scBss =>
      intro a a_w x y' hI hv hu hf
      obtain ⟨hk, ho⟩ := hI
      have e28 := get_some hu
      exact wp_value y' (by unfold execOp; go_simp) ⟨y', rfl, rfl, hk, ho⟩
    intro x u zz2 w5 hI
    obtain ⟨rfl, hk, ho⟩ := hI
    have HK3 := Lib.hid (HK2.out.trans hk)
    have HO3 := Lib.hid ho
    clear hk ho
    simp only [fill, Act.put]
    go_simp
    go_wp2_with fail
    go_ret
    exact ⟨zz2, rfl, by rw [HLN.out, H3C.out, show n + (lz + lo + 3) = n + 3 + lz + lo by omega]; have h := HO3.out; simp only [List.append_assoc] at h ⊢; exact h, HK3.out⟩

theorem app_to (t : T) (hw : wf t) : Go.Proofs.YtbccachkkflceaaGreatDoor.Count.Node 134 147 t (AppC t) := by
  induction t with
  | leaf b => exact .inl ⟨_, rfl, end_app b⟩
  | say a s z o ihz iho => exact .inr ⟨_, rfl, say_app a s hw.1 z o (ihz hw.2.1) (iho hw.2.2)⟩
end Go.Proofs.YtbccachkkflceaaGreatDoor.AppendTo

