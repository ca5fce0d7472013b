/-
  Texts of one seat, joined: GTextOf, GmG.
-/
import Derived.Test.YtbccachkkflceaaGreatDoorJn1
import Derived.Test.YtbccachkkflceaaGreatDoorJn23
import Derived.Laws.IdiomStrings
import Derived.Test.YtbccachkkflceaaGreatDoorJn20
import Derived.Test.YtbccachkkflceaaGreatDoorJn22
import Derived.Deep.MidRow
/-
  The text of the program's tree, where it is not too long.
-/
namespace Go.Proofs.YtbccachkkflceaaGreatDoor.TextOf
open Go.RowKit Go.Shelf Go.Proofs.YtbccachkkflceaaGreatDoor.Plain Go.Proofs.YtbccachkkflceaaGreatDoor.Tree Go.Proofs.YtbccachkkflceaaGreatDoor.Read Go.Proofs.YtbccachkkflceaaGreatDoor.App Go.Proofs.YtbccachkkflceaaGreatDoor.AppendTo
set_option linter.unusedVariables false
set_option linter.unusedSimpArgs false

/-- what textOf answers -/
def textV (t : T) : Value := if (text t).length ≤ 2000 then .tuple #[.string (str (text t)), .bool true] else .tuple #[.string (str []), .bool false]

theorem conv_text {w0 w : World} {p : Option Addr} {n c : Nat} {l : List UInt8} (h : Own w0 w 5 1 (.slice p n c) n (cellsU l)) (hl : l.length = n) (hn : 0 < n) :
    (convert 22 9 (.slice p n c)).run Tryz.prog w = .ok (.string (str l)) w := by
  obtain ⟨g, rfl, hg1, hg2, hc0⟩ := h.cell 0 (by omega)
  have h2 := run_convert_bytes_back (P := Tryz.prog) w 22 9 5 ⟨g, 0, none⟩ c l Tryz.underlying22 Tryz.underlying5 Tryz.underlying9 (fun j hj => by
    obtain ⟨g', hg', _, _, hc⟩ := h.cell j (by omega)
    simp only [Option.some.injEq, Addr.mk.injEq, and_true] at hg'
    subst hg'
    have e : ((⟨g, 0, none⟩ : Addr).add j) = ⟨g, j, none⟩ := by
      simp [Addr.add]
      try exact fun h => h.symm
    rw [e, hc, cellsU, List.getElem?_map, List.getElem?_eq_getElem hj]
    simp)
  rw [hl] at h2
  exact h2

set_option maxHeartbeats 1000000 in
set_option maxRecDepth 100000 in
theorem text_of (t : T) (hw : wf t) (hl : (text t).length ≤ 8000000) (w : World) :
    Calls Tryz.prog 22 #[tree t] w fun e w' => e = .returned (textV t) ∧ Below w.heap.size w w' := by
  have hA := app_to t hw
  have hp := text_pos t
  unfold textV
  have hO0 := Lib.hid (Own.none w 5 1)
  rcases hA with ⟨V, ev, hv⟩ | ⟨V, ev, hv⟩
  all_goals
    rw [ev]
    have HC := Lib.hid (hv w w (.slice none 0 0) 0 [] hO0.out (by omega))
    clear ev hv
    by_cases h2 : (text t).length ≤ 2000
    · rw [if_pos h2]
      go_enter Tryz.func22, Tryz.ntmps22
      go_wp2_with fail
      refine HC.out.mono ?_
      rintro e w1 ⟨v', rfl, hO, _⟩
      rw [Nat.zero_add, List.nil_append] at hO
      obtain ⟨p, c, rfl⟩ := hO.slice
      have hcv := conv_text hO rfl hp
      have HB := Lib.hid hO.below
      obtain ⟨q, hq⟩ : ∃ q, str (text t) = q := ⟨_, rfl⟩
      rw [hq] at hcv
      have HQ := Lib.hid hq
      clear hq
      generalize (text t).length = n at *
      clear hO
      go_wp2_with fail
      go_returns
      exact ⟨by rw [HQ.out]; rfl, HB.out⟩
    · rw [if_neg h2]
      go_enter Tryz.func22, Tryz.ntmps22
      go_wp2_with fail
      refine HC.out.mono ?_
      rintro e w1 ⟨v', rfl, hO, _⟩
      rw [Nat.zero_add, List.nil_append] at hO
      obtain ⟨p, c, rfl⟩ := hO.slice
      have HB := Lib.hid hO.below
      have h3 : 2000 < (text t).length := by omega
      generalize (text t).length = n at *
      clear hO h2
      go_wp2_with fail
      go_returns
      exact ⟨rfl, HB.out⟩
end Go.Proofs.YtbccachkkflceaaGreatDoor.TextOf

/-
  The program's protocol of a formula, and FormulaGame of both sides.
-/
namespace Go.Proofs.YtbccachkkflceaaGreatDoor.GmG
open Go.RowKit Go.Shelf Go.Proofs.YtbccachkkflceaaGreatDoor.Plain Go.Proofs.YtbccachkkflceaaGreatDoor.Pat Go.Proofs.YtbccachkkflceaaGreatDoor.GmM Go.Proofs.YtbccachkkflceaaGreatDoor.GmI Go.Proofs.YtbccachkkflceaaGreatDoor.FreeL Go.Proofs.YtbccachkkflceaaGreatDoor.FreeZ
open Go.Proofs.YtbccachkkflceaaGreatDoor.Fm (F val sgn)
open Go.Proofs.YtbccachkkflceaaGreatDoor.FmMeth (cells2 cells3)
open Go.Proofs.YtbccachkkflceaaGreatDoor.Tree (T V3 gN gI gD whoB hexD)
open Go.Proofs.YtbccachkkflceaaGreatDoor.Read (leafV sayV)
open Go.Proofs.YtbccachkkflceaaGreatDoor.Count (cells4)
open Go.Proofs.YtbccachkkflceaaGreatDoor.TextOf (textV text_of)
open Go.Proofs.YtbccachkkflceaaGreatDoor.Free (fill wp_value wp_enter wp_load_row freeB)
set_option linter.unusedVariables false
set_option linter.unusedSimpArgs false

theorem as_lit (v : Value) (w : World) : (Instr.typeAssert (.iface 64 v) 37 64 true).run Tryz.prog w = .ok (.tuple #[v, .bool true]) w := by kernel_rfl
theorem as_gate0 (v : Value) (w : World) : (Instr.typeAssert (.iface 69 v) 37 64 true).run Tryz.prog w = .ok (.tuple #[.agg #[.int .i64 0, .int .i64 0], .bool false]) w := by kernel_rfl
theorem as_gate (v : Value) (w : World) : (Instr.typeAssert (.iface 69 v) 37 69 true).run Tryz.prog w = .ok (.tuple #[v, .bool true]) w := by kernel_rfl
theorem set2 {w : World} {B : Nat} {c0 c1 c2 c3 : Value} {T : TypeId} {fr : Nat × Nat} (h : w.heap[B]? = some (.cells #[c0, c1, c2, c3] T fr)) (x y : Value) : w.setCells B 2 [x, y] = w.setRow B #[c0, c1, x, y] := by
  have e : (w.setCells B 2 [x, y]).heap = (w.setRow B #[c0, c1, x, y]).heap := by
    apply Array.ext_getElem?
    intro k
    simp only [World.setCells, World.setCell, World.setRow, Array.getElem?_modify]
    by_cases hk : B = k
    · subst hk
      simp [h]
    · simp [hk]
  simp only [World.setCells, World.setCell, World.setRow] at e ⊢
  rw [e]
theorem there_row {w : World} {B : Nat} {c0 c1 c2 c3 : Value} {T : TypeId} (h : w.heap[B]? = some (.cells #[c0, c1, c2, c3] T (0, 0))) : w.there B 2 2 := fun j hj => by
  have e : j = 0 ∨ j = 1 := by omega
  rcases e with rfl | rfl
  · exact ⟨by rw [cell_of_row _ _ _ _ _ _ h]; rfl, frozen_of_row _ _ _ _ _ h⟩
  · exact ⟨by rw [cell_of_row _ _ _ _ _ _ h]; rfl, frozen_of_row _ _ _ _ _ h⟩
theorem all2 (t1 t2 : TypeId) (x y : Value) : (#[.iface t1 x, .iface t2 y] : Array Value).all (·.oneCell') = true := by simp [Value.oneCell']
theorem info_two (x y : Value) : (Tryz.prog.info? 70).map (·.size) = some (#[x, y] : Array Value).size := by kernel_rfl

theorem say_any (a : Bool) (f : F) (hf3 : Fm.wf 3 f) (B D : Nat) (w : World) (hM : Mv a B D w) :
    Calls Tryz.prog 45 #[.pointer (some ⟨B, 0, none⟩), FmRead.tree f] w fun e w' => e = .returned (.agg #[.int .u8 ((whoB (!a)).toNat : Int), .int .i64 (askB a f : Int), .nilIface, .nilIface]) ∧ Below w.heap.size w w' := by
  cases a
  · exact say_false f hf3 B D w hM
  · exact say_true f hf3 B D w hM

/-- what the operations of the region come to that finds the bit of a gate -/
def R7 (a : Bool) (lo D : Nat) (c : Int) (fv : Value) (who S : Int) : Nat → Value → World → Prop
  | 0, v, _ => v = .pointer (some ⟨D, 2, none⟩)
  | 1, v, _ => v = .int .u8 c
  | 2, v, w => ∃ B E, v = .pointer (some ⟨B, 0, none⟩) ∧ Mv a B E w
  | 3, v, _ => v = .pointer (some ⟨D, 0, none⟩)
  | 4, v, _ => v = .pointer (some ⟨D, 0, none⟩)
  | 5, v, _ => v = fv
  | 6, v, _ => v = .agg #[.int .u8 who, .int .i64 S, .nilIface, .nilIface]
  | 7, v, w => ∃ b, v = .pointer (some ⟨b, 0, none⟩) ∧ lo ≤ b ∧ w.heap[b]? = some (.cells #[.int .u8 0, .int .i64 0, .nilIface, .nilIface] 72 (0, 0))
  | _, _, _ => True
theorem R7.later {a : Bool} {lo D : Nat} {c : Int} {fv : Value} {who S : Int} : ∀ (i : Nat) (v : Value) (w w' : World), R7 a lo D c fv who S i v w → Below w.heap.size w w' → R7 a lo D c fv who S i v w' := by
  intro i v w w' h hb
  match i, h with
  | 0, h => exact h
  | 1, h => exact h
  | 2, h => obtain ⟨B, E, e, m⟩ := h; exact ⟨B, E, e, m.later hb⟩
  | 3, h => exact h
  | 4, h => exact h
  | 5, h => exact h
  | 6, h => exact h
  | 7, h => obtain ⟨b, e, l, m⟩ := h; exact ⟨b, e, l, (hb.block _ (Array.getElem?_eq_some_iff.1 m).1).trans m⟩
  | i + 8, _ => trivial

set_option maxHeartbeats 8000000 in
set_option maxRecDepth 100000 in
theorem game_of (t : F) : Fm.wf 3 t → ∀ w : World, Calls Tryz.prog 20 #[FmRead.tree t] w fun e w' => e = .returned (Read.tree (gameT t)) ∧ Below w.heap.size w w' := by
  induction t with
  | lit k v =>
    intro hw w
    have hk : gI (gk k) = (k : Int) := by unfold gI; rw [gk_N k hw]
    show Calls _ _ #[.iface 64 (.agg #[.int .i64 (k : Int), .int .i64 (bitI v)])] _ fun e w' => e = .returned (.iface 65 (.int .i64 (gI (gk k)))) ∧ _
    rw [hk]
    generalize bitI v = bi
    clear hk hw
    have has := as_lit
    go_enter Tryz.func20, Tryz.ntmps20
    go_wp2_with fail
    go_ret
    exact ⟨rfl, by go_grown⟩
  | gate a f g ihf ihg =>
    intro hw w
    have hZ := ihf hw.1
    have hO := ihg hw.2
    have hSY := fun (B E : Nat) (W : World) (h : Mv a B E W) => say_any a f hw.1 B E W h
    have hMA := mover_at a
    obtain ⟨t3, v3, e3⟩ := Read.tree_iface (gameT f)
    obtain ⟨t4, v4, e4⟩ := Read.tree_iface (gameT g)
    have HT : Hid (Read.tree (gameT (.gate a f g)) = .iface 72 (.agg #[.int .u8 ((whoB (!a)).toNat : Int), .int .i64 (askB a f : Int), .iface t3 v3, .iface t4 v4])) := by
      show Read.tree (.say (!a) (askB a f) (gameT f) (gameT g)) = _
      simp only [Read.tree, sayV, e3, e4]
    show Calls _ _ #[.iface 69 (.agg #[FmRead.tree f, FmRead.tree g, .int .u8 ((sgn a).toNat : Int)])] _ _
    rw [e3] at hZ
    rw [e4] at hO
    generalize Read.tree (gameT (.gate a f g)) = res at *
    generalize ((whoB (!a)).toNat : Int) = who at *
    generalize ((sgn a).toNat : Int) = c at *
    generalize askB a f = S at *
    obtain ⟨t1, v1, e1⟩ := FmRead.tree_iface f
    obtain ⟨t2, v2, e2⟩ := FmRead.tree_iface g
    rw [e1] at hZ hSY ⊢
    rw [e2] at hO ⊢
    clear e1 e2 e3 e4 ihf ihg hw
    have HZ := Lib.hid hZ
    have HO := Lib.hid hO
    have HSY := Lib.hid hSY
    have HMA := Lib.hid hMA
    clear hZ hO hSY hMA
    have has := as_gate0
    have has2 := as_gate
    obtain ⟨D, hD⟩ : ∃ D, w.heap.size = D := ⟨_, rfl⟩
    have HDD := Lib.hid hD
    go_enter Tryz.func20, Tryz.ntmps20
    go_wp2_with fail
    obtain ⟨W1, hW1⟩ : ∃ W1, w.alloc (.cells #[.iface t1 v1, .iface t2 v2, .int .u8 c] 69) = W1 := ⟨_, rfl⟩
    rw [hW1]
    have HW : Hid (Below w.heap.size w W1) := by show Below _ _ _; rw [← hW1]; exact (Below.refl _ _).alloc (Nat.le_refl _) _
    have HM0 : Hid (∀ wx : World, Below W1.heap.size W1 wx → wx.heap[D]? = some (.cells #[.iface t1 v1, .iface t2 v2, .int .u8 c] 69 (0, 0))) := fun wx h => by
      have h0 : W1.heap[D]? = some (.cells #[.iface t1 v1, .iface t2 v2, .int .u8 c] 69 (0, 0)) := by rw [← hW1, ← HDD.out]; exact heap_alloc_new w _
      exact (h.block _ (Array.getElem?_eq_some_iff.1 h0).1).trans h0
    have HWD : Hid (w.heap.size ≤ W1.heap.size) := HW.out.size
    clear hW1 hD
    refine wp_region_lastR (R7 a W1.heap.size D c (.iface t1 v1) who S) (fun a' wx wy => ∃ b, a'.tmps[5]?.getD undef = .pointer (some ⟨b, 0, none⟩) ∧ W1.heap.size ≤ b ∧ wx.heap[b]? = some (.cells #[.int .u8 0, .int .i64 0, .nilIface, .nilIface] 72 (0, 0)) ∧ wy = wx.setRow b #[.int .u8 who, .int .i64 S, .nilIface, .nilIface]) 8 _ (by kernel_rfl) (by kernel_rfl) rfl rfl rfl rfl (by kernel_rfl) R7.later ?con7 ?st7 ?en7
    case con7 =>
      intro i o ho hlt a' wx hb hf
      match i, ho with
      | 0, ho =>
        obtain rfl := Option.some.inj ho
        have b4 : a'.tmps[4]?.getD undef = .pointer (some ⟨D, 0, none⟩) := hf.2 4 (by kernel_rfl)
        exact wp_valR (.pointer (some ⟨D, 2, none⟩)) (by unfold execOp; go_simp) rfl
      | 1, ho =>
        obtain rfl := Option.some.inj ho
        have e16 : a'.tmps[16]?.getD undef = .pointer (some ⟨D, 2, none⟩) := hf.1 ⟨0, .data⟩ (by simp) rfl _ 16 rfl rfl
        obtain ⟨c0, c1, c2⟩ := cells3 (HM0.out wx hb)
        exact wp_valR (.int .u8 c) (by unfold execOp; go_simp) rfl
      | 2, ho =>
        obtain rfl := Option.some.inj ho
        have e17 : a'.tmps[17]?.getD undef = .int .u8 c := hf.1 ⟨1, .data⟩ (by simp) rfl _ 17 rfl rfl
        exact wp_callR 44 #[.int .u8 c] (by unfold execOp; go_simp) ((HMA.out wx).mono fun e w' h => by
          obtain ⟨B, E, rfl, h1, h2⟩ := h
          exact ⟨_, rfl, ⟨B, E, rfl, h1⟩, h2⟩)
      | 3, ho =>
        obtain rfl := Option.some.inj ho
        have b4 : a'.tmps[4]?.getD undef = .pointer (some ⟨D, 0, none⟩) := hf.2 4 (by kernel_rfl)
        exact wp_valR (.pointer (some ⟨D, 0, none⟩)) (by unfold execOp; go_simp) rfl
      | 4, ho =>
        obtain rfl := Option.some.inj ho
        have e19 : a'.tmps[19]?.getD undef = .pointer (some ⟨D, 0, none⟩) := hf.1 ⟨3, .data⟩ (by simp) rfl _ 19 rfl rfl
        exact wp_valR (.pointer (some ⟨D, 0, none⟩)) (by unfold execOp; go_simp) rfl
      | 5, ho =>
        obtain rfl := Option.some.inj ho
        have e20 : a'.tmps[20]?.getD undef = .pointer (some ⟨D, 0, none⟩) := hf.1 ⟨4, .data⟩ (by simp) rfl _ 20 rfl rfl
        obtain ⟨c0, c1, c2⟩ := cells3 (HM0.out wx hb)
        exact wp_valR (.iface t1 v1) (by unfold execOp; go_simp) rfl
      | 6, ho =>
        obtain rfl := Option.some.inj ho
        obtain ⟨B, E, e18, hM⟩ : ∃ B E, a'.tmps[18]?.getD undef = .pointer (some ⟨B, 0, none⟩) ∧ Mv a B E wx := hf.1 ⟨2, .data⟩ (by simp) rfl _ 18 rfl rfl
        have e21 : a'.tmps[21]?.getD undef = .iface t1 v1 := hf.1 ⟨5, .data⟩ (by simp) rfl _ 21 rfl rfl
        exact wp_callR 45 #[.pointer (some ⟨B, 0, none⟩), .iface t1 v1] (by unfold execOp; go_simp) ((HSY.out B E wx hM).mono fun e w' h => by
          obtain ⟨rfl, h2⟩ := h
          exact ⟨_, rfl, rfl, h2⟩)
      | 7, ho =>
        obtain rfl := Option.some.inj ho
        refine wp_newR (.pointer (some ⟨wx.heap.size, 0, none⟩)) (w1 := wx.alloc (.cells #[.int .u8 0, .int .i64 0, .nilIface, .nilIface] 72)) (by unfold execOp; go_simp) ((Below.refl _ _).alloc (Nat.le_refl _) _) ⟨wx.heap.size, rfl, hb.size, heap_alloc_new wx _⟩
      | 8, ho => exact absurd hlt (by omega)
      | q + 9, ho => simp at ho
    case st7 =>
      intro a' wx hb hf
      have e22 : a'.tmps[22]?.getD undef = .agg #[.int .u8 who, .int .i64 S, .nilIface, .nilIface] := hf.1 ⟨6, .data⟩ (by simp) rfl _ 22 rfl rfl
      obtain ⟨b, e5, hlb, hrow⟩ : ∃ b, a'.tmps[5]?.getD undef = .pointer (some ⟨b, 0, none⟩) ∧ W1.heap.size ≤ b ∧ wx.heap[b]? = some (.cells #[.int .u8 0, .int .i64 0, .nilIface, .nilIface] 72 (0, 0)) := hf.1 ⟨7, .data⟩ (by simp) rfl _ 5 rfl rfl
      exact wp_store_row 72 (.tmp 5) (.tmp 22) rfl b #[.int .u8 who, .int .i64 S, .nilIface, .nilIface] (eval_get e5) (eval_get e22) 72 _ hrow (info_four _ _ _ _) rfl (all4n _ _) ⟨rfl, b, e5, hlb, hrow, rfl⟩
    case en7 =>
    intro vs w1 w5 hb1 hR hF
    obtain ⟨b, h5, hlb, hrow, rfl⟩ := hF
    simp only [fill, Act.put] at h5
    simp at h5
    obtain ⟨W5, hW5⟩ : ∃ W5, w1.setRow b #[.int .u8 who, .int .i64 S, .nilIface, .nilIface] = W5 := ⟨_, rfl⟩
    rw [hW5]
    have hDb : D < W1.heap.size := (Array.getElem?_eq_some_iff.1 (HM0.out W1 (Below.refl _ _))).1
    have hwb : w.heap.size ≤ b := Nat.le_trans HWD.out hlb
    have hB5 : Below w.heap.size w W5 := by rw [← hW5]; exact setRow_below' (HW.out.trans (hb1.mono HW.out.size)) hwb _
    have hD5 : W5.heap[D]? = some (.cells #[.iface t1 v1, .iface t2 v2, .int .u8 c] 69 (0, 0)) := by
      rw [← hW5]
      simp only [World.setRow, Array.getElem?_modify]
      rw [if_neg (by omega)]
      exact HM0.out w1 hb1
    have hb5 : W5.heap[b]? = some (.cells #[.int .u8 who, .int .i64 S, .nilIface, .nilIface] 72 (0, 0)) := by rw [← hW5]; exact setRow_at' hrow
    have HB5 := Lib.hid hB5
    have HD5 : Hid (∀ wx : World, Below W5.heap.size W5 wx → wx.heap[D]? = some (.cells #[.iface t1 v1, .iface t2 v2, .int .u8 c] 69 (0, 0))) := fun wx h => (h.block _ (Array.getElem?_eq_some_iff.1 hD5).1).trans hD5
    have HR5 : Hid (∀ wx : World, Below W5.heap.size W5 wx → wx.heap[b]? = some (.cells #[.int .u8 who, .int .i64 S, .nilIface, .nilIface] 72 (0, 0))) := fun wx h => (h.block _ (Array.getElem?_eq_some_iff.1 hb5).1).trans hb5
    have HWB := Lib.hid hwb
    clear hR hb1 hlb hrow hW5 hDb hB5 hD5 hb5 hwb HM0 HW HWD
    simp only [fill, Act.put]
    go_simp
    try rw [h5]
    clear h5
    go_wp2_with fail
    refine wp_region_last (fun | 0 => .pointer (some ⟨D, 0, none⟩) | 1 => .pointer (some ⟨D, 0, none⟩) | 2 => .iface t1 v1 | 3 => .iface t3 v3 | 4 => .pointer (some ⟨D, 0, none⟩) | 5 => .pointer (some ⟨D, 1, none⟩) | 6 => .iface t2 v2 | 7 => .iface t4 v4 | 8 => .agg #[.iface t3 v3, .iface t4 v4] | 9 => .pointer (some ⟨b, 2, none⟩) | _ => undef) 10 (fun wx => wx.setRow b #[.int .u8 who, .int .i64 S, .iface t3 v3, .iface t4 v4]) _ (by kernel_rfl) (by kernel_rfl) rfl rfl rfl rfl (by kernel_rfl) ?con8 ?st8 ?en8
    case con8 =>
      intro i o ho hlt a wx hb hf
      match i, ho with
      | 0, ho =>
        obtain rfl := Option.some.inj ho
        have b4 : a.tmps[4]?.getD undef = .pointer (some ⟨D, 0, none⟩) := hf.2 4 (by kernel_rfl)
        exact wp_value (.pointer (some ⟨D, 0, none⟩)) (by unfold execOp; go_simp) ⟨rfl, Below.refl _ _⟩
      | 1, ho =>
        obtain rfl := Option.some.inj ho
        have e23 : a.tmps[23]?.getD undef = .pointer (some ⟨D, 0, none⟩) := hf.1 ⟨0, .data⟩ (by simp) rfl _ 23 rfl rfl
        exact wp_value (.pointer (some ⟨D, 0, none⟩)) (by unfold execOp; go_simp) ⟨rfl, Below.refl _ _⟩
      | 2, ho =>
        obtain rfl := Option.some.inj ho
        have e24 : a.tmps[24]?.getD undef = .pointer (some ⟨D, 0, none⟩) := hf.1 ⟨1, .data⟩ (by simp) rfl _ 24 rfl rfl
        obtain ⟨c0, c1, c2⟩ := cells3 (HD5.out _ hb)
        exact wp_value (.iface t1 v1) (by unfold execOp; go_simp) ⟨rfl, Below.refl _ _⟩
      | 3, ho =>
        obtain rfl := Option.some.inj ho
        have e25 : a.tmps[25]?.getD undef = .iface t1 v1 := hf.1 ⟨2, .data⟩ (by simp) rfl _ 25 rfl rfl
        exact wp_enter 20 #[.iface t1 v1] (.iface t3 v3) _ (by unfold execOp; go_simp) (HZ.out wx) (fun w' h => ⟨rfl, h⟩)
      | 4, ho =>
        obtain rfl := Option.some.inj ho
        have b4 : a.tmps[4]?.getD undef = .pointer (some ⟨D, 0, none⟩) := hf.2 4 (by kernel_rfl)
        exact wp_value (.pointer (some ⟨D, 0, none⟩)) (by unfold execOp; go_simp) ⟨rfl, Below.refl _ _⟩
      | 5, ho =>
        obtain rfl := Option.some.inj ho
        have e27 : a.tmps[27]?.getD undef = .pointer (some ⟨D, 0, none⟩) := hf.1 ⟨4, .data⟩ (by simp) rfl _ 27 rfl rfl
        exact wp_value (.pointer (some ⟨D, 1, none⟩)) (by unfold execOp; go_simp) ⟨rfl, Below.refl _ _⟩
      | 6, ho =>
        obtain rfl := Option.some.inj ho
        have e28 : a.tmps[28]?.getD undef = .pointer (some ⟨D, 1, none⟩) := hf.1 ⟨5, .data⟩ (by simp) rfl _ 28 rfl rfl
        obtain ⟨c0, c1, c2⟩ := cells3 (HD5.out _ hb)
        exact wp_value (.iface t2 v2) (by unfold execOp; go_simp) ⟨rfl, Below.refl _ _⟩
      | 7, ho =>
        obtain rfl := Option.some.inj ho
        have e29 : a.tmps[29]?.getD undef = .iface t2 v2 := hf.1 ⟨6, .data⟩ (by simp) rfl _ 29 rfl rfl
        exact wp_enter 20 #[.iface t2 v2] (.iface t4 v4) _ (by unfold execOp; go_simp) (HO.out wx) (fun w' h => ⟨rfl, h⟩)
      | 8, ho =>
        obtain rfl := Option.some.inj ho
        have e26 : a.tmps[26]?.getD undef = .iface t3 v3 := hf.1 ⟨3, .data⟩ (by simp) rfl _ 26 rfl rfl
        have e30 : a.tmps[30]?.getD undef = .iface t4 v4 := hf.1 ⟨7, .data⟩ (by simp) rfl _ 30 rfl rfl
        exact wp_value (.agg #[.iface t3 v3, .iface t4 v4]) (by unfold execOp; go_simp) ⟨rfl, Below.refl _ _⟩
      | 9, ho =>
        obtain rfl := Option.some.inj ho
        have b5 : a.tmps[5]?.getD undef = .pointer (some ⟨b, 0, none⟩) := hf.2 5 (by kernel_rfl)
        exact wp_value (.pointer (some ⟨b, 2, none⟩)) (by unfold execOp; go_simp) ⟨rfl, Below.refl _ _⟩
      | 10, ho => exact absurd hlt (by omega)
      | q + 11, ho => simp at ho
    case st8 =>
      intro a wx hb hf
      have e32 : a.tmps[32]?.getD undef = .pointer (some ⟨b, 2, none⟩) := hf.1 ⟨9, .data⟩ (by simp) rfl _ 32 rfl rfl
      have e31 : a.tmps[31]?.getD undef = .agg #[.iface t3 v3, .iface t4 v4] := hf.1 ⟨8, .data⟩ (by simp) rfl _ 31 rfl rfl
      exact wp_store_mid 70 (.tmp 32) (.tmp 31) rfl b 2 #[.iface t3 v3, .iface t4 v4] (eval_get e32) (eval_get e31) (there_row (HR5.out wx hb)) (info_two _ _) (all2 _ _ _ _) ⟨rfl, set2 (HR5.out wx hb) _ _⟩
    case en8 =>
    intro w6 hb6
    have HR : Hid ((w6.setRow b #[.int .u8 who, .int .i64 S, .iface t3 v3, .iface t4 v4]).heap[b]? = some (.cells #[.int .u8 who, .int .i64 S, .iface t3 v3, .iface t4 v4] 72 (0, 0))) := setRow_at' (HR5.out w6 hb6)
    have HB6 : Hid (Below w.heap.size w (w6.setRow b #[.int .u8 who, .int .i64 S, .iface t3 v3, .iface t4 v4])) := setRow_below' (HB5.out.trans (hb6.mono HB5.out.size)) HWB.out _
    clear hb6 HR5 HD5 HB5
    simp only [fill, Act.put]
    go_simp
    generalize w6.setRow b #[.int .u8 who, .int .i64 S, .iface t3 v3, .iface t4 v4] = w7 at *
    obtain ⟨c0, c1, c2, c3⟩ := cells4 HR.out
    clear HR
    go_wp2_with fail
    go_ret
    exact ⟨by rw [HT.out]; rfl, HB6.out⟩

/-- what both FormulaGame answer -/
def fgAns (t : F) : Value := .tuple #[.string (str (Tree.text (gameT t))), .bool true]
set_option maxHeartbeats 1000000 in
theorem spec_yes (s : ByteArray) (t : F) (hw : Fm.wf 3 t) (h : s.data.toList = Fm.text t) (hs : s.size ≤ 200) (w : World) :
    Calls Tryz.prog 7 #[.string s] w fun e w' => e = .returned (fgAns t) ∧ Below w.heap.size w w' := by
  have HV : Hid (∀ W, Calls Tryz.prog 23 #[.string s, .int .i64 3] W fun e w' => e = .returned (.bool true) ∧ W = w') := FmSaid.valid_yes s 3 (by omega) t hw h hs
  have hl : (Fm.text t).length ≤ 200 := by rw [← h]; simpa using hs
  have HL := Lib.hid (GmS.game_said t hw hl)
  rw [← FmB.eq_str h] at HL
  unfold fgAns
  generalize str (Tree.text (gameT t)) = q at *
  clear h hw hl
  go_enter Tryz.func7, Tryz.ntmps7
  go_wp2_with fail
  refine (HV.out _).mono ?_
  rintro e w1 ⟨rfl, rfl⟩
  go_wp2_with fail
  refine (HL.out _).mono ?_
  rintro e w2 ⟨rfl, hb⟩
  have HB := Lib.hid hb
  clear hb
  go_wp2_with fail
  go_returns
  exact ⟨rfl, HB.out⟩
set_option maxHeartbeats 1000000 in
theorem spec_no (s : ByteArray) (h : ¬ FmNo.Ok 3 s) (hs : s.size ≤ 1048576) (w : World) :
    Calls Tryz.prog 7 #[.string s] w fun e w' => e = .returned (.tuple #[.string (str []), .bool false]) ∧ Below w.heap.size w w' := by
  have HV : Hid (∀ W, Calls Tryz.prog 23 #[.string s, .int .i64 3] W fun e w' => e = .returned (.bool false) ∧ W = w') := FmSaid.valid_no s 3 (by omega) h hs
  clear h
  go_enter Tryz.func7, Tryz.ntmps7
  go_wp2_with fail
  refine (HV.out _).mono ?_
  rintro e w1 ⟨rfl, rfl⟩
  go_wp2_with fail
  go_returns
  exact ⟨rfl, Below.refl _ _⟩
theorem as_none (w : World) : (Instr.typeAssert .nilIface 37 64 true).run Tryz.prog w = .ok (.tuple #[.agg #[.int .i64 0, .int .i64 0], .bool false]) w := by kernel_rfl
theorem as_none2 (w : World) : (Instr.typeAssert .nilIface 37 69 true).run Tryz.prog w = .ok (.tuple #[.agg #[.nilIface, .nilIface, .int .u8 0], .bool false]) w := by kernel_rfl
set_option maxHeartbeats 1000000 in
theorem game_nil (w : World) : Calls Tryz.prog 20 #[.nilIface] w fun e w' => e = .returned .nilIface ∧ Below w.heap.size w w' := by
  have h1 := as_none
  have h2 := as_none2
  go_enter Tryz.func20, Tryz.ntmps20
  go_wp2_with fail
  go_ret
  exact ⟨rfl, by go_grown⟩
set_option maxHeartbeats 1000000 in
theorem impl_yes (s : ByteArray) (t : F) (hw : Fm.wf 3 t) (h : s.data.toList = Fm.text t) (hs : s.size ≤ 200) (w : World) :
    Calls Tryz.prog 6 #[.string s] w fun e w' => e = .returned (fgAns t) ∧ Below w.heap.size w w' := by
  have HT : Hid (∀ W, Calls Tryz.prog 21 #[.string s, .int .i64 3] W fun e w' => e = .returned (FmRead.tree t) ∧ Below W.heap.size W w') := FmNo.tree_yes 3 (by omega) (by omega) s t hw h hs
  have hl : (Fm.text t).length ≤ 200 := by rw [← h]; simpa using hs
  have hgl := game_length t hl
  have HG := Lib.hid (game_of t hw)
  have hTX := fun W => text_of (gameT t) (game_wf t) (by omega) W
  have HTX : Hid (∀ W, Calls Tryz.prog 22 #[Read.tree (gameT t)] W fun e w' => e = .returned (fgAns t) ∧ Below W.heap.size W w') := by
    intro W
    have h2 := hTX W
    unfold textV at h2
    rw [if_pos (by omega)] at h2
    exact h2
  obtain ⟨t1, v1, e1⟩ := FmRead.tree_iface t
  obtain ⟨t2, v2, e2⟩ := Read.tree_iface (gameT t)
  rw [e1] at HT HG
  rw [e2] at HG HTX
  unfold fgAns at *
  generalize str (Tree.text (gameT t)) = q at *
  clear h hw hl hgl hTX e1 e2
  go_enter Tryz.func6, Tryz.ntmps6
  go_wp2_with fail
  refine (HT.out _).mono ?_
  rintro e w1 ⟨rfl, hb1⟩
  have HB1 := Lib.hid hb1
  clear hb1
  go_wp2_with fail
  refine (HG.out _).mono ?_
  rintro e w2 ⟨rfl, hb2⟩
  have HB2 := Lib.hid (HB1.out.trans (hb2.mono HB1.out.size))
  clear hb2 HB1
  go_wp2_with fail
  refine (HTX.out _).mono ?_
  rintro e w3 ⟨rfl, hb3⟩
  have HB3 := Lib.hid (HB2.out.trans (hb3.mono HB2.out.size))
  clear hb3 HB2
  go_wp2_with fail
  go_returns
  exact ⟨rfl, HB3.out⟩
set_option maxHeartbeats 1000000 in
theorem impl_no (s : ByteArray) (h : ¬ FmNo.Ok 3 s) (hs : s.size ≤ 1048576) (w : World) :
    Calls Tryz.prog 6 #[.string s] w fun e w' => e = .returned (.tuple #[.string (str []), .bool false]) ∧ Below w.heap.size w w' := by
  have HT : Hid (∀ W, Calls Tryz.prog 21 #[.string s, .int .i64 3] W fun e w' => e = .returned .nilIface ∧ Below W.heap.size W w') := FmNo.tree_no 3 (by omega) (by omega) s h hs
  have HG := Lib.hid game_nil
  clear h
  go_enter Tryz.func6, Tryz.ntmps6
  go_wp2_with fail
  refine (HT.out _).mono ?_
  rintro e w1 ⟨rfl, hb1⟩
  have HB1 := Lib.hid hb1
  clear hb1
  go_wp2_with fail
  refine (HG.out _).mono ?_
  rintro e w2 ⟨rfl, hb2⟩
  have HB2 := Lib.hid (HB1.out.trans (hb2.mono HB1.out.size))
  clear hb2 HB1
  go_wp2_with fail
  go_returns
  exact ⟨rfl, HB2.out⟩
end Go.Proofs.YtbccachkkflceaaGreatDoor.GmG

