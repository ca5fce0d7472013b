/-
  Where the program cuts a protocol.
-/
import Derived.Test.YtgfhahlkffagaaaTrimI
import Derived.Test.YtgfhahlkffagaaaCutT
import Derived.Test.YtgfhahlkffagaaaBase
namespace Go.Proofs.Ytgfhahlkffagaaa.CutI
open Go.RowKit Go.Shelf Go.Proofs.Ytgfhahlkffagaaa.Plain Go.Proofs.Ytgfhahlkffagaaa.Tree Go.Proofs.Ytgfhahlkffagaaa.Read Go.Proofs.Ytgfhahlkffagaaa.Rect Go.Proofs.Ytgfhahlkffagaaa.TurnC Go.Proofs.Ytgfhahlkffagaaa.FreeL Go.Proofs.Ytgfhahlkffagaaa.TrimT Go.Proofs.Ytgfhahlkffagaaa.PartC Go.Proofs.Ytgfhahlkffagaaa.CutT
open Go.Proofs.Ytgfhahlkffagaaa.NodeH (eval_get)
open Go.Proofs.Ytgfhahlkffagaaa.Base (bitOf_any)
open Go.Proofs.Ytgfhahlkffagaaa.Count (cells4 count_ends)
open Go.Proofs.Ytgfhahlkffagaaa.TrimI (cells2 info_rect one_rect)
open Go.Proofs.Ytgfhahlkffagaaa.Free (fill wp_value wp_enter wp_load_row freeB wp_region_one get_of)
set_option linter.unusedVariables false
set_option linter.unusedSimpArgs false

theorem as_say (v : Value) (w : World) : (Instr.typeAssert (.iface 78 v) 45 78 true).run Try.prog w = .ok (.tuple #[v, .bool true]) w := by kernel_rfl
theorem as_end (v : Value) (w : World) : (Instr.typeAssert (.iface 67 v) 45 78 true).run Try.prog w = .ok (.tuple #[.agg #[.int .u8 0, .int .i64 0, .nilIface, .nilIface], .bool false]) w := by kernel_rfl
theorem frozen4 {w : World} {b : Nat} {c0 c1 c2 c3 : Value} {ty : TypeId} (h : w.heap[b]? = some (.cells #[c0, c1, c2, c3] ty (0, 0))) : w.frozen? ⟨b, 0, none⟩ = false ∧ w.frozen? ⟨b, 1, none⟩ = false ∧ w.frozen? ⟨b, 2, none⟩ = false ∧ w.frozen? ⟨b, 3, none⟩ = false :=
  ⟨frozen_of_row _ _ _ _ _ h, frozen_of_row _ _ _ _ _ h, frozen_of_row _ _ _ _ _ h, frozen_of_row _ _ _ _ _ h⟩
theorem set4 {w : World} {b : Nat} {c0 c1 c2 c3 : Value} {ty : TypeId} (h : w.heap[b]? = some (.cells #[c0, c1, c2, c3] ty (0, 0))) (x0 x1 x2 x3 : Value) :
    ((((w.setCell ⟨b, 0, none⟩ x0).setCell ⟨b, 1, none⟩ x1).setCell ⟨b, 2, none⟩ x2).setCell ⟨b, 3, none⟩ x3).heap[b]? = some (.cells #[x0, x1, x2, x3] ty (0, 0)) := by
  simp [World.setCell, Array.getElem?_modify, h]
theorem set_other {w : World} {b k i : Nat} {v : Value} (h : k ≠ b) : (w.setCell ⟨b, i, none⟩ v).heap[k]? = w.heap[k]? := by
  simp only [World.setCell, Array.getElem?_modify]
  rw [if_neg (by omega)]
/-- a cut as a value -/
def cutV (c : Cut) : Value := .agg #[tree c.part, .int .i64 (c.rows : Int), .int .i64 (c.cols : Int), tree c.rest]
theorem info_cut (x y z u : Value) : (Try.prog.info? 50).map (·.size) = some (#[x, y, z, u] : Array Value).size := by kernel_rfl
theorem one_cut (a b : Int) (t1 t2 : TypeId) (x y : Value) : (#[.iface t1 x, .int .i64 a, .int .i64 b, .iface t2 y] : Array Value).all (·.oneCell') = true := by simp [Value.oneCell']
/-- the blocks of a call: the rectangle, the result, the bit -/
structure Hc (w wr : World) (B : Nat) (wh : Int) (s : Nat) (t1 t2 : TypeId) (v1 v2 : Value) (R C : Nat) : Prop where
  rect : wr.heap[B]? = some (.cells #[.int .i64 (R : Int), .int .i64 (C : Int)] 23 (0, 0))
  res : wr.heap[B + 1]? = some (.cells #[.nilIface, .int .i64 0, .int .i64 0, .nilIface] 50 (0, 0))
  node : wr.heap[B + 1 + 1]? = some (.cells #[.int .u8 wh, .int .i64 (s : Int), .iface t1 v1, .iface t2 v2] 78 (0, 0))
  below : Below w.heap.size w wr
  size : w.heap.size = B
theorem Hc.later {w wr w2 : World} {B : Nat} {wh : Int} {s : Nat} {t1 t2 : TypeId} {v1 v2 : Value} {R C : Nat} (h : Hc w wr B wh s t1 t2 v1 v2 R C) (hb : Below wr.heap.size wr w2) : Hc w w2 B wh s t1 t2 v1 v2 R C :=
  have k : ∀ {g : Nat} {o : Obj}, wr.heap[g]? = some o → w2.heap[g]? = some o := fun e => (hb.block _ (Array.getElem?_eq_some_iff.1 e).1).trans e
  ⟨k h.rect, k h.res, k h.node, h.below.trans (hb.mono h.below.size), h.size⟩
theorem Hc.start (w : World) (wh : Int) (s : Nat) (t1 t2 : TypeId) (v1 v2 : Value) (R C : Nat) : Hc w (((w.alloc (.cells #[.int .i64 (R : Int), .int .i64 (C : Int)] 23)).alloc (.cells #[.nilIface, .int .i64 0, .int .i64 0, .nilIface] 50)).alloc (.cells #[.int .u8 wh, .int .i64 (s : Int), .iface t1 v1, .iface t2 v2] 78)) w.heap.size wh s t1 t2 v1 v2 R C := by
  have n0 := heap_alloc_new w (.cells #[.int .i64 (R : Int), .int .i64 (C : Int)] 23)
  have b0 := (Below.refl w.heap.size w).alloc (Nat.le_refl _) (.cells #[.int .i64 (R : Int), .int .i64 (C : Int)] 23)
  have s1 : (w.alloc (.cells #[.int .i64 (R : Int), .int .i64 (C : Int)] 23)).heap.size = w.heap.size + 1 := by simp
  generalize w.alloc (.cells #[.int .i64 (R : Int), .int .i64 (C : Int)] 23) = wa at *
  have n1 := heap_alloc_new wa (.cells #[.nilIface, .int .i64 0, .int .i64 0, .nilIface] 50)
  have k0 := (heap_alloc_old wa (.cells #[.nilIface, .int .i64 0, .int .i64 0, .nilIface] 50) (Array.getElem?_eq_some_iff.1 n0).1).trans n0
  have b1 := b0.alloc b0.size (.cells #[.nilIface, .int .i64 0, .int .i64 0, .nilIface] 50)
  have s2 : (wa.alloc (.cells #[.nilIface, .int .i64 0, .int .i64 0, .nilIface] 50)).heap.size = w.heap.size + 2 := by simp [s1]
  rw [s1] at n1
  generalize wa.alloc (.cells #[.nilIface, .int .i64 0, .int .i64 0, .nilIface] 50) = wb at *
  have n2 := heap_alloc_new wb (.cells #[.int .u8 wh, .int .i64 (s : Int), .iface t1 v1, .iface t2 v2] 78)
  rw [s2] at n2
  exact ⟨(heap_alloc_old wb _ (Array.getElem?_eq_some_iff.1 k0).1).trans k0, (heap_alloc_old wb _ (Array.getElem?_eq_some_iff.1 n1).1).trans n1, n2, b1.alloc b1.size _, rfl⟩

set_option maxHeartbeats 8000000 in
set_option maxRecDepth 100000 in
theorem heavy_to (n : Nat) (hn : 2 ≤ n) (hn2 : n ≤ 8000000) (t : T) : (text t).length ≤ 8000000 → ∀ (R C : Nat) (w : World), R < 256 → C < 256 →
    Calls Try.prog 27 #[tree t, rect R C, .int .i64 (n : Int)] w fun e w' => e = .returned (cutV (cutT n t R C)) ∧ Below w.heap.size w w' := by
  induction t with
  | leaf b =>
    intro hl R C w hR hC
    show Calls _ _ #[.iface 67 (.int .i64 (bitI b)), _, _] _ fun e w' => e = .returned (.agg #[.iface 67 (.int .i64 (bitI b)), .int .i64 (R : Int), .int .i64 (C : Int), .iface 67 (.int .i64 0)]) ∧ _
    generalize bitI b = bi
    have has := as_end
    go_enter Try.func27, Try.ntmps27
    go_wp2_with fail
    go_returns
    exact ⟨rfl, by go_grown⟩
  | say a s z o ihz iho =>
    intro hl R C w hR hC
    have hlz : (text z).length + (text o).length + 3 = (text (.say a s z o)).length := by simp [text]
    obtain ⟨p1, p2, p3, p4⟩ := parts_lt a s hR hC
    have bz := ends_le z
    have bo := ends_le o
    have hS : ∀ W, Calls Try.prog 93 #[.agg #[.int .u8 ((whoB a).toNat : Int), .int .i64 (s : Int), tree z, tree o]] W fun e w' => e = .returned (.int .i64 ((ends z + ends o : Nat) : Int)) ∧ Below W.heap.size W w' := by
      have h := count_ends (.say a s z o) hl
      unfold Go.Proofs.Ytgfhahlkffagaaa.Count.Node Go.Proofs.Ytgfhahlkffagaaa.Count.EndsC at h
      rcases h with ⟨V, e, h⟩ | ⟨V, e, h⟩
      · simp [tree, sayV] at e
      · simp only [tree, sayV, Value.iface.injEq, true_and] at e
        subst e
        exact h
    have hZ := count_ends z (by omega)
    have hO := count_ends o (by omega)
    unfold Go.Proofs.Ytgfhahlkffagaaa.Count.Node Go.Proofs.Ytgfhahlkffagaaa.Count.EndsC at hZ hO
    have hIZ := fun W => ihz (by omega) (outR a s R) (outC a s C) W p1 p2
    have hIO := fun W => iho (by omega) (inR a s R) (inC a s C) W p3 p4
    have HT : cutT n (.say a s z o) R C = if 3 * (ends z + ends o) ≤ 2 * n then ⟨.say a s z o, R, C, .leaf false⟩
      else if ends z < ends o then
        ⟨(cutT n o (inR a s R) (inC a s C)).part, (cutT n o (inR a s R) (inC a s C)).rows, (cutT n o (inR a s R) (inC a s C)).cols, .say a s z (cutT n o (inR a s R) (inC a s C)).rest⟩
      else ⟨(cutT n z (outR a s R) (outC a s C)).part, (cutT n z (outR a s R) (outC a s C)).rows, (cutT n z (outR a s R) (outC a s C)).cols, .say a s (cutT n z (outR a s R) (outC a s C)).rest o⟩ := rfl
    rw [HT]
    generalize cutT n o (inR a s R) (inC a s C) = cO at *
    generalize cutT n z (outR a s R) (outC a s C) = cZ at *
    obtain ⟨po, ro, co, xo⟩ := cO
    obtain ⟨pz, rz, cz, xz⟩ := cZ
    obtain ⟨res, hres⟩ : ∃ res, cutV (if 3 * (ends z + ends o) ≤ 2 * n then ⟨.say a s z o, R, C, .leaf false⟩ else if ends z < ends o then ⟨po, ro, co, .say a s z xo⟩ else ⟨pz, rz, cz, .say a s xz o⟩) = res := ⟨_, rfl⟩
    show Calls _ _ _ _ fun e w' => e = .returned (cutV (if 3 * (ends z + ends o) ≤ 2 * n then ⟨.say a s z o, R, C, .leaf false⟩ else if ends z < ends o then ⟨po, ro, co, .say a s z xo⟩ else ⟨pz, rz, cz, .say a s xz o⟩)) ∧ _
    rw [hres]
    show Calls _ _ #[.iface 78 (.agg #[.int .u8 ((whoB a).toNat : Int), .int .i64 (s : Int), tree z, tree o]), _, _] _ _
    unfold cutV at hres hIZ hIO
    simp only at hIZ hIO
    have HRS := Lib.hid hres
    have hPo := fun t1 t2 v1 v2 W => part_out a s R C hR hC t1 t2 v1 v2 W
    have hPi := fun t1 t2 v1 v2 W => part_in a s R C hR hC t1 t2 v1 v2 W
    obtain ⟨t1, v1, e1⟩ := tree_iface z
    obtain ⟨t2, v2, e2⟩ := tree_iface o
    obtain ⟨tpo, vpo, epo⟩ := tree_iface po
    obtain ⟨txo, vxo, exo⟩ := tree_iface xo
    obtain ⟨tpz, vpz, epz⟩ := tree_iface pz
    obtain ⟨txz, vxz, exz⟩ := tree_iface xz
    rw [e1] at hIZ hZ
    rw [e2] at hIO hO
    rw [e1, e2] at hS
    rw [epo, exo] at hIO
    rw [epz, exz] at hIZ
    rw [e1, e2]
    have HPo := Lib.hid (hPo t1 t2 v1 v2)
    have HPi := Lib.hid (hPi t1 t2 v1 v2)
    have HE := Lib.hid (And.intro (And.intro e1 e2) (And.intro (And.intro epo exo) (And.intro epz exz)))
    obtain ⟨oR, hoR⟩ : ∃ x, outR a s R = x := ⟨_, rfl⟩
    obtain ⟨oC, hoC⟩ : ∃ x, outC a s C = x := ⟨_, rfl⟩
    obtain ⟨iR, hiR⟩ : ∃ x, inR a s R = x := ⟨_, rfl⟩
    obtain ⟨iC, hiC⟩ : ∃ x, inC a s C = x := ⟨_, rfl⟩
    rw [hoR, hoC] at HPo hIZ
    rw [hiR, hiC] at HPi hIO
    obtain ⟨wh, hwh⟩ : ∃ wh, ((whoB a).toNat : Int) = wh := ⟨_, rfl⟩
    have HWH := Lib.hid hwh
    rw [hwh] at HPo HPi hS ⊢
    obtain ⟨E1, hE1⟩ : ∃ x, ends z = x := ⟨_, rfl⟩
    obtain ⟨E2, hE2⟩ : ∃ x, ends o = x := ⟨_, rfl⟩
    rw [hE1] at HRS hZ hS bz
    rw [hE2] at HRS hO hS bo
    have HS := Lib.hid hS
    have HZ := Lib.hid hZ
    have HO := Lib.hid hO
    have HIZ := Lib.hid hIZ
    have HIO := Lib.hid hIO
    have b1 : E1 ≤ 8000000 := by omega
    have b2 : E2 ≤ 8000000 := by omega
    obtain ⟨E, hE⟩ : ∃ E : Nat, E1 + E2 = E := ⟨_, rfl⟩
    have bE : E ≤ 16000000 := by omega
    rw [hE] at HS HRS
    obtain ⟨B, hB⟩ : ∃ B, w.heap.size = B := ⟨_, rfl⟩
    have HBB := Lib.hid hB
    have HW0 : Hid (Hc w _ B wh s t1 t2 v1 v2 R C) := Lib.hid (hB ▸ Hc.start w wh s t1 t2 v1 v2 R C)
    clear hS hZ hO hIZ hIO hPo hPi e1 e2 epo exo epz exz hoR hoC hiR hiC hwh hE1 hE2 hres HT hl hlz p1 p2 p3 p4 bz bo ihz iho hR hC
    have m1 : IntKind.i64.wrap (3 * (E : Int)) = 3 * (E : Int) := by simp only [IntKind.wrap_i64]; omega
    have m2 : IntKind.i64.wrap (2 * (n : Int)) = 2 * (n : Int) := by simp only [IntKind.wrap_i64]; omega
    have has := as_say
    by_cases hb : 3 * E ≤ 2 * n
    · have HR1 : Hid (cutV ⟨.say a s z o, R, C, .leaf false⟩ = res) := Lib.hid (by have h := HRS.out; rw [if_pos hb] at h; exact h)
      have hbi : 3 * (E : Int) ≤ 2 * (n : Int) := by omega
      clear HRS HZ HO HIZ HIO hE
      go_enter Try.func27, Try.ntmps27
      go_wp2_with fail
      refine (HS.out _).mono ?_
      rintro e w1 ⟨rfl, hb1⟩
      have H1 := Lib.hid (HW0.out.later hb1)
      clear hb1 hB HW0
      obtain ⟨r0, r1⟩ := cells2 H1.out.rect
      obtain ⟨q0, q1, q2, q3⟩ := cells4 H1.out.res
      obtain ⟨f0, f1, f2, f3⟩ := frozen4 H1.out.res
      go_wp2_with fail
      have hs := H1.out.size
      have k := set4 H1.out.res (.iface 78 (.agg #[.int .u8 wh, .int .i64 (s : Int), .iface t1 v1, .iface t2 v2])) (.int .i64 (R : Int)) (.int .i64 (C : Int)) (.iface 67 (.int .i64 0))
      have hb := (((H1.out.below.setCell (p := ⟨B + 1, 0, none⟩) (by simp only; omega) (.iface 78 (.agg #[.int .u8 wh, .int .i64 (s : Int), .iface t1 v1, .iface t2 v2]))).setCell (p := ⟨B + 1, 1, none⟩) (by simp only; omega) (.int .i64 (R : Int))).setCell (p := ⟨B + 1, 2, none⟩) (by simp only; omega) (.int .i64 (C : Int))).setCell (p := ⟨B + 1, 3, none⟩) (by simp only; omega) (.iface 67 (.int .i64 0))
      generalize ((((w1.setCell ⟨B + 1, 0, none⟩ (.iface 78 (.agg #[.int .u8 wh, .int .i64 (s : Int), .iface t1 v1, .iface t2 v2]))).setCell ⟨B + 1, 1, none⟩ (.int .i64 (R : Int))).setCell ⟨B + 1, 2, none⟩ (.int .i64 (C : Int))).setCell ⟨B + 1, 3, none⟩ (.iface 67 (.int .i64 0))) = wf at *
      have HBF := Lib.hid hb
      obtain ⟨k0, k1, k2, k3⟩ := cells4 k
      clear hb k hs q0 q1 q2 q3 f0 f1 f2 f3 r0 r1
      refine bodyPost_ret (v := .agg #[.iface 78 (.agg #[.int .u8 wh, .int .i64 (s : Int), .iface t1 v1, .iface t2 v2]), .int .i64 (R : Int), .int .i64 (C : Int), .iface 67 (.int .i64 0)]) (by simp [results, Try.results27, go_sem, k0, k1, k2, k3]) rfl ⟨?_, HBF.out⟩
      rw [← HR1.out]; simp only [cutV, tree, sayV, leafV, HE.out.1.1, HE.out.1.2, HWH.out]; rfl
    have hbi : ¬ 3 * (E : Int) ≤ 2 * (n : Int) := by omega
    have HRS2 : Hid (cutV (if E1 < E2 then ⟨po, ro, co, .say a s z xo⟩ else ⟨pz, rz, cz, .say a s xz o⟩) = res) := Lib.hid (by have h := HRS.out; rw [if_neg hb] at h; exact h)
    clear HRS
    by_cases hm : E1 < E2
    · have HR1 : Hid (cutV ⟨po, ro, co, .say a s z xo⟩ = res) := Lib.hid (by have h := HRS2.out; rw [if_pos hm] at h; exact h)
      have hd : decide ((E1 : Int) < (E2 : Int)) = true := by simp; omega
      clear HRS2 hE
      go_enter Try.func27, Try.ntmps27
      go_wp2_with fail
      refine (HS.out _).mono ?_
      rintro e w1 ⟨rfl, hb1⟩
      have H1 := Lib.hid (HW0.out.later hb1)
      clear hb1 hB HW0 HS
      go_wp2_with fail
      have bitC : ∀ W : World, Calls Try.prog 47 #[.bool true] W fun e w' => e = .returned (.int .i64 1) ∧ Below W.heap.size W w' := fun W => (bitOf_any true W).mono fun e w' h => ⟨h.1, h.2 ▸ Below.refl _ _⟩
      refine wp_region_below (fun | 0 => .pointer (some ⟨B + 1 + 1, 2, none⟩) | 1 => .pointer (some ⟨B + 1 + 1, 3, none⟩) | 2 => .iface t2 v2 | 3 => .int .i64 (E2 : Int) | 4 => .pointer (some ⟨B + 1 + 1, 2, none⟩) | 5 => .pointer (some ⟨B + 1 + 1, 2, none⟩) | 6 => .iface t1 v1 | 7 => .int .i64 (E1 : Int) | 8 => .bool true | 9 => .int .i64 1 | 10 => .int .i64 1 | _ => undef) (by kernel_rfl) (by kernel_rfl) rfl ?conA1 ?enA1
      case conA1 =>
        intro i o ho a wx hb hf
        match i, ho with
        | 0, ho =>
          obtain rfl := Option.some.inj ho
          have b7 : a.tmps[7]?.getD undef = .pointer (some ⟨B + 1 + 1, 0, none⟩) := hf.2 7 (by kernel_rfl)
          exact wp_value (.pointer (some ⟨B + 1 + 1, 2, none⟩)) (by unfold execOp; go_simp) ⟨rfl, Below.refl _ _⟩
        | 1, ho =>
          obtain rfl := Option.some.inj ho
          have e30 : a.tmps[30]?.getD undef = .pointer (some ⟨B + 1 + 1, 2, none⟩) := hf.1 ⟨0, .data⟩ (by simp) rfl _ 30 rfl rfl
          exact wp_value (.pointer (some ⟨B + 1 + 1, 3, none⟩)) (by unfold execOp; go_simp) ⟨rfl, Below.refl _ _⟩
        | 2, ho =>
          obtain rfl := Option.some.inj ho
          have e31 : a.tmps[31]?.getD undef = .pointer (some ⟨B + 1 + 1, 3, none⟩) := hf.1 ⟨1, .data⟩ (by simp) rfl _ 31 rfl rfl
          obtain ⟨c0, c1, c2, c3⟩ := cells4 ((H1.out.later hb).node)
          exact wp_value (.iface t2 v2) (by unfold execOp; go_simp) ⟨rfl, Below.refl _ _⟩
        | 3, ho =>
          obtain rfl := Option.some.inj ho
          have e32 : a.tmps[32]?.getD undef = .iface t2 v2 := hf.1 ⟨2, .data⟩ (by simp) rfl _ 32 rfl rfl
          rcases HO.out with ⟨V, ev, hv⟩ | ⟨V, ev, hv⟩
          · simp only [Value.iface.injEq] at ev
            obtain ⟨rfl, rfl⟩ := ev
            exact wp_enter 86 #[v2] (.int .i64 (E2 : Int)) _ (by unfold execOp; go_simp; go_invoke; rfl) (hv wx) (fun w' h => ⟨rfl, h⟩)
          · simp only [Value.iface.injEq] at ev
            obtain ⟨rfl, rfl⟩ := ev
            exact wp_enter 93 #[v2] (.int .i64 (E2 : Int)) _ (by unfold execOp; go_simp; go_invoke; rfl) (hv wx) (fun w' h => ⟨rfl, h⟩)
        | 4, ho =>
          obtain rfl := Option.some.inj ho
          have b7 : a.tmps[7]?.getD undef = .pointer (some ⟨B + 1 + 1, 0, none⟩) := hf.2 7 (by kernel_rfl)
          exact wp_value (.pointer (some ⟨B + 1 + 1, 2, none⟩)) (by unfold execOp; go_simp) ⟨rfl, Below.refl _ _⟩
        | 5, ho =>
          obtain rfl := Option.some.inj ho
          have e34 : a.tmps[34]?.getD undef = .pointer (some ⟨B + 1 + 1, 2, none⟩) := hf.1 ⟨4, .data⟩ (by simp) rfl _ 34 rfl rfl
          exact wp_value (.pointer (some ⟨B + 1 + 1, 2, none⟩)) (by unfold execOp; go_simp) ⟨rfl, Below.refl _ _⟩
        | 6, ho =>
          obtain rfl := Option.some.inj ho
          have e35 : a.tmps[35]?.getD undef = .pointer (some ⟨B + 1 + 1, 2, none⟩) := hf.1 ⟨5, .data⟩ (by simp) rfl _ 35 rfl rfl
          obtain ⟨c0, c1, c2, c3⟩ := cells4 ((H1.out.later hb).node)
          exact wp_value (.iface t1 v1) (by unfold execOp; go_simp) ⟨rfl, Below.refl _ _⟩
        | 7, ho =>
          obtain rfl := Option.some.inj ho
          have e36 : a.tmps[36]?.getD undef = .iface t1 v1 := hf.1 ⟨6, .data⟩ (by simp) rfl _ 36 rfl rfl
          rcases HZ.out with ⟨V, ev, hv⟩ | ⟨V, ev, hv⟩
          · simp only [Value.iface.injEq] at ev
            obtain ⟨rfl, rfl⟩ := ev
            exact wp_enter 86 #[v1] (.int .i64 (E1 : Int)) _ (by unfold execOp; go_simp; go_invoke; rfl) (hv wx) (fun w' h => ⟨rfl, h⟩)
          · simp only [Value.iface.injEq] at ev
            obtain ⟨rfl, rfl⟩ := ev
            exact wp_enter 93 #[v1] (.int .i64 (E1 : Int)) _ (by unfold execOp; go_simp; go_invoke; rfl) (hv wx) (fun w' h => ⟨rfl, h⟩)
        | 8, ho =>
          obtain rfl := Option.some.inj ho
          have e33 : a.tmps[33]?.getD undef = .int .i64 (E2 : Int) := hf.1 ⟨3, .data⟩ (by simp) rfl _ 33 rfl rfl
          have e37 : a.tmps[37]?.getD undef = .int .i64 (E1 : Int) := hf.1 ⟨7, .data⟩ (by simp) rfl _ 37 rfl rfl
          exact wp_value (.bool true) (by unfold execOp; go_simp; first | done | omega | (simp; omega) | (rw [hd]) | (simp [hd])) ⟨rfl, Below.refl _ _⟩
        | 9, ho =>
          obtain rfl := Option.some.inj ho
          have e38 : a.tmps[38]?.getD undef = .bool true := hf.1 ⟨8, .data⟩ (by simp) rfl _ 38 rfl rfl
          exact wp_enter 47 #[.bool true] (.int .i64 1) _ (by unfold execOp; go_simp) (bitC wx) (fun w' h => ⟨rfl, h⟩)
        | 10, ho =>
          obtain rfl := Option.some.inj ho
          have e39 : a.tmps[39]?.getD undef = .int .i64 1 := hf.1 ⟨9, .data⟩ (by simp) rfl _ 39 rfl rfl
          exact wp_value (.int .i64 1) (by unfold execOp; go_simp) ⟨rfl, Below.refl _ _⟩
        | q + 11, ho => simp at ho
      case enA1 =>
        intro w2 hb2
        have H2 := Lib.hid (H1.out.later hb2)
        clear hb2 H1 HZ HO bitC hd
        simp only [fill, Act.put]
        go_simp
        go_wp2_with fail
        refine wp_region_one (fun | 0 => .int .i64 1 | 1 => .pointer (some ⟨B + 1 + 1, 2, none⟩) | 2 => .pointer (some ⟨B + 1 + 1, 3, none⟩) | 3 => .iface t2 v2 | 4 => .agg #[.int .u8 wh, .int .i64 (s : Int), .iface t1 v1, .iface t2 v2] | 5 => rect R C | 6 => .int .i64 1 | 7 => rect iR iC | 8 => .int .i64 (n : Int) | 9 => .agg #[.iface tpo vpo, .int .i64 (ro : Int), .int .i64 (co : Int), .iface txo vxo] | _ => undef) 10 11 10 50 #[.nilIface, .int .i64 0, .int .i64 0, .nilIface] #[.iface tpo vpo, .int .i64 (ro : Int), .int .i64 (co : Int), .iface txo vxo] _ _ (by kernel_rfl) (by kernel_rfl) rfl rfl rfl rfl rfl (by decide) ⟨⟨10, .data⟩, (by simp), rfl, rfl⟩ rfl ?alB1 ?stB1 ?conB1 ?enB1
        case alB1 =>
          intro a w
          unfold execOp
          go_simp
        case stB1 =>
          intro a wx b old hf hp hg hsz
          have e49 : a.tmps[49]?.getD undef = .agg #[.iface tpo vpo, .int .i64 (ro : Int), .int .i64 (co : Int), .iface txo vxo] := get_of (hf.1 ⟨9, .data⟩ (by simp) rfl _ 49 rfl rfl (by decide) (by decide))
          refine wp_store_row 50 (.tmp 10) (.tmp 49) rfl b #[.iface tpo vpo, .int .i64 (ro : Int), .int .i64 (co : Int), .iface txo vxo] hp (eval_get e49) 50 old hg (info_cut _ _ _ _) hsz (one_cut _ _ _ _ _ _) ⟨rfl, rfl⟩
        case conB1 =>
          intro i o ho n1 n2 a wx hb hf
          match i, ho with
          | 0, ho =>
            obtain rfl := Option.some.inj ho
            have b9 : a.tmps[9]?.getD undef = .int .i64 1 := get_of (hf.2 9 (by kernel_rfl))
            exact wp_value (.int .i64 1) (by unfold execOp; go_simp) ⟨rfl, Below.refl _ _⟩
          | 1, ho =>
            obtain rfl := Option.some.inj ho
            have b7 : a.tmps[7]?.getD undef = .pointer (some ⟨B + 1 + 1, 0, none⟩) := get_of (hf.2 7 (by kernel_rfl))
            exact wp_value (.pointer (some ⟨B + 1 + 1, 2, none⟩)) (by unfold execOp; go_simp) ⟨rfl, Below.refl _ _⟩
          | 2, ho =>
            obtain rfl := Option.some.inj ho
            have e41 : a.tmps[41]?.getD undef = .pointer (some ⟨B + 1 + 1, 2, none⟩) := get_of (hf.1 ⟨1, .data⟩ (by simp) rfl _ 41 rfl rfl (by decide) (by decide))
            have e40 : a.tmps[40]?.getD undef = .int .i64 1 := get_of (hf.1 ⟨0, .data⟩ (by simp) rfl _ 40 rfl rfl (by decide) (by decide))
            exact wp_value (.pointer (some ⟨B + 1 + 1, 3, none⟩)) (by unfold execOp; go_simp) ⟨rfl, Below.refl _ _⟩
          | 3, ho =>
            obtain rfl := Option.some.inj ho
            have e42 : a.tmps[42]?.getD undef = .pointer (some ⟨B + 1 + 1, 3, none⟩) := get_of (hf.1 ⟨2, .data⟩ (by simp) rfl _ 42 rfl rfl (by decide) (by decide))
            obtain ⟨c0, c1, c2, c3⟩ := cells4 ((H2.out.later hb).node)
            exact wp_value (.iface t2 v2) (by unfold execOp; go_simp) ⟨rfl, Below.refl _ _⟩
          | 4, ho =>
            obtain rfl := Option.some.inj ho
            have b7 : a.tmps[7]?.getD undef = .pointer (some ⟨B + 1 + 1, 0, none⟩) := get_of (hf.2 7 (by kernel_rfl))
            exact wp_load_row 78 (.tmp 7) rfl (B + 1 + 1) (eval_get b7) 78 _ (0, 0) _ ((H2.out.later hb).node) Try.underlying78 rfl (info_say _ _ _ _) ⟨rfl, Below.refl _ _⟩
          | 5, ho =>
            obtain rfl := Option.some.inj ho
            have b4 : a.tmps[4]?.getD undef = .pointer (some ⟨B, 0, none⟩) := get_of (hf.2 4 (by kernel_rfl))
            exact wp_load_row 23 (.tmp 4) rfl B (eval_get b4) 23 _ (0, 0) _ ((H2.out.later hb).rect) Try.underlying23 rfl (info_rect _ _) ⟨rfl, Below.refl _ _⟩
          | 6, ho =>
            obtain rfl := Option.some.inj ho
            have b9 : a.tmps[9]?.getD undef = .int .i64 1 := get_of (hf.2 9 (by kernel_rfl))
            exact wp_value (.int .i64 1) (by unfold execOp; go_simp) ⟨rfl, Below.refl _ _⟩
          | 7, ho =>
            obtain rfl := Option.some.inj ho
            have e44 : a.tmps[44]?.getD undef = .agg #[.int .u8 wh, .int .i64 (s : Int), .iface t1 v1, .iface t2 v2] := get_of (hf.1 ⟨4, .data⟩ (by simp) rfl _ 44 rfl rfl (by decide) (by decide))
            have e45 : a.tmps[45]?.getD undef = rect R C := get_of (hf.1 ⟨5, .data⟩ (by simp) rfl _ 45 rfl rfl (by decide) (by decide))
            have e46 : a.tmps[46]?.getD undef = .int .i64 1 := get_of (hf.1 ⟨6, .data⟩ (by simp) rfl _ 46 rfl rfl (by decide) (by decide))
            exact wp_enter 48 #[.agg #[.int .u8 wh, .int .i64 (s : Int), .iface t1 v1, .iface t2 v2], rect R C, .int .i64 1] (rect iR iC) _ (by unfold execOp; go_simp) (HPi.out wx) (fun w' h => ⟨rfl, h⟩)
          | 8, ho =>
            obtain rfl := Option.some.inj ho
            have b2 : a.tmps[2]?.getD undef = .int .i64 (n : Int) := get_of (hf.2 2 (by kernel_rfl))
            exact wp_value (.int .i64 (n : Int)) (by unfold execOp; go_simp) ⟨rfl, Below.refl _ _⟩
          | 9, ho =>
            obtain rfl := Option.some.inj ho
            have e43 : a.tmps[43]?.getD undef = .iface t2 v2 := get_of (hf.1 ⟨3, .data⟩ (by simp) rfl _ 43 rfl rfl (by decide) (by decide))
            have e47 : a.tmps[47]?.getD undef = rect iR iC := get_of (hf.1 ⟨7, .data⟩ (by simp) rfl _ 47 rfl rfl (by decide) (by decide))
            have e48 : a.tmps[48]?.getD undef = .int .i64 (n : Int) := get_of (hf.1 ⟨8, .data⟩ (by simp) rfl _ 48 rfl rfl (by decide) (by decide))
            exact wp_enter 27 #[.iface t2 v2, rect iR iC, .int .i64 (n : Int)] (.agg #[.iface tpo vpo, .int .i64 (ro : Int), .int .i64 (co : Int), .iface txo vxo]) _ (by unfold execOp; go_simp) (HIO.out wx) (fun w' h => ⟨rfl, h⟩)
          | 10, ho => exact absurd rfl n1
          | 11, ho => exact absurd rfl n2
          | q + 12, ho => simp at ho
        case enB1 =>
          intro b w3 hb3 hle hcell
          have H3 := Lib.hid (H2.out.later hb3)
          have HC := Lib.hid hcell
          have hsz : B + 1 + 1 < w2.heap.size := (Array.getElem?_eq_some_iff.1 H2.out.node).1
          have n1 : b ≠ B + 1 + 1 := by omega
          have n2 : b ≠ B + 1 := by omega
          have n3 : B + 1 + 1 ≠ b := by omega
          have n4 : B + 1 ≠ b := by omega
          have HLE : Hid (B ≤ b) := by show B ≤ b; omega
          clear hb3 hle hcell hsz H2 HPi HIO
          simp only [fill, Act.put]
          go_simp
          obtain ⟨c0, c1, c2, c3⟩ := cells4 H3.out.node
          obtain ⟨g0, g1, g2, g3⟩ := frozen4 H3.out.node
          obtain ⟨d0, d1, d2, d3⟩ := cells4 HC.out
          obtain ⟨x0, x1, x2, x3⟩ := frozen4 HC.out
          obtain ⟨f0, f1, f2, f3⟩ := frozen4 H3.out.res
          obtain ⟨q0, q1, q2, q3⟩ := cells4 H3.out.res
          go_wp2_with fail
          have hs := H3.out.size
          have hr : ((w3.setCell ⟨B + 1 + 1, 3, none⟩ (.iface txo vxo)).setCell ⟨b, 3, none⟩ (.iface 78 (.agg #[.int .u8 wh, .int .i64 (s : Int), .iface t1 v1, .iface txo vxo]))).heap[B + 1]? = _ := (set_other n4).trans ((set_other (by omega)).trans H3.out.res)
          have hbl : b ≥ B := by have := HLE.out; omega
          have hb4 : Below w.heap.size w ((w3.setCell ⟨B + 1 + 1, 3, none⟩ (.iface txo vxo)).setCell ⟨b, 3, none⟩ (.iface 78 (.agg #[.int .u8 wh, .int .i64 (s : Int), .iface t1 v1, .iface txo vxo]))) := (H3.out.below.setCell (p := ⟨B + 1 + 1, 3, none⟩) (by simp only; omega) _).setCell (p := ⟨b, 3, none⟩) (by simp only; omega) _
          generalize ((w3.setCell ⟨B + 1 + 1, 3, none⟩ (.iface txo vxo)).setCell ⟨b, 3, none⟩ (.iface 78 (.agg #[.int .u8 wh, .int .i64 (s : Int), .iface t1 v1, .iface txo vxo]))) = w4 at *
          have k := set4 hr (.iface tpo vpo) (.int .i64 (ro : Int)) (.int .i64 (co : Int)) (.iface 78 (.agg #[.int .u8 wh, .int .i64 (s : Int), .iface t1 v1, .iface txo vxo]))
          have hb := (((hb4.setCell (p := ⟨B + 1, 0, none⟩) (by simp only; omega) (.iface tpo vpo)).setCell (p := ⟨B + 1, 1, none⟩) (by simp only; omega) (.int .i64 (ro : Int))).setCell (p := ⟨B + 1, 2, none⟩) (by simp only; omega) (.int .i64 (co : Int))).setCell (p := ⟨B + 1, 3, none⟩) (by simp only; omega) (.iface 78 (.agg #[.int .u8 wh, .int .i64 (s : Int), .iface t1 v1, .iface txo vxo]))
          generalize ((((w4.setCell ⟨B + 1, 0, none⟩ (.iface tpo vpo)).setCell ⟨B + 1, 1, none⟩ (.int .i64 (ro : Int))).setCell ⟨B + 1, 2, none⟩ (.int .i64 (co : Int))).setCell ⟨B + 1, 3, none⟩ (.iface 78 (.agg #[.int .u8 wh, .int .i64 (s : Int), .iface t1 v1, .iface txo vxo]))) = wf at *
          have HBF := Lib.hid hb
          obtain ⟨k0, k1, k2, k3⟩ := cells4 k
          clear hb k hs hr hb4 q0 q1 q2 q3 f0 f1 f2 f3 c0 c1 c2 c3 g0 g1 g2 g3 d0 d1 d2 d3 x0 x1 x2 x3
          refine bodyPost_ret (v := .agg #[.iface tpo vpo, .int .i64 (ro : Int), .int .i64 (co : Int), .iface 78 (.agg #[.int .u8 wh, .int .i64 (s : Int), .iface t1 v1, .iface txo vxo])]) (by simp [results, Try.results27, go_sem, k0, k1, k2, k3]) rfl ⟨?_, HBF.out⟩
          rw [← HR1.out]; simp only [cutV, tree, sayV, HE.out.1.1, HE.out.1.2, HE.out.2.1.1, HE.out.2.1.2, HWH.out]
    · have HR1 : Hid (cutV ⟨pz, rz, cz, .say a s xz o⟩ = res) := Lib.hid (by have h := HRS2.out; rw [if_neg hm] at h; exact h)
      have hd : decide ((E1 : Int) < (E2 : Int)) = false := by simp; omega
      clear HRS2 hE
      go_enter Try.func27, Try.ntmps27
      go_wp2_with fail
      refine (HS.out _).mono ?_
      rintro e w1 ⟨rfl, hb1⟩
      have H1 := Lib.hid (HW0.out.later hb1)
      clear hb1 hB HW0 HS
      go_wp2_with fail
      have bitC : ∀ W : World, Calls Try.prog 47 #[.bool false] W fun e w' => e = .returned (.int .i64 0) ∧ Below W.heap.size W w' := fun W => (bitOf_any false W).mono fun e w' h => ⟨h.1, h.2 ▸ Below.refl _ _⟩
      refine wp_region_below (fun | 0 => .pointer (some ⟨B + 1 + 1, 2, none⟩) | 1 => .pointer (some ⟨B + 1 + 1, 3, none⟩) | 2 => .iface t2 v2 | 3 => .int .i64 (E2 : Int) | 4 => .pointer (some ⟨B + 1 + 1, 2, none⟩) | 5 => .pointer (some ⟨B + 1 + 1, 2, none⟩) | 6 => .iface t1 v1 | 7 => .int .i64 (E1 : Int) | 8 => .bool false | 9 => .int .i64 0 | 10 => .int .i64 0 | _ => undef) (by kernel_rfl) (by kernel_rfl) rfl ?conA0 ?enA0
      case conA0 =>
        intro i o ho a wx hb hf
        match i, ho with
        | 0, ho =>
          obtain rfl := Option.some.inj ho
          have b7 : a.tmps[7]?.getD undef = .pointer (some ⟨B + 1 + 1, 0, none⟩) := hf.2 7 (by kernel_rfl)
          exact wp_value (.pointer (some ⟨B + 1 + 1, 2, none⟩)) (by unfold execOp; go_simp) ⟨rfl, Below.refl _ _⟩
        | 1, ho =>
          obtain rfl := Option.some.inj ho
          have e30 : a.tmps[30]?.getD undef = .pointer (some ⟨B + 1 + 1, 2, none⟩) := hf.1 ⟨0, .data⟩ (by simp) rfl _ 30 rfl rfl
          exact wp_value (.pointer (some ⟨B + 1 + 1, 3, none⟩)) (by unfold execOp; go_simp) ⟨rfl, Below.refl _ _⟩
        | 2, ho =>
          obtain rfl := Option.some.inj ho
          have e31 : a.tmps[31]?.getD undef = .pointer (some ⟨B + 1 + 1, 3, none⟩) := hf.1 ⟨1, .data⟩ (by simp) rfl _ 31 rfl rfl
          obtain ⟨c0, c1, c2, c3⟩ := cells4 ((H1.out.later hb).node)
          exact wp_value (.iface t2 v2) (by unfold execOp; go_simp) ⟨rfl, Below.refl _ _⟩
        | 3, ho =>
          obtain rfl := Option.some.inj ho
          have e32 : a.tmps[32]?.getD undef = .iface t2 v2 := hf.1 ⟨2, .data⟩ (by simp) rfl _ 32 rfl rfl
          rcases HO.out with ⟨V, ev, hv⟩ | ⟨V, ev, hv⟩
          · simp only [Value.iface.injEq] at ev
            obtain ⟨rfl, rfl⟩ := ev
            exact wp_enter 86 #[v2] (.int .i64 (E2 : Int)) _ (by unfold execOp; go_simp; go_invoke; rfl) (hv wx) (fun w' h => ⟨rfl, h⟩)
          · simp only [Value.iface.injEq] at ev
            obtain ⟨rfl, rfl⟩ := ev
            exact wp_enter 93 #[v2] (.int .i64 (E2 : Int)) _ (by unfold execOp; go_simp; go_invoke; rfl) (hv wx) (fun w' h => ⟨rfl, h⟩)
        | 4, ho =>
          obtain rfl := Option.some.inj ho
          have b7 : a.tmps[7]?.getD undef = .pointer (some ⟨B + 1 + 1, 0, none⟩) := hf.2 7 (by kernel_rfl)
          exact wp_value (.pointer (some ⟨B + 1 + 1, 2, none⟩)) (by unfold execOp; go_simp) ⟨rfl, Below.refl _ _⟩
        | 5, ho =>
          obtain rfl := Option.some.inj ho
          have e34 : a.tmps[34]?.getD undef = .pointer (some ⟨B + 1 + 1, 2, none⟩) := hf.1 ⟨4, .data⟩ (by simp) rfl _ 34 rfl rfl
          exact wp_value (.pointer (some ⟨B + 1 + 1, 2, none⟩)) (by unfold execOp; go_simp) ⟨rfl, Below.refl _ _⟩
        | 6, ho =>
          obtain rfl := Option.some.inj ho
          have e35 : a.tmps[35]?.getD undef = .pointer (some ⟨B + 1 + 1, 2, none⟩) := hf.1 ⟨5, .data⟩ (by simp) rfl _ 35 rfl rfl
          obtain ⟨c0, c1, c2, c3⟩ := cells4 ((H1.out.later hb).node)
          exact wp_value (.iface t1 v1) (by unfold execOp; go_simp) ⟨rfl, Below.refl _ _⟩
        | 7, ho =>
          obtain rfl := Option.some.inj ho
          have e36 : a.tmps[36]?.getD undef = .iface t1 v1 := hf.1 ⟨6, .data⟩ (by simp) rfl _ 36 rfl rfl
          rcases HZ.out with ⟨V, ev, hv⟩ | ⟨V, ev, hv⟩
          · simp only [Value.iface.injEq] at ev
            obtain ⟨rfl, rfl⟩ := ev
            exact wp_enter 86 #[v1] (.int .i64 (E1 : Int)) _ (by unfold execOp; go_simp; go_invoke; rfl) (hv wx) (fun w' h => ⟨rfl, h⟩)
          · simp only [Value.iface.injEq] at ev
            obtain ⟨rfl, rfl⟩ := ev
            exact wp_enter 93 #[v1] (.int .i64 (E1 : Int)) _ (by unfold execOp; go_simp; go_invoke; rfl) (hv wx) (fun w' h => ⟨rfl, h⟩)
        | 8, ho =>
          obtain rfl := Option.some.inj ho
          have e33 : a.tmps[33]?.getD undef = .int .i64 (E2 : Int) := hf.1 ⟨3, .data⟩ (by simp) rfl _ 33 rfl rfl
          have e37 : a.tmps[37]?.getD undef = .int .i64 (E1 : Int) := hf.1 ⟨7, .data⟩ (by simp) rfl _ 37 rfl rfl
          exact wp_value (.bool false) (by unfold execOp; go_simp; first | done | omega | (simp; omega) | (rw [hd]) | (simp [hd])) ⟨rfl, Below.refl _ _⟩
        | 9, ho =>
          obtain rfl := Option.some.inj ho
          have e38 : a.tmps[38]?.getD undef = .bool false := hf.1 ⟨8, .data⟩ (by simp) rfl _ 38 rfl rfl
          exact wp_enter 47 #[.bool false] (.int .i64 0) _ (by unfold execOp; go_simp) (bitC wx) (fun w' h => ⟨rfl, h⟩)
        | 10, ho =>
          obtain rfl := Option.some.inj ho
          have e39 : a.tmps[39]?.getD undef = .int .i64 0 := hf.1 ⟨9, .data⟩ (by simp) rfl _ 39 rfl rfl
          exact wp_value (.int .i64 0) (by unfold execOp; go_simp) ⟨rfl, Below.refl _ _⟩
        | q + 11, ho => simp at ho
      case enA0 =>
        intro w2 hb2
        have H2 := Lib.hid (H1.out.later hb2)
        clear hb2 H1 HZ HO bitC hd
        simp only [fill, Act.put]
        go_simp
        go_wp2_with fail
        refine wp_region_one (fun | 0 => .int .i64 0 | 1 => .pointer (some ⟨B + 1 + 1, 2, none⟩) | 2 => .pointer (some ⟨B + 1 + 1, 2, none⟩) | 3 => .iface t1 v1 | 4 => .agg #[.int .u8 wh, .int .i64 (s : Int), .iface t1 v1, .iface t2 v2] | 5 => rect R C | 6 => .int .i64 0 | 7 => rect oR oC | 8 => .int .i64 (n : Int) | 9 => .agg #[.iface tpz vpz, .int .i64 (rz : Int), .int .i64 (cz : Int), .iface txz vxz] | _ => undef) 10 11 10 50 #[.nilIface, .int .i64 0, .int .i64 0, .nilIface] #[.iface tpz vpz, .int .i64 (rz : Int), .int .i64 (cz : Int), .iface txz vxz] _ _ (by kernel_rfl) (by kernel_rfl) rfl rfl rfl rfl rfl (by decide) ⟨⟨10, .data⟩, (by simp), rfl, rfl⟩ rfl ?alB0 ?stB0 ?conB0 ?enB0
        case alB0 =>
          intro a w
          unfold execOp
          go_simp
        case stB0 =>
          intro a wx b old hf hp hg hsz
          have e49 : a.tmps[49]?.getD undef = .agg #[.iface tpz vpz, .int .i64 (rz : Int), .int .i64 (cz : Int), .iface txz vxz] := get_of (hf.1 ⟨9, .data⟩ (by simp) rfl _ 49 rfl rfl (by decide) (by decide))
          refine wp_store_row 50 (.tmp 10) (.tmp 49) rfl b #[.iface tpz vpz, .int .i64 (rz : Int), .int .i64 (cz : Int), .iface txz vxz] hp (eval_get e49) 50 old hg (info_cut _ _ _ _) hsz (one_cut _ _ _ _ _ _) ⟨rfl, rfl⟩
        case conB0 =>
          intro i o ho n1 n2 a wx hb hf
          match i, ho with
          | 0, ho =>
            obtain rfl := Option.some.inj ho
            have b9 : a.tmps[9]?.getD undef = .int .i64 0 := get_of (hf.2 9 (by kernel_rfl))
            exact wp_value (.int .i64 0) (by unfold execOp; go_simp) ⟨rfl, Below.refl _ _⟩
          | 1, ho =>
            obtain rfl := Option.some.inj ho
            have b7 : a.tmps[7]?.getD undef = .pointer (some ⟨B + 1 + 1, 0, none⟩) := get_of (hf.2 7 (by kernel_rfl))
            exact wp_value (.pointer (some ⟨B + 1 + 1, 2, none⟩)) (by unfold execOp; go_simp) ⟨rfl, Below.refl _ _⟩
          | 2, ho =>
            obtain rfl := Option.some.inj ho
            have e41 : a.tmps[41]?.getD undef = .pointer (some ⟨B + 1 + 1, 2, none⟩) := get_of (hf.1 ⟨1, .data⟩ (by simp) rfl _ 41 rfl rfl (by decide) (by decide))
            have e40 : a.tmps[40]?.getD undef = .int .i64 0 := get_of (hf.1 ⟨0, .data⟩ (by simp) rfl _ 40 rfl rfl (by decide) (by decide))
            exact wp_value (.pointer (some ⟨B + 1 + 1, 2, none⟩)) (by unfold execOp; go_simp) ⟨rfl, Below.refl _ _⟩
          | 3, ho =>
            obtain rfl := Option.some.inj ho
            have e42 : a.tmps[42]?.getD undef = .pointer (some ⟨B + 1 + 1, 2, none⟩) := get_of (hf.1 ⟨2, .data⟩ (by simp) rfl _ 42 rfl rfl (by decide) (by decide))
            obtain ⟨c0, c1, c2, c3⟩ := cells4 ((H2.out.later hb).node)
            exact wp_value (.iface t1 v1) (by unfold execOp; go_simp) ⟨rfl, Below.refl _ _⟩
          | 4, ho =>
            obtain rfl := Option.some.inj ho
            have b7 : a.tmps[7]?.getD undef = .pointer (some ⟨B + 1 + 1, 0, none⟩) := get_of (hf.2 7 (by kernel_rfl))
            exact wp_load_row 78 (.tmp 7) rfl (B + 1 + 1) (eval_get b7) 78 _ (0, 0) _ ((H2.out.later hb).node) Try.underlying78 rfl (info_say _ _ _ _) ⟨rfl, Below.refl _ _⟩
          | 5, ho =>
            obtain rfl := Option.some.inj ho
            have b4 : a.tmps[4]?.getD undef = .pointer (some ⟨B, 0, none⟩) := get_of (hf.2 4 (by kernel_rfl))
            exact wp_load_row 23 (.tmp 4) rfl B (eval_get b4) 23 _ (0, 0) _ ((H2.out.later hb).rect) Try.underlying23 rfl (info_rect _ _) ⟨rfl, Below.refl _ _⟩
          | 6, ho =>
            obtain rfl := Option.some.inj ho
            have b9 : a.tmps[9]?.getD undef = .int .i64 0 := get_of (hf.2 9 (by kernel_rfl))
            exact wp_value (.int .i64 0) (by unfold execOp; go_simp) ⟨rfl, Below.refl _ _⟩
          | 7, ho =>
            obtain rfl := Option.some.inj ho
            have e44 : a.tmps[44]?.getD undef = .agg #[.int .u8 wh, .int .i64 (s : Int), .iface t1 v1, .iface t2 v2] := get_of (hf.1 ⟨4, .data⟩ (by simp) rfl _ 44 rfl rfl (by decide) (by decide))
            have e45 : a.tmps[45]?.getD undef = rect R C := get_of (hf.1 ⟨5, .data⟩ (by simp) rfl _ 45 rfl rfl (by decide) (by decide))
            have e46 : a.tmps[46]?.getD undef = .int .i64 0 := get_of (hf.1 ⟨6, .data⟩ (by simp) rfl _ 46 rfl rfl (by decide) (by decide))
            exact wp_enter 48 #[.agg #[.int .u8 wh, .int .i64 (s : Int), .iface t1 v1, .iface t2 v2], rect R C, .int .i64 0] (rect oR oC) _ (by unfold execOp; go_simp) (HPo.out wx) (fun w' h => ⟨rfl, h⟩)
          | 8, ho =>
            obtain rfl := Option.some.inj ho
            have b2 : a.tmps[2]?.getD undef = .int .i64 (n : Int) := get_of (hf.2 2 (by kernel_rfl))
            exact wp_value (.int .i64 (n : Int)) (by unfold execOp; go_simp) ⟨rfl, Below.refl _ _⟩
          | 9, ho =>
            obtain rfl := Option.some.inj ho
            have e43 : a.tmps[43]?.getD undef = .iface t1 v1 := get_of (hf.1 ⟨3, .data⟩ (by simp) rfl _ 43 rfl rfl (by decide) (by decide))
            have e47 : a.tmps[47]?.getD undef = rect oR oC := get_of (hf.1 ⟨7, .data⟩ (by simp) rfl _ 47 rfl rfl (by decide) (by decide))
            have e48 : a.tmps[48]?.getD undef = .int .i64 (n : Int) := get_of (hf.1 ⟨8, .data⟩ (by simp) rfl _ 48 rfl rfl (by decide) (by decide))
            exact wp_enter 27 #[.iface t1 v1, rect oR oC, .int .i64 (n : Int)] (.agg #[.iface tpz vpz, .int .i64 (rz : Int), .int .i64 (cz : Int), .iface txz vxz]) _ (by unfold execOp; go_simp) (HIZ.out wx) (fun w' h => ⟨rfl, h⟩)
          | 10, ho => exact absurd rfl n1
          | 11, ho => exact absurd rfl n2
          | q + 12, ho => simp at ho
        case enB0 =>
          intro b w3 hb3 hle hcell
          have H3 := Lib.hid (H2.out.later hb3)
          have HC := Lib.hid hcell
          have hsz : B + 1 + 1 < w2.heap.size := (Array.getElem?_eq_some_iff.1 H2.out.node).1
          have n1 : b ≠ B + 1 + 1 := by omega
          have n2 : b ≠ B + 1 := by omega
          have n3 : B + 1 + 1 ≠ b := by omega
          have n4 : B + 1 ≠ b := by omega
          have HLE : Hid (B ≤ b) := by show B ≤ b; omega
          clear hb3 hle hcell hsz H2 HPo HIZ
          simp only [fill, Act.put]
          go_simp
          obtain ⟨c0, c1, c2, c3⟩ := cells4 H3.out.node
          obtain ⟨g0, g1, g2, g3⟩ := frozen4 H3.out.node
          obtain ⟨d0, d1, d2, d3⟩ := cells4 HC.out
          obtain ⟨x0, x1, x2, x3⟩ := frozen4 HC.out
          obtain ⟨f0, f1, f2, f3⟩ := frozen4 H3.out.res
          obtain ⟨q0, q1, q2, q3⟩ := cells4 H3.out.res
          go_wp2_with fail
          have hs := H3.out.size
          have hr : ((w3.setCell ⟨B + 1 + 1, 2, none⟩ (.iface txz vxz)).setCell ⟨b, 3, none⟩ (.iface 78 (.agg #[.int .u8 wh, .int .i64 (s : Int), .iface txz vxz, .iface t2 v2]))).heap[B + 1]? = _ := (set_other n4).trans ((set_other (by omega)).trans H3.out.res)
          have hbl : b ≥ B := by have := HLE.out; omega
          have hb4 : Below w.heap.size w ((w3.setCell ⟨B + 1 + 1, 2, none⟩ (.iface txz vxz)).setCell ⟨b, 3, none⟩ (.iface 78 (.agg #[.int .u8 wh, .int .i64 (s : Int), .iface txz vxz, .iface t2 v2]))) := (H3.out.below.setCell (p := ⟨B + 1 + 1, 2, none⟩) (by simp only; omega) _).setCell (p := ⟨b, 3, none⟩) (by simp only; omega) _
          generalize ((w3.setCell ⟨B + 1 + 1, 2, none⟩ (.iface txz vxz)).setCell ⟨b, 3, none⟩ (.iface 78 (.agg #[.int .u8 wh, .int .i64 (s : Int), .iface txz vxz, .iface t2 v2]))) = w4 at *
          have k := set4 hr (.iface tpz vpz) (.int .i64 (rz : Int)) (.int .i64 (cz : Int)) (.iface 78 (.agg #[.int .u8 wh, .int .i64 (s : Int), .iface txz vxz, .iface t2 v2]))
          have hb := (((hb4.setCell (p := ⟨B + 1, 0, none⟩) (by simp only; omega) (.iface tpz vpz)).setCell (p := ⟨B + 1, 1, none⟩) (by simp only; omega) (.int .i64 (rz : Int))).setCell (p := ⟨B + 1, 2, none⟩) (by simp only; omega) (.int .i64 (cz : Int))).setCell (p := ⟨B + 1, 3, none⟩) (by simp only; omega) (.iface 78 (.agg #[.int .u8 wh, .int .i64 (s : Int), .iface txz vxz, .iface t2 v2]))
          generalize ((((w4.setCell ⟨B + 1, 0, none⟩ (.iface tpz vpz)).setCell ⟨B + 1, 1, none⟩ (.int .i64 (rz : Int))).setCell ⟨B + 1, 2, none⟩ (.int .i64 (cz : Int))).setCell ⟨B + 1, 3, none⟩ (.iface 78 (.agg #[.int .u8 wh, .int .i64 (s : Int), .iface txz vxz, .iface t2 v2]))) = wf at *
          have HBF := Lib.hid hb
          obtain ⟨k0, k1, k2, k3⟩ := cells4 k
          clear hb k hs hr hb4 q0 q1 q2 q3 f0 f1 f2 f3 c0 c1 c2 c3 g0 g1 g2 g3 d0 d1 d2 d3 x0 x1 x2 x3
          refine bodyPost_ret (v := .agg #[.iface tpz vpz, .int .i64 (rz : Int), .int .i64 (cz : Int), .iface 78 (.agg #[.int .u8 wh, .int .i64 (s : Int), .iface txz vxz, .iface t2 v2])]) (by simp [results, Try.results27, go_sem, k0, k1, k2, k3]) rfl ⟨?_, HBF.out⟩
          rw [← HR1.out]; simp only [cutV, tree, sayV, HE.out.1.1, HE.out.1.2, HE.out.2.2.1, HE.out.2.2.2, HWH.out]
end Go.Proofs.Ytgfhahlkffagaaa.CutI
