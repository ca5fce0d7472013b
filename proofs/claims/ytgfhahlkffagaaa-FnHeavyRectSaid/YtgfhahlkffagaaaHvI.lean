/-
  A protocol that is trimmed for so many rows and columns, and the rectangle of its heavy part: the program and the reference.
-/
import Derived.Test.YtgfhahlkffagaaaCutI
import Derived.Test.YtgfhahlkffagaaaSaidCut
import Derived.Test.YtgfhahlkffagaaaSaidTrim
import Derived.Test.YtgfhahlkffagaaaTrimPWalk
import Derived.Test.YtgfhahlkffagaaaFreeQ
namespace Go.Proofs.Ytgfhahlkffagaaa.HvI
open Go.RowKit Go.Shelf Go.Proofs.Ytgfhahlkffagaaa.Plain Go.Proofs.Ytgfhahlkffagaaa.Tree Go.Proofs.Ytgfhahlkffagaaa.Read Go.Proofs.Ytgfhahlkffagaaa.Rect Go.Proofs.Ytgfhahlkffagaaa.Parts Go.Proofs.Ytgfhahlkffagaaa.TreeOf Go.Proofs.Ytgfhahlkffagaaa.TreeIn Go.Proofs.Ytgfhahlkffagaaa.TurnC Go.Proofs.Ytgfhahlkffagaaa.FreeL Go.Proofs.Ytgfhahlkffagaaa.TrimT Go.Proofs.Ytgfhahlkffagaaa.CutT Go.Proofs.Ytgfhahlkffagaaa.CutI
open Go.Proofs.Ytgfhahlkffagaaa.NodeH (eval_get)
open Go.Proofs.Ytgfhahlkffagaaa.Count (count_ends)
open Go.Proofs.Ytgfhahlkffagaaa.TrimI (trim_to TrimC)
open Go.Proofs.Ytgfhahlkffagaaa.FreeQ (wp_region_family)
open Go.Proofs.Ytgfhahlkffagaaa.Split (cells2 info_rect one_rect set_row set_below)
open Go.Proofs.Ytgfhahlkffagaaa.Free (fill wp_value wp_enter wp_load_row freeB)
set_option linter.unusedVariables false
set_option linter.unusedSimpArgs false

theorem field_rect (x y : Value) (a b : Int) (w : World) : (Instr.field 50 (.agg #[x, .int .i64 a, .int .i64 b, y]) 1).run Try.prog w = .ok (rect a b) w := by kernel_rfl
/-- the blocks of a call: the result, stored or not, and the rectangle -/
structure Tm (w wx : World) (B D M N x y : Nat) (st : Bool) : Prop where
  res : wx.heap[B]? = some (.cells #[.int .i64 ((if st then x else 0 : Nat) : Int), .int .i64 ((if st then y else 0 : Nat) : Int)] 23 (0, 0))
  loc : wx.heap[D]? = some (.cells #[.int .i64 (M : Int), .int .i64 (N : Int)] 23 (0, 0))
  below : Below w.heap.size w wx
  size : w.heap.size = B
  ne : B < D
theorem Tm.later {w wx w2 : World} {B D M N x y : Nat} {st : Bool} (h : Tm w wx B D M N x y st) (hb : Below wx.heap.size wx w2) : Tm w w2 B D M N x y st :=
  have k : ∀ {g : Nat} {o : Obj}, wx.heap[g]? = some o → w2.heap[g]? = some o := fun e => (hb.block _ (Array.getElem?_eq_some_iff.1 e).1).trans e
  ⟨k h.res, k h.loc, h.below.trans (hb.mono h.below.size), h.size, h.ne⟩
theorem Tm.drew {w wx : World} {B D M N x y : Nat} {st : Bool} (h : Tm w wx B D M N x y st) : Tm w wx.drew B D M N x y st := ⟨h.res, h.loc, h.below.drew, h.size, h.ne⟩
theorem Tm.start (w w1 : World) (B D M N x y : Nat) (hB : w.heap.size = B) (hD : w1.heap.size = D) (hb : Below (w.alloc (.cells #[.int .i64 0, .int .i64 0] 23)).heap.size (w.alloc (.cells #[.int .i64 0, .int .i64 0] 23)) w1) :
    Tm w (w1.alloc (.cells #[.int .i64 (M : Int), .int .i64 (N : Int)] 23)) B D M N x y false := by
  subst hB hD
  have n0 := heap_alloc_new w (.cells #[.int .i64 0, .int .i64 0] 23)
  have b0 := (Below.refl w.heap.size w).alloc (Nat.le_refl _) (.cells #[.int .i64 0, .int .i64 0] 23)
  have hl := (Array.getElem?_eq_some_iff.1 n0).1
  have k0 := (hb.block _ hl).trans n0
  have h1 := b0.trans (hb.mono b0.size)
  refine ⟨(heap_alloc_old w1 _ (Array.getElem?_eq_some_iff.1 k0).1).trans k0, heap_alloc_new w1 _, h1.alloc h1.size _, rfl, ?_⟩
  have := hb.size
  simp at this
  omega
theorem Tm.store {w wx : World} {B D M N x y : Nat} (h : Tm w wx B D M N x y false) : Tm w (wx.setRow B #[.int .i64 (x : Int), .int .i64 (y : Int)]) B D M N x y true := by
  have hs := h.size
  have hn := h.ne
  refine ⟨?_, (Go.Proofs.Ytgfhahlkffagaaa.Free.setRow_other (by omega) _).trans h.loc, Go.Proofs.Ytgfhahlkffagaaa.Free.setRow_below h.below (by omega) _, h.size, h.ne⟩
  exact Go.Proofs.Ytgfhahlkffagaaa.Free.setRow_kept h.res _

set_option maxHeartbeats 4000000 in
set_option maxRecDepth 100000 in
theorem trimmed_nil (s : ByteArray) (r c : Int) (M N : Nat) (hI : ∀ W : World, Calls Try.prog 41 #[.string s, .int .i64 r, .int .i64 c] W fun e w' => e = .returned (.tuple #[.nilIface, rect M N]) ∧ Below W.heap.size W w') (w : World) :
    Calls Try.prog 26 #[.string s, .int .i64 r, .int .i64 c] w fun e w' => e = .returned (.tuple #[.nilIface, rect 0 0]) ∧ Below w.heap.size w w' := by
  have HI := Lib.hid hI
  obtain ⟨B, hB⟩ : ∃ B, w.heap.size = B := ⟨_, rfl⟩
  clear hI
  go_enter Try.func26, Try.ntmps26
  go_wp2_with fail
  refine (HI.out _).mono ?_
  rintro e w1 ⟨rfl, hb1⟩
  obtain ⟨D, hD⟩ : ∃ D, w1.heap.size = D := ⟨_, rfl⟩
  have HT := Lib.hid (Tm.start w w1 B D M N 0 0 hB hD hb1)
  clear hb1 hB
  obtain ⟨q0, q1, q2, q3⟩ := cells2 HT.out.res
  go_wp2_with fail
  have hs := HT.out.size
  have hc := set_row 1 (set_row 0 HT.out.res (v := .int .i64 0)) (v := .int .i64 0)
  have hb := set_below (i := 1) (v := .int .i64 0) (set_below (i := 0) (v := .int .i64 0) HT.out.below (by omega : w.heap.size ≤ B)) (by omega : w.heap.size ≤ B)
  generalize (((w1.alloc (.cells #[.int .i64 (M : Int), .int .i64 (N : Int)] 23)).setCell ⟨B, 0, none⟩ (.int .i64 0)).setCell ⟨B, 1, none⟩ (.int .i64 0)) = w9 at *
  have HB := Lib.hid hb
  obtain ⟨k0, k1, _, _⟩ := cells2 hc
  refine bodyPost_ret (v := .tuple #[.nilIface, rect 0 0]) (by simp [results, Try.results26, go_sem, k0, k1]) rfl ⟨rfl, HB.out⟩

set_option maxHeartbeats 4000000 in
set_option maxRecDepth 100000 in
theorem trimmed_yes (s : ByteArray) (t : T) (hw : wf t) (h : s.data.toList = text t) (hs : s.size ≤ 2000) (r c : Nat) (hr : 1 ≤ r ∧ r ≤ 8) (hc : 1 ≤ c ∧ c ≤ 8) (w : World) :
    Calls Try.prog 26 #[.string s, .int .i64 (r : Int), .int .i64 (c : Int)] w fun e w' => e = .returned (.tuple #[tree (trimT t (allN r) (allN c)), rect (allN r) (allN c)]) ∧ Below w.heap.size w w' := by
  obtain ⟨_, p2, p3⟩ := pow_facts r hr
  obtain ⟨_, q2, q3⟩ := pow_facts c hc
  have hI := in_yes s (tree t) (tree_yes s t hw h hs) r c hr hc
  have hC := trim_to t
  unfold Go.Proofs.Ytgfhahlkffagaaa.Count.Node TrimC at hC
  obtain ⟨t1, v1, e1⟩ := tree_iface t
  rw [e1] at hI hC
  have HC : Hid ((∃ V, Value.iface t1 v1 = .iface 67 V ∧ ∀ W, Calls Try.prog 90 #[V, rect (allN r) (allN c)] W fun e w' => e = .returned (tree (trimT t (allN r) (allN c))) ∧ Below W.heap.size W w') ∨
      (∃ V, Value.iface t1 v1 = .iface 78 V ∧ ∀ W, Calls Try.prog 97 #[V, rect (allN r) (allN c)] W fun e w' => e = .returned (tree (trimT t (allN r) (allN c))) ∧ Below W.heap.size W w')) := by
    rcases hC with ⟨V, ev, hv⟩ | ⟨V, ev, hv⟩
    · exact .inl ⟨V, ev, fun W => hv _ _ W p3 q3 p2 q2⟩
    · exact .inr ⟨V, ev, fun W => hv _ _ W p3 q3 p2 q2⟩
  have HI := Lib.hid hI
  obtain ⟨B, hB⟩ : ∃ B, w.heap.size = B := ⟨_, rfl⟩
  generalize tree (trimT t (allN r) (allN c)) = X at *
  generalize allN r = M at *
  generalize allN c = N at *
  clear hI hC h hw hs p2 p3 q2 q3 e1
  go_enter Try.func26, Try.ntmps26
  go_wp2_with fail
  refine (HI.out _).mono ?_
  rintro e w1 ⟨rfl, hb1⟩
  obtain ⟨D, hD⟩ : ∃ D, w1.heap.size = D := ⟨_, rfl⟩
  have HT := Lib.hid (Tm.start w w1 B D M N M N hB hD hb1)
  clear hb1 hB
  go_wp2_with fail
  refine wp_region_family (fun | 0 => fun v => v = .iface t1 v1 | 1 => fun v => v = rect M N | 2 => fun v => v = X | 3 => fun v => v = rect M N | 4 => fun v => v = X | _ => fun _ => True) (fun l wx => Tm w wx B D M N M N (l 5)) (by kernel_rfl) (by kernel_rfl) rfl HT.out.drew ?conA ?enA
  case conA =>
    intro i o ho a wx l hT hl hcl hf
    match i, ho with
    | 0, ho =>
      obtain rfl := Option.some.inj ho
      have b8 : a.tmps[8]?.getD undef = .iface t1 v1 := hf.2 8 (by kernel_rfl)
      exact wp_value (.iface t1 v1) (by unfold execOp; go_simp) ⟨_, rfl, rfl, hT⟩
    | 1, ho =>
      obtain rfl := Option.some.inj ho
      have b9 : a.tmps[9]?.getD undef = .pointer (some ⟨D, 0, none⟩) := hf.2 9 (by kernel_rfl)
      exact wp_load_row 23 (.tmp 9) rfl D (eval_get b9) 23 _ (0, 0) _ (hT.loc) Try.underlying23 rfl (info_rect _ _) ⟨_, rfl, rfl, hT⟩
    | 2, ho =>
      obtain rfl := Option.some.inj ho
      have e20 : a.tmps[20]?.getD undef = .iface t1 v1 := hf.1 ⟨0, .data⟩ (by simp) rfl _ 20 rfl rfl
      have e21 : a.tmps[21]?.getD undef = rect M N := hf.1 ⟨1, .data⟩ (by simp) rfl _ 21 rfl rfl
      rcases HC.out with ⟨V, ev, hv⟩ | ⟨V, ev, hv⟩
      · simp only [Value.iface.injEq] at ev
        obtain ⟨rfl, rfl⟩ := ev
        exact wp_enter 90 #[v1, rect M N] (X) _ (by unfold execOp; go_simp; go_invoke; rfl) (hv wx) (fun w' h => ⟨_, rfl, rfl, hT.later h⟩)
      · simp only [Value.iface.injEq] at ev
        obtain ⟨rfl, rfl⟩ := ev
        exact wp_enter 97 #[v1, rect M N] (X) _ (by unfold execOp; go_simp; go_invoke; rfl) (hv wx) (fun w' h => ⟨_, rfl, rfl, hT.later h⟩)
    | 3, ho =>
      obtain rfl := Option.some.inj ho
      have b9 : a.tmps[9]?.getD undef = .pointer (some ⟨D, 0, none⟩) := hf.2 9 (by kernel_rfl)
      exact wp_load_row 23 (.tmp 9) rfl D (eval_get b9) 23 _ (0, 0) _ (hT.loc) Try.underlying23 rfl (info_rect _ _) ⟨_, rfl, rfl, hT⟩
    | 4, ho =>
      obtain rfl := Option.some.inj ho
      have e22 : a.tmps[22]?.getD undef = X := hf.1 ⟨2, .data⟩ (by simp) rfl _ 22 rfl rfl
      exact wp_value (X) (by unfold execOp; go_simp) ⟨_, rfl, rfl, hT⟩
    | 5, ho =>
      obtain rfl := Option.some.inj ho
      have b7 : a.tmps[7]?.getD undef = .pointer (some ⟨B, 0, none⟩) := hf.2 7 (by kernel_rfl)
      have e23 : a.tmps[23]?.getD undef = rect M N := hf.1 ⟨3, .data⟩ (by simp) rfl _ 23 rfl rfl
      have hrow := hT.res
      rw [hl] at hrow hT
      refine wp_store_row 23 (.tmp 7) (.tmp 23) rfl B #[.int .i64 (M : Int), .int .i64 (N : Int)] (eval_get b7) (eval_get e23) 23 _ hrow (info_rect _ _) rfl (one_rect _ _) ⟨undef, rfl, trivial, ?_⟩
      exact hT.store
    | q + 6, ho => simp at ho
  case enA =>
    intro vs wx hT hall
    have hT2 : Tm w wx B D M N M N true := hT
    obtain ⟨k0, k1, _, _⟩ := cells2 hT2.res
    have HB := Lib.hid hT2.below
    have v4 := hall 4 _ rfl
    clear hT hT2 HT
    simp only [fill, Act.put]
    go_simp
    go_wp2_with fail
    exact bodyPost_ret (v := .tuple #[X, rect M N]) (by simp [results, Try.results26, go_sem, k0, k1, v4]) rfl ⟨rfl, HB.out⟩

set_option maxHeartbeats 4000000 in
set_option maxRecDepth 100000 in
theorem heavy_nil (s : ByteArray) (r c : Int) (M N : Nat) (hI : ∀ W : World, Calls Try.prog 26 #[.string s, .int .i64 r, .int .i64 c] W fun e w' => e = .returned (.tuple #[.nilIface, rect M N]) ∧ Below W.heap.size W w') (w : World) :
    Calls Try.prog 8 #[.string s, .int .i64 r, .int .i64 c] w fun e w' => e = .returned (.tuple #[rect 0 0, .bool false]) ∧ Below w.heap.size w w' := by
  have HI := Lib.hid hI
  obtain ⟨B, hB⟩ : ∃ B, w.heap.size = B := ⟨_, rfl⟩
  clear hI
  go_enter Try.func8, Try.ntmps8
  go_wp2_with fail
  refine (HI.out _).mono ?_
  rintro e w1 ⟨rfl, hb1⟩
  obtain ⟨D, hD⟩ : ∃ D, w1.heap.size = D := ⟨_, rfl⟩
  have HT := Lib.hid (Tm.start w w1 B D M N 0 0 hB hD hb1)
  clear hb1 hB
  obtain ⟨q0, q1, q2, q3⟩ := cells2 HT.out.res
  go_wp2_with fail
  have hs := HT.out.size
  have hc := set_row 1 (set_row 0 HT.out.res (v := .int .i64 0)) (v := .int .i64 0)
  have hb := set_below (i := 1) (v := .int .i64 0) (set_below (i := 0) (v := .int .i64 0) HT.out.below (by omega : w.heap.size ≤ B)) (by omega : w.heap.size ≤ B)
  generalize (((w1.alloc (.cells #[.int .i64 (M : Int), .int .i64 (N : Int)] 23)).setCell ⟨B, 0, none⟩ (.int .i64 0)).setCell ⟨B, 1, none⟩ (.int .i64 0)) = w9 at *
  have HB := Lib.hid hb
  obtain ⟨k0, k1, _, _⟩ := cells2 hc
  refine bodyPost_ret (v := .tuple #[rect 0 0, .bool false]) (by simp [results, Try.results8, go_sem, k0, k1]) rfl ⟨rfl, HB.out⟩

/-- what HeavyRect answers of a trimmed protocol -/
def heavyV (u : T) (M N : Nat) : Value := if ends u < 2 then .tuple #[rect 0 0, .bool false] else .tuple #[rect (cutT (ends u) u M N).rows (cutT (ends u) u M N).cols, .bool true]

set_option maxHeartbeats 8000000 in
set_option maxRecDepth 100000 in
theorem heavy_some (s : ByteArray) (r c : Int) (u : T) (hl : (text u).length ≤ 2000) (M N : Nat) (hM : M < 256) (hN : N < 256) (hI : ∀ W : World, Calls Try.prog 26 #[.string s, .int .i64 r, .int .i64 c] W fun e w' => e = .returned (.tuple #[tree u, rect M N]) ∧ Below W.heap.size W w') (w : World) :
    Calls Try.prog 8 #[.string s, .int .i64 r, .int .i64 c] w fun e w' => e = .returned (heavyV u M N) ∧ Below w.heap.size w w' := by
  have hE := count_ends u (by omega)
  have hep := ends_pos u
  have hle := ends_le u
  have hH : 2 ≤ ends u → ∀ W : World, Calls Try.prog 27 #[tree u, rect M N, .int .i64 (ends u : Int)] W fun e w' => e = .returned (cutV (cutT (ends u) u M N)) ∧ Below W.heap.size W w' := fun h2 W => heavy_to (ends u) h2 (by omega) u (by omega) M N W hM hN
  unfold heavyV
  unfold cutV at hH
  generalize cutT (ends u) u M N = cu at *
  obtain ⟨pa, ra, ca, xa⟩ := cu
  simp only at hH ⊢
  unfold Go.Proofs.Ytgfhahlkffagaaa.Count.Node Go.Proofs.Ytgfhahlkffagaaa.Count.EndsC at hE
  obtain ⟨E, hEE⟩ : ∃ E, ends u = E := ⟨_, rfl⟩
  rw [hEE] at hE hep hle hH ⊢
  obtain ⟨B, hB⟩ : ∃ B, w.heap.size = B := ⟨_, rfl⟩
  rcases hE with ⟨v1, e1, hE⟩ | ⟨v1, e1, hE⟩
  · rw [e1] at hI hH
    have HI := Lib.hid hI
    have HE := Lib.hid hE
    have HH := Lib.hid hH
    clear hI hH hE e1 hEE hl
    by_cases h2 : E < 2
    · obtain rfl : E = 1 := by omega
      rw [if_pos h2]
      replace HE : Hid (∀ W : World, Calls Try.prog 86 #[v1] W fun e w' => e = .returned (.int .i64 1) ∧ Below W.heap.size W w') := HE
      clear h2
      go_enter Try.func8, Try.ntmps8
      go_wp2_with fail
      refine (HI.out _).mono ?_
      rintro e w1 ⟨rfl, hb1⟩
      obtain ⟨D, hD⟩ : ∃ D, w1.heap.size = D := ⟨_, rfl⟩
      have HT0 := Lib.hid (Tm.start w w1 B D M N ra ca hB hD hb1)
      clear hb1 hB
      go_wp2_with fail
      refine (HE.out _).mono ?_
      rintro e w2 ⟨rfl, hb2⟩
      have HT := Lib.hid (HT0.out.later hb2)
      clear hb2 HT0
      obtain ⟨q0, q1, q2, q3⟩ := cells2 HT.out.res
      go_wp2_with fail
      have hs := HT.out.size
      have hc := set_row 1 (set_row 0 HT.out.res (v := .int .i64 0)) (v := .int .i64 0)
      have hb := set_below (i := 1) (v := .int .i64 0) (set_below (i := 0) (v := .int .i64 0) HT.out.below (by omega : w.heap.size ≤ B)) (by omega : w.heap.size ≤ B)
      generalize ((w2.setCell ⟨B, 0, none⟩ (.int .i64 0)).setCell ⟨B, 1, none⟩ (.int .i64 0)) = w9 at *
      have HB := Lib.hid hb
      obtain ⟨k0, k1, _, _⟩ := cells2 hc
      refine bodyPost_ret (v := .tuple #[rect 0 0, .bool false]) (by simp [results, Try.results8, go_sem, k0, k1]) rfl ⟨rfl, HB.out⟩
    · rw [if_neg h2]
      have h3 : ((E : Int) == 1) = false := beq_false_of_ne (by omega)
      have HH2 := Lib.hid (HH.out (by omega))
      clear HH
      go_enter Try.func8, Try.ntmps8
      go_wp2_with fail
      refine (HI.out _).mono ?_
      rintro e w1 ⟨rfl, hb1⟩
      obtain ⟨D, hD⟩ : ∃ D, w1.heap.size = D := ⟨_, rfl⟩
      have HT0 := Lib.hid (Tm.start w w1 B D M N ra ca hB hD hb1)
      clear hb1 hB
      go_wp2_with fail
      refine (HE.out _).mono ?_
      rintro e w2 ⟨rfl, hb2⟩
      have HT := Lib.hid (HT0.out.later hb2)
      clear hb2 HT0
      go_wp2_with fail
      refine wp_region_family (fun | 0 => fun v => v = .iface 67 v1 | 1 => fun v => v = rect M N | 2 => fun v => v = .iface 67 v1 | 3 => fun v => v = .int .i64 (E : Int) | 4 => fun v => v = .agg #[tree pa, .int .i64 (ra : Int), .int .i64 (ca : Int), tree xa] | 5 => fun v => v = rect ra ca | 7 => fun v => v = .bool true | _ => fun _ => True) (fun l wx => Tm w wx B D M N ra ca (l 6)) (by kernel_rfl) (by kernel_rfl) rfl HT.out.drew ?conE ?enE
      case conE =>
        intro i o ho a wx l hT hl hcl hf
        match i, ho with
        | 0, ho =>
          obtain rfl := Option.some.inj ho
          have b8 : a.tmps[8]?.getD undef = .iface 67 v1 := hf.2 8 (by kernel_rfl)
          exact wp_value (.iface 67 v1) (by unfold execOp; go_simp) ⟨_, rfl, rfl, hT⟩
        | 1, ho =>
          obtain rfl := Option.some.inj ho
          have b9 : a.tmps[9]?.getD undef = .pointer (some ⟨D, 0, none⟩) := hf.2 9 (by kernel_rfl)
          exact wp_load_row 23 (.tmp 9) rfl D (eval_get b9) 23 _ (0, 0) _ (hT.loc) Try.underlying23 rfl (info_rect _ _) ⟨_, rfl, rfl, hT⟩
        | 2, ho =>
          obtain rfl := Option.some.inj ho
          have b8 : a.tmps[8]?.getD undef = .iface 67 v1 := hf.2 8 (by kernel_rfl)
          exact wp_value (.iface 67 v1) (by unfold execOp; go_simp) ⟨_, rfl, rfl, hT⟩
        | 3, ho =>
          obtain rfl := Option.some.inj ho
          have e27 : a.tmps[27]?.getD undef = .iface 67 v1 := hf.1 ⟨2, .data⟩ (by simp) rfl _ 27 rfl rfl
          exact wp_enter 86 #[v1] (.int .i64 (E : Int)) _ (by unfold execOp; go_simp; go_invoke; rfl) (HE.out wx) (fun w' h => ⟨_, rfl, rfl, hT.later h⟩)
        | 4, ho =>
          obtain rfl := Option.some.inj ho
          have e25 : a.tmps[25]?.getD undef = .iface 67 v1 := hf.1 ⟨0, .data⟩ (by simp) rfl _ 25 rfl rfl
          have e26 : a.tmps[26]?.getD undef = rect M N := hf.1 ⟨1, .data⟩ (by simp) rfl _ 26 rfl rfl
          have e28 : a.tmps[28]?.getD undef = .int .i64 (E : Int) := hf.1 ⟨3, .data⟩ (by simp) rfl _ 28 rfl rfl
          exact wp_enter 27 #[.iface 67 v1, rect M N, .int .i64 (E : Int)] (.agg #[tree pa, .int .i64 (ra : Int), .int .i64 (ca : Int), tree xa]) _ (by unfold execOp; go_simp) (HH2.out wx) (fun w' h => ⟨_, rfl, rfl, hT.later h⟩)
        | 5, ho =>
          obtain rfl := Option.some.inj ho
          have e29 : a.tmps[29]?.getD undef = .agg #[tree pa, .int .i64 (ra : Int), .int .i64 (ca : Int), tree xa] := hf.1 ⟨4, .data⟩ (by simp) rfl _ 29 rfl rfl
          exact wp_value (rect ra ca) (by unfold execOp; go_simp; rw [field_rect]; rfl) ⟨_, rfl, rfl, hT⟩
        | 6, ho =>
          obtain rfl := Option.some.inj ho
          have b6 : a.tmps[6]?.getD undef = .pointer (some ⟨B, 0, none⟩) := hf.2 6 (by kernel_rfl)
          have e30 : a.tmps[30]?.getD undef = rect ra ca := hf.1 ⟨5, .data⟩ (by simp) rfl _ 30 rfl rfl
          have hrow := hT.res
          rw [hl] at hrow hT
          refine wp_store_row 23 (.tmp 6) (.tmp 30) rfl B #[.int .i64 (ra : Int), .int .i64 (ca : Int)] (eval_get b6) (eval_get e30) 23 _ hrow (info_rect _ _) rfl (one_rect _ _) ⟨undef, rfl, trivial, ?_⟩
          exact hT.store
        | 7, ho =>
          obtain rfl := Option.some.inj ho
          exact wp_value (.bool true) (by unfold execOp; go_simp) ⟨_, rfl, rfl, hT⟩
        | q + 8, ho => simp at ho
      case enE =>
        intro vs wx hT hall
        have hT2 : Tm w wx B D M N ra ca true := hT
        obtain ⟨k0, k1, _, _⟩ := cells2 hT2.res
        have HB := Lib.hid hT2.below
        have v4 := hall 7 _ rfl
        clear hT hT2 HT
        simp only [fill, Act.put]
        go_simp
        go_wp2_with fail
        exact bodyPost_ret (v := .tuple #[rect ra ca, .bool true]) (by simp [results, Try.results8, go_sem, k0, k1, v4]) rfl ⟨rfl, HB.out⟩
  · rw [e1] at hI hH
    have HI := Lib.hid hI
    have HE := Lib.hid hE
    have HH := Lib.hid hH
    clear hI hH hE e1 hEE hl
    by_cases h2 : E < 2
    · obtain rfl : E = 1 := by omega
      rw [if_pos h2]
      replace HE : Hid (∀ W : World, Calls Try.prog 93 #[v1] W fun e w' => e = .returned (.int .i64 1) ∧ Below W.heap.size W w') := HE
      clear h2
      go_enter Try.func8, Try.ntmps8
      go_wp2_with fail
      refine (HI.out _).mono ?_
      rintro e w1 ⟨rfl, hb1⟩
      obtain ⟨D, hD⟩ : ∃ D, w1.heap.size = D := ⟨_, rfl⟩
      have HT0 := Lib.hid (Tm.start w w1 B D M N ra ca hB hD hb1)
      clear hb1 hB
      go_wp2_with fail
      refine (HE.out _).mono ?_
      rintro e w2 ⟨rfl, hb2⟩
      have HT := Lib.hid (HT0.out.later hb2)
      clear hb2 HT0
      obtain ⟨q0, q1, q2, q3⟩ := cells2 HT.out.res
      go_wp2_with fail
      have hs := HT.out.size
      have hc := set_row 1 (set_row 0 HT.out.res (v := .int .i64 0)) (v := .int .i64 0)
      have hb := set_below (i := 1) (v := .int .i64 0) (set_below (i := 0) (v := .int .i64 0) HT.out.below (by omega : w.heap.size ≤ B)) (by omega : w.heap.size ≤ B)
      generalize ((w2.setCell ⟨B, 0, none⟩ (.int .i64 0)).setCell ⟨B, 1, none⟩ (.int .i64 0)) = w9 at *
      have HB := Lib.hid hb
      obtain ⟨k0, k1, _, _⟩ := cells2 hc
      refine bodyPost_ret (v := .tuple #[rect 0 0, .bool false]) (by simp [results, Try.results8, go_sem, k0, k1]) rfl ⟨rfl, HB.out⟩
    · rw [if_neg h2]
      have h3 : ((E : Int) == 1) = false := beq_false_of_ne (by omega)
      have HH2 := Lib.hid (HH.out (by omega))
      clear HH
      go_enter Try.func8, Try.ntmps8
      go_wp2_with fail
      refine (HI.out _).mono ?_
      rintro e w1 ⟨rfl, hb1⟩
      obtain ⟨D, hD⟩ : ∃ D, w1.heap.size = D := ⟨_, rfl⟩
      have HT0 := Lib.hid (Tm.start w w1 B D M N ra ca hB hD hb1)
      clear hb1 hB
      go_wp2_with fail
      refine (HE.out _).mono ?_
      rintro e w2 ⟨rfl, hb2⟩
      have HT := Lib.hid (HT0.out.later hb2)
      clear hb2 HT0
      go_wp2_with fail
      refine wp_region_family (fun | 0 => fun v => v = .iface 78 v1 | 1 => fun v => v = rect M N | 2 => fun v => v = .iface 78 v1 | 3 => fun v => v = .int .i64 (E : Int) | 4 => fun v => v = .agg #[tree pa, .int .i64 (ra : Int), .int .i64 (ca : Int), tree xa] | 5 => fun v => v = rect ra ca | 7 => fun v => v = .bool true | _ => fun _ => True) (fun l wx => Tm w wx B D M N ra ca (l 6)) (by kernel_rfl) (by kernel_rfl) rfl HT.out.drew ?conS ?enS
      case conS =>
        intro i o ho a wx l hT hl hcl hf
        match i, ho with
        | 0, ho =>
          obtain rfl := Option.some.inj ho
          have b8 : a.tmps[8]?.getD undef = .iface 78 v1 := hf.2 8 (by kernel_rfl)
          exact wp_value (.iface 78 v1) (by unfold execOp; go_simp) ⟨_, rfl, rfl, hT⟩
        | 1, ho =>
          obtain rfl := Option.some.inj ho
          have b9 : a.tmps[9]?.getD undef = .pointer (some ⟨D, 0, none⟩) := hf.2 9 (by kernel_rfl)
          exact wp_load_row 23 (.tmp 9) rfl D (eval_get b9) 23 _ (0, 0) _ (hT.loc) Try.underlying23 rfl (info_rect _ _) ⟨_, rfl, rfl, hT⟩
        | 2, ho =>
          obtain rfl := Option.some.inj ho
          have b8 : a.tmps[8]?.getD undef = .iface 78 v1 := hf.2 8 (by kernel_rfl)
          exact wp_value (.iface 78 v1) (by unfold execOp; go_simp) ⟨_, rfl, rfl, hT⟩
        | 3, ho =>
          obtain rfl := Option.some.inj ho
          have e27 : a.tmps[27]?.getD undef = .iface 78 v1 := hf.1 ⟨2, .data⟩ (by simp) rfl _ 27 rfl rfl
          exact wp_enter 93 #[v1] (.int .i64 (E : Int)) _ (by unfold execOp; go_simp; go_invoke; rfl) (HE.out wx) (fun w' h => ⟨_, rfl, rfl, hT.later h⟩)
        | 4, ho =>
          obtain rfl := Option.some.inj ho
          have e25 : a.tmps[25]?.getD undef = .iface 78 v1 := hf.1 ⟨0, .data⟩ (by simp) rfl _ 25 rfl rfl
          have e26 : a.tmps[26]?.getD undef = rect M N := hf.1 ⟨1, .data⟩ (by simp) rfl _ 26 rfl rfl
          have e28 : a.tmps[28]?.getD undef = .int .i64 (E : Int) := hf.1 ⟨3, .data⟩ (by simp) rfl _ 28 rfl rfl
          exact wp_enter 27 #[.iface 78 v1, rect M N, .int .i64 (E : Int)] (.agg #[tree pa, .int .i64 (ra : Int), .int .i64 (ca : Int), tree xa]) _ (by unfold execOp; go_simp) (HH2.out wx) (fun w' h => ⟨_, rfl, rfl, hT.later h⟩)
        | 5, ho =>
          obtain rfl := Option.some.inj ho
          have e29 : a.tmps[29]?.getD undef = .agg #[tree pa, .int .i64 (ra : Int), .int .i64 (ca : Int), tree xa] := hf.1 ⟨4, .data⟩ (by simp) rfl _ 29 rfl rfl
          exact wp_value (rect ra ca) (by unfold execOp; go_simp; rw [field_rect]; rfl) ⟨_, rfl, rfl, hT⟩
        | 6, ho =>
          obtain rfl := Option.some.inj ho
          have b6 : a.tmps[6]?.getD undef = .pointer (some ⟨B, 0, none⟩) := hf.2 6 (by kernel_rfl)
          have e30 : a.tmps[30]?.getD undef = rect ra ca := hf.1 ⟨5, .data⟩ (by simp) rfl _ 30 rfl rfl
          have hrow := hT.res
          rw [hl] at hrow hT
          refine wp_store_row 23 (.tmp 6) (.tmp 30) rfl B #[.int .i64 (ra : Int), .int .i64 (ca : Int)] (eval_get b6) (eval_get e30) 23 _ hrow (info_rect _ _) rfl (one_rect _ _) ⟨undef, rfl, trivial, ?_⟩
          exact hT.store
        | 7, ho =>
          obtain rfl := Option.some.inj ho
          exact wp_value (.bool true) (by unfold execOp; go_simp) ⟨_, rfl, rfl, hT⟩
        | q + 8, ho => simp at ho
      case enS =>
        intro vs wx hT hall
        have hT2 : Tm w wx B D M N ra ca true := hT
        obtain ⟨k0, k1, _, _⟩ := cells2 hT2.res
        have HB := Lib.hid hT2.below
        have v4 := hall 7 _ rfl
        clear hT hT2 HT
        simp only [fill, Act.put]
        go_simp
        go_wp2_with fail
        exact bodyPost_ret (v := .tuple #[rect ra ca, .bool true]) (by simp [results, Try.results8, go_sem, k0, k1, v4]) rfl ⟨rfl, HB.out⟩
end Go.Proofs.Ytgfhahlkffagaaa.HvI
