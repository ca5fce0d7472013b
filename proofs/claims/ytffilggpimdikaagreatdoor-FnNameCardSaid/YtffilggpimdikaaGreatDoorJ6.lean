/-
  Texts of one seat, joined: FreeN, Split, SaidTrim, App.
-/
import Derived.Test.YtffilggpimdikaaGreatDoorJ5
import Derived.Test.YtffilggpimdikaaGreatDoorJ4
import Derived.Test.YtffilggpimdikaaGreatDoorJ3
import Derived.RegionTactic
import Derived.ChangeAlike
import Derived.Test.YtffilggpimdikaaGreatDoorRows
import Derived.Below
import Derived.WalkKit
import Derived.OwnWalk
import Derived.Laws.OwnMore
import Derived.Lib.Hide
/-
  The law at two new blocks and one store into each, saying that the blocks are two.
-/
namespace Go.Proofs.YtffilggpimdikaaGreatDoor.FreeN
open Go Go.RowKit Go.Proofs.YtffilggpimdikaaGreatDoor.Free Go.Proofs.YtffilggpimdikaaGreatDoor.FreeT Go.Proofs.YtffilggpimdikaaGreatDoor.FreeW
set_option linter.unusedVariables false

section
variable {P : Program} {ops : Array Oper}

set_option maxHeartbeats 1000000 in
/-- THE LAW AT TWO NEW BLOCKS AND A STORE INTO EACH -/
theorem wp_region_apart {id n : Nat} {a0 : Act} {w0 : World} {Q : Exit → Act → World → Prop} (con : Nat → Value) (kn : Nat → Bool) (A1 A2 S1 S2 d1 d2 : Nat) (T : TypeId) (zs cells1 cells2 : Array Value) (oa1 oa2 os1 os2 : Oper)
    (hm : P.follows .mixedOrders = true) (hB : freeB ops n = true) (hn : a0.tmps.size = n)
    (ha1 : ops[A1]? = some oa1) (had1 : oa1.dst = some d1) (ha2 : ops[A2]? = some oa2) (had2 : oa2.dst = some d2) (hs1 : ops[S1]? = some os1) (hsd1 : os1.dst = none) (hs2 : ops[S2]? = some os2) (hsd2 : os2.dst = none)
    (hk : kn = fun i => !(i == A1) && !(i == A2) && !(i == S1) && !(i == S2)) (hne : [A1, A2, S1, S2].Nodup) (hd12 : d1 ≠ d2)
    (hdep1 : ∃ e ∈ os1.after, Region.binds .any e = true ∧ e.on = A1) (hdep2 : ∃ e ∈ os2.after, Region.binds .any e = true ∧ e.on = A2)
    (hoth : ∀ (i : Nat) (o : Oper), ops[i]? = some o → kn i = true → o.dst ≠ some d1 ∧ o.dst ≠ some d2)
    (hu1 : a0.tmps[d1]? = some undef) (hu2 : a0.tmps[d2]? = some undef)
    (hal1 : ∀ (a : Act) (w : World), (execOp a.eval oa1).run P w = .ok (.value (.pointer (some ⟨w.heap.size, 0, none⟩))) (w.alloc (.cells zs T)))
    (hal2 : ∀ (a : Act) (w : World), (execOp a.eval oa2).run P w = .ok (.value (.pointer (some ⟨w.heap.size, 0, none⟩))) (w.alloc (.cells zs T)))
    (hst1 : ∀ (a : Act) (w : World) (b : Nat) (old : Array Value), FactsA ops a0 con kn os1 a → a.tmps[d1]? = some (.pointer (some ⟨b, 0, none⟩)) → w.heap[b]? = some (.cells old T (0, 0)) → (old = zs ∨ old = cells1) →
      os1.wp P a w (fun a' w' => a' = a ∧ w' = w.setRow b cells1) Q)
    (hst2 : ∀ (a : Act) (w : World) (b : Nat) (old : Array Value), FactsA ops a0 con kn os2 a → a.tmps[d2]? = some (.pointer (some ⟨b, 0, none⟩)) → w.heap[b]? = some (.cells old T (0, 0)) → (old = zs ∨ old = cells2) →
      os2.wp P a w (fun a' w' => a' = a ∧ w' = w.setRow b cells2) Q)
    (hcon : ∀ (i : Nat) (o : Oper), ops[i]? = some o → kn i = true → ∀ (a : Act) (w : World), Below w0.heap.size w0 w → FactsA ops a0 con kn o a →
      o.wp P a w (fun a' w' => a' = a.put o.dst (con i) ∧ Below w.heap.size w w') Q)
    (hend : ∀ (b1 b2 : Nat) (w : World), Below w0.heap.size w0 w → w0.heap.size ≤ b1 → w0.heap.size ≤ b2 → w.heap[b1]? = some (.cells cells1 T (0, 0)) → w.heap[b2]? = some (.cells cells2 T (0, 0)) → b1 ≠ b2 →
      Q .normal (fill ops.toList (fun i => if i = A1 then .pointer (some ⟨b1, 0, none⟩) else if i = A2 then .pointer (some ⟨b2, 0, none⟩) else con i) 0 a0) w) : (Code.region id ops true).wp P Q a0 w0 := by
  have hB2 := hB
  simp only [freeB, Bool.and_eq_true, decide_eq_true_eq] at hB2
  obtain ⟨⟨h1, h2⟩, _⟩ := hB2
  have hdn : ∀ (o : Oper) (k : Tmp), o ∈ ops.toList → o.dst = some k → k < n := fun o k ho hk => by
    have := List.all_eq_true.1 h1 o ho
    simp only [Bool.and_eq_true, hk] at this
    simpa using this.2
  have hd1n : d1 < n := hdn oa1 d1 (by simpa using Array.mem_of_getElem? ha1) had1
  have hd2n : d2 < n := hdn oa2 d2 (by simpa using Array.mem_of_getElem? ha2) had2
  obtain ⟨n12, n13, n14, n23, n24, n34⟩ : A1 ≠ A2 ∧ A1 ≠ S1 ∧ A1 ≠ S2 ∧ A2 ≠ S1 ∧ A2 ≠ S2 ∧ S1 ≠ S2 := by
    simp only [List.nodup_cons, List.mem_cons, List.not_mem_nil, or_false, not_or] at hne
    exact ⟨hne.1.1, hne.1.2.1, hne.1.2.2, hne.2.1.1, hne.2.1.2, hne.2.2.1⟩
  have hkt : ∀ i, kn i = true ↔ i ≠ A1 ∧ i ≠ A2 ∧ i ≠ S1 ∧ i ≠ S2 := fun i => by
    rw [hk]; simp [and_assoc]
  let Y : Nat → Value → Act → World → Prop := fun i v a w => kn i = true → v = con i
  let S : (Nat → Bool) → Act → World → Prop := fun g a w => Below w0.heap.size w0 w ∧ Laid w0.heap.size d1 T zs cells1 (g A1) (g S1) a w ∧ Laid w0.heap.size d2 T zs cells2 (g A2) (g S2) a w ∧
    ∀ b1 b2, a.tmps[d1]? = some (.pointer (some ⟨b1, 0, none⟩)) → a.tmps[d2]? = some (.pointer (some ⟨b2, 0, none⟩)) → b1 ≠ b2
  have facts : ∀ (listed : Array Bool) (o : Oper) (a : Act) (w : World), MidA ops a0 Y S listed a w → (∀ e ∈ o.after, Region.binds .any e = true → listed.getD e.on false = true) → FactsA ops a0 con kn o a := by
    intro listed o a w hM hdl
    refine ⟨fun e he hb oj dj hoj hdj hkn => ?_, fun k hk => ?_⟩
    · obtain ⟨v, hv, hvd⟩ := hM.new e.on oj hoj (hdl e he hb)
      rw [hvd dj hdj, ← hv hkn]
      rfl
    · rw [hM.old k fun i o' ho' hd' => ?_]
      have := List.all_eq_true.1 hk o' (by simpa using Array.mem_of_getElem? ho')
      simp [hd'] at this
  refine wp_region_freeA (Y := Y) (S := S) hm hB hn ⟨(Below.refl w0.heap.size w0).drew, ⟨fun _ => hu1, fun h => (by cases h)⟩, ⟨fun _ => hu2, fun h => (by cases h)⟩, fun b1 b2 e1 _ => (by rw [hu1] at e1; simp [undef] at e1)⟩ ?_ ?_
  · intro i o ho listed a w hM hu hdl
    obtain ⟨hBl, hL1, hL2, hap⟩ := hM.world
    have hsz : a.tmps.size = n := hM.size.trans hn
    by_cases h1a : i = A1
    · subst h1a
      obtain rfl : o = oa1 := Option.some.inj (ho.symm.trans ha1)
      unfold Oper.wp
      rw [hal1 a w]
      have hsu : listed.getD S1 false = false := by
        cases hl : listed.getD S1 false with
        | false => rfl
        | true =>
          exfalso
          obtain ⟨e, he, hb, heq⟩ := hdep1
          have := hM.closed S1 os1 hs1 hl e he hb
          rw [heq, hu] at this
          cases this
      have hnew : (a.put o.dst (.pointer (some ⟨w.heap.size, 0, none⟩))).tmps[d1]? = some (.pointer (some ⟨w.heap.size, 0, none⟩)) := by
        rw [had1]; simp [Act.put, hsz, hd1n]
      have hsame : (a.put o.dst (.pointer (some ⟨w.heap.size, 0, none⟩))).tmps[d2]? = a.tmps[d2]? := put_other (by rw [had1]; simp; omega)
      refine ⟨_, rfl, fun h => absurd rfl ((hkt _).1 h).1, ⟨hBl.alloc hBl.size _, ?_, ?_, ?_⟩, fun j u _ _ hY => hY⟩
      · refine ⟨fun h => (by simp at h), fun _ => ⟨w.heap.size, hnew, hBl.size, ?_⟩⟩
        simp only [if_neg (Ne.symm n13), hsu]
        exact heap_alloc_new w _
      · have := hL2.on hsame ((Below.refl w.heap.size w).alloc (Nat.le_refl _) (.cells zs T))
        simpa [Ne.symm n12, Ne.symm n14] using this
      · intro b1 b2 e1 e2
        rw [hnew] at e1
        rw [hsame] at e2
        have := hL2.lt e2
        simp at e1
        omega
    by_cases h2a : i = A2
    · subst h2a
      obtain rfl : o = oa2 := Option.some.inj (ho.symm.trans ha2)
      unfold Oper.wp
      rw [hal2 a w]
      have hsu : listed.getD S2 false = false := by
        cases hl : listed.getD S2 false with
        | false => rfl
        | true =>
          exfalso
          obtain ⟨e, he, hb, heq⟩ := hdep2
          have := hM.closed S2 os2 hs2 hl e he hb
          rw [heq, hu] at this
          cases this
      have hnew : (a.put o.dst (.pointer (some ⟨w.heap.size, 0, none⟩))).tmps[d2]? = some (.pointer (some ⟨w.heap.size, 0, none⟩)) := by
        rw [had2]; simp [Act.put, hsz, hd2n]
      have hsame : (a.put o.dst (.pointer (some ⟨w.heap.size, 0, none⟩))).tmps[d1]? = a.tmps[d1]? := put_other (by rw [had2]; simp; omega)
      refine ⟨_, rfl, fun h => absurd rfl ((hkt _).1 h).2.1, ⟨hBl.alloc hBl.size _, ?_, ?_, ?_⟩, fun j u _ _ hY => hY⟩
      · have := hL1.on hsame ((Below.refl w.heap.size w).alloc (Nat.le_refl _) (.cells zs T))
        simpa [n12, Ne.symm n23] using this
      · refine ⟨fun h => (by simp at h), fun _ => ⟨w.heap.size, hnew, hBl.size, ?_⟩⟩
        simp only [if_neg (Ne.symm n24), hsu]
        exact heap_alloc_new w _
      · intro b1 b2 e1 e2
        rw [hnew] at e2
        rw [hsame] at e1
        have := hL1.lt e1
        simp at e2
        omega
    by_cases h1s : i = S1
    · subst h1s
      obtain rfl : o = os1 := Option.some.inj (ho.symm.trans hs1)
      obtain ⟨e, he, hb, heq⟩ := hdep1
      have hl := hdl e he hb
      rw [heq] at hl
      obtain ⟨b, hp, hbw, hheap⟩ := hL1.2 hl
      refine Oper.wp_mono ?_ (hst1 a w b _ (facts listed o a w hM hdl) hp hheap (by split <;> simp))
      rintro a' w' ⟨rfl, rfl⟩
      refine ⟨undef, by rw [hsd1]; rfl, fun h => absurd rfl ((hkt _).1 h).2.2.1, ⟨setRow_below hBl hbw _, ?_, ?_, hap⟩, fun j u _ _ hY => hY⟩
      · refine ⟨fun h => (by simp [n13, hl] at h), fun _ => ⟨b, hp, hbw, ?_⟩⟩
        rw [if_pos (by simp)]
        exact setRow_kept hheap _
      · have := hL2.row (g := b) (cs := cells1) fun b2 e2 => (hap b b2 hp e2).symm
        simpa [n23, Ne.symm n34] using this
    by_cases h2s : i = S2
    · subst h2s
      obtain rfl : o = os2 := Option.some.inj (ho.symm.trans hs2)
      obtain ⟨e, he, hb, heq⟩ := hdep2
      have hl := hdl e he hb
      rw [heq] at hl
      obtain ⟨b, hp, hbw, hheap⟩ := hL2.2 hl
      refine Oper.wp_mono ?_ (hst2 a w b _ (facts listed o a w hM hdl) hp hheap (by split <;> simp))
      rintro a' w' ⟨rfl, rfl⟩
      refine ⟨undef, by rw [hsd2]; rfl, fun h => absurd rfl ((hkt _).1 h).2.2.2, ⟨setRow_below hBl hbw _, ?_, ?_, hap⟩, fun j u _ _ hY => hY⟩
      · have := hL1.row (g := b) (cs := cells2) fun b1 e1 => hap b1 b e1 hp
        simpa [n14, n34] using this
      · refine ⟨fun h => (by simp [n24, hl] at h), fun _ => ⟨b, hp, hbw, ?_⟩⟩
        rw [if_pos (by simp)]
        exact setRow_kept hheap _
    have hki : kn i = true := (hkt i).2 ⟨h1a, h2a, h1s, h2s⟩
    obtain ⟨e1, e2⟩ := hoth i o ho hki
    refine Oper.wp_mono ?_ (hcon i o ho hki a w hBl (facts listed o a w hM hdl))
    rintro a' w' ⟨rfl, hbl⟩
    refine ⟨con i, rfl, fun _ => rfl, ⟨hBl.trans (hbl.mono hBl.size), ?_, ?_, ?_⟩, fun j u _ _ hY => hY⟩
    · have := hL1.on (put_other (v := con i) e1) hbl
      simpa [Ne.symm h1a, Ne.symm h1s] using this
    · have := hL2.on (put_other (v := con i) e2) hbl
      simpa [Ne.symm h2a, Ne.symm h2s] using this
    · intro b1 b2 f1 f2
      rw [put_other e1] at f1
      rw [put_other e2] at f2
      exact hap b1 b2 f1 f2
  · intro vs w hS hall
    obtain ⟨hBl, hL1, hL2, hap⟩ := hS
    have l1 : A1 < ops.size := (Array.getElem?_eq_some_iff.1 ha1).1
    have l2 : A2 < ops.size := (Array.getElem?_eq_some_iff.1 ha2).1
    have l3 : S1 < ops.size := (Array.getElem?_eq_some_iff.1 hs1).1
    have l4 : S2 < ops.size := (Array.getElem?_eq_some_iff.1 hs2).1
    obtain ⟨b1, p1, c1, k1⟩ := hL1.2 (by simp [l1])
    obtain ⟨b2, p2, c2, k2⟩ := hL2.2 (by simp [l2])
    rw [if_pos (by simp [l3])] at k1
    rw [if_pos (by simp [l4])] at k2
    have f1 := fill_at d1 ops.toList vs 0 a0 A1 oa1 (by simpa using ha1) had1 h2 (by rw [hn]; exact hd1n)
    have f2 := fill_at d2 ops.toList vs 0 a0 A2 oa2 (by simpa using ha2) had2 h2 (by rw [hn]; exact hd2n)
    rw [p1, Nat.zero_add] at f1
    rw [p2, Nat.zero_add] at f2
    have hc : fill ops.toList vs 0 a0 = fill ops.toList (fun i => if i = A1 then .pointer (some ⟨b1, 0, none⟩) else if i = A2 then .pointer (some ⟨b2, 0, none⟩) else con i) 0 a0 := by
      refine fill_none _ _ _ 0 a0 fun i o ho hd => ?_
      rw [Nat.zero_add]
      have ho2 : ops[i]? = some o := by simpa using ho
      by_cases e1 : i = A1
      · subst e1; rw [if_pos rfl]; exact (Option.some.inj f1).symm
      by_cases e2 : i = A2
      · subst e2; rw [if_neg (Ne.symm n12), if_pos rfl]; exact (Option.some.inj f2).symm
      rw [if_neg e1, if_neg e2]
      refine hall i o ho2 ((hkt i).2 ⟨e1, e2, fun e => ?_, fun e => ?_⟩)
      · subst e
        obtain rfl : o = os1 := Option.some.inj (ho2.symm.trans hs1)
        exact hd hsd1
      · subst e
        obtain rfl : o = os2 := Option.some.inj (ho2.symm.trans hs2)
        exact hd hsd2
    rw [hc]
    exact hend b1 b2 w hBl c1 c2 k1 k2 (hap b1 b2 p1 p2)
end
end Go.Proofs.YtffilggpimdikaaGreatDoor.FreeN

/-
  The reference's rectangles behind both bits.
-/
namespace Go.Proofs.YtffilggpimdikaaGreatDoor.Split
open Go.RowKit Go.Shelf Go.Proofs.YtffilggpimdikaaGreatDoor.Plain Go.Proofs.YtffilggpimdikaaGreatDoor.Tree Go.Proofs.YtffilggpimdikaaGreatDoor.Hex Go.Proofs.YtffilggpimdikaaGreatDoor.Read Go.Proofs.YtffilggpimdikaaGreatDoor.Parts Go.Proofs.YtffilggpimdikaaGreatDoor.SetW Go.Proofs.YtffilggpimdikaaGreatDoor.TrimT Go.Proofs.YtffilggpimdikaaGreatDoor.Rect Go.Proofs.YtffilggpimdikaaGreatDoor.FreeL
open Go.Proofs.YtffilggpimdikaaGreatDoor.Free (fill wp_value wp_enter wp_load_row freeB)
open Go.Proofs.YtffilggpimdikaaGreatDoor.FreeN (wp_region_apart)
set_option linter.unusedVariables false
set_option linter.unusedSimpArgs false

theorem eval_get {a : Act} {d : Tmp} {v : Value} (h : a.tmps[d]?.getD undef = v) : a.eval (.tmp d) = v := by
  rw [← h]
  show a.tmps.getD d undef = _
  simp [Array.getD_eq_getD_getElem?]
theorem wp_skip {P : Program} {o : Oper} {a : Act} {w w' : World} {K : Act → World → Prop} {Q : Exit → Act → World → Prop} (h : (execOp a.eval o).run P w = .ok .skip w') (hK : K (a.put o.dst undef) w') : o.wp P a w K Q := by
  unfold Oper.wp
  rw [h]
  exact hK
def row (x y : Nat) : Array Value := #[.int .i64 (x : Int), .int .i64 (y : Int)]
theorem cells2 {w : World} {b : Nat} {c0 c1 : Value} {ty : TypeId} (h : w.heap[b]? = some (.cells #[c0, c1] ty (0, 0))) : w.cell? ⟨b, 0, none⟩ = some c0 ∧ w.cell? ⟨b, 1, none⟩ = some c1 ∧ w.frozen? ⟨b, 0, none⟩ = false ∧ w.frozen? ⟨b, 1, none⟩ = false :=
  ⟨cell_of_row _ _ 0 _ _ _ h, cell_of_row _ _ 1 _ _ _ h, frozen_of_row _ _ _ _ _ h, frozen_of_row _ _ _ _ _ h⟩
theorem info_rect (x y : Value) : (Tryz.prog.info? 41).map (·.size) = some (#[x, y] : Array Value).size := by kernel_rfl
theorem one_rect (x y : Int) : (#[.int .i64 x, .int .i64 y] : Array Value).all (·.oneCell') = true := by simp [Value.oneCell']
/-- the blocks of a call: the argument, both results, both rectangles -/
structure Sp (w wr : World) (B g1 g2 R C x1 x2 y1 y2 : Nat) : Prop where
  arg : wr.heap[B]? = some (.cells #[.int .i64 (R : Int), .int .i64 (C : Int)] 41 (0, 0))
  r1 : wr.heap[B + 1]? = some (.cells #[.int .i64 0, .int .i64 0] 41 (0, 0))
  r2 : wr.heap[B + 2]? = some (.cells #[.int .i64 0, .int .i64 0] 41 (0, 0))
  z : wr.heap[g1]? = some (.cells #[.int .i64 (x1 : Int), .int .i64 (x2 : Int)] 41 (0, 0))
  o : wr.heap[g2]? = some (.cells #[.int .i64 (y1 : Int), .int .i64 (y2 : Int)] 41 (0, 0))
  below : Below w.heap.size w wr
  apart : g1 ≠ g2 ∧ B + 3 ≤ g1 ∧ B + 3 ≤ g2 ∧ w.heap.size = B
theorem Sp.later {w wr w2 : World} {B g1 g2 R C x1 x2 y1 y2 : Nat} (h : Sp w wr B g1 g2 R C x1 x2 y1 y2) (hb : Below wr.heap.size wr w2) : Sp w w2 B g1 g2 R C x1 x2 y1 y2 :=
  have k : ∀ {g : Nat} {o : Obj}, wr.heap[g]? = some o → w2.heap[g]? = some o := fun e => (hb.block _ (Array.getElem?_eq_some_iff.1 e).1).trans e
  ⟨k h.arg, k h.r1, k h.r2, k h.z, k h.o, h.below.trans (hb.mono h.below.size), h.apart⟩
theorem set_other {w : World} {B k i : Nat} {v : Value} (h : k ≠ B) : (w.setCell ⟨B, i, none⟩ v).heap[k]? = w.heap[k]? := by
  simp only [World.setCell, Array.getElem?_modify]
  rw [if_neg (by omega)]
theorem set_row {w : World} {g : Nat} {c0 c1 v : Value} (i : Nat) (h : w.heap[g]? = some (.cells #[c0, c1] 41 (0, 0))) : (w.setCell ⟨g, i, none⟩ v).heap[g]? = some (.cells (#[c0, c1].setIfInBounds i v) 41 (0, 0)) := by
  simp [World.setCell, Array.getElem?_modify, h]
theorem set_below {b : Nat} {w w1 : World} {B i : Nat} {v : Value} (h : Below b w w1) (hB : b ≤ B) : Below b w (w1.setCell ⟨B, i, none⟩ v) :=
  h.trans ⟨rfl, rfl, rfl, by simp [World.setCell], fun k hk => set_other (by omega)⟩
theorem Sp.z0 {w wr : World} {B g1 g2 R C x1 x2 y1 y2 : Nat} (h : Sp w wr B g1 g2 R C x1 x2 y1 y2) (m : Nat) : Sp w (wr.setCell ⟨g1, 0, none⟩ (.int .i64 (m : Int))) B g1 g2 R C m x2 y1 y2 :=
  ⟨(set_other (by have := h.apart; omega)).trans h.arg, (set_other (by have := h.apart; omega)).trans h.r1, (set_other (by have := h.apart; omega)).trans h.r2, (set_row 0 h.z), ((set_other (Ne.symm h.apart.1)).trans h.o), set_below h.below (by have := h.apart; omega), h.apart⟩
theorem Sp.z1 {w wr : World} {B g1 g2 R C x1 x2 y1 y2 : Nat} (h : Sp w wr B g1 g2 R C x1 x2 y1 y2) (m : Nat) : Sp w (wr.setCell ⟨g1, 1, none⟩ (.int .i64 (m : Int))) B g1 g2 R C x1 m y1 y2 :=
  ⟨(set_other (by have := h.apart; omega)).trans h.arg, (set_other (by have := h.apart; omega)).trans h.r1, (set_other (by have := h.apart; omega)).trans h.r2, (set_row 1 h.z), ((set_other (Ne.symm h.apart.1)).trans h.o), set_below h.below (by have := h.apart; omega), h.apart⟩
theorem Sp.o0 {w wr : World} {B g1 g2 R C x1 x2 y1 y2 : Nat} (h : Sp w wr B g1 g2 R C x1 x2 y1 y2) (m : Nat) : Sp w (wr.setCell ⟨g2, 0, none⟩ (.int .i64 (m : Int))) B g1 g2 R C x1 x2 m y2 :=
  ⟨(set_other (by have := h.apart; omega)).trans h.arg, (set_other (by have := h.apart; omega)).trans h.r1, (set_other (by have := h.apart; omega)).trans h.r2, ((set_other h.apart.1).trans h.z), (set_row 0 h.o), set_below h.below (by have := h.apart; omega), h.apart⟩
theorem Sp.o1 {w wr : World} {B g1 g2 R C x1 x2 y1 y2 : Nat} (h : Sp w wr B g1 g2 R C x1 x2 y1 y2) (m : Nat) : Sp w (wr.setCell ⟨g2, 1, none⟩ (.int .i64 (m : Int))) B g1 g2 R C x1 x2 y1 m :=
  ⟨(set_other (by have := h.apart; omega)).trans h.arg, (set_other (by have := h.apart; omega)).trans h.r1, (set_other (by have := h.apart; omega)).trans h.r2, ((set_other h.apart.1).trans h.z), (set_row 1 h.o), set_below h.below (by have := h.apart; omega), h.apart⟩

set_option maxHeartbeats 8000000 in
set_option maxRecDepth 100000 in
theorem split_said (a : Bool) (v : Nat) (z o : T) (hv : v < 256) (st : ByteArray) (h : st.data.toList = text (.say a v z o)) (hs : st.size ≤ 1048576) (R C : Nat) (hR : R < 256) (hC : C < 256) (w : World) :
    Calls Tryz.prog 83 #[.string st, rect R C] w fun e w' => e = .returned (.tuple #[rect (outR a v R) (outC a v C), rect (inR a v R) (inC a v C)]) ∧ Below w.heap.size w w' := by
  have HS := Lib.hid (set_said a v z o hv st h hs)
  obtain ⟨hk, hx0⟩ := at_drop (s := st) (k := 0) (c := whoB a) (r := hexD (v / 16) :: hexD (v % 16) :: (text z ++ text o)) (by rw [List.drop_zero, h]; rfl)
  have hn : (st[0]'hk).toNat = (whoB a).toNat := by rw [hx0]
  have HN := Lib.hid hn
  obtain ⟨B, hB⟩ : ∃ B, w.heap.size = B := ⟨_, rfl⟩
  have HBB := Lib.hid hB
  have a1 := bit_minus R v hR
  have a2 := bit_and R v hR
  have a3 := bit_minus C v hC
  have a4 := bit_and C v hC
  have HA := Lib.hid (And.intro (And.intro a1 a2) (And.intro a3 a4))
  clear h hx0 hn a1 a2 a3 a4 hs hv
  go_enter Tryz.func83, Tryz.ntmps83
  go_wp2_with fail
  obtain ⟨W1, hW1⟩ : ∃ W1, ((w.alloc (.cells #[.int .i64 (R : Int), .int .i64 (C : Int)] 41)).alloc (.cells #[.int .i64 0, .int .i64 0] 41)).alloc (.cells #[.int .i64 0, .int .i64 0] 41) = W1 := ⟨_, rfl⟩
  rw [hW1]
  have H0 : Hid (W1.heap.size = B + 3 ∧ Below w.heap.size w W1 ∧ W1.heap[B]? = some (.cells #[.int .i64 (R : Int), .int .i64 (C : Int)] 41 (0, 0)) ∧ W1.heap[B + 1]? = some (.cells #[.int .i64 0, .int .i64 0] 41 (0, 0)) ∧ W1.heap[B + 2]? = some (.cells #[.int .i64 0, .int .i64 0] 41 (0, 0))) := by
    show _ ∧ _ ∧ _ ∧ _ ∧ _
    rw [← hW1, ← HBB.out]
    have b0 := Below.refl w.heap.size w
    have b1 := b0.alloc b0.size (.cells #[.int .i64 (R : Int), .int .i64 (C : Int)] 41)
    have b2 := b1.alloc b1.size (.cells #[.int .i64 0, .int .i64 0] 41)
    have b3 := b2.alloc b2.size (.cells #[.int .i64 0, .int .i64 0] 41)
    have n0 := heap_alloc_new w (.cells #[.int .i64 (R : Int), .int .i64 (C : Int)] 41)
    have n1 := heap_alloc_new (w.alloc (.cells #[.int .i64 (R : Int), .int .i64 (C : Int)] 41)) (.cells #[.int .i64 0, .int .i64 0] 41)
    have n2 := heap_alloc_new ((w.alloc (.cells #[.int .i64 (R : Int), .int .i64 (C : Int)] 41)).alloc (.cells #[.int .i64 0, .int .i64 0] 41)) (.cells #[.int .i64 0, .int .i64 0] 41)
    have m0 := (Array.getElem?_eq_some_iff.1 n0).1
    have k0 := (heap_alloc_old (w.alloc (.cells #[.int .i64 (R : Int), .int .i64 (C : Int)] 41)) (.cells #[.int .i64 0, .int .i64 0] 41) m0).trans n0
    have m0' := (Array.getElem?_eq_some_iff.1 k0).1
    have k0' := (heap_alloc_old ((w.alloc (.cells #[.int .i64 (R : Int), .int .i64 (C : Int)] 41)).alloc (.cells #[.int .i64 0, .int .i64 0] 41)) (.cells #[.int .i64 0, .int .i64 0] 41) m0').trans k0
    have m1 := (Array.getElem?_eq_some_iff.1 n1).1
    have k1 := (heap_alloc_old ((w.alloc (.cells #[.int .i64 (R : Int), .int .i64 (C : Int)] 41)).alloc (.cells #[.int .i64 0, .int .i64 0] 41)) (.cells #[.int .i64 0, .int .i64 0] 41) m1).trans n1
    rw [show (w.alloc (.cells #[.int .i64 (R : Int), .int .i64 (C : Int)] 41)).heap.size = w.heap.size + 1 by simp] at k1
    rw [show ((w.alloc (.cells #[.int .i64 (R : Int), .int .i64 (C : Int)] 41)).alloc (.cells #[.int .i64 0, .int .i64 0] 41)).heap.size = w.heap.size + 2 by simp] at n2
    exact ⟨by simp, b3, k0', k1, n2⟩
  clear hW1 hB
  have HM0 : Hid (∀ wx : World, Below W1.heap.size W1 wx → wx.heap[B]? = some (.cells #[.int .i64 (R : Int), .int .i64 (C : Int)] 41 (0, 0))) := fun wx h => (h.block _ (Array.getElem?_eq_some_iff.1 H0.out.2.2.1).1).trans H0.out.2.2.1
  refine wp_region_apart (fun | 0 => rect R C | 1 => rect R C | _ => undef) _ 2 3 4 5 6 7 41 #[.int .i64 0, .int .i64 0] #[.int .i64 (R : Int), .int .i64 (C : Int)] #[.int .i64 (R : Int), .int .i64 (C : Int)] _ _ _ _
    (by kernel_rfl) (by kernel_rfl) rfl rfl rfl rfl rfl rfl rfl rfl rfl rfl (by decide) (by decide) ⟨⟨2, .data⟩, (by simp), rfl, rfl⟩ ⟨⟨3, .data⟩, (by simp), rfl, rfl⟩ ?oth rfl rfl ?al1 ?al2 ?st1 ?st2 ?con ?en
  case oth =>
    intro i o ho hk
    match i, ho, hk with
    | 0, ho, _ => obtain rfl := Option.some.inj ho; exact ⟨by decide, by decide⟩
    | 1, ho, _ => obtain rfl := Option.some.inj ho; exact ⟨by decide, by decide⟩
    | 2, _, hk => exact absurd hk (by decide)
    | 3, _, hk => exact absurd hk (by decide)
    | 4, _, hk => exact absurd hk (by decide)
    | 5, _, hk => exact absurd hk (by decide)
    | q + 6, ho, _ => simp at ho
  case al1 =>
    intro a w
    unfold execOp
    go_simp
  case al2 =>
    intro a w
    unfold execOp
    go_simp
  case st1 =>
    intro a w1 b old hf hp hg ho
    have e8 : a.tmps[8]?.getD undef = rect R C := hf.1 ⟨0, .data⟩ (by simp) rfl _ 8 rfl rfl rfl
    exact wp_store_row 41 (.tmp 6) (.tmp 8) rfl b #[.int .i64 (R : Int), .int .i64 (C : Int)] (eval_get (by rw [hp]; rfl)) (eval_get e8) 41 old hg (info_rect _ _) (by rcases ho with rfl | rfl <;> rfl) (one_rect _ _) ⟨rfl, rfl⟩
  case st2 =>
    intro a w1 b old hf hp hg ho
    have e9 : a.tmps[9]?.getD undef = rect R C := hf.1 ⟨1, .data⟩ (by simp) rfl _ 9 rfl rfl rfl
    exact wp_store_row 41 (.tmp 7) (.tmp 9) rfl b #[.int .i64 (R : Int), .int .i64 (C : Int)] (eval_get (by rw [hp]; rfl)) (eval_get e9) 41 old hg (info_rect _ _) (by rcases ho with rfl | rfl <;> rfl) (one_rect _ _) ⟨rfl, rfl⟩
  case con =>
    intro i o ho hk a w2 hb2 hf
    match i, ho, hk with
    | 0, ho, _ =>
      obtain rfl := Option.some.inj ho
      have b3 : a.tmps[3]?.getD undef = .pointer (some ⟨B, 0, none⟩) := hf.2 3 (by kernel_rfl)
      exact wp_load_row 41 (.tmp 3) rfl B (eval_get b3) 41 _ (0, 0) _ (HM0.out w2 hb2) Tryz.underlying41 rfl (info_rect _ _) ⟨rfl, Below.refl _ _⟩
    | 1, ho, _ =>
      obtain rfl := Option.some.inj ho
      have b3 : a.tmps[3]?.getD undef = .pointer (some ⟨B, 0, none⟩) := hf.2 3 (by kernel_rfl)
      exact wp_load_row 41 (.tmp 3) rfl B (eval_get b3) 41 _ (0, 0) _ (HM0.out w2 hb2) Tryz.underlying41 rfl (info_rect _ _) ⟨rfl, Below.refl _ _⟩
    | 2, _, hk => exact absurd hk (by decide)
    | 3, _, hk => exact absurd hk (by decide)
    | 4, _, hk => exact absurd hk (by decide)
    | 5, _, hk => exact absurd hk (by decide)
    | q + 6, ho, _ => simp at ho
  intro g1 g2 w5 hb5 l1 l2 x1 x2 hap
  have HT : Hid (Sp w w5 B g1 g2 R C R C R C) := by
    obtain ⟨s0, s1, s2, s3, s4⟩ := H0.out
    have k : ∀ {g : Nat} {o : Obj}, W1.heap[g]? = some o → w5.heap[g]? = some o := fun e => (hb5.block _ (Array.getElem?_eq_some_iff.1 e).1).trans e
    exact ⟨k s2, k s3, k s4, x1, x2, s1.trans (hb5.mono s1.size), hap, by omega, by omega, HBB.out⟩
  clear hb5 l1 l2 x1 x2 hap HM0 H0
  simp only [fill, Act.put]
  go_simp
  cases a
  · have hn : (st[0]'hk).toNat = 66 := HN.out
    go_wp2_with fail
    refine wp_region_last (fun | 0 => .pointer (some ⟨B, 1, none⟩) | 1 => .int .i64 (C : Int) | 2 => .string st | 3 => .int .i64 (v : Int) | 4 => .int .i64 (minusN C v : Int) | 5 => .pointer (some ⟨g1, 1, none⟩) | _ => undef) 6 (fun wx => wx.setCell ⟨g1, 1, none⟩ (.int .i64 (minusN C v : Int))) _ (by kernel_rfl) (by kernel_rfl) rfl rfl rfl rfl (by kernel_rfl) ?confz ?stfz ?enfz
    case confz =>
      intro i o ho hlt a wx hb hf
      match i, ho with
      | 0, ho =>
        obtain rfl := Option.some.inj ho
        have b3 : a.tmps[3]?.getD undef = .pointer (some ⟨B, 0, none⟩) := hf.2 3 (by kernel_rfl)
        exact wp_value (.pointer (some ⟨B, 1, none⟩)) (by unfold execOp; go_simp) ⟨rfl, Below.refl _ _⟩
      | 1, ho =>
        obtain rfl := Option.some.inj ho
        have e25 : a.tmps[25]?.getD undef = .pointer (some ⟨B, 1, none⟩) := hf.1 ⟨0, .data⟩ (by simp) rfl _ 25 rfl rfl
        obtain ⟨c0, c1, c2, c3⟩ := cells2 (HT.out.later hb).arg
        exact wp_value (.int .i64 (C : Int)) (by unfold execOp; go_simp) ⟨rfl, Below.refl _ _⟩
      | 2, ho =>
        obtain rfl := Option.some.inj ho
        have b0 : a.tmps[0]?.getD undef = .string st := hf.2 0 (by kernel_rfl)
        exact wp_value (.string st) (by unfold execOp; go_simp) ⟨rfl, Below.refl _ _⟩
      | 3, ho =>
        obtain rfl := Option.some.inj ho
        have e27 : a.tmps[27]?.getD undef = .string st := hf.1 ⟨2, .data⟩ (by simp) rfl _ 27 rfl rfl
        exact wp_enter 102 #[.string st] (.int .i64 (v : Int)) _ (by unfold execOp; go_simp) (HS.out wx) (fun w' h => ⟨rfl, h⟩)
      | 4, ho =>
        obtain rfl := Option.some.inj ho
        have e26 : a.tmps[26]?.getD undef = .int .i64 (C : Int) := hf.1 ⟨1, .data⟩ (by simp) rfl _ 26 rfl rfl
        have e28 : a.tmps[28]?.getD undef = .int .i64 (v : Int) := hf.1 ⟨3, .data⟩ (by simp) rfl _ 28 rfl rfl
        have q1 := HA.out.1.1; have q2 := HA.out.1.2; have q3 := HA.out.2.1; have q4 := HA.out.2.2
        exact wp_value (.int .i64 (minusN C v : Int)) (by unfold execOp; go_simp) ⟨rfl, Below.refl _ _⟩
      | 5, ho =>
        obtain rfl := Option.some.inj ho
        have b6 : a.tmps[6]?.getD undef = .pointer (some ⟨g1, 0, none⟩) := hf.2 6 (by kernel_rfl)
        exact wp_value (.pointer (some ⟨g1, 1, none⟩)) (by unfold execOp; go_simp) ⟨rfl, Below.refl _ _⟩
      | 6, ho => exact absurd hlt (by omega)
      | q + 7, ho => simp at ho
    case stfz =>
      intro a wx hb hf
      have e29 : a.tmps[29]?.getD undef = .int .i64 (minusN C v : Int) := hf.1 ⟨4, .data⟩ (by simp) rfl _ 29 rfl rfl
      have e30 : a.tmps[30]?.getD undef = .pointer (some ⟨g1, 1, none⟩) := hf.1 ⟨5, .data⟩ (by simp) rfl _ 30 rfl rfl
      obtain ⟨c0, c1, c2, c3⟩ := cells2 (HT.out.later hb).z
      exact wp_skip (by unfold execOp; go_simp) ⟨rfl, rfl⟩
    intro w6 hb6
    have HT2 := Lib.hid ((HT.out.later hb6).z1 (minusN C v))
    clear hb6 HT
    simp only [fill, Act.put]
    go_simp
    generalize w6.setCell ⟨g1, 1, none⟩ (.int .i64 (minusN C v : Int)) = w7 at *
    have HT := Lib.hid HT2.out
    clear HT2
    go_wp2_with fail
    refine wp_region_last (fun | 0 => .pointer (some ⟨B, 1, none⟩) | 1 => .int .i64 (C : Int) | 2 => .string st | 3 => .int .i64 (v : Int) | 4 => .int .i64 (meetN C v : Int) | 5 => .pointer (some ⟨g2, 1, none⟩) | _ => undef) 6 (fun wx => wx.setCell ⟨g2, 1, none⟩ (.int .i64 (meetN C v : Int))) _ (by kernel_rfl) (by kernel_rfl) rfl rfl rfl rfl (by kernel_rfl) ?confo ?stfo ?enfo
    case confo =>
      intro i o ho hlt a wx hb hf
      match i, ho with
      | 0, ho =>
        obtain rfl := Option.some.inj ho
        have b3 : a.tmps[3]?.getD undef = .pointer (some ⟨B, 0, none⟩) := hf.2 3 (by kernel_rfl)
        exact wp_value (.pointer (some ⟨B, 1, none⟩)) (by unfold execOp; go_simp) ⟨rfl, Below.refl _ _⟩
      | 1, ho =>
        obtain rfl := Option.some.inj ho
        have e31 : a.tmps[31]?.getD undef = .pointer (some ⟨B, 1, none⟩) := hf.1 ⟨0, .data⟩ (by simp) rfl _ 31 rfl rfl
        obtain ⟨c0, c1, c2, c3⟩ := cells2 (HT.out.later hb).arg
        exact wp_value (.int .i64 (C : Int)) (by unfold execOp; go_simp) ⟨rfl, Below.refl _ _⟩
      | 2, ho =>
        obtain rfl := Option.some.inj ho
        have b0 : a.tmps[0]?.getD undef = .string st := hf.2 0 (by kernel_rfl)
        exact wp_value (.string st) (by unfold execOp; go_simp) ⟨rfl, Below.refl _ _⟩
      | 3, ho =>
        obtain rfl := Option.some.inj ho
        have e33 : a.tmps[33]?.getD undef = .string st := hf.1 ⟨2, .data⟩ (by simp) rfl _ 33 rfl rfl
        exact wp_enter 102 #[.string st] (.int .i64 (v : Int)) _ (by unfold execOp; go_simp) (HS.out wx) (fun w' h => ⟨rfl, h⟩)
      | 4, ho =>
        obtain rfl := Option.some.inj ho
        have e32 : a.tmps[32]?.getD undef = .int .i64 (C : Int) := hf.1 ⟨1, .data⟩ (by simp) rfl _ 32 rfl rfl
        have e34 : a.tmps[34]?.getD undef = .int .i64 (v : Int) := hf.1 ⟨3, .data⟩ (by simp) rfl _ 34 rfl rfl
        have q1 := HA.out.1.1; have q2 := HA.out.1.2; have q3 := HA.out.2.1; have q4 := HA.out.2.2
        exact wp_value (.int .i64 (meetN C v : Int)) (by unfold execOp; go_simp) ⟨rfl, Below.refl _ _⟩
      | 5, ho =>
        obtain rfl := Option.some.inj ho
        have b7 : a.tmps[7]?.getD undef = .pointer (some ⟨g2, 0, none⟩) := hf.2 7 (by kernel_rfl)
        exact wp_value (.pointer (some ⟨g2, 1, none⟩)) (by unfold execOp; go_simp) ⟨rfl, Below.refl _ _⟩
      | 6, ho => exact absurd hlt (by omega)
      | q + 7, ho => simp at ho
    case stfo =>
      intro a wx hb hf
      have e35 : a.tmps[35]?.getD undef = .int .i64 (meetN C v : Int) := hf.1 ⟨4, .data⟩ (by simp) rfl _ 35 rfl rfl
      have e36 : a.tmps[36]?.getD undef = .pointer (some ⟨g2, 1, none⟩) := hf.1 ⟨5, .data⟩ (by simp) rfl _ 36 rfl rfl
      obtain ⟨c0, c1, c2, c3⟩ := cells2 (HT.out.later hb).o
      exact wp_skip (by unfold execOp; go_simp) ⟨rfl, rfl⟩
    intro w6 hb6
    have HT2 := Lib.hid ((HT.out.later hb6).o1 (meetN C v))
    clear hb6 HT
    simp only [fill, Act.put]
    go_simp
    generalize w6.setCell ⟨g2, 1, none⟩ (.int .i64 (meetN C v : Int)) = w7 at *
    have HT := Lib.hid HT2.out
    clear HT2
    go_wp2_with fail
    have hap := HT.out.apart
    obtain ⟨z0, z1, z2, z3⟩ := cells2 HT.out.z
    obtain ⟨o0, o1, o2, o3⟩ := cells2 HT.out.o
    obtain ⟨p0, p1, p2, p3⟩ := cells2 HT.out.r1
    obtain ⟨q0, q1, q2, q3⟩ := cells2 HT.out.r2
    have hg1 : g1 ≠ B + 1 := by omega
    have hg2 : g2 ≠ B + 1 := by omega
    have hg3 : g1 ≠ B + 2 := by omega
    have hg4 : g2 ≠ B + 2 := by omega
    have HBL : Hid (Below w.heap.size w w7 ∧ w.heap.size = B) := ⟨HT.out.below, hap.2.2.2⟩
    have HR1 := Lib.hid HT.out.r1
    have HR2 : Hid (w7.heap[B + 1 + 1]? = some (.cells #[.int .i64 0, .int .i64 0] 41 (0, 0))) := HT.out.r2
    clear HT hap HS HA HN
    go_region
    obtain ⟨W8, hW8⟩ : ∃ W8, (((((w7.setCell ⟨B + 1, 0, none⟩ (.int .i64 (R : Nat))).setCell ⟨B + 1, 1, none⟩ (.int .i64 (minusN C v : Nat))).setCell ⟨B + 1 + 1, 0, none⟩ (.int .i64 (R : Nat))).setCell ⟨B + 1 + 1, 1, none⟩ (.int .i64 (meetN C v : Nat))).drew) = W8 := ⟨_, rfl⟩
    rw [hW8]
    have HF : Hid (Below w.heap.size w W8 ∧ W8.heap[B + 1]? = some (.cells #[.int .i64 (R : Nat), .int .i64 (minusN C v : Nat)] 41 (0, 0)) ∧ W8.heap[B + 1 + 1]? = some (.cells #[.int .i64 (R : Nat), .int .i64 (meetN C v : Nat)] 41 (0, 0))) := by
      show _ ∧ _ ∧ _
      rw [← hW8]
      obtain ⟨b0, bB⟩ := HBL.out
      have l1 : w.heap.size ≤ B + 1 := by omega
      have l2 : w.heap.size ≤ B + 1 + 1 := by omega
      refine ⟨Below.drew (set_below (set_below (set_below (set_below b0 l1) l1) l2) l2), ?_, ?_⟩
      · exact (set_other (by omega)).trans ((set_other (by omega)).trans (set_row 1 (set_row 0 HR1.out)))
      · exact set_row 1 (set_row 0 ((set_other (by omega)).trans ((set_other (by omega)).trans HR2.out)))
    clear hW8 HR1 HR2 HBL z0 z1 z2 z3 o0 o1 o2 o3 p0 p1 p2 p3 q0 q1 q2 q3
    obtain ⟨p0, p1, p2, p3⟩ := cells2 HF.out.2.1
    obtain ⟨q0, q1, q2, q3⟩ := cells2 HF.out.2.2
    go_wp2_with fail
    refine bodyPost_ret (v := .tuple #[rect (R : Nat) (minusN C v : Nat), rect (R : Nat) (meetN C v : Nat)]) (by simp [results, Tryz.results83, go_sem, p0, p1, q0, q1]) rfl ⟨rfl, HF.out.1⟩
  · have hn : (st[0]'hk).toNat = 65 := HN.out
    go_wp2_with fail
    refine wp_region_last (fun | 0 => .pointer (some ⟨B, 0, none⟩) | 1 => .int .i64 (R : Int) | 2 => .string st | 3 => .int .i64 (v : Int) | 4 => .int .i64 (minusN R v : Int) | 5 => .pointer (some ⟨g1, 0, none⟩) | _ => undef) 6 (fun wx => wx.setCell ⟨g1, 0, none⟩ (.int .i64 (minusN R v : Int))) _ (by kernel_rfl) (by kernel_rfl) rfl rfl rfl rfl (by kernel_rfl) ?contz ?sttz ?entz
    case contz =>
      intro i o ho hlt a wx hb hf
      match i, ho with
      | 0, ho =>
        obtain rfl := Option.some.inj ho
        have b3 : a.tmps[3]?.getD undef = .pointer (some ⟨B, 0, none⟩) := hf.2 3 (by kernel_rfl)
        exact wp_value (.pointer (some ⟨B, 0, none⟩)) (by unfold execOp; go_simp) ⟨rfl, Below.refl _ _⟩
      | 1, ho =>
        obtain rfl := Option.some.inj ho
        have e13 : a.tmps[13]?.getD undef = .pointer (some ⟨B, 0, none⟩) := hf.1 ⟨0, .data⟩ (by simp) rfl _ 13 rfl rfl
        obtain ⟨c0, c1, c2, c3⟩ := cells2 (HT.out.later hb).arg
        exact wp_value (.int .i64 (R : Int)) (by unfold execOp; go_simp) ⟨rfl, Below.refl _ _⟩
      | 2, ho =>
        obtain rfl := Option.some.inj ho
        have b0 : a.tmps[0]?.getD undef = .string st := hf.2 0 (by kernel_rfl)
        exact wp_value (.string st) (by unfold execOp; go_simp) ⟨rfl, Below.refl _ _⟩
      | 3, ho =>
        obtain rfl := Option.some.inj ho
        have e15 : a.tmps[15]?.getD undef = .string st := hf.1 ⟨2, .data⟩ (by simp) rfl _ 15 rfl rfl
        exact wp_enter 102 #[.string st] (.int .i64 (v : Int)) _ (by unfold execOp; go_simp) (HS.out wx) (fun w' h => ⟨rfl, h⟩)
      | 4, ho =>
        obtain rfl := Option.some.inj ho
        have e14 : a.tmps[14]?.getD undef = .int .i64 (R : Int) := hf.1 ⟨1, .data⟩ (by simp) rfl _ 14 rfl rfl
        have e16 : a.tmps[16]?.getD undef = .int .i64 (v : Int) := hf.1 ⟨3, .data⟩ (by simp) rfl _ 16 rfl rfl
        have q1 := HA.out.1.1; have q2 := HA.out.1.2; have q3 := HA.out.2.1; have q4 := HA.out.2.2
        exact wp_value (.int .i64 (minusN R v : Int)) (by unfold execOp; go_simp) ⟨rfl, Below.refl _ _⟩
      | 5, ho =>
        obtain rfl := Option.some.inj ho
        have b6 : a.tmps[6]?.getD undef = .pointer (some ⟨g1, 0, none⟩) := hf.2 6 (by kernel_rfl)
        exact wp_value (.pointer (some ⟨g1, 0, none⟩)) (by unfold execOp; go_simp) ⟨rfl, Below.refl _ _⟩
      | 6, ho => exact absurd hlt (by omega)
      | q + 7, ho => simp at ho
    case sttz =>
      intro a wx hb hf
      have e17 : a.tmps[17]?.getD undef = .int .i64 (minusN R v : Int) := hf.1 ⟨4, .data⟩ (by simp) rfl _ 17 rfl rfl
      have e18 : a.tmps[18]?.getD undef = .pointer (some ⟨g1, 0, none⟩) := hf.1 ⟨5, .data⟩ (by simp) rfl _ 18 rfl rfl
      obtain ⟨c0, c1, c2, c3⟩ := cells2 (HT.out.later hb).z
      exact wp_skip (by unfold execOp; go_simp) ⟨rfl, rfl⟩
    intro w6 hb6
    have HT2 := Lib.hid ((HT.out.later hb6).z0 (minusN R v))
    clear hb6 HT
    simp only [fill, Act.put]
    go_simp
    generalize w6.setCell ⟨g1, 0, none⟩ (.int .i64 (minusN R v : Int)) = w7 at *
    have HT := Lib.hid HT2.out
    clear HT2
    go_wp2_with fail
    refine wp_region_last (fun | 0 => .pointer (some ⟨B, 0, none⟩) | 1 => .int .i64 (R : Int) | 2 => .string st | 3 => .int .i64 (v : Int) | 4 => .int .i64 (meetN R v : Int) | 5 => .pointer (some ⟨g2, 0, none⟩) | _ => undef) 6 (fun wx => wx.setCell ⟨g2, 0, none⟩ (.int .i64 (meetN R v : Int))) _ (by kernel_rfl) (by kernel_rfl) rfl rfl rfl rfl (by kernel_rfl) ?conto ?stto ?ento
    case conto =>
      intro i o ho hlt a wx hb hf
      match i, ho with
      | 0, ho =>
        obtain rfl := Option.some.inj ho
        have b3 : a.tmps[3]?.getD undef = .pointer (some ⟨B, 0, none⟩) := hf.2 3 (by kernel_rfl)
        exact wp_value (.pointer (some ⟨B, 0, none⟩)) (by unfold execOp; go_simp) ⟨rfl, Below.refl _ _⟩
      | 1, ho =>
        obtain rfl := Option.some.inj ho
        have e19 : a.tmps[19]?.getD undef = .pointer (some ⟨B, 0, none⟩) := hf.1 ⟨0, .data⟩ (by simp) rfl _ 19 rfl rfl
        obtain ⟨c0, c1, c2, c3⟩ := cells2 (HT.out.later hb).arg
        exact wp_value (.int .i64 (R : Int)) (by unfold execOp; go_simp) ⟨rfl, Below.refl _ _⟩
      | 2, ho =>
        obtain rfl := Option.some.inj ho
        have b0 : a.tmps[0]?.getD undef = .string st := hf.2 0 (by kernel_rfl)
        exact wp_value (.string st) (by unfold execOp; go_simp) ⟨rfl, Below.refl _ _⟩
      | 3, ho =>
        obtain rfl := Option.some.inj ho
        have e21 : a.tmps[21]?.getD undef = .string st := hf.1 ⟨2, .data⟩ (by simp) rfl _ 21 rfl rfl
        exact wp_enter 102 #[.string st] (.int .i64 (v : Int)) _ (by unfold execOp; go_simp) (HS.out wx) (fun w' h => ⟨rfl, h⟩)
      | 4, ho =>
        obtain rfl := Option.some.inj ho
        have e20 : a.tmps[20]?.getD undef = .int .i64 (R : Int) := hf.1 ⟨1, .data⟩ (by simp) rfl _ 20 rfl rfl
        have e22 : a.tmps[22]?.getD undef = .int .i64 (v : Int) := hf.1 ⟨3, .data⟩ (by simp) rfl _ 22 rfl rfl
        have q1 := HA.out.1.1; have q2 := HA.out.1.2; have q3 := HA.out.2.1; have q4 := HA.out.2.2
        exact wp_value (.int .i64 (meetN R v : Int)) (by unfold execOp; go_simp) ⟨rfl, Below.refl _ _⟩
      | 5, ho =>
        obtain rfl := Option.some.inj ho
        have b7 : a.tmps[7]?.getD undef = .pointer (some ⟨g2, 0, none⟩) := hf.2 7 (by kernel_rfl)
        exact wp_value (.pointer (some ⟨g2, 0, none⟩)) (by unfold execOp; go_simp) ⟨rfl, Below.refl _ _⟩
      | 6, ho => exact absurd hlt (by omega)
      | q + 7, ho => simp at ho
    case stto =>
      intro a wx hb hf
      have e23 : a.tmps[23]?.getD undef = .int .i64 (meetN R v : Int) := hf.1 ⟨4, .data⟩ (by simp) rfl _ 23 rfl rfl
      have e24 : a.tmps[24]?.getD undef = .pointer (some ⟨g2, 0, none⟩) := hf.1 ⟨5, .data⟩ (by simp) rfl _ 24 rfl rfl
      obtain ⟨c0, c1, c2, c3⟩ := cells2 (HT.out.later hb).o
      exact wp_skip (by unfold execOp; go_simp) ⟨rfl, rfl⟩
    intro w6 hb6
    have HT2 := Lib.hid ((HT.out.later hb6).o0 (meetN R v))
    clear hb6 HT
    simp only [fill, Act.put]
    go_simp
    generalize w6.setCell ⟨g2, 0, none⟩ (.int .i64 (meetN R v : Int)) = w7 at *
    have HT := Lib.hid HT2.out
    clear HT2
    go_wp2_with fail
    have hap := HT.out.apart
    obtain ⟨z0, z1, z2, z3⟩ := cells2 HT.out.z
    obtain ⟨o0, o1, o2, o3⟩ := cells2 HT.out.o
    obtain ⟨p0, p1, p2, p3⟩ := cells2 HT.out.r1
    obtain ⟨q0, q1, q2, q3⟩ := cells2 HT.out.r2
    have hg1 : g1 ≠ B + 1 := by omega
    have hg2 : g2 ≠ B + 1 := by omega
    have hg3 : g1 ≠ B + 2 := by omega
    have hg4 : g2 ≠ B + 2 := by omega
    have HBL : Hid (Below w.heap.size w w7 ∧ w.heap.size = B) := ⟨HT.out.below, hap.2.2.2⟩
    have HR1 := Lib.hid HT.out.r1
    have HR2 : Hid (w7.heap[B + 1 + 1]? = some (.cells #[.int .i64 0, .int .i64 0] 41 (0, 0))) := HT.out.r2
    clear HT hap HS HA HN
    go_region
    obtain ⟨W8, hW8⟩ : ∃ W8, (((((w7.setCell ⟨B + 1, 0, none⟩ (.int .i64 (minusN R v : Nat))).setCell ⟨B + 1, 1, none⟩ (.int .i64 (C : Nat))).setCell ⟨B + 1 + 1, 0, none⟩ (.int .i64 (meetN R v : Nat))).setCell ⟨B + 1 + 1, 1, none⟩ (.int .i64 (C : Nat))).drew) = W8 := ⟨_, rfl⟩
    rw [hW8]
    have HF : Hid (Below w.heap.size w W8 ∧ W8.heap[B + 1]? = some (.cells #[.int .i64 (minusN R v : Nat), .int .i64 (C : Nat)] 41 (0, 0)) ∧ W8.heap[B + 1 + 1]? = some (.cells #[.int .i64 (meetN R v : Nat), .int .i64 (C : Nat)] 41 (0, 0))) := by
      show _ ∧ _ ∧ _
      rw [← hW8]
      obtain ⟨b0, bB⟩ := HBL.out
      have l1 : w.heap.size ≤ B + 1 := by omega
      have l2 : w.heap.size ≤ B + 1 + 1 := by omega
      refine ⟨Below.drew (set_below (set_below (set_below (set_below b0 l1) l1) l2) l2), ?_, ?_⟩
      · exact (set_other (by omega)).trans ((set_other (by omega)).trans (set_row 1 (set_row 0 HR1.out)))
      · exact set_row 1 (set_row 0 ((set_other (by omega)).trans ((set_other (by omega)).trans HR2.out)))
    clear hW8 HR1 HR2 HBL z0 z1 z2 z3 o0 o1 o2 o3 p0 p1 p2 p3 q0 q1 q2 q3
    obtain ⟨p0, p1, p2, p3⟩ := cells2 HF.out.2.1
    obtain ⟨q0, q1, q2, q3⟩ := cells2 HF.out.2.2
    go_wp2_with fail
    refine bodyPost_ret (v := .tuple #[rect (minusN R v : Nat) (C : Nat), rect (meetN R v : Nat) (C : Nat)]) (by simp [results, Tryz.results83, go_sem, p0, p1, q0, q1]) rfl ⟨rfl, HF.out.1⟩
end Go.Proofs.YtffilggpimdikaaGreatDoor.Split

/-
  The reference's protocol without what is never said.
-/
namespace Go.Proofs.YtffilggpimdikaaGreatDoor.SaidTrim
open Go.RowKit Go.Shelf Go.Proofs.YtffilggpimdikaaGreatDoor.Plain Go.Proofs.YtffilggpimdikaaGreatDoor.Tree Go.Proofs.YtffilggpimdikaaGreatDoor.Hex Go.Proofs.YtffilggpimdikaaGreatDoor.Read Go.Proofs.YtffilggpimdikaaGreatDoor.Parts Go.Proofs.YtffilggpimdikaaGreatDoor.SetW Go.Proofs.YtffilggpimdikaaGreatDoor.TrimT Go.Proofs.YtffilggpimdikaaGreatDoor.Rect Go.Proofs.YtffilggpimdikaaGreatDoor.Split
open Go.Proofs.YtffilggpimdikaaGreatDoor.Wq (WQ wq_step wq_nil region_kept drew_at)
set_option linter.unusedVariables false
set_option linter.unusedSimpArgs false

theorem eq0 {n : Nat} (h : n = 0) : ((n : Int) == 0) = true := by subst h; rfl
theorem ne0 {n : Nat} (h : n ≠ 0) : ((n : Int) == 0) = false := beq_false_of_ne (by omega)

set_option maxHeartbeats 8000000 in
set_option maxRecDepth 100000 in
theorem said_trim (t : T) : wf t → (text t).length ≤ 2000 → ∀ (R C : Nat) (w : World), R < 256 → C < 256 → 1 ≤ R → 1 ≤ C →
    Calls Tryz.prog 44 #[.string (str (text t)), rect R C] w fun e w' => e = .returned (.string (str (text (trimT t R C)))) ∧ Below w.heap.size w w' := by
  induction t with
  | leaf b =>
    intro _ _ R C w _ _ _ _
    have HL : Hid (∀ W, Calls Tryz.prog 81 #[.string (str (text (.leaf b)))] W fun e w' => e = .returned (.bool true) ∧ W = w') := leaf_yes _ (by rw [str_size]; rfl)
    show Calls _ _ _ _ fun e w' => e = .returned (.string (str (text (.leaf b)))) ∧ _
    generalize str (text (.leaf b)) = s at *
    go_enter Tryz.func44, Tryz.ntmps44
    go_wp2_with fail
    refine (HL.out _).mono ?_
    rintro e w' ⟨rfl, rfl⟩
    go_wp2_with fail
    go_ret
    exact ⟨rfl, by go_grown⟩
  | say a v z o ihz iho =>
    intro hw hl R C w hR hC hR1 hC1
    have hlz : (text (.say a v z o)).length = (text z).length + (text o).length + 3 := by simp [text]
    obtain ⟨h1, h2, h3, h4⟩ := parts_lt a v hR hC
    have hnb := not_both a v hR hC hR1 hC1
    have ihz' := ihz hw.2.1 (by omega)
    have iho' := iho hw.2.2 (by omega)
    have HL : Hid (∀ W, Calls Tryz.prog 81 #[.string (str (text (.say a v z o)))] W fun e w' => e = .returned (.bool false) ∧ W = w') := leaf_no _ (by rw [str_size]; omega)
    have HP := Lib.hid (parts_w a v z o hw.2.1 (str (text (.say a v z o))) (str_data _) (by rw [str_size]; omega))
    have HSp := Lib.hid (split_said a v z o hw.1 (str (text (.say a v z o))) (str_data _) (by rw [str_size]; omega) R C hR hC)
    have hx : (str (text (.say a v z o))).extract 0 1 = str [whoB a] := by
      apply eq_str
      rw [data_extract, str_data]
      rfl
    obtain ⟨hk, hx0⟩ := at_drop (s := str (text (.say a v z o))) (k := 0) (c := whoB a) (r := hexD (v / 16) :: hexD (v % 16) :: (text z ++ text o)) (by rw [str_data]; rfl)
    have hn : ((str (text (.say a v z o)))[0]'hk).toNat = (whoB a).toNat := by rw [hx0]
    have HT : trimT (.say a v z o) R C = if inR a v R = 0 ∨ inC a v C = 0 then trimT z (outR a v R) (outC a v C)
      else if outR a v R = 0 ∨ outC a v C = 0 then trimT o (inR a v R) (inC a v C)
      else .say a (if a then inR a v R else inC a v C) (trimT z (outR a v R) (outC a v C)) (trimT o (inR a v R) (inC a v C)) := rfl
    rw [HT]
    clear HT
    have lz : (text (trimT z (outR a v R) (outC a v C))).length ≤ 2000 := Nat.le_trans (trim_length z _ _) (by omega)
    have lo : (text (trimT o (inR a v R) (inC a v C))).length ≤ 2000 := Nat.le_trans (trim_length o _ _) (by omega)
    obtain ⟨oR, hoR⟩ : ∃ x, outR a v R = x := ⟨_, rfl⟩
    obtain ⟨oC, hoC⟩ : ∃ x, outC a v C = x := ⟨_, rfl⟩
    obtain ⟨iR, hiR⟩ : ∃ x, inR a v R = x := ⟨_, rfl⟩
    obtain ⟨iC, hiC⟩ : ∃ x, inC a v C = x := ⟨_, rfl⟩
    rw [hoR, hoC, hiR, hiC] at HSp hnb ⊢
    rw [hoR, hoC] at lz
    rw [hiR, hiC] at lo
    rw [hoR] at h1
    rw [hoC] at h2
    rw [hiR] at h3
    rw [hiC] at h4
    clear hoR hoC hiR hiC
    obtain ⟨res, hres⟩ : ∃ res, str (text (if iR = 0 ∨ iC = 0 then trimT z oR oC else if oR = 0 ∨ oC = 0 then trimT o iR iC else .say a (if a then iR else iC) (trimT z oR oC) (trimT o iR iC))) = res := ⟨_, rfl⟩
    rw [hres]
    have HRS := Lib.hid hres
    clear hres
    have hs1 : (1 : Int) ≤ ((str (text (.say a v z o))).size : Int) := by rw [str_size]; omega
    generalize str (text (.say a v z o)) = st at *
    generalize str (text z) = sz at *
    generalize str (text o) = so at *
    have HN := Lib.hid hn
    clear hl hlz hw ihz iho hx0 hn
    have ez := fun W => ihz' oR oC W h1 h2
    have eo := fun W => iho' iR iC W h3 h4
    clear ihz' iho'
    by_cases hin : iR = 0 ∨ iC = 0
    · obtain ⟨q1, q2⟩ := hnb hin
      have HZ := Lib.hid (fun W => ez W q1 q2)
      have HR1 : Hid (str (text (trimT z oR oC)) = res) := by have h := HRS.out; rw [if_pos hin] at h; exact h
      have n1 := ne0 (n := oR) (by omega)
      have n2 := ne0 (n := oC) (by omega)
      clear ez eo HRS hnb
      by_cases hi0 : iR = 0
      · have n3 := eq0 hi0
        clear hin hi0
        go_enter Tryz.func44, Tryz.ntmps44
        go_wp2_with fail
        refine (HL.out _).mono ?_
        rintro e w' ⟨rfl, rfl⟩
        go_wp2_with fail
        refine (HP.out _).mono ?_
        rintro e w1 ⟨rfl, hb1⟩
        have g0 : (w.alloc (.cells #[.int .i64 (R : Int), .int .i64 (C : Int)] 41)).heap[w.heap.size]? = some (.cells #[.int .i64 (R : Int), .int .i64 (C : Int)] 41 (0, 0)) := heap_alloc_new w _
        have g1 : w1.heap[w.heap.size]? = some (.cells #[.int .i64 (R : Int), .int .i64 (C : Int)] 41 (0, 0)) := (hb1.block _ (Array.getElem?_eq_some_iff.1 g0).1).trans g0
        obtain ⟨c0, c1, _, _⟩ := cells2 g1
        have HB1 : Hid (Below w.heap.size w w1) := by
          have b0 := (Below.refl w.heap.size w).alloc (Nat.le_refl _) (.cells #[.int .i64 (R : Int), .int .i64 (C : Int)] 41)
          exact b0.trans (hb1.mono b0.size)
        clear hb1 g0 g1
        go_wp2_with fail
        refine (HSp.out _).mono ?_
        rintro e w2 ⟨rfl, hb2⟩
        have HB2 := Lib.hid (HB1.out.trans (hb2.mono HB1.out.size))
        clear hb2 HB1 c0 c1
        have HB3 := Lib.hid ((HB2.out.alloc HB2.out.size (.cells #[.int .i64 (oR : Int), .int .i64 (oC : Int)] 41)).alloc (HB2.out.alloc HB2.out.size (.cells #[.int .i64 (oR : Int), .int .i64 (oC : Int)] 41)).size (.cells #[.int .i64 (iR : Int), .int .i64 (iC : Int)] 41))
        go_wp2_with fail
        refine (HZ.out _).mono ?_
        rintro e w4 ⟨rfl, hb4⟩
        have HB4 := Lib.hid (HB3.out.trans (hb4.mono HB3.out.size))
        clear hb4
        go_wp2_with fail
        go_ret
        exact ⟨by rw [← HR1.out]; rfl, HB4.out⟩
      · have n3 := ne0 hi0
        have n4 := eq0 (n := iC) (by omega)
        clear hin hi0
        go_enter Tryz.func44, Tryz.ntmps44
        go_wp2_with fail
        refine (HL.out _).mono ?_
        rintro e w' ⟨rfl, rfl⟩
        go_wp2_with fail
        refine (HP.out _).mono ?_
        rintro e w1 ⟨rfl, hb1⟩
        have g0 : (w.alloc (.cells #[.int .i64 (R : Int), .int .i64 (C : Int)] 41)).heap[w.heap.size]? = some (.cells #[.int .i64 (R : Int), .int .i64 (C : Int)] 41 (0, 0)) := heap_alloc_new w _
        have g1 : w1.heap[w.heap.size]? = some (.cells #[.int .i64 (R : Int), .int .i64 (C : Int)] 41 (0, 0)) := (hb1.block _ (Array.getElem?_eq_some_iff.1 g0).1).trans g0
        obtain ⟨c0, c1, _, _⟩ := cells2 g1
        have HB1 : Hid (Below w.heap.size w w1) := by
          have b0 := (Below.refl w.heap.size w).alloc (Nat.le_refl _) (.cells #[.int .i64 (R : Int), .int .i64 (C : Int)] 41)
          exact b0.trans (hb1.mono b0.size)
        clear hb1 g0 g1
        go_wp2_with fail
        refine (HSp.out _).mono ?_
        rintro e w2 ⟨rfl, hb2⟩
        have HB2 := Lib.hid (HB1.out.trans (hb2.mono HB1.out.size))
        clear hb2 HB1 c0 c1
        have HB3 := Lib.hid ((HB2.out.alloc HB2.out.size (.cells #[.int .i64 (oR : Int), .int .i64 (oC : Int)] 41)).alloc (HB2.out.alloc HB2.out.size (.cells #[.int .i64 (oR : Int), .int .i64 (oC : Int)] 41)).size (.cells #[.int .i64 (iR : Int), .int .i64 (iC : Int)] 41))
        go_wp2_with fail
        refine (HZ.out _).mono ?_
        rintro e w4 ⟨rfl, hb4⟩
        have HB4 := Lib.hid (HB3.out.trans (hb4.mono HB3.out.size))
        clear hb4
        go_wp2_with fail
        go_ret
        exact ⟨by rw [← HR1.out]; rfl, HB4.out⟩
    have i1 : 1 ≤ iR := by omega
    have i2 : 1 ≤ iC := by omega
    have n3 := ne0 (n := iR) (by omega)
    have n4 := ne0 (n := iC) (by omega)
    have HO := Lib.hid (fun W => eo W i1 i2)
    have HRS2 : Hid (str (text (if oR = 0 ∨ oC = 0 then trimT o iR iC else .say a (if a then iR else iC) (trimT z oR oC) (trimT o iR iC))) = res) := by have h := HRS.out; rw [if_neg hin] at h; exact h
    clear HRS hnb hin eo
    by_cases hou : oR = 0 ∨ oC = 0
    · have HR1 : Hid (str (text (trimT o iR iC)) = res) := by have h := HRS2.out; rw [if_pos hou] at h; exact h
      clear ez HRS2
      by_cases ho0 : oR = 0
      · have n1 := eq0 ho0
        clear hou ho0
        go_enter Tryz.func44, Tryz.ntmps44
        go_wp2_with fail
        refine (HL.out _).mono ?_
        rintro e w' ⟨rfl, rfl⟩
        go_wp2_with fail
        refine (HP.out _).mono ?_
        rintro e w1 ⟨rfl, hb1⟩
        have g0 : (w.alloc (.cells #[.int .i64 (R : Int), .int .i64 (C : Int)] 41)).heap[w.heap.size]? = some (.cells #[.int .i64 (R : Int), .int .i64 (C : Int)] 41 (0, 0)) := heap_alloc_new w _
        have g1 : w1.heap[w.heap.size]? = some (.cells #[.int .i64 (R : Int), .int .i64 (C : Int)] 41 (0, 0)) := (hb1.block _ (Array.getElem?_eq_some_iff.1 g0).1).trans g0
        obtain ⟨c0, c1, _, _⟩ := cells2 g1
        have HB1 : Hid (Below w.heap.size w w1) := by
          have b0 := (Below.refl w.heap.size w).alloc (Nat.le_refl _) (.cells #[.int .i64 (R : Int), .int .i64 (C : Int)] 41)
          exact b0.trans (hb1.mono b0.size)
        clear hb1 g0 g1
        go_wp2_with fail
        refine (HSp.out _).mono ?_
        rintro e w2 ⟨rfl, hb2⟩
        have HB2 := Lib.hid (HB1.out.trans (hb2.mono HB1.out.size))
        clear hb2 HB1 c0 c1
        have HB3 := Lib.hid ((HB2.out.alloc HB2.out.size (.cells #[.int .i64 (oR : Int), .int .i64 (oC : Int)] 41)).alloc (HB2.out.alloc HB2.out.size (.cells #[.int .i64 (oR : Int), .int .i64 (oC : Int)] 41)).size (.cells #[.int .i64 (iR : Int), .int .i64 (iC : Int)] 41))
        go_wp2_with fail
        refine (HO.out _).mono ?_
        rintro e w4 ⟨rfl, hb4⟩
        have HB4 := Lib.hid (HB3.out.trans (hb4.mono HB3.out.size))
        clear hb4
        go_wp2_with fail
        go_ret
        exact ⟨by rw [← HR1.out]; rfl, HB4.out⟩
      · have n1 := ne0 ho0
        have n2 := eq0 (n := oC) (by omega)
        clear hou ho0
        go_enter Tryz.func44, Tryz.ntmps44
        go_wp2_with fail
        refine (HL.out _).mono ?_
        rintro e w' ⟨rfl, rfl⟩
        go_wp2_with fail
        refine (HP.out _).mono ?_
        rintro e w1 ⟨rfl, hb1⟩
        have g0 : (w.alloc (.cells #[.int .i64 (R : Int), .int .i64 (C : Int)] 41)).heap[w.heap.size]? = some (.cells #[.int .i64 (R : Int), .int .i64 (C : Int)] 41 (0, 0)) := heap_alloc_new w _
        have g1 : w1.heap[w.heap.size]? = some (.cells #[.int .i64 (R : Int), .int .i64 (C : Int)] 41 (0, 0)) := (hb1.block _ (Array.getElem?_eq_some_iff.1 g0).1).trans g0
        obtain ⟨c0, c1, _, _⟩ := cells2 g1
        have HB1 : Hid (Below w.heap.size w w1) := by
          have b0 := (Below.refl w.heap.size w).alloc (Nat.le_refl _) (.cells #[.int .i64 (R : Int), .int .i64 (C : Int)] 41)
          exact b0.trans (hb1.mono b0.size)
        clear hb1 g0 g1
        go_wp2_with fail
        refine (HSp.out _).mono ?_
        rintro e w2 ⟨rfl, hb2⟩
        have HB2 := Lib.hid (HB1.out.trans (hb2.mono HB1.out.size))
        clear hb2 HB1 c0 c1
        have HB3 := Lib.hid ((HB2.out.alloc HB2.out.size (.cells #[.int .i64 (oR : Int), .int .i64 (oC : Int)] 41)).alloc (HB2.out.alloc HB2.out.size (.cells #[.int .i64 (oR : Int), .int .i64 (oC : Int)] 41)).size (.cells #[.int .i64 (iR : Int), .int .i64 (iC : Int)] 41))
        go_wp2_with fail
        refine (HO.out _).mono ?_
        rintro e w4 ⟨rfl, hb4⟩
        have HB4 := Lib.hid (HB3.out.trans (hb4.mono HB3.out.size))
        clear hb4
        go_wp2_with fail
        go_ret
        exact ⟨by rw [← HR1.out]; rfl, HB4.out⟩
    have o1 : 1 ≤ oR := by omega
    have o2 : 1 ≤ oC := by omega
    have n1 := ne0 (n := oR) (by omega)
    have n2 := ne0 (n := oC) (by omega)
    have HZ := Lib.hid (fun W => ez W o1 o2)
    have HRS3 : Hid (str (text (.say a (if a then iR else iC) (trimT z oR oC) (trimT o iR iC))) = res) := by have h := HRS2.out; rw [if_neg hou] at h; exact h
    obtain ⟨S, hS⟩ : ∃ S : Nat, (if a then iR else iC) = S := ⟨_, rfl⟩
    have hS8 : S < 256 := by rw [← hS]; split <;> assumption
    have HS := Lib.hid hS
    rw [hS] at HRS3
    have s1 : (str (text (trimT z oR oC))).size ≤ 8000000 := by rw [str_size]; omega
    have s2 : (str (text (trimT o iR iC))).size ≤ 8000000 := by rw [str_size]; omega
    have HNo := Lib.hid fun W => node_said (str [whoB a]) (str (text (trimT z oR oC))) (str (text (trimT o iR iC))) S hS8 (by rw [str_size]; show 1 ≤ 2000; omega) s1 s2 W
    have HRes : Hid (res = str [whoB a] ++ str [hexD (S / 16)] ++ str [hexD (S % 16)] ++ str (text (trimT z oR oC)) ++ str (text (trimT o iR iC))) := by
      show _ = _
      rw [← HRS3.out, str_append, str_append, str_append, str_append]
      rfl
    generalize str [whoB a] ++ str [hexD (S / 16)] ++ str [hexD (S % 16)] ++ str (text (trimT z oR oC)) ++ str (text (trimT o iR iC)) = res2 at *
    generalize str (text (trimT z oR oC)) = rz at *
    generalize str (text (trimT o iR iC)) = ro at *
    generalize str [whoB a] = q0 at *
    clear HRS2 HRS3 hou hS s1 s2 ez
    cases a
    · have hn : (st[0]'hk).toNat = 66 := HN.out
      have hSi : iC = S := HS.out
      subst hSi
      go_enter Tryz.func44, Tryz.ntmps44
      go_wp2_with fail
      refine (HL.out _).mono ?_
      rintro e w' ⟨rfl, rfl⟩
      go_wp2_with fail
      refine (HP.out _).mono ?_
      rintro e w1 ⟨rfl, hb1⟩
      have g0 : (w.alloc (.cells #[.int .i64 (R : Int), .int .i64 (C : Int)] 41)).heap[w.heap.size]? = some (.cells #[.int .i64 (R : Int), .int .i64 (C : Int)] 41 (0, 0)) := heap_alloc_new w _
      have g1 : w1.heap[w.heap.size]? = some (.cells #[.int .i64 (R : Int), .int .i64 (C : Int)] 41 (0, 0)) := (hb1.block _ (Array.getElem?_eq_some_iff.1 g0).1).trans g0
      obtain ⟨c0, c1, _, _⟩ := cells2 g1
      have HB1 : Hid (Below w.heap.size w w1) := by
        have b0 := (Below.refl w.heap.size w).alloc (Nat.le_refl _) (.cells #[.int .i64 (R : Int), .int .i64 (C : Int)] 41)
        exact b0.trans (hb1.mono b0.size)
      clear hb1 g0 g1
      go_wp2_with fail
      refine (HSp.out _).mono ?_
      rintro e w2 ⟨rfl, hb2⟩
      have HB2 := Lib.hid (HB1.out.trans (hb2.mono HB1.out.size))
      clear hb2 HB1 c0 c1
      obtain ⟨W3, hW3⟩ : ∃ W3, ((w2.alloc (.cells #[.int .i64 (oR : Int), .int .i64 (oC : Int)] 41)).alloc (.cells #[.int .i64 (iR : Int), .int .i64 (iC : Int)] 41)) = W3 := ⟨_, rfl⟩
      have HB3 : Hid (Below w.heap.size w W3) := by
        show Below _ _ _
        rw [← hW3]
        have b1 := HB2.out.alloc HB2.out.size (.cells #[.int .i64 (oR : Int), .int .i64 (oC : Int)] 41)
        exact b1.alloc b1.size _
      have HM1 : Hid (∀ wx : World, Below W3.heap.size W3 wx → wx.heap[w2.heap.size]? = some (.cells #[.int .i64 (oR : Int), .int .i64 (oC : Int)] 41 (0, 0))) := fun wx h => by
        have g0 := heap_alloc_new w2 (.cells #[.int .i64 (oR : Int), .int .i64 (oC : Int)] 41)
        have g1 := (heap_alloc_old (w2.alloc (.cells #[.int .i64 (oR : Int), .int .i64 (oC : Int)] 41)) (.cells #[.int .i64 (iR : Int), .int .i64 (iC : Int)] 41) (Array.getElem?_eq_some_iff.1 g0).1).trans g0
        rw [hW3] at g1
        exact (h.block _ (Array.getElem?_eq_some_iff.1 g1).1).trans g1
      have HM2 : Hid (∀ wx : World, Below W3.heap.size W3 wx → wx.heap[w2.heap.size + 1]? = some (.cells #[.int .i64 (iR : Int), .int .i64 (iC : Int)] 41 (0, 0))) := fun wx h => by
        have g1 := heap_alloc_new (w2.alloc (.cells #[.int .i64 (oR : Int), .int .i64 (oC : Int)] 41)) (.cells #[.int .i64 (iR : Int), .int .i64 (iC : Int)] 41)
        rw [show (w2.alloc (.cells #[.int .i64 (oR : Int), .int .i64 (oC : Int)] 41)).heap.size = w2.heap.size + 1 by simp] at g1
        rw [hW3] at g1
        exact (h.block _ (Array.getElem?_eq_some_iff.1 g1).1).trans g1
      have HW3 := Lib.hid hW3
      clear hW3
      go_wp2_with fail
      rw [HW3.out]
      clear HW3
      refine region_kept (C := fun wx => Below W3.heap.size W3 wx) (drew_at W3) (by kernel_rfl) (by kernel_rfl) ?_
      repeat
        (refine wq_step (fun K hK => ?_)
         go_simp
         first
           | (refine hK _ ?_; clear hK K)
           | (apply Exists.intro
              refine ⟨fun wx hC => ?_, hK _ ?_⟩
              · first
                | with_reducible rfl
                | with_reducible exact ((HZ.out wx).mono fun e w' h => ⟨h.1, hC.trans (h.2.mono hC.size)⟩)
                | with_reducible exact ((HO.out wx).mono fun e w' h => ⟨h.1, hC.trans (h.2.mono hC.size)⟩)
                | with_reducible exact ((HNo.out wx).mono fun e w' h => ⟨h.1, hC.trans (h.2.mono hC.size)⟩)
                | (rw [if_pos hs1]; exact ⟨rfl, rfl⟩)
                | (obtain ⟨d0, d1, _, _⟩ := cells2 (HM1.out wx hC); obtain ⟨f0, f1, _, _⟩ := cells2 (HM2.out wx hC); go_simp; first | done | rfl)
              clear hK K))
      refine wq_nil ?_
      intro w9 hC
      have HB9 := Lib.hid (HB3.out.trans (hC.mono HB3.out.size))
      clear hC
      go_simp
      go_wp2_with fail
      go_ret
      exact ⟨by rw [HRes.out]; rfl, HB9.out⟩
    · have hn : (st[0]'hk).toNat = 65 := HN.out
      have hSi : iR = S := HS.out
      subst hSi
      go_enter Tryz.func44, Tryz.ntmps44
      go_wp2_with fail
      refine (HL.out _).mono ?_
      rintro e w' ⟨rfl, rfl⟩
      go_wp2_with fail
      refine (HP.out _).mono ?_
      rintro e w1 ⟨rfl, hb1⟩
      have g0 : (w.alloc (.cells #[.int .i64 (R : Int), .int .i64 (C : Int)] 41)).heap[w.heap.size]? = some (.cells #[.int .i64 (R : Int), .int .i64 (C : Int)] 41 (0, 0)) := heap_alloc_new w _
      have g1 : w1.heap[w.heap.size]? = some (.cells #[.int .i64 (R : Int), .int .i64 (C : Int)] 41 (0, 0)) := (hb1.block _ (Array.getElem?_eq_some_iff.1 g0).1).trans g0
      obtain ⟨c0, c1, _, _⟩ := cells2 g1
      have HB1 : Hid (Below w.heap.size w w1) := by
        have b0 := (Below.refl w.heap.size w).alloc (Nat.le_refl _) (.cells #[.int .i64 (R : Int), .int .i64 (C : Int)] 41)
        exact b0.trans (hb1.mono b0.size)
      clear hb1 g0 g1
      go_wp2_with fail
      refine (HSp.out _).mono ?_
      rintro e w2 ⟨rfl, hb2⟩
      have HB2 := Lib.hid (HB1.out.trans (hb2.mono HB1.out.size))
      clear hb2 HB1 c0 c1
      obtain ⟨W3, hW3⟩ : ∃ W3, ((w2.alloc (.cells #[.int .i64 (oR : Int), .int .i64 (oC : Int)] 41)).alloc (.cells #[.int .i64 (iR : Int), .int .i64 (iC : Int)] 41)) = W3 := ⟨_, rfl⟩
      have HB3 : Hid (Below w.heap.size w W3) := by
        show Below _ _ _
        rw [← hW3]
        have b1 := HB2.out.alloc HB2.out.size (.cells #[.int .i64 (oR : Int), .int .i64 (oC : Int)] 41)
        exact b1.alloc b1.size _
      have HM1 : Hid (∀ wx : World, Below W3.heap.size W3 wx → wx.heap[w2.heap.size]? = some (.cells #[.int .i64 (oR : Int), .int .i64 (oC : Int)] 41 (0, 0))) := fun wx h => by
        have g0 := heap_alloc_new w2 (.cells #[.int .i64 (oR : Int), .int .i64 (oC : Int)] 41)
        have g1 := (heap_alloc_old (w2.alloc (.cells #[.int .i64 (oR : Int), .int .i64 (oC : Int)] 41)) (.cells #[.int .i64 (iR : Int), .int .i64 (iC : Int)] 41) (Array.getElem?_eq_some_iff.1 g0).1).trans g0
        rw [hW3] at g1
        exact (h.block _ (Array.getElem?_eq_some_iff.1 g1).1).trans g1
      have HM2 : Hid (∀ wx : World, Below W3.heap.size W3 wx → wx.heap[w2.heap.size + 1]? = some (.cells #[.int .i64 (iR : Int), .int .i64 (iC : Int)] 41 (0, 0))) := fun wx h => by
        have g1 := heap_alloc_new (w2.alloc (.cells #[.int .i64 (oR : Int), .int .i64 (oC : Int)] 41)) (.cells #[.int .i64 (iR : Int), .int .i64 (iC : Int)] 41)
        rw [show (w2.alloc (.cells #[.int .i64 (oR : Int), .int .i64 (oC : Int)] 41)).heap.size = w2.heap.size + 1 by simp] at g1
        rw [hW3] at g1
        exact (h.block _ (Array.getElem?_eq_some_iff.1 g1).1).trans g1
      have HW3 := Lib.hid hW3
      clear hW3
      go_wp2_with fail
      rw [HW3.out]
      clear HW3
      refine region_kept (C := fun wx => Below W3.heap.size W3 wx) (drew_at W3) (by kernel_rfl) (by kernel_rfl) ?_
      repeat
        (refine wq_step (fun K hK => ?_)
         go_simp
         first
           | (refine hK _ ?_; clear hK K)
           | (apply Exists.intro
              refine ⟨fun wx hC => ?_, hK _ ?_⟩
              · first
                | with_reducible rfl
                | with_reducible exact ((HZ.out wx).mono fun e w' h => ⟨h.1, hC.trans (h.2.mono hC.size)⟩)
                | with_reducible exact ((HO.out wx).mono fun e w' h => ⟨h.1, hC.trans (h.2.mono hC.size)⟩)
                | with_reducible exact ((HNo.out wx).mono fun e w' h => ⟨h.1, hC.trans (h.2.mono hC.size)⟩)
                | (rw [if_pos hs1]; exact ⟨rfl, rfl⟩)
                | (obtain ⟨d0, d1, _, _⟩ := cells2 (HM1.out wx hC); obtain ⟨f0, f1, _, _⟩ := cells2 (HM2.out wx hC); go_simp; first | done | rfl)
              clear hK K))
      refine wq_nil ?_
      intro w9 hC
      have HB9 := Lib.hid (HB3.out.trans (hC.mono HB3.out.size))
      clear hC
      go_simp
      go_wp2_with fail
      go_ret
      exact ⟨by rw [HRes.out]; rfl, HB9.out⟩
end Go.Proofs.YtffilggpimdikaaGreatDoor.SaidTrim

/-
  What a function keeps of a slice that it builds by append: whatever the elements.
-/
namespace Go.Proofs.YtffilggpimdikaaGreatDoor.App
open Go.RowKit
set_option linter.unusedVariables false

/-- wr holds the slice v of n elements, laid since w0; what lay in w0 lies as it lay -/
structure Own (w0 wr : World) (e : TypeId) (k : Nat) (v : Value) (n : Nat) (xs : List Value) : Prop where
  row : wr.ownsRow w0.heap.size e k v n xs
  below : Below w0.heap.size w0 wr
theorem Own.later {w0 wr w2 : World} {e : TypeId} {k n : Nat} {v : Value} {xs : List Value} (h : Own w0 wr e k v n xs) (hb : Below wr.heap.size wr w2) : Own w0 w2 e k v n xs := by
  refine ⟨⟨h.row.1, ?_⟩, h.below.trans (hb.mono h.below.size)⟩
  rcases h.row.2 with h1 | ⟨g, cap, cur, h2, h3, h4, h5⟩
  · exact .inl h1
  · exact .inr ⟨g, cap, cur, h2, h3, (hb.block g (Array.getElem?_eq_some_iff.1 h4).1).trans h4, h5⟩
theorem Own.none (w0 : World) (e : TypeId) (k : Nat) : Own w0 w0 e k (.slice .none 0 0) 0 [] := ⟨⟨by simp, .inl ⟨rfl, rfl⟩⟩, Below.refl _ _⟩
theorem Own.lit (w0 : World) (e : TypeId) (k : Nat) : Own w0 (w0.alloc (.cells #[] e)) e k (.slice (some ⟨w0.heap.size, 0, .none⟩) 0 0) 0 [] :=
  ⟨World.ownsRow_lit w0 #[] 0 (Nat.le_refl _) (by unfold maxLen; omega) (by simp), (Below.refl _ _).alloc (Nat.le_refl _) _⟩
theorem Own.next {w0 w2 w3 : World} {e : TypeId} {k n m : Nat} {v v3 : Value} {xs ys : List Value} (h : Own w0 w2 e k v n xs) (o : Obj)
    (h3 : w3.ownsRow w0.heap.size e k v3 m ys) (hg : (w2.alloc o).grownBy w3 v.ownBlock) : Own w0 w3 e k v3 m ys :=
  ⟨h3, (h.below.alloc h.below.size o).grown hg (by have := h.below.size; simp at this ⊢; omega) fun j hj => (h.row.lt j hj).1⟩
theorem Own.slice {w0 wr : World} {e : TypeId} {k n : Nat} {v : Value} {xs : List Value} (h : Own w0 wr e k v n xs) : ∃ p c, v = .slice p n c := by
  rcases h.row.2 with ⟨rfl, rfl⟩ | ⟨g, cap, cur, rfl, _⟩
  · exact ⟨_, _, rfl⟩
  · exact ⟨_, _, rfl⟩
/-- the elements' cells -/
theorem Own.cell {w0 wr : World} {e : TypeId} {k n : Nat} {p : Option Addr} {c : Nat} {xs : List Value} (h : Own w0 wr e k (.slice p n c) n xs) (j : Nat) (hj : j < n * k) : ∃ g, p = some ⟨g, 0, .none⟩ ∧ w0.heap.size ≤ g ∧ g < wr.heap.size ∧ wr.cell? ⟨g, j, .none⟩ = xs[j]? := by
  rcases h.row.2 with ⟨e1, rfl⟩ | ⟨g, cap, cur, e1, h1, h2, h3⟩
  · simp at hj
  · injection e1 with e1 _ e3
    subst e1
    exact ⟨g, rfl, h1, (Array.getElem?_eq_some_iff.1 h2).1, World.ownsRow.cellAt (cap := cap) (by rw [← e3]; exact h.row) j hj⟩
end Go.Proofs.YtffilggpimdikaaGreatDoor.App

