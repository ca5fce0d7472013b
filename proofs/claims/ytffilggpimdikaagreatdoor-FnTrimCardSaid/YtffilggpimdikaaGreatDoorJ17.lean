/-
  Texts of one seat, joined: LeavesOfWalk, Rd4, Rd5, Kept.
-/
import Derived.Test.YtffilggpimdikaaGreatDoorJ16
import Derived.Test.YtffilggpimdikaaGreatDoorJ4
import Derived.Test.YtffilggpimdikaaGreatDoorJ1
import Derived.Test.YtffilggpimdikaaGreatDoorJ5
import Derived.Deep.Quiet
import Derived.Deep.WholeRow
/-
  The walk of the law on LeavesOf.
-/
namespace Go.Proofs.YtffilggpimdikaaGreatDoor.fnExactLeavesOf
open Go.RowKit Go.Shelf Go.Proofs.YtffilggpimdikaaGreatDoor.Plain Go.Proofs.YtffilggpimdikaaGreatDoor.Tree Go.Proofs.YtffilggpimdikaaGreatDoor.Read Go.Proofs.YtffilggpimdikaaGreatDoor.TreeOf Go.Proofs.YtffilggpimdikaaGreatDoor.Parts
open Go.Proofs.YtffilggpimdikaaGreatDoor.Count (count_bits count_ends)
set_option linter.unusedVariables false
set_option linter.unusedSimpArgs false

set_option maxHeartbeats 1000000 in
theorem impl_yes (s : ByteArray) (t : T) (hw : wf t) (h : s.data.toList = text t) (hs : s.size ≤ 2000) (w : World) :
    Calls Tryz.prog 14 #[.string s] w fun e w' => e = .returned (.int .i64 (ends t : Int)) ∧ Below w.heap.size w w' := by
  have HT := Lib.hid (tree_yes s t hw h hs)
  have hl : (text t).length = s.size := by rw [← h]; simp
  have hC := count_ends t (by omega)
  clear h hl hw
  rcases hC with ⟨V, ev, hv⟩ | ⟨V, ev, hv⟩
  all_goals
    have HC := Lib.hid hv
    rw [ev] at HT
    clear ev hv
    go_enter Tryz.func14, Tryz.ntmps14
    go_wp2_with fail
    refine (HT.out _).mono ?_
    rintro e w1 ⟨rfl, hb1⟩
    go_wp2_with fail
    refine (HC.out _).mono ?_
    rintro e w2 ⟨rfl, hb2⟩
    have HB := Lib.hid (hb1.trans (hb2.mono hb1.size))
    clear hb1 hb2
    go_wp2_with fail
    go_ret
    exact ⟨rfl, HB.out⟩
set_option maxHeartbeats 1000000 in
theorem impl_no (s : ByteArray) (h : ¬ Ok s) (hs : s.size ≤ 1048576) (w : World) :
    Calls Tryz.prog 14 #[.string s] w fun e w' => e = .returned (.int .i64 (-1)) ∧ Below w.heap.size w w' := by
  have HT := Lib.hid (tree_no s h hs)
  clear h
  go_enter Tryz.func14, Tryz.ntmps14
  go_wp2_with fail
  refine (HT.out _).mono ?_
  rintro e w1 ⟨rfl, hb1⟩
  have HB := Lib.hid hb1
  clear hb1
  go_wp2_with fail
  go_ret
  exact ⟨rfl, HB.out⟩
end Go.Proofs.YtffilggpimdikaaGreatDoor.fnExactLeavesOf

/-
  The drawing function l2Bad.
-/
namespace Go.Proofs.YtffilggpimdikaaGreatDoor.Rd4
open Go.RowKit Go.Proofs.YtffilggpimdikaaGreatDoor.Plain Go.Proofs.YtffilggpimdikaaGreatDoor.Rd Go.Proofs.YtffilggpimdikaaGreatDoor.Rd2 Go.Proofs.YtffilggpimdikaaGreatDoor.Rd3
set_option linter.unusedVariables false

/-- a number of 64 bits -/
def W64 (x : Int) : Prop := -9223372036854775808 ≤ x ∧ x ≤ 9223372036854775807
theorem cells2 {w : World} {g : Nat} {T : TypeId} {a b : Value} (h : w.heap[g]? = some (.cells #[a, b] T (0, 0))) : w.cell? ⟨g, 0, none⟩ = some a ∧ w.cell? ⟨g, 1, none⟩ = some b ∧ w.frozen? ⟨g, 0, none⟩ = false ∧ w.frozen? ⟨g, 1, none⟩ = false :=
  ⟨cell_of_row _ _ 0 _ _ _ h, cell_of_row _ _ 1 _ _ _ h, frozen_of_row _ _ 0 _ _ h, frozen_of_row _ _ 1 _ _ h⟩

end Go.Proofs.YtffilggpimdikaaGreatDoor.Rd4

/-
  The drawing function l1Bad.
-/
namespace Go.Proofs.YtffilggpimdikaaGreatDoor.Rd5
open Go.RowKit Go.Proofs.YtffilggpimdikaaGreatDoor.Plain Go.Proofs.YtffilggpimdikaaGreatDoor.Rd Go.Proofs.YtffilggpimdikaaGreatDoor.Rd2 Go.Proofs.YtffilggpimdikaaGreatDoor.Rd3 Go.Proofs.YtffilggpimdikaaGreatDoor.Rd4
set_option linter.unusedVariables false

theorem cells3 {w : World} {g : Nat} {T : TypeId} {a b c : Value} (h : w.heap[g]? = some (.cells #[a, b, c] T (0, 0))) : w.cell? ⟨g, 0, none⟩ = some a ∧ w.cell? ⟨g, 1, none⟩ = some b ∧ w.cell? ⟨g, 2, none⟩ = some c ∧ w.frozen? ⟨g, 0, none⟩ = false ∧ w.frozen? ⟨g, 1, none⟩ = false ∧ w.frozen? ⟨g, 2, none⟩ = false :=
  ⟨cell_of_row _ _ 0 _ _ _ h, cell_of_row _ _ 1 _ _ _ h, cell_of_row _ _ 2 _ _ _ h, frozen_of_row _ _ 0 _ _ h, frozen_of_row _ _ 1 _ _ h, frozen_of_row _ _ 2 _ _ h⟩
/-- a drawn matrix -/
abbrev mtx (r c : Int) (s : ByteArray) : Value := .agg #[.int .i64 r, .int .i64 c, .string s]

set_option maxHeartbeats 2000000 in
theorem bad_mat {lo : Nat} (g p : Nat) (hp : p < 1048000) (r c : Int) (s : ByteArray) (hr1 : 1 ≤ r) (hr8 : r ≤ 8) (hc : W64 c) (hs1 : 1 ≤ s.size) (hs : s.size ≤ 64) (w : World) (h : Rdr lo w g p) :
    Calls Tryz.prog 59 #[.pointer (some ⟨g, 0, none⟩), mtx r c s] w fun e w' => ∃ (a b : Int) (t : ByteArray) (p' : Nat), e = .returned (mtx a b t) ∧ W64 a ∧ W64 b ∧ t.size ≤ 100 ∧ p ≤ p' ∧ p' ≤ p + 2 ∧ Rdr lo w' g p' ∧ Apt g w w' := by
  have hg := h.lt
  have h0 := h.later (two_start_below w (.cells #[.int .i64 r, .int .i64 c, .string s] 24) (.cells #[.int .i64 0, .int .i64 0, .string ⟨#[]⟩] 24))
  have hT := Two.start g w 24 24 #[.int .i64 r, .int .i64 c, .string s] #[.int .i64 0, .int .i64 0, .string ⟨#[]⟩]
  have HP := Lib.hid (pick_r g p (by omega) 40 _ h0)
  have hr : W64 r := ⟨by omega, by omega⟩
  clear h0
  go_enter Tryz.func59, Tryz.ntmps59
  go_wp2_with fail
  refine HP.out.mono ?_
  rintro e w1 ⟨k, rfl, ⟨hk0, -⟩, -, hrd, ha⟩
  have hT1 := hT.later hg ha
  clear hT HP
  by_cases hk : k = 0
  · subst hk
    obtain ⟨q0, q1, q2, r0, r1, r2⟩ := cells3 hT1.one
    have hr2 := hrd.later ((Below.refl w1.heap.size w1).alloc (Nat.le_refl _) (.cells ([0, -1, 9, r + 1, 9223372036854775807].map fun x : Int => Value.int .i64 x).toArray 3))
    have HN := Lib.hid (num_any g (p + 1) (by omega) [0, -1, 9, r + 1, 9223372036854775807] (by simp) (by simp) w1.heap.size 5 (by have := hrd.lt; omega) _ hr2 (by simp) (fun j hj => cells_lit w1 3 [0, -1, 9, r + 1, 9223372036854775807] j hj))
    have HT1 := Lib.hid hT1
    clear hrd hr2 ha hk0 hT1
    go_wp2_with fail
    refine HN.out.mono ?_
    rintro e w2 ⟨y2, rfl, hm, hr3, ha3⟩
    have hT2 := HT1.out.later hg ((Apt.of_below ((Below.refl w1.heap.size w1).alloc (Nat.le_refl _) _)).trans ha3)
    clear q0 q1 q2 r0 r1 r2
    obtain ⟨q0, q1, q2, r0, r1, r2⟩ := cells3 hT2.one
    obtain ⟨o0, o1, o2, f0, f1, f2⟩ := cells3 hT2.two
    have HR := Lib.hid hr3
    have HA := Lib.hid hT2.apt
    have hb : W64 y2 := by
      unfold W64
      simp at hm
      omega
    clear hr3 ha3 HN hT2 HT1 hm
    go_wp2_with fail
    refine bodyPost_ret (v := mtx (y2) (c) (s)) (by simp [results, Tryz.results59, go_sem, o0, o1, o2]) rfl ⟨y2, c, s, p + 2, rfl, hb, hc, by omega, by omega, by omega, ?_, ?_⟩
    · exact rdr_set (rdr_set (rdr_set (rdr_set (HR.out) _ _ _ (by omega)) _ _ _ (by omega)) _ _ _ (by omega)) _ _ _ (by omega)
    · exact apt_set (apt_set (apt_set (apt_set (HA.out) _ _ (by omega) _) _ _ (by omega) _) _ _ (by omega) _) _ _ (by omega) _
  obtain ⟨q0, q1, q2, r0, r1, r2⟩ := cells3 hT1.one
  obtain ⟨o0, o1, o2, f0, f1, f2⟩ := cells3 hT1.two
  have HR := Lib.hid hrd
  have HA := Lib.hid hT1.apt
  clear hrd ha hT1
  by_cases hk1 : k = 1
  · subst hk1
    have hcat := fun W => run_string_add_sum (P := Tryz.prog) (w := W) s ⟨#[48]⟩ (by show s.size + 1 ≤ 9223372036854775807; omega)
    go_wp2_with fail
    refine bodyPost_ret (v := mtx (r) (c) (s ++ ⟨#[48]⟩)) (by simp [results, Tryz.results59, go_sem, o0, o1, o2]) rfl ⟨r, c, s ++ ⟨#[48]⟩, p + 1, rfl, hr, hc, by rw [ByteArray.size_append]; show s.size + 1 ≤ 100; omega, by omega, by omega, ?_, ?_⟩
    · exact rdr_set (rdr_set (rdr_set (rdr_set (HR.out) _ _ _ (by omega)) _ _ _ (by omega)) _ _ _ (by omega)) _ _ _ (by omega)
    · exact apt_set (apt_set (apt_set (apt_set (HA.out) _ _ (by omega) _) _ _ (by omega) _) _ _ (by omega) _) _ _ (by omega) _
  by_cases hk2 : k = 2
  · subst hk2
    have hcat := fun W => run_string_add_sum (P := Tryz.prog) (w := W) ⟨#[50]⟩ (s.extract 1 s.size) (by show 1 + (s.extract 1 s.size).size ≤ 9223372036854775807; rw [ByteArray.size_extract]; omega)
    have hsl : (1 : Int) ≤ (s.size : Int) := by omega
    go_wp2_with fail
    refine bodyPost_ret (v := mtx (r) (c) (⟨#[50]⟩ ++ s.extract 1 s.size)) (by simp [results, Tryz.results59, go_sem, o0, o1, o2]) rfl ⟨r, c, ⟨#[50]⟩ ++ s.extract 1 s.size, p + 1, rfl, hr, hc, by rw [ByteArray.size_append, ByteArray.size_extract]; show 1 + _ ≤ 100; omega, by omega, by omega, ?_, ?_⟩
    · exact rdr_set (rdr_set (rdr_set (rdr_set (HR.out) _ _ _ (by omega)) _ _ _ (by omega)) _ _ _ (by omega)) _ _ _ (by omega)
    · exact apt_set (apt_set (apt_set (apt_set (HA.out) _ _ (by omega) _) _ _ (by omega) _) _ _ (by omega) _) _ _ (by omega) _
  by_cases hk3 : k = 3
  · subst hk3
    go_wp2_with fail
    refine bodyPost_ret (v := mtx (1) (9) (⟨#[48, 48, 48, 48, 48, 48, 48, 48, 48]⟩)) (by simp [results, Tryz.results59, go_sem, o0, o1, o2]) rfl ⟨1, 9, ⟨#[48, 48, 48, 48, 48, 48, 48, 48, 48]⟩, p + 1, rfl, ⟨by omega, by omega⟩, ⟨by omega, by omega⟩, by show 9 ≤ 100; omega, by omega, by omega, ?_, ?_⟩
    · exact rdr_set (rdr_set (rdr_set (HR.out) _ _ _ (by omega)) _ _ _ (by omega)) _ _ _ (by omega)
    · exact apt_set (apt_set (apt_set (HA.out) _ _ (by omega) _) _ _ (by omega) _) _ _ (by omega) _
  go_wp2_with fail
  refine bodyPost_ret (v := mtx (r) (c) (s)) (by simp [results, Tryz.results59, go_sem, o0, o1, o2]) rfl ⟨r, c, s, p + 1, rfl, hr, hc, by omega, by omega, by omega, ?_, ?_⟩
  · exact rdr_set (rdr_set (rdr_set (HR.out) _ _ _ (by omega)) _ _ _ (by omega)) _ _ _ (by omega)
  · exact apt_set (apt_set (apt_set (HA.out) _ _ (by omega) _) _ _ (by omega) _) _ _ (by omega) _
end Go.Proofs.YtffilggpimdikaaGreatDoor.Rd5

/-
  Blocks that are kept while calls only make memory; a drawn region walked once in the class of the worlds that keep them.
-/
namespace Go.Proofs.YtffilggpimdikaaGreatDoor.Kept
open Go.RowKit Go.Proofs.YtffilggpimdikaaGreatDoor.Plain Go.Proofs.YtffilggpimdikaaGreatDoor.Rd
set_option linter.unusedVariables false

/-- these blocks lie so, and what lay before w lies as it lay -/
structure Kp (w wr : World) (l : List (Nat × Obj)) : Prop where
  all : ∀ p ∈ l, wr.heap[p.1]? = some p.2
  below : Below w.heap.size w wr
theorem kp_step {B : Nat} {w w1 w2 : World} (h : Below B w w1) (hB : B ≤ w1.heap.size) (h2 : Below w1.heap.size w1 w2) : Below B w w2 := h.trans (h2.mono hB)
theorem Kp.nil (w : World) : Kp w w [] := ⟨fun p hp => (by cases hp), Below.refl _ _⟩
theorem Kp.later {w wr w2 : World} {l : List (Nat × Obj)} (h : Kp w wr l) (hb : Below wr.heap.size wr w2) : Kp w w2 l :=
  ⟨fun p hp => (hb.block _ (Array.getElem?_eq_some_iff.1 (h.all p hp)).1).trans (h.all p hp), kp_step h.below h.below.size hb⟩
theorem Kp.drew {w wr : World} {l : List (Nat × Obj)} (h : Kp w wr l) : Kp w { wr with drawn := wr.drawn + 1 } l := ⟨h.all, ⟨h.below.os, h.below.tape, h.below.output, h.below.size, h.below.block⟩⟩
theorem Kp.put {w wr : World} {l : List (Nat × Obj)} (h : Kp w wr l) (o : Obj) {b : Nat} (hb : wr.heap.size = b) : Kp w (wr.alloc o) ((b, o) :: l) := by
  have h2 := h.later ((Below.refl wr.heap.size wr).alloc (Nat.le_refl _) o)
  refine ⟨fun p hp => ?_, h2.below⟩
  rcases List.mem_cons.1 hp with rfl | hp
  · subst hb
    exact heap_alloc_new wr o
  · exact h2.all p hp
theorem Kp.at {w wr : World} {l : List (Nat × Obj)} (h : Kp w wr l) (i : Nat) {p : Nat × Obj} (hi : l[i]? = some p) : wr.heap[p.1]? = some p.2 := h.all p (List.mem_of_getElem? hi)
theorem Kp.sub {w wr : World} {l m : List (Nat × Obj)} (h : Kp w wr l) (hs : ∀ p ∈ m, p ∈ l) : Kp w wr m := ⟨fun p hp => h.all p (hs p hp), h.below⟩

section
variable {P : Program} {ops : Array Oper} {C : World → Prop}
theorem quiet_gen {Q : Act → Prop} {a : Act} {o : Oper} {rest : List Oper} (hw : Region.wanted o (yielded ops a.tmps) = true) (v : Value) (h : ∀ w, C w → o.quietAt P a C w v) (hn : wpQuiet P ops C Q rest (a.put o.dst v)) :
    wpQuiet P ops C Q (o :: rest) a := by
  refine wpQuiet_step fun K hK => ?_
  rw [if_pos hw]
  exact ⟨v, h, hK _ hn⟩
theorem quiet_skip {Q : Act → Prop} {a : Act} {o : Oper} {rest : List Oper} (hw : Region.wanted o (yielded ops a.tmps) = false) (hn : wpQuiet P ops C Q rest (a.put o.dst undef)) :
    wpQuiet P ops C Q (o :: rest) a := by
  refine wpQuiet_step fun K hK => ?_
  rw [if_neg (by rw [hw]; decide)]
  exact hK _ hn
/-- a value, in each world of the class -/
theorem quiet_value {a : Act} {o : Oper} {w : World} {v : Value} (h : (execOp a.eval o).run P w = .ok (.value v) w) : o.quietAt P a C w v := by
  unfold Oper.quietAt
  rw [h]
  exact ⟨rfl, rfl⟩
/-- a call, in each world of the class -/
theorem quiet_enter {a : Act} {o : Oper} {w : World} {v : Value} (f : FuncId) (args : Array Value) (h : (execOp a.eval o).run P w = .ok (.enter f args) w) (hc : Calls P f args w fun e w' => e = .returned v ∧ C w') : o.quietAt P a C w v := by
  unfold Oper.quietAt
  rw [h]
  exact ⟨rfl, hc⟩
end
/-- the walk of the order of the text, closed: a plain wpQuiet over a list that is written out unfolds by itself where a guard skips operations -/
structure WQ (P : Program) (ops : Array Oper) (C : World → Prop) (Q : Act → Prop) (l : List Oper) (a : Act) : Prop where
  out : wpQuiet P ops C Q l a
theorem wq_step {P : Program} {ops : Array Oper} {C : World → Prop} {Q : Act → Prop} {a : Act} {o : Oper} {rest : List Oper}
    (h : ∀ K : Act → Prop, (∀ a, WQ P ops C Q rest a → K a) → if Region.wanted o (yielded ops a.tmps) then o.quiet P a C K else K (a.put o.dst undef)) : WQ P ops C Q (o :: rest) a :=
  ⟨wpQuiet_step fun K hK => h K fun a h2 => hK a h2.out⟩
theorem wq_nil {P : Program} {ops : Array Oper} {C : World → Prop} {Q : Act → Prop} {a : Act} (h : Q a) : WQ P ops C Q [] a := ⟨wpQuiet_nil h⟩
/-- a region that draws its order and whose callees only make memory: one walk of the order of the text -/
theorem region_kept {P : Program} {C : World → Prop} {id : Nat} {Q : Exit → Act → World → Prop} {a : Act} {w : World} {l : List Oper} (hC : C { w with drawn := w.drawn + 1 }) (hm : P.follows .mixedOrders = true) (hB : Region.lexB .any l.toArray = true)
    (h : WQ P l.toArray C (fun a' => ∀ w', C w' → Q .normal a' w') l a) : (Code.region id l.toArray true).wp P Q a w :=
  wp_region_quiet (C := C) hm hB hC (by simpa using h.out)
/-- a callee that only makes memory, met in a world that keeps some blocks -/
theorem Kp.call {P : Program} {f : FuncId} {args : Array Value} {w wx : World} {v : Value} {l : List (Nat × Obj)} (hC : Kp w wx l) (h : Calls P f args wx fun e w' => e = .returned v ∧ Below wx.heap.size wx w') :
    Calls P f args wx fun e w' => e = .returned v ∧ Kp w w' l := h.mono fun e w' ⟨he, hb⟩ => ⟨he, hC.later hb⟩
end Go.Proofs.YtffilggpimdikaaGreatDoor.Kept

