/-
  The walk of the law on MeetRects.
-/
import Derived.Test.YtojmohdfpoimaaaMeet
import Derived.Test.YtojmohdfpoimaaaFree
namespace Go.Proofs.Ytojmohdfpoimaaa.fnExactMeetRects
open Go.RowKit Go.Proofs.Ytojmohdfpoimaaa.Plain Go.Proofs.Ytojmohdfpoimaaa.Pat Go.Proofs.Ytojmohdfpoimaaa.Rect Go.Proofs.Ytojmohdfpoimaaa.Meet Go.Proofs.Ytojmohdfpoimaaa.Free
set_option linter.unusedVariables false

/-- both find one rectangle -/
theorem both (r c r2 c2 : Int) : ∃ (A B : Int) (t : Bool),
    (∀ w, Calls Try.prog 19 #[rect r c, rect r2 c2] w fun e w' => e = .returned (.tuple #[rect A B, .bool t]) ∧ Below w.heap.size w w') ∧
    (∀ w, Calls Try.prog 20 #[rect r c, rect r2 c2] w fun e w' => e = .returned (.tuple #[rect A B, .bool t]) ∧ Below w.heap.size w w') := by
  by_cases h1 : someB r c = true
  · by_cases h2 : someB r2 c2 = true
    · have hs := spec_meetC r c r2 c2 h1 h2
      have hi := impl_meetC r c r2 c2 h1 h2
      unfold orZero at hs hi
      by_cases h3 : someB (Go.bits .and .i64 r r2) (Go.bits .and .i64 c c2) = true
      · rw [h3, if_pos rfl] at hs hi
        exact ⟨_, _, _, hs, hi⟩
      · rw [Bool.not_eq_true] at h3
        rw [h3, if_neg (by decide)] at hs hi
        exact ⟨_, _, _, hs, hi⟩
    · rw [Bool.not_eq_true] at h2
      exact ⟨_, _, _, spec_meetB r c r2 c2 h1 h2, impl_meetB r c r2 c2 h1 h2⟩
  · rw [Bool.not_eq_true] at h1
    exact ⟨_, _, _, spec_meetA r c r2 c2 h1, impl_meetA r c r2 c2 h1⟩

/-- block b holds two numbers -/
def Two (w : World) (b : Nat) (t : TypeId) (x y : Int) : Prop := w.heap[b]? = some (.cells #[.int .i64 x, .int .i64 y] t (0, 0))
theorem Two.on {w w1 : World} {b : Nat} {t : TypeId} {x y : Int} (h : Two w b t x y) (hb : Below w.heap.size w w1) : Two w1 b t x y :=
  (hb.block b (Array.getElem?_eq_some_iff.1 h).1).trans h
theorem infoR : (Try.prog.info? 23).map (·.size) = some 2 := by kernel_rfl
theorem infoI : (Try.prog.info? 25).map (·.size) = some 2 := by kernel_rfl

set_option maxHeartbeats 1000000 in
set_option maxRecDepth 100000 in
theorem walk (r c : Int) (wr : (Lit.int .i64 r).wf = true) (wc : (Lit.int .i64 c).wf = true) (r2 c2 : Int) (wr2 : (Lit.int .i64 r2).wf = true) (wc2 : (Lit.int .i64 c2).wf = true) (w : World) :
    Calls Try.prog 7 #[rect r c, rect r2 c2] w fun e w' => e = .returned (.bool true) ∧ Below w.heap.size w w' := by
  obtain ⟨A, B, t, hspec, himpl⟩ := both r c r2 c2
  have HS := Lib.hid hspec
  have HI := Lib.hid himpl
  clear hspec himpl
  go_enter Try.func7, Try.ntmps7
  go_wp2_with fail
  have T0 : Two ((w.alloc (.cells #[.int .i64 r, .int .i64 c] 23)).alloc (.cells #[.int .i64 r2, .int .i64 c2] 23)) w.heap.size 23 r c := (Below.heap_alloc _ _ _ (by simp)).trans (heap_alloc_new w _)
  have T1 : Two ((w.alloc (.cells #[.int .i64 r, .int .i64 c] 23)).alloc (.cells #[.int .i64 r2, .int .i64 c2] 23)) (w.heap.size + 1) 23 r2 c2 := by
    have := heap_alloc_new (w.alloc (.cells #[.int .i64 r, .int .i64 c] 23)) (.cells #[.int .i64 r2, .int .i64 c2] 23)
    rwa [World.size_alloc] at this
  have HB0 : Hid (Below w.heap.size w ((w.alloc (.cells #[.int .i64 r, .int .i64 c] 23)).alloc (.cells #[.int .i64 r2, .int .i64 c2] 23))) := ((Below.refl w.heap.size w).alloc (Nat.le_refl _) _).alloc (by simp) _
  generalize (w.alloc (.cells #[.int .i64 r, .int .i64 c] 23)).alloc (.cells #[.int .i64 r2, .int .i64 c2] 23) = W0 at *
  refine wp_region_one (fun | 0 => rect r c | 1 => rect r c | 2 => rect r2 c2 | 3 => rect r2 c2 | 4 => .tuple #[rect A B, .bool t] | 5 => .tuple #[rect A B, .bool t] | 6 => rect A B | 7 => .bool t | 10 => .bool t | _ => undef) 8 9 5 25 #[.int .i64 0, .int .i64 0] #[.int .i64 A, .int .i64 B] _ _
    (by kernel_rfl) (by kernel_rfl) rfl rfl rfl rfl rfl (by decide) ⟨_, List.mem_toArray.2 List.mem_cons_self, rfl, rfl⟩ rfl ?al ?st ?con ?en
  case al =>
    intro a w
    unfold execOp
    go_simp
  case st =>
    intro a w1 b old hf hp hg hsz
    refine wp_store_row 25 (.tmp 5) (.tmp 15) rfl b #[.int .i64 A, .int .i64 B] hp ?_ 25 old hg infoI hsz (by simp [Value.oneCell']) ⟨rfl, rfl⟩
    exact hf.1 ⟨6, .data⟩ (by simp) rfl _ 15 rfl rfl (by decide) (by decide)
  case con =>
    intro i o ho n1 n2 a w1 hb hf
    match i, ho with
    | 0, ho =>
      obtain rfl := Option.some.inj ho
      exact wp_load_row 23 (.tmp 2) rfl w.heap.size (hf.2 2 (by kernel_rfl)) 23 _ (0, 0) _ (T0.on hb) Try.underlying23 rfl infoR ⟨rfl, Below.refl _ _⟩
    | 1, ho =>
      obtain rfl := Option.some.inj ho
      have e : a.tmps[10]?.getD undef = rect r c := get_of (hf.1 ⟨0, .data⟩ (by simp) rfl _ 10 rfl rfl (by decide) (by decide))
      exact wp_enter 10 #[rect r c] (rect r c) _ (by unfold execOp; go_simp) (to_rect r c w1) (fun w' h => ⟨rfl, h⟩)
    | 2, ho =>
      obtain rfl := Option.some.inj ho
      exact wp_load_row 23 (.tmp 3) rfl (w.heap.size + 1) (hf.2 3 (by kernel_rfl)) 23 _ (0, 0) _ (T1.on hb) Try.underlying23 rfl infoR ⟨rfl, Below.refl _ _⟩
    | 3, ho =>
      obtain rfl := Option.some.inj ho
      have e : a.tmps[12]?.getD undef = rect r2 c2 := get_of (hf.1 ⟨2, .data⟩ (by simp) rfl _ 12 rfl rfl (by decide) (by decide))
      exact wp_enter 10 #[rect r2 c2] (rect r2 c2) _ (by unfold execOp; go_simp) (to_rect r2 c2 w1) (fun w' h => ⟨rfl, h⟩)
    | 4, ho =>
      obtain rfl := Option.some.inj ho
      have e0 : a.tmps[11]?.getD undef = rect r c := get_of (hf.1 ⟨1, .data⟩ (by simp) rfl _ 11 rfl rfl (by decide) (by decide))
      have e1 : a.tmps[13]?.getD undef = rect r2 c2 := get_of (hf.1 ⟨3, .data⟩ (by simp) rfl _ 13 rfl rfl (by decide) (by decide))
      exact wp_enter 19 #[rect r c, rect r2 c2] (.tuple #[rect A B, .bool t]) _ (by unfold execOp; go_simp) (HS.out w1) (fun w' h => ⟨rfl, h⟩)
    | 5, ho =>
      obtain rfl := Option.some.inj ho
      have e : a.tmps[14]?.getD undef = .tuple #[rect A B, .bool t] := get_of (hf.1 ⟨4, .data⟩ (by simp) rfl _ 14 rfl rfl (by decide) (by decide))
      exact wp_value (.tuple #[rect A B, .bool t]) (by unfold execOp; go_simp) ⟨rfl, Below.refl _ _⟩
    | 6, ho =>
      obtain rfl := Option.some.inj ho
      have e : a.tmps[9]?.getD undef = .tuple #[rect A B, .bool t] := get_of (hf.1 ⟨5, .data⟩ (by simp) rfl _ 9 rfl rfl (by decide) (by decide))
      exact wp_value (rect A B) (by unfold execOp; go_simp) ⟨rfl, Below.refl _ _⟩
    | 7, ho =>
      obtain rfl := Option.some.inj ho
      have e : a.tmps[9]?.getD undef = .tuple #[rect A B, .bool t] := get_of (hf.1 ⟨5, .data⟩ (by simp) rfl _ 9 rfl rfl (by decide) (by decide))
      exact wp_value (.bool t) (by unfold execOp; go_simp) ⟨rfl, Below.refl _ _⟩
    | 8, ho => exact absurd rfl n1
    | 9, ho => exact absurd rfl n2
    | 10, ho =>
      obtain rfl := Option.some.inj ho
      have e : a.tmps[16]?.getD undef = .bool t := get_of (hf.1 ⟨7, .data⟩ (by simp) rfl _ 16 rfl rfl (by decide) (by decide))
      exact wp_value (.bool t) (by unfold execOp; go_simp) ⟨rfl, Below.refl _ _⟩
    | n + 11, ho => simp at ho
  case en =>
    intro b1 W1 hb hle hcell
    have T0 := T0.on hb
    have T1 := T1.on hb
    have HB1 := Lib.hid (rstep HB0.out hb)
    have C1 : Two W1 b1 25 A B := hcell
    clear hb hcell HB0
    simp only [fill, Act.put]
    go_simp
    go_wp2_with fail
    refine wp_region_one (fun | 0 => rect r c | 1 => rect r c | 2 => rect r2 c2 | 3 => rect r2 c2 | 4 => .tuple #[rect A B, .bool t] | 5 => .tuple #[rect A B, .bool t] | 6 => rect A B | 7 => .bool t | 10 => .bool t | _ => undef) 8 9 7 25 #[.int .i64 0, .int .i64 0] #[.int .i64 A, .int .i64 B] _ _
      (by kernel_rfl) (by kernel_rfl) rfl rfl rfl rfl rfl (by decide) ⟨_, List.mem_toArray.2 List.mem_cons_self, rfl, rfl⟩ rfl ?al2 ?st2 ?con2 ?en2
    case al2 =>
      intro a w
      unfold execOp
      go_simp
    case st2 =>
      intro a w1 b old hf hp hg hsz
      refine wp_store_row 25 (.tmp 7) (.tmp 23) rfl b #[.int .i64 A, .int .i64 B] hp ?_ 25 old hg infoI hsz (by simp [Value.oneCell']) ⟨rfl, rfl⟩
      exact hf.1 ⟨6, .data⟩ (by simp) rfl _ 23 rfl rfl (by decide) (by decide)
    case con2 =>
      intro i o ho n1 n2 a w1 hb hf
      match i, ho with
      | 0, ho =>
        obtain rfl := Option.some.inj ho
        exact wp_load_row 23 (.tmp 2) rfl w.heap.size (hf.2 2 (by kernel_rfl)) 23 _ (0, 0) _ (T0.on hb) Try.underlying23 rfl infoR ⟨rfl, Below.refl _ _⟩
      | 1, ho =>
        obtain rfl := Option.some.inj ho
        have e : a.tmps[18]?.getD undef = rect r c := get_of (hf.1 ⟨0, .data⟩ (by simp) rfl _ 18 rfl rfl (by decide) (by decide))
        exact wp_enter 10 #[rect r c] (rect r c) _ (by unfold execOp; go_simp) (to_rect r c w1) (fun w' h => ⟨rfl, h⟩)
      | 2, ho =>
        obtain rfl := Option.some.inj ho
        exact wp_load_row 23 (.tmp 3) rfl (w.heap.size + 1) (hf.2 3 (by kernel_rfl)) 23 _ (0, 0) _ (T1.on hb) Try.underlying23 rfl infoR ⟨rfl, Below.refl _ _⟩
      | 3, ho =>
        obtain rfl := Option.some.inj ho
        have e : a.tmps[20]?.getD undef = rect r2 c2 := get_of (hf.1 ⟨2, .data⟩ (by simp) rfl _ 20 rfl rfl (by decide) (by decide))
        exact wp_enter 10 #[rect r2 c2] (rect r2 c2) _ (by unfold execOp; go_simp) (to_rect r2 c2 w1) (fun w' h => ⟨rfl, h⟩)
      | 4, ho =>
        obtain rfl := Option.some.inj ho
        have e0 : a.tmps[19]?.getD undef = rect r c := get_of (hf.1 ⟨1, .data⟩ (by simp) rfl _ 19 rfl rfl (by decide) (by decide))
        have e1 : a.tmps[21]?.getD undef = rect r2 c2 := get_of (hf.1 ⟨3, .data⟩ (by simp) rfl _ 21 rfl rfl (by decide) (by decide))
        exact wp_enter 20 #[rect r c, rect r2 c2] (.tuple #[rect A B, .bool t]) _ (by unfold execOp; go_simp) (HI.out w1) (fun w' h => ⟨rfl, h⟩)
      | 5, ho =>
        obtain rfl := Option.some.inj ho
        have e : a.tmps[22]?.getD undef = .tuple #[rect A B, .bool t] := get_of (hf.1 ⟨4, .data⟩ (by simp) rfl _ 22 rfl rfl (by decide) (by decide))
        exact wp_value (.tuple #[rect A B, .bool t]) (by unfold execOp; go_simp) ⟨rfl, Below.refl _ _⟩
      | 6, ho =>
        obtain rfl := Option.some.inj ho
        have e : a.tmps[17]?.getD undef = .tuple #[rect A B, .bool t] := get_of (hf.1 ⟨5, .data⟩ (by simp) rfl _ 17 rfl rfl (by decide) (by decide))
        exact wp_value (rect A B) (by unfold execOp; go_simp) ⟨rfl, Below.refl _ _⟩
      | 7, ho =>
        obtain rfl := Option.some.inj ho
        have e : a.tmps[17]?.getD undef = .tuple #[rect A B, .bool t] := get_of (hf.1 ⟨5, .data⟩ (by simp) rfl _ 17 rfl rfl (by decide) (by decide))
        exact wp_value (.bool t) (by unfold execOp; go_simp) ⟨rfl, Below.refl _ _⟩
      | 8, ho => exact absurd rfl n1
      | 9, ho => exact absurd rfl n2
      | 10, ho =>
        obtain rfl := Option.some.inj ho
        have e : a.tmps[24]?.getD undef = .bool t := get_of (hf.1 ⟨7, .data⟩ (by simp) rfl _ 24 rfl rfl (by decide) (by decide))
        exact wp_value (.bool t) (by unfold execOp; go_simp) ⟨rfl, Below.refl _ _⟩
      | n + 11, ho => simp at ho
    case en2 =>
      intro b2 W2 hb hle2 hcell
      have HB2 := Lib.hid (rstep HB1.out hb)
      have k0 : W2.cell? ⟨b1, 0, none⟩ = some (.int .i64 A) := cell_of_row _ _ 0 _ _ _ (C1.on hb)
      have k1 : W2.cell? ⟨b1, 1, none⟩ = some (.int .i64 B) := cell_of_row _ _ 1 _ _ _ (C1.on hb)
      have j0 : W2.cell? ⟨b2, 0, none⟩ = some (.int .i64 A) := cell_of_row _ _ 0 _ _ _ hcell
      have j1 : W2.cell? ⟨b2, 1, none⟩ = some (.int .i64 B) := cell_of_row _ _ 1 _ _ _ hcell
      clear hb hcell HB1 T0 T1 C1
      simp only [fill, Act.put]
      go_simp
      go_wp2_with fail
      refine (eq_rect _ _ _).mono ?_
      rintro e w6 ⟨rfl, hb6⟩
      have HB6 := Lib.hid (rstep HB2.out hb6)
      clear hb6 HB2
      cases t
      all_goals
        go_wp2_with fail
        go_ret
        exact ⟨rfl, HB6.out⟩
end Go.Proofs.Ytojmohdfpoimaaa.fnExactMeetRects
