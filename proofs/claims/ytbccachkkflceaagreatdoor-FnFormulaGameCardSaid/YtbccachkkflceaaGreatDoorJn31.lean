/-
  Texts of one seat, joined: PlI, Valid.
-/
import Derived.Test.YtbccachkkflceaaGreatDoorJn1
import Derived.Test.YtbccachkkflceaaGreatDoorJn28
import Derived.Test.YtbccachkkflceaaGreatDoorJn30
import Derived.Test.YtbccachkkflceaaGreatDoorJn10
import Derived.Test.YtbccachkkflceaaGreatDoorJn8
import Derived.Lib.Strings
/-
  The program's letter that parts a rectangle, and whether a protocol plays.
-/
namespace Go.Proofs.YtbccachkkflceaaGreatDoor.PlI
open Go.RowKit Go.Shelf Go.Proofs.YtbccachkkflceaaGreatDoor.Plain Go.Proofs.YtbccachkkflceaaGreatDoor.Pat Go.Proofs.YtbccachkkflceaaGreatDoor.Tree Go.Proofs.YtbccachkkflceaaGreatDoor.TrimT Go.Proofs.YtbccachkkflceaaGreatDoor.Leaf Go.Proofs.YtbccachkkflceaaGreatDoor.PlM Go.Proofs.YtbccachkkflceaaGreatDoor.Rect Go.Proofs.YtbccachkkflceaaGreatDoor.App
open Go.Proofs.YtbccachkkflceaaGreatDoor.Fm (F val)
open Go.Proofs.YtbccachkkflceaaGreatDoor.FmRead (litV)
open Go.Proofs.YtbccachkkflceaaGreatDoor.FmMeth (TruC lit_tru cells2)
open Go.Proofs.YtbccachkkflceaaGreatDoor.LeavesI (LeavesC leaves_to)
set_option linter.unusedVariables false
set_option linter.unusedSimpArgs false

theorem info_let (a b : Int) : (Tryz.prog.info? 64).map (·.size) = some (#[.int .i64 a, .int .i64 b] : Array Value).size := by kernel_rfl
theorem one_let (a b : Int) : (#[.int .i64 a, .int .i64 b] : Array Value).all (·.oneCell') = true := by simp [Value.oneCell']
theorem setRow_at' {w : World} {B : Nat} {cs cs' : Array Value} {T : TypeId} (h : w.heap[B]? = some (.cells cs T (0, 0))) : (w.setRow B cs').heap[B]? = some (.cells cs' T (0, 0)) := by
  simp [World.setRow, Array.getElem?_modify, h]
theorem setRow_below' {b : Nat} {w w1 : World} {B : Nat} (h : Below b w w1) (hB : b ≤ B) (cs : Array Value) : Below b w (w1.setRow B cs) :=
  h.trans ⟨rfl, rfl, rfl, by simp [World.setRow], fun k hk => by simp only [World.setRow, Array.getElem?_modify]; rw [if_neg (by omega)]⟩
/-- what is answered -/
def partV (k R C : Nat) : Value := match partL k R C with
  | some v => .tuple #[litV (k : Int) v, .bool true]
  | none => .tuple #[.agg #[.int .i64 0, .int .i64 0], .bool false]
/-- the rectangle's block, and the result's -/
structure Pb (w wr : World) (X : Nat) (R C : Nat) : Prop where
  rect : wr.heap[X]? = some (.cells #[.int .i64 (R : Int), .int .i64 (C : Int)] 51 (0, 0))
  res : wr.heap[X + 1]? = some (.cells #[.int .i64 0, .int .i64 0] 64 (0, 0))
  below : Below w.heap.size w wr
theorem Pb.later {w wr w2 : World} {X R C : Nat} (h : Pb w wr X R C) (hb : Below wr.heap.size wr w2) : Pb w w2 X R C :=
  ⟨(hb.block _ (Array.getElem?_eq_some_iff.1 h.rect).1).trans h.rect, (hb.block _ (Array.getElem?_eq_some_iff.1 h.res).1).trans h.res, h.below.trans (hb.mono h.below.size)⟩

set_option maxHeartbeats 8000000 in
set_option maxRecDepth 100000 in
theorem parting (k R C : Nat) (hk : k < 3) (hR : R < 256) (hC : C < 256) (w : World) :
    Calls Tryz.prog 55 #[.int .i64 (k : Int), rect R C] w fun e w' => e = .returned (partV k R C) ∧ Below w.heap.size w w' := by
  have HT := Lib.hid (fun v => lit_tru k v hk)
  have HB0 := Lib.hid (show bits .andNot .i64 (R : Int) (truN k false : Int) = (minusN R (truN k false) : Int) ∧ bits .and .i64 (C : Int) (truN k false : Int) = (meetN C (truN k false) : Int) from ⟨bit_minus _ _ hR, bit_and _ _ hC⟩)
  have HB1 := Lib.hid (show bits .andNot .i64 (R : Int) (truN k true : Int) = (minusN R (truN k true) : Int) ∧ bits .and .i64 (C : Int) (truN k true : Int) = (meetN C (truN k true) : Int) from ⟨bit_minus _ _ hR, bit_and _ _ hC⟩)
  have HP : Hid (partV k R C = if minusN R (truN k false) = 0 ∧ meetN C (truN k false) = 0 then .tuple #[litV (k : Int) false, .bool true] else if minusN R (truN k true) = 0 ∧ meetN C (truN k true) = 0 then .tuple #[litV (k : Int) true, .bool true] else .tuple #[.agg #[.int .i64 0, .int .i64 0], .bool false]) := by
    show _ = _
    unfold partV partL
    by_cases h1 : partB k false R C
    · rw [if_pos h1, if_pos (show _ ∧ _ from h1)]
    · rw [if_neg h1, if_neg (show ¬ (_ ∧ _) from h1)]
      by_cases h2 : partB k true R C
      · rw [if_pos h2, if_pos (show _ ∧ _ from h2)]
      · rw [if_neg h2, if_neg (show ¬ (_ ∧ _) from h2)]
  obtain ⟨res, hres⟩ : ∃ res, partV k R C = res := ⟨_, rfl⟩
  rw [hres] at HP ⊢
  clear hres
  have HT0 : Hid (∀ W : World, Calls Tryz.prog 91 #[.agg #[.int .i64 (k : Int), .int .i64 0]] W fun e w' => e = .returned (.int .i64 (truN k false : Int)) ∧ Below W.heap.size W w') := fun W => HT.out false W
  have HT1 : Hid (∀ W : World, Calls Tryz.prog 91 #[.agg #[.int .i64 (k : Int), .int .i64 1]] W fun e w' => e = .returned (.int .i64 (truN k true : Int)) ∧ Below W.heap.size W w') := fun W => HT.out true W
  clear HT hR hC hk
  generalize minusN R (truN k false) = m0 at *
  generalize meetN C (truN k false) = n0 at *
  generalize minusN R (truN k true) = m1 at *
  generalize meetN C (truN k true) = n1 at *
  generalize truN k false = T0 at *
  generalize truN k true = T1 at *
  obtain ⟨X, hX⟩ : ∃ X, w.heap.size = X := ⟨_, rfl⟩
  obtain ⟨W2, hW2⟩ : ∃ W2, (w.alloc (.cells #[.int .i64 (R : Int), .int .i64 (C : Int)] 51)).alloc (.cells #[.int .i64 0, .int .i64 0] 64) = W2 := ⟨_, rfl⟩
  have hpb : Pb w W2 X R C := by
    rw [← hW2, ← hX]
    refine ⟨?_, ?_, ((Below.refl w.heap.size w).alloc (Nat.le_refl _) _).alloc (by simp) _⟩
    · rw [Below.heap_alloc _ _ _ (by simp)]; exact heap_alloc_new w _
    · have h := heap_alloc_new (w.alloc (.cells #[.int .i64 (R : Int), .int .i64 (C : Int)] 51)) (.cells #[.int .i64 0, .int .i64 0] 64)
      rw [World.size_alloc] at h
      exact h
  have HPB := Lib.hid hpb
  have HXX : Hid (w.heap.size ≤ X + 1) := by show _ ≤ _; omega
  go_enter Tryz.func55, Tryz.ntmps55
  go_wp2_with fail
  try rw [hW2]
  try rw [hX]
  clear hpb hW2 hX
  go_loopw [9] (fun j wr => ∃ (q : Nat), (q = 0 ∨ (q = 1 ∧ ¬ (m0 = 0 ∧ n0 = 0)) ∨ (q = 2 ∧ ¬ (m0 = 0 ∧ n0 = 0) ∧ ¬ (m1 = 0 ∧ n1 = 0))) ∧ j = .int .i64 (q : Int) ∧ Hid (Pb w wr X R C)) (fun j _ => 2 - (intOf j).toNat)
  case atStart => exact ⟨0, .inl rfl, rfl, HPB⟩
  case round =>
    obtain ⟨q, hq, rfl, HQ⟩ := hrel
    rcases hq with rfl | ⟨rfl, hq0⟩ | ⟨rfl, hq0, hq1⟩
    · obtain ⟨hb1, hb2⟩ := HB0.out
      have HW1 := Lib.hid (show Below wr.heap.size wr (wr.alloc (.cells #[.int .i64 (k : Int), .int .i64 0] 64)) from (Below.refl _ _).alloc (Nat.le_refl _) _)
      obtain ⟨Y, hY⟩ : ∃ Y, wr.heap.size = Y := ⟨_, rfl⟩
      have HYR : Hid ((wr.alloc (.cells #[.int .i64 (k : Int), .int .i64 0] 64)).heap[Y]? = some (.cells #[.int .i64 (k : Int), .int .i64 0] 64 (0, 0))) := by show _ = _; rw [← hY]; exact heap_alloc_new wr _
      go_wp2_with fail
      try rw [hY]
      obtain ⟨wa, hwa⟩ : ∃ wa, wr.alloc (.cells #[.int .i64 (k : Int), .int .i64 0] 64) = wa := ⟨_, rfl⟩
      rw [hwa] at HW1 HYR
      try rw [hwa]
      refine (HT0.out _).mono ?_
      rintro e w3 ⟨rfl, hb3⟩
      have HQ3 : Hid (Pb w w3 X R C) := (HQ.out.later HW1.out).later hb3
      have HY3 : Hid (w3.heap[Y]? = some (.cells #[.int .i64 (k : Int), .int .i64 0] 64 (0, 0))) := (hb3.block _ (Array.getElem?_eq_some_iff.1 HYR.out).1).trans HYR.out
      clear hb3 HW1 HYR hwa hY
      obtain ⟨c0, c1⟩ := cells2 HQ3.out.rect
      by_cases g0 : m0 = 0
      · have g0i : (((m0 : Nat) : Int) == 0) = true := by rw [g0]; rfl
        by_cases g1 : n0 = 0
        · have g1i : (((n0 : Nat) : Int) == 0) = true := by rw [g1]; rfl
          have HR : Hid (res = .tuple #[.agg #[.int .i64 (k : Int), .int .i64 0], .bool true]) := by rw [HP.out, if_pos ⟨g0, g1⟩]; rfl
          clear HP g0 g1 HB0 HB1 HT0 HT1
          have HRes : Hid ((w3.setRow (X + 1) #[.int .i64 (k : Int), .int .i64 0]).heap[X + 1]? = some (.cells #[.int .i64 (k : Int), .int .i64 0] 64 (0, 0))) := setRow_at' HQ3.out.res
          have HBl : Hid (Below w.heap.size w (w3.setRow (X + 1) #[.int .i64 (k : Int), .int .i64 0])) := setRow_below' HQ3.out.below HXX.out _
          go_wp2_with (first | (have Z := HY3.out; refine wpList_load_row rfl 64 (.tmp 7) rfl Y rfl 64 _ (0, 0) _ Z Tryz.underlying64 rfl (info_let _ _) ?_; clear Z) | (have Z := HQ3.out.res; refine wpList_store_row rfl 64 (.tmp 4) (.tmp 29) rfl (X + 1) _ rfl rfl 64 _ Z (info_let _ _) rfl (one_let _ _) ?_; clear Z))
          generalize w3.setRow (X + 1) #[.int .i64 (k : Int), .int .i64 0] = w4 at *
          obtain ⟨d0, d1⟩ := cells2 HRes.out
          refine bodyPost_ret (v := .tuple #[.agg #[.int .i64 (k : Int), .int .i64 0], .bool true]) (by simp [results, Tryz.results55, go_sem, d0, d1]) rfl ⟨by rw [HR.out], HBl.out⟩
        · have g1i : (((n0 : Nat) : Int) == 0) = false := beq_false_of_ne (by omega)
          have GN : ¬ (m0 = 0 ∧ n0 = 0) := fun h => g1 h.2
          clear g0 g1 HP HT0 HT1 HB0 HB1
          go_wp2_with fail
          go_roundw
          case rel => exact ⟨1, .inr (.inl ⟨rfl, GN⟩), rfl, HQ3⟩
          case measure => simp [intOf]
      · have g0i : (((m0 : Nat) : Int) == 0) = false := beq_false_of_ne (by omega)
        have GN : ¬ (m0 = 0 ∧ n0 = 0) := fun h => g0 h.1
        clear g0 HP HT0 HT1 HB0 HB1
        go_wp2_with fail
        go_roundw
        case rel => exact ⟨1, .inr (.inl ⟨rfl, GN⟩), rfl, HQ3⟩
        case measure => simp [intOf]
    · obtain ⟨hb1, hb2⟩ := HB1.out
      have HW1 := Lib.hid (show Below wr.heap.size wr (wr.alloc (.cells #[.int .i64 (k : Int), .int .i64 1] 64)) from (Below.refl _ _).alloc (Nat.le_refl _) _)
      obtain ⟨Y, hY⟩ : ∃ Y, wr.heap.size = Y := ⟨_, rfl⟩
      have HYR : Hid ((wr.alloc (.cells #[.int .i64 (k : Int), .int .i64 1] 64)).heap[Y]? = some (.cells #[.int .i64 (k : Int), .int .i64 1] 64 (0, 0))) := by show _ = _; rw [← hY]; exact heap_alloc_new wr _
      go_wp2_with fail
      try rw [hY]
      obtain ⟨wa, hwa⟩ : ∃ wa, wr.alloc (.cells #[.int .i64 (k : Int), .int .i64 1] 64) = wa := ⟨_, rfl⟩
      rw [hwa] at HW1 HYR
      try rw [hwa]
      refine (HT1.out _).mono ?_
      rintro e w3 ⟨rfl, hb3⟩
      have HQ3 : Hid (Pb w w3 X R C) := (HQ.out.later HW1.out).later hb3
      have HY3 : Hid (w3.heap[Y]? = some (.cells #[.int .i64 (k : Int), .int .i64 1] 64 (0, 0))) := (hb3.block _ (Array.getElem?_eq_some_iff.1 HYR.out).1).trans HYR.out
      clear hb3 HW1 HYR hwa hY
      obtain ⟨c0, c1⟩ := cells2 HQ3.out.rect
      by_cases g0 : m1 = 0
      · have g0i : (((m1 : Nat) : Int) == 0) = true := by rw [g0]; rfl
        by_cases g1 : n1 = 0
        · have g1i : (((n1 : Nat) : Int) == 0) = true := by rw [g1]; rfl
          have HR : Hid (res = .tuple #[.agg #[.int .i64 (k : Int), .int .i64 1], .bool true]) := by rw [HP.out, if_neg hq0, if_pos ⟨g0, g1⟩]; rfl
          clear HP g0 g1 HB0 HB1 HT0 HT1
          have HRes : Hid ((w3.setRow (X + 1) #[.int .i64 (k : Int), .int .i64 1]).heap[X + 1]? = some (.cells #[.int .i64 (k : Int), .int .i64 1] 64 (0, 0))) := setRow_at' HQ3.out.res
          have HBl : Hid (Below w.heap.size w (w3.setRow (X + 1) #[.int .i64 (k : Int), .int .i64 1])) := setRow_below' HQ3.out.below HXX.out _
          go_wp2_with (first | (have Z := HY3.out; refine wpList_load_row rfl 64 (.tmp 7) rfl Y rfl 64 _ (0, 0) _ Z Tryz.underlying64 rfl (info_let _ _) ?_; clear Z) | (have Z := HQ3.out.res; refine wpList_store_row rfl 64 (.tmp 4) (.tmp 29) rfl (X + 1) _ rfl rfl 64 _ Z (info_let _ _) rfl (one_let _ _) ?_; clear Z))
          generalize w3.setRow (X + 1) #[.int .i64 (k : Int), .int .i64 1] = w4 at *
          obtain ⟨d0, d1⟩ := cells2 HRes.out
          refine bodyPost_ret (v := .tuple #[.agg #[.int .i64 (k : Int), .int .i64 1], .bool true]) (by simp [results, Tryz.results55, go_sem, d0, d1]) rfl ⟨by rw [HR.out], HBl.out⟩
        · have g1i : (((n1 : Nat) : Int) == 0) = false := beq_false_of_ne (by omega)
          have GN : ¬ (m1 = 0 ∧ n1 = 0) := fun h => g1 h.2
          clear g0 g1 HP HT0 HT1 HB0 HB1
          go_wp2_with fail
          go_roundw
          case rel => exact ⟨2, .inr (.inr ⟨rfl, hq0, GN⟩), rfl, HQ3⟩
          case measure => simp [intOf]
      · have g0i : (((m1 : Nat) : Int) == 0) = false := beq_false_of_ne (by omega)
        have GN : ¬ (m1 = 0 ∧ n1 = 0) := fun h => g0 h.1
        clear g0 HP HT0 HT1 HB0 HB1
        go_wp2_with fail
        go_roundw
        case rel => exact ⟨2, .inr (.inr ⟨rfl, hq0, GN⟩), rfl, HQ3⟩
        case measure => simp [intOf]
    · have HR : Hid (res = .tuple #[.agg #[.int .i64 0, .int .i64 0], .bool false]) := by rw [HP.out, if_neg hq0, if_neg hq1]; rfl
      have HRes : Hid ((wr.setRow (X + 1) #[.int .i64 0, .int .i64 0]).heap[X + 1]? = some (.cells #[.int .i64 0, .int .i64 0] 64 (0, 0))) := setRow_at' HQ.out.res
      have HBl : Hid (Below w.heap.size w (wr.setRow (X + 1) #[.int .i64 0, .int .i64 0])) := setRow_below' HQ.out.below HXX.out _
      clear HP hq0 hq1 HB0 HB1 HT0 HT1
      go_wp2_with (have Z := HQ.out.res; refine wpList_store_row rfl 64 (.tmp 4) (.tmp 31) rfl (X + 1) _ rfl rfl 64 _ Z (info_let _ _) rfl (one_let _ _) ?_; clear Z)
      generalize wr.setRow (X + 1) #[.int .i64 0, .int .i64 0] = w4 at *
      obtain ⟨d0, d1⟩ := cells2 HRes.out
      refine bodyPost_ret (v := .tuple #[.agg #[.int .i64 0, .int .i64 0], .bool false]) (by simp [results, Tryz.results55, go_sem, d0, d1]) rfl ⟨by rw [HR.out], HBl.out⟩


/-- the leaves' cells -/
theorem leaf_cell (l : List (Nat × Nat × V3)) (j : Nat) (hj : j < l.length) : (cellsL l)[j * 3]? = some (.int .i64 (l[j].1 : Int)) ∧ (cellsL l)[j * 3 + 1]? = some (.int .i64 (l[j].2.1 : Int)) ∧ (cellsL l)[j * 3 + 2]? = some (.int .i64 (gI l[j].2.2)) := by
  induction l generalizing j with
  | nil => simp at hj
  | cons p l ih =>
    have e : cellsL (p :: l) = .int .i64 (p.1 : Int) :: .int .i64 (p.2.1 : Int) :: .int .i64 (gI p.2.2) :: cellsL l := by simp [cellsL]
    rw [e]
    cases j with
    | zero => exact ⟨rfl, rfl, rfl⟩
    | succ j =>
      obtain ⟨h1, h2, h3⟩ := ih j (by simpa using hj)
      rw [show (j + 1) * 3 = j * 3 + 1 + 1 + 1 by omega]
      simp only [List.getElem?_cons_succ, List.getElem_cons_succ]
      exact ⟨h1, h2, h3⟩
theorem partV_form (k R C : Nat) : ∃ (L1 L2 : Int) (ok : Bool), partV k R C = .tuple #[.agg #[.int .i64 L1, .int .i64 L2], .bool ok] ∧ ok = (partL k R C).isSome := by
  unfold partV
  cases partL k R C with
  | none => exact ⟨0, 0, false, rfl, rfl⟩
  | some v => exact ⟨(k : Int), bitI v, true, rfl, rfl⟩
theorem leaves_lt : ∀ (t : T) (R C : Nat), R < 256 → C < 256 → ∀ p ∈ leavesT t R C, p.1 < 256 ∧ p.2.1 < 256
  | .leaf b, R, C, hR, hC, p, hp => by
    simp only [leavesT] at hp
    split at hp
    · cases hp
    · simp only [List.mem_singleton] at hp
      subst hp
      exact ⟨hR, hC⟩
  | .say a s z o, R, C, hR, hC, p, hp => by
    obtain ⟨h1, h2, h3, h4⟩ := parts_lt a s hR hC
    simp only [leavesT, List.mem_append] at hp
    rcases hp with hp | hp
    · exact leaves_lt z _ _ h1 h2 p hp
    · exact leaves_lt o _ _ h3 h4 p hp
theorem cells3 {w : World} {b : Nat} {c0 c1 c2 : Value} {ty : TypeId} (h : w.heap[b]? = some (.cells #[c0, c1, c2] ty (0, 0))) : w.cell? ⟨b, 0, none⟩ = some c0 ∧ w.cell? ⟨b, 1, none⟩ = some c1 ∧ w.cell? ⟨b, 2, none⟩ = some c2 :=
  ⟨cell_of_row _ _ 0 _ _ _ h, cell_of_row _ _ 1 _ _ _ h, cell_of_row _ _ 2 _ _ _ h⟩

set_option maxHeartbeats 8000000 in
set_option maxRecDepth 100000 in
theorem plays_w (t : T) (hl : (text t).length ≤ 2000) (R C : Nat) (hR : R < 256) (hC : C < 256) (w : World) :
    Calls Tryz.prog 30 #[Read.tree t, rect R C] w fun e w' => e = .returned (.bool (playB t R C)) ∧ Below w.heap.size w w' := by
  have hN := leaves_to t hl
  have hll := leaves_length t R C
  have hlt := leaves_lt t R C hR hC
  have hcl := cellsL_length (leavesT t R C)
  have hcells := leaf_cell (leavesT t R C)
  have hpb : playB t R C = (leavesT t R C).all fun p => (partL (gN p.2.2) p.1 p.2.1).isSome := rfl
  rw [hpb]
  clear hpb
  unfold LeavesC Go.Proofs.YtbccachkkflceaaGreatDoor.Count.Node at hN
  have hb0 := (Below.refl w.heap.size w).alloc (Nat.le_refl _) (.cells #[.int .i64 (R : Int), .int .i64 (C : Int)] 51)
  have HB0 := Lib.hid hb0
  have hrow := heap_alloc_new w (.cells #[.int .i64 (R : Int), .int .i64 (C : Int)] 51)
  have c0 := cell_of_row _ _ 0 _ _ _ hrow
  have c1 := cell_of_row _ _ 1 _ _ _ hrow
  clear hb0 hrow
  rcases hN with ⟨V, ev, hv⟩ | ⟨V, ev, hv⟩
  all_goals
    have HC := Lib.hid (fun W => hv R C W hR hC)
    rw [ev]
    clear hv ev
    generalize leavesT t R C = LA at *
    have hla : LA.length ≤ 2000 := Nat.le_trans hll hl
    go_enter Tryz.func30, Tryz.ntmps30
    go_wp2_with fail
    refine (HC.out _).mono ?_
    rintro e w2 ⟨v, rfl, hO⟩
    have HB2 : Hid (Below w.heap.size w w2) := HB0.out.trans (hO.below.mono HB0.out.size)
    obtain ⟨p, cc, rfl⟩ := hO.slice
    have HCE : Hid (∀ k (hk : k < LA.length), ∃ g, p = some ⟨g, 0, none⟩ ∧ ∀ wx : World, Below w2.heap.size w2 wx → wx.cell? ⟨g, k * 3, none⟩ = some (.int .i64 (LA[k].1 : Int)) ∧ wx.cell? ⟨g, k * 3 + 1, none⟩ = some (.int .i64 (LA[k].2.1 : Int)) ∧ wx.cell? ⟨g, k * 3 + 2, none⟩ = some (.int .i64 (gI LA[k].2.2))) := by
      intro k hk
      obtain ⟨g, hp, hgl, hg, h0⟩ := hO.cell (k * 3) (by omega)
      obtain ⟨g1, hp1, _, _, h1⟩ := hO.cell (k * 3 + 1) (by omega)
      obtain ⟨g2, hp2, _, _, h2⟩ := hO.cell (k * 3 + 2) (by omega)
      rw [hp] at hp1 hp2
      simp only [Option.some.injEq, Addr.mk.injEq, and_true] at hp1 hp2
      subst hp1 hp2
      obtain ⟨x0, x1, x2⟩ := hcells k hk
      exact ⟨g, hp, fun wx hb => ⟨(hb.cell (p := ⟨g, k * 3, none⟩) hg).trans (by rw [h0, x0]), (hb.cell (p := ⟨g, k * 3 + 1, none⟩) hg).trans (by rw [h1, x1]), (hb.cell (p := ⟨g, k * 3 + 2, none⟩) hg).trans (by rw [h2, x2])⟩⟩
    have HLT := Lib.hid hlt
    clear hO hcells hcl hlt hll c0 c1 HB0 HC
    go_wp2_with fail
    go_loopw [13] (fun i wr => ∃ k : Nat, k ≤ LA.length ∧ i = .int .i64 (k : Int) ∧ Hid (((LA.take k).all fun p => (partL (gN p.2.2) p.1 p.2.1).isSome) = true) ∧ Hid (Below w2.heap.size w2 wr)) (fun i _ => LA.length - (intOf i).toNat)
    case atStart => exact ⟨0, Nat.zero_le _, rfl, rfl, Below.refl _ _⟩
    case round =>
      obtain ⟨k, hk, rfl, HA, HB⟩ := hrel
      by_cases hlt : k < LA.length
      · obtain ⟨g, hp, hcl⟩ := HCE.out k hlt
        subst hp
        obtain ⟨x0, x1, x2⟩ := hcl wr HB.out
        have HT : Hid (LA.take (k + 1) = LA.take k ++ [LA[k]]) := List.take_succ_eq_append_getElem hlt
        have hlts := HLT.out LA[k] (List.getElem_mem hlt)
        have HPA := Lib.hid (parting (gN LA[k].2.2) LA[k].1 LA[k].2.1 (gN_lt _) hlts.1 hlts.2)
        obtain ⟨o, ho⟩ : ∃ o, partL (gN LA[k].2.2) LA[k].1 LA[k].2.1 = o := ⟨_, rfl⟩
        obtain ⟨L1, L2, ok, hpv, hok⟩ := partV_form (gN LA[k].2.2) LA[k].1 LA[k].2.1
        rw [ho] at hok
        rw [hpv] at HPA
        have hal : LA.all (fun p => (partL (gN p.2.2) p.1 p.2.1).isSome) = true → o.isSome = true := fun h => by
          have := List.all_eq_true.1 h LA[k] (List.getElem_mem hlt)
          rw [ho] at this
          exact this
        have HAL := Lib.hid hal
        have HNX : Hid (o.isSome = true → ((LA.take (k + 1)).all fun p => (partL (gN p.2.2) p.1 p.2.1).isSome) = true) := fun h => by
          rw [HT.out, List.all_append, HA.out]
          simp only [List.all_cons, List.all_nil, Bool.and_true, Bool.true_and]
          rw [ho]
          exact h
        clear ho hlts HT hcl hal HA hpv
        have hgi : gI LA[k].2.2 = (gN LA[k].2.2 : Int) := rfl
        rw [hgi] at x2
        generalize gN LA[k].2.2 = kk at *
        generalize LA[k].1 = R1 at *
        generalize LA[k].2.1 = C1 at *
        clear hgi
        have hbl := (Below.refl wr.heap.size wr).alloc (Nat.le_refl _) (.cells #[.int .i64 (R1 : Int), .int .i64 (C1 : Int), .int .i64 (kk : Int)] 91)
        have hrow := heap_alloc_new wr (.cells #[.int .i64 (R1 : Int), .int .i64 (C1 : Int), .int .i64 (kk : Int)] 91)
        obtain ⟨y0, y1, y2⟩ := cells3 hrow
        have HBL := Lib.hid hbl
        clear hbl hrow
        go_wp2_with fail
        refine (HPA.out _).mono ?_
        rintro e w3 ⟨rfl, hb3⟩
        have HB3 : Hid (Below w2.heap.size w2 w3) := by
          have h1 := HB.out.trans (HBL.out.mono HB.out.size)
          exact h1.trans (hb3.mono h1.size)
        have HB4 := Lib.hid (HB3.out.alloc HB3.out.size (.cells #[.int .i64 L1, .int .i64 L2] 64))
        clear hb3 HBL HPA y0 y1 y2
        cases ok
        · have HF : Hid ((LA.all fun p => (partL (gN p.2.2) p.1 p.2.1).isSome) = false) := by
            show _ = _
            cases h : LA.all fun p => (partL (gN p.2.2) p.1 p.2.1).isSome with
            | false => rfl
            | true => exact absurd (HAL.out h) (by rw [← hok]; decide)
          have HBE : Hid (Below w.heap.size w (w3.alloc (.cells #[.int .i64 L1, .int .i64 L2] 64))) := HB2.out.trans (HB4.out.mono HB2.out.size)
          clear hok HAL HNX HB4
          go_wp2_with fail
          go_ret
          exact ⟨by rw [HF.out]; rfl, HBE.out⟩
        · have HN1 := Lib.hid (HNX.out hok.symm)
          clear hok HAL HNX
          go_wp2_with fail
          go_roundw
          case rel => exact ⟨k + 1, by omega, by go_num, HN1, HB4⟩
          case measure => simp [intOf]; omega
      · obtain rfl : k = LA.length := by omega
        have HF : Hid ((LA.all fun p => (partL (gN p.2.2) p.1 p.2.1).isSome) = true) := by
          have h := HA.out
          rwa [List.take_length] at h
        have HBE : Hid (Below w.heap.size w wr) := HB2.out.trans (HB.out.mono HB2.out.size)
        clear HA HB
        go_wp2_with fail
        go_ret
        exact ⟨by rw [HF.out]; rfl, HBE.out⟩
end Go.Proofs.YtbccachkkflceaaGreatDoor.PlI

/-
  When a matrix is valid: the contracts of spec.l1Bits, spec.MatrixValid, impl.MatrixValid.
-/
namespace Go.Proofs.YtbccachkkflceaaGreatDoor.Valid
open Go.RowKit Go.Proofs.YtbccachkkflceaaGreatDoor.Plain Go.Proofs.YtbccachkkflceaaGreatDoor.Base
set_option linter.unusedVariables false

/-- a byte that is a digit of a matrix -/
def isBit (b : UInt8) : Bool := b == 48 || b == 49
/-- all bytes are digits -/
def okB (s : ByteArray) : Bool := s.data.toList.all isBit

theorem okB_true {s : ByteArray} (h : ∀ j (hj : j < s.size), isBit s[j] = true) : okB s = true := by
  unfold okB
  rw [List.all_eq_true]
  intro b hb
  obtain ⟨j, hj, rfl⟩ := List.getElem_of_mem hb
  exact h j (by simpa using hj)
theorem okB_false {s : ByteArray} (k : Nat) (hk : k < s.size) (h : isBit s[k] = false) : okB s = false := by
  unfold okB
  rw [List.all_eq_false]
  exact ⟨s[k], by simp [ByteArray.getElem_eq_getElem_data], by simp [h]⟩
theorem bit_of {b : UInt8} (h : b.toNat = 48 ∨ b.toNat = 49) : isBit b = true := by
  unfold isBit
  rcases h with h | h
  · rw [show b = 48 from UInt8.toNat_inj.1 h]; rfl
  · rw [show b = 49 from UInt8.toNat_inj.1 h]; rfl
theorem bit_not {b : UInt8} (h1 : b.toNat ≠ 48) (h2 : b.toNat ≠ 49) : isBit b = false := by
  unfold isBit
  rw [Bool.or_eq_false_iff]
  exact ⟨beq_eq_false_iff_ne.2 fun e => h1 (by rw [e]; rfl), beq_eq_false_iff_ne.2 fun e => h2 (by rw [e]; rfl)⟩

set_option maxHeartbeats 1000000 in
theorem bits_any (s : ByteArray) (hs : s.size ≤ maxLen) (n : Int) (w : World) :
    Calls Tryz.prog 98 #[.string s, .int .i64 n] w fun e w' => e = .returned (.bool (okB s && ((s.size : Int) == n))) ∧ w = w' := by
  unfold maxLen at hs
  go_enter Tryz.func98, Tryz.ntmps98
  go_wp2_with fail
  go_loop [5] (fun i => ∃ k : Nat, k ≤ s.size ∧ i = .int .i64 (k : Int) ∧ Hid (∀ j (hj : j < s.size), j < k → isBit s[j] = true)) (fun i => s.size - (intOf i).toNat)
  case atStart => exact ⟨0, Nat.zero_le _, rfl, fun j _ h => absurd h (by omega)⟩
  case round =>
    obtain ⟨k, hk, rfl, hall⟩ := hrel
    by_cases hlt : k < s.size
    · by_cases h48 : s[k].toNat = 48
      · have hb1 : ((s[k].toNat : Int) != 48) = false := by rw [h48]; rfl
        have H := Lib.hid h48
        clear h48
        go_wp2_with fail
        go_round
        case rel => exact ⟨k + 1, by omega, by go_num, fun j hj hjk => by
          by_cases e : j = k
          · subst e; exact bit_of (.inl H.out)
          · exact hall.out j hj (by omega)⟩
        case measure => simp [intOf]; omega
      · have hb1 : ((s[k].toNat : Int) != 48) = true := by rw [bne_iff_ne]; omega
        by_cases h49 : s[k].toNat = 49
        · have hb2 : ((s[k].toNat : Int) != 49) = false := by rw [h49]; rfl
          have H := Lib.hid h49
          clear h48 h49
          go_wp2_with fail
          go_round
          case rel => exact ⟨k + 1, by omega, by go_num, fun j hj hjk => by
            by_cases e : j = k
            · subst e; exact bit_of (.inr H.out)
            · exact hall.out j hj (by omega)⟩
          case measure => simp [intOf]; omega
        · have hb2 : ((s[k].toNat : Int) != 49) = true := by rw [bne_iff_ne]; omega
          have HF := Lib.hid (okB_false k hlt (bit_not h48 h49))
          clear h48 h49
          go_wp2_with fail
          go_ret
          exact ⟨by rw [HF.out]; rfl, rfl⟩
    · obtain rfl : k = s.size := by omega
      have HT := Lib.hid (okB_true fun j hj => hall.out j hj hj)
      go_wp2_with fail
      go_ret
      exact ⟨by rw [HT.out]; rfl, rfl⟩

/-- when the reference calls a matrix valid -/
def validB (r c : Int) (s : ByteArray) : Bool := decide (1 ≤ r ∧ r ≤ 8 ∧ 1 ≤ c ∧ c ≤ 8) && (okB s && ((s.size : Int) == r * c))
theorem validB_r {r c : Int} {s : ByteArray} (h : r < 1 ∨ 8 < r) : validB r c s = false := by
  unfold validB; rw [show decide (1 ≤ r ∧ r ≤ 8 ∧ 1 ≤ c ∧ c ≤ 8) = false from decide_eq_false (by omega)]; rfl
theorem validB_c {r c : Int} {s : ByteArray} (h : c < 1 ∨ 8 < c) : validB r c s = false := by
  unfold validB; rw [show decide (1 ≤ r ∧ r ≤ 8 ∧ 1 ≤ c ∧ c ≤ 8) = false from decide_eq_false (by omega)]; rfl
theorem validB_in {r c : Int} {s : ByteArray} (h1 : 1 ≤ r) (h2 : r ≤ 8) (h3 : 1 ≤ c) (h4 : c ≤ 8) : validB r c s = (okB s && ((s.size : Int) == r * c)) := by
  unfold validB; rw [decide_eq_true ⟨h1, h2, h3, h4⟩]; rfl
theorem wrap_prodI (r c : Int) (h1 : 1 ≤ r) (h2 : r ≤ 8) (h3 : 1 ≤ c) (h4 : c ≤ 8) : wrap64 (r * c) = r * c ∧ 1 ≤ r * c ∧ r * c ≤ 64 := by
  obtain ⟨a, rfl⟩ := Int.eq_ofNat_of_zero_le (show 0 ≤ r by omega)
  obtain ⟨b, rfl⟩ := Int.eq_ofNat_of_zero_le (show 0 ≤ c by omega)
  have h := wrap_prod a b (by omega) (by omega)
  have h5 := prod_le (r := a) (c := b) (by omega) (by omega)
  have h6 : 1 ≤ a * b := Nat.mul_le_mul (show 1 ≤ a by omega) (show 1 ≤ b by omega)
  rw [h, Int.natCast_mul]
  rw [← Int.natCast_mul]
  omega

end Go.Proofs.YtbccachkkflceaaGreatDoor.Valid

