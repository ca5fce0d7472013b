/-
  Texts of one seat, joined: TnM, BalT, Count, CutI.
-/
import Derived.Test.YtbbgibbpeibhiaaGreatDoorJn9
import Derived.Test.YtbbgibbpeibhiaaGreatDoorJn17
import Derived.Test.YtbbgibbpeibhiaaGreatDoorJn10
import Derived.Test.YtbbgibbpeibhiaaGreatDoorJn11
import Derived.Test.YtbbgibbpeibhiaaGreatDoorJn5
/-
  The mathematics of exchanged players, exchanged values and trimming: what is found, bits, ends; each undone or not done twice. Nothing of the program.
-/
namespace Go.Proofs.YtbbgibbpeibhiaaGreatDoor.TnM
open Go.RowKit Go.Proofs.YtbbgibbpeibhiaaGreatDoor.Plain Go.Proofs.YtbbgibbpeibhiaaGreatDoor.Tree Go.Proofs.YtbbgibbpeibhiaaGreatDoor.TrimT Go.Proofs.YtbbgibbpeibhiaaGreatDoor.Leaf Go.Proofs.YtbbgibbpeibhiaaGreatDoor.Talk Go.Proofs.YtbbgibbpeibhiaaGreatDoor.MatT Go.Proofs.YtbbgibbpeibhiaaGreatDoor.CutT Go.Proofs.YtbbgibbpeibhiaaGreatDoor.HvM
set_option linter.unusedVariables false

theorem turn_turn : ∀ t : T, turnT (turnT t) = t
  | .leaf _ => rfl
  | .say a s z o => by simp only [turnT, turn_turn z, turn_turn o, Bool.not_not]
theorem turn_talk : ∀ (t : T) (x y : Nat), (talkT (turnT t) x y).2 = (talkT t y x).2
  | .leaf _, _, _ => rfl
  | .say a s z o, x, y => by
    have h1 := turn_talk z x y
    have h2 := turn_talk o x y
    have h3 : saysB (!a) s x y = saysB a s y x := by cases a <;> rfl
    show (if saysB (!a) s x y then (true :: (talkT (turnT o) x y).1, (talkT (turnT o) x y).2) else (false :: (talkT (turnT z) x y).1, (talkT (turnT z) x y).2)).2 = (if saysB a s y x then (true :: (talkT o y x).1, (talkT o y x).2) else (false :: (talkT z y x).1, (talkT z y x).2)).2
    rw [h3]
    cases saysB a s y x
    · exact h1
    · exact h2
theorem turn_bits : ∀ t : T, Tree.bits (turnT t) = Tree.bits t
  | .leaf _ => rfl
  | .say a s z o => by simp only [turnT, Tree.bits, turn_bits z, turn_bits o]
/-- values exchanged -/
def notT (t : T) : T := graftT (.leaf true) (.leaf false) t
theorem not_not : ∀ t : T, notT (notT t) = t
  | .leaf b => by cases b <;> rfl
  | .say a s z o => by
    have h1 := not_not z
    have h2 := not_not o
    unfold notT at h1 h2 ⊢
    simp only [graftT, h1, h2]
theorem not_talk : ∀ (t : T) (x y : Nat), (talkT (notT t) x y).2 = !(talkT t x y).2
  | .leaf b, _, _ => by cases b <;> rfl
  | .say a s z o, x, y => by
    have h1 := not_talk z x y
    have h2 := not_talk o x y
    show (if saysB a s x y then (true :: (talkT (notT o) x y).1, (talkT (notT o) x y).2) else (false :: (talkT (notT z) x y).1, (talkT (notT z) x y).2)).2 = !(if saysB a s x y then (true :: (talkT o x y).1, (talkT o x y).2) else (false :: (talkT z x y).1, (talkT z x y).2)).2
    cases saysB a s x y
    · exact h1
    · exact h2
theorem not_ends : ∀ t : T, ends (notT t) = ends t
  | .leaf b => by cases b <;> rfl
  | .say a s z o => by
    have h1 := not_ends z
    have h2 := not_ends o
    unfold notT at h1 h2 ⊢
    simp only [graftT, ends, h1, h2]
theorem not_wf (t : T) (h : wf t) : wf (notT t) := graft_wf (.leaf true) (.leaf false) trivial trivial t h
theorem not_length (t : T) : (text (notT t)).length = (text t).length := by
  have := graft_length (.leaf true) (.leaf false) t
  simp [text] at this
  exact this

theorem trim_bits : ∀ (t : T) (R C : Nat), Tree.bits (trimT t R C) ≤ Tree.bits t
  | .leaf _, _, _ => Nat.le_refl _
  | .say a s z o, R, C => by
    have h1 := trim_bits z
    have h2 := trim_bits o
    have k1 := h1 (outR a s R) (outC a s C)
    have k2 := h2 (inR a s R) (inC a s C)
    unfold trimT
    split
    · simp only [Tree.bits]; omega
    · split
      · simp only [Tree.bits]; omega
      · simp only [Tree.bits]; omega
theorem trim_again (t : T) (R C : Nat) (hR : R < 256) (hC : C < 256) (h1 : 1 ≤ R) (h2 : 1 ≤ C) : trimT (trimT t R C) R C = trimT t R C := tight_trim _ _ _ (trim_tight t R C hR hC h1 h2)
theorem trim_count (t : T) (R C : Nat) (hR : R < 256) (hC : C < 256) (h1 : 1 ≤ R) (h2 : 1 ≤ C) : ends (trimT t R C) = (leavesT t R C).length := by
  rw [← leaves_trim t R C hR hC h1 h2, tight_leaves _ _ _ h1 h2 (trim_tight t R C hR hC h1 h2)]
theorem trim_talk (t : T) (R C x y : Nat) (hR : R < 256) (hC : C < 256) (hx : R.testBit x = true) (hy : C.testBit y = true) : (talkT (trimT t R C) x y).2 = (talkT t x y).2 := by
  have h1 : 1 ≤ R := by
    rcases Nat.eq_zero_or_pos R with e | e
    · rw [e] at hx; simp at hx
    · exact e
  have h2 : 1 ≤ C := by
    rcases Nat.eq_zero_or_pos C with e | e
    · rw [e] at hy; simp at hy
    · exact e
  have a1 := covered_talk true (trimT t R C) R C x y hR hC hx hy
  have a2 := covered_talk true t R C x y hR hC hx hy
  rw [leaves_trim t R C hR hC h1 h2, a2] at a1
  revert a1
  cases (talkT (trimT t R C) x y).2 <;> cases (talkT t x y).2 <;> simp
theorem all_bit (n x : Nat) (h : x < n) : (2 ^ n - 1).testBit x = true := by
  rw [Nat.testBit_two_pow_sub_one]
  simpa using h
end Go.Proofs.YtbbgibbpeibhiaaGreatDoor.TnM

/-
  The mathematics of balancing: the same matrix is found, and few bits are said. Nothing of the program.
-/
namespace Go.Proofs.YtbbgibbpeibhiaaGreatDoor.BalT
open Go.RowKit Go.Proofs.YtbbgibbpeibhiaaGreatDoor.Plain Go.Proofs.YtbbgibbpeibhiaaGreatDoor.Tree Go.Proofs.YtbbgibbpeibhiaaGreatDoor.TrimT Go.Proofs.YtbbgibbpeibhiaaGreatDoor.Leaf Go.Proofs.YtbbgibbpeibhiaaGreatDoor.Talk Go.Proofs.YtbbgibbpeibhiaaGreatDoor.MatT Go.Proofs.YtbbgibbpeibhiaaGreatDoor.CutT
set_option linter.unusedVariables false

theorem high_bit (a i : Nat) (h : a < 256) (hi : ¬ i < 64) : a.testBit i = false := Nat.testBit_lt_two_pow (Nat.lt_of_lt_of_le h (by
  have : (2 : Nat) ^ 8 ≤ 2 ^ i := Nat.pow_le_pow_right (by decide) (by omega)
  exact this))
theorem at_bit (a i : Nat) (hi : i < 64) : at_ a i = a.testBit i := by
  unfold at_
  rw [BitVec.getLsbD_ofNat]
  simp [hi]
theorem sub_bit {a b : Nat} (h : Sub a b) (ha : a < 256) (i : Nat) (hb : a.testBit i = true) : b.testBit i = true := by
  by_cases hi : i < 64
  · have := h i hi (by rw [at_bit a i hi]; exact hb)
    rwa [at_bit b i hi] at this
  · rw [high_bit a i ha hi] at hb
    cases hb
/-- what is found: in the part's rectangle by the part, and elsewhere by what is left -/
theorem cut_talk (n : Nat) : ∀ (t : T) (R C x y : Nat), R < 256 → C < 256 → 1 ≤ R → 1 ≤ C → Tight t R C → R.testBit x = true → C.testBit y = true →
    (talkT t x y).2 = if ((cutT n t R C).rows.testBit x && (cutT n t R C).cols.testBit y) then (talkT (cutT n t R C).part x y).2 else (talkT (cutT n t R C).rest x y).2
  | .leaf b, R, C, x, y, _, _, _, _, _, hx, hy => by simp [cutT, hx, hy]
  | .say a s z o, R, C, x, y, hR, hC, h1, h2, ht, hx, hy => by
    obtain ⟨p1, p2, p3, p4⟩ := parts_lt a s hR hC
    have hs := ht.1
    have rz := cut_rect n z (outR a s R) (outC a s C) p1 p2 hs.2.2.1 hs.2.2.2.1 ht.2.1
    have ro := cut_rect n o (inR a s R) (inC a s C) p3 p4 hs.1 hs.2.1 ht.2.2
    have iz := fun q1 q2 => cut_talk n z (outR a s R) (outC a s C) x y p1 p2 hs.2.2.1 hs.2.2.2.1 ht.2.1 q1 q2
    have io := fun q1 q2 => cut_talk n o (inR a s R) (inC a s C) x y p3 p4 hs.1 hs.2.1 ht.2.2 q1 q2
    obtain ⟨b, hb⟩ : ∃ b, saysB a s x y = b := ⟨_, rfl⟩
    have hoR : (outR a s R).testBit x = (if a then !b else true) ∧ (outC a s C).testBit y = (if a then true else !b) ∧ (inR a s R).testBit x = (if a then b else true) ∧ (inC a s C).testBit y = (if a then true else b) := by
      cases a
      · simp only [saysB, if_false, Bool.false_eq_true] at hb
        simp only [outR, outC, inR, inC, if_false, Bool.false_eq_true, minus_bit C s y hC, meet_bit C s y hC, hx, hy, hb, Bool.true_and, and_self]
      · simp only [saysB, if_true] at hb
        simp only [outR, outC, inR, inC, if_true, minus_bit R s x hR, meet_bit R s x hR, hx, hy, hb, Bool.true_and, and_self]
    obtain ⟨k1, k2, k3, k4⟩ := hoR
    unfold cutT
    split
    · simp [hx, hy]
    · split
      · generalize cutT n o (inR a s R) (inC a s C) = c at *
        cases b with
        | true =>
          have i := io (by rw [k3]; cases a <;> rfl) (by rw [k4]; cases a <;> rfl)
          simp only [talkT, hb, if_true]
          exact i
        | false =>
          have hn : (c.rows.testBit x && c.cols.testBit y) = false := by
            cases e1 : c.rows.testBit x with
            | false => rfl
            | true =>
              cases e2 : c.cols.testBit y with
              | false => rfl
              | true =>
                have f1 := sub_bit ro.2.2.2.2.1 ro.1 x e1
                have f2 := sub_bit ro.2.2.2.2.2.1 ro.2.1 y e2
                rw [k3] at f1
                rw [k4] at f2
                cases a
                · cases f2
                · cases f1
          simp only [hn, talkT, hb, if_false, Bool.false_eq_true]
      · generalize cutT n z (outR a s R) (outC a s C) = c at *
        cases b with
        | false =>
          have i := iz (by rw [k1]; cases a <;> rfl) (by rw [k2]; cases a <;> rfl)
          simp only [talkT, hb, if_false, Bool.false_eq_true]
          exact i
        | true =>
          have hn : (c.rows.testBit x && c.cols.testBit y) = false := by
            cases e1 : c.rows.testBit x with
            | false => rfl
            | true =>
              cases e2 : c.cols.testBit y with
              | false => rfl
              | true =>
                have f1 := sub_bit rz.2.2.2.2.1 rz.1 x e1
                have f2 := sub_bit rz.2.2.2.2.2.1 rz.2.1 y e2
                rw [k1] at f1
                rw [k2] at f2
                cases a
                · cases f2
                · cases f1
          simp only [hn, talkT, hb, if_true, if_false, Bool.false_eq_true]
theorem bal_talk : ∀ (k : Nat) (t : T) (R C x y : Nat), R < 256 → C < 256 → 1 ≤ R → 1 ≤ C → Tight t R C → R.testBit x = true → C.testBit y = true → (talkT (balI k t R C) x y).2 = (talkT t x y).2
  | 0, _, _, _, _, _, _, _, _, _, _, _, _ => rfl
  | k + 1, t, R, C, x, y, hR, hC, h1, h2, ht, hx, hy => by
    obtain ⟨g1, g2, g3, g4, g5, g6, g7, g8⟩ := cut_rect (ends t) t R C hR hC h1 h2 ht
    have hc := cut_talk (ends t) t R C x y hR hC h1 h2 ht hx hy
    unfold balI
    split
    · rfl
    generalize cutT (ends t) t R C = c at *
    have iX := bal_talk k c.rest R C x y hR hC h1 h2 g8 hx hy
    have iY := fun p q => bal_talk k c.part c.rows c.cols x y g1 g2 g3 g4 g7 p q
    rw [hc]
    cases hr : c.rows.testBit x with
    | false => simp [talkT, saysB, hr, iX]
    | true =>
      cases hq : c.cols.testBit y with
      | false => simp [talkT, saysB, hr, hq, iX]
      | true => simp [talkT, saysB, hr, hq, iY hr hq]

/-- the bits that are allowed for so many ends -/
def tabL : List Nat := [0, 0, 1, 3, 5, 7, 7, 9, 9, 9, 11, 11, 11, 11, 13, 13, 13]
def tab (n : Nat) : Nat := tabL.getD n 0
theorem tab_step : ∀ n : Fin 17, ∀ p : Fin 17, 3 ≤ n.1 → n.1 < 3 * p.1 → 3 * p.1 ≤ 2 * n.1 → tab (n.1 - p.1 + 1) + 2 ≤ tab n.1 ∧ tab p.1 + 2 ≤ tab n.1 := by decide
theorem tab_low : ∀ n : Fin 3, 1 ≤ n.1 → n.1 - 1 ≤ tab n.1 := by decide
theorem bits_ends : ∀ t : T, Tree.bits t + 1 ≤ ends t
  | .leaf _ => Nat.le_refl _
  | .say _ _ z o => by
    have h1 := bits_ends z
    have h2 := bits_ends o
    simp only [Tree.bits, ends]
    omega
theorem bal_bits : ∀ (k : Nat) (t : T) (R C : Nat), ends t ≤ 16 → ends t ≤ k + 2 → Tree.bits (balI k t R C) ≤ tab (ends t)
  | 0, t, R, C, _, h => by
    have h1 := bits_ends t
    have h2 := tab_low ⟨ends t, by omega⟩ (ends_pos t)
    show Tree.bits t ≤ _
    simp only at h2
    omega
  | k + 1, t, R, C, h16, h => by
    unfold balI
    split
    · have h1 := bits_ends t
      have h2 := tab_low ⟨ends t, by omega⟩ (ends_pos t)
      simp only at h2
      omega
    · have e1 := cut_ends (ends t) t R C
      have e2 := cut_most (ends t) (by omega) t R C
      have e3 := cut_least (ends t) t R C (by omega)
      generalize cutT (ends t) t R C = c at *
      have iX := bal_bits k c.rest R C (by omega) (by omega)
      have iY := bal_bits k c.part c.rows c.cols (by omega) (by omega)
      obtain ⟨s1, s2⟩ := tab_step ⟨ends t, by omega⟩ ⟨ends c.part, by omega⟩ (by show 3 ≤ ends t; omega) e3 e2
      simp only at s1 s2
      rw [show ends t - ends c.part + 1 = ends c.rest by omega] at s1
      simp only [Tree.bits]
      omega
end Go.Proofs.YtbbgibbpeibhiaaGreatDoor.BalT

/-
  The greatest number of bits and the number of ends, of the program's trees.
-/
namespace Go.Proofs.YtbbgibbpeibhiaaGreatDoor.Count
open Go.RowKit Go.Shelf Go.Proofs.YtbbgibbpeibhiaaGreatDoor.Plain Go.Proofs.YtbbgibbpeibhiaaGreatDoor.Tree Go.Proofs.YtbbgibbpeibhiaaGreatDoor.Hex Go.Proofs.YtbbgibbpeibhiaaGreatDoor.Read
open Go.Proofs.YtbbgibbpeibhiaaGreatDoor.Wq (WQ wq_step wq_nil region_kept drew_at)
set_option linter.unusedVariables false
set_option linter.unusedSimpArgs false

def BitsC (t : T) (f : FuncId) (V : Value) : Prop := ∀ W : World, Calls Tryz.prog f #[V] W fun e w' => e = .returned (.int .i64 (Tree.bits t : Int)) ∧ Below W.heap.size W w'
set_option maxHeartbeats 1000000 in
theorem end_Bits (b : Bool) : BitsC (.leaf b) 114 (.int .i64 (bitI b)) := by
  intro w
  go_enter Tryz.func114, Tryz.ntmps114
  go_wp2
  go_ret
  exact ⟨rfl, Below.refl _ _⟩

set_option maxHeartbeats 4000000 in
set_option maxRecDepth 100000 in
theorem count_bits (t : T) (hl : (text t).length ≤ 8000000) : Node 114 123 t (BitsC t) := by
  induction t with
  | leaf b => exact .inl ⟨_, rfl, end_Bits b⟩
  | say a v z o ihz iho =>
    have hlz : (text z).length + (text o).length + 3 = (text (.say a v z o)).length := by simp [text]
    have hZ := ihz (by omega)
    have hO := iho (by omega)
    have bz := bits_lt z
    have bo := bits_lt o
    refine .inr ⟨_, rfl, fun w => ?_⟩
    have hm : Tree.bits (.say a v z o) = 1 + max (Tree.bits z) (Tree.bits o) := rfl
    unfold BitsC at hZ hO
    rw [hm]
    clear hm ihz iho
    generalize Tree.bits z = m at *
    generalize Tree.bits o = n at *
    generalize ((whoB a).toNat : Int) = wh
    have HM : Hid (((1 + max m n : Nat) : Int) = 1 + max (m : Int) (n : Int)) := by show _ = _; omega
    have L1 : m ≤ 8000000 := by omega
    have L2 : n ≤ 8000000 := by omega
    have HWR : Hid (IntKind.i64.wrap (1 + max (m : Int) (n : Int)) = 1 + max (m : Int) (n : Int)) := by show _ = _; simp only [IntKind.wrap_i64, wrap64]; omega
    clear hl hlz bz bo
    obtain ⟨B, hB⟩ : ∃ B, w.heap.size = B := ⟨_, rfl⟩
    have HBB := Lib.hid hB
    rcases hZ with ⟨V, ez, hz⟩ | ⟨V, ez, hz⟩ <;> rcases hO with ⟨U, eo, ho⟩ | ⟨U, eo, ho⟩
    · have HZ := Lib.hid hz
      have HO := Lib.hid ho
      rw [ez, eo]
      clear ez eo hz ho
      go_enter Tryz.func123, Tryz.ntmps123
      go_wp2_with fail
      obtain ⟨W1, hW1⟩ : ∃ W1, w.alloc (.cells #[.int .u8 wh, .int .i64 (v : Int), .iface 61 V, .iface 61 U] 81) = W1 := ⟨_, rfl⟩
      rw [hW1]
      have HW : Hid (Below w.heap.size w W1) := by show Below _ _ _; rw [← hW1]; exact (Below.refl _ _).alloc (Nat.le_refl _) _
      have HM0 : Hid (∀ wx : World, Below W1.heap.size W1 wx → wx.heap[B]? = some (.cells #[.int .u8 wh, .int .i64 (v : Int), .iface 61 V, .iface 61 U] 81 (0, 0))) := fun wx h => by
        have h0 : W1.heap[B]? = some (.cells #[.int .u8 wh, .int .i64 (v : Int), .iface 61 V, .iface 61 U] 81 (0, 0)) := by rw [← hW1, ← HBB.out]; exact heap_alloc_new w _
        exact (h.block _ (Array.getElem?_eq_some_iff.1 h0).1).trans h0
      clear hW1 hB
      refine region_kept (C := fun wx => Below W1.heap.size W1 wx) (drew_at W1) (by kernel_rfl) (by kernel_rfl) ?_
      repeat
        (refine wq_step (fun K hK => ?_)
         go_simp
         first
           | (refine hK _ ?_; clear hK K)
           | (apply Exists.intro
              refine ⟨fun wx hC => ?_, hK _ ?_⟩
              · first
                | with_reducible rfl
                | (go_invoke; go_simp; with_reducible exact ((HZ.out wx).mono fun e w' h => ⟨h.1, hC.trans (h.2.mono hC.size)⟩))
                | (go_invoke; go_simp; with_reducible exact ((HO.out wx).mono fun e w' h => ⟨h.1, hC.trans (h.2.mono hC.size)⟩))
                | (obtain ⟨d0, d1, d2, d3⟩ := cells4 (HM0.out wx hC); go_simp; first | done | rfl)
              clear hK K))
      refine wq_nil ?_
      intro w2 hC
      have HC := Lib.hid (HW.out.trans (hC.mono HW.out.size))
      clear hC
      go_simp
      go_wp2_with fail
      go_ret
      exact ⟨by rw [HM.out]; first | rfl | (rw [HWR.out]; rfl), HC.out⟩
    · have HZ := Lib.hid hz
      have HO := Lib.hid ho
      rw [ez, eo]
      clear ez eo hz ho
      go_enter Tryz.func123, Tryz.ntmps123
      go_wp2_with fail
      obtain ⟨W1, hW1⟩ : ∃ W1, w.alloc (.cells #[.int .u8 wh, .int .i64 (v : Int), .iface 61 V, .iface 81 U] 81) = W1 := ⟨_, rfl⟩
      rw [hW1]
      have HW : Hid (Below w.heap.size w W1) := by show Below _ _ _; rw [← hW1]; exact (Below.refl _ _).alloc (Nat.le_refl _) _
      have HM0 : Hid (∀ wx : World, Below W1.heap.size W1 wx → wx.heap[B]? = some (.cells #[.int .u8 wh, .int .i64 (v : Int), .iface 61 V, .iface 81 U] 81 (0, 0))) := fun wx h => by
        have h0 : W1.heap[B]? = some (.cells #[.int .u8 wh, .int .i64 (v : Int), .iface 61 V, .iface 81 U] 81 (0, 0)) := by rw [← hW1, ← HBB.out]; exact heap_alloc_new w _
        exact (h.block _ (Array.getElem?_eq_some_iff.1 h0).1).trans h0
      clear hW1 hB
      refine region_kept (C := fun wx => Below W1.heap.size W1 wx) (drew_at W1) (by kernel_rfl) (by kernel_rfl) ?_
      repeat
        (refine wq_step (fun K hK => ?_)
         go_simp
         first
           | (refine hK _ ?_; clear hK K)
           | (apply Exists.intro
              refine ⟨fun wx hC => ?_, hK _ ?_⟩
              · first
                | with_reducible rfl
                | (go_invoke; go_simp; with_reducible exact ((HZ.out wx).mono fun e w' h => ⟨h.1, hC.trans (h.2.mono hC.size)⟩))
                | (go_invoke; go_simp; with_reducible exact ((HO.out wx).mono fun e w' h => ⟨h.1, hC.trans (h.2.mono hC.size)⟩))
                | (obtain ⟨d0, d1, d2, d3⟩ := cells4 (HM0.out wx hC); go_simp; first | done | rfl)
              clear hK K))
      refine wq_nil ?_
      intro w2 hC
      have HC := Lib.hid (HW.out.trans (hC.mono HW.out.size))
      clear hC
      go_simp
      go_wp2_with fail
      go_ret
      exact ⟨by rw [HM.out]; first | rfl | (rw [HWR.out]; rfl), HC.out⟩
    · have HZ := Lib.hid hz
      have HO := Lib.hid ho
      rw [ez, eo]
      clear ez eo hz ho
      go_enter Tryz.func123, Tryz.ntmps123
      go_wp2_with fail
      obtain ⟨W1, hW1⟩ : ∃ W1, w.alloc (.cells #[.int .u8 wh, .int .i64 (v : Int), .iface 81 V, .iface 61 U] 81) = W1 := ⟨_, rfl⟩
      rw [hW1]
      have HW : Hid (Below w.heap.size w W1) := by show Below _ _ _; rw [← hW1]; exact (Below.refl _ _).alloc (Nat.le_refl _) _
      have HM0 : Hid (∀ wx : World, Below W1.heap.size W1 wx → wx.heap[B]? = some (.cells #[.int .u8 wh, .int .i64 (v : Int), .iface 81 V, .iface 61 U] 81 (0, 0))) := fun wx h => by
        have h0 : W1.heap[B]? = some (.cells #[.int .u8 wh, .int .i64 (v : Int), .iface 81 V, .iface 61 U] 81 (0, 0)) := by rw [← hW1, ← HBB.out]; exact heap_alloc_new w _
        exact (h.block _ (Array.getElem?_eq_some_iff.1 h0).1).trans h0
      clear hW1 hB
      refine region_kept (C := fun wx => Below W1.heap.size W1 wx) (drew_at W1) (by kernel_rfl) (by kernel_rfl) ?_
      repeat
        (refine wq_step (fun K hK => ?_)
         go_simp
         first
           | (refine hK _ ?_; clear hK K)
           | (apply Exists.intro
              refine ⟨fun wx hC => ?_, hK _ ?_⟩
              · first
                | with_reducible rfl
                | (go_invoke; go_simp; with_reducible exact ((HZ.out wx).mono fun e w' h => ⟨h.1, hC.trans (h.2.mono hC.size)⟩))
                | (go_invoke; go_simp; with_reducible exact ((HO.out wx).mono fun e w' h => ⟨h.1, hC.trans (h.2.mono hC.size)⟩))
                | (obtain ⟨d0, d1, d2, d3⟩ := cells4 (HM0.out wx hC); go_simp; first | done | rfl)
              clear hK K))
      refine wq_nil ?_
      intro w2 hC
      have HC := Lib.hid (HW.out.trans (hC.mono HW.out.size))
      clear hC
      go_simp
      go_wp2_with fail
      go_ret
      exact ⟨by rw [HM.out]; first | rfl | (rw [HWR.out]; rfl), HC.out⟩
    · have HZ := Lib.hid hz
      have HO := Lib.hid ho
      rw [ez, eo]
      clear ez eo hz ho
      go_enter Tryz.func123, Tryz.ntmps123
      go_wp2_with fail
      obtain ⟨W1, hW1⟩ : ∃ W1, w.alloc (.cells #[.int .u8 wh, .int .i64 (v : Int), .iface 81 V, .iface 81 U] 81) = W1 := ⟨_, rfl⟩
      rw [hW1]
      have HW : Hid (Below w.heap.size w W1) := by show Below _ _ _; rw [← hW1]; exact (Below.refl _ _).alloc (Nat.le_refl _) _
      have HM0 : Hid (∀ wx : World, Below W1.heap.size W1 wx → wx.heap[B]? = some (.cells #[.int .u8 wh, .int .i64 (v : Int), .iface 81 V, .iface 81 U] 81 (0, 0))) := fun wx h => by
        have h0 : W1.heap[B]? = some (.cells #[.int .u8 wh, .int .i64 (v : Int), .iface 81 V, .iface 81 U] 81 (0, 0)) := by rw [← hW1, ← HBB.out]; exact heap_alloc_new w _
        exact (h.block _ (Array.getElem?_eq_some_iff.1 h0).1).trans h0
      clear hW1 hB
      refine region_kept (C := fun wx => Below W1.heap.size W1 wx) (drew_at W1) (by kernel_rfl) (by kernel_rfl) ?_
      repeat
        (refine wq_step (fun K hK => ?_)
         go_simp
         first
           | (refine hK _ ?_; clear hK K)
           | (apply Exists.intro
              refine ⟨fun wx hC => ?_, hK _ ?_⟩
              · first
                | with_reducible rfl
                | (go_invoke; go_simp; with_reducible exact ((HZ.out wx).mono fun e w' h => ⟨h.1, hC.trans (h.2.mono hC.size)⟩))
                | (go_invoke; go_simp; with_reducible exact ((HO.out wx).mono fun e w' h => ⟨h.1, hC.trans (h.2.mono hC.size)⟩))
                | (obtain ⟨d0, d1, d2, d3⟩ := cells4 (HM0.out wx hC); go_simp; first | done | rfl)
              clear hK K))
      refine wq_nil ?_
      intro w2 hC
      have HC := Lib.hid (HW.out.trans (hC.mono HW.out.size))
      clear hC
      go_simp
      go_wp2_with fail
      go_ret
      exact ⟨by rw [HM.out]; first | rfl | (rw [HWR.out]; rfl), HC.out⟩

def EndsC (t : T) (f : FuncId) (V : Value) : Prop := ∀ W : World, Calls Tryz.prog f #[V] W fun e w' => e = .returned (.int .i64 (ends t : Int)) ∧ Below W.heap.size W w'
set_option maxHeartbeats 1000000 in
theorem end_Ends (b : Bool) : EndsC (.leaf b) 115 (.int .i64 (bitI b)) := by
  intro w
  go_enter Tryz.func115, Tryz.ntmps115
  go_wp2
  go_ret
  exact ⟨rfl, Below.refl _ _⟩

set_option maxHeartbeats 4000000 in
set_option maxRecDepth 100000 in
theorem count_ends (t : T) (hl : (text t).length ≤ 8000000) : Node 115 124 t (EndsC t) := by
  induction t with
  | leaf b => exact .inl ⟨_, rfl, end_Ends b⟩
  | say a v z o ihz iho =>
    have hlz : (text z).length + (text o).length + 3 = (text (.say a v z o)).length := by simp [text]
    have hZ := ihz (by omega)
    have hO := iho (by omega)
    have bz := ends_le z
    have bo := ends_le o
    refine .inr ⟨_, rfl, fun w => ?_⟩
    have hm : ends (.say a v z o) = ends z + ends o := rfl
    unfold EndsC at hZ hO
    rw [hm]
    clear hm ihz iho
    generalize ends z = m at *
    generalize ends o = n at *
    generalize ((whoB a).toNat : Int) = wh
    have HM : Hid (((m + n : Nat) : Int) = (m : Int) + (n : Int)) := by show _ = _; omega
    have L1 : m ≤ 8000000 := by omega
    have L2 : n ≤ 8000000 := by omega
    have HWR : Hid (IntKind.i64.wrap ((m : Int) + (n : Int)) = (m : Int) + (n : Int)) := by show _ = _; simp only [IntKind.wrap_i64, wrap64]; omega
    clear hl hlz bz bo
    obtain ⟨B, hB⟩ : ∃ B, w.heap.size = B := ⟨_, rfl⟩
    have HBB := Lib.hid hB
    rcases hZ with ⟨V, ez, hz⟩ | ⟨V, ez, hz⟩ <;> rcases hO with ⟨U, eo, ho⟩ | ⟨U, eo, ho⟩
    · have HZ := Lib.hid hz
      have HO := Lib.hid ho
      rw [ez, eo]
      clear ez eo hz ho
      go_enter Tryz.func124, Tryz.ntmps124
      go_wp2_with fail
      obtain ⟨W1, hW1⟩ : ∃ W1, w.alloc (.cells #[.int .u8 wh, .int .i64 (v : Int), .iface 61 V, .iface 61 U] 81) = W1 := ⟨_, rfl⟩
      rw [hW1]
      have HW : Hid (Below w.heap.size w W1) := by show Below _ _ _; rw [← hW1]; exact (Below.refl _ _).alloc (Nat.le_refl _) _
      have HM0 : Hid (∀ wx : World, Below W1.heap.size W1 wx → wx.heap[B]? = some (.cells #[.int .u8 wh, .int .i64 (v : Int), .iface 61 V, .iface 61 U] 81 (0, 0))) := fun wx h => by
        have h0 : W1.heap[B]? = some (.cells #[.int .u8 wh, .int .i64 (v : Int), .iface 61 V, .iface 61 U] 81 (0, 0)) := by rw [← hW1, ← HBB.out]; exact heap_alloc_new w _
        exact (h.block _ (Array.getElem?_eq_some_iff.1 h0).1).trans h0
      clear hW1 hB
      refine region_kept (C := fun wx => Below W1.heap.size W1 wx) (drew_at W1) (by kernel_rfl) (by kernel_rfl) ?_
      repeat
        (refine wq_step (fun K hK => ?_)
         go_simp
         first
           | (refine hK _ ?_; clear hK K)
           | (apply Exists.intro
              refine ⟨fun wx hC => ?_, hK _ ?_⟩
              · first
                | with_reducible rfl
                | (go_invoke; go_simp; with_reducible exact ((HZ.out wx).mono fun e w' h => ⟨h.1, hC.trans (h.2.mono hC.size)⟩))
                | (go_invoke; go_simp; with_reducible exact ((HO.out wx).mono fun e w' h => ⟨h.1, hC.trans (h.2.mono hC.size)⟩))
                | (obtain ⟨d0, d1, d2, d3⟩ := cells4 (HM0.out wx hC); go_simp; first | done | rfl)
              clear hK K))
      refine wq_nil ?_
      intro w2 hC
      have HC := Lib.hid (HW.out.trans (hC.mono HW.out.size))
      clear hC
      go_simp
      go_wp2_with fail
      go_ret
      exact ⟨by rw [HM.out]; first | rfl | (rw [HWR.out]; rfl), HC.out⟩
    · have HZ := Lib.hid hz
      have HO := Lib.hid ho
      rw [ez, eo]
      clear ez eo hz ho
      go_enter Tryz.func124, Tryz.ntmps124
      go_wp2_with fail
      obtain ⟨W1, hW1⟩ : ∃ W1, w.alloc (.cells #[.int .u8 wh, .int .i64 (v : Int), .iface 61 V, .iface 81 U] 81) = W1 := ⟨_, rfl⟩
      rw [hW1]
      have HW : Hid (Below w.heap.size w W1) := by show Below _ _ _; rw [← hW1]; exact (Below.refl _ _).alloc (Nat.le_refl _) _
      have HM0 : Hid (∀ wx : World, Below W1.heap.size W1 wx → wx.heap[B]? = some (.cells #[.int .u8 wh, .int .i64 (v : Int), .iface 61 V, .iface 81 U] 81 (0, 0))) := fun wx h => by
        have h0 : W1.heap[B]? = some (.cells #[.int .u8 wh, .int .i64 (v : Int), .iface 61 V, .iface 81 U] 81 (0, 0)) := by rw [← hW1, ← HBB.out]; exact heap_alloc_new w _
        exact (h.block _ (Array.getElem?_eq_some_iff.1 h0).1).trans h0
      clear hW1 hB
      refine region_kept (C := fun wx => Below W1.heap.size W1 wx) (drew_at W1) (by kernel_rfl) (by kernel_rfl) ?_
      repeat
        (refine wq_step (fun K hK => ?_)
         go_simp
         first
           | (refine hK _ ?_; clear hK K)
           | (apply Exists.intro
              refine ⟨fun wx hC => ?_, hK _ ?_⟩
              · first
                | with_reducible rfl
                | (go_invoke; go_simp; with_reducible exact ((HZ.out wx).mono fun e w' h => ⟨h.1, hC.trans (h.2.mono hC.size)⟩))
                | (go_invoke; go_simp; with_reducible exact ((HO.out wx).mono fun e w' h => ⟨h.1, hC.trans (h.2.mono hC.size)⟩))
                | (obtain ⟨d0, d1, d2, d3⟩ := cells4 (HM0.out wx hC); go_simp; first | done | rfl)
              clear hK K))
      refine wq_nil ?_
      intro w2 hC
      have HC := Lib.hid (HW.out.trans (hC.mono HW.out.size))
      clear hC
      go_simp
      go_wp2_with fail
      go_ret
      exact ⟨by rw [HM.out]; first | rfl | (rw [HWR.out]; rfl), HC.out⟩
    · have HZ := Lib.hid hz
      have HO := Lib.hid ho
      rw [ez, eo]
      clear ez eo hz ho
      go_enter Tryz.func124, Tryz.ntmps124
      go_wp2_with fail
      obtain ⟨W1, hW1⟩ : ∃ W1, w.alloc (.cells #[.int .u8 wh, .int .i64 (v : Int), .iface 81 V, .iface 61 U] 81) = W1 := ⟨_, rfl⟩
      rw [hW1]
      have HW : Hid (Below w.heap.size w W1) := by show Below _ _ _; rw [← hW1]; exact (Below.refl _ _).alloc (Nat.le_refl _) _
      have HM0 : Hid (∀ wx : World, Below W1.heap.size W1 wx → wx.heap[B]? = some (.cells #[.int .u8 wh, .int .i64 (v : Int), .iface 81 V, .iface 61 U] 81 (0, 0))) := fun wx h => by
        have h0 : W1.heap[B]? = some (.cells #[.int .u8 wh, .int .i64 (v : Int), .iface 81 V, .iface 61 U] 81 (0, 0)) := by rw [← hW1, ← HBB.out]; exact heap_alloc_new w _
        exact (h.block _ (Array.getElem?_eq_some_iff.1 h0).1).trans h0
      clear hW1 hB
      refine region_kept (C := fun wx => Below W1.heap.size W1 wx) (drew_at W1) (by kernel_rfl) (by kernel_rfl) ?_
      repeat
        (refine wq_step (fun K hK => ?_)
         go_simp
         first
           | (refine hK _ ?_; clear hK K)
           | (apply Exists.intro
              refine ⟨fun wx hC => ?_, hK _ ?_⟩
              · first
                | with_reducible rfl
                | (go_invoke; go_simp; with_reducible exact ((HZ.out wx).mono fun e w' h => ⟨h.1, hC.trans (h.2.mono hC.size)⟩))
                | (go_invoke; go_simp; with_reducible exact ((HO.out wx).mono fun e w' h => ⟨h.1, hC.trans (h.2.mono hC.size)⟩))
                | (obtain ⟨d0, d1, d2, d3⟩ := cells4 (HM0.out wx hC); go_simp; first | done | rfl)
              clear hK K))
      refine wq_nil ?_
      intro w2 hC
      have HC := Lib.hid (HW.out.trans (hC.mono HW.out.size))
      clear hC
      go_simp
      go_wp2_with fail
      go_ret
      exact ⟨by rw [HM.out]; first | rfl | (rw [HWR.out]; rfl), HC.out⟩
    · have HZ := Lib.hid hz
      have HO := Lib.hid ho
      rw [ez, eo]
      clear ez eo hz ho
      go_enter Tryz.func124, Tryz.ntmps124
      go_wp2_with fail
      obtain ⟨W1, hW1⟩ : ∃ W1, w.alloc (.cells #[.int .u8 wh, .int .i64 (v : Int), .iface 81 V, .iface 81 U] 81) = W1 := ⟨_, rfl⟩
      rw [hW1]
      have HW : Hid (Below w.heap.size w W1) := by show Below _ _ _; rw [← hW1]; exact (Below.refl _ _).alloc (Nat.le_refl _) _
      have HM0 : Hid (∀ wx : World, Below W1.heap.size W1 wx → wx.heap[B]? = some (.cells #[.int .u8 wh, .int .i64 (v : Int), .iface 81 V, .iface 81 U] 81 (0, 0))) := fun wx h => by
        have h0 : W1.heap[B]? = some (.cells #[.int .u8 wh, .int .i64 (v : Int), .iface 81 V, .iface 81 U] 81 (0, 0)) := by rw [← hW1, ← HBB.out]; exact heap_alloc_new w _
        exact (h.block _ (Array.getElem?_eq_some_iff.1 h0).1).trans h0
      clear hW1 hB
      refine region_kept (C := fun wx => Below W1.heap.size W1 wx) (drew_at W1) (by kernel_rfl) (by kernel_rfl) ?_
      repeat
        (refine wq_step (fun K hK => ?_)
         go_simp
         first
           | (refine hK _ ?_; clear hK K)
           | (apply Exists.intro
              refine ⟨fun wx hC => ?_, hK _ ?_⟩
              · first
                | with_reducible rfl
                | (go_invoke; go_simp; with_reducible exact ((HZ.out wx).mono fun e w' h => ⟨h.1, hC.trans (h.2.mono hC.size)⟩))
                | (go_invoke; go_simp; with_reducible exact ((HO.out wx).mono fun e w' h => ⟨h.1, hC.trans (h.2.mono hC.size)⟩))
                | (obtain ⟨d0, d1, d2, d3⟩ := cells4 (HM0.out wx hC); go_simp; first | done | rfl)
              clear hK K))
      refine wq_nil ?_
      intro w2 hC
      have HC := Lib.hid (HW.out.trans (hC.mono HW.out.size))
      clear hC
      go_simp
      go_wp2_with fail
      go_ret
      exact ⟨by rw [HM.out]; first | rfl | (rw [HWR.out]; rfl), HC.out⟩
end Go.Proofs.YtbbgibbpeibhiaaGreatDoor.Count

/-
  Where the program cuts a protocol.
-/
namespace Go.Proofs.YtbbgibbpeibhiaaGreatDoor.CutI
open Go.RowKit Go.Shelf Go.Proofs.YtbbgibbpeibhiaaGreatDoor.Plain Go.Proofs.YtbbgibbpeibhiaaGreatDoor.Tree Go.Proofs.YtbbgibbpeibhiaaGreatDoor.Read Go.Proofs.YtbbgibbpeibhiaaGreatDoor.Rect Go.Proofs.YtbbgibbpeibhiaaGreatDoor.TurnC Go.Proofs.YtbbgibbpeibhiaaGreatDoor.FreeL Go.Proofs.YtbbgibbpeibhiaaGreatDoor.TrimT Go.Proofs.YtbbgibbpeibhiaaGreatDoor.PartC Go.Proofs.YtbbgibbpeibhiaaGreatDoor.CutT
open Go.Proofs.YtbbgibbpeibhiaaGreatDoor.NodeH (eval_get)
open Go.Proofs.YtbbgibbpeibhiaaGreatDoor.Base (bitOf_any)
open Go.Proofs.YtbbgibbpeibhiaaGreatDoor.Count (cells4 count_ends)
open Go.Proofs.YtbbgibbpeibhiaaGreatDoor.TrimI (cells2 info_rect one_rect)
open Go.Proofs.YtbbgibbpeibhiaaGreatDoor.Free (fill wp_value wp_enter wp_load_row freeB wp_region_one get_of)
set_option linter.unusedVariables false
set_option linter.unusedSimpArgs false

theorem as_say (v : Value) (w : World) : (Instr.typeAssert (.iface 81 v) 43 81 true).run Tryz.prog w = .ok (.tuple #[v, .bool true]) w := by kernel_rfl
theorem as_end (v : Value) (w : World) : (Instr.typeAssert (.iface 61 v) 43 81 true).run Tryz.prog w = .ok (.tuple #[.agg #[.int .u8 0, .int .i64 0, .nilIface, .nilIface], .bool false]) w := by kernel_rfl
theorem frozen4 {w : World} {b : Nat} {c0 c1 c2 c3 : Value} {ty : TypeId} (h : w.heap[b]? = some (.cells #[c0, c1, c2, c3] ty (0, 0))) : w.frozen? ⟨b, 0, none⟩ = false ∧ w.frozen? ⟨b, 1, none⟩ = false ∧ w.frozen? ⟨b, 2, none⟩ = false ∧ w.frozen? ⟨b, 3, none⟩ = false :=
  ⟨frozen_of_row _ _ _ _ _ h, frozen_of_row _ _ _ _ _ h, frozen_of_row _ _ _ _ _ h, frozen_of_row _ _ _ _ _ h⟩
theorem set4 {w : World} {b : Nat} {c0 c1 c2 c3 : Value} {ty : TypeId} (h : w.heap[b]? = some (.cells #[c0, c1, c2, c3] ty (0, 0))) (x0 x1 x2 x3 : Value) :
    ((((w.setCell ⟨b, 0, none⟩ x0).setCell ⟨b, 1, none⟩ x1).setCell ⟨b, 2, none⟩ x2).setCell ⟨b, 3, none⟩ x3).heap[b]? = some (.cells #[x0, x1, x2, x3] ty (0, 0)) := by
  simp [World.setCell, Array.getElem?_modify, h]
theorem set_other {w : World} {b k i : Nat} {v : Value} (h : k ≠ b) : (w.setCell ⟨b, i, none⟩ v).heap[k]? = w.heap[k]? := by
  simp only [World.setCell, Array.getElem?_modify]
  rw [if_neg (by omega)]
/-- a cut as a value -/
def cutV (c : Cut) : Value := .agg #[tree c.part, .int .i64 (c.rows : Int), .int .i64 (c.cols : Int), tree c.rest]
theorem info_cut (x y z u : Value) : (Tryz.prog.info? 77).map (·.size) = some (#[x, y, z, u] : Array Value).size := by kernel_rfl
theorem one_cut (a b : Int) (t1 t2 : TypeId) (x y : Value) : (#[.iface t1 x, .int .i64 a, .int .i64 b, .iface t2 y] : Array Value).all (·.oneCell') = true := by simp [Value.oneCell']
/-- the blocks of a call: the rectangle, the result, the bit -/
structure Hc (w wr : World) (B : Nat) (wh : Int) (s : Nat) (t1 t2 : TypeId) (v1 v2 : Value) (R C : Nat) : Prop where
  rect : wr.heap[B]? = some (.cells #[.int .i64 (R : Int), .int .i64 (C : Int)] 45 (0, 0))
  res : wr.heap[B + 1]? = some (.cells #[.nilIface, .int .i64 0, .int .i64 0, .nilIface] 77 (0, 0))
  node : wr.heap[B + 1 + 1]? = some (.cells #[.int .u8 wh, .int .i64 (s : Int), .iface t1 v1, .iface t2 v2] 81 (0, 0))
  below : Below w.heap.size w wr
  size : w.heap.size = B
theorem Hc.later {w wr w2 : World} {B : Nat} {wh : Int} {s : Nat} {t1 t2 : TypeId} {v1 v2 : Value} {R C : Nat} (h : Hc w wr B wh s t1 t2 v1 v2 R C) (hb : Below wr.heap.size wr w2) : Hc w w2 B wh s t1 t2 v1 v2 R C :=
  have k : ∀ {g : Nat} {o : Obj}, wr.heap[g]? = some o → w2.heap[g]? = some o := fun e => (hb.block _ (Array.getElem?_eq_some_iff.1 e).1).trans e
  ⟨k h.rect, k h.res, k h.node, h.below.trans (hb.mono h.below.size), h.size⟩
theorem Hc.start (w : World) (wh : Int) (s : Nat) (t1 t2 : TypeId) (v1 v2 : Value) (R C : Nat) : Hc w (((w.alloc (.cells #[.int .i64 (R : Int), .int .i64 (C : Int)] 45)).alloc (.cells #[.nilIface, .int .i64 0, .int .i64 0, .nilIface] 77)).alloc (.cells #[.int .u8 wh, .int .i64 (s : Int), .iface t1 v1, .iface t2 v2] 81)) w.heap.size wh s t1 t2 v1 v2 R C := by
  have n0 := heap_alloc_new w (.cells #[.int .i64 (R : Int), .int .i64 (C : Int)] 45)
  have b0 := (Below.refl w.heap.size w).alloc (Nat.le_refl _) (.cells #[.int .i64 (R : Int), .int .i64 (C : Int)] 45)
  have s1 : (w.alloc (.cells #[.int .i64 (R : Int), .int .i64 (C : Int)] 45)).heap.size = w.heap.size + 1 := by simp
  generalize w.alloc (.cells #[.int .i64 (R : Int), .int .i64 (C : Int)] 45) = wa at *
  have n1 := heap_alloc_new wa (.cells #[.nilIface, .int .i64 0, .int .i64 0, .nilIface] 77)
  have k0 := (heap_alloc_old wa (.cells #[.nilIface, .int .i64 0, .int .i64 0, .nilIface] 77) (Array.getElem?_eq_some_iff.1 n0).1).trans n0
  have b1 := b0.alloc b0.size (.cells #[.nilIface, .int .i64 0, .int .i64 0, .nilIface] 77)
  have s2 : (wa.alloc (.cells #[.nilIface, .int .i64 0, .int .i64 0, .nilIface] 77)).heap.size = w.heap.size + 2 := by simp [s1]
  rw [s1] at n1
  generalize wa.alloc (.cells #[.nilIface, .int .i64 0, .int .i64 0, .nilIface] 77) = wb at *
  have n2 := heap_alloc_new wb (.cells #[.int .u8 wh, .int .i64 (s : Int), .iface t1 v1, .iface t2 v2] 81)
  rw [s2] at n2
  exact ⟨(heap_alloc_old wb _ (Array.getElem?_eq_some_iff.1 k0).1).trans k0, (heap_alloc_old wb _ (Array.getElem?_eq_some_iff.1 n1).1).trans n1, n2, b1.alloc b1.size _, rfl⟩

set_option maxHeartbeats 8000000 in
set_option maxRecDepth 100000 in
theorem heavy_to (n : Nat) (hn : 2 ≤ n) (hn2 : n ≤ 8000000) (t : T) : (text t).length ≤ 8000000 → ∀ (R C : Nat) (w : World), R < 256 → C < 256 →
    Calls Tryz.prog 36 #[tree t, rect R C, .int .i64 (n : Int)] w fun e w' => e = .returned (cutV (cutT n t R C)) ∧ Below w.heap.size w w' := by
  induction t with
  | leaf b =>
    intro hl R C w hR hC
    show Calls _ _ #[.iface 61 (.int .i64 (bitI b)), _, _] _ fun e w' => e = .returned (.agg #[.iface 61 (.int .i64 (bitI b)), .int .i64 (R : Int), .int .i64 (C : Int), .iface 61 (.int .i64 0)]) ∧ _
    generalize bitI b = bi
    have has := as_end
    go_enter Tryz.func36, Tryz.ntmps36
    go_wp2_with fail
    go_returns
    exact ⟨rfl, by go_grown⟩
  | say a s z o ihz iho =>
    intro hl R C w hR hC
    have hlz : (text z).length + (text o).length + 3 = (text (.say a s z o)).length := by simp [text]
    obtain ⟨p1, p2, p3, p4⟩ := parts_lt a s hR hC
    have bz := ends_le z
    have bo := ends_le o
    have hS : ∀ W, Calls Tryz.prog 124 #[.agg #[.int .u8 ((whoB a).toNat : Int), .int .i64 (s : Int), tree z, tree o]] W fun e w' => e = .returned (.int .i64 ((ends z + ends o : Nat) : Int)) ∧ Below W.heap.size W w' := by
      have h := count_ends (.say a s z o) hl
      unfold Go.Proofs.YtbbgibbpeibhiaaGreatDoor.Count.Node Go.Proofs.YtbbgibbpeibhiaaGreatDoor.Count.EndsC at h
      rcases h with ⟨V, e, h⟩ | ⟨V, e, h⟩
      · simp [tree, sayV] at e
      · simp only [tree, sayV, Value.iface.injEq, true_and] at e
        subst e
        exact h
    have hZ := count_ends z (by omega)
    have hO := count_ends o (by omega)
    unfold Go.Proofs.YtbbgibbpeibhiaaGreatDoor.Count.Node Go.Proofs.YtbbgibbpeibhiaaGreatDoor.Count.EndsC at hZ hO
    have hIZ := fun W => ihz (by omega) (outR a s R) (outC a s C) W p1 p2
    have hIO := fun W => iho (by omega) (inR a s R) (inC a s C) W p3 p4
    have HT : cutT n (.say a s z o) R C = if 3 * (ends z + ends o) ≤ 2 * n then ⟨.say a s z o, R, C, .leaf false⟩
      else if ends z < ends o then
        ⟨(cutT n o (inR a s R) (inC a s C)).part, (cutT n o (inR a s R) (inC a s C)).rows, (cutT n o (inR a s R) (inC a s C)).cols, .say a s z (cutT n o (inR a s R) (inC a s C)).rest⟩
      else ⟨(cutT n z (outR a s R) (outC a s C)).part, (cutT n z (outR a s R) (outC a s C)).rows, (cutT n z (outR a s R) (outC a s C)).cols, .say a s (cutT n z (outR a s R) (outC a s C)).rest o⟩ := rfl
    rw [HT]
    generalize cutT n o (inR a s R) (inC a s C) = cO at *
    generalize cutT n z (outR a s R) (outC a s C) = cZ at *
    obtain ⟨po, ro, co, xo⟩ := cO
    obtain ⟨pz, rz, cz, xz⟩ := cZ
    obtain ⟨res, hres⟩ : ∃ res, cutV (if 3 * (ends z + ends o) ≤ 2 * n then ⟨.say a s z o, R, C, .leaf false⟩ else if ends z < ends o then ⟨po, ro, co, .say a s z xo⟩ else ⟨pz, rz, cz, .say a s xz o⟩) = res := ⟨_, rfl⟩
    show Calls _ _ _ _ fun e w' => e = .returned (cutV (if 3 * (ends z + ends o) ≤ 2 * n then ⟨.say a s z o, R, C, .leaf false⟩ else if ends z < ends o then ⟨po, ro, co, .say a s z xo⟩ else ⟨pz, rz, cz, .say a s xz o⟩)) ∧ _
    rw [hres]
    show Calls _ _ #[.iface 81 (.agg #[.int .u8 ((whoB a).toNat : Int), .int .i64 (s : Int), tree z, tree o]), _, _] _ _
    unfold cutV at hres hIZ hIO
    simp only at hIZ hIO
    have HRS := Lib.hid hres
    have hPo := fun t1 t2 v1 v2 W => part_out a s R C hR hC t1 t2 v1 v2 W
    have hPi := fun t1 t2 v1 v2 W => part_in a s R C hR hC t1 t2 v1 v2 W
    obtain ⟨t1, v1, e1⟩ := tree_iface z
    obtain ⟨t2, v2, e2⟩ := tree_iface o
    obtain ⟨tpo, vpo, epo⟩ := tree_iface po
    obtain ⟨txo, vxo, exo⟩ := tree_iface xo
    obtain ⟨tpz, vpz, epz⟩ := tree_iface pz
    obtain ⟨txz, vxz, exz⟩ := tree_iface xz
    rw [e1] at hIZ hZ
    rw [e2] at hIO hO
    rw [e1, e2] at hS
    rw [epo, exo] at hIO
    rw [epz, exz] at hIZ
    rw [e1, e2]
    have HPo := Lib.hid (hPo t1 t2 v1 v2)
    have HPi := Lib.hid (hPi t1 t2 v1 v2)
    have HE := Lib.hid (And.intro (And.intro e1 e2) (And.intro (And.intro epo exo) (And.intro epz exz)))
    obtain ⟨oR, hoR⟩ : ∃ x, outR a s R = x := ⟨_, rfl⟩
    obtain ⟨oC, hoC⟩ : ∃ x, outC a s C = x := ⟨_, rfl⟩
    obtain ⟨iR, hiR⟩ : ∃ x, inR a s R = x := ⟨_, rfl⟩
    obtain ⟨iC, hiC⟩ : ∃ x, inC a s C = x := ⟨_, rfl⟩
    rw [hoR, hoC] at HPo hIZ
    rw [hiR, hiC] at HPi hIO
    obtain ⟨wh, hwh⟩ : ∃ wh, ((whoB a).toNat : Int) = wh := ⟨_, rfl⟩
    have HWH := Lib.hid hwh
    rw [hwh] at HPo HPi hS ⊢
    obtain ⟨E1, hE1⟩ : ∃ x, ends z = x := ⟨_, rfl⟩
    obtain ⟨E2, hE2⟩ : ∃ x, ends o = x := ⟨_, rfl⟩
    rw [hE1] at HRS hZ hS bz
    rw [hE2] at HRS hO hS bo
    have HS := Lib.hid hS
    have HZ := Lib.hid hZ
    have HO := Lib.hid hO
    have HIZ := Lib.hid hIZ
    have HIO := Lib.hid hIO
    have b1 : E1 ≤ 8000000 := by omega
    have b2 : E2 ≤ 8000000 := by omega
    obtain ⟨E, hE⟩ : ∃ E : Nat, E1 + E2 = E := ⟨_, rfl⟩
    have bE : E ≤ 16000000 := by omega
    rw [hE] at HS HRS
    obtain ⟨B, hB⟩ : ∃ B, w.heap.size = B := ⟨_, rfl⟩
    have HBB := Lib.hid hB
    have HW0 : Hid (Hc w _ B wh s t1 t2 v1 v2 R C) := Lib.hid (hB ▸ Hc.start w wh s t1 t2 v1 v2 R C)
    clear hS hZ hO hIZ hIO hPo hPi e1 e2 epo exo epz exz hoR hoC hiR hiC hwh hE1 hE2 hres HT hl hlz p1 p2 p3 p4 bz bo ihz iho hR hC
    have m1 : IntKind.i64.wrap (3 * (E : Int)) = 3 * (E : Int) := by simp only [IntKind.wrap_i64]; omega
    have m2 : IntKind.i64.wrap (2 * (n : Int)) = 2 * (n : Int) := by simp only [IntKind.wrap_i64]; omega
    have has := as_say
    by_cases hb : 3 * E ≤ 2 * n
    · have HR1 : Hid (cutV ⟨.say a s z o, R, C, .leaf false⟩ = res) := Lib.hid (by have h := HRS.out; rw [if_pos hb] at h; exact h)
      have hbi : 3 * (E : Int) ≤ 2 * (n : Int) := by omega
      clear HRS HZ HO HIZ HIO hE
      go_enter Tryz.func36, Tryz.ntmps36
      go_wp2_with fail
      refine (HS.out _).mono ?_
      rintro e w1 ⟨rfl, hb1⟩
      have H1 := Lib.hid (HW0.out.later hb1)
      clear hb1 hB HW0
      obtain ⟨r0, r1⟩ := cells2 H1.out.rect
      obtain ⟨q0, q1, q2, q3⟩ := cells4 H1.out.res
      obtain ⟨f0, f1, f2, f3⟩ := frozen4 H1.out.res
      go_wp2_with fail
      have hs := H1.out.size
      have k := set4 H1.out.res (.iface 81 (.agg #[.int .u8 wh, .int .i64 (s : Int), .iface t1 v1, .iface t2 v2])) (.int .i64 (R : Int)) (.int .i64 (C : Int)) (.iface 61 (.int .i64 0))
      have hb := (((H1.out.below.setCell (p := ⟨B + 1, 0, none⟩) (by simp only; omega) (.iface 81 (.agg #[.int .u8 wh, .int .i64 (s : Int), .iface t1 v1, .iface t2 v2]))).setCell (p := ⟨B + 1, 1, none⟩) (by simp only; omega) (.int .i64 (R : Int))).setCell (p := ⟨B + 1, 2, none⟩) (by simp only; omega) (.int .i64 (C : Int))).setCell (p := ⟨B + 1, 3, none⟩) (by simp only; omega) (.iface 61 (.int .i64 0))
      generalize ((((w1.setCell ⟨B + 1, 0, none⟩ (.iface 81 (.agg #[.int .u8 wh, .int .i64 (s : Int), .iface t1 v1, .iface t2 v2]))).setCell ⟨B + 1, 1, none⟩ (.int .i64 (R : Int))).setCell ⟨B + 1, 2, none⟩ (.int .i64 (C : Int))).setCell ⟨B + 1, 3, none⟩ (.iface 61 (.int .i64 0))) = wf at *
      have HBF := Lib.hid hb
      obtain ⟨k0, k1, k2, k3⟩ := cells4 k
      clear hb k hs q0 q1 q2 q3 f0 f1 f2 f3 r0 r1
      refine bodyPost_ret (v := .agg #[.iface 81 (.agg #[.int .u8 wh, .int .i64 (s : Int), .iface t1 v1, .iface t2 v2]), .int .i64 (R : Int), .int .i64 (C : Int), .iface 61 (.int .i64 0)]) (by simp [results, Tryz.results36, go_sem, k0, k1, k2, k3]) rfl ⟨?_, HBF.out⟩
      rw [← HR1.out]; simp only [cutV, tree, sayV, leafV, HE.out.1.1, HE.out.1.2, HWH.out]; rfl
    have hbi : ¬ 3 * (E : Int) ≤ 2 * (n : Int) := by omega
    have HRS2 : Hid (cutV (if E1 < E2 then ⟨po, ro, co, .say a s z xo⟩ else ⟨pz, rz, cz, .say a s xz o⟩) = res) := Lib.hid (by have h := HRS.out; rw [if_neg hb] at h; exact h)
    clear HRS
    by_cases hm : E1 < E2
    · have HR1 : Hid (cutV ⟨po, ro, co, .say a s z xo⟩ = res) := Lib.hid (by have h := HRS2.out; rw [if_pos hm] at h; exact h)
      have hd : decide ((E1 : Int) < (E2 : Int)) = true := by simp; omega
      clear HRS2 hE
      go_enter Tryz.func36, Tryz.ntmps36
      go_wp2_with fail
      refine (HS.out _).mono ?_
      rintro e w1 ⟨rfl, hb1⟩
      have H1 := Lib.hid (HW0.out.later hb1)
      clear hb1 hB HW0 HS
      go_wp2_with fail
      have bitC : ∀ W : World, Calls Tryz.prog 30 #[.bool true] W fun e w' => e = .returned (.int .i64 1) ∧ Below W.heap.size W w' := fun W => (bitOf_any true W).mono fun e w' h => ⟨h.1, h.2 ▸ Below.refl _ _⟩
      refine wp_region_below (fun | 0 => .pointer (some ⟨B + 1 + 1, 2, none⟩) | 1 => .pointer (some ⟨B + 1 + 1, 3, none⟩) | 2 => .iface t2 v2 | 3 => .int .i64 (E2 : Int) | 4 => .pointer (some ⟨B + 1 + 1, 2, none⟩) | 5 => .pointer (some ⟨B + 1 + 1, 2, none⟩) | 6 => .iface t1 v1 | 7 => .int .i64 (E1 : Int) | 8 => .bool true | 9 => .int .i64 1 | 10 => .int .i64 1 | _ => undef) (by kernel_rfl) (by kernel_rfl) rfl ?conA1 ?enA1
      case conA1 =>
        intro i o ho a wx hb hf
        match i, ho with
        | 0, ho =>
          obtain rfl := Option.some.inj ho
          have b7 : a.tmps[7]?.getD undef = .pointer (some ⟨B + 1 + 1, 0, none⟩) := hf.2 7 (by kernel_rfl)
          exact wp_value (.pointer (some ⟨B + 1 + 1, 2, none⟩)) (by unfold execOp; go_simp) ⟨rfl, Below.refl _ _⟩
        | 1, ho =>
          obtain rfl := Option.some.inj ho
          have e30 : a.tmps[30]?.getD undef = .pointer (some ⟨B + 1 + 1, 2, none⟩) := hf.1 ⟨0, .data⟩ (by simp) rfl _ 30 rfl rfl
          exact wp_value (.pointer (some ⟨B + 1 + 1, 3, none⟩)) (by unfold execOp; go_simp) ⟨rfl, Below.refl _ _⟩
        | 2, ho =>
          obtain rfl := Option.some.inj ho
          have e31 : a.tmps[31]?.getD undef = .pointer (some ⟨B + 1 + 1, 3, none⟩) := hf.1 ⟨1, .data⟩ (by simp) rfl _ 31 rfl rfl
          obtain ⟨c0, c1, c2, c3⟩ := cells4 ((H1.out.later hb).node)
          exact wp_value (.iface t2 v2) (by unfold execOp; go_simp) ⟨rfl, Below.refl _ _⟩
        | 3, ho =>
          obtain rfl := Option.some.inj ho
          have e32 : a.tmps[32]?.getD undef = .iface t2 v2 := hf.1 ⟨2, .data⟩ (by simp) rfl _ 32 rfl rfl
          rcases HO.out with ⟨V, ev, hv⟩ | ⟨V, ev, hv⟩
          · simp only [Value.iface.injEq] at ev
            obtain ⟨rfl, rfl⟩ := ev
            exact wp_enter 115 #[v2] (.int .i64 (E2 : Int)) _ (by unfold execOp; go_simp; go_invoke; rfl) (hv wx) (fun w' h => ⟨rfl, h⟩)
          · simp only [Value.iface.injEq] at ev
            obtain ⟨rfl, rfl⟩ := ev
            exact wp_enter 124 #[v2] (.int .i64 (E2 : Int)) _ (by unfold execOp; go_simp; go_invoke; rfl) (hv wx) (fun w' h => ⟨rfl, h⟩)
        | 4, ho =>
          obtain rfl := Option.some.inj ho
          have b7 : a.tmps[7]?.getD undef = .pointer (some ⟨B + 1 + 1, 0, none⟩) := hf.2 7 (by kernel_rfl)
          exact wp_value (.pointer (some ⟨B + 1 + 1, 2, none⟩)) (by unfold execOp; go_simp) ⟨rfl, Below.refl _ _⟩
        | 5, ho =>
          obtain rfl := Option.some.inj ho
          have e34 : a.tmps[34]?.getD undef = .pointer (some ⟨B + 1 + 1, 2, none⟩) := hf.1 ⟨4, .data⟩ (by simp) rfl _ 34 rfl rfl
          exact wp_value (.pointer (some ⟨B + 1 + 1, 2, none⟩)) (by unfold execOp; go_simp) ⟨rfl, Below.refl _ _⟩
        | 6, ho =>
          obtain rfl := Option.some.inj ho
          have e35 : a.tmps[35]?.getD undef = .pointer (some ⟨B + 1 + 1, 2, none⟩) := hf.1 ⟨5, .data⟩ (by simp) rfl _ 35 rfl rfl
          obtain ⟨c0, c1, c2, c3⟩ := cells4 ((H1.out.later hb).node)
          exact wp_value (.iface t1 v1) (by unfold execOp; go_simp) ⟨rfl, Below.refl _ _⟩
        | 7, ho =>
          obtain rfl := Option.some.inj ho
          have e36 : a.tmps[36]?.getD undef = .iface t1 v1 := hf.1 ⟨6, .data⟩ (by simp) rfl _ 36 rfl rfl
          rcases HZ.out with ⟨V, ev, hv⟩ | ⟨V, ev, hv⟩
          · simp only [Value.iface.injEq] at ev
            obtain ⟨rfl, rfl⟩ := ev
            exact wp_enter 115 #[v1] (.int .i64 (E1 : Int)) _ (by unfold execOp; go_simp; go_invoke; rfl) (hv wx) (fun w' h => ⟨rfl, h⟩)
          · simp only [Value.iface.injEq] at ev
            obtain ⟨rfl, rfl⟩ := ev
            exact wp_enter 124 #[v1] (.int .i64 (E1 : Int)) _ (by unfold execOp; go_simp; go_invoke; rfl) (hv wx) (fun w' h => ⟨rfl, h⟩)
        | 8, ho =>
          obtain rfl := Option.some.inj ho
          have e33 : a.tmps[33]?.getD undef = .int .i64 (E2 : Int) := hf.1 ⟨3, .data⟩ (by simp) rfl _ 33 rfl rfl
          have e37 : a.tmps[37]?.getD undef = .int .i64 (E1 : Int) := hf.1 ⟨7, .data⟩ (by simp) rfl _ 37 rfl rfl
          exact wp_value (.bool true) (by unfold execOp; go_simp; first | done | omega | (simp; omega) | (rw [hd]) | (simp [hd])) ⟨rfl, Below.refl _ _⟩
        | 9, ho =>
          obtain rfl := Option.some.inj ho
          have e38 : a.tmps[38]?.getD undef = .bool true := hf.1 ⟨8, .data⟩ (by simp) rfl _ 38 rfl rfl
          exact wp_enter 30 #[.bool true] (.int .i64 1) _ (by unfold execOp; go_simp) (bitC wx) (fun w' h => ⟨rfl, h⟩)
        | 10, ho =>
          obtain rfl := Option.some.inj ho
          have e39 : a.tmps[39]?.getD undef = .int .i64 1 := hf.1 ⟨9, .data⟩ (by simp) rfl _ 39 rfl rfl
          exact wp_value (.int .i64 1) (by unfold execOp; go_simp) ⟨rfl, Below.refl _ _⟩
        | q + 11, ho => simp at ho
      case enA1 =>
        intro w2 hb2
        have H2 := Lib.hid (H1.out.later hb2)
        clear hb2 H1 HZ HO bitC hd
        simp only [fill, Act.put]
        go_simp
        go_wp2_with fail
        refine wp_region_one (fun | 0 => .int .i64 1 | 1 => .pointer (some ⟨B + 1 + 1, 2, none⟩) | 2 => .pointer (some ⟨B + 1 + 1, 3, none⟩) | 3 => .iface t2 v2 | 4 => .agg #[.int .u8 wh, .int .i64 (s : Int), .iface t1 v1, .iface t2 v2] | 5 => rect R C | 6 => .int .i64 1 | 7 => rect iR iC | 8 => .int .i64 (n : Int) | 9 => .agg #[.iface tpo vpo, .int .i64 (ro : Int), .int .i64 (co : Int), .iface txo vxo] | _ => undef) 10 11 10 77 #[.nilIface, .int .i64 0, .int .i64 0, .nilIface] #[.iface tpo vpo, .int .i64 (ro : Int), .int .i64 (co : Int), .iface txo vxo] _ _ (by kernel_rfl) (by kernel_rfl) rfl rfl rfl rfl rfl (by decide) ⟨⟨10, .data⟩, (by simp), rfl, rfl⟩ rfl ?alB1 ?stB1 ?conB1 ?enB1
        case alB1 =>
          intro a w
          unfold execOp
          go_simp
        case stB1 =>
          intro a wx b old hf hp hg hsz
          have e49 : a.tmps[49]?.getD undef = .agg #[.iface tpo vpo, .int .i64 (ro : Int), .int .i64 (co : Int), .iface txo vxo] := get_of (hf.1 ⟨9, .data⟩ (by simp) rfl _ 49 rfl rfl (by decide) (by decide))
          refine wp_store_row 77 (.tmp 10) (.tmp 49) rfl b #[.iface tpo vpo, .int .i64 (ro : Int), .int .i64 (co : Int), .iface txo vxo] hp (eval_get e49) 77 old hg (info_cut _ _ _ _) hsz (one_cut _ _ _ _ _ _) ⟨rfl, rfl⟩
        case conB1 =>
          intro i o ho n1 n2 a wx hb hf
          match i, ho with
          | 0, ho =>
            obtain rfl := Option.some.inj ho
            have b9 : a.tmps[9]?.getD undef = .int .i64 1 := get_of (hf.2 9 (by kernel_rfl))
            exact wp_value (.int .i64 1) (by unfold execOp; go_simp) ⟨rfl, Below.refl _ _⟩
          | 1, ho =>
            obtain rfl := Option.some.inj ho
            have b7 : a.tmps[7]?.getD undef = .pointer (some ⟨B + 1 + 1, 0, none⟩) := get_of (hf.2 7 (by kernel_rfl))
            exact wp_value (.pointer (some ⟨B + 1 + 1, 2, none⟩)) (by unfold execOp; go_simp) ⟨rfl, Below.refl _ _⟩
          | 2, ho =>
            obtain rfl := Option.some.inj ho
            have e41 : a.tmps[41]?.getD undef = .pointer (some ⟨B + 1 + 1, 2, none⟩) := get_of (hf.1 ⟨1, .data⟩ (by simp) rfl _ 41 rfl rfl (by decide) (by decide))
            have e40 : a.tmps[40]?.getD undef = .int .i64 1 := get_of (hf.1 ⟨0, .data⟩ (by simp) rfl _ 40 rfl rfl (by decide) (by decide))
            exact wp_value (.pointer (some ⟨B + 1 + 1, 3, none⟩)) (by unfold execOp; go_simp) ⟨rfl, Below.refl _ _⟩
          | 3, ho =>
            obtain rfl := Option.some.inj ho
            have e42 : a.tmps[42]?.getD undef = .pointer (some ⟨B + 1 + 1, 3, none⟩) := get_of (hf.1 ⟨2, .data⟩ (by simp) rfl _ 42 rfl rfl (by decide) (by decide))
            obtain ⟨c0, c1, c2, c3⟩ := cells4 ((H2.out.later hb).node)
            exact wp_value (.iface t2 v2) (by unfold execOp; go_simp) ⟨rfl, Below.refl _ _⟩
          | 4, ho =>
            obtain rfl := Option.some.inj ho
            have b7 : a.tmps[7]?.getD undef = .pointer (some ⟨B + 1 + 1, 0, none⟩) := get_of (hf.2 7 (by kernel_rfl))
            exact wp_load_row 81 (.tmp 7) rfl (B + 1 + 1) (eval_get b7) 81 _ (0, 0) _ ((H2.out.later hb).node) Tryz.underlying81 rfl (info_say _ _ _ _) ⟨rfl, Below.refl _ _⟩
          | 5, ho =>
            obtain rfl := Option.some.inj ho
            have b4 : a.tmps[4]?.getD undef = .pointer (some ⟨B, 0, none⟩) := get_of (hf.2 4 (by kernel_rfl))
            exact wp_load_row 45 (.tmp 4) rfl B (eval_get b4) 45 _ (0, 0) _ ((H2.out.later hb).rect) Tryz.underlying45 rfl (info_rect _ _) ⟨rfl, Below.refl _ _⟩
          | 6, ho =>
            obtain rfl := Option.some.inj ho
            have b9 : a.tmps[9]?.getD undef = .int .i64 1 := get_of (hf.2 9 (by kernel_rfl))
            exact wp_value (.int .i64 1) (by unfold execOp; go_simp) ⟨rfl, Below.refl _ _⟩
          | 7, ho =>
            obtain rfl := Option.some.inj ho
            have e44 : a.tmps[44]?.getD undef = .agg #[.int .u8 wh, .int .i64 (s : Int), .iface t1 v1, .iface t2 v2] := get_of (hf.1 ⟨4, .data⟩ (by simp) rfl _ 44 rfl rfl (by decide) (by decide))
            have e45 : a.tmps[45]?.getD undef = rect R C := get_of (hf.1 ⟨5, .data⟩ (by simp) rfl _ 45 rfl rfl (by decide) (by decide))
            have e46 : a.tmps[46]?.getD undef = .int .i64 1 := get_of (hf.1 ⟨6, .data⟩ (by simp) rfl _ 46 rfl rfl (by decide) (by decide))
            exact wp_enter 51 #[.agg #[.int .u8 wh, .int .i64 (s : Int), .iface t1 v1, .iface t2 v2], rect R C, .int .i64 1] (rect iR iC) _ (by unfold execOp; go_simp) (HPi.out wx) (fun w' h => ⟨rfl, h⟩)
          | 8, ho =>
            obtain rfl := Option.some.inj ho
            have b2 : a.tmps[2]?.getD undef = .int .i64 (n : Int) := get_of (hf.2 2 (by kernel_rfl))
            exact wp_value (.int .i64 (n : Int)) (by unfold execOp; go_simp) ⟨rfl, Below.refl _ _⟩
          | 9, ho =>
            obtain rfl := Option.some.inj ho
            have e43 : a.tmps[43]?.getD undef = .iface t2 v2 := get_of (hf.1 ⟨3, .data⟩ (by simp) rfl _ 43 rfl rfl (by decide) (by decide))
            have e47 : a.tmps[47]?.getD undef = rect iR iC := get_of (hf.1 ⟨7, .data⟩ (by simp) rfl _ 47 rfl rfl (by decide) (by decide))
            have e48 : a.tmps[48]?.getD undef = .int .i64 (n : Int) := get_of (hf.1 ⟨8, .data⟩ (by simp) rfl _ 48 rfl rfl (by decide) (by decide))
            exact wp_enter 36 #[.iface t2 v2, rect iR iC, .int .i64 (n : Int)] (.agg #[.iface tpo vpo, .int .i64 (ro : Int), .int .i64 (co : Int), .iface txo vxo]) _ (by unfold execOp; go_simp) (HIO.out wx) (fun w' h => ⟨rfl, h⟩)
          | 10, ho => exact absurd rfl n1
          | 11, ho => exact absurd rfl n2
          | q + 12, ho => simp at ho
        case enB1 =>
          intro b w3 hb3 hle hcell
          have H3 := Lib.hid (H2.out.later hb3)
          have HC := Lib.hid hcell
          have hsz : B + 1 + 1 < w2.heap.size := (Array.getElem?_eq_some_iff.1 H2.out.node).1
          have n1 : b ≠ B + 1 + 1 := by omega
          have n2 : b ≠ B + 1 := by omega
          have n3 : B + 1 + 1 ≠ b := by omega
          have n4 : B + 1 ≠ b := by omega
          have HLE : Hid (B ≤ b) := by show B ≤ b; omega
          clear hb3 hle hcell hsz H2 HPi HIO
          simp only [fill, Act.put]
          go_simp
          obtain ⟨c0, c1, c2, c3⟩ := cells4 H3.out.node
          obtain ⟨g0, g1, g2, g3⟩ := frozen4 H3.out.node
          obtain ⟨d0, d1, d2, d3⟩ := cells4 HC.out
          obtain ⟨x0, x1, x2, x3⟩ := frozen4 HC.out
          obtain ⟨f0, f1, f2, f3⟩ := frozen4 H3.out.res
          obtain ⟨q0, q1, q2, q3⟩ := cells4 H3.out.res
          go_wp2_with fail
          have hs := H3.out.size
          have hr : ((w3.setCell ⟨B + 1 + 1, 3, none⟩ (.iface txo vxo)).setCell ⟨b, 3, none⟩ (.iface 81 (.agg #[.int .u8 wh, .int .i64 (s : Int), .iface t1 v1, .iface txo vxo]))).heap[B + 1]? = _ := (set_other n4).trans ((set_other (by omega)).trans H3.out.res)
          have hbl : b ≥ B := by have := HLE.out; omega
          have hb4 : Below w.heap.size w ((w3.setCell ⟨B + 1 + 1, 3, none⟩ (.iface txo vxo)).setCell ⟨b, 3, none⟩ (.iface 81 (.agg #[.int .u8 wh, .int .i64 (s : Int), .iface t1 v1, .iface txo vxo]))) := (H3.out.below.setCell (p := ⟨B + 1 + 1, 3, none⟩) (by simp only; omega) _).setCell (p := ⟨b, 3, none⟩) (by simp only; omega) _
          generalize ((w3.setCell ⟨B + 1 + 1, 3, none⟩ (.iface txo vxo)).setCell ⟨b, 3, none⟩ (.iface 81 (.agg #[.int .u8 wh, .int .i64 (s : Int), .iface t1 v1, .iface txo vxo]))) = w4 at *
          have k := set4 hr (.iface tpo vpo) (.int .i64 (ro : Int)) (.int .i64 (co : Int)) (.iface 81 (.agg #[.int .u8 wh, .int .i64 (s : Int), .iface t1 v1, .iface txo vxo]))
          have hb := (((hb4.setCell (p := ⟨B + 1, 0, none⟩) (by simp only; omega) (.iface tpo vpo)).setCell (p := ⟨B + 1, 1, none⟩) (by simp only; omega) (.int .i64 (ro : Int))).setCell (p := ⟨B + 1, 2, none⟩) (by simp only; omega) (.int .i64 (co : Int))).setCell (p := ⟨B + 1, 3, none⟩) (by simp only; omega) (.iface 81 (.agg #[.int .u8 wh, .int .i64 (s : Int), .iface t1 v1, .iface txo vxo]))
          generalize ((((w4.setCell ⟨B + 1, 0, none⟩ (.iface tpo vpo)).setCell ⟨B + 1, 1, none⟩ (.int .i64 (ro : Int))).setCell ⟨B + 1, 2, none⟩ (.int .i64 (co : Int))).setCell ⟨B + 1, 3, none⟩ (.iface 81 (.agg #[.int .u8 wh, .int .i64 (s : Int), .iface t1 v1, .iface txo vxo]))) = wf at *
          have HBF := Lib.hid hb
          obtain ⟨k0, k1, k2, k3⟩ := cells4 k
          clear hb k hs hr hb4 q0 q1 q2 q3 f0 f1 f2 f3 c0 c1 c2 c3 g0 g1 g2 g3 d0 d1 d2 d3 x0 x1 x2 x3
          refine bodyPost_ret (v := .agg #[.iface tpo vpo, .int .i64 (ro : Int), .int .i64 (co : Int), .iface 81 (.agg #[.int .u8 wh, .int .i64 (s : Int), .iface t1 v1, .iface txo vxo])]) (by simp [results, Tryz.results36, go_sem, k0, k1, k2, k3]) rfl ⟨?_, HBF.out⟩
          rw [← HR1.out]; simp only [cutV, tree, sayV, HE.out.1.1, HE.out.1.2, HE.out.2.1.1, HE.out.2.1.2, HWH.out]
    · have HR1 : Hid (cutV ⟨pz, rz, cz, .say a s xz o⟩ = res) := Lib.hid (by have h := HRS2.out; rw [if_neg hm] at h; exact h)
      have hd : decide ((E1 : Int) < (E2 : Int)) = false := by simp; omega
      clear HRS2 hE
      go_enter Tryz.func36, Tryz.ntmps36
      go_wp2_with fail
      refine (HS.out _).mono ?_
      rintro e w1 ⟨rfl, hb1⟩
      have H1 := Lib.hid (HW0.out.later hb1)
      clear hb1 hB HW0 HS
      go_wp2_with fail
      have bitC : ∀ W : World, Calls Tryz.prog 30 #[.bool false] W fun e w' => e = .returned (.int .i64 0) ∧ Below W.heap.size W w' := fun W => (bitOf_any false W).mono fun e w' h => ⟨h.1, h.2 ▸ Below.refl _ _⟩
      refine wp_region_below (fun | 0 => .pointer (some ⟨B + 1 + 1, 2, none⟩) | 1 => .pointer (some ⟨B + 1 + 1, 3, none⟩) | 2 => .iface t2 v2 | 3 => .int .i64 (E2 : Int) | 4 => .pointer (some ⟨B + 1 + 1, 2, none⟩) | 5 => .pointer (some ⟨B + 1 + 1, 2, none⟩) | 6 => .iface t1 v1 | 7 => .int .i64 (E1 : Int) | 8 => .bool false | 9 => .int .i64 0 | 10 => .int .i64 0 | _ => undef) (by kernel_rfl) (by kernel_rfl) rfl ?conA0 ?enA0
      case conA0 =>
        intro i o ho a wx hb hf
        match i, ho with
        | 0, ho =>
          obtain rfl := Option.some.inj ho
          have b7 : a.tmps[7]?.getD undef = .pointer (some ⟨B + 1 + 1, 0, none⟩) := hf.2 7 (by kernel_rfl)
          exact wp_value (.pointer (some ⟨B + 1 + 1, 2, none⟩)) (by unfold execOp; go_simp) ⟨rfl, Below.refl _ _⟩
        | 1, ho =>
          obtain rfl := Option.some.inj ho
          have e30 : a.tmps[30]?.getD undef = .pointer (some ⟨B + 1 + 1, 2, none⟩) := hf.1 ⟨0, .data⟩ (by simp) rfl _ 30 rfl rfl
          exact wp_value (.pointer (some ⟨B + 1 + 1, 3, none⟩)) (by unfold execOp; go_simp) ⟨rfl, Below.refl _ _⟩
        | 2, ho =>
          obtain rfl := Option.some.inj ho
          have e31 : a.tmps[31]?.getD undef = .pointer (some ⟨B + 1 + 1, 3, none⟩) := hf.1 ⟨1, .data⟩ (by simp) rfl _ 31 rfl rfl
          obtain ⟨c0, c1, c2, c3⟩ := cells4 ((H1.out.later hb).node)
          exact wp_value (.iface t2 v2) (by unfold execOp; go_simp) ⟨rfl, Below.refl _ _⟩
        | 3, ho =>
          obtain rfl := Option.some.inj ho
          have e32 : a.tmps[32]?.getD undef = .iface t2 v2 := hf.1 ⟨2, .data⟩ (by simp) rfl _ 32 rfl rfl
          rcases HO.out with ⟨V, ev, hv⟩ | ⟨V, ev, hv⟩
          · simp only [Value.iface.injEq] at ev
            obtain ⟨rfl, rfl⟩ := ev
            exact wp_enter 115 #[v2] (.int .i64 (E2 : Int)) _ (by unfold execOp; go_simp; go_invoke; rfl) (hv wx) (fun w' h => ⟨rfl, h⟩)
          · simp only [Value.iface.injEq] at ev
            obtain ⟨rfl, rfl⟩ := ev
            exact wp_enter 124 #[v2] (.int .i64 (E2 : Int)) _ (by unfold execOp; go_simp; go_invoke; rfl) (hv wx) (fun w' h => ⟨rfl, h⟩)
        | 4, ho =>
          obtain rfl := Option.some.inj ho
          have b7 : a.tmps[7]?.getD undef = .pointer (some ⟨B + 1 + 1, 0, none⟩) := hf.2 7 (by kernel_rfl)
          exact wp_value (.pointer (some ⟨B + 1 + 1, 2, none⟩)) (by unfold execOp; go_simp) ⟨rfl, Below.refl _ _⟩
        | 5, ho =>
          obtain rfl := Option.some.inj ho
          have e34 : a.tmps[34]?.getD undef = .pointer (some ⟨B + 1 + 1, 2, none⟩) := hf.1 ⟨4, .data⟩ (by simp) rfl _ 34 rfl rfl
          exact wp_value (.pointer (some ⟨B + 1 + 1, 2, none⟩)) (by unfold execOp; go_simp) ⟨rfl, Below.refl _ _⟩
        | 6, ho =>
          obtain rfl := Option.some.inj ho
          have e35 : a.tmps[35]?.getD undef = .pointer (some ⟨B + 1 + 1, 2, none⟩) := hf.1 ⟨5, .data⟩ (by simp) rfl _ 35 rfl rfl
          obtain ⟨c0, c1, c2, c3⟩ := cells4 ((H1.out.later hb).node)
          exact wp_value (.iface t1 v1) (by unfold execOp; go_simp) ⟨rfl, Below.refl _ _⟩
        | 7, ho =>
          obtain rfl := Option.some.inj ho
          have e36 : a.tmps[36]?.getD undef = .iface t1 v1 := hf.1 ⟨6, .data⟩ (by simp) rfl _ 36 rfl rfl
          rcases HZ.out with ⟨V, ev, hv⟩ | ⟨V, ev, hv⟩
          · simp only [Value.iface.injEq] at ev
            obtain ⟨rfl, rfl⟩ := ev
            exact wp_enter 115 #[v1] (.int .i64 (E1 : Int)) _ (by unfold execOp; go_simp; go_invoke; rfl) (hv wx) (fun w' h => ⟨rfl, h⟩)
          · simp only [Value.iface.injEq] at ev
            obtain ⟨rfl, rfl⟩ := ev
            exact wp_enter 124 #[v1] (.int .i64 (E1 : Int)) _ (by unfold execOp; go_simp; go_invoke; rfl) (hv wx) (fun w' h => ⟨rfl, h⟩)
        | 8, ho =>
          obtain rfl := Option.some.inj ho
          have e33 : a.tmps[33]?.getD undef = .int .i64 (E2 : Int) := hf.1 ⟨3, .data⟩ (by simp) rfl _ 33 rfl rfl
          have e37 : a.tmps[37]?.getD undef = .int .i64 (E1 : Int) := hf.1 ⟨7, .data⟩ (by simp) rfl _ 37 rfl rfl
          exact wp_value (.bool false) (by unfold execOp; go_simp; first | done | omega | (simp; omega) | (rw [hd]) | (simp [hd])) ⟨rfl, Below.refl _ _⟩
        | 9, ho =>
          obtain rfl := Option.some.inj ho
          have e38 : a.tmps[38]?.getD undef = .bool false := hf.1 ⟨8, .data⟩ (by simp) rfl _ 38 rfl rfl
          exact wp_enter 30 #[.bool false] (.int .i64 0) _ (by unfold execOp; go_simp) (bitC wx) (fun w' h => ⟨rfl, h⟩)
        | 10, ho =>
          obtain rfl := Option.some.inj ho
          have e39 : a.tmps[39]?.getD undef = .int .i64 0 := hf.1 ⟨9, .data⟩ (by simp) rfl _ 39 rfl rfl
          exact wp_value (.int .i64 0) (by unfold execOp; go_simp) ⟨rfl, Below.refl _ _⟩
        | q + 11, ho => simp at ho
      case enA0 =>
        intro w2 hb2
        have H2 := Lib.hid (H1.out.later hb2)
        clear hb2 H1 HZ HO bitC hd
        simp only [fill, Act.put]
        go_simp
        go_wp2_with fail
        refine wp_region_one (fun | 0 => .int .i64 0 | 1 => .pointer (some ⟨B + 1 + 1, 2, none⟩) | 2 => .pointer (some ⟨B + 1 + 1, 2, none⟩) | 3 => .iface t1 v1 | 4 => .agg #[.int .u8 wh, .int .i64 (s : Int), .iface t1 v1, .iface t2 v2] | 5 => rect R C | 6 => .int .i64 0 | 7 => rect oR oC | 8 => .int .i64 (n : Int) | 9 => .agg #[.iface tpz vpz, .int .i64 (rz : Int), .int .i64 (cz : Int), .iface txz vxz] | _ => undef) 10 11 10 77 #[.nilIface, .int .i64 0, .int .i64 0, .nilIface] #[.iface tpz vpz, .int .i64 (rz : Int), .int .i64 (cz : Int), .iface txz vxz] _ _ (by kernel_rfl) (by kernel_rfl) rfl rfl rfl rfl rfl (by decide) ⟨⟨10, .data⟩, (by simp), rfl, rfl⟩ rfl ?alB0 ?stB0 ?conB0 ?enB0
        case alB0 =>
          intro a w
          unfold execOp
          go_simp
        case stB0 =>
          intro a wx b old hf hp hg hsz
          have e49 : a.tmps[49]?.getD undef = .agg #[.iface tpz vpz, .int .i64 (rz : Int), .int .i64 (cz : Int), .iface txz vxz] := get_of (hf.1 ⟨9, .data⟩ (by simp) rfl _ 49 rfl rfl (by decide) (by decide))
          refine wp_store_row 77 (.tmp 10) (.tmp 49) rfl b #[.iface tpz vpz, .int .i64 (rz : Int), .int .i64 (cz : Int), .iface txz vxz] hp (eval_get e49) 77 old hg (info_cut _ _ _ _) hsz (one_cut _ _ _ _ _ _) ⟨rfl, rfl⟩
        case conB0 =>
          intro i o ho n1 n2 a wx hb hf
          match i, ho with
          | 0, ho =>
            obtain rfl := Option.some.inj ho
            have b9 : a.tmps[9]?.getD undef = .int .i64 0 := get_of (hf.2 9 (by kernel_rfl))
            exact wp_value (.int .i64 0) (by unfold execOp; go_simp) ⟨rfl, Below.refl _ _⟩
          | 1, ho =>
            obtain rfl := Option.some.inj ho
            have b7 : a.tmps[7]?.getD undef = .pointer (some ⟨B + 1 + 1, 0, none⟩) := get_of (hf.2 7 (by kernel_rfl))
            exact wp_value (.pointer (some ⟨B + 1 + 1, 2, none⟩)) (by unfold execOp; go_simp) ⟨rfl, Below.refl _ _⟩
          | 2, ho =>
            obtain rfl := Option.some.inj ho
            have e41 : a.tmps[41]?.getD undef = .pointer (some ⟨B + 1 + 1, 2, none⟩) := get_of (hf.1 ⟨1, .data⟩ (by simp) rfl _ 41 rfl rfl (by decide) (by decide))
            have e40 : a.tmps[40]?.getD undef = .int .i64 0 := get_of (hf.1 ⟨0, .data⟩ (by simp) rfl _ 40 rfl rfl (by decide) (by decide))
            exact wp_value (.pointer (some ⟨B + 1 + 1, 2, none⟩)) (by unfold execOp; go_simp) ⟨rfl, Below.refl _ _⟩
          | 3, ho =>
            obtain rfl := Option.some.inj ho
            have e42 : a.tmps[42]?.getD undef = .pointer (some ⟨B + 1 + 1, 2, none⟩) := get_of (hf.1 ⟨2, .data⟩ (by simp) rfl _ 42 rfl rfl (by decide) (by decide))
            obtain ⟨c0, c1, c2, c3⟩ := cells4 ((H2.out.later hb).node)
            exact wp_value (.iface t1 v1) (by unfold execOp; go_simp) ⟨rfl, Below.refl _ _⟩
          | 4, ho =>
            obtain rfl := Option.some.inj ho
            have b7 : a.tmps[7]?.getD undef = .pointer (some ⟨B + 1 + 1, 0, none⟩) := get_of (hf.2 7 (by kernel_rfl))
            exact wp_load_row 81 (.tmp 7) rfl (B + 1 + 1) (eval_get b7) 81 _ (0, 0) _ ((H2.out.later hb).node) Tryz.underlying81 rfl (info_say _ _ _ _) ⟨rfl, Below.refl _ _⟩
          | 5, ho =>
            obtain rfl := Option.some.inj ho
            have b4 : a.tmps[4]?.getD undef = .pointer (some ⟨B, 0, none⟩) := get_of (hf.2 4 (by kernel_rfl))
            exact wp_load_row 45 (.tmp 4) rfl B (eval_get b4) 45 _ (0, 0) _ ((H2.out.later hb).rect) Tryz.underlying45 rfl (info_rect _ _) ⟨rfl, Below.refl _ _⟩
          | 6, ho =>
            obtain rfl := Option.some.inj ho
            have b9 : a.tmps[9]?.getD undef = .int .i64 0 := get_of (hf.2 9 (by kernel_rfl))
            exact wp_value (.int .i64 0) (by unfold execOp; go_simp) ⟨rfl, Below.refl _ _⟩
          | 7, ho =>
            obtain rfl := Option.some.inj ho
            have e44 : a.tmps[44]?.getD undef = .agg #[.int .u8 wh, .int .i64 (s : Int), .iface t1 v1, .iface t2 v2] := get_of (hf.1 ⟨4, .data⟩ (by simp) rfl _ 44 rfl rfl (by decide) (by decide))
            have e45 : a.tmps[45]?.getD undef = rect R C := get_of (hf.1 ⟨5, .data⟩ (by simp) rfl _ 45 rfl rfl (by decide) (by decide))
            have e46 : a.tmps[46]?.getD undef = .int .i64 0 := get_of (hf.1 ⟨6, .data⟩ (by simp) rfl _ 46 rfl rfl (by decide) (by decide))
            exact wp_enter 51 #[.agg #[.int .u8 wh, .int .i64 (s : Int), .iface t1 v1, .iface t2 v2], rect R C, .int .i64 0] (rect oR oC) _ (by unfold execOp; go_simp) (HPo.out wx) (fun w' h => ⟨rfl, h⟩)
          | 8, ho =>
            obtain rfl := Option.some.inj ho
            have b2 : a.tmps[2]?.getD undef = .int .i64 (n : Int) := get_of (hf.2 2 (by kernel_rfl))
            exact wp_value (.int .i64 (n : Int)) (by unfold execOp; go_simp) ⟨rfl, Below.refl _ _⟩
          | 9, ho =>
            obtain rfl := Option.some.inj ho
            have e43 : a.tmps[43]?.getD undef = .iface t1 v1 := get_of (hf.1 ⟨3, .data⟩ (by simp) rfl _ 43 rfl rfl (by decide) (by decide))
            have e47 : a.tmps[47]?.getD undef = rect oR oC := get_of (hf.1 ⟨7, .data⟩ (by simp) rfl _ 47 rfl rfl (by decide) (by decide))
            have e48 : a.tmps[48]?.getD undef = .int .i64 (n : Int) := get_of (hf.1 ⟨8, .data⟩ (by simp) rfl _ 48 rfl rfl (by decide) (by decide))
            exact wp_enter 36 #[.iface t1 v1, rect oR oC, .int .i64 (n : Int)] (.agg #[.iface tpz vpz, .int .i64 (rz : Int), .int .i64 (cz : Int), .iface txz vxz]) _ (by unfold execOp; go_simp) (HIZ.out wx) (fun w' h => ⟨rfl, h⟩)
          | 10, ho => exact absurd rfl n1
          | 11, ho => exact absurd rfl n2
          | q + 12, ho => simp at ho
        case enB0 =>
          intro b w3 hb3 hle hcell
          have H3 := Lib.hid (H2.out.later hb3)
          have HC := Lib.hid hcell
          have hsz : B + 1 + 1 < w2.heap.size := (Array.getElem?_eq_some_iff.1 H2.out.node).1
          have n1 : b ≠ B + 1 + 1 := by omega
          have n2 : b ≠ B + 1 := by omega
          have n3 : B + 1 + 1 ≠ b := by omega
          have n4 : B + 1 ≠ b := by omega
          have HLE : Hid (B ≤ b) := by show B ≤ b; omega
          clear hb3 hle hcell hsz H2 HPo HIZ
          simp only [fill, Act.put]
          go_simp
          obtain ⟨c0, c1, c2, c3⟩ := cells4 H3.out.node
          obtain ⟨g0, g1, g2, g3⟩ := frozen4 H3.out.node
          obtain ⟨d0, d1, d2, d3⟩ := cells4 HC.out
          obtain ⟨x0, x1, x2, x3⟩ := frozen4 HC.out
          obtain ⟨f0, f1, f2, f3⟩ := frozen4 H3.out.res
          obtain ⟨q0, q1, q2, q3⟩ := cells4 H3.out.res
          go_wp2_with fail
          have hs := H3.out.size
          have hr : ((w3.setCell ⟨B + 1 + 1, 2, none⟩ (.iface txz vxz)).setCell ⟨b, 3, none⟩ (.iface 81 (.agg #[.int .u8 wh, .int .i64 (s : Int), .iface txz vxz, .iface t2 v2]))).heap[B + 1]? = _ := (set_other n4).trans ((set_other (by omega)).trans H3.out.res)
          have hbl : b ≥ B := by have := HLE.out; omega
          have hb4 : Below w.heap.size w ((w3.setCell ⟨B + 1 + 1, 2, none⟩ (.iface txz vxz)).setCell ⟨b, 3, none⟩ (.iface 81 (.agg #[.int .u8 wh, .int .i64 (s : Int), .iface txz vxz, .iface t2 v2]))) := (H3.out.below.setCell (p := ⟨B + 1 + 1, 2, none⟩) (by simp only; omega) _).setCell (p := ⟨b, 3, none⟩) (by simp only; omega) _
          generalize ((w3.setCell ⟨B + 1 + 1, 2, none⟩ (.iface txz vxz)).setCell ⟨b, 3, none⟩ (.iface 81 (.agg #[.int .u8 wh, .int .i64 (s : Int), .iface txz vxz, .iface t2 v2]))) = w4 at *
          have k := set4 hr (.iface tpz vpz) (.int .i64 (rz : Int)) (.int .i64 (cz : Int)) (.iface 81 (.agg #[.int .u8 wh, .int .i64 (s : Int), .iface txz vxz, .iface t2 v2]))
          have hb := (((hb4.setCell (p := ⟨B + 1, 0, none⟩) (by simp only; omega) (.iface tpz vpz)).setCell (p := ⟨B + 1, 1, none⟩) (by simp only; omega) (.int .i64 (rz : Int))).setCell (p := ⟨B + 1, 2, none⟩) (by simp only; omega) (.int .i64 (cz : Int))).setCell (p := ⟨B + 1, 3, none⟩) (by simp only; omega) (.iface 81 (.agg #[.int .u8 wh, .int .i64 (s : Int), .iface txz vxz, .iface t2 v2]))
          generalize ((((w4.setCell ⟨B + 1, 0, none⟩ (.iface tpz vpz)).setCell ⟨B + 1, 1, none⟩ (.int .i64 (rz : Int))).setCell ⟨B + 1, 2, none⟩ (.int .i64 (cz : Int))).setCell ⟨B + 1, 3, none⟩ (.iface 81 (.agg #[.int .u8 wh, .int .i64 (s : Int), .iface txz vxz, .iface t2 v2]))) = wf at *
          have HBF := Lib.hid hb
          obtain ⟨k0, k1, k2, k3⟩ := cells4 k
          clear hb k hs hr hb4 q0 q1 q2 q3 f0 f1 f2 f3 c0 c1 c2 c3 g0 g1 g2 g3 d0 d1 d2 d3 x0 x1 x2 x3
          refine bodyPost_ret (v := .agg #[.iface tpz vpz, .int .i64 (rz : Int), .int .i64 (cz : Int), .iface 81 (.agg #[.int .u8 wh, .int .i64 (s : Int), .iface txz vxz, .iface t2 v2])]) (by simp [results, Tryz.results36, go_sem, k0, k1, k2, k3]) rfl ⟨?_, HBF.out⟩
          rw [← HR1.out]; simp only [cutV, tree, sayV, HE.out.1.1, HE.out.1.2, HE.out.2.2.1, HE.out.2.2.2, HWH.out]
end Go.Proofs.YtbbgibbpeibhiaaGreatDoor.CutI

