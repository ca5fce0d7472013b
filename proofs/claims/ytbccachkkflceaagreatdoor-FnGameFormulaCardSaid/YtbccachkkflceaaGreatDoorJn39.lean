/-
  Texts of one seat, joined: GfM, FreeN.
-/
import Derived.Test.YtbccachkkflceaaGreatDoorJn1
import Derived.Test.YtbccachkkflceaaGreatDoorJn28
import Derived.Test.YtbccachkkflceaaGreatDoorJn14
/-
  The formula of a protocol that plays the game of a table. Nothing of the program.
-/
namespace Go.Proofs.YtbccachkkflceaaGreatDoor.GfM
open Go.RowKit Go.Proofs.YtbccachkkflceaaGreatDoor.Plain Go.Proofs.YtbccachkkflceaaGreatDoor.Pat Go.Proofs.YtbccachkkflceaaGreatDoor.Tree Go.Proofs.YtbccachkkflceaaGreatDoor.TrimT Go.Proofs.YtbccachkkflceaaGreatDoor.Leaf Go.Proofs.YtbccachkkflceaaGreatDoor.Talk Go.Proofs.YtbccachkkflceaaGreatDoor.PlM
open Go.Proofs.YtbccachkkflceaaGreatDoor.Fm (F val)
set_option linter.unusedVariables false

/-- the least number of a set -/
def leastN (R : Nat) : Nat := ((List.range 8).find? fun x => R.testBit x).getD 0
theorem least_in {R : Nat} (h : R < 256) (h0 : R ≠ 0) : R.testBit (leastN R) = true ∧ leastN R < 8 ∧ ∀ x, x < leastN R → R.testBit x = false := by
  have key : ∀ R : Fin 256, R.1 ≠ 0 → R.1.testBit (leastN R.1) = true ∧ leastN R.1 < 8 ∧ ∀ x : Fin 8, x.1 < leastN R.1 → R.1.testBit x.1 = false := by decide +kernel
  obtain ⟨h1, h2, h3⟩ := key ⟨R, h⟩ h0
  have h2' : leastN R < 8 := h2
  exact ⟨h1, h2', fun x hx => h3 ⟨x, by omega⟩ hx⟩

/-- as the reference tells it -/
def frmS : T → Nat → Nat → F
  | .leaf b, R, C => .lit (gN b) ((leastN R).testBit (gN b))
  | .say a s z o, R, C =>
    if outR a s R = 0 ∨ outC a s C = 0 then frmS o (inR a s R) (inC a s C)
    else if inR a s R = 0 ∨ inC a s C = 0 then frmS z (outR a s R) (outC a s C)
    else .gate (!a) (frmS z (outR a s R) (outC a s C)) (frmS o (inR a s R) (inC a s C))
/-- as the program tells it, of a trimmed protocol -/
def frmI : T → Nat → Nat → F
  | .leaf b, R, C => match partL (gN b) R C with
    | some v => .lit (gN b) v
    | none => .lit 0 false
  | .say a s z o, R, C => .gate (!a) (frmI z (outR a s R) (outC a s C)) (frmI o (inR a s R) (inC a s C))
theorem frmS_wf : ∀ (t : T) (R C : Nat), Fm.wf 3 (frmS t R C)
  | .leaf b, _, _ => gN_lt b
  | .say a s z o, R, C => by
    have h1 := frmS_wf z (outR a s R) (outC a s C)
    have h2 := frmS_wf o (inR a s R) (inC a s C)
    unfold frmS
    split
    · exact h2
    · split
      · exact h1
      · exact ⟨h1, h2⟩
theorem frmI_wf : ∀ (t : T) (R C : Nat), Fm.wf 3 (frmI t R C)
  | .leaf b, R, C => by
    unfold frmI
    cases partL (gN b) R C with
    | none => show (0 : Nat) < 3; omega
    | some v => exact gN_lt b
  | .say a s z o, R, C => ⟨frmI_wf z _ _, frmI_wf o _ _⟩

theorem meet_meet (R s : Nat) (h : R < 256) : meetN R (meetN R s) = meetN R s := by
  apply Nat.eq_of_testBit_eq
  intro i
  rw [meet_bit R _ i h, meet_bit R s i h]
  cases R.testBit i <;> simp
theorem minus_meet (R s : Nat) (h : R < 256) : minusN R (meetN R s) = minusN R s := by
  apply Nat.eq_of_testBit_eq
  intro i
  rw [minus_bit R _ i h, meet_bit R s i h, minus_bit R s i h]
  cases R.testBit i <;> simp
theorem parts_again (a : Bool) (s R C : Nat) (hR : R < 256) (hC : C < 256) :
    outR a (if a then inR a s R else inC a s C) R = outR a s R ∧ outC a (if a then inR a s R else inC a s C) C = outC a s C ∧ inR a (if a then inR a s R else inC a s C) R = inR a s R ∧ inC a (if a then inR a s R else inC a s C) C = inC a s C := by
  cases a
  · simp only [outR, outC, inR, inC, if_false, Bool.false_eq_true, meet_meet C s hC, minus_meet C s hC, and_self]
  · simp only [outR, outC, inR, inC, if_true, meet_meet R s hR, minus_meet R s hR, and_self]
theorem play_parts (a : Bool) (s : Nat) (z o : T) (R C : Nat) (h : playB (.say a s z o) R C = true) : playB z (outR a s R) (outC a s C) = true ∧ playB o (inR a s R) (inC a s C) = true := by
  have e : playB (.say a s z o) R C = (playB z (outR a s R) (outC a s C) && playB o (inR a s R) (inC a s C)) := by
    unfold playB
    simp only [leavesT, List.all_append]
  rw [e, Bool.and_eq_true] at h
  exact h
theorem all_out (R s : Nat) (h : R < 256) (h0 : meetN R s = 0) : minusN R s = R := by
  apply Nat.eq_of_testBit_eq
  intro i
  have := zero_iff.1 h0 i
  rw [meet_bit R s i h] at this
  rw [minus_bit R s i h]
  cases hr : R.testBit i <;> cases hs : s.testBit i <;> simp [hr, hs] at this ⊢
theorem all_in (R s : Nat) (h : R < 256) (h0 : minusN R s = 0) : meetN R s = R := by
  apply Nat.eq_of_testBit_eq
  intro i
  have := zero_iff.1 h0 i
  rw [minus_bit R s i h] at this
  rw [meet_bit R s i h]
  cases hr : R.testBit i <;> cases hs : s.testBit i <;> simp [hr, hs] at this ⊢
theorem in_none (a : Bool) (s R C : Nat) (hR : R < 256) (hC : C < 256) (hR0 : R ≠ 0) (hC0 : C ≠ 0) (h : inR a s R = 0 ∨ inC a s C = 0) : outR a s R = R ∧ outC a s C = C := by
  cases a
  · simp only [outR, outC, inR, inC, if_false, Bool.false_eq_true] at h ⊢
    exact ⟨trivial, all_out C s hC (by omega)⟩
  · simp only [outR, outC, inR, inC, if_true] at h ⊢
    exact ⟨all_out R s hR (by omega), trivial⟩
theorem out_none (a : Bool) (s R C : Nat) (hR : R < 256) (hC : C < 256) (hR0 : R ≠ 0) (hC0 : C ≠ 0) (h : outR a s R = 0 ∨ outC a s C = 0) : inR a s R = R ∧ inC a s C = C := by
  cases a
  · simp only [outR, outC, inR, inC, if_false, Bool.false_eq_true] at h ⊢
    exact ⟨trivial, all_in C s hC (by omega)⟩
  · simp only [outR, outC, inR, inC, if_true] at h ⊢
    exact ⟨all_in R s hR (by omega), trivial⟩
/-- both are the same where it plays -/
theorem frm_same : ∀ (t : T) (R C : Nat), R < 256 → C < 256 → R ≠ 0 → C ≠ 0 → playB t R C = true → frmI (trimT t R C) R C = frmS t R C
  | .leaf b, R, C, hR, hC, hR0, hC0, hp => by
    have hs : (partL (gN b) R C).isSome = true := by
      unfold playB at hp
      simp only [leavesT] at hp
      rw [if_neg (by omega)] at hp
      simpa using hp
    obtain ⟨h1, _, _⟩ := least_in hR hR0
    show (match partL (gN b) R C with | some v => F.lit (gN b) v | none => F.lit 0 false) = F.lit (gN b) ((leastN R).testBit (gN b))
    unfold partL at hs ⊢
    by_cases p1 : partB (gN b) false R C
    · rw [if_pos p1]
      show F.lit (gN b) false = _
      rw [((part_iff hR hC).1 p1).1 _ h1]
    · rw [if_neg p1] at hs ⊢
      by_cases p2 : partB (gN b) true R C
      · rw [if_pos p2]
        show F.lit (gN b) true = _
        rw [((part_iff hR hC).1 p2).1 _ h1]
      · rw [if_neg p2] at hs
        cases hs
  | .say a s z o, R, C, hR, hC, hR0, hC0, hp => by
    obtain ⟨h1, h2, h3, h4⟩ := parts_lt a s hR hC
    obtain ⟨pz, po⟩ := play_parts a s z o R C hp
    have hnb := not_both a s hR hC (by omega) (by omega)
    unfold trimT frmS
    by_cases g1 : inR a s R = 0 ∨ inC a s C = 0
    · obtain ⟨k1, k2⟩ := hnb g1
      obtain ⟨e1, e2⟩ := in_none a s R C hR hC hR0 hC0 g1
      rw [if_pos g1, if_neg (by omega), if_pos g1, ← frm_same z _ _ h1 h2 (by omega) (by omega) pz]
      rw [e1, e2]
    · rw [if_neg g1]
      by_cases g2 : outR a s R = 0 ∨ outC a s C = 0
      · obtain ⟨e1, e2⟩ := out_none a s R C hR hC hR0 hC0 g2
        rw [if_pos g2, if_pos g2, ← frm_same o _ _ h3 h4 (by omega) (by omega) po]
        rw [e1, e2]
      · rw [if_neg g2, if_neg g2, if_neg g1]
        obtain ⟨e1, e2, e3, e4⟩ := parts_again a s R C hR hC
        show F.gate (!a) (frmI (trimT z (outR a s R) (outC a s C)) (outR a _ R) (outC a _ C)) (frmI (trimT o (inR a s R) (inC a s C)) (inR a _ R) (inC a _ C)) = _
        rw [e1, e2, e3, e4, frm_same z _ _ h1 h2 (by omega) (by omega) pz, frm_same o _ _ h3 h4 (by omega) (by omega) po]

/-- how many numbers are in a set -/
def cnt (R : Nat) : Nat := (List.range 8).countP fun i => R.testBit i
theorem cnt_split (R s : Nat) (h : R < 256) : cnt (minusN R s) + cnt (meetN R s) = cnt R := by
  have key : ∀ l : List Nat, (l.countP fun i => (minusN R s).testBit i) + (l.countP fun i => (meetN R s).testBit i) = l.countP fun i => R.testBit i := by
    intro l
    induction l with
    | nil => rfl
    | cons i l ih =>
      simp only [List.countP_cons, minus_bit R s i h, meet_bit R s i h] at ih ⊢
      cases R.testBit i <;> cases s.testBit i <;> simp at ih ⊢ <;> omega
  exact key _
theorem cnt_pos {R : Nat} (h : R < 256) (h0 : R ≠ 0) : 1 ≤ cnt R := by
  have key : ∀ R : Fin 256, R.1 ≠ 0 → 1 ≤ cnt R.1 := by decide +kernel
  exact key ⟨R, h⟩ h0
theorem cnt_both (P : Nat → Bool) (n : Nat) (h : n ≤ 8) : cnt (setB P n) + cnt (setB (fun k => !P k) n) ≤ 8 := by
  have key : ∀ l : List Nat, (l.countP fun i => (setB P n).testBit i) + (l.countP fun i => (setB (fun k => !P k) n).testBit i) ≤ l.length := by
    intro l
    induction l with
    | nil => exact Nat.le_refl _
    | cons i l ih =>
      simp only [List.countP_cons, setB_bit, List.length_cons] at ih ⊢
      cases decide (i < n) <;> cases P i <;> simp at ih ⊢ <;> omega
  have := key (List.range 8)
  rw [List.length_range] at this
  exact this
/-- no more letters than pairs of numbers -/
theorem frm_size : ∀ (t : T) (R C : Nat), R < 256 → C < 256 → R ≠ 0 → C ≠ 0 → Fm.size (frmS t R C) ≤ cnt R * cnt C
  | .leaf b, R, C, hR, hC, hR0, hC0 => Nat.mul_pos (cnt_pos hR hR0) (cnt_pos hC hC0)
  | .say a s z o, R, C, hR, hC, hR0, hC0 => by
    obtain ⟨h1, h2, h3, h4⟩ := parts_lt a s hR hC
    have hsum : cnt (outR a s R) * cnt (outC a s C) + cnt (inR a s R) * cnt (inC a s C) = cnt R * cnt C := by
      cases a
      · simp only [outR, outC, inR, inC, if_false, Bool.false_eq_true]
        rw [← Nat.mul_add, cnt_split C s hC]
      · simp only [outR, outC, inR, inC, if_true]
        rw [← Nat.add_mul, cnt_split R s hR]
    unfold frmS
    by_cases g1 : outR a s R = 0 ∨ outC a s C = 0
    · obtain ⟨e1, e2⟩ := out_none a s R C hR hC hR0 hC0 g1
      rw [if_pos g1, e1, e2]
      exact frm_size o R C hR hC hR0 hC0
    · rw [if_neg g1]
      by_cases g2 : inR a s R = 0 ∨ inC a s C = 0
      · obtain ⟨e1, e2⟩ := in_none a s R C hR hC hR0 hC0 g2
        rw [if_pos g2, e1, e2]
        exact frm_size z R C hR hC hR0 hC0
      · rw [if_neg g2]
        have i1 := frm_size z _ _ h1 h2 (by omega) (by omega)
        have i2 := frm_size o _ _ h3 h4 (by omega) (by omega)
        show Fm.size (frmS z _ _) + Fm.size (frmS o _ _) ≤ _
        omega
end Go.Proofs.YtbccachkkflceaaGreatDoor.GfM

/-
  The law at two new blocks and one store into each, saying that the blocks are two.
-/
namespace Go.Proofs.YtbccachkkflceaaGreatDoor.FreeN
open Go Go.RowKit Go.Proofs.YtbccachkkflceaaGreatDoor.Free Go.Proofs.YtbccachkkflceaaGreatDoor.FreeT Go.Proofs.YtbccachkkflceaaGreatDoor.FreeW
set_option linter.unusedVariables false

section
variable {P : Program} {ops : Array Oper}

set_option maxHeartbeats 1000000 in
/-- THE LAW AT TWO NEW BLOCKS AND A STORE INTO EACH -/
theorem wp_region_apart {id n : Nat} {a0 : Act} {w0 : World} {Q : Exit → Act → World → Prop} (con : Nat → Value) (kn : Nat → Bool) (A1 A2 S1 S2 d1 d2 : Nat) (T : TypeId) (zs cells1 cells2 : Array Value) (oa1 oa2 os1 os2 : Oper)
    (hm : P.follows .mixedOrders = true) (hB : freeB ops n = true) (hn : a0.tmps.size = n)
    (ha1 : ops[A1]? = some oa1) (had1 : oa1.dst = some d1) (ha2 : ops[A2]? = some oa2) (had2 : oa2.dst = some d2) (hs1 : ops[S1]? = some os1) (hsd1 : os1.dst = none) (hs2 : ops[S2]? = some os2) (hsd2 : os2.dst = none)
    (hk : kn = fun i => !(i == A1) && !(i == A2) && !(i == S1) && !(i == S2)) (hne : [A1, A2, S1, S2].Nodup) (hd12 : d1 ≠ d2)
    (hdep1 : ∃ e ∈ os1.after, Region.binds .any e = true ∧ e.on = A1) (hdep2 : ∃ e ∈ os2.after, Region.binds .any e = true ∧ e.on = A2)
    (hoth : ∀ (i : Nat) (o : Oper), ops[i]? = some o → kn i = true → o.dst ≠ some d1 ∧ o.dst ≠ some d2)
    (hu1 : a0.tmps[d1]? = some undef) (hu2 : a0.tmps[d2]? = some undef)
    (hal1 : ∀ (a : Act) (w : World), (execOp a.eval oa1).run P w = .ok (.value (.pointer (some ⟨w.heap.size, 0, none⟩))) (w.alloc (.cells zs T)))
    (hal2 : ∀ (a : Act) (w : World), (execOp a.eval oa2).run P w = .ok (.value (.pointer (some ⟨w.heap.size, 0, none⟩))) (w.alloc (.cells zs T)))
    (hst1 : ∀ (a : Act) (w : World) (b : Nat) (old : Array Value), FactsA ops a0 con kn os1 a → a.tmps[d1]? = some (.pointer (some ⟨b, 0, none⟩)) → w.heap[b]? = some (.cells old T (0, 0)) → (old = zs ∨ old = cells1) →
      os1.wp P a w (fun a' w' => a' = a ∧ w' = w.setRow b cells1) Q)
    (hst2 : ∀ (a : Act) (w : World) (b : Nat) (old : Array Value), FactsA ops a0 con kn os2 a → a.tmps[d2]? = some (.pointer (some ⟨b, 0, none⟩)) → w.heap[b]? = some (.cells old T (0, 0)) → (old = zs ∨ old = cells2) →
      os2.wp P a w (fun a' w' => a' = a ∧ w' = w.setRow b cells2) Q)
    (hcon : ∀ (i : Nat) (o : Oper), ops[i]? = some o → kn i = true → ∀ (a : Act) (w : World), Below w0.heap.size w0 w → FactsA ops a0 con kn o a →
      o.wp P a w (fun a' w' => a' = a.put o.dst (con i) ∧ Below w.heap.size w w') Q)
    (hend : ∀ (b1 b2 : Nat) (w : World), Below w0.heap.size w0 w → w0.heap.size ≤ b1 → w0.heap.size ≤ b2 → w.heap[b1]? = some (.cells cells1 T (0, 0)) → w.heap[b2]? = some (.cells cells2 T (0, 0)) → b1 ≠ b2 →
      Q .normal (fill ops.toList (fun i => if i = A1 then .pointer (some ⟨b1, 0, none⟩) else if i = A2 then .pointer (some ⟨b2, 0, none⟩) else con i) 0 a0) w) : (Code.region id ops true).wp P Q a0 w0 := by
  have hB2 := hB
  simp only [freeB, Bool.and_eq_true, decide_eq_true_eq] at hB2
  obtain ⟨⟨h1, h2⟩, _⟩ := hB2
  have hdn : ∀ (o : Oper) (k : Tmp), o ∈ ops.toList → o.dst = some k → k < n := fun o k ho hk => by
    have := List.all_eq_true.1 h1 o ho
    simp only [Bool.and_eq_true, hk] at this
    simpa using this.2
  have hd1n : d1 < n := hdn oa1 d1 (by simpa using Array.mem_of_getElem? ha1) had1
  have hd2n : d2 < n := hdn oa2 d2 (by simpa using Array.mem_of_getElem? ha2) had2
  obtain ⟨n12, n13, n14, n23, n24, n34⟩ : A1 ≠ A2 ∧ A1 ≠ S1 ∧ A1 ≠ S2 ∧ A2 ≠ S1 ∧ A2 ≠ S2 ∧ S1 ≠ S2 := by
    simp only [List.nodup_cons, List.mem_cons, List.not_mem_nil, or_false, not_or] at hne
    exact ⟨hne.1.1, hne.1.2.1, hne.1.2.2, hne.2.1.1, hne.2.1.2, hne.2.2.1⟩
  have hkt : ∀ i, kn i = true ↔ i ≠ A1 ∧ i ≠ A2 ∧ i ≠ S1 ∧ i ≠ S2 := fun i => by
    rw [hk]; simp [and_assoc]
  let Y : Nat → Value → Act → World → Prop := fun i v a w => kn i = true → v = con i
  let S : (Nat → Bool) → Act → World → Prop := fun g a w => Below w0.heap.size w0 w ∧ Laid w0.heap.size d1 T zs cells1 (g A1) (g S1) a w ∧ Laid w0.heap.size d2 T zs cells2 (g A2) (g S2) a w ∧
    ∀ b1 b2, a.tmps[d1]? = some (.pointer (some ⟨b1, 0, none⟩)) → a.tmps[d2]? = some (.pointer (some ⟨b2, 0, none⟩)) → b1 ≠ b2
  have facts : ∀ (listed : Array Bool) (o : Oper) (a : Act) (w : World), MidA ops a0 Y S listed a w → (∀ e ∈ o.after, Region.binds .any e = true → listed.getD e.on false = true) → FactsA ops a0 con kn o a := by
    intro listed o a w hM hdl
    refine ⟨fun e he hb oj dj hoj hdj hkn => ?_, fun k hk => ?_⟩
    · obtain ⟨v, hv, hvd⟩ := hM.new e.on oj hoj (hdl e he hb)
      rw [hvd dj hdj, ← hv hkn]
      rfl
    · rw [hM.old k fun i o' ho' hd' => ?_]
      have := List.all_eq_true.1 hk o' (by simpa using Array.mem_of_getElem? ho')
      simp [hd'] at this
  refine wp_region_freeA (Y := Y) (S := S) hm hB hn ⟨(Below.refl w0.heap.size w0).drew, ⟨fun _ => hu1, fun h => (by cases h)⟩, ⟨fun _ => hu2, fun h => (by cases h)⟩, fun b1 b2 e1 _ => (by rw [hu1] at e1; simp [undef] at e1)⟩ ?_ ?_
  · intro i o ho listed a w hM hu hdl
    obtain ⟨hBl, hL1, hL2, hap⟩ := hM.world
    have hsz : a.tmps.size = n := hM.size.trans hn
    by_cases h1a : i = A1
    · subst h1a
      obtain rfl : o = oa1 := Option.some.inj (ho.symm.trans ha1)
      unfold Oper.wp
      rw [hal1 a w]
      have hsu : listed.getD S1 false = false := by
        cases hl : listed.getD S1 false with
        | false => rfl
        | true =>
          exfalso
          obtain ⟨e, he, hb, heq⟩ := hdep1
          have := hM.closed S1 os1 hs1 hl e he hb
          rw [heq, hu] at this
          cases this
      have hnew : (a.put o.dst (.pointer (some ⟨w.heap.size, 0, none⟩))).tmps[d1]? = some (.pointer (some ⟨w.heap.size, 0, none⟩)) := by
        rw [had1]; simp [Act.put, hsz, hd1n]
      have hsame : (a.put o.dst (.pointer (some ⟨w.heap.size, 0, none⟩))).tmps[d2]? = a.tmps[d2]? := put_other (by rw [had1]; simp; omega)
      refine ⟨_, rfl, fun h => absurd rfl ((hkt _).1 h).1, ⟨hBl.alloc hBl.size _, ?_, ?_, ?_⟩, fun j u _ _ hY => hY⟩
      · refine ⟨fun h => (by simp at h), fun _ => ⟨w.heap.size, hnew, hBl.size, ?_⟩⟩
        simp only [if_neg (Ne.symm n13), hsu]
        exact heap_alloc_new w _
      · have := hL2.on hsame ((Below.refl w.heap.size w).alloc (Nat.le_refl _) (.cells zs T))
        simpa [Ne.symm n12, Ne.symm n14] using this
      · intro b1 b2 e1 e2
        rw [hnew] at e1
        rw [hsame] at e2
        have := hL2.lt e2
        simp at e1
        omega
    by_cases h2a : i = A2
    · subst h2a
      obtain rfl : o = oa2 := Option.some.inj (ho.symm.trans ha2)
      unfold Oper.wp
      rw [hal2 a w]
      have hsu : listed.getD S2 false = false := by
        cases hl : listed.getD S2 false with
        | false => rfl
        | true =>
          exfalso
          obtain ⟨e, he, hb, heq⟩ := hdep2
          have := hM.closed S2 os2 hs2 hl e he hb
          rw [heq, hu] at this
          cases this
      have hnew : (a.put o.dst (.pointer (some ⟨w.heap.size, 0, none⟩))).tmps[d2]? = some (.pointer (some ⟨w.heap.size, 0, none⟩)) := by
        rw [had2]; simp [Act.put, hsz, hd2n]
      have hsame : (a.put o.dst (.pointer (some ⟨w.heap.size, 0, none⟩))).tmps[d1]? = a.tmps[d1]? := put_other (by rw [had2]; simp; omega)
      refine ⟨_, rfl, fun h => absurd rfl ((hkt _).1 h).2.1, ⟨hBl.alloc hBl.size _, ?_, ?_, ?_⟩, fun j u _ _ hY => hY⟩
      · have := hL1.on hsame ((Below.refl w.heap.size w).alloc (Nat.le_refl _) (.cells zs T))
        simpa [n12, Ne.symm n23] using this
      · refine ⟨fun h => (by simp at h), fun _ => ⟨w.heap.size, hnew, hBl.size, ?_⟩⟩
        simp only [if_neg (Ne.symm n24), hsu]
        exact heap_alloc_new w _
      · intro b1 b2 e1 e2
        rw [hnew] at e2
        rw [hsame] at e1
        have := hL1.lt e1
        simp at e2
        omega
    by_cases h1s : i = S1
    · subst h1s
      obtain rfl : o = os1 := Option.some.inj (ho.symm.trans hs1)
      obtain ⟨e, he, hb, heq⟩ := hdep1
      have hl := hdl e he hb
      rw [heq] at hl
      obtain ⟨b, hp, hbw, hheap⟩ := hL1.2 hl
      refine Oper.wp_mono ?_ (hst1 a w b _ (facts listed o a w hM hdl) hp hheap (by split <;> simp))
      rintro a' w' ⟨rfl, rfl⟩
      refine ⟨undef, by rw [hsd1]; rfl, fun h => absurd rfl ((hkt _).1 h).2.2.1, ⟨setRow_below hBl hbw _, ?_, ?_, hap⟩, fun j u _ _ hY => hY⟩
      · refine ⟨fun h => (by simp [n13, hl] at h), fun _ => ⟨b, hp, hbw, ?_⟩⟩
        rw [if_pos (by simp)]
        exact setRow_kept hheap _
      · have := hL2.row (g := b) (cs := cells1) fun b2 e2 => (hap b b2 hp e2).symm
        simpa [n23, Ne.symm n34] using this
    by_cases h2s : i = S2
    · subst h2s
      obtain rfl : o = os2 := Option.some.inj (ho.symm.trans hs2)
      obtain ⟨e, he, hb, heq⟩ := hdep2
      have hl := hdl e he hb
      rw [heq] at hl
      obtain ⟨b, hp, hbw, hheap⟩ := hL2.2 hl
      refine Oper.wp_mono ?_ (hst2 a w b _ (facts listed o a w hM hdl) hp hheap (by split <;> simp))
      rintro a' w' ⟨rfl, rfl⟩
      refine ⟨undef, by rw [hsd2]; rfl, fun h => absurd rfl ((hkt _).1 h).2.2.2, ⟨setRow_below hBl hbw _, ?_, ?_, hap⟩, fun j u _ _ hY => hY⟩
      · have := hL1.row (g := b) (cs := cells2) fun b1 e1 => hap b1 b e1 hp
        simpa [n14, n34] using this
      · refine ⟨fun h => (by simp [n24, hl] at h), fun _ => ⟨b, hp, hbw, ?_⟩⟩
        rw [if_pos (by simp)]
        exact setRow_kept hheap _
    have hki : kn i = true := (hkt i).2 ⟨h1a, h2a, h1s, h2s⟩
    obtain ⟨e1, e2⟩ := hoth i o ho hki
    refine Oper.wp_mono ?_ (hcon i o ho hki a w hBl (facts listed o a w hM hdl))
    rintro a' w' ⟨rfl, hbl⟩
    refine ⟨con i, rfl, fun _ => rfl, ⟨hBl.trans (hbl.mono hBl.size), ?_, ?_, ?_⟩, fun j u _ _ hY => hY⟩
    · have := hL1.on (put_other (v := con i) e1) hbl
      simpa [Ne.symm h1a, Ne.symm h1s] using this
    · have := hL2.on (put_other (v := con i) e2) hbl
      simpa [Ne.symm h2a, Ne.symm h2s] using this
    · intro b1 b2 f1 f2
      rw [put_other e1] at f1
      rw [put_other e2] at f2
      exact hap b1 b2 f1 f2
  · intro vs w hS hall
    obtain ⟨hBl, hL1, hL2, hap⟩ := hS
    have l1 : A1 < ops.size := (Array.getElem?_eq_some_iff.1 ha1).1
    have l2 : A2 < ops.size := (Array.getElem?_eq_some_iff.1 ha2).1
    have l3 : S1 < ops.size := (Array.getElem?_eq_some_iff.1 hs1).1
    have l4 : S2 < ops.size := (Array.getElem?_eq_some_iff.1 hs2).1
    obtain ⟨b1, p1, c1, k1⟩ := hL1.2 (by simp [l1])
    obtain ⟨b2, p2, c2, k2⟩ := hL2.2 (by simp [l2])
    rw [if_pos (by simp [l3])] at k1
    rw [if_pos (by simp [l4])] at k2
    have f1 := fill_at d1 ops.toList vs 0 a0 A1 oa1 (by simpa using ha1) had1 h2 (by rw [hn]; exact hd1n)
    have f2 := fill_at d2 ops.toList vs 0 a0 A2 oa2 (by simpa using ha2) had2 h2 (by rw [hn]; exact hd2n)
    rw [p1, Nat.zero_add] at f1
    rw [p2, Nat.zero_add] at f2
    have hc : fill ops.toList vs 0 a0 = fill ops.toList (fun i => if i = A1 then .pointer (some ⟨b1, 0, none⟩) else if i = A2 then .pointer (some ⟨b2, 0, none⟩) else con i) 0 a0 := by
      refine fill_none _ _ _ 0 a0 fun i o ho hd => ?_
      rw [Nat.zero_add]
      have ho2 : ops[i]? = some o := by simpa using ho
      by_cases e1 : i = A1
      · subst e1; rw [if_pos rfl]; exact (Option.some.inj f1).symm
      by_cases e2 : i = A2
      · subst e2; rw [if_neg (Ne.symm n12), if_pos rfl]; exact (Option.some.inj f2).symm
      rw [if_neg e1, if_neg e2]
      refine hall i o ho2 ((hkt i).2 ⟨e1, e2, fun e => ?_, fun e => ?_⟩)
      · subst e
        obtain rfl : o = os1 := Option.some.inj (ho2.symm.trans hs1)
        exact hd hsd1
      · subst e
        obtain rfl : o = os2 := Option.some.inj (ho2.symm.trans hs2)
        exact hd hsd2
    rw [hc]
    exact hend b1 b2 w hBl c1 c2 k1 k2 (hap b1 b2 p1 p2)
end
end Go.Proofs.YtbccachkkflceaaGreatDoor.FreeN

