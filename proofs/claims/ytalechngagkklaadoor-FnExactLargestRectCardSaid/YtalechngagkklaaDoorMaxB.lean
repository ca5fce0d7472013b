/-
  MaximalRects: both find one list.
-/
import Derived.Test.YtalechngagkklaaDoorMaxI
import Derived.Test.YtalechngagkklaaDoorMaxS
namespace Go.Proofs.YtalechngagkklaaDoor.MaxB
open Go.RowKit Go.Proofs.YtalechngagkklaaDoor.Plain Go.Proofs.YtalechngagkklaaDoor.Base Go.Proofs.YtalechngagkklaaDoor.Valid Go.Proofs.YtalechngagkklaaDoor.Law Go.Proofs.YtalechngagkklaaDoor.GridPlain Go.Proofs.YtalechngagkklaaDoor.Grid Go.Proofs.YtalechngagkklaaDoor.Entry Go.Proofs.YtalechngagkklaaDoor.Pat Go.Proofs.YtalechngagkklaaDoor.Rect Go.Proofs.YtalechngagkklaaDoor.Board Go.Proofs.YtalechngagkklaaDoor.BoardM Go.Proofs.YtalechngagkklaaDoor.RValid Go.Proofs.YtalechngagkklaaDoor.Colour Go.Proofs.YtalechngagkklaaDoor.Where Go.Proofs.YtalechngagkklaaDoor.With Go.Proofs.YtalechngagkklaaDoor.Grow Go.Proofs.YtalechngagkklaaDoor.Cols Go.Proofs.YtalechngagkklaaDoor.MaxM
open Go.Proofs.YtalechngagkklaaDoor.KeysI (flat AllOf)
open Go.Proofs.YtalechngagkklaaDoor.KeysR (WF)
open Go.Proofs.YtalechngagkklaaDoor.Widest (wide)
open Go.Proofs.YtalechngagkklaaDoor.EachS (upS)
open Go.Proofs.YtalechngagkklaaDoor.Patch
set_option linter.unusedVariables false

set_option maxHeartbeats 1000000 in
theorem bit_all (v : Int) (w : World) :
    Calls Tryd.prog 94 #[.int .i64 v] w fun e w' => e = .returned (.bool (v == 0 || v == 1)) ∧ w = w' := by
  obtain ⟨b, hb⟩ : ∃ b, (v == 0) = b := ⟨_, rfl⟩
  obtain ⟨d, hd⟩ : ∃ d, (v == 1) = d := ⟨_, rfl⟩
  rw [hb, hd]
  cases b <;> cases d
  all_goals
    go_enter Tryd.func94, Tryd.ntmps94
    go_wp2_with fail
    go_ret
    exact ⟨rfl, rfl⟩

/-- the columns and the rows as the board has them -/
def cB (Z R C S : Nat) : Nat := setB (fun y => decide (pat (rectB S (2 ^ y)) 8 &&& (18446744073709551615 - Z) = 0)) C
def rB (Z R C T : Nat) : Nat := setB (fun x => decide (pat (rectB (2 ^ x) T) 8 &&& (18446744073709551615 - Z) = 0)) R
def gB (Z R C S : Nat) : Int × Int := (((rB Z R C (cB Z R C S) : Nat) : Int), ((cB Z R C (rB Z R C (cB Z R C S)) : Nat) : Int))
theorem cB_lt (Z R C S : Nat) (hC : C ≤ 8) : cB Z R C S < 256 := setB_lt8 _ C hC
theorem rB_lt (Z R C T : Nat) (hR : R ≤ 8) : rB Z R C T < 256 := setB_lt8 _ R hR
theorem gB_wf (Z R C S : Nat) (hR : R ≤ 8) (hC : C ≤ 8) : WF (gB Z R C S).1 ∧ WF (gB Z R C S).2 :=
  ⟨KeysR.WF.mk ⟨Int.natCast_nonneg _, by have := rB_lt Z R C (cB Z R C S) hR; show ((rB Z R C (cB Z R C S) : Nat) : Int) < 256; omega⟩, KeysR.WF.mk ⟨Int.natCast_nonneg _, by have := cB_lt Z R C (rB Z R C (cB Z R C S)) hC; show ((cB Z R C (rB Z R C (cB Z R C S)) : Nat) : Int) < 256; omega⟩⟩
theorem upS_mem : ∀ k, k ≤ 255 → ∀ x : Fin 256, x ∈ upS k ↔ 1 ≤ x.val ∧ x.val ≤ k
  | 0, _, x => ⟨fun h => (by cases h), fun h => by omega⟩
  | k + 1, hk, x => by
    have ih := upS_mem k (by omega) x
    rw [upS, List.mem_append, ih, dif_pos (by omega), List.mem_singleton]
    constructor
    · rintro (h | rfl)
      · omega
      · exact ⟨by show 1 ≤ k + 1; omega, Nat.le_refl _⟩
    · intro h
      by_cases e : x.val = k + 1
      · exact .inr (Fin.ext e)
      · exact .inl (by omega)

/-- what the program finds is what is maximal -/
theorem found (E P : Nat → Nat → Bool) (b : Bool) (hP : ∀ x y, P x y = (E x y == b)) (R C : Nat) (hR : R ≤ 8) (hC : C ≤ 8) (p : Int × Int) :
    p ∈ (wide (cB (pat (onB P R C) 8) R C) (upS (2 ^ R - 1))).map (fun x => gB (pat (onB P R C) 8) R C x.val) ↔ p ∈ mx E b R C (2 ^ R - 1) := by
  have h3 := Nat.pow_le_pow_right (n := 2) (by decide) hR
  have hp := Nat.one_le_two_pow (n := R)
  have hc1 : ∀ S, S ≤ 2 ^ R - 1 → cB (pat (onB P R C) 8) R C S = cS E b R C S := fun S hS =>
    cols_eq E P b hP R C S hR hC (by omega) (fun x hx => by
      rcases Nat.lt_or_ge x R with h | h
      · exact h
      · rw [bit_beyond S x R (by omega) h] at hx; cases hx)
  have hr1 : ∀ T, (∀ y, T.testBit y = true → y < C) → T < 256 → rB (pat (onB P R C) 8) R C T = rS E b R C T := fun T hT h8 => rows_eq E P b hP R C T hR hC h8 hT
  have hg : ∀ S, S ≤ 2 ^ R - 1 → gB (pat (onB P R C) 8) R C S = growP E b R C S := fun S hS => by
    unfold gB growP
    rw [hc1 S hS, hr1 (cS E b R C S) (fun y hy => ((cS_bit E b R C S y).1 hy).1) (setB_lt8 _ C hC), hc1 (rS E b R C (cS E b R C S)) (by have := rS_lt E b R C (cS E b R C S); omega)]
  rw [List.mem_map, ← found_iff]
  constructor
  · rintro ⟨x, hx, rfl⟩
    unfold wide at hx
    rw [List.mem_filter, upS_mem _ (by omega)] at hx
    refine ⟨x.val, hx.1.1, hx.1.2, ?_, hg _ hx.1.2⟩
    have := hx.2
    rw [hc1 _ hx.1.2] at this
    simpa using this
  · rintro ⟨S, h1, h2, h4, rfl⟩
    refine ⟨⟨S, by omega⟩, ?_, hg S h2⟩
    unfold wide
    rw [List.mem_filter, upS_mem _ (by omega)]
    refine ⟨⟨h1, h2⟩, ?_⟩
    show (cB (pat (onB P R C) 8) R C S != 0) = true
    rw [hc1 S h2]
    simpa using h4
theorem found_len (E P : Nat → Nat → Bool) (b : Bool) (hP : ∀ x y, P x y = (E x y == b)) (R C : Nat) (hR : R ≤ 8) (hC : C ≤ 8) (ss : List (Int × Int)) (h : AllOf ((wide (cB (pat (onB P R C) 8) R C) (upS (2 ^ R - 1))).map (fun x => gB (pat (onB P R C) 8) R C x.val)) ss) : ss.length ≤ 1000 := by
  have hn2 : (mx E b R C (2 ^ R - 1)).Nodup := (mx_rises E b R C _).imp (fun {p q} h e => by rw [e] at h; omega)
  have hperm := (List.perm_ext_iff_of_nodup h.1 hn2).2 (fun p => (h.2 p).trans (found E P b hP R C hR hC p))
  rw [hperm.length_eq]
  have := mx_len E b R C (2 ^ R - 1)
  have h3 := Nat.pow_le_pow_right (n := 2) (by decide) hR
  omega

theorem impl_one (E P : Nat → Nat → Bool) (b : Bool) (hP : ∀ x y, P x y = (E x y == b)) (R C : Nat) (hR : R ≤ 8) (hC : C ≤ 8) (z o : Nat) (hz : z < 18446744073709551616) (ho : o < 18446744073709551616) (hZ : (b = false ∧ z = pat (onB P R C) 8) ∨ (b = true ∧ o = pat (onB P R C) 8))
    (rr cc : Int) (s : ByteArray) (hbo : ∀ W : World, Calls Tryd.prog 59 #[mat rr cc s] W fun e w' => e = .returned (brd R C z o) ∧ Below W.heap.size W w') (w : World) :
    Calls Tryd.prog 90 #[mat rr cc s, .int .i64 (bitI b)] w fun e w' => ∃ v, e = .returned v ∧ w'.ownsRow w.heap.size 26 2 v (mx E b R C (2 ^ R - 1)).length (flat (mx E b R C (2 ^ R - 1))) ∧ Below w.heap.size w w' := by
  have hcols : ∀ S : Nat, S < 256 → ∀ W : World, Calls Tryd.prog 168 #[brd R C z o, .int .i64 (S : Int), .int .i64 (bitI b)] W fun e w' => e = .returned (.int .i64 ((cB (pat (onB P R C) 8) R C S : Nat) : Int)) ∧ Below W.heap.size W w' := by
    intro S hS W
    rcases hZ with ⟨rfl, rfl⟩ | ⟨rfl, rfl⟩
    · exact cols_with0 R C hR hC _ o hz ho S hS W
    · exact cols_with1 R C hR hC z _ hz ho S hS W
  have hrows : ∀ S : Nat, S < 256 → ∀ W : World, Calls Tryd.prog 169 #[brd R C z o, .int .i64 (S : Int), .int .i64 (bitI b)] W fun e w' => e = .returned (.int .i64 ((rB (pat (onB P R C) 8) R C S : Nat) : Int)) ∧ Below W.heap.size W w' := by
    intro S hS W
    rcases hZ with ⟨rfl, rfl⟩ | ⟨rfl, rfl⟩
    · exact rows_with0 R C hR hC _ o hz ho S hS W
    · exact rows_with1 R C hR hC z _ hz ho S hS W
  have hgrow : ∀ S : Nat, S < 256 → ∀ W : World, Calls Tryd.prog 144 #[brd R C z o, rect (S : Int) ((cB (pat (onB P R C) 8) R C S : Nat) : Int), .int .i64 (bitI b)] W fun e w' => e = .returned (rect (gB (pat (onB P R C) 8) R C S).1 (gB (pat (onB P R C) 8) R C S).2) ∧ Below W.heap.size W w' :=
    fun S hS W => impl_grow R C z o S _ _ _ (bitI b) (fun W1 => hrows _ (cB_lt _ R C S hC) W1) (fun W1 => hcols _ (rB_lt _ R C _ hR) W1) W
  refine (callsIn_wide.1 (MaxI.maximal_in R C hR z o rr cc s (bitI b) (by cases b <;> simp [bitI]) (cB (pat (onB P R C) 8) R C) (gB (pat (onB P R C) 8) R C) hbo hcols hgrow (fun S _ => gB_wf _ R C S hR hC) (found_len E P b hP R C hR hC) w)).mono ?_
  rintro e w' ⟨v, ts, rfl, hall, hpw, hown, hb⟩
  have := same_list E b R C (2 ^ R - 1) hall.1 hpw (fun p => (hall.2 p).trans (found E P b hP R C hR hC p))
  subst this
  exact ⟨v, rfl, hown, hb⟩

set_option maxHeartbeats 1000000 in
theorem impl_no_bit (rr cc : Int) (s : ByteArray) (bit : Int) (h0 : bit ≠ 0) (h1 : bit ≠ 1) (w : World) :
    Calls Tryd.prog 90 #[mat rr cc s, .int .i64 bit] w fun e w' => ∃ v, e = .returned v ∧ w'.ownsRow w.heap.size 26 2 v 0 (flat []) ∧ Below w.heap.size w w' := by
  have HBIT := Lib.hid (fun W => bit_all bit W)
  rw [show (bit == 0 || bit == 1) = false by rw [beq_false_of_ne h0, beq_false_of_ne h1]; rfl] at HBIT
  clear h0 h1
  go_enter Tryd.func90, Tryd.ntmps90
  go_wp2_with fail
  refine (HBIT.out _).mono ?_
  rintro e w' ⟨rfl, rfl⟩
  go_wp2_with fail
  go_ret
  exact ⟨_, rfl, World.ownsRow_nil _ _ _ _, ((Below.refl w.heap.size w).alloc (Nat.le_refl _) _).alloc (by simp) _⟩

/-- both find one list -/
theorem both (r c : Int) (s : ByteArray) (hs : s.size ≤ maxLen) (bit : Int) : ∃ ts : List (Int × Int), ts.length ≤ 1000 ∧
    (∀ w, Calls Tryd.prog 88 #[mat r c s, .int .i64 bit] w fun e w' => ∃ v, e = .returned v ∧ w'.ownsRow w.heap.size 26 2 v ts.length (flat ts) ∧ Below w.heap.size w w') ∧
    (∀ w, Calls Tryd.prog 90 #[mat r c s, .int .i64 bit] w fun e w' => ∃ v, e = .returned v ∧ w'.ownsRow w.heap.size 26 2 v ts.length (flat ts) ∧ Below w.heap.size w w') := by
  by_cases hbit : bit = 0 ∨ bit = 1
  · obtain ⟨b, rfl⟩ : ∃ b : Bool, bit = bitI b := by
      rcases hbit with rfl | rfl
      · exact ⟨false, rfl⟩
      · exact ⟨true, rfl⟩
    by_cases hv : validB r c s = true
    · obtain ⟨R, C, E, rfl, rfl, h1, h2, h3, h4, rfl⟩ := valid_form hv
      have hbd := fun W => board_yes R C E h1 h2 h3 h4 hs hv W
      have z64 := pat64 (onB (fun x y => !E x y) R C) (onB_lt _ R C h4)
      have o64 := pat64 (onB E R C) (onB_lt _ R C h4)
      have hl := mx_len E b R C (2 ^ R - 1)
      have h5 := Nat.pow_le_pow_right (n := 2) (by decide) h2
      refine ⟨mx E b R C (2 ^ R - 1), by omega, fun w => MaxS.spec_yes E R C h1 h2 h3 h4 hs hv b w, fun w => ?_⟩
      cases b
      · exact impl_one E (fun x y => !E x y) false (fun x y => by cases E x y <;> rfl) R C h2 h4 _ _ z64 o64 (.inl ⟨rfl, rfl⟩) R C _ hbd w
      · exact impl_one E E true (fun x y => by cases E x y <;> rfl) R C h2 h4 _ _ z64 o64 (.inr ⟨rfl, rfl⟩) R C _ hbd w
    · have hv' : validB r c s = false := by simpa using hv
      have hbn := fun W => board_no r c s hs hv' W
      have z64 := pat64 (onB (fun _ _ => true) 0 0) (onB_lt _ 0 0 (by omega))
      have o64 := pat64 (onB (fun _ _ => false) 0 0) (onB_lt _ 0 0 (by omega))
      refine ⟨[], by simp, fun w => MaxS.spec_no r c s hs _ false hv' (.inl rfl) w, fun w => ?_⟩
      cases b
      · exact impl_one (fun _ _ => false) (fun _ _ => true) false (fun x y => rfl) 0 0 (by omega) (by omega) _ _ z64 o64 (.inl ⟨rfl, rfl⟩) r c s hbn w
      · exact impl_one (fun _ _ => false) (fun _ _ => false) true (fun x y => rfl) 0 0 (by omega) (by omega) _ _ z64 o64 (.inr ⟨rfl, rfl⟩) r c s hbn w
  · have h0 : bit ≠ 0 := fun e => hbit (.inl e)
    have h1 : bit ≠ 1 := fun e => hbit (.inr e)
    obtain ⟨b, hb⟩ : ∃ b, validB r c s = b := ⟨_, rfl⟩
    exact ⟨[], by simp, fun w => MaxS.spec_no r c s hs bit b hb (.inr ⟨h0, h1⟩) w, fun w => impl_no_bit r c s bit h0 h1 w⟩
end Go.Proofs.YtalechngagkklaaDoor.MaxB
