/-
  The reference's l2Cols and l2Rows.
-/
import Derived.Test.YtgfhahlkffagaaaDoorColour
import Derived.Test.YtgfhahlkffagaaaDoorTurn1
import Derived.Test.YtgfhahlkffagaaaDoorWhere
namespace Go.Proofs.YtgfhahlkffagaaaDoor.Cols
open Go.RowKit Go.Proofs.YtgfhahlkffagaaaDoor.Plain Go.Proofs.YtgfhahlkffagaaaDoor.Base Go.Proofs.YtgfhahlkffagaaaDoor.Valid Go.Proofs.YtgfhahlkffagaaaDoor.Law Go.Proofs.YtgfhahlkffagaaaDoor.GridPlain Go.Proofs.YtgfhahlkffagaaaDoor.Grid Go.Proofs.YtgfhahlkffagaaaDoor.Entry Go.Proofs.YtgfhahlkffagaaaDoor.Pat Go.Proofs.YtgfhahlkffagaaaDoor.Rect Go.Proofs.YtgfhahlkffagaaaDoor.Board Go.Proofs.YtgfhahlkffagaaaDoor.BoardM Go.Proofs.YtgfhahlkffagaaaDoor.RValid Go.Proofs.YtgfhahlkffagaaaDoor.Colour Go.Proofs.YtgfhahlkffagaaaDoor.Where Go.Proofs.YtgfhahlkffagaaaDoor.Turn1
set_option linter.unusedVariables false

/-- whether the first k of the rows of a set all have the value in a column -/
def allTo (E : Nat → Nat → Bool) (S : Nat) (b : Bool) (y : Nat) : Nat → Bool
  | 0 => true
  | k + 1 => allTo E S b y k && (!S.testBit k || (E k y == b))
theorem allTo_iff (E : Nat → Nat → Bool) (S : Nat) (b : Bool) (y : Nat) : ∀ k, allTo E S b y k = true ↔ ∀ x, x < k → S.testBit x = true → E x y = b
  | 0 => ⟨fun _ x hx => absurd hx (by omega), fun _ => rfl⟩
  | k + 1 => by
    rw [allTo, Bool.and_eq_true, allTo_iff E S b y k, Bool.or_eq_true, beq_iff_eq, Bool.not_eq_true']
    constructor
    · rintro ⟨h1, h2⟩ x hx hb
      by_cases e : x = k
      · subst e
        rcases h2 with h2 | h2
        · rw [h2] at hb; cases hb
        · exact h2
      · exact h1 x (by omega) hb
    · intro h
      refine ⟨fun x hx hb => h x (by omega) hb, ?_⟩
      cases hs : S.testBit k with
      | false => exact .inl rfl
      | true => exact .inr (h k (by omega) hs)

/-- m's box is kept -/
structure DInv (w wr : World) (R C : Nat) (s : ByteArray) : Prop where
  m : MHolds wr w.heap.size 27 R C s
  below : Below w.heap.size w wr
theorem DInv.later {w wr w2 : World} {R C : Nat} {s : ByteArray} (h : DInv w wr R C s) (hb : Below wr.heap.size wr w2) : DInv w w2 R C s := ⟨mh_on h.m hb, rstep h.below hb⟩

set_option maxHeartbeats 4000000 in
theorem cols_any (E : Nat → Nat → Bool) (R C : Nat) (hR1 : 1 ≤ R) (hR : R ≤ 8) (hC1 : 1 ≤ C) (hC : C ≤ 8) (S : Nat) (hS : S < 256) (b : Bool) (w : World) :
    Calls Tryd.prog 84 #[mat R C (str (rowsB E R C)), .int .i64 (S : Int), .int .i64 (bitI b)] w fun e w' => e = .returned (.int .i64 ((setB (fun y => allTo E S b y R) C : Nat) : Int)) ∧ Below w.heap.size w w' := by
  have HAT := Lib.hid (fun x y hx hy W => at_any E R C hR hC x y hx hy W)
  generalize str (rowsB E R C) = s at *
  obtain ⟨bi, hbi⟩ : ∃ bi, bitI b = bi := ⟨_, rfl⟩
  rw [hbi]
  have HBI := Lib.hid hbi
  clear hbi
  go_enter Tryd.func84, Tryd.ntmps84
  go_wp2_with fail
  have e0 : MHolds (w.alloc (.cells #[.int .i64 (R : Int), .int .i64 (C : Int), .string s] 27)) w.heap.size 27 R C s := heap_alloc_new w _
  have hb0 : Below w.heap.size w (w.alloc (.cells #[.int .i64 (R : Int), .int .i64 (C : Int), .string s] 27)) := (Below.refl w.heap.size w).alloc (Nat.le_refl _) _
  generalize w.alloc (.cells #[.int .i64 (R : Int), .int .i64 (C : Int), .string s] 27) = W0 at *
  have HI0 : Hid (DInv w W0 R C s) := ⟨e0, hb0⟩
  clear e0 hb0
  go_loopw [7, 8] (fun t i wr => ∃ (j u : Nat), j ≤ C ∧ t = .int .i64 (u : Int) ∧ Hid (u = setB (fun y => allTo E S b y R) j) ∧ i = .int .i64 (j : Int) ∧ DInv w wr R C s) (fun _ i _ => C - (intOf i).toNat)
  case atStart => exact ⟨0, 0, Nat.zero_le _, rfl, rfl, rfl, HI0.out⟩
  case round =>
    obtain ⟨j, u, hj, rfl, hu, rfl, hinv⟩ := hrel
    clear HI0
    obtain ⟨q0, q1, q2⟩ := mh_c hinv.m
    by_cases hlt : j < C
    · have HI := Lib.hid hinv
      clear hinv
      go_wp2_with fail
      go_loopw [9, 10] (fun a x wr => ∃ (k : Nat) (v : Bool), k ≤ R ∧ a = .bool v ∧ Hid (v = allTo E S b j k) ∧ x = .int .i64 (k : Int) ∧ DInv w wr R C s) (fun _ x _ => R - (intOf x).toNat)
      case atStart => exact ⟨0, true, Nat.zero_le _, rfl, rfl, rfl, HI.out⟩
      case round =>
        obtain ⟨k, v, hk, rfl, hv, rfl, hinv⟩ := hrel
        clear q0 q1 q2 HI
        obtain ⟨q0, q1, q2⟩ := mh_c hinv.m
        have HI := Lib.hid hinv
        clear hinv
        by_cases hlt' : k < R
        · have k8 : k < 8 := by omega
          have HK := Lib.hid (fun W => l2In_any S k hS k8 W)
          have HA := Lib.hid (fun W => HAT.out k j hlt' hlt W)
          obtain ⟨b1, h1⟩ : ∃ b, S.testBit k = b := ⟨_, rfl⟩
          obtain ⟨b3, h3⟩ : ∃ b, E k j = b := ⟨_, rfl⟩
          rw [h1] at HK
          rw [h3] at HA
          have HN : Hid (allTo E S b j (k + 1) = (v && (!b1 || (b3 == b)))) := by
            unfold Hid
            rw [allTo, ← hv.out, h1, h3]
          clear hv h1 h3
          cases v
          · clear HK HA
            go_wp2_with fail
            go_roundw
            case rel => exact ⟨k + 1, false, by omega, rfl, by unfold Hid; rw [HN.out]; rfl, by go_num, HI.out⟩
            case measure => simp [intOf]; omega
          · cases b1
            · go_wp2_with fail
              refine (HK.out _).mono ?_
              rintro e w' ⟨rfl, rfl⟩
              go_wp2_with fail
              go_roundw
              case rel => exact ⟨k + 1, true, by omega, rfl, by unfold Hid; rw [HN.out]; rfl, by go_num, HI.out⟩
              case measure => simp [intOf]; omega
            · go_wp2_with fail
              refine (HK.out _).mono ?_
              rintro e w' ⟨rfl, rfl⟩
              go_wp2_with fail
              refine (HA.out _).mono ?_
              rintro e w2 ⟨rfl, hb2⟩
              have HI2 := Lib.hid (HI.out.later hb2)
              clear hb2 q0 q1 q2
              go_wp2_with fail
              refine (int_any _ _).mono ?_
              rintro e w' ⟨rfl, rfl⟩
              obtain ⟨x, hx⟩ : ∃ x, bitI b3 = x := ⟨_, rfl⟩
              rw [hx]
              have HX := Lib.hid hx
              clear hx
              go_wp2_with fail
              go_roundw
              case rel => exact ⟨k + 1, _, by omega, rfl, by unfold Hid; rw [HN.out, ← HX.out, ← HBI.out]; cases b3 <;> cases b <;> rfl, by go_num, HI2.out⟩
              case measure => simp [intOf]; omega
        · obtain rfl : k = R := by omega
          have hX : 2 ^ j < 256 := Nat.lt_of_lt_of_le (Nat.pow_lt_pow_right (by decide) (show j < 8 by omega)) (by decide)
          have hu8 : u < 256 := by rw [hu.out]; exact setB_lt8 _ j (by omega)
          have hw : IntKind.i64.wrap (2 ^ j) = ((2 ^ j : Nat) : Int) := by rw [show ((2 : Int) ^ j) = ((2 ^ j : Nat) : Int) by simp]; exact wrap8 _ (by omega)
          have ho := or8 u (2 ^ j) hu8 hX
          have HN : Hid ((if v = true then u ||| 2 ^ j else u) = setB (fun y => allTo E S b y k) (j + 1)) := by
            unfold Hid
            rw [← setB_or, ← hu.out, ← hv.out]
            cases v <;> simp
          clear hu hv
          generalize 2 ^ j = X at *
          generalize u ||| X = y at *
          cases v
          · go_wp2_with fail
            go_roundw
            case rel => exact ⟨j + 1, u, by omega, rfl, by have h := HN.out; unfold Hid; simpa using h, by go_num, HI.out⟩
            case measure => simp [intOf]; omega
          · go_wp2_with fail
            go_roundw
            case rel => exact ⟨j + 1, y, by omega, rfl, by have h := HN.out; unfold Hid; simpa using h, by go_num, HI.out⟩
            case measure => simp [intOf]; omega
    · obtain rfl : j = C := by omega
      have HI := Lib.hid hinv
      clear hinv
      go_wp2_with fail
      go_ret
      exact ⟨by rw [← hu.out]; rfl, HI.out.below⟩

end Go.Proofs.YtgfhahlkffagaaaDoor.Cols
