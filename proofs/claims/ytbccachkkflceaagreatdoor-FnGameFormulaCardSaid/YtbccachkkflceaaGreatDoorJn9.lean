/-
  Texts of one seat, joined: Where, Wq.
-/
import Derived.Test.YtbccachkkflceaaGreatDoorJn1
import Derived.Test.YtbccachkkflceaaGreatDoorJn8
import Derived.Test.YtbccachkkflceaaGreatDoorJn4
import Derived.Below
import Derived.WalkKit
import Derived.WalkSpells
import Derived.Lib.Hide
import Derived.Handy
import Derived.Outline
import Derived.Deep.Quiet
import Derived.Deep.QuietTactic
import Derived.BigQuiet
/-
  The program's setWhere, whatever function tells which numbers are in the set.
-/
namespace Go.Proofs.YtbccachkkflceaaGreatDoor.Where
open Go.RowKit Go.Proofs.YtbccachkkflceaaGreatDoor.Plain Go.Proofs.YtbccachkkflceaaGreatDoor.Base Go.Proofs.YtbccachkkflceaaGreatDoor.Pat
set_option linter.unusedVariables false

/-- what is asked of the function value -/
def Says (g : Nat) (lb : Array Value) (n : Nat) (P : Nat → Bool) (w : World) : Prop :=
  ∀ (W : World) (i : Nat), i < n → Below w.heap.size w W → Calls Tryz.prog g (#[.int .i64 (i : Int)] ++ lb) W fun e W' => e = .returned (.bool (P i)) ∧ Below W.heap.size W W'
theorem wrap8 (n : Nat) (h : n ≤ 256) : IntKind.i64.wrap (n : Int) = (n : Int) := by
  rw [IntKind.wrap_i64]
  omega
theorem or8 (a b : Nat) (ha : a < 256) (hb : b < 256) : Go.bits .or .i64 (a : Int) (b : Int) = ((a ||| b : Nat) : Int) :=
  (bits_nat .i64 8 (by decide) (fun n h0 h1 => by rw [IntKind.wrap_i64]; omega) a b (by omega) (by omega)).2

set_option maxHeartbeats 1000000 in
theorem where_any (g : Nat) (lb : Array Value) (n : Nat) (hn : n ≤ 8) (P : Nat → Bool) (w : World) (eg : ∀ args W, (callFunc g args).run Tryz.prog W = .ok (.enter g args) W) (hT : Hid (Says g lb n P w)) :
    Calls Tryz.prog 85 #[.int .i64 (n : Int), .func (.func g) #[] lb] w fun e w' => e = .returned (.int .i64 ((setB P n : Nat) : Int)) ∧ Below w.heap.size w w' := by
  go_enter Tryz.func85, Tryz.ntmps85
  go_wp2_with fail
  go_loopw [5, 8] (fun t i wr => ∃ (k s : Nat), k ≤ n ∧ t = .int .i64 (s : Int) ∧ Hid (s = setB P k) ∧ i = .int .i64 (k : Int) ∧ Below w.heap.size w wr) (fun _ i _ => n - (intOf i).toNat)
  case atStart => exact ⟨0, 0, Nat.zero_le _, rfl, rfl, rfl, Below.refl _ _⟩
  case round =>
    obtain ⟨k, s, hk, rfl, hs, rfl, hb⟩ := hrel
    have HB := Lib.hid hb
    clear hb
    by_cases hlt : k < n
    · have hk8 : k < 8 := by omega
      have hs8 : s < 256 := by rw [hs.out]; exact setB_lt8 P k (by omega)
      have hX : 2 ^ k < 256 := Nat.lt_of_lt_of_le (Nat.pow_lt_pow_right (by decide) hk8) (by decide)
      have HC := Lib.hid (hT.out wr k hlt HB.out)
      have hw : IntKind.i64.wrap (2 ^ k) = ((2 ^ k : Nat) : Int) := by rw [show ((2 : Int) ^ k) = ((2 ^ k : Nat) : Int) by simp]; exact wrap8 _ (by omega)
      have ho := or8 s (2 ^ k) hs8 hX
      have hz := or8 s 0 hs8 (by decide)
      rw [Nat.or_zero] at hz
      replace hz : Go.bits .or .i64 (s : Int) 0 = (s : Int) := hz
      obtain ⟨b, hbit⟩ : ∃ b, P k = b := ⟨_, rfl⟩
      have HN : Hid ((if b = true then s ||| 2 ^ k else s) = setB P (k + 1)) := by
        unfold Hid
        rw [← setB_or, ← hs.out, hbit]
        cases b
        · simp
        · simp
      rw [hbit] at HC
      clear hs hbit
      generalize 2 ^ k = X at *
      generalize s ||| X = y at *
      cases b
      · go_wp2_with fail
        refine HC.out.mono ?_
        rintro e w2 ⟨rfl, hb2⟩
        have HB2 : Hid (Below w.heap.size w w2) := HB.out.trans (hb2.mono HB.out.size)
        clear hb2
        go_wp2_with fail
        refine (bitOf_any false _).mono ?_
        rintro e w' ⟨rfl, rfl⟩
        rw [bitI_false]
        go_wp2_with fail
        go_roundw
        case rel => exact ⟨k + 1, s, by omega, rfl, by have h := HN.out; unfold Hid; simpa using h, by go_num, HB2.out⟩
        case measure => simp [intOf]; omega
      · go_wp2_with fail
        refine HC.out.mono ?_
        rintro e w2 ⟨rfl, hb2⟩
        have HB2 : Hid (Below w.heap.size w w2) := HB.out.trans (hb2.mono HB.out.size)
        clear hb2
        go_wp2_with fail
        refine (bitOf_any true _).mono ?_
        rintro e w' ⟨rfl, rfl⟩
        rw [bitI_true]
        go_wp2_with fail
        go_roundw
        case rel => exact ⟨k + 1, y, by omega, rfl, by have h := HN.out; unfold Hid; simpa using h, by go_num, HB2.out⟩
        case measure => simp [intOf]; omega
    · obtain rfl : k = n := by omega
      go_wp2_with fail
      go_ret
      exact ⟨by rw [← hs.out]; rfl, HB.out⟩
end Go.Proofs.YtbccachkkflceaaGreatDoor.Where

/-
  A drawn region walked once, in the order of the text, in the class of the worlds that its callees may make.
-/
namespace Go.Proofs.YtbccachkkflceaaGreatDoor.Wq
open Go.RowKit
set_option linter.unusedVariables false

/-- the walk of the order of the text, closed -/
structure WQ (P : Program) (ops : Array Oper) (C : World → Prop) (Q : Act → Prop) (l : List Oper) (a : Act) : Prop where
  out : wpQuiet P ops C Q l a
theorem wq_step {P : Program} {ops : Array Oper} {C : World → Prop} {Q : Act → Prop} {a : Act} {o : Oper} {rest : List Oper}
    (h : ∀ K : Act → Prop, (∀ a, WQ P ops C Q rest a → K a) → if Region.wanted o (yielded ops a.tmps) then o.quiet P a C K else K (a.put o.dst undef)) : WQ P ops C Q (o :: rest) a :=
  ⟨wpQuiet_step fun K hK => h K fun a h2 => hK a h2.out⟩
theorem wq_nil {P : Program} {ops : Array Oper} {C : World → Prop} {Q : Act → Prop} {a : Act} (h : Q a) : WQ P ops C Q [] a := ⟨wpQuiet_nil h⟩
/-- a region that draws its order and whose callees only make memory: one walk of the order of the text -/
theorem region_kept {P : Program} {C : World → Prop} {id : Nat} {Q : Exit → Act → World → Prop} {a : Act} {w : World} {l : List Oper} (hC : C { w with drawn := w.drawn + 1 }) (hm : P.follows .mixedOrders = true) (hB : Region.lexB .any l.toArray = true)
    (h : WQ P l.toArray C (fun a' => ∀ w', C w' → Q .normal a' w') l a) : (Code.region id l.toArray true).wp P Q a w :=
  wp_region_quiet (C := C) hm hB hC (by simpa using h.out)
theorem drawn_at (w : World) (q : Nat) : Below w.heap.size w (w.drewN q) := ⟨rfl, rfl, rfl, Nat.le_refl _, fun _ _ => rfl⟩
theorem drew_at (w : World) : Below w.heap.size w { w with drawn := w.drawn + 1 } := ⟨rfl, rfl, rfl, Nat.le_refl _, fun _ _ => rfl⟩
end Go.Proofs.YtbccachkkflceaaGreatDoor.Wq

