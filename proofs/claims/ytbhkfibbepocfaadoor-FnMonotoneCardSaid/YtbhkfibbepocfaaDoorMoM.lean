/-
  Monotone tables: one bit more at a time is enough; a formula without turned letters is monotone. Nothing of the program.
-/
import Derived.Test.YtbhkfibbepocfaaDoorMono
import Derived.Test.YtbhkfibbepocfaaDoorTabW
namespace Go.Proofs.YtbhkfibbepocfaaDoor.MoM
open Go.RowKit Go.Proofs.YtbhkfibbepocfaaDoor.Plain Go.Proofs.YtbhkfibbepocfaaDoor.Pat Go.Proofs.YtbhkfibbepocfaaDoor.Fm Go.Proofs.YtbhkfibbepocfaaDoor.FmTab Go.Proofs.YtbhkfibbepocfaaDoor.Valid Go.Proofs.YtbhkfibbepocfaaDoor.Wid Go.Proofs.YtbhkfibbepocfaaDoor.Mono Go.Proofs.YtbhkfibbepocfaaDoor.TabW
set_option linter.unusedVariables false
set_option linter.unusedSimpArgs false

/-- whether a table does not fall with one bit more -/
def stepV (s : ByteArray) (n i : Nat) : Bool := (s.data.toList.getD n 0 == 48) || (s.data.toList.getD (n ||| 2 ^ i) 0 == 49)
def goodV (s : ByteArray) (b : Nat) : Bool := (List.range s.size).all fun n => (List.range b).all fun i => stepV s n i
/-- the ones of a table as a number -/
def onesV (s : ByteArray) (N : Nat) : Nat := setB (fun n => s.data.toList.getD n 0 == 49) N
theorem up_lt (n i b : Nat) (hb : b ≤ 3) (hn : n < 2 ^ b) (hi : i < b) : n ||| 2 ^ i < 2 ^ b ∧ (n ||| 2 ^ i) < 8 := by
  have h1 : 2 ^ i < 2 ^ b := Nat.pow_lt_pow_right (by decide) hi
  have h2 := Nat.or_lt_two_pow (n := b) hn h1
  have h3 : 2 ^ b ≤ 2 ^ 3 := Nat.pow_le_pow_right (by decide) hb
  omega
theorem mono1 : ∀ T : Fin 4, ((List.range 2).all fun n => (List.range 2).all fun m => !((n &&& m == n) && T.1.testBit n && !T.1.testBit m)) = ((List.range 2).all fun n => (List.range 1).all fun i => !T.1.testBit n || T.1.testBit (n ||| 2 ^ i)) := by decide +kernel
theorem mono2 : ∀ T : Fin 16, ((List.range 4).all fun n => (List.range 4).all fun m => !((n &&& m == n) && T.1.testBit n && !T.1.testBit m)) = ((List.range 4).all fun n => (List.range 2).all fun i => !T.1.testBit n || T.1.testBit (n ||| 2 ^ i)) := by decide +kernel
theorem mono3 : ∀ T : Fin 256, ((List.range 8).all fun n => (List.range 8).all fun m => !((n &&& m == n) && T.1.testBit n && !T.1.testBit m)) = ((List.range 8).all fun n => (List.range 3).all fun i => !T.1.testBit n || T.1.testBit (n ||| 2 ^ i)) := by decide +kernel
theorem all_congr {N : Nat} {f g : Nat → Bool} (h : ∀ n, n < N → f n = g n) : (List.range N).all f = (List.range N).all g := by
  rw [Bool.eq_iff_iff, List.all_eq_true, List.all_eq_true]
  constructor
  · intro h1 n hn; rw [← h n (List.mem_range.1 hn)]; exact h1 n hn
  · intro h1 n hn; rw [h n (List.mem_range.1 hn)]; exact h1 n hn
theorem not_one {s : ByteArray} (h : okB s = true) (k : Nat) (hk : k < s.size) : (s.data.toList.getD k 0 == 48) = !(s.data.toList.getD k 0 == 49) := by
  rcases ok_byte h k hk with ⟨e, _⟩ | ⟨e, _⟩ <;> rw [e] <;> rfl
theorem ones_bit (s : ByteArray) (N k : Nat) (hk : k < N) : (onesV s N).testBit k = (s.data.toList.getD k 0 == 49) := by
  unfold onesV
  rw [setB_bit, decide_eq_true hk, Bool.true_and]
theorem good_mono (s : ByteArray) (b : Nat) (h1 : 1 ≤ b) (h3 : b ≤ 3) (hok : okB s = true) (hs : s.size = 2 ^ b) : monoV s = goodV s b := by
  have hm : monoV s = ((List.range (2 ^ b)).all fun n => (List.range (2 ^ b)).all fun m => !((n &&& m == n) && (onesV s (2 ^ b)).testBit n && !(onesV s (2 ^ b)).testBit m)) := by
    unfold monoV
    rw [hs]
    refine all_congr fun n hn => all_congr fun m hm => ?_
    unfold bad
    rw [ones_bit s _ n hn, ones_bit s _ m hm, not_one hok m (by omega)]
  have hg : goodV s b = ((List.range (2 ^ b)).all fun n => (List.range b).all fun i => !(onesV s (2 ^ b)).testBit n || (onesV s (2 ^ b)).testBit (n ||| 2 ^ i)) := by
    unfold goodV
    rw [hs]
    refine all_congr fun n hn => all_congr fun i hi => ?_
    unfold stepV
    have hu := (up_lt n i b h3 hn hi).1
    rw [ones_bit s _ n hn, ones_bit s _ _ hu, not_one hok n (by omega)]
  have hlt : onesV s (2 ^ b) < 2 ^ (2 ^ b) := setB_lt _ _
  rw [hm, hg]
  have h : b = 1 ∨ b = 2 ∨ b = 3 := by omega
  rcases h with rfl | rfl | rfl
  · exact mono1 ⟨_, hlt⟩
  · exact mono2 ⟨_, hlt⟩
  · exact mono3 ⟨_, hlt⟩

/-- without turned letters -/
def plainF : F → F
  | .lit k _ => .lit k true
  | .gate a f g => .gate a (plainF f) (plainF g)
def upB (c : UInt8) : UInt8 := if 88 ≤ c ∧ c ≤ 90 then c + 32 else c
theorem up_lit (k : Nat) (v : Bool) (h : k < 3) : upB (litB k v) = litB k true := by
  have : ∀ (k : Fin 3) (v : Bool), upB (litB k.1 v) = litB k.1 true := by decide
  exact this ⟨k, h⟩ v
theorem up_sgn (a : Bool) : upB (sgn a) = sgn a := by cases a <;> decide
theorem plain_text : ∀ t, wf 3 t → text (plainF t) = (text t).map upB
  | .lit k v, h => by simp only [plainF, text, List.map_cons, List.map_nil, up_lit k v h]
  | .gate a f g, h => by simp only [plainF, text, List.map_cons, List.map_append, up_sgn, plain_text f h.1, plain_text g h.2]
theorem plain_wf (n : Nat) : ∀ t, wf n t → wf n (plainF t)
  | .lit _ _, h => h
  | .gate _ f g, h => ⟨plain_wf n f h.1, plain_wf n g h.2⟩
theorem plain_size : ∀ t, size (plainF t) = size t
  | .lit _ _ => rfl
  | .gate _ f g => by simp only [plainF, size, plain_size f, plain_size g]
theorem plain_length (t : F) : (text (plainF t)).length = (text t).length := by
  have h1 := text_size t
  have h2 := text_size (plainF t)
  rw [plain_size] at h2
  omega
theorem plain_up : ∀ (t : F) (n m : Nat), n &&& m = n → val (plainF t) n = true → val (plainF t) m = true
  | .lit k v, n, m, h, e => by
    simp only [plainF, val, beq_true] at e ⊢
    rw [← h, Nat.testBit_and, Bool.and_eq_true] at e
    exact e.2
  | .gate a f g, n, m, h, e => by
    have hf := plain_up f n m h
    have hg := plain_up g n m h
    simp only [plainF, val] at e ⊢
    cases a
    · simp only [Bool.false_eq_true, if_false, Bool.or_eq_true] at e ⊢
      exact e.imp hf hg
    · simp only [if_true, Bool.and_eq_true] at e ⊢
      exact ⟨hf e.1, hg e.2⟩
theorem plain_mono (t : F) (n : Nat) (h1 : 1 ≤ n) (h3 : n ≤ 3) : monoR (str (tabL (plainF t) (2 ^ n))) = true := by
  unfold monoR
  have htv : tabV (str (tabL (plainF t) (2 ^ n))) = true := by
    unfold tabV
    rw [tab_width _ n h1 h3]
    exact decide_eq_true (by omega)
  rw [htv, Bool.true_and]
  refine mono_true fun x hx y hy => ?_
  rw [tab_size] at hx hy
  unfold bad
  rw [tab_get _ _ x hx, tab_get _ _ y hy]
  cases e : (x &&& y == x)
  · rfl
  · rw [beq_iff_eq] at e
    cases hv : val (plainF t) x
    · rfl
    · rw [plain_up t x y e hv]
      rfl
end Go.Proofs.YtbhkfibbepocfaaDoor.MoM
