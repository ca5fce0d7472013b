/-
  Texts of one seat, joined: FgM, PlX.
-/
import Derived.Test.YtbccachkkflceaaGreatDoorJn1
import Derived.Test.YtbccachkkflceaaGreatDoorJn33
import Derived.Test.YtbccachkkflceaaGreatDoorJn17
import Derived.Test.YtbccachkkflceaaGreatDoorJn31
/-
  The protocol of a formula plays the game of its table; that of the dual has the players exchanged. Nothing of the program.
-/
namespace Go.Proofs.YtbccachkkflceaaGreatDoor.FgM
open Go.RowKit Go.Proofs.YtbccachkkflceaaGreatDoor.Plain Go.Proofs.YtbccachkkflceaaGreatDoor.Pat Go.Proofs.YtbccachkkflceaaGreatDoor.Tree Go.Proofs.YtbccachkkflceaaGreatDoor.Talk Go.Proofs.YtbccachkkflceaaGreatDoor.GmM Go.Proofs.YtbccachkkflceaaGreatDoor.PlM Go.Proofs.YtbccachkkflceaaGreatDoor.PlN Go.Proofs.YtbccachkkflceaaGreatDoor.Valid Go.Proofs.YtbccachkkflceaaGreatDoor.Wid
open Go.Proofs.YtbccachkkflceaaGreatDoor.Fm (F val size deep lets litB sgn dual dual_val)
open Go.Proofs.YtbccachkkflceaaGreatDoor.FmTab (tabL tabL_length)
set_option linter.unusedVariables false

theorem ask_bit (a : Bool) (f : F) (n : Nat) (h : n < 8) : (askB a f).testBit n = (val f n == a) := by
  unfold askB
  rw [setB_bit, decide_eq_true h, Bool.true_and]
/-- the end where two numbers meet names a bit that is different -/
theorem ends_apart : ∀ (f : F), Fm.wf 3 f → ∀ x y, x < 8 → y < 8 → val f x = true → val f y = false →
    x.testBit (gN (talkT (gameT f) x y).2) ≠ y.testBit (gN (talkT (gameT f) x y).2)
  | .lit k v, hw, x, y, hx, hy, h1, h2 => by
    simp only [gameT, talkT, gk_N k hw]
    simp only [val] at h1 h2
    cases hb : x.testBit k <;> cases hc : y.testBit k <;> cases v <;> simp [hb, hc] at h1 h2 ⊢
  | .gate a f g, hw, x, y, hx, hy, h1, h2 => by
    have i1 := ends_apart f hw.1 x y hx hy
    have i2 := ends_apart g hw.2 x y hx hy
    have e : (talkT (gameT (.gate a f g)) x y).2 = if saysB (!a) (askB a f) x y then (talkT (gameT g) x y).2 else (talkT (gameT f) x y).2 := by
      simp only [gameT, talkT]
      split <;> rfl
    rw [e]
    simp only [val] at h1 h2
    cases a
    · simp only [saysB, Bool.not_false, if_true, ask_bit false f x hx]
      simp only [Bool.false_eq_true, if_false, Bool.or_eq_true, Bool.or_eq_false_iff] at h1 h2
      cases hv : val f x with
      | true => simpa using i1 hv h2.1
      | false =>
        have hg : val g x = true := by
          rcases h1 with h | h
          · rw [hv] at h; cases h
          · exact h
        simpa using i2 hg h2.2
    · simp only [saysB, Bool.not_true, Bool.false_eq_true, if_false, ask_bit true f y hy]
      simp only [if_true, Bool.and_eq_true, Bool.and_eq_false_iff] at h1 h2
      cases hv : val f y with
      | false => simpa using i1 h1.1 hv
      | true =>
        have hg : val g y = false := by
          rcases h2 with h | h
          · rw [hv] at h; cases h
          · exact h
        simpa using i2 h1.2 hg

/-- the players exchanged -/
def turnT : T → T
  | .leaf b => .leaf b
  | .say a s z o => .say (!a) s (turnT z) (turnT o)
theorem ask_dual (a : Bool) (f : F) : askB (!a) (dual f) = askB a f := by
  unfold askB
  congr 1
  funext n
  rw [dual_val]
  cases val f n <;> cases a <;> rfl
theorem dual_game : ∀ f : F, gameT (dual f) = turnT (gameT f)
  | .lit k v => rfl
  | .gate a f g => by
    simp only [dual, gameT, turnT, dual_game f, dual_game g, ask_dual]
def swapW (c : UInt8) : UInt8 := if c.toNat = 65 then 66 else if c.toNat = 66 then 65 else c
theorem swap_hex (n : Nat) : swapW (hexD n) = hexD n := by
  by_cases h : n < 16
  · have : ∀ k : Fin 16, swapW (hexD k.1) = hexD k.1 := by decide
    exact this ⟨n, h⟩
  · have e : hexD n = 0 := by
      unfold hexD
      rw [List.getD_eq_getElem?_getD, List.getElem?_eq_none (by simp [hexL]; omega)]
      rfl
    rw [e]
    decide
theorem turn_text : ∀ t : T, text (turnT t) = (text t).map swapW
  | .leaf b => by cases b <;> decide
  | .say a s z o => by
    simp only [turnT, text, List.map_cons, List.map_append, swap_hex, turn_text z, turn_text o]
    cases a <;> rfl

/-- the bytes of a formula's table -/
theorem tab_on (f : F) (n : Nat) (h : n < 8) : onB (str (tabL f 8)) n = val f n := by
  unfold onB
  have e : (str (tabL f 8)).data.toList.getD n 0 = dig (val f n) := by
    have hl : (str (tabL f 8)).data.toList = tabL f 8 := by simp [str]
    rw [hl, List.getD_eq_getElem?_getD]
    simp [tabL, h]
  rw [e]
  cases val f n <;> rfl
theorem tab_ok (f : F) : okB (str (tabL f 8)) = true := by
  unfold okB
  have hl : (str (tabL f 8)).data.toList = tabL f 8 := by simp [str]
  rw [hl, List.all_eq_true]
  intro c hc
  unfold tabL at hc
  obtain ⟨n, _, rfl⟩ := List.mem_map.1 hc
  cases val f n <;> rfl
theorem tab_size (f : F) : (str (tabL f 8)).size = 8 := by rw [str_size, tabL_length]
theorem tab_plays (f : F) (hw : Fm.wf 3 f) : playB (gameT f) (onesN (str (tabL f 8))) (zerosN (str (tabL f 8))) = true := by
  have hs : (str (tabL f 8)).size ≤ 8 := by rw [tab_size]; exact Nat.le_refl _
  rw [play_iff (gameT f) _ _ (ones_lt _ hs) (zeros_lt _ hs)]
  intro x y hx hy
  unfold onesN at hx
  unfold zerosN at hy
  rw [setB_bit, tab_size] at hx hy
  simp only [Bool.and_eq_true, decide_eq_true_eq, Bool.not_eq_true'] at hx hy
  rw [tab_on f x hx.1] at hx
  rw [tab_on f y hy.1] at hy
  exact ends_apart f hw x y hx.1 hy.1 hx.2 hy.2
theorem tab_tabV (f : F) : tabV (str (tabL f 8)) = true := by
  have h1 := tab_size f
  have h2 := tab_ok f
  generalize str (tabL f 8) = s at *
  unfold tabV
  rw [width3 h2 h1]
  decide
end Go.Proofs.YtbccachkkflceaaGreatDoor.FgM

/-
  PlaysGame of the program, where the text is a protocol and the table is one.
-/
namespace Go.Proofs.YtbccachkkflceaaGreatDoor.PlX
open Go.RowKit Go.Shelf Go.Proofs.YtbccachkkflceaaGreatDoor.Plain Go.Proofs.YtbccachkkflceaaGreatDoor.Base Go.Proofs.YtbccachkkflceaaGreatDoor.Valid Go.Proofs.YtbccachkkflceaaGreatDoor.Pat Go.Proofs.YtbccachkkflceaaGreatDoor.Tree Go.Proofs.YtbccachkkflceaaGreatDoor.Read Go.Proofs.YtbccachkkflceaaGreatDoor.TreeOf Go.Proofs.YtbccachkkflceaaGreatDoor.PlM Go.Proofs.YtbccachkkflceaaGreatDoor.PlN Go.Proofs.YtbccachkkflceaaGreatDoor.PlI Go.Proofs.YtbccachkkflceaaGreatDoor.Wid Go.Proofs.YtbccachkkflceaaGreatDoor.Rect
set_option linter.unusedVariables false
set_option linter.unusedSimpArgs false
set_option maxHeartbeats 2000000 in
theorem plays_yes (p : ByteArray) (t : T) (hw : wf t) (h : p.data.toList = text t) (hp : p.size ≤ 2000) (s : ByteArray) (hs : s.size ≤ 8) (htv : tabV s = true) (w : World) :
    Calls Tryz.prog 10 #[.string p, .string s] w fun e w' => e = .returned (.bool (playB t (onesN s) (zerosN s))) ∧ Below w.heap.size w w' := by
  have hsm : s.size ≤ maxLen := by unfold maxLen; omega
  have HTI := Lib.hid (impl_tabv s hsm)
  have HTR := Lib.hid (tree_yes p t hw h hp)
  have HNU := Lib.hid (numbers s hsm)
  have hl : (text t).length ≤ 2000 := by rw [← h]; simpa using hp
  have HPW := Lib.hid (plays_w t hl (onesN s) (zerosN s) (ones_lt s hs) (zeros_lt s hs))
  have hnv : numV s = rect (onesN s) (zerosN s) := by unfold numV; rw [htv]; rfl
  rw [hnv] at HNU
  rw [htv] at HTI
  obtain ⟨ty, v, ev⟩ := tree_iface t
  rw [ev] at HTR HPW
  generalize playB t (onesN s) (zerosN s) = res at *
  generalize onesN s = on at *
  generalize zerosN s = ze at *
  clear h htv hw hl ev hnv
  go_enter Tryz.func10, Tryz.ntmps10
  go_wp2_with fail
  refine (HTR.out _).mono ?_
  rintro e w1 ⟨rfl, hb1⟩
  have HB1 := Lib.hid hb1
  clear hb1
  go_wp2_with fail
  refine (HTI.out _).mono ?_
  rintro e w2 ⟨rfl, hb2⟩
  have HB2 := Lib.hid (HB1.out.trans (hb2.mono HB1.out.size))
  clear hb2
  go_wp2_with fail
  refine (HNU.out _).mono ?_
  rintro e w3 ⟨rfl, hb3⟩
  have HB3 := Lib.hid (HB2.out.trans (hb3.mono HB2.out.size))
  clear hb3
  go_wp2_with fail
  refine (HPW.out _).mono ?_
  rintro e w4 ⟨rfl, hb4⟩
  have HB4 := Lib.hid (HB3.out.trans (hb4.mono HB3.out.size))
  clear hb4
  go_wp2_with fail
  go_ret
  exact ⟨rfl, HB4.out⟩
end Go.Proofs.YtbccachkkflceaaGreatDoor.PlX

