/-
  Texts of one seat, joined: GfN, GfLaw.
-/
import Derived.Test.YtbccachkkflceaaGreatDoorJn1
import Derived.Test.YtbccachkkflceaaGreatDoorJn39
import Derived.Test.YtbccachkkflceaaGreatDoorJn34
import Derived.Test.YtbccachkkflceaaGreatDoorJn38
import Derived.Test.YtbccachkkflceaaGreatDoorJn12
import Derived.Test.YtbccachkkflceaaGreatDoorJn17
import Derived.Test.YtbccachkkflceaaGreatDoorJn24
import Derived.Test.YtbccachkkflceaaGreatDoorJn25
import Derived.Test.YtbccachkkflceaaGreatDoorJn26
import Derived.Test.YtbccachkkflceaaGreatDoorJn41
import Derived.Test.YtbccachkkflceaaGreatDoorJn9
/-
  The formula of a protocol that plays has the table, and is neither deeper nor longer than the protocol. Nothing of the program.
-/
namespace Go.Proofs.YtbccachkkflceaaGreatDoor.GfN
open Go.RowKit Go.Proofs.YtbccachkkflceaaGreatDoor.Plain Go.Proofs.YtbccachkkflceaaGreatDoor.Pat Go.Proofs.YtbccachkkflceaaGreatDoor.Tree Go.Proofs.YtbccachkkflceaaGreatDoor.TrimT Go.Proofs.YtbccachkkflceaaGreatDoor.Leaf Go.Proofs.YtbccachkkflceaaGreatDoor.Talk Go.Proofs.YtbccachkkflceaaGreatDoor.PlM Go.Proofs.YtbccachkkflceaaGreatDoor.GfM Go.Proofs.YtbccachkkflceaaGreatDoor.GmM Go.Proofs.YtbccachkkflceaaGreatDoor.PlN Go.Proofs.YtbccachkkflceaaGreatDoor.FgM Go.Proofs.YtbccachkkflceaaGreatDoor.Valid Go.Proofs.YtbccachkkflceaaGreatDoor.Wid
open Go.Proofs.YtbccachkkflceaaGreatDoor.Fm (F val)
open Go.Proofs.YtbccachkkflceaaGreatDoor.FmTab (tabL tabL_length)
set_option linter.unusedVariables false

theorem frm_deep : ∀ (t : T) (R C : Nat), Fm.deep (frmS t R C) ≤ Tree.bits t
  | .leaf b, R, C => Nat.le_refl _
  | .say a s z o, R, C => by
    have h1 := frm_deep z (outR a s R) (outC a s C)
    have h2 := frm_deep o (inR a s R) (inC a s C)
    unfold frmS
    simp only [Tree.bits]
    split
    · omega
    · split
      · omega
      · simp only [Fm.deep]; omega
theorem frm_ends : ∀ (t : T) (R C : Nat), Fm.size (frmS t R C) ≤ Tree.ends t
  | .leaf b, R, C => Nat.le_refl _
  | .say a s z o, R, C => by
    have h1 := frm_ends z (outR a s R) (outC a s C)
    have h2 := frm_ends o (inR a s R) (inC a s C)
    unfold frmS
    simp only [Tree.ends]
    split
    · omega
    · split
      · omega
      · simp only [Fm.size]; omega
theorem row_or (a : Bool) (s x : Nat) {R : Nat} (hR : R < 256) (hx : R.testBit x = true) : if a then (outR a s R).testBit x = true ∨ (inR a s R).testBit x = true else (outR a s R).testBit x = true ∧ (inR a s R).testBit x = true := by
  cases a
  · simp only [outR, inR, if_false, Bool.false_eq_true]
    exact ⟨hx, hx⟩
  · simp only [outR, inR, if_true, minus_bit R s x hR, meet_bit R s x hR, hx]
    cases s.testBit x <;> simp
theorem col_or (a : Bool) (s y : Nat) {C : Nat} (hC : C < 256) (hy : C.testBit y = true) : if a then (outC a s C).testBit y = true ∧ (inC a s C).testBit y = true else (outC a s C).testBit y = true ∨ (inC a s C).testBit y = true := by
  cases a
  · simp only [outC, inC, if_false, Bool.false_eq_true, minus_bit C s y hC, meet_bit C s y hC, hy]
    cases s.testBit y <;> simp
  · simp only [outC, inC, if_true]
    exact ⟨hy, hy⟩
/-- true of all rows, false of all columns -/
theorem frm_val : ∀ (t : T) (R C : Nat), R < 256 → C < 256 → R ≠ 0 → C ≠ 0 → playB t R C = true →
    (∀ x, R.testBit x = true → val (frmS t R C) x = true) ∧ (∀ y, C.testBit y = true → val (frmS t R C) y = false)
  | .leaf b, R, C, hR, hC, hR0, hC0, hp => by
    have hs : (partL (gN b) R C).isSome = true := by
      unfold playB at hp
      simp only [leavesT] at hp
      rw [if_neg (by omega)] at hp
      simpa using hp
    obtain ⟨h1, _, _⟩ := least_in hR hR0
    have key : ∃ v, partB (gN b) v R C := by
      unfold partL at hs
      by_cases p1 : partB (gN b) false R C
      · exact ⟨false, p1⟩
      · rw [if_neg p1] at hs
        by_cases p2 : partB (gN b) true R C
        · exact ⟨true, p2⟩
        · rw [if_neg p2] at hs; cases hs
    obtain ⟨v, hv⟩ := key
    obtain ⟨k1, k2⟩ := (part_iff hR hC).1 hv
    simp only [frmS, val]
    rw [k1 _ h1]
    refine ⟨fun x hx => ?_, fun y hy => ?_⟩
    · rw [k1 x hx]; simp
    · rw [k2 y hy]; cases v <;> rfl
  | .say a s z o, R, C, hR, hC, hR0, hC0, hp => by
    obtain ⟨h1, h2, h3, h4⟩ := parts_lt a s hR hC
    obtain ⟨pz, po⟩ := play_parts a s z o R C hp
    unfold frmS
    by_cases g2 : outR a s R = 0 ∨ outC a s C = 0
    · obtain ⟨e1, e2⟩ := out_none a s R C hR hC hR0 hC0 g2
      rw [if_pos g2]
      rw [e1, e2] at po ⊢
      exact frm_val o R C hR hC hR0 hC0 po
    · rw [if_neg g2]
      by_cases g1 : inR a s R = 0 ∨ inC a s C = 0
      · obtain ⟨e1, e2⟩ := in_none a s R C hR hC hR0 hC0 g1
        rw [if_pos g1]
        rw [e1, e2] at pz ⊢
        exact frm_val z R C hR hC hR0 hC0 pz
      · rw [if_neg g1]
        obtain ⟨z1, z2⟩ := frm_val z _ _ h1 h2 (by omega) (by omega) pz
        obtain ⟨o1, o2⟩ := frm_val o _ _ h3 h4 (by omega) (by omega) po
        refine ⟨fun x hx => ?_, fun y hy => ?_⟩
        · have k := row_or a s x hR hx
          simp only [val]
          cases a
          · simp only [Bool.false_eq_true, if_false] at k
            simp [z1 x k.1, o1 x k.2]
          · simp only [if_true] at k
            rcases k with k | k
            · simp [z1 x k]
            · simp [o1 x k]
        · have k := col_or a s y hC hy
          simp only [val]
          cases a
          · simp only [Bool.false_eq_true, if_false] at k
            rcases k with k | k
            · simp [z2 y k]
            · simp [o2 y k]
          · simp only [if_true] at k
            simp [z2 y k.1, o2 y k.2]
theorem low_out {R s b : Nat} (hR : R < 256) (h : ∀ x, R.testBit x = true → x < b) : (∀ x, (minusN R s).testBit x = true → x < b) ∧ ∀ x, (meetN R s).testBit x = true → x < b := by
  refine ⟨fun x hx => h x ?_, fun x hx => h x ?_⟩
  · rw [minus_bit R s x hR, Bool.and_eq_true] at hx; exact hx.1
  · rw [meet_bit R s x hR, Bool.and_eq_true] at hx; exact hx.1
theorem low_parts (a : Bool) (s N : Nat) {R C : Nat} (hR : R < 256) (hC : C < 256) (h1 : ∀ x, R.testBit x = true → x < N) (h2 : ∀ x, C.testBit x = true → x < N) :
    (∀ x, (outR a s R).testBit x = true → x < N) ∧ (∀ x, (outC a s C).testBit x = true → x < N) ∧ (∀ x, (inR a s R).testBit x = true → x < N) ∧ (∀ x, (inC a s C).testBit x = true → x < N) := by
  have k1 := low_out (s := s) hR h1
  have k2 := low_out (s := s) hC h2
  cases a
  · simp only [outR, outC, inR, inC, if_false, Bool.false_eq_true]
    exact ⟨h1, k2.1, h1, k2.2⟩
  · simp only [outR, outC, inR, inC, if_true]
    exact ⟨k1.1, h2, k1.2, h2⟩
/-- its letters are of the bits that the numbers have -/
theorem frm_wf (b : Nat) : ∀ (t : T) (R C : Nat), R < 256 → C < 256 → R ≠ 0 → C ≠ 0 → playB t R C = true → (∀ x, R.testBit x = true → x < 2 ^ b) → (∀ y, C.testBit y = true → y < 2 ^ b) → Fm.wf b (frmS t R C)
  | .leaf k, R, C, hR, hC, hR0, hC0, hp, hlr, hlc => by
    show gN k < b
    have hs : (partL (gN k) R C).isSome = true := by
      unfold playB at hp
      simp only [leavesT] at hp
      rw [if_neg (by omega)] at hp
      simpa using hp
    have hap := (partL_iff hR hC hR0 hC0).1 hs
    obtain ⟨h1, _, _⟩ := least_in hR hR0
    obtain ⟨h2, _, _⟩ := least_in hC hC0
    apply Classical.byContradiction
    intro hk
    have hk2 : b ≤ gN k := by omega
    have hpow : 2 ^ b ≤ 2 ^ gN k := Nat.pow_le_pow_right (by decide) hk2
    have e1 : (leastN R).testBit (gN k) = false := Nat.testBit_lt_two_pow (Nat.lt_of_lt_of_le (hlr _ h1) hpow)
    have e2 : (leastN C).testBit (gN k) = false := Nat.testBit_lt_two_pow (Nat.lt_of_lt_of_le (hlc _ h2) hpow)
    exact hap _ _ h1 h2 (by rw [e1, e2])
  | .say a s z o, R, C, hR, hC, hR0, hC0, hp, hlr, hlc => by
    obtain ⟨h1, h2, h3, h4⟩ := parts_lt a s hR hC
    obtain ⟨pz, po⟩ := play_parts a s z o R C hp
    obtain ⟨l1, l2, l3, l4⟩ := low_parts a s (2 ^ b) hR hC hlr hlc
    unfold frmS
    by_cases g2 : outR a s R = 0 ∨ outC a s C = 0
    · obtain ⟨e1, e2⟩ := out_none a s R C hR hC hR0 hC0 g2
      rw [if_pos g2]
      exact frm_wf b o _ _ h3 h4 (by omega) (by omega) po l3 l4
    · rw [if_neg g2]
      by_cases g1 : inR a s R = 0 ∨ inC a s C = 0
      · obtain ⟨e1, e2⟩ := in_none a s R C hR hC hR0 hC0 g1
        rw [if_pos g1]
        exact frm_wf b z _ _ h1 h2 (by omega) (by omega) pz l1 l2
      · rw [if_neg g1]
        exact ⟨frm_wf b z _ _ h1 h2 (by omega) (by omega) pz l1 l2, frm_wf b o _ _ h3 h4 (by omega) (by omega) po l3 l4⟩

/-! ### of a table -/
theorem ones_bit (s : ByteArray) (x : Nat) : (onesN s).testBit x = (decide (x < s.size) && onB s x) := setB_bit _ _ _
theorem zeros_bit (s : ByteArray) (x : Nat) : (zerosN s).testBit x = (decide (x < s.size) && !onB s x) := setB_bit _ _ _
theorem val_on (t : T) (s : ByteArray) (h8 : s.size ≤ 8) (h1 : onesN s ≠ 0) (h2 : zerosN s ≠ 0) (hp : playB t (onesN s) (zerosN s) = true) (n : Nat) (hn : n < s.size) :
    val (frmS t (onesN s) (zerosN s)) n = onB s n := by
  obtain ⟨k1, k2⟩ := frm_val t _ _ (ones_lt s h8) (zeros_lt s h8) h1 h2 hp
  cases hb : onB s n with
  | true => exact k1 n (by rw [ones_bit, hb, decide_eq_true hn]; rfl)
  | false => exact k2 n (by rw [zeros_bit, hb, decide_eq_true hn]; rfl)
theorem tab_same (t : T) (s : ByteArray) (h8 : s.size ≤ 8) (hok : okB s = true) (h1 : onesN s ≠ 0) (h2 : zerosN s ≠ 0) (hp : playB t (onesN s) (zerosN s) = true) :
    s = str (tabL (frmS t (onesN s) (zerosN s)) s.size) := by
  apply Read.eq_str
  have hv := val_on t s h8 h1 h2 hp
  generalize frmS t (onesN s) (zerosN s) = f at *
  apply List.ext_getElem
  · rw [tabL_length]; simp
  · intro i e1 e2
    have hi : i < s.size := by simpa using e1
    have hb := bit_bytes s hok i hi
    rw [← hv i hi] at hb
    have ht : (tabL f s.size)[i]'e2 = dig (val f i) := by simp [tabL]
    rw [ht]
    have hs : s.data.toList[i]'e1 = s[i] := by simp; rfl
    rw [hs]
    apply UInt8.toNat_inj.1
    rw [hb]
    cases val f i <;> rfl
theorem frm_low (t : T) (s : ByteArray) (b : Nat) (hb : s.size = 2 ^ b) (h8 : s.size ≤ 8) (h1 : onesN s ≠ 0) (h2 : zerosN s ≠ 0) (hp : playB t (onesN s) (zerosN s) = true) : Fm.wf b (frmS t (onesN s) (zerosN s)) := by
  refine frm_wf b t _ _ (ones_lt s h8) (zeros_lt s h8) h1 h2 hp ?_ ?_
  · intro x hx
    rw [ones_bit, Bool.and_eq_true, decide_eq_true_eq] at hx
    omega
  · intro x hx
    rw [zeros_bit, Bool.and_eq_true, decide_eq_true_eq] at hx
    omega
/-- its own protocol plays the game of the table -/
theorem frm_plays (t : T) (s : ByteArray) (h8 : s.size ≤ 8) (h1 : onesN s ≠ 0) (h2 : zerosN s ≠ 0) (hp : playB t (onesN s) (zerosN s) = true) : playB (gameT (frmS t (onesN s) (zerosN s))) (onesN s) (zerosN s) = true := by
  have hv := val_on t s h8 h1 h2 hp
  have hw := frmS_wf t (onesN s) (zerosN s)
  rw [play_iff _ _ _ (ones_lt s h8) (zeros_lt s h8)]
  intro x y hx hy
  rw [ones_bit, Bool.and_eq_true, decide_eq_true_eq] at hx
  rw [zeros_bit, Bool.and_eq_true, decide_eq_true_eq] at hy
  have e1 := hv x hx.1
  have e2 := hv y hy.1
  rw [hx.2] at e1
  have hy2 : onB s y = false := by simpa using hy.2
  rw [hy2] at e2
  exact ends_apart _ hw x y (by omega) (by omega) e1 e2
end Go.Proofs.YtbccachkkflceaaGreatDoor.GfN

/-
  The walk of the drawn law on GameFormula.
-/
namespace Go.Proofs.YtbccachkkflceaaGreatDoor.fnGameFormula
open Go.RowKit Go.Shelf Go.Proofs.YtbccachkkflceaaGreatDoor.Plain Go.Proofs.YtbccachkkflceaaGreatDoor.Rd Go.Proofs.YtbccachkkflceaaGreatDoor.DrawPg Go.Proofs.YtbccachkkflceaaGreatDoor.GmG Go.Proofs.YtbccachkkflceaaGreatDoor.FgM Go.Proofs.YtbccachkkflceaaGreatDoor.GfM Go.Proofs.YtbccachkkflceaaGreatDoor.GfN Go.Proofs.YtbccachkkflceaaGreatDoor.PlM Go.Proofs.YtbccachkkflceaaGreatDoor.PlN Go.Proofs.YtbccachkkflceaaGreatDoor.GfI Go.Proofs.YtbccachkkflceaaGreatDoor.Wid
open Go.Proofs.YtbccachkkflceaaGreatDoor.GmM (gameT game_wf game_bits game_ends game_length)
open Go.Proofs.YtbccachkkflceaaGreatDoor.FmTab (tabL tabL_length impl_tab)
set_option linter.unusedVariables false
set_option linter.unusedSimpArgs false

theorem ok_parts {t : Tree.T} {s : ByteArray} (h : gfOk t s = true) : tabV s = true ∧ onesN s ≠ 0 ∧ zerosN s ≠ 0 ∧ playB t (onesN s) (zerosN s) = true := by
  unfold gfOk at h
  simp only [Bool.and_eq_true, decide_eq_true_eq] at h
  exact ⟨h.1.1, h.1.2.1, h.1.2.2, h.2⟩
theorem ok_of {t : Tree.T} {s : ByteArray} (h1 : tabV s = true) (h2 : onesN s ≠ 0) (h3 : zerosN s ≠ 0) (h4 : playB t (onesN s) (zerosN s) = true) : gfOk t s = true := by
  unfold gfOk
  simp only [Bool.and_eq_true, decide_eq_true_eq]
  exact ⟨⟨h1, h2, h3⟩, h4⟩

set_option maxHeartbeats 8000000 in
set_option maxRecDepth 100000 in
theorem walk (v : Value) (n : Nat) (w : World) (h : ByteArg w v n) :
    Calls Tryz.prog 4 #[v] w fun e w' => e = .returned (.bool true) ∧ Below w.heap.size w w' := by
  obtain ⟨hn0, a, cap, rfl, hc, hb0⟩ := id h
  clear hb0
  have HD := Lib.hid (draw_gf _ n w h)
  clear h
  by_cases hbig : 1048576 < n
  · have hbi : (1048576 : Int) < (n : Int) := by omega
    go_enter Tryz.func4, Tryz.ntmps4
    go_wp2_with fail
    go_ret
    exact ⟨rfl, Below.refl _ _⟩
  have hbi : ¬ (1048576 : Int) < (n : Int) := by omega
  go_enter Tryz.func4, Tryz.ntmps4
  go_wp2_with fail
  refine HD.out.mono ?_
  rintro e w1 ⟨p, s, rfl, hp, hs, hb⟩
  have HB1 := Lib.hid hb
  clear HD hbig hbi hb
  have hcase : (∃ t, Tree.wf t ∧ p.data.toList = Tree.text t ∧ gfOk t s = true) ∨
      ((∀ W, Calls Tryz.prog 17 #[.string p, .string s] W fun e w' => e = .returned (.tuple #[.string (str []), .bool false]) ∧ Below W.heap.size W w') ∧
       (∀ W, Calls Tryz.prog 16 #[.string p, .string s] W fun e w' => e = .returned (.tuple #[.string (str []), .bool false]) ∧ Below W.heap.size W w')) := by
    rcases TreeOf.ok_or p with ⟨t, h1, h2, h3⟩ | hno
    · cases hok : gfOk t s with
      | true => exact .inl ⟨t, h1, h2, hok⟩
      | false =>
        have e1 := fun W => fnExactGameFormula.spec_yes p t h1 h2 h3 s (by omega) W
        have e2 := fun W => fnExactGameFormula.impl_yes p t h1 h2 h3 s (by omega) W
        unfold gfV at e1 e2
        rw [hok] at e1 e2
        exact .inr ⟨e1, e2⟩
    · exact .inr ⟨fun W => fnExactGameFormula.spec_no p hno (by omega) s W, fun W => fnExactGameFormula.impl_no p hno (by omega) s (by omega) W⟩
  rcases hcase with ⟨t, hw, ht, hok⟩ | ⟨e1, e2⟩
  · obtain ⟨g1, g2, g3, g4⟩ := ok_parts hok
    obtain ⟨b, hb1, hb3, hsb, hokB, hwd, h8⟩ := PlN.tab_size s g1
    have HS := Lib.hid (fun W => fnExactGameFormula.spec_yes p t hw ht (by omega) s (by omega) W)
    have HI := Lib.hid (fun W => fnExactGameFormula.impl_yes p t hw ht (by omega) s (by omega) W)
    unfold gfV at HS HI
    rw [if_pos hok] at HS HI
    have HW := Lib.hid (impl_width s (by unfold maxLen; omega))
    rw [hwd] at HW
    have hsh := fnExactGameFormula.short t s h8 g2 g3
    have hsh2 := fnExactGameFormula.short (gameT (frmS t (onesN s) (zerosN s))) s h8 g2 g3
    have hlow := frm_low t s b hsb h8 g2 g3 g4
    have hwf := frmS_wf t (onesN s) (zerosN s)
    have hwf2 := frmS_wf (gameT (frmS t (onesN s) (zerosN s))) (onesN s) (zerosN s)
    have hpl := frm_plays t s h8 g2 g3 g4
    have htab := tab_same t s h8 hokB g2 g3 g4
    have hde := frm_deep t (onesN s) (zerosN s)
    have hen := frm_ends t (onesN s) (zerosN s)
    have hen2 := frm_ends (gameT (frmS t (onesN s) (zerosN s))) (onesN s) (zerosN s)
    rw [game_ends] at hen2
    have hok2 := ok_of g1 g2 g3 hpl
    have hgb := fun W => fnExactGameBits.impl_yes p t hw ht (by omega) W
    have hge := fun W => fnExactGameEnds.impl_yes p t hw ht (by omega) W
    have hI2 := fun W => fnExactGameFormula.impl_yes (str (Tree.text (gameT (frmS t (onesN s) (zerosN s))))) (gameT (frmS t (onesN s) (zerosN s))) (game_wf _) (by simp [str]) (by rw [str_size]; have := game_length _ hsh; omega) s (by omega) W
    unfold gfV at hI2
    rw [if_pos hok2] at hI2
    have HI2 := Lib.hid hI2
    have HPG := Lib.hid (PlX.plays_yes (str (Tree.text (gameT (frmS t (onesN s) (zerosN s))))) (gameT (frmS t (onesN s) (zerosN s))) (game_wf _) (by simp [str]) (by rw [str_size]; have := game_length _ hsh; omega) s h8 g1)
    rw [hpl] at HPG
    generalize frmS (gameT (frmS t (onesN s) (zerosN s))) (onesN s) (zerosN s) = f2 at *
    generalize frmS t (onesN s) (zerosN s) = f at *
    have hft : (str (Fm.text f)).data.toList = Fm.text f := by simp [str]
    have hfs : (str (Fm.text f)).size ≤ 200 := by rw [str_size]; exact hsh
    have hft2 : (str (Fm.text f2)).data.toList = Fm.text f2 := by simp [str]
    have hfs2 : (str (Fm.text f2)).size ≤ 200 := by rw [str_size]; exact hsh2
    have HT : Hid (∀ W, Calls Tryz.prog 8 #[.string (str (Fm.text f)), .int .i64 (b : Int)] W fun e w' => e = .returned (.tuple #[.string (str (tabL f s.size)), .bool true]) ∧ Below W.heap.size W w') := impl_tab b s.size hb1 hb3 hsb.symm (str (Fm.text f)) f hlow hft hfs
    rw [← htab] at HT
    have HFG := Lib.hid (impl_yes (str (Fm.text f)) f hwf hft hfs)
    unfold fgAns at HFG
    have HK := Lib.hid (fnExactDeepOf.impl_yes (str (Fm.text f)) f hwf hft hfs)
    have HZ := Lib.hid (fnExactSizeOf.impl_yes (str (Fm.text f)) f hwf hft hfs)
    have HZ2 := Lib.hid (fnExactSizeOf.impl_yes (str (Fm.text f2)) f2 hwf2 hft2 hfs2)
    have HGB := Lib.hid hgb
    have HGE := Lib.hid hge
    have l1 : (Fm.size f2 : Int) ≤ (Fm.size f : Int) := by omega
    have l2 : (Fm.deep f : Int) ≤ (Tree.bits t : Int) := by omega
    have l3 : (Fm.size f : Int) ≤ (Tree.ends t : Int) := by omega
    generalize str (Tree.text (gameT f)) = q at *
    generalize str (Fm.text f) = F1 at *
    generalize str (Fm.text f2) = F2 at *
    generalize (Fm.size f2 : Int) = z2 at *
    generalize (Fm.size f : Int) = z1 at *
    generalize (Fm.deep f : Int) = d1 at *
    generalize (Tree.bits t : Int) = b1 at *
    generalize (Tree.ends t : Int) = n1 at *
    generalize (b : Int) = bw at *
    clear hw ht hok g1 g2 g3 g4 hb1 hb3 hsb hokB hwd h8 hsh hsh2 hlow hwf hwf2 hpl htab hde hen hen2 hok2 hgb hge hI2 hft hfs hft2 hfs2
    go_wp2_with fail
    refine (HI.out _).mono ?_
    rintro e w2 ⟨rfl, hb2'⟩
    have HB2 : Hid (Below w.heap.size w w2) := HB1.out.trans (hb2'.mono HB1.out.size)
    clear hb2' HB1
    go_wp2_with fail
    refine (HS.out _).mono ?_
    rintro e w3 ⟨rfl, hb3'⟩
    have HB3 : Hid (Below w.heap.size w w3) := HB2.out.trans (hb3'.mono HB2.out.size)
    clear hb3' HB2
    go_wp2_with fail
    refine (HW.out _).mono ?_
    rintro e w4 ⟨rfl, hb4'⟩
    have HB4 : Hid (Below w.heap.size w w4) := HB3.out.trans (hb4'.mono HB3.out.size)
    clear hb4' HB3
    go_wp2_with fail
    refine (HT.out _).mono ?_
    rintro e w5 ⟨rfl, hb5'⟩
    have HB5 : Hid (Below w.heap.size w w5) := HB4.out.trans (hb5'.mono HB4.out.size)
    clear hb5' HB4
    go_wp2_with fail
    refine (HFG.out _).mono ?_
    rintro e w6 ⟨rfl, hb6'⟩
    have HB6 : Hid (Below w.heap.size w w6) := HB5.out.trans (hb6'.mono HB5.out.size)
    clear hb6' HB5
    go_wp2_with fail
    refine (HI2.out _).mono ?_
    rintro e w7 ⟨rfl, hb7'⟩
    have HB7 : Hid (Below w.heap.size w w7) := HB6.out.trans (hb7'.mono HB6.out.size)
    clear hb7' HB6
    go_wp2_with fail
    refine (HPG.out _).mono ?_
    rintro e w8 ⟨rfl, hb8⟩
    have HB8 : Hid (Below w.heap.size w w8) := HB7.out.trans (hb8.mono HB7.out.size)
    clear hb8 HB7
    go_wp2_with fail
    refine (HZ2.out _).mono ?_
    rintro e w9 ⟨rfl, hb9⟩
    have HB9 : Hid (Below w.heap.size w w9) := HB8.out.trans (hb9.mono HB8.out.size)
    clear hb9 HB8
    go_wp2_with fail
    refine (HZ.out _).mono ?_
    rintro e w10 ⟨rfl, hb10⟩
    have HB10 : Hid (Below w.heap.size w w10) := HB9.out.trans (hb10.mono HB9.out.size)
    clear hb10 HB9
    go_wp2_with fail
    refine (HK.out _).mono ?_
    rintro e w11 ⟨rfl, hb11⟩
    have HB11 : Hid (Below w.heap.size w w11) := HB10.out.trans (hb11.mono HB10.out.size)
    clear hb11 HB10
    go_wp2_with fail
    refine (HGB.out _).mono ?_
    rintro e w12 ⟨rfl, hb12⟩
    have HB12 : Hid (Below w.heap.size w w12) := HB11.out.trans (hb12.mono HB11.out.size)
    clear hb12 HB11
    go_wp2_with fail
    refine (HZ.out _).mono ?_
    rintro e w13 ⟨rfl, hb13⟩
    have HB13 : Hid (Below w.heap.size w w13) := HB12.out.trans (hb13.mono HB12.out.size)
    clear hb13 HB12
    go_wp2_with fail
    refine (HGE.out _).mono ?_
    rintro e w14 ⟨rfl, hb14⟩
    have HB14 : Hid (Below w.heap.size w w14) := HB13.out.trans (hb14.mono HB13.out.size)
    clear hb14 HB13
    go_wp2_with fail
    go_ret
    exact ⟨rfl, HB14.out⟩
  · have HI := Lib.hid e2
    have HS := Lib.hid e1
    generalize str [] = q at *
    clear e1 e2
    go_wp2_with fail
    refine (HI.out _).mono ?_
    rintro e w2 ⟨rfl, hb2'⟩
    have HB2 : Hid (Below w.heap.size w w2) := HB1.out.trans (hb2'.mono HB1.out.size)
    clear hb2' HB1
    go_wp2_with fail
    refine (HS.out _).mono ?_
    rintro e w3 ⟨rfl, hb3'⟩
    have HB3 : Hid (Below w.heap.size w w3) := HB2.out.trans (hb3'.mono HB2.out.size)
    clear hb3' HB2
    go_wp2_with fail
    go_ret
    exact ⟨rfl, HB3.out⟩
end Go.Proofs.YtbccachkkflceaaGreatDoor.fnGameFormula

