/-
  Texts of one seat, joined: DrawT, CutT, SaidCut, SaidBal.
-/
import Derived.Test.YtffilggpimdikaaGreatDoorJ1
import Derived.Test.YtffilggpimdikaaGreatDoorJ4
import Derived.Test.YtffilggpimdikaaGreatDoorJ6
/-
  The drawing functions: an element of a list of strings; a rectangle of a valid matrix.
-/
namespace Go.Proofs.YtffilggpimdikaaGreatDoor.DrawT
open Go.RowKit Go.Proofs.YtffilggpimdikaaGreatDoor.Plain Go.Proofs.YtffilggpimdikaaGreatDoor.Rd Go.Proofs.YtffilggpimdikaaGreatDoor.Rd2 Go.Proofs.YtffilggpimdikaaGreatDoor.Rd3
set_option linter.unusedVariables false

set_option maxHeartbeats 1000000 in
theorem of_any {lo : Nat} (g p : Nat) (hp : p < 1048576) (xs : List ByteArray) (h1 : 1 ≤ xs.length) (h8 : xs.length ≤ 1000) (b c : Nat) (hbg : b ≠ g) (w : World) (h : Rdr lo w g p) (hbl : b < w.heap.size)
    (hc : ∀ j (hj : j < xs.length), w.cell? ⟨b, j, none⟩ = some (.string xs[j])) :
    Calls Tryz.prog 105 #[.pointer (some ⟨g, 0, none⟩), .slice (some ⟨b, 0, none⟩) xs.length c] w fun e w' => ∃ x : ByteArray, e = .returned (.string x) ∧ x ∈ xs ∧ Rdr lo w' g (p + 1) ∧ Apt g w w' := by
  have HC := Lib.hid hc
  have HP := Lib.hid (pick_r g p hp (xs.length : Int) w h)
  clear hc h
  go_enter Tryz.func105, Tryz.ntmps105
  go_wp2_with fail
  refine HP.out.mono ?_
  rintro e w1 ⟨x, rfl, ⟨hx0, hxm⟩, hx1, hr, ha⟩
  obtain ⟨k, rfl⟩ := Int.eq_ofNat_of_zero_le hx0
  have hk : k < xs.length := by omega
  have hkl : (k : Int) < (xs.length : Int) := by omega
  have hcell : w1.cell? ⟨b, k, none⟩ = some (.string xs[k]) := (ha.cell (p := ⟨b, k, none⟩) hbl hbg).trans (HC.out k hk)
  have HM : Hid (xs[k] ∈ xs) := List.getElem_mem hk
  have HR := Lib.hid hr
  have HA := Lib.hid ha
  generalize xs[k] = y at hcell HM
  clear hr ha hx1
  go_wp2_with fail
  go_ret
  exact ⟨y, rfl, HM.out, HR.out, HA.out⟩

theorem shift_le (n : Nat) (h : n ≤ 8) : wrap64 (wrap64 (2 ^ n) - 1) ≤ 255 := by
  have h2 : ∀ k : Fin 9, wrap64 (wrap64 (2 ^ k.val) - 1) ≤ 255 := by decide +kernel
  exact h2 ⟨n, by omega⟩
end Go.Proofs.YtffilggpimdikaaGreatDoor.DrawT

/-
  Where a protocol is cut, what is left of it, and what comes of balancing it. Nothing of the program.
-/
namespace Go.Proofs.YtffilggpimdikaaGreatDoor.CutT
open Go.RowKit Go.Proofs.YtffilggpimdikaaGreatDoor.Plain Go.Proofs.YtffilggpimdikaaGreatDoor.Tree Go.Proofs.YtffilggpimdikaaGreatDoor.TrimT
set_option linter.unusedVariables false

theorem ends_pos : ∀ t : T, 1 ≤ ends t
  | .leaf _ => Nat.le_refl _
  | .say _ _ z o => by
    have h1 := ends_pos z
    simp only [ends]
    omega
theorem text_ends : ∀ t : T, (text t).length + 3 = 4 * ends t
  | .leaf _ => rfl
  | .say _ _ z o => by
    have h1 := text_ends z
    have h2 := text_ends o
    simp only [text, ends, List.length_cons, List.length_append]
    omega

/-! sets as numbers -/
theorem of_meet (a b : Nat) : BitVec.ofNat 64 (meetN a b) = BitVec.ofNat 64 a &&& BitVec.ofNat 64 b := by
  unfold meetN
  rw [BitVec.ofNat_toNat, BitVec.setWidth_eq]
theorem of_minus (a b : Nat) : BitVec.ofNat 64 (minusN a b) = BitVec.ofNat 64 a &&& ~~~ BitVec.ofNat 64 b := by
  unfold minusN
  rw [BitVec.ofNat_toNat, BitVec.setWidth_eq]
theorem nat_eq {a b : Nat} (ha : a < 256) (hb : b < 256) (h : BitVec.ofNat 64 a = BitVec.ofNat 64 b) : a = b := by
  have := congrArg BitVec.toNat h
  rw [BitVec.toNat_ofNat, BitVec.toNat_ofNat, Nat.mod_eq_of_lt (by omega), Nat.mod_eq_of_lt (by omega)] at this
  exact this
/-- the bit at a place -/
def at_ (a i : Nat) : Bool := (BitVec.ofNat 64 a).getLsbD i
theorem at_meet (a b i : Nat) : at_ (meetN a b) i = (at_ a i && at_ b i) := by
  unfold at_
  rw [of_meet, BitVec.getLsbD_and]
theorem at_minus (a b i : Nat) (hi : i < 64) : at_ (minusN a b) i = (at_ a i && !at_ b i) := by
  unfold at_
  rw [of_minus, BitVec.getLsbD_and, BitVec.getLsbD_not]
  simp [hi]
theorem at_eq {a b : Nat} (ha : a < 256) (hb : b < 256) (h : ∀ i, i < 64 → at_ a i = at_ b i) : a = b :=
  nat_eq ha hb (BitVec.eq_of_getLsbD_eq fun i hi => h i hi)
/-- a set within another one -/
def Sub (a b : Nat) : Prop := ∀ i, i < 64 → at_ a i = true → at_ b i = true
theorem Sub.refl (a : Nat) : Sub a a := fun _ _ h => h
theorem Sub.trans {a b c : Nat} (h : Sub a b) (k : Sub b c) : Sub a c := fun i hi x => k i hi (h i hi x)
theorem Sub.meet_left {a b : Nat} (c : Nat) (h : Sub a b) : Sub (meetN a c) b := fun i hi x => by
  rw [at_meet, Bool.and_eq_true] at x
  exact h i hi x.1
theorem Sub.meet_right (a c : Nat) : Sub (meetN a c) c := fun i hi x => by
  rw [at_meet, Bool.and_eq_true] at x
  exact x.2
theorem Sub.minus {a b : Nat} (c : Nat) (h : Sub a b) : Sub (minusN a c) b := fun i hi x => by
  rw [at_minus _ _ _ hi, Bool.and_eq_true] at x
  exact h i hi x.1
theorem meet_self {a b : Nat} (ha : a < 256) (h : Sub a b) : meetN a b = a := by
  refine at_eq (Nat.lt_of_le_of_lt (meet_le a b ha) ha) ha fun i hi => ?_
  rw [at_meet]
  have := h i hi
  cases h1 : at_ a i
  · rfl
  · rw [this h1]; rfl
theorem minus_zero {a b : Nat} (ha : a < 256) (h : Sub a b) : minusN a b = 0 := by
  refine at_eq (Nat.lt_of_le_of_lt (minus_le a b ha) ha) (by decide) fun i hi => ?_
  rw [at_minus _ _ _ hi]
  have := h i hi
  have z : at_ 0 i = false := by unfold at_; simp
  rw [z]
  cases h1 : at_ a i
  · rfl
  · rw [this h1]; rfl
theorem meet_meet (a b : Nat) (ha : a < 256) : meetN a (meetN a b) = meetN a b := by
  have h1 := meet_le a b ha
  refine at_eq (Nat.lt_of_le_of_lt (meet_le _ _ ha) ha) (by omega) fun i _ => ?_
  rw [at_meet, at_meet]
  cases at_ a i <;> rfl
theorem minus_meet (a b : Nat) (ha : a < 256) : minusN a (meetN a b) = minusN a b := by
  refine at_eq (Nat.lt_of_le_of_lt (minus_le _ _ ha) ha) (Nat.lt_of_le_of_lt (minus_le _ _ ha) ha) fun i hi => ?_
  rw [at_minus _ _ _ hi, at_minus _ _ _ hi, at_meet]
  cases at_ a i <;> rfl

/-! protocols that say nothing in vain -/
def Tight : T → Nat → Nat → Prop
  | .leaf _, _, _ => True
  | .say a s z o, R, C => (1 ≤ inR a s R ∧ 1 ≤ inC a s C ∧ 1 ≤ outR a s R ∧ 1 ≤ outC a s C ∧ (if a then inR a s R else inC a s C) = s) ∧
      Tight z (outR a s R) (outC a s C) ∧ Tight o (inR a s R) (inC a s C)
theorem tight_trim : ∀ (t : T) (R C : Nat), Tight t R C → trimT t R C = t
  | .leaf _, _, _, _ => rfl
  | .say a s z o, R, C, h => by
    obtain ⟨⟨h1, h2, h3, h4, h5⟩, hz, ho⟩ := h
    have iz := tight_trim z _ _ hz
    have io := tight_trim o _ _ ho
    unfold trimT
    rw [if_neg (by omega), if_neg (by omega), iz, io, h5]
theorem same_parts (a : Bool) (s R C : Nat) (hR : R < 256) (hC : C < 256) :
    inR a (if a then inR a s R else inC a s C) R = inR a s R ∧ inC a (if a then inR a s R else inC a s C) C = inC a s C ∧
    outR a (if a then inR a s R else inC a s C) R = outR a s R ∧ outC a (if a then inR a s R else inC a s C) C = outC a s C := by
  cases a
  · simp only [inR, inC, outR, outC, if_false, Bool.false_eq_true]
    exact ⟨trivial, meet_meet C s hC, trivial, minus_meet C s hC⟩
  · simp only [inR, inC, outR, outC, if_true]
    exact ⟨meet_meet R s hR, trivial, minus_meet R s hR, trivial⟩
theorem trim_tight : ∀ (t : T) (R C : Nat), R < 256 → C < 256 → 1 ≤ R → 1 ≤ C → Tight (trimT t R C) R C
  | .leaf _, _, _, _, _, _, _ => trivial
  | .say a s z o, R, C, hR, hC, h1, h2 => by
    obtain ⟨p1, p2, p3, p4⟩ := parts_lt a s hR hC
    have hnb := not_both a s hR hC h1 h2
    unfold trimT
    by_cases hi : inR a s R = 0 ∨ inC a s C = 0
    · rw [if_pos hi]
      obtain ⟨q1, q2⟩ := hnb hi
      -- nothing of this rectangle is left out: the other side is empty
      have he : outR a s R = R ∧ outC a s C = C := by
        cases a
        · simp only [inR, inC, outR, outC, if_false, Bool.false_eq_true] at hi q1 q2 ⊢
          refine ⟨trivial, ?_⟩
          rcases hi with hi | hi
          · omega
          · refine at_eq (Nat.lt_of_le_of_lt (minus_le _ _ hC) hC) hC fun i hx => ?_
            have z := congrArg (fun n => at_ n i) hi
            have z0 : at_ 0 i = false := by unfold at_; simp
            simp only [at_meet, z0] at z
            rw [at_minus _ _ _ hx]
            cases h : at_ C i <;> cases k : at_ s i <;> simp [h, k] at z ⊢
        · simp only [inR, inC, outR, outC, if_true] at hi q1 q2 ⊢
          refine ⟨?_, trivial⟩
          rcases hi with hi | hi
          · refine at_eq (Nat.lt_of_le_of_lt (minus_le _ _ hR) hR) hR fun i hx => ?_
            have z := congrArg (fun n => at_ n i) hi
            have z0 : at_ 0 i = false := by unfold at_; simp
            simp only [at_meet, z0] at z
            rw [at_minus _ _ _ hx]
            cases h : at_ R i <;> cases k : at_ s i <;> simp [h, k] at z ⊢
          · omega
      rw [he.1, he.2]
      exact trim_tight z R C hR hC h1 h2
    rw [if_neg hi]
    by_cases ho : outR a s R = 0 ∨ outC a s C = 0
    · rw [if_pos ho]
      have he : inR a s R = R ∧ inC a s C = C := by
        cases a
        · simp only [inR, inC, outR, outC, if_false, Bool.false_eq_true] at ho ⊢
          refine ⟨trivial, ?_⟩
          rcases ho with ho | ho
          · omega
          · refine at_eq (Nat.lt_of_le_of_lt (meet_le _ _ hC) hC) hC fun i hx => ?_
            have z := congrArg (fun n => at_ n i) ho
            have z0 : at_ 0 i = false := by unfold at_; simp
            simp only [at_minus _ _ _ hx, z0] at z
            rw [at_meet]
            cases h : at_ C i <;> cases k : at_ s i <;> simp [h, k] at z ⊢
        · simp only [inR, inC, outR, outC, if_true] at ho ⊢
          refine ⟨?_, trivial⟩
          rcases ho with ho | ho
          · refine at_eq (Nat.lt_of_le_of_lt (meet_le _ _ hR) hR) hR fun i hx => ?_
            have z := congrArg (fun n => at_ n i) ho
            have z0 : at_ 0 i = false := by unfold at_; simp
            simp only [at_minus _ _ _ hx, z0] at z
            rw [at_meet]
            cases h : at_ R i <;> cases k : at_ s i <;> simp [h, k] at z ⊢
          · omega
      rw [he.1, he.2]
      exact trim_tight o R C hR hC h1 h2
    rw [if_neg ho]
    obtain ⟨e1, e2, e3, e4⟩ := same_parts a s R C hR hC
    refine ⟨⟨?_, ?_, ?_, ?_, ?_⟩, ?_, ?_⟩
    · rw [e1]; omega
    · rw [e2]; omega
    · rw [e3]; omega
    · rw [e4]; omega
    · rw [e1, e2]
    · rw [e3, e4]
      exact trim_tight z _ _ p1 p2 (by omega) (by omega)
    · rw [e1, e2]
      exact trim_tight o _ _ p3 p4 (by omega) (by omega)

/-! the cut -/
structure Cut where
  part : T
  rows : Nat
  cols : Nat
  rest : T
def cutT (n : Nat) : T → Nat → Nat → Cut
  | .leaf b, R, C => ⟨.leaf b, R, C, .leaf false⟩
  | .say a s z o, R, C =>
    if 3 * (ends z + ends o) ≤ 2 * n then ⟨.say a s z o, R, C, .leaf false⟩
    else if ends z < ends o then
      ⟨(cutT n o (inR a s R) (inC a s C)).part, (cutT n o (inR a s R) (inC a s C)).rows, (cutT n o (inR a s R) (inC a s C)).cols, .say a s z (cutT n o (inR a s R) (inC a s C)).rest⟩
    else
      ⟨(cutT n z (outR a s R) (outC a s C)).part, (cutT n z (outR a s R) (outC a s C)).rows, (cutT n z (outR a s R) (outC a s C)).cols, .say a s (cutT n z (outR a s R) (outC a s C)).rest o⟩
theorem cut_ends (n : Nat) : ∀ (t : T) (R C : Nat), ends (cutT n t R C).part + ends (cutT n t R C).rest = ends t + 1
  | .leaf _, _, _ => rfl
  | .say a s z o, R, C => by
    have iz := cut_ends n z (outR a s R) (outC a s C)
    have io := cut_ends n o (inR a s R) (inC a s C)
    unfold cutT
    split
    · rfl
    · split
      · simp only [ends]; omega
      · simp only [ends]; omega
theorem cut_wf (n : Nat) : ∀ (t : T) (R C : Nat), wf t → wf (cutT n t R C).part ∧ wf (cutT n t R C).rest
  | .leaf _, _, _, _ => ⟨trivial, trivial⟩
  | .say a s z o, R, C, h => by
    have iz := cut_wf n z (outR a s R) (outC a s C) h.2.1
    have io := cut_wf n o (inR a s R) (inC a s C) h.2.2
    unfold cutT
    split
    · exact ⟨h, trivial⟩
    · split
      · exact ⟨io.1, h.1, h.2.1, io.2⟩
      · exact ⟨iz.1, h.1, iz.2, h.2.2⟩
/-- the part has at most two thirds of the ends, and more than one third -/
theorem cut_most (n : Nat) (hn : 2 ≤ n) : ∀ (t : T) (R C : Nat), 3 * ends (cutT n t R C).part ≤ 2 * n
  | .leaf _, _, _ => by show 3 * 1 ≤ _; omega
  | .say a s z o, R, C => by
    have iz := cut_most n hn z (outR a s R) (outC a s C)
    have io := cut_most n hn o (inR a s R) (inC a s C)
    unfold cutT
    split
    · assumption
    · split
      · exact io
      · exact iz
theorem cut_least (n : Nat) : ∀ (t : T) (R C : Nat), n < 3 * ends t → n < 3 * ends (cutT n t R C).part
  | .leaf _, _, _, h => h
  | .say a s z o, R, C, h => by
    have iz := cut_least n z (outR a s R) (outC a s C)
    have io := cut_least n o (inR a s R) (inC a s C)
    simp only [ends] at h
    unfold cutT
    split
    · exact h
    · split
      · exact io (by omega)
      · exact iz (by omega)
theorem cut_rect (n : Nat) : ∀ (t : T) (R C : Nat), R < 256 → C < 256 → 1 ≤ R → 1 ≤ C → Tight t R C →
    (cutT n t R C).rows < 256 ∧ (cutT n t R C).cols < 256 ∧ 1 ≤ (cutT n t R C).rows ∧ 1 ≤ (cutT n t R C).cols ∧ Sub (cutT n t R C).rows R ∧ Sub (cutT n t R C).cols C ∧
    Tight (cutT n t R C).part (cutT n t R C).rows (cutT n t R C).cols ∧ Tight (cutT n t R C).rest R C
  | .leaf _, R, C, hR, hC, h1, h2, _ => ⟨hR, hC, h1, h2, Sub.refl _, Sub.refl _, trivial, trivial⟩
  | .say a s z o, R, C, hR, hC, h1, h2, ht => by
    obtain ⟨p1, p2, p3, p4⟩ := parts_lt a s hR hC
    have hs := ht.1
    have iz := cut_rect n z (outR a s R) (outC a s C) p1 p2 hs.2.2.1 hs.2.2.2.1 ht.2.1
    have io := cut_rect n o (inR a s R) (inC a s C) p3 p4 hs.1 hs.2.1 ht.2.2
    have k1 : Sub (inR a s R) R := by cases a; exact Sub.refl _; exact Sub.meet_left _ (Sub.refl _)
    have k2 : Sub (inC a s C) C := by cases a; exact Sub.meet_left _ (Sub.refl _); exact Sub.refl _
    have k3 : Sub (outR a s R) R := by cases a; exact Sub.refl _; exact Sub.minus _ (Sub.refl _)
    have k4 : Sub (outC a s C) C := by cases a; exact Sub.minus _ (Sub.refl _); exact Sub.refl _
    unfold cutT
    split
    · exact ⟨hR, hC, h1, h2, Sub.refl _, Sub.refl _, ht, trivial⟩
    · split
      · obtain ⟨g1, g2, g3, g4, g5, g6, g7, g8⟩ := io
        exact ⟨g1, g2, g3, g4, g5.trans k1, g6.trans k2, g7, hs, ht.2.1, g8⟩
      · obtain ⟨g1, g2, g3, g4, g5, g6, g7, g8⟩ := iz
        exact ⟨g1, g2, g3, g4, g5.trans k3, g6.trans k4, g7, hs, g8, ht.2.2⟩

/-! balancing -/
/-- as the program does it -/
def balI : Nat → T → Nat → Nat → T
  | 0, t, _, _ => t
  | k + 1, t, R, C => if ends t ≤ 2 then t else
      .say true (cutT (ends t) t R C).rows (balI k (cutT (ends t) t R C).rest R C)
        (.say false (cutT (ends t) t R C).cols (balI k (cutT (ends t) t R C).rest R C) (balI k (cutT (ends t) t R C).part (cutT (ends t) t R C).rows (cutT (ends t) t R C).cols))
/-- as the reference does it -/
def balS : Nat → T → Nat → Nat → T
  | 0, t, _, _ => t
  | k + 1, t, R, C => if ends t ≤ 2 then t else
      if (cutT (ends t) t R C).cols = C then
        .say true (cutT (ends t) t R C).rows (balS k (cutT (ends t) t R C).rest R C) (balS k (cutT (ends t) t R C).part (cutT (ends t) t R C).rows (cutT (ends t) t R C).cols)
      else if (cutT (ends t) t R C).rows = R then
        .say false (cutT (ends t) t R C).cols (balS k (cutT (ends t) t R C).rest R C) (balS k (cutT (ends t) t R C).part (cutT (ends t) t R C).rows (cutT (ends t) t R C).cols)
      else
        .say true (cutT (ends t) t R C).rows (balS k (cutT (ends t) t R C).rest R C)
          (.say false (cutT (ends t) t R C).cols (balS k (cutT (ends t) t R C).rest R C) (balS k (cutT (ends t) t R C).part (cutT (ends t) t R C).rows (cutT (ends t) t R C).cols))

theorem in_pos {R c : Nat} (h : ¬ meetN R c = 0) : 1 ≤ meetN R c := by omega
/-- two bits with the same two protocols behind them, trimmed -/
theorem same_say (a : Bool) (s : Nat) (X Y X' Y' : T) (R C : Nat) (hR : R < 256) (hC : C < 256) (h1 : 1 ≤ R) (h2 : 1 ≤ C)
    (hX : 1 ≤ outR a s R → 1 ≤ outC a s C → trimT X (outR a s R) (outC a s C) = trimT X' (outR a s R) (outC a s C))
    (hY : 1 ≤ inR a s R → 1 ≤ inC a s C → trimT Y (inR a s R) (inC a s C) = trimT Y' (inR a s R) (inC a s C)) :
    trimT (.say a s X Y) R C = trimT (.say a s X' Y') R C := by
  have hnb := not_both a s hR hC h1 h2
  simp only [trimT]
  by_cases hi : inR a s R = 0 ∨ inC a s C = 0
  · obtain ⟨q1, q2⟩ := hnb hi
    rw [if_pos hi, if_pos hi, hX q1 q2]
  rw [if_neg hi, if_neg hi]
  by_cases ho : outR a s R = 0 ∨ outC a s C = 0
  · rw [if_pos ho, if_pos ho, hY (by omega) (by omega)]
  · rw [if_neg ho, if_neg ho, hX (by omega) (by omega), hY (by omega) (by omega)]
/-- a bit that is always 1 -/
theorem all_in (a : Bool) (s : Nat) (X Y : T) (R C : Nat) (hR : R < 256) (hC : C < 256) (h1 : 1 ≤ R) (h2 : 1 ≤ C) (hs : if a then Sub R s else Sub C s) :
    trimT (.say a s X Y) R C = trimT Y R C := by
  simp only [trimT]
  cases a
  · replace hs : Sub C s := hs
    simp only [inR, inC, outR, outC, if_false, Bool.false_eq_true]
    rw [meet_self hC hs, minus_zero hC hs, if_neg (by omega), if_pos (.inr rfl)]
  · replace hs : Sub R s := hs
    simp only [inR, inC, outR, outC, if_true]
    rw [meet_self hR hs, minus_zero hR hs, if_neg (by omega), if_pos (.inl rfl)]
theorem bal_same : ∀ (k : Nat) (t : T) (R C R' C' : Nat), R < 256 → C < 256 → 1 ≤ R → 1 ≤ C → Tight t R C → Sub R' R → Sub C' C → R' < 256 → C' < 256 → 1 ≤ R' → 1 ≤ C' →
    trimT (balI k t R C) R' C' = trimT (balS k t R C) R' C'
  | 0, _, _, _, _, _, _, _, _, _, _, _, _, _, _, _, _ => rfl
  | k + 1, t, R, C, R', C', hR, hC, h1, h2, ht, s1, s2, hR', hC', h1', h2' => by
    obtain ⟨g1, g2, g3, g4, g5, g6, g7, g8⟩ := cut_rect (ends t) t R C hR hC h1 h2 ht
    unfold balI balS
    by_cases he : ends t ≤ 2
    · rw [if_pos he, if_pos he]
    rw [if_neg he, if_neg he]
    generalize cutT (ends t) t R C = c at *
    have hX : ∀ R2 C2, Sub R2 R → Sub C2 C → R2 < 256 → C2 < 256 → 1 ≤ R2 → 1 ≤ C2 → trimT (balI k c.rest R C) R2 C2 = trimT (balS k c.rest R C) R2 C2 :=
      fun R2 C2 a b x y z u => bal_same k c.rest R C R2 C2 hR hC h1 h2 g8 a b x y z u
    have hY : ∀ R2 C2, Sub R2 c.rows → Sub C2 c.cols → R2 < 256 → C2 < 256 → 1 ≤ R2 → 1 ≤ C2 → trimT (balI k c.part c.rows c.cols) R2 C2 = trimT (balS k c.part c.rows c.cols) R2 C2 :=
      fun R2 C2 a b x y z u => bal_same k c.part c.rows c.cols R2 C2 g1 g2 g3 g4 g7 a b x y z u
    have lt1 := fun (a : Bool) (s : Nat) => parts_lt a s hR' hC'
    -- the inner bit in a rectangle within both
    have inner : ∀ R2 C2, Sub R2 c.rows → Sub C2 C → R2 < 256 → C2 < 256 → 1 ≤ R2 → 1 ≤ C2 →
        trimT (.say false c.cols (balI k c.rest R C) (balI k c.part c.rows c.cols)) R2 C2 = trimT (.say false c.cols (balS k c.rest R C) (balS k c.part c.rows c.cols)) R2 C2 := by
      intro R2 C2 a b x y z u
      refine same_say false c.cols _ _ _ _ R2 C2 x y z u (fun q1 q2 => ?_) (fun q1 q2 => ?_)
      · exact hX _ _ (a.trans g5) (b.minus _) x (Nat.lt_of_le_of_lt (minus_le _ _ y) y) q1 q2
      · exact hY _ _ a (Sub.meet_right _ _) x (Nat.lt_of_le_of_lt (meet_le _ _ y) y) q1 q2
    by_cases hc : c.cols = C
    · rw [if_pos hc]
      refine same_say true c.rows _ _ _ _ R' C' hR' hC' h1' h2' (fun q1 q2 => ?_) (fun q1 q2 => ?_)
      · exact hX _ _ (s1.minus _) s2 (Nat.lt_of_le_of_lt (minus_le _ _ hR') hR') hC' q1 q2
      · have hm : inR true c.rows R' < 256 := Nat.lt_of_le_of_lt (meet_le _ _ hR') hR'
        show trimT _ (inR true c.rows R') C' = trimT _ (inR true c.rows R') C'
        rw [all_in false c.cols _ _ _ C' hm hC' q1 h2' (by show Sub C' c.cols; rw [hc]; exact s2)]
        exact hY _ _ (Sub.meet_right _ _) (by rw [hc]; exact s2) hm hC' q1 h2'
    rw [if_neg hc]
    by_cases hr : c.rows = R
    · rw [if_pos hr, all_in true c.rows _ _ R' C' hR' hC' h1' h2' (by show Sub R' c.rows; rw [hr]; exact s1)]
      exact inner R' C' (by rw [hr]; exact s1) s2 hR' hC' h1' h2'
    rw [if_neg hr]
    refine same_say true c.rows _ _ _ _ R' C' hR' hC' h1' h2' (fun q1 q2 => ?_) (fun q1 q2 => ?_)
    · exact hX _ _ (s1.minus _) s2 (Nat.lt_of_le_of_lt (minus_le _ _ hR') hR') hC' q1 q2
    · exact inner _ _ (Sub.meet_right _ _) s2 (Nat.lt_of_le_of_lt (meet_le _ _ hR') hR') hC' q1 q2

/-- how many ends there are at most -/
def most : Nat → Nat := fun n => [1, 1, 2, 6, 14, 30, 34, 66, 74, 90, 146, 162, 178, 210, 322, 326, 358].getD n 0
theorem most_step : ∀ n : Fin 17, ∀ k : Fin 17, 3 ≤ n.1 → n.1 < 3 * k.1 → 3 * k.1 ≤ 2 * n.1 → 2 * most (n.1 - k.1 + 1) + most k.1 ≤ most n.1 := by decide
theorem most_le : ∀ n : Fin 17, most n.1 ≤ 358 := by decide
theorem most_id : ∀ n : Fin 17, n.1 ≤ most n.1 := by decide
theorem balI_ends : ∀ (k : Nat) (t : T) (R C : Nat), ends t ≤ 16 → ends (balI k t R C) ≤ most (ends t)
  | 0, t, _, _, h => most_id ⟨ends t, by omega⟩
  | k + 1, t, R, C, h => by
    have e1 := cut_ends (ends t) t R C
    unfold balI
    by_cases he : ends t ≤ 2
    · rw [if_pos he]
      exact most_id ⟨ends t, by omega⟩
    rw [if_neg he]
    have e2 := cut_most (ends t) (by omega) t R C
    have e3 := cut_least (ends t) t R C (by omega)
    generalize cutT (ends t) t R C = c at *
    have iz := balI_ends k c.rest R C (by omega)
    have io := balI_ends k c.part c.rows c.cols (by omega)
    have hs := most_step ⟨ends t, by omega⟩ ⟨ends c.part, by omega⟩ (by show 3 ≤ ends t; omega) e3 e2
    have er : ends c.rest = ends t - ends c.part + 1 := by omega
    rw [er] at iz
    simp only [ends]
    simp only at hs
    omega
theorem balS_ends : ∀ (k : Nat) (t : T) (R C : Nat), ends t ≤ 16 → ends (balS k t R C) ≤ most (ends t)
  | 0, t, _, _, h => most_id ⟨ends t, by omega⟩
  | k + 1, t, R, C, h => by
    have e1 := cut_ends (ends t) t R C
    unfold balS
    by_cases he : ends t ≤ 2
    · rw [if_pos he]
      exact most_id ⟨ends t, by omega⟩
    rw [if_neg he]
    have e2 := cut_most (ends t) (by omega) t R C
    have e3 := cut_least (ends t) t R C (by omega)
    generalize cutT (ends t) t R C = c at *
    have iz := balS_ends k c.rest R C (by omega)
    have io := balS_ends k c.part c.rows c.cols (by omega)
    have hs := most_step ⟨ends t, by omega⟩ ⟨ends c.part, by omega⟩ (by show 3 ≤ ends t; omega) e3 e2
    have er : ends c.rest = ends t - ends c.part + 1 := by omega
    rw [er] at iz
    simp only at hs
    split
    · simp only [ends]; omega
    · split
      · simp only [ends]; omega
      · simp only [ends]; omega
theorem bal_wf : ∀ (k : Nat) (t : T) (R C : Nat), R < 256 → C < 256 → 1 ≤ R → 1 ≤ C → Tight t R C → wf t → wf (balI k t R C) ∧ wf (balS k t R C)
  | 0, _, _, _, _, _, _, _, _, h => ⟨h, h⟩
  | k + 1, t, R, C, hR, hC, h1, h2, ht, hw => by
    obtain ⟨g1, g2, g3, g4, g5, g6, g7, g8⟩ := cut_rect (ends t) t R C hR hC h1 h2 ht
    obtain ⟨w1, w2⟩ := cut_wf (ends t) t R C hw
    unfold balI balS
    by_cases he : ends t ≤ 2
    · rw [if_pos he, if_pos he]
      exact ⟨hw, hw⟩
    rw [if_neg he, if_neg he]
    generalize cutT (ends t) t R C = c at *
    have iz := bal_wf k c.rest R C hR hC h1 h2 g8 w2
    have io := bal_wf k c.part c.rows c.cols g1 g2 g3 g4 g7 w1
    refine ⟨⟨g1, iz.1, g2, iz.1, io.1⟩, ?_⟩
    split
    · exact ⟨g1, iz.2, io.2⟩
    · split
      · exact ⟨g2, iz.2, io.2⟩
      · exact ⟨g1, iz.2, g2, iz.2, io.2⟩
theorem trim_ends : ∀ (t : T) (R C : Nat), ends (trimT t R C) ≤ ends t
  | .leaf _, _, _ => Nat.le_refl _
  | .say a s z o, R, C => by
    have iz := trim_ends z (outR a s R) (outC a s C)
    have io := trim_ends o (inR a s R) (inC a s C)
    unfold trimT
    split
    · simp only [ends]; omega
    · split
      · simp only [ends]; omega
      · simp only [ends]; omega
end Go.Proofs.YtffilggpimdikaaGreatDoor.CutT

/-
  Where the reference cuts a protocol.
-/
namespace Go.Proofs.YtffilggpimdikaaGreatDoor.SaidCut
open Go.RowKit Go.Shelf Go.Proofs.YtffilggpimdikaaGreatDoor.Plain Go.Proofs.YtffilggpimdikaaGreatDoor.Tree Go.Proofs.YtffilggpimdikaaGreatDoor.Read Go.Proofs.YtffilggpimdikaaGreatDoor.Parts Go.Proofs.YtffilggpimdikaaGreatDoor.TrimT Go.Proofs.YtffilggpimdikaaGreatDoor.Rect Go.Proofs.YtffilggpimdikaaGreatDoor.Split Go.Proofs.YtffilggpimdikaaGreatDoor.CutT
set_option linter.unusedVariables false
set_option linter.unusedSimpArgs false

theorem text_say_le (a : Bool) (s : Nat) (z o : T) : (text (.say a s z o)).length = (text z).length + (text o).length + 3 := by simp [text]
theorem cut_len (n : Nat) (t : T) (R C : Nat) (h : (text t).length ≤ 2000) : (text (cutT n t R C).part).length ≤ 2010 ∧ (text (cutT n t R C).rest).length ≤ 2010 := by
  have h1 := cut_ends n t R C
  have h2 := text_ends t
  have h3 := text_ends (cutT n t R C).part
  have h4 := text_ends (cutT n t R C).rest
  have h5 := ends_pos (cutT n t R C).part
  have h6 := ends_pos (cutT n t R C).rest
  omega
theorem head3 (a : Bool) (s : Nat) (z o : T) : (str (text (.say a s z o))).extract 0 3 = str [whoB a, hexD (s / 16), hexD (s % 16)] := by
  refine eq_str ?_
  rw [data_extract, str_data]
  rfl

/-- the blocks of a call: the rectangle, the result -/
structure Bc (w wr : World) (B R C : Nat) : Prop where
  arg : wr.heap[B]? = some (.cells #[.int .i64 (R : Int), .int .i64 (C : Int)] 41 (0, 0))
  res : wr.heap[B + 1]? = some (.cells #[.int .i64 0, .int .i64 0] 41 (0, 0))
  below : Below w.heap.size w wr
  size : w.heap.size = B
theorem Bc.later {w wr w2 : World} {B R C : Nat} (h : Bc w wr B R C) (hb : Below wr.heap.size wr w2) : Bc w w2 B R C :=
  have k : ∀ {g : Nat} {o : Obj}, wr.heap[g]? = some o → w2.heap[g]? = some o := fun e => (hb.block _ (Array.getElem?_eq_some_iff.1 e).1).trans e
  ⟨k h.arg, k h.res, h.below.trans (hb.mono h.below.size), h.size⟩
theorem Bc.start (w : World) (B R C : Nat) (hB : w.heap.size = B) : Bc w ((w.alloc (.cells #[.int .i64 (R : Int), .int .i64 (C : Int)] 41)).alloc (.cells #[.int .i64 0, .int .i64 0] 41)) B R C := by
  subst hB
  have n0 := heap_alloc_new w (.cells #[.int .i64 (R : Int), .int .i64 (C : Int)] 41)
  have b0 := (Below.refl w.heap.size w).alloc (Nat.le_refl _) (.cells #[.int .i64 (R : Int), .int .i64 (C : Int)] 41)
  have s1 : (w.alloc (.cells #[.int .i64 (R : Int), .int .i64 (C : Int)] 41)).heap.size = w.heap.size + 1 := by simp
  generalize w.alloc (.cells #[.int .i64 (R : Int), .int .i64 (C : Int)] 41) = wa at *
  have n1 := heap_alloc_new wa (.cells #[.int .i64 0, .int .i64 0] 41)
  rw [s1] at n1
  exact ⟨(heap_alloc_old wa _ (Array.getElem?_eq_some_iff.1 n0).1).trans n0, n1, b0.alloc b0.size _, rfl⟩
theorem Bc.done {w w1 : World} {B R C : Nat} (h : Bc w w1 B R C) (x y : Nat) : Below w.heap.size w (((w1.setCell ⟨B + 1, 0, none⟩ (.int .i64 (x : Int))).setCell ⟨B + 1, 1, none⟩ (.int .i64 (y : Int))).drew) ∧
    (((w1.setCell ⟨B + 1, 0, none⟩ (.int .i64 (x : Int))).setCell ⟨B + 1, 1, none⟩ (.int .i64 (y : Int))).drew).heap[B + 1]? = some (.cells #[.int .i64 (x : Int), .int .i64 (y : Int)] 41 (0, 0)) := by
  have hs := h.size
  exact ⟨Below.drew (set_below (set_below h.below (by omega)) (by omega)), set_row 1 (set_row 0 h.res)⟩

/-- two rectangles side by side -/
structure Rc (w wr : World) (D x1 x2 y1 y2 : Nat) : Prop where
  one : wr.heap[D]? = some (.cells #[.int .i64 (x1 : Int), .int .i64 (x2 : Int)] 41 (0, 0))
  two : wr.heap[D + 1]? = some (.cells #[.int .i64 (y1 : Int), .int .i64 (y2 : Int)] 41 (0, 0))
  below : Below w.heap.size w wr
theorem Rc.later {w wr w2 : World} {D x1 x2 y1 y2 : Nat} (h : Rc w wr D x1 x2 y1 y2) (hb : Below wr.heap.size wr w2) : Rc w w2 D x1 x2 y1 y2 :=
  have k : ∀ {g : Nat} {o : Obj}, wr.heap[g]? = some o → w2.heap[g]? = some o := fun e => (hb.block _ (Array.getElem?_eq_some_iff.1 e).1).trans e
  ⟨k h.one, k h.two, h.below.trans (hb.mono h.below.size)⟩
theorem Rc.start (w : World) (D x1 x2 y1 y2 : Nat) (hB : w.heap.size = D) : Rc w ((w.alloc (.cells #[.int .i64 (x1 : Int), .int .i64 (x2 : Int)] 41)).alloc (.cells #[.int .i64 (y1 : Int), .int .i64 (y2 : Int)] 41)) D x1 x2 y1 y2 := by
  subst hB
  have n0 := heap_alloc_new w (.cells #[.int .i64 (x1 : Int), .int .i64 (x2 : Int)] 41)
  have b0 := (Below.refl w.heap.size w).alloc (Nat.le_refl _) (.cells #[.int .i64 (x1 : Int), .int .i64 (x2 : Int)] 41)
  have s1 : (w.alloc (.cells #[.int .i64 (x1 : Int), .int .i64 (x2 : Int)] 41)).heap.size = w.heap.size + 1 := by simp
  generalize w.alloc (.cells #[.int .i64 (x1 : Int), .int .i64 (x2 : Int)] 41) = wa at *
  have n1 := heap_alloc_new wa (.cells #[.int .i64 (y1 : Int), .int .i64 (y2 : Int)] 41)
  rw [s1] at n1
  exact ⟨(heap_alloc_old wa _ (Array.getElem?_eq_some_iff.1 n0).1).trans n0, n1, b0.alloc b0.size _⟩

end Go.Proofs.YtffilggpimdikaaGreatDoor.SaidCut

/-
  What comes of balancing a protocol, in the reference.
-/
namespace Go.Proofs.YtffilggpimdikaaGreatDoor.SaidBal
open Go.RowKit Go.Shelf Go.Proofs.YtffilggpimdikaaGreatDoor.Plain Go.Proofs.YtffilggpimdikaaGreatDoor.Tree Go.Proofs.YtffilggpimdikaaGreatDoor.Read Go.Proofs.YtffilggpimdikaaGreatDoor.Parts Go.Proofs.YtffilggpimdikaaGreatDoor.SetW Go.Proofs.YtffilggpimdikaaGreatDoor.TrimT Go.Proofs.YtffilggpimdikaaGreatDoor.Rect Go.Proofs.YtffilggpimdikaaGreatDoor.FreeL Go.Proofs.YtffilggpimdikaaGreatDoor.CutT Go.Proofs.YtffilggpimdikaaGreatDoor.SaidCut Go.Proofs.YtffilggpimdikaaGreatDoor.SaidTrim
open Go.Proofs.YtffilggpimdikaaGreatDoor.Split (cells2 info_rect eval_get)
open Go.Proofs.YtffilggpimdikaaGreatDoor.Free (fill wp_value wp_enter wp_load_row freeB)
set_option linter.unusedVariables false
set_option linter.unusedSimpArgs false

theorem node_text (a : Bool) (S : Nat) (X Y : T) : str [whoB a] ++ str [hexD (S / 16)] ++ str [hexD (S % 16)] ++ str (text X) ++ str (text Y) = str (text (.say a S X Y)) := by
  rw [str_append, str_append, str_append, str_append]
  rfl
/-- a protocol's text that begins with a bit -/
theorem said_node (a : Bool) (S : Nat) (hS : S < 256) (X Y : T) (hX : (text X).length ≤ 8000000) (hY : (text Y).length ≤ 8000000) (w : World) :
    Calls Tryz.prog 74 #[.string (str [whoB a]), .int .i64 (S : Int), .string (str (text X)), .string (str (text Y))] w fun e w' => e = .returned (.string (str (text (.say a S X Y)))) ∧ Below w.heap.size w w' := by
  rw [← node_text]
  exact node_said (str [whoB a]) (str (text X)) (str (text Y)) S hS (by rw [str_size]; show 1 ≤ 2000; omega) (by rw [str_size]; omega) (by rw [str_size]; omega) w
/-- the blocks of a call: the rectangle and the part's -/
structure Sb (w wr : World) (B D R C x y : Nat) : Prop where
  rect : wr.heap[B]? = some (.cells #[.int .i64 (R : Int), .int .i64 (C : Int)] 41 (0, 0))
  part : wr.heap[D]? = some (.cells #[.int .i64 (x : Int), .int .i64 (y : Int)] 41 (0, 0))
  below : Below w.heap.size w wr
theorem Sb.later {w wr w2 : World} {B D R C x y : Nat} (h : Sb w wr B D R C x y) (hb : Below wr.heap.size wr w2) : Sb w w2 B D R C x y :=
  have k : ∀ {g : Nat} {o : Obj}, wr.heap[g]? = some o → w2.heap[g]? = some o := fun e => (hb.block _ (Array.getElem?_eq_some_iff.1 e).1).trans e
  ⟨k h.rect, k h.part, h.below.trans (hb.mono h.below.size)⟩
theorem eqn {a b : Nat} (h : a = b) : ((a : Int) == (b : Int)) = true := by subst h; simp
theorem nen {a b : Nat} (h : a ≠ b) : ((a : Int) == (b : Int)) = false := beq_false_of_ne (by omega)

end Go.Proofs.YtffilggpimdikaaGreatDoor.SaidBal

