/-
  Texts of one seat, joined: Cols, NameT, NameM, NameQ.
-/
import Derived.Test.YtffilggpimdikaaGreatDoorJ1
import Derived.Test.YtffilggpimdikaaGreatDoorJ21
import Derived.Test.YtffilggpimdikaaGreatDoorJ29
import Derived.Test.YtffilggpimdikaaGreatDoorJ4
import Derived.Test.YtffilggpimdikaaGreatDoorJ7
import Derived.Test.YtffilggpimdikaaGreatDoorJ30
/-
  The reference's l2Cols and l2Rows.
-/
namespace Go.Proofs.YtffilggpimdikaaGreatDoor.Cols
open Go.RowKit Go.Proofs.YtffilggpimdikaaGreatDoor.Plain Go.Proofs.YtffilggpimdikaaGreatDoor.Base Go.Proofs.YtffilggpimdikaaGreatDoor.Valid Go.Proofs.YtffilggpimdikaaGreatDoor.Law Go.Proofs.YtffilggpimdikaaGreatDoor.GridPlain Go.Proofs.YtffilggpimdikaaGreatDoor.Grid Go.Proofs.YtffilggpimdikaaGreatDoor.Entry Go.Proofs.YtffilggpimdikaaGreatDoor.Pat Go.Proofs.YtffilggpimdikaaGreatDoor.Rect Go.Proofs.YtffilggpimdikaaGreatDoor.Board Go.Proofs.YtffilggpimdikaaGreatDoor.BoardM Go.Proofs.YtffilggpimdikaaGreatDoor.RValid Go.Proofs.YtffilggpimdikaaGreatDoor.Colour Go.Proofs.YtffilggpimdikaaGreatDoor.Where Go.Proofs.YtffilggpimdikaaGreatDoor.Turn1
set_option linter.unusedVariables false

/-- whether the first k of the rows of a set all have the value in a column -/
def allTo (E : Nat → Nat → Bool) (S : Nat) (b : Bool) (y : Nat) : Nat → Bool
  | 0 => true
  | k + 1 => allTo E S b y k && (!S.testBit k || (E k y == b))
theorem allTo_iff (E : Nat → Nat → Bool) (S : Nat) (b : Bool) (y : Nat) : ∀ k, allTo E S b y k = true ↔ ∀ x, x < k → S.testBit x = true → E x y = b
  | 0 => ⟨fun _ x hx => absurd hx (by omega), fun _ => rfl⟩
  | k + 1 => by
    rw [allTo, Bool.and_eq_true, allTo_iff E S b y k, Bool.or_eq_true, beq_iff_eq, Bool.not_eq_true']
    constructor
    · rintro ⟨h1, h2⟩ x hx hb
      by_cases e : x = k
      · subst e
        rcases h2 with h2 | h2
        · rw [h2] at hb; cases hb
        · exact h2
      · exact h1 x (by omega) hb
    · intro h
      refine ⟨fun x hx hb => h x (by omega) hb, ?_⟩
      cases hs : S.testBit k with
      | false => exact .inl rfl
      | true => exact .inr (h k (by omega) hs)

/-- m's box is kept -/
structure DInv (w wr : World) (R C : Nat) (s : ByteArray) : Prop where
  m : MHolds wr w.heap.size 24 R C s
  below : Below w.heap.size w wr
theorem DInv.later {w wr w2 : World} {R C : Nat} {s : ByteArray} (h : DInv w wr R C s) (hb : Below wr.heap.size wr w2) : DInv w w2 R C s := ⟨mh_on h.m hb, rstep h.below hb⟩

set_option maxHeartbeats 4000000 in
theorem cols_any (E : Nat → Nat → Bool) (R C : Nat) (hR1 : 1 ≤ R) (hR : R ≤ 8) (hC1 : 1 ≤ C) (hC : C ≤ 8) (S : Nat) (hS : S < 256) (b : Bool) (w : World) :
    Calls Tryz.prog 95 #[mat R C (str (rowsB E R C)), .int .i64 (S : Int), .int .i64 (bitI b)] w fun e w' => e = .returned (.int .i64 ((setB (fun y => allTo E S b y R) C : Nat) : Int)) ∧ Below w.heap.size w w' := by
  have HAT := Lib.hid (fun x y hx hy W => at_any E R C hR hC x y hx hy W)
  generalize str (rowsB E R C) = s at *
  obtain ⟨bi, hbi⟩ : ∃ bi, bitI b = bi := ⟨_, rfl⟩
  rw [hbi]
  have HBI := Lib.hid hbi
  clear hbi
  go_enter Tryz.func95, Tryz.ntmps95
  go_wp2_with fail
  have e0 : MHolds (w.alloc (.cells #[.int .i64 (R : Int), .int .i64 (C : Int), .string s] 24)) w.heap.size 24 R C s := heap_alloc_new w _
  have hb0 : Below w.heap.size w (w.alloc (.cells #[.int .i64 (R : Int), .int .i64 (C : Int), .string s] 24)) := (Below.refl w.heap.size w).alloc (Nat.le_refl _) _
  generalize w.alloc (.cells #[.int .i64 (R : Int), .int .i64 (C : Int), .string s] 24) = W0 at *
  have HI0 : Hid (DInv w W0 R C s) := ⟨e0, hb0⟩
  clear e0 hb0
  go_loopw [7, 8] (fun t i wr => ∃ (j u : Nat), j ≤ C ∧ t = .int .i64 (u : Int) ∧ Hid (u = setB (fun y => allTo E S b y R) j) ∧ i = .int .i64 (j : Int) ∧ DInv w wr R C s) (fun _ i _ => C - (intOf i).toNat)
  case atStart => exact ⟨0, 0, Nat.zero_le _, rfl, rfl, rfl, HI0.out⟩
  case round =>
    obtain ⟨j, u, hj, rfl, hu, rfl, hinv⟩ := hrel
    clear HI0
    obtain ⟨q0, q1, q2⟩ := mh_c hinv.m
    by_cases hlt : j < C
    · have HI := Lib.hid hinv
      clear hinv
      go_wp2_with fail
      go_loopw [9, 10] (fun a x wr => ∃ (k : Nat) (v : Bool), k ≤ R ∧ a = .bool v ∧ Hid (v = allTo E S b j k) ∧ x = .int .i64 (k : Int) ∧ DInv w wr R C s) (fun _ x _ => R - (intOf x).toNat)
      case atStart => exact ⟨0, true, Nat.zero_le _, rfl, rfl, rfl, HI.out⟩
      case round =>
        obtain ⟨k, v, hk, rfl, hv, rfl, hinv⟩ := hrel
        clear q0 q1 q2 HI
        obtain ⟨q0, q1, q2⟩ := mh_c hinv.m
        have HI := Lib.hid hinv
        clear hinv
        by_cases hlt' : k < R
        · have k8 : k < 8 := by omega
          have HK := Lib.hid (fun W => l2In_any S k hS k8 W)
          have HA := Lib.hid (fun W => HAT.out k j hlt' hlt W)
          obtain ⟨b1, h1⟩ : ∃ b, S.testBit k = b := ⟨_, rfl⟩
          obtain ⟨b3, h3⟩ : ∃ b, E k j = b := ⟨_, rfl⟩
          rw [h1] at HK
          rw [h3] at HA
          have HN : Hid (allTo E S b j (k + 1) = (v && (!b1 || (b3 == b)))) := by
            unfold Hid
            rw [allTo, ← hv.out, h1, h3]
          clear hv h1 h3
          cases v
          · clear HK HA
            go_wp2_with fail
            go_roundw
            case rel => exact ⟨k + 1, false, by omega, rfl, by unfold Hid; rw [HN.out]; rfl, by go_num, HI.out⟩
            case measure => simp [intOf]; omega
          · cases b1
            · go_wp2_with fail
              refine (HK.out _).mono ?_
              rintro e w' ⟨rfl, rfl⟩
              go_wp2_with fail
              go_roundw
              case rel => exact ⟨k + 1, true, by omega, rfl, by unfold Hid; rw [HN.out]; rfl, by go_num, HI.out⟩
              case measure => simp [intOf]; omega
            · go_wp2_with fail
              refine (HK.out _).mono ?_
              rintro e w' ⟨rfl, rfl⟩
              go_wp2_with fail
              refine (HA.out _).mono ?_
              rintro e w2 ⟨rfl, hb2⟩
              have HI2 := Lib.hid (HI.out.later hb2)
              clear hb2 q0 q1 q2
              go_wp2_with fail
              refine (int_any _ _).mono ?_
              rintro e w' ⟨rfl, rfl⟩
              obtain ⟨x, hx⟩ : ∃ x, bitI b3 = x := ⟨_, rfl⟩
              rw [hx]
              have HX := Lib.hid hx
              clear hx
              go_wp2_with fail
              go_roundw
              case rel => exact ⟨k + 1, _, by omega, rfl, by unfold Hid; rw [HN.out, ← HX.out, ← HBI.out]; cases b3 <;> cases b <;> rfl, by go_num, HI2.out⟩
              case measure => simp [intOf]; omega
        · obtain rfl : k = R := by omega
          have hX : 2 ^ j < 256 := Nat.lt_of_lt_of_le (Nat.pow_lt_pow_right (by decide) (show j < 8 by omega)) (by decide)
          have hu8 : u < 256 := by rw [hu.out]; exact setB_lt8 _ j (by omega)
          have hw : IntKind.i64.wrap (2 ^ j) = ((2 ^ j : Nat) : Int) := by rw [show ((2 : Int) ^ j) = ((2 ^ j : Nat) : Int) by simp]; exact wrap8 _ (by omega)
          have ho := or8 u (2 ^ j) hu8 hX
          have HN : Hid ((if v = true then u ||| 2 ^ j else u) = setB (fun y => allTo E S b y k) (j + 1)) := by
            unfold Hid
            rw [← setB_or, ← hu.out, ← hv.out]
            cases v <;> simp
          clear hu hv
          generalize 2 ^ j = X at *
          generalize u ||| X = y at *
          cases v
          · go_wp2_with fail
            go_roundw
            case rel => exact ⟨j + 1, u, by omega, rfl, by have h := HN.out; unfold Hid; simpa using h, by go_num, HI.out⟩
            case measure => simp [intOf]; omega
          · go_wp2_with fail
            go_roundw
            case rel => exact ⟨j + 1, y, by omega, rfl, by have h := HN.out; unfold Hid; simpa using h, by go_num, HI.out⟩
            case measure => simp [intOf]; omega
    · obtain rfl : j = C := by omega
      have HI := Lib.hid hinv
      clear hinv
      go_wp2_with fail
      go_ret
      exact ⟨by rw [← hu.out]; rfl, HI.out.below⟩

end Go.Proofs.YtffilggpimdikaaGreatDoor.Cols

/-
  The protocol in which a player names a row: its tree. Nothing of the program.
-/
namespace Go.Proofs.YtffilggpimdikaaGreatDoor.NameT
open Go.RowKit Go.Proofs.YtffilggpimdikaaGreatDoor.Plain Go.Proofs.YtffilggpimdikaaGreatDoor.Tree Go.Proofs.YtffilggpimdikaaGreatDoor.TrimT Go.Proofs.YtffilggpimdikaaGreatDoor.Pat Go.Proofs.YtffilggpimdikaaGreatDoor.Law Go.Proofs.YtffilggpimdikaaGreatDoor.Cols
set_option linter.unusedVariables false

/-- the columns that have a 1 in a row -/
def onesN (E : Nat → Nat → Bool) (c x : Nat) : Nat := setB (fun y => E x y) c
/-- what is told of a row that is known -/
def replyT (E : Nat → Nat → Bool) (c x : Nat) : T :=
  if onesN E c x = 0 then .leaf false else if onesN E c x = 2 ^ c - 1 then .leaf true else .say false (onesN E c x) (.leaf false) (.leaf true)
/-- a row is equal to one of these -/
def anyRow (E : Nat → Nat → Bool) (c : Nat) (l : List Nat) (x : Nat) : Bool := l.any fun i => rowB E i c == rowB E x c
def sayN (E : Nat → Nat → Bool) (r c : Nat) (l : List Nat) : Nat := setB (anyRow E c l) r
/-- by halves -/
def nameT (E : Nat → Nat → Bool) (r c : Nat) : Nat → List Nat → T
  | 0, l => replyT E c (l.headD 0)
  | n + 1, l => if l.length = 1 then replyT E c (l.headD 0) else
    .say true (sayN E r c (l.drop ((l.length + 1) / 2))) (nameT E r c n (l.take ((l.length + 1) / 2))) (nameT E r c n (l.drop ((l.length + 1) / 2)))

theorem ones_lt (E : Nat → Nat → Bool) (c x : Nat) (hc : c ≤ 8) : onesN E c x < 256 := setB_lt8 _ c hc
theorem say_lt (E : Nat → Nat → Bool) (r c : Nat) (l : List Nat) (hr : r ≤ 8) : sayN E r c l < 256 := setB_lt8 _ r hr
theorem reply_wf (E : Nat → Nat → Bool) (c x : Nat) (hc : c ≤ 8) : wf (replyT E c x) := by
  unfold replyT
  split
  · trivial
  · split
    · trivial
    · exact ⟨ones_lt E c x hc, trivial, trivial⟩
theorem name_wf (E : Nat → Nat → Bool) (r c : Nat) (hr : r ≤ 8) (hc : c ≤ 8) : ∀ n l, wf (nameT E r c n l)
  | 0, l => reply_wf E c _ hc
  | n + 1, l => by
    unfold nameT
    split
    · exact reply_wf E c _ hc
    · exact ⟨say_lt E r c _ hr, name_wf E r c hr hc n _, name_wf E r c hr hc n _⟩
theorem reply_len (E : Nat → Nat → Bool) (c x : Nat) : (text (replyT E c x)).length ≤ 5 := by
  unfold replyT
  split
  · simp [text]
  · split
    · simp [text]
    · simp [text]
theorem name_len (E : Nat → Nat → Bool) (r c : Nat) : ∀ n l, 1 ≤ l.length → l.length ≤ n + 1 → (text (nameT E r c n l)).length + 3 ≤ 8 * l.length
  | 0, l, h1, h2 => by
    have := reply_len E c (l.headD 0)
    show (text (replyT E c (l.headD 0))).length + 3 ≤ _
    omega
  | n + 1, l, h1, h2 => by
    unfold nameT
    by_cases h : l.length = 1
    · rw [if_pos h]
      have := reply_len E c (l.headD 0)
      omega
    · rw [if_neg h]
      have a := name_len E r c n (l.take ((l.length + 1) / 2)) (by rw [List.length_take]; omega) (by rw [List.length_take]; omega)
      have b := name_len E r c n (l.drop ((l.length + 1) / 2)) (by rw [List.length_drop]; omega) (by rw [List.length_drop]; omega)
      rw [List.length_take] at a
      rw [List.length_drop] at b
      simp only [text, List.length_cons, List.length_append]
      omega

theorem meet_full (c s : Nat) (hc : c ≤ 8) (hs : s < 2 ^ c) : meetN (2 ^ c - 1) s = s ∧ (minusN (2 ^ c - 1) s = 0 ↔ s = 2 ^ c - 1) := by
  have h8 : (2 : Nat) ^ c ≤ 256 := Nat.le_trans (Nat.pow_le_pow_right (by decide) hc) (by decide)
  have hm : meetN (2 ^ c - 1) s = s := by
    unfold meetN
    rw [BitVec.toNat_and, BitVec.toNat_ofNat, BitVec.toNat_ofNat, Nat.mod_eq_of_lt (by omega), Nat.mod_eq_of_lt (by omega), Nat.and_comm, Nat.and_two_pow_sub_one_eq_mod, Nat.mod_eq_of_lt hs]
  refine ⟨hm, ?_⟩
  have key : ∀ i, i < 64 → (BitVec.ofNat 64 (2 ^ c - 1) &&& ~~~ BitVec.ofNat 64 s).getLsbD i = ((2 ^ c - 1).testBit i && !s.testBit i) := by
    intro i hi
    rw [BitVec.getLsbD_and, BitVec.getLsbD_not, BitVec.getLsbD_ofNat, BitVec.getLsbD_ofNat]
    simp [hi]
  constructor
  · intro h
    apply Nat.eq_of_testBit_eq
    intro i
    by_cases hi : i < 64
    · have h0 : (BitVec.ofNat 64 (2 ^ c - 1) &&& ~~~ BitVec.ofNat 64 s) = 0#64 := BitVec.eq_of_toNat_eq (by unfold minusN at h; rw [h]; rfl)
      have hk := key i hi
      rw [h0, BitVec.getLsbD_zero, Nat.testBit_two_pow_sub_one] at hk
      rw [Nat.testBit_two_pow_sub_one]
      by_cases hic : i < c
      · rw [decide_eq_true hic] at hk ⊢
        revert hk
        cases s.testBit i <;> simp
      · rw [decide_eq_false hic, Pat.bit_beyond s i c hs (by omega)]
    · rw [Pat.bit_beyond s i c hs (by omega), Nat.testBit_two_pow_sub_one, decide_eq_false (by omega)]
  · intro h
    have h0 : (BitVec.ofNat 64 (2 ^ c - 1) &&& ~~~ BitVec.ofNat 64 s) = 0#64 := by
      apply BitVec.eq_of_getLsbD_eq
      intro i hi
      rw [key i hi, h, BitVec.getLsbD_zero]
      simp
    unfold minusN
    rw [h0]; rfl
/-- nothing is said of what all know -/
theorem trim_reply (E : Nat → Nat → Bool) (c x : Nat) (hc : c ≤ 8) : trimT (.say false (onesN E c x) (.leaf false) (.leaf true)) (2 ^ x) (2 ^ c - 1) = replyT E c x := by
  have hs : onesN E c x < 2 ^ c := setB_lt _ c
  have hp : 0 < 2 ^ x := Nat.two_pow_pos x
  unfold replyT
  generalize onesN E c x = s at *
  obtain ⟨h1, h2⟩ := meet_full c s hc hs
  simp only [trimT, inR, inC, outR, outC, if_false, Bool.false_eq_true, h1]
  by_cases h : s = 0
  · rw [if_pos (.inr h), if_pos h]
  · rw [if_neg (by omega), if_neg h]
    by_cases g : s = 2 ^ c - 1
    · rw [if_pos (.inr (h2.2 g)), if_pos g]
    · rw [if_neg (fun e => e.elim (by omega) (fun e => g (h2.1 e))), if_neg g]
/-- the reference's columns -/
theorem ones_all (E : Nat → Nat → Bool) (r c x : Nat) (hx : x < r) : setB (fun y => allTo E (2 ^ x) true y r) c = onesN E c x := by
  unfold onesN
  congr 1
  funext y
  have h := allTo_iff E (2 ^ x) true y r
  have : (∀ x', x' < r → (2 ^ x).testBit x' = true → E x' y = true) ↔ E x y = true := by
    constructor
    · intro h; exact h x hx (by simp)
    · intro h x' _ hb
      rw [Nat.testBit_two_pow] at hb
      have : x = x' := by simpa using hb
      rw [← this]; exact h
  rw [this] at h
  rw [Bool.eq_iff_iff]
  exact h
/-- one of the list from h on, up to i -/
theorem any_step {f : Nat → Bool} (l : List Nat) (h i : Nat) (hi : i < l.length) (hh : h ≤ i) : ((l.drop h).take (i + 1 - h)).any f = (((l.drop h).take (i - h)).any f || f l[i]) := by
  have e : i + 1 - h = (i - h) + 1 := by omega
  have hl : i - h < (l.drop h).length := by rw [List.length_drop]; omega
  rw [e, List.take_add_one, List.any_append, List.getElem?_eq_getElem hl, List.getElem_drop]
  simp only [Option.toList_some, List.any_cons, List.any_nil, Bool.or_false]
  congr 2
  congr 1
  omega
end Go.Proofs.YtffilggpimdikaaGreatDoor.NameT

/-
  The mathematics of naming a row: numbers of bits and of ends, what is found, nothing said in vain. Nothing of the program.
-/
namespace Go.Proofs.YtffilggpimdikaaGreatDoor.NameM
open Go.RowKit Go.Proofs.YtffilggpimdikaaGreatDoor.Law Go.Proofs.YtffilggpimdikaaGreatDoor.GridPlain Go.Proofs.YtffilggpimdikaaGreatDoor.Fmt Go.Proofs.YtffilggpimdikaaGreatDoor.Plain Go.Proofs.YtffilggpimdikaaGreatDoor.Tree Go.Proofs.YtffilggpimdikaaGreatDoor.TrimT Go.Proofs.YtffilggpimdikaaGreatDoor.Pat Go.Proofs.YtffilggpimdikaaGreatDoor.Talk Go.Proofs.YtffilggpimdikaaGreatDoor.NameT Go.Proofs.YtffilggpimdikaaGreatDoor.First
set_option linter.unusedVariables false

theorem reply_ends (E : Nat → Nat → Bool) (c x : Nat) : ends (replyT E c x) ≤ 2 := by
  unfold replyT
  split
  · simp [ends]
  · split <;> simp [ends]
theorem reply_bits (E : Nat → Nat → Bool) (c x : Nat) : Tree.bits (replyT E c x) ≤ 1 := by
  unfold replyT
  split
  · simp [Tree.bits]
  · split <;> simp [Tree.bits]
theorem name_ends (E : Nat → Nat → Bool) (r c : Nat) : ∀ n l, 1 ≤ l.length → l.length ≤ n + 1 → ends (nameT E r c n l) ≤ 2 * l.length
  | 0, l, h1, h2 => by
    have := reply_ends E c (l.headD 0)
    show ends (replyT E c (l.headD 0)) ≤ _
    omega
  | n + 1, l, h1, h2 => by
    unfold nameT
    by_cases h : l.length = 1
    · rw [if_pos h]
      have := reply_ends E c (l.headD 0)
      omega
    · rw [if_neg h]
      have a := name_ends E r c n (l.take ((l.length + 1) / 2)) (by rw [List.length_take]; omega) (by rw [List.length_take]; omega)
      have b := name_ends E r c n (l.drop ((l.length + 1) / 2)) (by rw [List.length_drop]; omega) (by rw [List.length_drop]; omega)
      rw [List.length_take] at a
      rw [List.length_drop] at b
      simp only [ends]
      omega
theorem name_bits_le (E : Nat → Nat → Bool) (r c : Nat) : ∀ n l k, 1 ≤ l.length → l.length ≤ n + 1 → l.length ≤ 2 ^ k → Tree.bits (nameT E r c n l) ≤ k + 1
  | 0, l, k, h1, h2, h3 => by
    have := reply_bits E c (l.headD 0)
    show Tree.bits (replyT E c (l.headD 0)) ≤ _
    omega
  | n + 1, l, k, h1, h2, h3 => by
    unfold nameT
    by_cases h : l.length = 1
    · rw [if_pos h]
      have := reply_bits E c (l.headD 0)
      omega
    · rw [if_neg h]
      cases k with
      | zero => simp at h3; omega
      | succ k =>
        rw [Nat.pow_succ] at h3
        have a := name_bits_le E r c n (l.take ((l.length + 1) / 2)) k (by rw [List.length_take]; omega) (by rw [List.length_take]; omega) (by rw [List.length_take]; omega)
        have b := name_bits_le E r c n (l.drop ((l.length + 1) / 2)) k (by rw [List.length_drop]; omega) (by rw [List.length_drop]; omega) (by rw [List.length_drop]; omega)
        simp only [Tree.bits]
        omega
theorem name_bits_ge (E : Nat → Nat → Bool) (r c : Nat) : ∀ n l, 1 ≤ l.length → l.length ≤ n + 1 → l.length ≤ 2 ^ Tree.bits (nameT E r c n l)
  | 0, l, h1, h2 => by
    have := Nat.two_pow_pos (Tree.bits (nameT E r c 0 l))
    omega
  | n + 1, l, h1, h2 => by
    unfold nameT
    by_cases h : l.length = 1
    · rw [if_pos h]
      have := Nat.two_pow_pos (Tree.bits (replyT E c (l.headD 0)))
      omega
    · rw [if_neg h]
      have a := name_bits_ge E r c n (l.take ((l.length + 1) / 2)) (by rw [List.length_take]; omega) (by rw [List.length_take]; omega)
      have b := name_bits_ge E r c n (l.drop ((l.length + 1) / 2)) (by rw [List.length_drop]; omega) (by rw [List.length_drop]; omega)
      rw [List.length_take] at a
      rw [List.length_drop] at b
      simp only [Tree.bits]
      have p1 : 2 ^ Tree.bits (nameT E r c n (l.take ((l.length + 1) / 2))) ≤ 2 ^ max (Tree.bits (nameT E r c n (l.take ((l.length + 1) / 2)))) (Tree.bits (nameT E r c n (l.drop ((l.length + 1) / 2)))) := Nat.pow_le_pow_right (by decide) (Nat.le_max_left _ _)
      have p2 : 2 ^ Tree.bits (nameT E r c n (l.drop ((l.length + 1) / 2))) ≤ 2 ^ max (Tree.bits (nameT E r c n (l.take ((l.length + 1) / 2)))) (Tree.bits (nameT E r c n (l.drop ((l.length + 1) / 2)))) := Nat.pow_le_pow_right (by decide) (Nat.le_max_right _ _)
      rw [Nat.pow_add]
      omega

/-- equal rows have equal entries -/
theorem row_same {E : Nat → Nat → Bool} {c i x : Nat} (h : rowB E i c = rowB E x c) {y : Nat} (hy : y < c) : E i y = E x y := by
  have := congrArg (fun l : List UInt8 => l[y]?) h
  simp only [rowB_get E i c y hy, rowB_get E x c y hy, Option.some.injEq] at this
  revert this
  cases E i y <;> cases E x y <;> simp [dig]
theorem any_row {E : Nat → Nat → Bool} {c : Nat} {l : List Nat} {x : Nat} : anyRow E c l x = true ↔ ∃ i ∈ l, rowB E i c = rowB E x c := by
  unfold anyRow
  rw [List.any_eq_true]
  constructor
  · rintro ⟨i, hi, e⟩; exact ⟨i, hi, by simpa using e⟩
  · rintro ⟨i, hi, e⟩; exact ⟨i, hi, by simpa using e⟩
theorem reply_talk (E : Nat → Nat → Bool) (c i x y : Nat) (hy : y < c) : (talkT (replyT E c i) x y).2 = E i y := by
  have hb : (onesN E c i).testBit y = E i y := by
    unfold onesN
    rw [setB_bit, decide_eq_true hy, Bool.true_and]
  unfold replyT
  split
  · rename_i h
    rw [h] at hb
    rw [← hb]
    simp [talkT]
  · split
    · rename_i h
      rw [h, Nat.testBit_two_pow_sub_one, decide_eq_true hy] at hb
      rw [← hb]
      simp [talkT]
    · rw [← hb]
      cases h : (onesN E c i).testBit y <;> simp [talkT, saysB, h]
theorem say_bit (E : Nat → Nat → Bool) (r c : Nat) (l : List Nat) (x : Nat) (hx : x < r) : (sayN E r c l).testBit x = anyRow E c l x := by
  unfold sayN
  rw [setB_bit, decide_eq_true hx, Bool.true_and]
/-- what is found is the entry -/
theorem name_talk (E : Nat → Nat → Bool) (r c x y : Nat) (hx : x < r) (hy : y < c) : ∀ n l, 1 ≤ l.length → l.length ≤ n + 1 → (∃ i ∈ l, rowB E i c = rowB E x c) → (talkT (nameT E r c n l) x y).2 = E x y
  | 0, l, h1, h2, hm => by
    obtain ⟨i, rfl⟩ := List.length_eq_one_iff.1 (show l.length = 1 by omega)
    obtain ⟨j, hj, e⟩ := hm
    obtain rfl : j = i := by simpa using hj
    show (talkT (replyT E c j) x y).2 = _
    rw [reply_talk E c j x y hy, row_same e hy]
  | n + 1, l, h1, h2, hm => by
    unfold nameT
    by_cases h : l.length = 1
    · rw [if_pos h]
      obtain ⟨i, rfl⟩ := List.length_eq_one_iff.1 h
      obtain ⟨j, hj, e⟩ := hm
      obtain rfl : j = i := by simpa using hj
      show (talkT (replyT E c j) x y).2 = _
      rw [reply_talk E c j x y hy, row_same e hy]
    · rw [if_neg h]
      have hs := say_bit E r c (l.drop ((l.length + 1) / 2)) x hx
      cases hb : anyRow E c (l.drop ((l.length + 1) / 2)) x with
      | true =>
        rw [hb] at hs
        have ih := name_talk E r c x y hx hy n (l.drop ((l.length + 1) / 2)) (by rw [List.length_drop]; omega) (by rw [List.length_drop]; omega) (any_row.1 hb)
        simp [talkT, saysB, hs, ih]
      | false =>
        rw [hb] at hs
        have hm2 : ∃ i ∈ l.take ((l.length + 1) / 2), rowB E i c = rowB E x c := by
          obtain ⟨i, hi, e⟩ := hm
          rw [← List.take_append_drop ((l.length + 1) / 2) l] at hi
          rcases List.mem_append.1 hi with hi | hi
          · exact ⟨i, hi, e⟩
          · have := any_row.2 ⟨i, hi, e⟩
            rw [hb] at this
            cases this
        have ih := name_talk E r c x y hx hy n (l.take ((l.length + 1) / 2)) (by rw [List.length_take]; omega) (by rw [List.length_take]; omega) hm2
        simp [talkT, saysB, hs, ih]
end Go.Proofs.YtffilggpimdikaaGreatDoor.NameM

/-
  The protocol that names a row says nothing in vain; the first rows are different and all rows are among them. Nothing of the program.
-/
namespace Go.Proofs.YtffilggpimdikaaGreatDoor.NameQ
open Go.RowKit Go.Proofs.YtffilggpimdikaaGreatDoor.Law Go.Proofs.YtffilggpimdikaaGreatDoor.GridPlain Go.Proofs.YtffilggpimdikaaGreatDoor.Plain Go.Proofs.YtffilggpimdikaaGreatDoor.Tree Go.Proofs.YtffilggpimdikaaGreatDoor.TrimT Go.Proofs.YtffilggpimdikaaGreatDoor.Pat Go.Proofs.YtffilggpimdikaaGreatDoor.NameT Go.Proofs.YtffilggpimdikaaGreatDoor.NameM Go.Proofs.YtffilggpimdikaaGreatDoor.First
set_option linter.unusedVariables false

theorem meet_bit (a b i : Nat) (ha : a < 256) (hb : b < 256) : (meetN a b).testBit i = (a.testBit i && b.testBit i) := by
  unfold meetN
  rw [BitVec.toNat_and, BitVec.toNat_ofNat, BitVec.toNat_ofNat, Nat.mod_eq_of_lt (by omega), Nat.mod_eq_of_lt (by omega), Nat.testBit_and]
theorem minus_bit (a b i : Nat) (ha : a < 256) (hb : b < 256) : (minusN a b).testBit i = (a.testBit i && !b.testBit i) := by
  by_cases hi : i < 64
  · unfold minusN
    have h : (BitVec.ofNat 64 a &&& ~~~ BitVec.ofNat 64 b).getLsbD i = (a.testBit i && !b.testBit i) := by
      rw [BitVec.getLsbD_and, BitVec.getLsbD_not, BitVec.getLsbD_ofNat, BitVec.getLsbD_ofNat]
      simp [hi]
    rw [← h]
    rfl
  · have h1 := minus_le a b ha
    rw [bit_beyond (minusN a b) i 8 (by omega) (by omega), bit_beyond a i 8 (by omega) (by omega)]
    rfl
theorem any_append (E : Nat → Nat → Bool) (c : Nat) (l m : List Nat) (x : Nat) : anyRow E c (l ++ m) x = (anyRow E c l x || anyRow E c m x) := by simp [anyRow]
theorem say_bit' (E : Nat → Nat → Bool) (r c : Nat) (l : List Nat) (x : Nat) : (sayN E r c l).testBit x = (decide (x < r) && anyRow E c l x) := by
  unfold sayN
  rw [setB_bit]
/-- rows that are different, one by one -/
def Apart (E : Nat → Nat → Bool) (c : Nat) (l : List Nat) : Prop := l.Pairwise fun i j => rowB E i c ≠ rowB E j c
theorem meet_say (E : Nat → Nat → Bool) (r c : Nat) (hr : r ≤ 8) (l m : List Nat) : meetN (sayN E r c (l ++ m)) (sayN E r c m) = sayN E r c m := by
  apply Nat.eq_of_testBit_eq
  intro x
  rw [meet_bit _ _ _ (say_lt E r c _ hr) (say_lt E r c _ hr), say_bit', say_bit', any_append]
  cases decide (x < r) <;> cases anyRow E c l x <;> cases anyRow E c m x <;> rfl
theorem minus_say (E : Nat → Nat → Bool) (r c : Nat) (hr : r ≤ 8) (l m : List Nat) (h : Apart E c (l ++ m)) : minusN (sayN E r c (l ++ m)) (sayN E r c m) = sayN E r c l := by
  apply Nat.eq_of_testBit_eq
  intro x
  rw [minus_bit _ _ _ (say_lt E r c _ hr) (say_lt E r c _ hr), say_bit', say_bit', say_bit', any_append]
  have hd : anyRow E c l x = true → anyRow E c m x = false := by
    intro h1
    obtain ⟨i, hi, e⟩ := any_row.1 h1
    cases h2 : anyRow E c m x with
    | false => rfl
    | true =>
      obtain ⟨j, hj, e2⟩ := any_row.1 h2
      exact absurd (e.trans e2.symm) ((List.pairwise_append.1 h).2.2 i hi j hj)
  cases h1 : anyRow E c l x with
  | false => cases decide (x < r) <;> cases anyRow E c m x <;> rfl
  | true => rw [hd h1]; cases decide (x < r) <;> rfl
theorem say_pos (E : Nat → Nat → Bool) (r c : Nat) (l : List Nat) (i : Nat) (hi : i ∈ l) (hr : i < r) : sayN E r c l ≠ 0 := by
  intro h
  have := say_bit' E r c l i
  rw [h, Nat.zero_testBit, decide_eq_true hr, any_row.2 ⟨i, hi, rfl⟩] at this
  cases this
theorem trim_leaf (E : Nat → Nat → Bool) (c x R : Nat) (hc : c ≤ 8) (hR : R ≠ 0) : trimT (replyT E c x) R (2 ^ c - 1) = replyT E c x := by
  have hs : onesN E c x < 2 ^ c := setB_lt _ c
  unfold replyT
  generalize onesN E c x = s at *
  obtain ⟨h1, h2⟩ := meet_full c s hc hs
  by_cases h : s = 0
  · rw [if_pos h]; rfl
  · rw [if_neg h]
    by_cases g : s = 2 ^ c - 1
    · rw [if_pos g]; rfl
    · rw [if_neg g]
      simp only [trimT, inR, inC, outR, outC, if_false, Bool.false_eq_true, h1]
      rw [if_neg (by omega), if_neg (fun e => e.elim hR (fun e => g (h2.1 e)))]
/-- nothing is said in vain -/
theorem trim_name (E : Nat → Nat → Bool) (r c : Nat) (hr : r ≤ 8) (h1 : 1 ≤ c) (hc : c ≤ 8) : ∀ n l, 1 ≤ l.length → l.length ≤ n + 1 → (∀ x ∈ l, x < r) → Apart E c l →
    trimT (nameT E r c n l) (sayN E r c l) (2 ^ c - 1) = nameT E r c n l := by
  have hone : ∀ l : List Nat, l.length = 1 → (∀ x ∈ l, x < r) → trimT (replyT E c (l.headD 0)) (sayN E r c l) (2 ^ c - 1) = replyT E c (l.headD 0) := fun l h hm => by
    obtain ⟨i, rfl⟩ := List.length_eq_one_iff.1 h
    exact trim_leaf E c _ _ hc (say_pos E r c [i] i (by simp) (hm i (by simp)))
  have hC0 : 2 ^ c - 1 ≠ 0 := by
    have : 2 ^ 1 ≤ 2 ^ c := Nat.pow_le_pow_right (by decide) h1
    omega
  intro n
  induction n with
  | zero => intro l a1 a2 hm _; exact hone l (by omega) hm
  | succ n ih =>
    intro l a1 a2 hm hd
    unfold nameT
    by_cases h : l.length = 1
    · rw [if_pos h]; exact hone l h hm
    · rw [if_neg h]
      obtain ⟨H, hH⟩ : ∃ H, (l.length + 1) / 2 = H := ⟨_, rfl⟩
      rw [hH]
      have e : l.take H ++ l.drop H = l := List.take_append_drop H l
      have hd2 : Apart E c (l.take H ++ l.drop H) := by rw [e]; exact hd
      have m1 := meet_say E r c hr (l.take H) (l.drop H)
      have m2 := minus_say E r c hr (l.take H) (l.drop H) hd2
      rw [e] at m1 m2
      have lA : (l.take H).length = H := by rw [List.length_take]; omega
      have lB : (l.drop H).length = l.length - H := by rw [List.length_drop]
      have mA : ∀ x ∈ l.take H, x < r := fun x hx => hm x (List.mem_of_mem_take hx)
      have mB : ∀ x ∈ l.drop H, x < r := fun x hx => hm x (List.mem_of_mem_drop hx)
      have iA := ih (l.take H) (by omega) (by omega) mA (List.pairwise_append.1 hd2).1
      have iB := ih (l.drop H) (by omega) (by omega) mB (List.pairwise_append.1 hd2).2.1
      have p : ∀ k : List Nat, 1 ≤ k.length → (∀ x ∈ k, x < r) → sayN E r c k ≠ 0 := fun k hk hm => by
        cases k with
        | nil => simp at hk
        | cons i k => exact say_pos E r c _ i (by simp) (hm i (by simp))
      have pA := p (l.take H) (by omega) mA
      have pB := p (l.drop H) (by omega) mB
      simp only [trimT, inR, inC, outR, outC, if_true, m1, m2, iA, iB]
      rw [if_neg (fun e => e.elim pB hC0), if_neg (fun e => e.elim pA hC0)]

theorem fresh_all {f : Nat → List UInt8} {x : List UInt8} {n : Nat} (h : fresh f x n = true) : ∀ j, j < n → f j ≠ x := by
  intro j hj e
  have := List.all_eq_true.1 h j (List.mem_range.2 hj)
  rw [e] at this
  simp at this
theorem firsts_apart (f : Nat → List UInt8) : ∀ k, (firsts f k).Pairwise fun i j => f i ≠ f j
  | 0 => List.Pairwise.nil
  | k + 1 => by
    rw [firsts]
    split
    · rename_i h
      refine List.pairwise_append.2 ⟨firsts_apart f k, List.pairwise_singleton _ _, fun a ha b hb => ?_⟩
      obtain rfl : b = k := by simpa using hb
      exact fresh_all h a (firsts_lt f b a ha)
    · exact firsts_apart f k
/-- each row is equal to one of the first ones -/
theorem firsts_cover (E : Nat → Nat → Bool) (r c x : Nat) (hx : x < r) : anyRow E c (firsts (fun x => rowB E x c) r) x = true := by
  unfold anyRow
  rw [firsts_any (fun x => rowB E x c) (rowB E x c) r]
  cases h : fresh (fun x => rowB E x c) (rowB E x c) r with
  | false => rfl
  | true => exact absurd rfl (fresh_all h x hx)
theorem say_firsts (E : Nat → Nat → Bool) (r c : Nat) : sayN E r c (firsts (fun x => rowB E x c) r) = 2 ^ r - 1 := by
  apply Nat.eq_of_testBit_eq
  intro x
  rw [say_bit', Nat.testBit_two_pow_sub_one]
  by_cases h : x < r
  · rw [firsts_cover E r c x h, Bool.and_true]
  · rw [decide_eq_false h, Bool.false_and]
/-- trimming leaves it as it is -/
theorem trim_all (E : Nat → Nat → Bool) (r c : Nat) (h0 : 1 ≤ r) (hr : r ≤ 8) (h1 : 1 ≤ c) (hc : c ≤ 8) :
    trimT (nameT E r c 8 (firsts (fun x => rowB E x c) r)) (2 ^ r - 1) (2 ^ c - 1) = nameT E r c 8 (firsts (fun x => rowB E x c) r) := by
  have hl := firsts_len (fun x => rowB E x c) r
  have h := trim_name E r c hr h1 hc 8 (firsts (fun x => rowB E x c) r) (firsts_one _ r h0) (by omega) (firsts_lt _ r) (firsts_apart _ r)
  rw [say_firsts] at h
  exact h
end Go.Proofs.YtffilggpimdikaaGreatDoor.NameQ

