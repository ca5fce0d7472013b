/-
  Texts of one seat, joined: Parts, Wq, SetW, TrimT.
-/
import Derived.Test.YtffilggpimdikaaGreatDoorJ3
import Derived.Deep.QuietTactic
import Derived.BigQuiet
import Derived.Below
import Derived.WalkKit
import Derived.WalkSpells
import Derived.Lib.Hide
import Derived.Handy
import Derived.Outline
import Derived.Deep.Quiet
import Derived.Laws.Concat
import Derived.Test.YtffilggpimdikaaGreatDoorJ2
import Derived.Laws.Entries
/-
  The reference on a protocol's text: whether it is an end, its parts, the greatest number of bits, the number of ends.
-/
namespace Go.Proofs.YtffilggpimdikaaGreatDoor.Parts
open Go.RowKit Go.Shelf Go.Proofs.YtffilggpimdikaaGreatDoor.Plain Go.Proofs.YtffilggpimdikaaGreatDoor.Tree Go.Proofs.YtffilggpimdikaaGreatDoor.Hex Go.Proofs.YtffilggpimdikaaGreatDoor.Read
set_option linter.unusedVariables false
set_option linter.unusedSimpArgs false

theorem str_data (l : List UInt8) : (str l).data.toList = l := by simp [str]
theorem leaf_yes (s : ByteArray) (h : s.size = 1) (w : World) :
    Calls Tryz.prog 81 #[.string s] w fun e w' => e = .returned (.bool true) ∧ w = w' := by
  go_enter Tryz.func81, Tryz.ntmps81
  go_wp2_with fail
  go_ret
  exact ⟨rfl, rfl⟩
theorem leaf_no (s : ByteArray) (h : 2 ≤ s.size) (w : World) :
    Calls Tryz.prog 81 #[.string s] w fun e w' => e = .returned (.bool false) ∧ w = w' := by
  have h2 : ((s.size : Int) == 1) = false := beq_false_of_ne (by omega)
  go_enter Tryz.func81, Tryz.ntmps81
  go_wp2_with fail
  go_ret
  exact ⟨by simp [h2], rfl⟩

set_option maxHeartbeats 1000000 in
/-- both protocols behind a first bit -/
theorem parts_w (a : Bool) (v : Nat) (z o : T) (hz : wf z) (s : ByteArray) (h : s.data.toList = text (.say a v z o)) (hs : s.size ≤ 1048576) (w : World) :
    Calls Tryz.prog 82 #[.string s] w fun e w' => e = .returned (.tuple #[.string (str (text z)), .string (str (text o))]) ∧ Below w.heap.size w w' := by
  have h3 : s.data.toList.drop 3 = text z ++ text o := by rw [h]; rfl
  have hl : 3 + (text z).length + (text o).length = s.size := by
    have := congrArg List.length h
    simp [text] at this
    omega
  have HE : Hid (∀ W, Calls Tryz.prog 80 #[.string s, .int .i64 3] W fun e w' => e = .returned (.int .i64 ((3 + (text z).length : Nat) : Int)) ∧ W = w') := fun W => end_yes s hs z hz 3 (by omega) (text o) h3 W
  have hA : s.extract 3 (3 + (text z).length) = str (text z) := by
    apply eq_str
    rw [data_extract, h3, show 3 + (text z).length - 3 = (text z).length by omega, List.take_left]
  have hB : s.extract (3 + (text z).length) s.size = str (text o) := by
    apply extract_rest
    rw [← List.drop_drop, h3, List.drop_left]
  generalize str (text z) = A at *
  generalize str (text o) = B at *
  obtain ⟨k, hk⟩ : ∃ k, 3 + (text z).length = k := ⟨_, rfl⟩
  rw [hk] at HE hA hB hl
  have hk3 : 3 ≤ k := by omega
  have hks : k ≤ s.size := by omega
  have HA := Lib.hid hA
  have HB := Lib.hid hB
  clear h h3 hl hk hA hB
  go_enter Tryz.func82, Tryz.ntmps82
  go_wp2_with fail
  refine (HE.out _).mono ?_
  rintro e w' ⟨rfl, rfl⟩
  go_wp2_with fail
  go_quiet (fail)
  go_wp2_with fail
  go_returns
  exact ⟨by rw [← HA.out, ← HB.out]; rfl, drawn_at _ _⟩

end Go.Proofs.YtffilggpimdikaaGreatDoor.Parts

/-
  A drawn region walked once, in the order of the text, in the class of the worlds that its callees may make.
-/
namespace Go.Proofs.YtffilggpimdikaaGreatDoor.Wq
open Go.RowKit
set_option linter.unusedVariables false

/-- the walk of the order of the text, closed -/
structure WQ (P : Program) (ops : Array Oper) (C : World → Prop) (Q : Act → Prop) (l : List Oper) (a : Act) : Prop where
  out : wpQuiet P ops C Q l a
theorem wq_step {P : Program} {ops : Array Oper} {C : World → Prop} {Q : Act → Prop} {a : Act} {o : Oper} {rest : List Oper}
    (h : ∀ K : Act → Prop, (∀ a, WQ P ops C Q rest a → K a) → if Region.wanted o (yielded ops a.tmps) then o.quiet P a C K else K (a.put o.dst undef)) : WQ P ops C Q (o :: rest) a :=
  ⟨wpQuiet_step fun K hK => h K fun a h2 => hK a h2.out⟩
theorem wq_nil {P : Program} {ops : Array Oper} {C : World → Prop} {Q : Act → Prop} {a : Act} (h : Q a) : WQ P ops C Q [] a := ⟨wpQuiet_nil h⟩
/-- a region that draws its order and whose callees only make memory: one walk of the order of the text -/
theorem region_kept {P : Program} {C : World → Prop} {id : Nat} {Q : Exit → Act → World → Prop} {a : Act} {w : World} {l : List Oper} (hC : C { w with drawn := w.drawn + 1 }) (hm : P.follows .mixedOrders = true) (hB : Region.lexB .any l.toArray = true)
    (h : WQ P l.toArray C (fun a' => ∀ w', C w' → Q .normal a' w') l a) : (Code.region id l.toArray true).wp P Q a w :=
  wp_region_quiet (C := C) hm hB hC (by simpa using h.out)
theorem drawn_at (w : World) (q : Nat) : Below w.heap.size w (w.drewN q) := ⟨rfl, rfl, rfl, Nat.le_refl _, fun _ _ => rfl⟩
theorem drew_at (w : World) : Below w.heap.size w { w with drawn := w.drawn + 1 } := ⟨rfl, rfl, rfl, Nat.le_refl _, fun _ _ => rfl⟩
end Go.Proofs.YtffilggpimdikaaGreatDoor.Wq

/-
  The reference's set of a bit, and the text of a protocol that begins with a bit.
-/
namespace Go.Proofs.YtffilggpimdikaaGreatDoor.SetW
open Go.RowKit Go.Shelf Go.Proofs.YtffilggpimdikaaGreatDoor.Plain Go.Proofs.YtffilggpimdikaaGreatDoor.Tree Go.Proofs.YtffilggpimdikaaGreatDoor.Hex Go.Proofs.YtffilggpimdikaaGreatDoor.Read Go.Proofs.YtffilggpimdikaaGreatDoor.Parts
open Go.Proofs.YtffilggpimdikaaGreatDoor.Wq (WQ wq_step wq_nil region_kept drew_at)
set_option linter.unusedVariables false
set_option linter.unusedSimpArgs false

set_option maxHeartbeats 2000000 in
set_option maxRecDepth 100000 in
/-- the set of a bit -/
theorem set_said (a : Bool) (v : Nat) (z o : T) (hv : v < 256) (s : ByteArray) (h : s.data.toList = text (.say a v z o)) (hs : s.size ≤ 1048576) (w : World) :
    Calls Tryz.prog 102 #[.string s] w fun e w' => e = .returned (.int .i64 (v : Int)) ∧ Below w.heap.size w w' := by
  have h1 : s.data.toList.drop 1 = hexD (v / 16) :: (hexD (v % 16) :: (text z ++ text o)) := by rw [h]; rfl
  have h2 : s.data.toList.drop 2 = hexD (v % 16) :: (text z ++ text o) := by rw [h]; rfl
  obtain ⟨hk1, hx1⟩ := at_drop h1
  obtain ⟨hk2, hx2⟩ := at_drop h2
  have e1 := hexV_D (v / 16) (by omega)
  have e2 := hexV_D (v % 16) (by omega)
  obtain ⟨d1, hd1⟩ : ∃ d, v / 16 = d := ⟨_, rfl⟩
  obtain ⟨d2, hd2⟩ : ∃ d, v % 16 = d := ⟨_, rfl⟩
  have g1 : d1 < 16 := by omega
  have g2 : d2 < 16 := by omega
  have HWR : Hid (IntKind.i64.wrap (IntKind.i64.wrap (16 * (d1 : Int)) + (d2 : Int)) = (v : Int)) := by show _ = _; simp only [IntKind.wrap_i64]; omega
  rw [hd1] at e1 hx1
  rw [hd2] at e2 hx2
  have H1 : Hid (∀ W, Calls Tryz.prog 101 #[.int .u8 ((s[1]'hk1).toNat : Int)] W fun e w' => e = .returned (.int .i64 (d1 : Int)) ∧ W = w') := fun W => by rw [← e1, ← hx1]; exact hex_w _ W
  have H2 : Hid (∀ W, Calls Tryz.prog 101 #[.int .u8 ((s[2]'hk2).toNat : Int)] W fun e w' => e = .returned (.int .i64 (d2 : Int)) ∧ W = w') := fun W => by rw [← e2, ← hx2]; exact hex_w _ W
  have i1 : (1 : Int) < (s.size : Int) := by omega
  have i2 : (2 : Int) < (s.size : Int) := by omega
  clear h h1 h2 hx1 hx2 e1 e2 hd1 hd2 hv
  go_enter Tryz.func102, Tryz.ntmps102
  go_wp2_with fail
  refine region_kept (C := fun wx => Below w.heap.size w wx) (drew_at w) (by kernel_rfl) (by kernel_rfl) ?_
  repeat
    (refine wq_step (fun K hK => ?_)
     go_simp
     first
       | (refine hK _ ?_; clear hK K)
       | (apply Exists.intro
          refine ⟨fun wx hC => ?_, hK _ ?_⟩
          · first
            | with_reducible rfl
            | with_reducible exact ((H1.out wx).mono fun e w' h => ⟨h.1, h.2 ▸ hC⟩)
            | with_reducible exact ((H2.out wx).mono fun e w' h => ⟨h.1, h.2 ▸ hC⟩)
            | (rw [if_pos i1]; exact ⟨rfl, rfl⟩)
            | (rw [if_pos i2]; exact ⟨rfl, rfl⟩)
            | (go_simp; first | done | rfl)
          clear hK K))
  refine wq_nil ?_
  intro w9 hC
  have HB := Lib.hid hC
  clear hC
  go_simp
  go_wp2_with fail
  go_ret
  exact ⟨by rw [← HWR.out]; rfl, HB.out⟩

theorem hexS_part (d : Nat) (h : d < 16) : (⟨#[48, 49, 50, 51, 52, 53, 54, 55, 56, 57, 97, 98, 99, 100, 101, 102]⟩ : ByteArray).extract d (d + 1) = str [hexD d] := by
  have e : ∀ k : Fin 16, ((⟨#[48, 49, 50, 51, 52, 53, 54, 55, 56, 57, 97, 98, 99, 100, 101, 102]⟩ : ByteArray).extract k.1 (k.1 + 1)).data.toList = [hexD k.1] := by
    intro k
    rw [data_extract]
    revert k
    decide
  exact eq_str (e ⟨d, h⟩)

set_option maxHeartbeats 4000000 in
set_option maxRecDepth 100000 in
/-- the text of a protocol that begins with a bit -/
theorem node_said (q0 q1 q2 : ByteArray) (v : Nat) (hv : v < 256) (h0 : q0.size ≤ 2000) (h1 : q1.size ≤ 8000000) (h2 : q2.size ≤ 8000000) (w : World) :
    Calls Tryz.prog 74 #[.string q0, .int .i64 (v : Int), .string q1, .string q2] w fun e w' => e = .returned (.string (q0 ++ str [hexD (v / 16)] ++ str [hexD (v % 16)] ++ q1 ++ q2)) ∧ Below w.heap.size w w' := by
  obtain ⟨d1, hd1⟩ : ∃ d, v / 16 = d := ⟨_, rfl⟩
  obtain ⟨d2, hd2⟩ : ∃ d, v % 16 = d := ⟨_, rfl⟩
  rw [hd1, hd2]
  have g1 : d1 < 16 := by omega
  have g2 : d2 < 16 := by omega
  have hq : IntKind.i64.wrap ((v : Int) / 16) = (d1 : Int) := by simp only [IntKind.wrap_i64]; omega
  have hm : (v : Int).tmod 16 = (d2 : Int) := by rw [Int.tmod_eq_emod_of_nonneg (by omega)]; omega
  have x1 := hexS_part d1 g1
  have x2 := hexS_part d2 g2
  have z1 : (str [hexD d1]).size = 1 := by rw [str_size]; rfl
  have z2 : (str [hexD d2]).size = 1 := by rw [str_size]; rfl
  generalize str [hexD d1] = y1 at *
  generalize str [hexD d2] = y2 at *
  have q1' := fun W => run_string_add_sum (P := Tryz.prog) (w := W) q0 y1 (by omega)
  have q2' := fun W => run_string_add_sum (P := Tryz.prog) (w := W) (q0 ++ y1) y2 (by rw [ByteArray.size_append]; omega)
  have q3' := fun W => run_string_add_sum (P := Tryz.prog) (w := W) (q0 ++ y1 ++ y2) q1 (by rw [ByteArray.size_append, ByteArray.size_append]; omega)
  have q4' := fun W => run_string_add_sum (P := Tryz.prog) (w := W) (q0 ++ y1 ++ y2 ++ q1) q2 (by rw [ByteArray.size_append, ByteArray.size_append, ByteArray.size_append]; omega)
  clear hd1 hd2 z1 z2 h0 h1 h2
  go_enter Tryz.func74, Tryz.ntmps74
  go_wp2_with fail
  go_quiet (fail)
  go_wp2_with fail
  go_ret
  exact ⟨rfl, drawn_at _ _⟩
end Go.Proofs.YtffilggpimdikaaGreatDoor.SetW

/-
  Parts of a rectangle behind a bit; a protocol without what is never said. Nothing of the program.
-/
namespace Go.Proofs.YtffilggpimdikaaGreatDoor.TrimT
open Go.RowKit Go.Proofs.YtffilggpimdikaaGreatDoor.Plain Go.Proofs.YtffilggpimdikaaGreatDoor.Tree
set_option linter.unusedVariables false

def meetN (a b : Nat) : Nat := (BitVec.ofNat 64 a &&& BitVec.ofNat 64 b).toNat
def minusN (a b : Nat) : Nat := (BitVec.ofNat 64 a &&& ~~~ BitVec.ofNat 64 b).toNat
theorem ofInt_nat (a : Nat) : BitVec.ofInt 64 (a : Int) = BitVec.ofNat 64 a := by
  apply BitVec.eq_of_toNat_eq
  simp
theorem meet_le (a b : Nat) (h : a < 256) : meetN a b ≤ a := by
  unfold meetN
  rw [BitVec.toNat_and]
  refine Nat.le_trans Nat.and_le_left ?_
  rw [BitVec.toNat_ofNat, Nat.mod_eq_of_lt (by omega)]
  exact Nat.le_refl _
theorem minus_le (a b : Nat) (h : a < 256) : minusN a b ≤ a := by
  unfold minusN
  rw [BitVec.toNat_and]
  refine Nat.le_trans Nat.and_le_left ?_
  rw [BitVec.toNat_ofNat, Nat.mod_eq_of_lt (by omega)]
  exact Nat.le_refl _
theorem wrap_small (n : Nat) (h : n < 256) : IntKind.i64.wrap (n : Int) = (n : Int) := by
  simp only [IntKind.wrap_i64]
  omega
theorem bit_and (a b : Nat) (h : a < 256) : bits .and .i64 (a : Int) (b : Int) = (meetN a b : Int) := by
  show IntKind.i64.wrap ((BitVec.ofInt 64 (a : Int) &&& BitVec.ofInt 64 (b : Int)).toNat : Int) = _
  rw [ofInt_nat, ofInt_nat]
  exact wrap_small _ (Nat.lt_of_le_of_lt (meet_le a b h) h)
theorem bit_minus (a b : Nat) (h : a < 256) : bits .andNot .i64 (a : Int) (b : Int) = (minusN a b : Int) := by
  show IntKind.i64.wrap ((BitVec.ofInt 64 (a : Int) &&& ~~~ BitVec.ofInt 64 (b : Int)).toNat : Int) = _
  rw [ofInt_nat, ofInt_nat]
  exact wrap_small _ (Nat.lt_of_le_of_lt (minus_le a b h) h)
theorem ofInt_wrap (v : BitVec 64) : BitVec.ofInt 64 (IntKind.i64.wrap (v.toNat : Int)) = v := by
  apply BitVec.eq_of_toNat_eq
  have hv := v.isLt
  simp only [IntKind.wrap_i64]
  rw [BitVec.toNat_ofInt]
  have e : (2 : Nat) ^ 64 = 18446744073709551616 := by decide
  rw [e] at hv ⊢
  omega
theorem not_xor (b : Nat) : BitVec.ofInt 64 (-1) ^^^ BitVec.ofNat 64 b = ~~~ BitVec.ofNat 64 b := by
  have e : BitVec.ofInt 64 (-1) = BitVec.allOnes 64 := by decide
  rw [e, BitVec.allOnes_xor]
theorem bit_not_and (a b : Nat) (h : a < 256) : bits .and .i64 (a : Int) (bits .xor .i64 (-1) (b : Int)) = (minusN a b : Int) := by
  show IntKind.i64.wrap ((BitVec.ofInt 64 (a : Int) &&& BitVec.ofInt 64 (IntKind.i64.wrap ((BitVec.ofInt 64 (-1) ^^^ BitVec.ofInt 64 (b : Int)).toNat : Int))).toNat : Int) = _
  rw [ofInt_wrap, ofInt_nat, ofInt_nat, not_xor]
  exact wrap_small _ (Nat.lt_of_le_of_lt (minus_le a b h) h)
theorem both_zero (a b : Nat) (h : a < 256) (h1 : meetN a b = 0) (h2 : minusN a b = 0) : a = 0 := by
  unfold meetN at h1
  unfold minusN at h2
  have e1 : BitVec.ofNat 64 a &&& BitVec.ofNat 64 b = 0#64 := BitVec.eq_of_toNat_eq (by rw [h1]; rfl)
  have e2 : BitVec.ofNat 64 a &&& ~~~ BitVec.ofNat 64 b = 0#64 := BitVec.eq_of_toNat_eq (by rw [h2]; rfl)
  have e3 : BitVec.ofNat 64 a = 0#64 := by
    apply BitVec.eq_of_getLsbD_eq
    intro i hi
    have g1 := congrArg (fun v => v.getLsbD i) e1
    have g2 := congrArg (fun v => v.getLsbD i) e2
    simp only [BitVec.getLsbD_and, BitVec.getLsbD_not, BitVec.getLsbD_zero, hi, decide_true, Bool.true_and] at g1 g2 ⊢
    cases hx : (BitVec.ofNat 64 a).getLsbD i <;> cases hy : (BitVec.ofNat 64 b).getLsbD i <;> simp [hx, hy] at g1 g2 ⊢
  have := congrArg BitVec.toNat e3
  rw [BitVec.toNat_ofNat, Nat.mod_eq_of_lt (by omega)] at this
  simpa using this

/-- what is left of the rows and columns behind the bit 0, and behind the bit 1 -/
def outR (a : Bool) (s R : Nat) : Nat := if a then minusN R s else R
def outC (a : Bool) (s C : Nat) : Nat := if a then C else minusN C s
def inR (a : Bool) (s R : Nat) : Nat := if a then meetN R s else R
def inC (a : Bool) (s C : Nat) : Nat := if a then C else meetN C s
theorem parts_lt (a : Bool) (s : Nat) {R C : Nat} (hR : R < 256) (hC : C < 256) : outR a s R < 256 ∧ outC a s C < 256 ∧ inR a s R < 256 ∧ inC a s C < 256 := by
  have h1 := meet_le R s hR
  have h2 := meet_le C s hC
  have h3 := minus_le R s hR
  have h4 := minus_le C s hC
  cases a <;> simp only [outR, outC, inR, inC, if_true, if_false, Bool.false_eq_true] <;> omega
theorem not_both (a : Bool) (s : Nat) {R C : Nat} (hR : R < 256) (hC : C < 256) (hR1 : 1 ≤ R) (hC1 : 1 ≤ C) (h : inR a s R = 0 ∨ inC a s C = 0) : 1 ≤ outR a s R ∧ 1 ≤ outC a s C := by
  cases a
  · simp only [outR, outC, inR, inC, if_false, Bool.false_eq_true] at h ⊢
    rcases h with h | h
    · omega
    · have := fun h2 => both_zero C s hC h h2
      omega
  · simp only [outR, outC, inR, inC, if_true] at h ⊢
    rcases h with h | h
    · have := fun h2 => both_zero R s hR h h2
      omega
    · omega
/-- without what is never said -/
def trimT : T → Nat → Nat → T
  | .leaf b, _, _ => .leaf b
  | .say a s z o, R, C =>
    if inR a s R = 0 ∨ inC a s C = 0 then trimT z (outR a s R) (outC a s C)
    else if outR a s R = 0 ∨ outC a s C = 0 then trimT o (inR a s R) (inC a s C)
    else .say a (if a then inR a s R else inC a s C) (trimT z (outR a s R) (outC a s C)) (trimT o (inR a s R) (inC a s C))
theorem trim_wf : ∀ (t : T) (R C : Nat), R < 256 → C < 256 → wf t → wf (trimT t R C)
  | .leaf _, _, _, _, _, _ => trivial
  | .say a s z o, R, C, hR, hC, hw => by
    obtain ⟨h1, h2, h3, h4⟩ := parts_lt a s hR hC
    have iz := trim_wf z _ _ h1 h2 hw.2.1
    have io := trim_wf o _ _ h3 h4 hw.2.2
    unfold trimT
    split
    · exact iz
    · split
      · exact io
      · refine ⟨?_, iz, io⟩
        cases a
        · exact h4
        · exact h3
theorem trim_length : ∀ (t : T) (R C : Nat), (text (trimT t R C)).length ≤ (text t).length
  | .leaf _, _, _ => Nat.le_refl _
  | .say a s z o, R, C => by
    have iz := trim_length z (outR a s R) (outC a s C)
    have io := trim_length o (inR a s R) (inC a s C)
    unfold trimT
    split
    · simp only [text, List.length_cons, List.length_append]; omega
    · split
      · simp only [text, List.length_cons, List.length_append]; omega
      · simp only [text, List.length_cons, List.length_append]; omega
end Go.Proofs.YtffilggpimdikaaGreatDoor.TrimT

