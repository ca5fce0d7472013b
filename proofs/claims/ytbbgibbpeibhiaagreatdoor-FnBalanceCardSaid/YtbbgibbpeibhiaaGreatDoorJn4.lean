/-
  Texts of one seat, joined: TreeOf, Parts, Wq, SetW.
-/
import Derived.Test.YtbbgibbpeibhiaaGreatDoorJn3
import Derived.Deep.QuietTactic
import Derived.BigQuiet
import Derived.Below
import Derived.WalkKit
import Derived.WalkSpells
import Derived.Lib.Hide
import Derived.Handy
import Derived.Outline
import Derived.Deep.Quiet
import Derived.Laws.Concat
/-
  The program's trees of texts: a tree exactly of a protocol that is not too long.
-/
namespace Go.Proofs.YtbbgibbpeibhiaaGreatDoor.TreeOf
open Go.RowKit Go.Shelf Go.Proofs.YtbbgibbpeibhiaaGreatDoor.Plain Go.Proofs.YtbbgibbpeibhiaaGreatDoor.Tree Go.Proofs.YtbbgibbpeibhiaaGreatDoor.Hex Go.Proofs.YtbbgibbpeibhiaaGreatDoor.Rect Go.Proofs.YtbbgibbpeibhiaaGreatDoor.Read
set_option linter.unusedVariables false

/-- a text is a protocol that is not too long -/
def Ok (s : ByteArray) : Prop := s.size ≤ 2000 ∧ Is s.data.toList
theorem ok_or (s : ByteArray) : (∃ t, wf t ∧ s.data.toList = text t ∧ s.size ≤ 2000) ∨ ¬ Ok s := by
  by_cases h : Ok s
  · obtain ⟨h1, t, h2, h3⟩ := h
    exact .inl ⟨t, h2, h3, h1⟩
  · exact .inr h

set_option maxHeartbeats 1000000 in
theorem tree_yes (s : ByteArray) (t : T) (hw : wf t) (h : s.data.toList = text t) (hs : s.size ≤ 2000) (w : World) :
    Calls Tryz.prog 32 #[.string s] w fun e w' => e = .returned (tree t) ∧ Below w.heap.size w w' := by
  have HR : Hid (∀ W, Calls Tryz.prog 45 #[.string s, .int .i64 2] W fun e w' => e = .returned (.tuple #[tree t, .string (str [])]) ∧ Below W.heap.size W w') := fun W => read_yes t hw s (by omega) [] (by rw [h]; simp) W
  have he := is_empty (s := str []) rfl
  generalize str [] = q at *
  obtain ⟨ty, v, ev⟩ := tree_iface t
  rw [ev] at HR ⊢
  clear h ev
  go_enter Tryz.func32, Tryz.ntmps32
  go_wp2_with fail
  refine (HR.out _).mono ?_
  rintro e w1 ⟨rfl, hb1⟩
  have HB := Lib.hid hb1
  clear hb1
  go_wp2_with fail
  go_ret
  exact ⟨rfl, HB.out⟩

set_option maxHeartbeats 1000000 in
theorem tree_no (s : ByteArray) (h : ¬ Ok s) (hs : s.size ≤ 1048576) (w : World) :
    Calls Tryz.prog 32 #[.string s] w fun e w' => e = .returned .nilIface ∧ Below w.heap.size w w' := by
  by_cases hl : 2000 < s.size
  · clear h
    go_enter Tryz.func32, Tryz.ntmps32
    go_wp2_with fail
    go_ret
    exact ⟨rfl, Below.refl _ _⟩
  replace hl : s.size ≤ 2000 := by omega
  rcases yes_or_no s.data.toList with ⟨t, r, hw, e1⟩ | hno
  · have hr : r ≠ [] := fun e => h ⟨hl, t, hw, by rw [e1, e]; simp⟩
    have HR : Hid (∀ W, Calls Tryz.prog 45 #[.string s, .int .i64 2] W fun e w' => e = .returned (.tuple #[tree t, .string (str r)]) ∧ Below W.heap.size W w') := fun W => read_yes t hw s hs r e1 W
    have he := not_empty (s := str r) (by rw [str_size]; exact List.length_pos_iff.2 hr)
    generalize str r = q at *
    obtain ⟨ty, v, ev⟩ := tree_iface t
    rw [ev] at HR
    clear h ev e1 hr
    go_enter Tryz.func32, Tryz.ntmps32
    go_wp2_with fail
    refine (HR.out _).mono ?_
    rintro e w1 ⟨rfl, hb1⟩
    have HB := Lib.hid hb1
    clear hb1
    go_wp2_with fail
    go_ret
    exact ⟨rfl, HB.out⟩
  · have HR : Hid (∀ W, Calls Tryz.prog 45 #[.string s, .int .i64 2] W fun e w' => e = .returned (.tuple #[.nilIface, .string (str [])]) ∧ Below W.heap.size W w') := fun W => read_no s.size s hs (Nat.le_refl _) hno W
    have he := is_empty (s := str []) rfl
    generalize str [] = q at *
    clear h hno
    go_enter Tryz.func32, Tryz.ntmps32
    go_wp2_with fail
    refine (HR.out _).mono ?_
    rintro e w1 ⟨rfl, hb1⟩
    have HB := Lib.hid hb1
    clear hb1
    go_wp2_with fail
    go_ret
    exact ⟨rfl, HB.out⟩

set_option maxHeartbeats 1000000 in
theorem valid_said (s : ByteArray) (t : T) (hw : wf t) (h : s.data.toList = text t) (hs : s.size ≤ 2000) (w : World) :
    Calls Tryz.prog 20 #[.string s] w fun e w' => e = .returned (.bool true) ∧ w = w' := by
  have hl : (text t).length = s.size := by rw [← h]; simp
  have HE : Hid (∀ W, Calls Tryz.prog 37 #[.string s, .int .i64 0] W fun e w' => e = .returned (.int .i64 (s.size : Int)) ∧ W = w') := fun W => by
    have h2 := end_yes s (by omega) t hw 0 (by omega) [] (by rw [List.append_nil]; exact h) W
    rw [hl, Nat.zero_add] at h2
    exact h2
  clear h hl
  go_enter Tryz.func20, Tryz.ntmps20
  go_wp2_with fail
  refine (HE.out _).mono ?_
  rintro e w1 ⟨rfl, rfl⟩
  go_wp2_with fail
  go_ret
  exact ⟨by simp, rfl⟩

set_option maxHeartbeats 1000000 in
theorem valid_no (s : ByteArray) (h : ¬ Ok s) (hs : s.size ≤ 1048576) (w : World) :
    Calls Tryz.prog 20 #[.string s] w fun e w' => e = .returned (.bool false) ∧ w = w' := by
  by_cases hl : 2000 < s.size
  · clear h
    go_enter Tryz.func20, Tryz.ntmps20
    go_wp2_with fail
    go_ret
    exact ⟨by simp, rfl⟩
  replace hl : s.size ≤ 2000 := by omega
  have HE : ∃ n : Int, n ≠ (s.size : Int) ∧ ∀ W, Calls Tryz.prog 37 #[.string s, .int .i64 0] W fun e w' => e = .returned (.int .i64 n) ∧ W = w' := by
    rcases yes_or_no s.data.toList with ⟨t, r, hw, e1⟩ | hno
    · have hr : r ≠ [] := fun e => h ⟨hl, t, hw, by rw [e1, e]; simp⟩
      have hp := List.length_pos_iff.2 hr
      have hlen : (text t).length + r.length = s.size := by have := congrArg List.length e1; simp at this; omega
      refine ⟨((0 + (text t).length : Nat) : Int), by omega, fun W => end_yes s hs t hw 0 (by omega) r e1 W⟩
    · exact ⟨-1, by omega, fun W => end_no s hs s.size 0 (by omega) (by omega) hno W⟩
  obtain ⟨n, hn, hE⟩ := HE
  have HE := Lib.hid hE
  have hn2 : (n == (s.size : Int)) = false := beq_false_of_ne hn
  clear h hE hn
  go_enter Tryz.func20, Tryz.ntmps20
  go_wp2_with fail
  refine (HE.out _).mono ?_
  rintro e w1 ⟨rfl, rfl⟩
  go_wp2_with fail
  go_ret
  exact ⟨by simp, rfl⟩

end Go.Proofs.YtbbgibbpeibhiaaGreatDoor.TreeOf

/-
  The reference on a protocol's text: whether it is an end, its parts, the greatest number of bits, the number of ends.
-/
namespace Go.Proofs.YtbbgibbpeibhiaaGreatDoor.Parts
open Go.RowKit Go.Shelf Go.Proofs.YtbbgibbpeibhiaaGreatDoor.Plain Go.Proofs.YtbbgibbpeibhiaaGreatDoor.Tree Go.Proofs.YtbbgibbpeibhiaaGreatDoor.Hex Go.Proofs.YtbbgibbpeibhiaaGreatDoor.Read
set_option linter.unusedVariables false
set_option linter.unusedSimpArgs false

theorem str_data (l : List UInt8) : (str l).data.toList = l := by simp [str]
theorem leaf_yes (s : ByteArray) (h : s.size = 1) (w : World) :
    Calls Tryz.prog 39 #[.string s] w fun e w' => e = .returned (.bool true) ∧ w = w' := by
  go_enter Tryz.func39, Tryz.ntmps39
  go_wp2_with fail
  go_ret
  exact ⟨rfl, rfl⟩
theorem leaf_no (s : ByteArray) (h : 2 ≤ s.size) (w : World) :
    Calls Tryz.prog 39 #[.string s] w fun e w' => e = .returned (.bool false) ∧ w = w' := by
  have h2 : ((s.size : Int) == 1) = false := beq_false_of_ne (by omega)
  go_enter Tryz.func39, Tryz.ntmps39
  go_wp2_with fail
  go_ret
  exact ⟨by simp [h2], rfl⟩

set_option maxHeartbeats 1000000 in
/-- both protocols behind a first bit -/
theorem parts_w (a : Bool) (v : Nat) (z o : T) (hz : wf z) (s : ByteArray) (h : s.data.toList = text (.say a v z o)) (hs : s.size ≤ 1048576) (w : World) :
    Calls Tryz.prog 40 #[.string s] w fun e w' => e = .returned (.tuple #[.string (str (text z)), .string (str (text o))]) ∧ Below w.heap.size w w' := by
  have h3 : s.data.toList.drop 3 = text z ++ text o := by rw [h]; rfl
  have hl : 3 + (text z).length + (text o).length = s.size := by
    have := congrArg List.length h
    simp [text] at this
    omega
  have HE : Hid (∀ W, Calls Tryz.prog 37 #[.string s, .int .i64 3] W fun e w' => e = .returned (.int .i64 ((3 + (text z).length : Nat) : Int)) ∧ W = w') := fun W => end_yes s hs z hz 3 (by omega) (text o) h3 W
  have hA : s.extract 3 (3 + (text z).length) = str (text z) := by
    apply eq_str
    rw [data_extract, h3, show 3 + (text z).length - 3 = (text z).length by omega, List.take_left]
  have hB : s.extract (3 + (text z).length) s.size = str (text o) := by
    apply extract_rest
    rw [← List.drop_drop, h3, List.drop_left]
  generalize str (text z) = A at *
  generalize str (text o) = B at *
  obtain ⟨k, hk⟩ : ∃ k, 3 + (text z).length = k := ⟨_, rfl⟩
  rw [hk] at HE hA hB hl
  have hk3 : 3 ≤ k := by omega
  have hks : k ≤ s.size := by omega
  have HA := Lib.hid hA
  have HB := Lib.hid hB
  clear h h3 hl hk hA hB
  go_enter Tryz.func40, Tryz.ntmps40
  go_wp2_with fail
  refine (HE.out _).mono ?_
  rintro e w' ⟨rfl, rfl⟩
  go_wp2_with fail
  go_quiet (fail)
  go_wp2_with fail
  go_returns
  exact ⟨by rw [← HA.out, ← HB.out]; rfl, drawn_at _ _⟩

set_option maxHeartbeats 2000000 in
set_option maxRecDepth 100000 in
theorem said_ends (t : T) : wf t → (text t).length ≤ 2000 → ∀ w : World, Calls Tryz.prog 22 #[.string (str (text t))] w fun e w' => e = .returned (.int .i64 (ends t : Int)) ∧ Below w.heap.size w w' := by
  induction t with
  | leaf b =>
    intro _ _ w
    have HL : Hid (∀ W, Calls Tryz.prog 39 #[.string (str (text (.leaf b)))] W fun e w' => e = .returned (.bool true) ∧ W = w') := leaf_yes _ (by rw [str_size]; rfl)
    generalize str (text (.leaf b)) = s at *
    go_enter Tryz.func22, Tryz.ntmps22
    go_wp2_with fail
    refine (HL.out _).mono ?_
    rintro e w' ⟨rfl, rfl⟩
    go_wp2_with fail
    go_ret
    exact ⟨rfl, Below.refl _ _⟩
  | say a v z o ihz iho =>
    intro hw hl w
    have hlz : (text (.say a v z o)).length = (text z).length + (text o).length + 3 := by simp [text]
    have HZ := Lib.hid (ihz hw.2.1 (by omega))
    have HO := Lib.hid (iho hw.2.2 (by omega))
    have bz := ends_le z
    have bo := ends_le o
    have hm : ends (.say a v z o) = ends z + ends o := rfl
    have HL : Hid (∀ W, Calls Tryz.prog 39 #[.string (str (text (.say a v z o)))] W fun e w' => e = .returned (.bool false) ∧ W = w') := leaf_no _ (by rw [str_size]; omega)
    have HP := Lib.hid (parts_w a v z o hw.2.1 (str (text (.say a v z o))) (str_data _) (by rw [str_size]; omega))
    rw [hm]
    clear hm ihz iho
    generalize ends z = m at *
    generalize ends o = n at *
    have HM : Hid (((m + n : Nat) : Int) = (m : Int) + (n : Int)) := by show _ = _; omega
    have L1 : m ≤ 2000 := by omega
    have L2 : n ≤ 2000 := by omega
    generalize str (text (.say a v z o)) = s at *
    generalize str (text z) = sz at *
    generalize str (text o) = so at *
    clear hl hlz bz bo hw
    go_enter Tryz.func22, Tryz.ntmps22
    go_wp2_with fail
    refine (HL.out _).mono ?_
    rintro e w' ⟨rfl, rfl⟩
    go_wp2_with fail
    refine (HP.out _).mono ?_
    rintro e w1 ⟨rfl, hb1⟩
    go_wp2_with fail
    refine (HZ.out _).mono ?_
    rintro e w2 ⟨rfl, hb2⟩
    go_wp2_with fail
    refine (HO.out _).mono ?_
    rintro e w3 ⟨rfl, hb3⟩
    have h12 := hb1.trans (hb2.mono hb1.size)
    have HB := Lib.hid (h12.trans (hb3.mono h12.size))
    clear hb1 hb2 hb3 h12
    go_wp2_with fail
    go_ret
    exact ⟨by rw [HM.out]; rfl, HB.out⟩
end Go.Proofs.YtbbgibbpeibhiaaGreatDoor.Parts

/-
  A drawn region walked once, in the order of the text, in the class of the worlds that its callees may make.
-/
namespace Go.Proofs.YtbbgibbpeibhiaaGreatDoor.Wq
open Go.RowKit
set_option linter.unusedVariables false

/-- the walk of the order of the text, closed -/
structure WQ (P : Program) (ops : Array Oper) (C : World → Prop) (Q : Act → Prop) (l : List Oper) (a : Act) : Prop where
  out : wpQuiet P ops C Q l a
theorem wq_step {P : Program} {ops : Array Oper} {C : World → Prop} {Q : Act → Prop} {a : Act} {o : Oper} {rest : List Oper}
    (h : ∀ K : Act → Prop, (∀ a, WQ P ops C Q rest a → K a) → if Region.wanted o (yielded ops a.tmps) then o.quiet P a C K else K (a.put o.dst undef)) : WQ P ops C Q (o :: rest) a :=
  ⟨wpQuiet_step fun K hK => h K fun a h2 => hK a h2.out⟩
theorem wq_nil {P : Program} {ops : Array Oper} {C : World → Prop} {Q : Act → Prop} {a : Act} (h : Q a) : WQ P ops C Q [] a := ⟨wpQuiet_nil h⟩
/-- a region that draws its order and whose callees only make memory: one walk of the order of the text -/
theorem region_kept {P : Program} {C : World → Prop} {id : Nat} {Q : Exit → Act → World → Prop} {a : Act} {w : World} {l : List Oper} (hC : C { w with drawn := w.drawn + 1 }) (hm : P.follows .mixedOrders = true) (hB : Region.lexB .any l.toArray = true)
    (h : WQ P l.toArray C (fun a' => ∀ w', C w' → Q .normal a' w') l a) : (Code.region id l.toArray true).wp P Q a w :=
  wp_region_quiet (C := C) hm hB hC (by simpa using h.out)
theorem drawn_at (w : World) (q : Nat) : Below w.heap.size w (w.drewN q) := ⟨rfl, rfl, rfl, Nat.le_refl _, fun _ _ => rfl⟩
theorem drew_at (w : World) : Below w.heap.size w { w with drawn := w.drawn + 1 } := ⟨rfl, rfl, rfl, Nat.le_refl _, fun _ _ => rfl⟩
end Go.Proofs.YtbbgibbpeibhiaaGreatDoor.Wq

/-
  The reference's set of a bit, and the text of a protocol that begins with a bit.
-/
namespace Go.Proofs.YtbbgibbpeibhiaaGreatDoor.SetW
open Go.RowKit Go.Shelf Go.Proofs.YtbbgibbpeibhiaaGreatDoor.Plain Go.Proofs.YtbbgibbpeibhiaaGreatDoor.Tree Go.Proofs.YtbbgibbpeibhiaaGreatDoor.Hex Go.Proofs.YtbbgibbpeibhiaaGreatDoor.Read Go.Proofs.YtbbgibbpeibhiaaGreatDoor.Parts
open Go.Proofs.YtbbgibbpeibhiaaGreatDoor.Wq (WQ wq_step wq_nil region_kept drew_at)
set_option linter.unusedVariables false
set_option linter.unusedSimpArgs false

set_option maxHeartbeats 2000000 in
set_option maxRecDepth 100000 in
/-- the set of a bit -/
theorem set_said (a : Bool) (v : Nat) (z o : T) (hv : v < 256) (s : ByteArray) (h : s.data.toList = text (.say a v z o)) (hs : s.size ≤ 1048576) (w : World) :
    Calls Tryz.prog 53 #[.string s] w fun e w' => e = .returned (.int .i64 (v : Int)) ∧ Below w.heap.size w w' := by
  have h1 : s.data.toList.drop 1 = hexD (v / 16) :: (hexD (v % 16) :: (text z ++ text o)) := by rw [h]; rfl
  have h2 : s.data.toList.drop 2 = hexD (v % 16) :: (text z ++ text o) := by rw [h]; rfl
  obtain ⟨hk1, hx1⟩ := at_drop h1
  obtain ⟨hk2, hx2⟩ := at_drop h2
  have e1 := hexV_D (v / 16) (by omega)
  have e2 := hexV_D (v % 16) (by omega)
  obtain ⟨d1, hd1⟩ : ∃ d, v / 16 = d := ⟨_, rfl⟩
  obtain ⟨d2, hd2⟩ : ∃ d, v % 16 = d := ⟨_, rfl⟩
  have g1 : d1 < 16 := by omega
  have g2 : d2 < 16 := by omega
  have HWR : Hid (IntKind.i64.wrap (IntKind.i64.wrap (16 * (d1 : Int)) + (d2 : Int)) = (v : Int)) := by show _ = _; simp only [IntKind.wrap_i64]; omega
  rw [hd1] at e1 hx1
  rw [hd2] at e2 hx2
  have H1 : Hid (∀ W, Calls Tryz.prog 52 #[.int .u8 ((s[1]'hk1).toNat : Int)] W fun e w' => e = .returned (.int .i64 (d1 : Int)) ∧ W = w') := fun W => by rw [← e1, ← hx1]; exact hex_w _ W
  have H2 : Hid (∀ W, Calls Tryz.prog 52 #[.int .u8 ((s[2]'hk2).toNat : Int)] W fun e w' => e = .returned (.int .i64 (d2 : Int)) ∧ W = w') := fun W => by rw [← e2, ← hx2]; exact hex_w _ W
  have i1 : (1 : Int) < (s.size : Int) := by omega
  have i2 : (2 : Int) < (s.size : Int) := by omega
  clear h h1 h2 hx1 hx2 e1 e2 hd1 hd2 hv
  go_enter Tryz.func53, Tryz.ntmps53
  go_wp2_with fail
  refine region_kept (C := fun wx => Below w.heap.size w wx) (drew_at w) (by kernel_rfl) (by kernel_rfl) ?_
  repeat
    (refine wq_step (fun K hK => ?_)
     go_simp
     first
       | (refine hK _ ?_; clear hK K)
       | (apply Exists.intro
          refine ⟨fun wx hC => ?_, hK _ ?_⟩
          · first
            | with_reducible rfl
            | with_reducible exact ((H1.out wx).mono fun e w' h => ⟨h.1, h.2 ▸ hC⟩)
            | with_reducible exact ((H2.out wx).mono fun e w' h => ⟨h.1, h.2 ▸ hC⟩)
            | (rw [if_pos i1]; exact ⟨rfl, rfl⟩)
            | (rw [if_pos i2]; exact ⟨rfl, rfl⟩)
            | (go_simp; first | done | rfl)
          clear hK K))
  refine wq_nil ?_
  intro w9 hC
  have HB := Lib.hid hC
  clear hC
  go_simp
  go_wp2_with fail
  go_ret
  exact ⟨by rw [← HWR.out]; rfl, HB.out⟩

theorem hexS_part (d : Nat) (h : d < 16) : (⟨#[48, 49, 50, 51, 52, 53, 54, 55, 56, 57, 97, 98, 99, 100, 101, 102]⟩ : ByteArray).extract d (d + 1) = str [hexD d] := by
  have e : ∀ k : Fin 16, ((⟨#[48, 49, 50, 51, 52, 53, 54, 55, 56, 57, 97, 98, 99, 100, 101, 102]⟩ : ByteArray).extract k.1 (k.1 + 1)).data.toList = [hexD k.1] := by
    intro k
    rw [data_extract]
    revert k
    decide
  exact eq_str (e ⟨d, h⟩)

set_option maxHeartbeats 4000000 in
set_option maxRecDepth 100000 in
/-- the text of a protocol that begins with a bit -/
theorem node_said (q0 q1 q2 : ByteArray) (v : Nat) (hv : v < 256) (h0 : q0.size ≤ 2000) (h1 : q1.size ≤ 8000000) (h2 : q2.size ≤ 8000000) (w : World) :
    Calls Tryz.prog 16 #[.string q0, .int .i64 (v : Int), .string q1, .string q2] w fun e w' => e = .returned (.string (q0 ++ str [hexD (v / 16)] ++ str [hexD (v % 16)] ++ q1 ++ q2)) ∧ Below w.heap.size w w' := by
  obtain ⟨d1, hd1⟩ : ∃ d, v / 16 = d := ⟨_, rfl⟩
  obtain ⟨d2, hd2⟩ : ∃ d, v % 16 = d := ⟨_, rfl⟩
  rw [hd1, hd2]
  have g1 : d1 < 16 := by omega
  have g2 : d2 < 16 := by omega
  have hq : IntKind.i64.wrap ((v : Int) / 16) = (d1 : Int) := by simp only [IntKind.wrap_i64]; omega
  have hm : (v : Int).tmod 16 = (d2 : Int) := by rw [Int.tmod_eq_emod_of_nonneg (by omega)]; omega
  have x1 := hexS_part d1 g1
  have x2 := hexS_part d2 g2
  have z1 : (str [hexD d1]).size = 1 := by rw [str_size]; rfl
  have z2 : (str [hexD d2]).size = 1 := by rw [str_size]; rfl
  generalize str [hexD d1] = y1 at *
  generalize str [hexD d2] = y2 at *
  have q1' := fun W => run_string_add_sum (P := Tryz.prog) (w := W) q0 y1 (by omega)
  have q2' := fun W => run_string_add_sum (P := Tryz.prog) (w := W) (q0 ++ y1) y2 (by rw [ByteArray.size_append]; omega)
  have q3' := fun W => run_string_add_sum (P := Tryz.prog) (w := W) (q0 ++ y1 ++ y2) q1 (by rw [ByteArray.size_append, ByteArray.size_append]; omega)
  have q4' := fun W => run_string_add_sum (P := Tryz.prog) (w := W) (q0 ++ y1 ++ y2 ++ q1) q2 (by rw [ByteArray.size_append, ByteArray.size_append, ByteArray.size_append]; omega)
  clear hd1 hd2 z1 z2 h0 h1 h2
  go_enter Tryz.func16, Tryz.ntmps16
  go_wp2_with fail
  go_quiet (fail)
  go_wp2_with fail
  go_ret
  exact ⟨rfl, drawn_at _ _⟩
end Go.Proofs.YtbbgibbpeibhiaaGreatDoor.SetW

