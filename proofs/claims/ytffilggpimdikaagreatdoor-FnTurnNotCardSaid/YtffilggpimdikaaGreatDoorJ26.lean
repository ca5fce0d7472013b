/-
  Texts of one seat, joined: GraftP, NotPWalk, TurnWalk.
-/
import Derived.Test.YtffilggpimdikaaGreatDoorJ25
import Derived.Test.YtffilggpimdikaaGreatDoorJ16
import Derived.Test.YtffilggpimdikaaGreatDoorJ15
/-
  GraftProtocol, of the reference and of the program.
-/
namespace Go.Proofs.YtffilggpimdikaaGreatDoor.GraftP
open Go.RowKit Go.Shelf Go.Proofs.YtffilggpimdikaaGreatDoor.Plain Go.Proofs.YtffilggpimdikaaGreatDoor.Tree Go.Proofs.YtffilggpimdikaaGreatDoor.Read Go.Proofs.YtffilggpimdikaaGreatDoor.TreeOf Go.Proofs.YtffilggpimdikaaGreatDoor.Parts Go.Proofs.YtffilggpimdikaaGreatDoor.SaidTG Go.Proofs.YtffilggpimdikaaGreatDoor.TextOf
open Go.Proofs.YtffilggpimdikaaGreatDoor.Graft (graft_to)
set_option linter.unusedVariables false
set_option linter.unusedSimpArgs false

/-- what both answer about texts that are protocols -/
theorem tree_any (s : ByteArray) (hs : s.size ≤ 1048576) : (∃ t ty v, wf t ∧ s.data.toList = text t ∧ s.size ≤ 2000 ∧ tree t = .iface ty v ∧ ∀ W : World, Calls Tryz.prog 40 #[.string s] W fun e w' => e = .returned (.iface ty v) ∧ Below W.heap.size W w') ∨
    (¬ Ok s ∧ ∀ W : World, Calls Tryz.prog 40 #[.string s] W fun e w' => e = .returned .nilIface ∧ Below W.heap.size W w') := by
  rcases ok_or s with ⟨t, h1, h2, h3⟩ | h
  · obtain ⟨ty, v, e⟩ := tree_iface t
    refine .inl ⟨t, ty, v, h1, h2, h3, e, fun W => ?_⟩
    have := tree_yes s t h1 h2 h3 W
    rw [e] at this
    exact this
  · exact .inr ⟨h, fun W => tree_no s h hs W⟩

set_option maxHeartbeats 4000000 in
set_option maxRecDepth 100000 in
theorem impl_yes (s s0 s1 : ByteArray) (t t0 t1 : T) (hw : wf t) (hw0 : wf t0) (hw1 : wf t1) (h : s.data.toList = text t) (h0 : s0.data.toList = text t0) (h1 : s1.data.toList = text t1)
    (hs : s.size ≤ 2000) (hs0 : s0.size ≤ 2000) (hs1 : s1.size ≤ 2000) (a : ByteArray) (b : Bool) (hr : textV (graftT t0 t1 t) = .tuple #[.string a, .bool b]) (hlen : (text (graftT t0 t1 t)).length ≤ 8000000) (w : World) :
    Calls Tryz.prog 54 #[.string s, .string s0, .string s1] w fun e w' => e = .returned (.tuple #[.string a, .bool b]) ∧ Below w.heap.size w w' := by
  have HT := Lib.hid (tree_yes s t hw h hs)
  have HT0 := Lib.hid (tree_yes s0 t0 hw0 h0 hs0)
  have HT1 := Lib.hid (tree_yes s1 t1 hw1 h1 hs1)
  have hX : ∀ W : World, Calls Tryz.prog 29 #[tree (graftT t0 t1 t)] W fun e w' => e = .returned (.tuple #[.string a, .bool b]) ∧ Below W.heap.size W w' := fun W => by
    have h2 := text_of (graftT t0 t1 t) (graft_wf t0 t1 hw0 hw1 t hw) hlen W
    rw [hr] at h2
    exact h2
  have HX := Lib.hid hX
  have hC := graft_to t0 t1 t
  unfold Go.Proofs.YtffilggpimdikaaGreatDoor.Graft.GraftC at hC
  generalize tree (graftT t0 t1 t) = tr at *
  obtain ⟨y0, v0, e0⟩ := tree_iface t0
  obtain ⟨y1, v1, e1⟩ := tree_iface t1
  rw [e0] at HT0 hC
  rw [e1] at HT1 hC
  clear e0 e1 h h0 h1 hw hw0 hw1 hX hr hlen hs hs0 hs1
  rcases hC with ⟨V, ev, hv⟩ | ⟨V, ev, hv⟩
  all_goals
    have HC := Lib.hid hv
    rw [ev] at HT
    clear ev hv
    go_enter Tryz.func54, Tryz.ntmps54
    go_wp2_with fail
    refine (HT.out _).mono ?_
    rintro e w1 ⟨rfl, hb1⟩
    go_wp2_with fail
    refine (HT0.out _).mono ?_
    rintro e w2 ⟨rfl, hb2⟩
    go_wp2_with fail
    refine (HT1.out _).mono ?_
    rintro e w3 ⟨rfl, hb3⟩
    have h12 := hb1.trans (hb2.mono hb1.size)
    have HB := Lib.hid (h12.trans (hb3.mono h12.size))
    clear hb1 hb2 hb3 h12
    go_wp2_with fail
    refine (HC.out _).mono ?_
    rintro e w4 ⟨rfl, hb4⟩
    have HB4 := Lib.hid (Below.trans (HB.out.alloc HB.out.size _) (hb4.mono (Nat.le_trans HB.out.size (by simp))))
    clear hb4 HB
    go_wp2_with fail
    refine (HX.out _).mono ?_
    rintro e w5 ⟨rfl, hb5⟩
    have HB5 := Lib.hid (HB4.out.trans (hb5.mono HB4.out.size))
    clear hb5 HB4
    go_wp2_with fail
    go_returns
    exact ⟨rfl, HB5.out⟩

set_option maxHeartbeats 4000000 in
set_option maxRecDepth 100000 in
theorem impl_no (s s0 s1 : ByteArray) (hs : s.size ≤ 1048576) (hs0 : s0.size ≤ 1048576) (hs1 : s1.size ≤ 1048576) (hno : ¬ Ok s ∨ ¬ Ok s0 ∨ ¬ Ok s1) (w : World) :
    Calls Tryz.prog 54 #[.string s, .string s0, .string s1] w fun e w' => e = .returned (.tuple #[.string (str []), .bool false]) ∧ Below w.heap.size w w' := by
  rcases tree_any s hs with ⟨t, ty, v, a1, a2, a3, a4, hT⟩ | ⟨n, hT⟩ <;> rcases tree_any s0 hs0 with ⟨t0, ty0, v0, b1, b2, b3, b4, hT0⟩ | ⟨n0, hT0⟩ <;> rcases tree_any s1 hs1 with ⟨t1, ty1, v1, c1, c2, c3, c4, hT1⟩ | ⟨n1, hT1⟩
  · exfalso
    rcases hno with h | h | h
    · exact h ⟨a3, t, a1, a2⟩
    · exact h ⟨b3, t0, b1, b2⟩
    · exact h ⟨c3, t1, c1, c2⟩
  all_goals
    have HT := Lib.hid hT
    have HT0 := Lib.hid hT0
    have HT1 := Lib.hid hT1
    clear hT hT0 hT1 hno hs hs0 hs1
    go_enter Tryz.func54, Tryz.ntmps54
    go_wp2_with fail
    refine (HT.out _).mono ?_
    rintro e w1 ⟨rfl, hb1⟩
    go_wp2_with fail
    refine (HT0.out _).mono ?_
    rintro e w2 ⟨rfl, hb2⟩
    go_wp2_with fail
    refine (HT1.out _).mono ?_
    rintro e w3 ⟨rfl, hb3⟩
    have h12 := hb1.trans (hb2.mono hb1.size)
    have HB := Lib.hid (h12.trans (hb3.mono h12.size))
    clear hb1 hb2 hb3 h12
    go_wp2_with fail
    go_returns
    exact ⟨rfl, HB.out.alloc HB.out.size _⟩
end Go.Proofs.YtffilggpimdikaaGreatDoor.GraftP

/-
  The walk of the law on NotProtocol.
-/
namespace Go.Proofs.YtffilggpimdikaaGreatDoor.fnExactNotProtocol
open Go.RowKit Go.Shelf Go.Proofs.YtffilggpimdikaaGreatDoor.Plain Go.Proofs.YtffilggpimdikaaGreatDoor.Tree Go.Proofs.YtffilggpimdikaaGreatDoor.Read Go.Proofs.YtffilggpimdikaaGreatDoor.TreeOf Go.Proofs.YtffilggpimdikaaGreatDoor.Parts Go.Proofs.YtffilggpimdikaaGreatDoor.SaidTG Go.Proofs.YtffilggpimdikaaGreatDoor.TextOf
set_option linter.unusedVariables false
set_option linter.unusedSimpArgs false

theorem one_ok (b : Bool) : wf (.leaf b) ∧ (valS b).data.toList = text (.leaf b) ∧ (valS b).size ≤ 2000 := ⟨trivial, rfl, by show 1 ≤ 2000; decide⟩
theorem not_length (t : T) : (text (graftT (.leaf true) (.leaf false) t)).length = (text t).length := by
  have := graft_length (.leaf true) (.leaf false) t
  simp [text] at this
  exact this
set_option maxHeartbeats 2000000 in
theorem spec_yes (s : ByteArray) (t : T) (hw : wf t) (h : s.data.toList = text t) (hs : s.size ≤ 2000) (w : World) :
    Calls Tryz.prog 23 #[.string s] w fun e w' => e = .returned (.tuple #[.string (str (text (graftT (.leaf true) (.leaf false) t))), .bool true]) ∧ Below w.heap.size w w' := by
  have HV := Lib.hid (valid_said s t hw h hs)
  have hl : (text t).length = s.size := by rw [← h]; simp
  have HL : Hid (∀ w : World, Calls Tryz.prog 55 #[.string (str (text t)), .string ⟨#[49]⟩, .string ⟨#[48]⟩] w fun e w' => e = .returned (.string (str (text (graftT (.leaf true) (.leaf false) t)))) ∧ Below w.heap.size w w') := said_graft (.leaf true) (.leaf false) t hw (by omega) (by show 1 ≤ 2000; decide) (by show 1 ≤ 2000; decide)
  have e : s = str (text t) := eq_str h
  rw [← e] at HL
  generalize str (text (graftT (.leaf true) (.leaf false) t)) = q at *
  clear h e hl hw
  go_enter Tryz.func23, Tryz.ntmps23
  go_wp2_with fail
  refine (HV.out _).mono ?_
  rintro e w1 ⟨rfl, rfl⟩
  go_wp2_with fail
  refine (HL.out _).mono ?_
  rintro e w2 ⟨rfl, hb⟩
  have HB := Lib.hid hb
  clear hb
  go_wp2_with fail
  go_returns
  exact ⟨rfl, HB.out⟩
set_option maxHeartbeats 1000000 in
theorem spec_no (s : ByteArray) (h : ¬ Ok s) (hs : s.size ≤ 1048576) (w : World) :
    Calls Tryz.prog 23 #[.string s] w fun e w' => e = .returned (.tuple #[.string (str []), .bool false]) ∧ Below w.heap.size w w' := by
  have HV := Lib.hid (valid_no s h hs)
  clear h
  go_enter Tryz.func23, Tryz.ntmps23
  go_wp2_with fail
  refine (HV.out _).mono ?_
  rintro e w1 ⟨rfl, rfl⟩
  go_wp2_with fail
  go_returns
  exact ⟨rfl, Below.refl _ _⟩
set_option maxHeartbeats 1000000 in
theorem impl_of (s q : ByteArray) (b : Bool) (hG : ∀ W : World, Calls Tryz.prog 54 #[.string s, .string ⟨#[49]⟩, .string ⟨#[48]⟩] W fun e w' => e = .returned (.tuple #[.string q, .bool b]) ∧ Below W.heap.size W w') (w : World) :
    Calls Tryz.prog 22 #[.string s] w fun e w' => e = .returned (.tuple #[.string q, .bool b]) ∧ Below w.heap.size w w' := by
  have HG := Lib.hid hG
  clear hG
  go_enter Tryz.func22, Tryz.ntmps22
  go_wp2_with fail
  refine (HG.out _).mono ?_
  rintro e w1 ⟨rfl, hb⟩
  have HB := Lib.hid hb
  clear hb
  go_wp2_with fail
  go_returns
  exact ⟨rfl, HB.out⟩
theorem both (s : ByteArray) (hs : s.size ≤ 1048576) : ∃ (q : ByteArray) (b : Bool), (∀ w, Calls Tryz.prog 23 #[.string s] w fun e w' => e = .returned (.tuple #[.string q, .bool b]) ∧ Below w.heap.size w w') ∧
    (∀ w, Calls Tryz.prog 22 #[.string s] w fun e w' => e = .returned (.tuple #[.string q, .bool b]) ∧ Below w.heap.size w w') := by
  obtain ⟨x1, x2, x3⟩ := one_ok true
  obtain ⟨y1, y2, y3⟩ := one_ok false
  rcases ok_or s with ⟨t, h1, h2, h3⟩ | h
  · have hl : (text t).length = s.size := by rw [← h2]; simp
    have hn := not_length t
    refine ⟨_, true, spec_yes s t h1 h2 h3, impl_of s _ true fun W => ?_⟩
    exact Go.Proofs.YtffilggpimdikaaGreatDoor.GraftP.impl_yes s (valS true) (valS false) t (.leaf true) (.leaf false) h1 x1 y1 h2 x2 y2 h3 x3 y3 _ true (by unfold textV; rw [if_pos (by omega)]) (by omega) W
  · exact ⟨_, false, spec_no s h hs, impl_of s _ false fun W => Go.Proofs.YtffilggpimdikaaGreatDoor.GraftP.impl_no s (valS true) (valS false) hs (by omega) (by omega) (.inl h) W⟩

end Go.Proofs.YtffilggpimdikaaGreatDoor.fnExactNotProtocol

/-
  The walk of the law on TurnMatrix.
-/
namespace Go.Proofs.YtffilggpimdikaaGreatDoor.fnExactTurnMatrix
open Go.RowKit Go.Proofs.YtffilggpimdikaaGreatDoor.Plain Go.Proofs.YtffilggpimdikaaGreatDoor.Base Go.Proofs.YtffilggpimdikaaGreatDoor.Valid Go.Proofs.YtffilggpimdikaaGreatDoor.Law Go.Proofs.YtffilggpimdikaaGreatDoor.GridPlain Go.Proofs.YtffilggpimdikaaGreatDoor.Grid Go.Proofs.YtffilggpimdikaaGreatDoor.Entry Go.Proofs.YtffilggpimdikaaGreatDoor.Clos Go.Proofs.YtffilggpimdikaaGreatDoor.SpecTO
set_option linter.unusedVariables false

theorem three_at {w1 w2 : World} {a b c : Value} {T : TypeId} (hb : Below (w1.alloc (.cells #[a, b, c] T)).heap.size (w1.alloc (.cells #[a, b, c] T)) w2) :
    w1.heap.size < w2.heap.size ∧ w2.cell? ⟨w1.heap.size, 0, none⟩ = some a ∧ w2.cell? ⟨w1.heap.size, 1, none⟩ = some b ∧ w2.cell? ⟨w1.heap.size, 2, none⟩ = some c := by
  obtain ⟨h0, h1, h2⟩ := three_of hb
  exact ⟨by have := hb.size; simp at this; omega, h0, h1, h2⟩

end Go.Proofs.YtffilggpimdikaaGreatDoor.fnExactTurnMatrix

