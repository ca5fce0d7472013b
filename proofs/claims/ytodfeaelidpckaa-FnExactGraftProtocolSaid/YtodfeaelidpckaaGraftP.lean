/-
  GraftProtocol, of the reference and of the program.
-/
import Derived.Test.YtodfeaelidpckaaSaidTG
import Derived.Test.YtodfeaelidpckaaTextOf
import Derived.Test.YtodfeaelidpckaaGraft
namespace Go.Proofs.Ytodfeaelidpckaa.GraftP
open Go.RowKit Go.Shelf Go.Proofs.Ytodfeaelidpckaa.Plain Go.Proofs.Ytodfeaelidpckaa.Tree Go.Proofs.Ytodfeaelidpckaa.Read Go.Proofs.Ytodfeaelidpckaa.TreeOf Go.Proofs.Ytodfeaelidpckaa.Parts Go.Proofs.Ytodfeaelidpckaa.SaidTG Go.Proofs.Ytodfeaelidpckaa.TextOf
open Go.Proofs.Ytodfeaelidpckaa.Graft (graft_to)
set_option linter.unusedVariables false
set_option linter.unusedSimpArgs false

/-- what both answer about texts that are protocols -/
theorem tree_any (s : ByteArray) (hs : s.size ≤ 1048576) : (∃ t ty v, wf t ∧ s.data.toList = text t ∧ s.size ≤ 2000 ∧ tree t = .iface ty v ∧ ∀ W : World, Calls Try.prog 35 #[.string s] W fun e w' => e = .returned (.iface ty v) ∧ Below W.heap.size W w') ∨
    (¬ Ok s ∧ ∀ W : World, Calls Try.prog 35 #[.string s] W fun e w' => e = .returned .nilIface ∧ Below W.heap.size W w') := by
  rcases ok_or s with ⟨t, h1, h2, h3⟩ | h
  · obtain ⟨ty, v, e⟩ := tree_iface t
    refine .inl ⟨t, ty, v, h1, h2, h3, e, fun W => ?_⟩
    have := tree_yes s t h1 h2 h3 W
    rw [e] at this
    exact this
  · exact .inr ⟨h, fun W => tree_no s h hs W⟩

set_option maxHeartbeats 4000000 in
set_option maxRecDepth 100000 in
theorem impl_yes (s s0 s1 : ByteArray) (t t0 t1 : T) (hw : wf t) (hw0 : wf t0) (hw1 : wf t1) (h : s.data.toList = text t) (h0 : s0.data.toList = text t0) (h1 : s1.data.toList = text t1)
    (hs : s.size ≤ 2000) (hs0 : s0.size ≤ 2000) (hs1 : s1.size ≤ 2000) (a : ByteArray) (b : Bool) (hr : textV (graftT t0 t1 t) = .tuple #[.string a, .bool b]) (hlen : (text (graftT t0 t1 t)).length ≤ 8000000) (w : World) :
    Calls Try.prog 23 #[.string s, .string s0, .string s1] w fun e w' => e = .returned (.tuple #[.string a, .bool b]) ∧ Below w.heap.size w w' := by
  have HT := Lib.hid (tree_yes s t hw h hs)
  have HT0 := Lib.hid (tree_yes s0 t0 hw0 h0 hs0)
  have HT1 := Lib.hid (tree_yes s1 t1 hw1 h1 hs1)
  have hX : ∀ W : World, Calls Try.prog 39 #[tree (graftT t0 t1 t)] W fun e w' => e = .returned (.tuple #[.string a, .bool b]) ∧ Below W.heap.size W w' := fun W => by
    have h2 := text_of (graftT t0 t1 t) (graft_wf t0 t1 hw0 hw1 t hw) hlen W
    rw [hr] at h2
    exact h2
  have HX := Lib.hid hX
  have hC := graft_to t0 t1 t
  unfold Go.Proofs.Ytodfeaelidpckaa.Graft.GraftC at hC
  generalize tree (graftT t0 t1 t) = tr at *
  obtain ⟨y0, v0, e0⟩ := tree_iface t0
  obtain ⟨y1, v1, e1⟩ := tree_iface t1
  rw [e0] at HT0 hC
  rw [e1] at HT1 hC
  clear e0 e1 h h0 h1 hw hw0 hw1 hX hr hlen hs hs0 hs1
  rcases hC with ⟨V, ev, hv⟩ | ⟨V, ev, hv⟩
  all_goals
    have HC := Lib.hid hv
    rw [ev] at HT
    clear ev hv
    go_enter Try.func23, Try.ntmps23
    go_wp2_with fail
    refine (HT.out _).mono ?_
    rintro e w1 ⟨rfl, hb1⟩
    go_wp2_with fail
    refine (HT0.out _).mono ?_
    rintro e w2 ⟨rfl, hb2⟩
    go_wp2_with fail
    refine (HT1.out _).mono ?_
    rintro e w3 ⟨rfl, hb3⟩
    have h12 := hb1.trans (hb2.mono hb1.size)
    have HB := Lib.hid (h12.trans (hb3.mono h12.size))
    clear hb1 hb2 hb3 h12
    go_wp2_with fail
    refine (HC.out _).mono ?_
    rintro e w4 ⟨rfl, hb4⟩
    have HB4 := Lib.hid (Below.trans (HB.out.alloc HB.out.size _) (hb4.mono (Nat.le_trans HB.out.size (by simp))))
    clear hb4 HB
    go_wp2_with fail
    refine (HX.out _).mono ?_
    rintro e w5 ⟨rfl, hb5⟩
    have HB5 := Lib.hid (HB4.out.trans (hb5.mono HB4.out.size))
    clear hb5 HB4
    go_wp2_with fail
    go_returns
    exact ⟨rfl, HB5.out⟩

set_option maxHeartbeats 4000000 in
set_option maxRecDepth 100000 in
theorem impl_no (s s0 s1 : ByteArray) (hs : s.size ≤ 1048576) (hs0 : s0.size ≤ 1048576) (hs1 : s1.size ≤ 1048576) (hno : ¬ Ok s ∨ ¬ Ok s0 ∨ ¬ Ok s1) (w : World) :
    Calls Try.prog 23 #[.string s, .string s0, .string s1] w fun e w' => e = .returned (.tuple #[.string (str []), .bool false]) ∧ Below w.heap.size w w' := by
  rcases tree_any s hs with ⟨t, ty, v, a1, a2, a3, a4, hT⟩ | ⟨n, hT⟩ <;> rcases tree_any s0 hs0 with ⟨t0, ty0, v0, b1, b2, b3, b4, hT0⟩ | ⟨n0, hT0⟩ <;> rcases tree_any s1 hs1 with ⟨t1, ty1, v1, c1, c2, c3, c4, hT1⟩ | ⟨n1, hT1⟩
  · exfalso
    rcases hno with h | h | h
    · exact h ⟨a3, t, a1, a2⟩
    · exact h ⟨b3, t0, b1, b2⟩
    · exact h ⟨c3, t1, c1, c2⟩
  all_goals
    have HT := Lib.hid hT
    have HT0 := Lib.hid hT0
    have HT1 := Lib.hid hT1
    clear hT hT0 hT1 hno hs hs0 hs1
    go_enter Try.func23, Try.ntmps23
    go_wp2_with fail
    refine (HT.out _).mono ?_
    rintro e w1 ⟨rfl, hb1⟩
    go_wp2_with fail
    refine (HT0.out _).mono ?_
    rintro e w2 ⟨rfl, hb2⟩
    go_wp2_with fail
    refine (HT1.out _).mono ?_
    rintro e w3 ⟨rfl, hb3⟩
    have h12 := hb1.trans (hb2.mono hb1.size)
    have HB := Lib.hid (h12.trans (hb3.mono h12.size))
    clear hb1 hb2 hb3 h12
    go_wp2_with fail
    go_returns
    exact ⟨rfl, HB.out.alloc HB.out.size _⟩
end Go.Proofs.Ytodfeaelidpckaa.GraftP
