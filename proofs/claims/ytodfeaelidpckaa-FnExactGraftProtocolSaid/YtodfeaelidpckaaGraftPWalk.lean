/-
  The walk of the law on GraftProtocol.
-/
import Derived.Test.YtodfeaelidpckaaSaidTG
import Derived.Test.YtodfeaelidpckaaTextOf
import Derived.Test.YtodfeaelidpckaaGraftP
namespace Go.Proofs.Ytodfeaelidpckaa.fnExactGraftProtocol
open Go.RowKit Go.Shelf Go.Proofs.Ytodfeaelidpckaa.Plain Go.Proofs.Ytodfeaelidpckaa.Tree Go.Proofs.Ytodfeaelidpckaa.Read Go.Proofs.Ytodfeaelidpckaa.TreeOf Go.Proofs.Ytodfeaelidpckaa.Parts Go.Proofs.Ytodfeaelidpckaa.SaidTG Go.Proofs.Ytodfeaelidpckaa.TextOf
open Go.Proofs.Ytodfeaelidpckaa.GraftP (impl_yes impl_no)
set_option linter.unusedVariables false
set_option linter.unusedSimpArgs false

theorem graft_size (t t0 t1 : T) (h : (text t).length ≤ 2000) (h0 : (text t0).length ≤ 2000) (h1 : (text t1).length ≤ 2000) : (text (graftT t0 t1 t)).length ≤ 4010000 := by
  have := graft_length t0 t1 t
  have := ends_sum t
  have := ends_le t
  have i1 : endsOf false t * ((text t0).length - 1) ≤ endsOf false t * 2000 := Nat.mul_le_mul_left _ (by omega)
  have i2 : endsOf true t * ((text t1).length - 1) ≤ endsOf true t * 2000 := Nat.mul_le_mul_left _ (by omega)
  omega
theorem wrap_mul (a n : Nat) (P : Nat) (hn : 1 ≤ n) (h : a * (n - 1) = P) (hP : P ≤ 8000000) : IntKind.i64.wrap ((a : Int) * ((n : Int) - 1)) = (P : Int) := by
  have e : (a : Int) * ((n : Int) - 1) = (P : Int) := by
    rw [← h]
    obtain ⟨m, rfl⟩ : ∃ m, n = m + 1 := ⟨n - 1, by omega⟩
    simp
  rw [e]
  simp only [IntKind.wrap_i64]
  omega

set_option maxHeartbeats 4000000 in
set_option maxRecDepth 100000 in
theorem spec_yes (s s0 s1 : ByteArray) (t t0 t1 : T) (hw : wf t) (hw0 : wf t0) (hw1 : wf t1) (h : s.data.toList = text t) (h0 : s0.data.toList = text t0) (h1 : s1.data.toList = text t1)
    (hs : s.size ≤ 2000) (hs0 : s0.size ≤ 2000) (hs1 : s1.size ≤ 2000) (w : World) :
    Calls Try.prog 22 #[.string s, .string s0, .string s1] w fun e w' => e = .returned (textV (graftT t0 t1 t)) ∧ Below w.heap.size w w' := by
  have HV := Lib.hid (valid_said s t hw h hs)
  have HV0 := Lib.hid (valid_said s0 t0 hw0 h0 hs0)
  have HV1 := Lib.hid (valid_said s1 t1 hw1 h1 hs1)
  have hl : (text t).length = s.size := by rw [← h]; simp
  have hl0 : (text t0).length = s0.size := by rw [← h0]; simp
  have hl1 : (text t1).length = s1.size := by rw [← h1]; simp
  have HA := Lib.hid (said_endsOf false t hw (by omega))
  have HB := Lib.hid (said_endsOf true t hw (by omega))
  have HG := Lib.hid (said_graft t0 t1 t hw (by omega) (by omega) (by omega))
  have e : s = str (text t) := eq_str h
  have e0 : s0 = str (text t0) := eq_str h0
  have e1 : s1 = str (text t1) := eq_str h1
  rw [← e] at HA HB HG
  rw [← e0, ← e1] at HG
  have hgl := graft_length t0 t1 t
  have hgs := graft_size t t0 t1 (by omega) (by omega) (by omega)
  have hsum := ends_sum t
  have hle := ends_le t
  have p0 := text_pos t0
  have p1 := text_pos t1
  rw [hl, hl0, hl1] at hgl
  obtain ⟨P1, hP1⟩ : ∃ P, endsOf false t * (s0.size - 1) = P := ⟨_, rfl⟩
  obtain ⟨P2, hP2⟩ : ∃ P, endsOf true t * (s1.size - 1) = P := ⟨_, rfl⟩
  rw [hP1, hP2] at hgl
  have b1 : P1 ≤ 4010000 := by omega
  have b2 : P2 ≤ 4010000 := by omega
  have m1 := wrap_mul (endsOf false t) s0.size P1 (by omega) hP1 (by omega)
  have m2 := wrap_mul (endsOf true t) s1.size P2 (by omega) hP2 (by omega)
  have na : endsOf false t ≤ 2000 := by omega
  have nb : endsOf true t ≤ 2000 := by omega
  have k0 : 1 ≤ s0.size := by omega
  have k1 : 1 ≤ s1.size := by omega
  unfold textV
  replace HA : Hid (∀ w : World, Calls Try.prog 42 #[.string s, .string ⟨#[48]⟩] w fun e w' => e = .returned (.int .i64 (endsOf false t : Int)) ∧ Below w.heap.size w w') := HA
  replace HB : Hid (∀ w : World, Calls Try.prog 42 #[.string s, .string ⟨#[49]⟩] w fun e w' => e = .returned (.int .i64 (endsOf true t : Int)) ∧ Below w.heap.size w w') := HB
  generalize endsOf false t = na1 at *
  generalize endsOf true t = nb1 at *
  generalize (text (graftT t0 t1 t)).length = G at *
  generalize str (text (graftT t0 t1 t)) = g at *
  clear h h0 h1 e e0 e1 hl hl0 hl1 hw hw0 hw1 hP1 hP2 hsum hle p0 p1
  by_cases hG : G ≤ 2000
  · rw [if_pos hG]
    have q : s.size + P1 + P2 ≤ 2000 := by omega
    clear hgl hG hgs
    go_enter Try.func22, Try.ntmps22
    go_wp2_with fail
    refine (HV.out _).mono ?_
    rintro e w1 ⟨rfl, rfl⟩
    go_wp2_with fail
    refine (HV0.out _).mono ?_
    rintro e w1 ⟨rfl, rfl⟩
    go_wp2_with fail
    refine (HV1.out _).mono ?_
    rintro e w1 ⟨rfl, rfl⟩
    go_wp2_with fail
    refine (HA.out _).mono ?_
    rintro e w1 ⟨rfl, hb1⟩
    go_wp2_with fail
    refine (HB.out _).mono ?_
    rintro e w2 ⟨rfl, hb2⟩
    have h12 := Lib.hid (hb1.trans (hb2.mono hb1.size))
    clear hb1 hb2
    go_wp2_with fail
    refine (HG.out _).mono ?_
    rintro e w3 ⟨rfl, hb3⟩
    have HB3 := Lib.hid (h12.out.trans (hb3.mono h12.out.size))
    clear hb3 h12
    go_wp2_with fail
    go_returns
    exact ⟨rfl, HB3.out⟩
  · rw [if_neg hG]
    have q : 2000 < s.size + P1 + P2 := by omega
    clear hgl hG hgs
    go_enter Try.func22, Try.ntmps22
    go_wp2_with fail
    refine (HV.out _).mono ?_
    rintro e w1 ⟨rfl, rfl⟩
    go_wp2_with fail
    refine (HV0.out _).mono ?_
    rintro e w1 ⟨rfl, rfl⟩
    go_wp2_with fail
    refine (HV1.out _).mono ?_
    rintro e w1 ⟨rfl, rfl⟩
    go_wp2_with fail
    refine (HA.out _).mono ?_
    rintro e w1 ⟨rfl, hb1⟩
    go_wp2_with fail
    refine (HB.out _).mono ?_
    rintro e w2 ⟨rfl, hb2⟩
    have h12 := Lib.hid (hb1.trans (hb2.mono hb1.size))
    clear hb1 hb2
    go_wp2_with fail
    go_returns
    exact ⟨rfl, h12.out⟩

theorem valid_any (s : ByteArray) (hs : s.size ≤ 1048576) : (Ok s ∧ ∀ W : World, Calls Try.prog 12 #[.string s] W fun e w' => e = .returned (.bool true) ∧ W = w') ∨
    (¬ Ok s ∧ ∀ W : World, Calls Try.prog 12 #[.string s] W fun e w' => e = .returned (.bool false) ∧ W = w') := by
  rcases ok_or s with ⟨t, h1, h2, h3⟩ | h
  · exact .inl ⟨⟨h3, t, h1, h2⟩, fun W => valid_said s t h1 h2 h3 W⟩
  · exact .inr ⟨h, fun W => valid_no s h hs W⟩
set_option maxHeartbeats 2000000 in
theorem spec_no (s s0 s1 : ByteArray) (hs : s.size ≤ 1048576) (hs0 : s0.size ≤ 1048576) (hs1 : s1.size ≤ 1048576) (hno : ¬ Ok s ∨ ¬ Ok s0 ∨ ¬ Ok s1) (w : World) :
    Calls Try.prog 22 #[.string s, .string s0, .string s1] w fun e w' => e = .returned (.tuple #[.string (str []), .bool false]) ∧ Below w.heap.size w w' := by
  rcases valid_any s hs with ⟨a, hV⟩ | ⟨a, hV⟩
  · rcases valid_any s0 hs0 with ⟨a0, hV0⟩ | ⟨a0, hV0⟩
    · rcases valid_any s1 hs1 with ⟨a1, hV1⟩ | ⟨a1, hV1⟩
      · exfalso
        rcases hno with h | h | h
        · exact h a
        · exact h a0
        · exact h a1
      · have HV := Lib.hid hV
        have HV0 := Lib.hid hV0
        have HV1 := Lib.hid hV1
        clear hV hV0 hV1 hno a a0 a1
        go_enter Try.func22, Try.ntmps22
        go_wp2_with fail
        refine (HV.out _).mono ?_
        rintro e w1 ⟨rfl, rfl⟩
        go_wp2_with fail
        refine (HV0.out _).mono ?_
        rintro e w1 ⟨rfl, rfl⟩
        go_wp2_with fail
        refine (HV1.out _).mono ?_
        rintro e w1 ⟨rfl, rfl⟩
        go_wp2_with fail
        go_returns
        exact ⟨rfl, Below.refl _ _⟩
    · have HV := Lib.hid hV
      have HV0 := Lib.hid hV0
      clear hV hV0 hno a a0
      go_enter Try.func22, Try.ntmps22
      go_wp2_with fail
      refine (HV.out _).mono ?_
      rintro e w1 ⟨rfl, rfl⟩
      go_wp2_with fail
      refine (HV0.out _).mono ?_
      rintro e w1 ⟨rfl, rfl⟩
      go_wp2_with fail
      go_returns
      exact ⟨rfl, Below.refl _ _⟩
  · have HV := Lib.hid hV
    clear hV hno a
    go_enter Try.func22, Try.ntmps22
    go_wp2_with fail
    refine (HV.out _).mono ?_
    rintro e w1 ⟨rfl, rfl⟩
    go_wp2_with fail
    go_returns
    exact ⟨rfl, Below.refl _ _⟩

theorem both (s s0 s1 : ByteArray) (hs : s.size ≤ 1048576) (hs0 : s0.size ≤ 1048576) (hs1 : s1.size ≤ 1048576) : ∃ (q : ByteArray) (b : Bool), (∀ w, Calls Try.prog 22 #[.string s, .string s0, .string s1] w fun e w' => e = .returned (.tuple #[.string q, .bool b]) ∧ Below w.heap.size w w') ∧
    (∀ w, Calls Try.prog 23 #[.string s, .string s0, .string s1] w fun e w' => e = .returned (.tuple #[.string q, .bool b]) ∧ Below w.heap.size w w') := by
  by_cases hno : ¬ Ok s ∨ ¬ Ok s0 ∨ ¬ Ok s1
  · exact ⟨_, false, spec_no s s0 s1 hs hs0 hs1 hno, impl_no s s0 s1 hs hs0 hs1 hno⟩
  · rcases ok_or s with ⟨t, a1, a2, a3⟩ | h
    · rcases ok_or s0 with ⟨t0, b1, b2, b3⟩ | h
      · rcases ok_or s1 with ⟨t1, c1, c2, c3⟩ | h
        · have hl : (text t).length = s.size := by rw [← a2]; simp
          have hl0 : (text t0).length = s0.size := by rw [← b2]; simp
          have hl1 : (text t1).length = s1.size := by rw [← c2]; simp
          have hg := graft_size t t0 t1 (by omega) (by omega) (by omega)
          obtain ⟨q, b, hq⟩ : ∃ (q : ByteArray) (b : Bool), textV (graftT t0 t1 t) = .tuple #[.string q, .bool b] := by
            unfold textV
            split
            · exact ⟨_, _, rfl⟩
            · exact ⟨_, _, rfl⟩
          refine ⟨q, b, fun w => ?_, impl_yes s s0 s1 t t0 t1 a1 b1 c1 a2 b2 c2 a3 b3 c3 q b hq (by omega)⟩
          have h2 := spec_yes s s0 s1 t t0 t1 a1 b1 c1 a2 b2 c2 a3 b3 c3 w
          rw [hq] at h2
          exact h2
        · exact absurd (.inr (.inr h)) hno
      · exact absurd (.inr (.inl h)) hno
    · exact absurd (.inl h) hno

set_option maxHeartbeats 1000000 in
theorem walk (s : ByteArray) (hs : s.size ≤ maxLen) (s0 : ByteArray) (hs0 : s0.size ≤ maxLen) (s1 : ByteArray) (hs1 : s1.size ≤ maxLen) (w : World) :
    Calls Try.prog 8 #[.string s, .string s0, .string s1] w fun e w' => e = .returned (.bool true) ∧ Below w.heap.size w w' := by
  unfold maxLen at hs
  unfold maxLen at hs0
  unfold maxLen at hs1
  by_cases bigs : 1048576 < s.size
  · go_enter Try.func8, Try.ntmps8
    go_wp2_with fail
    go_ret
    exact ⟨rfl, Below.refl _ _⟩
  replace bigs : s.size ≤ 1048576 := by omega
  by_cases bigs0 : 1048576 < s0.size
  · go_enter Try.func8, Try.ntmps8
    go_wp2_with fail
    go_ret
    exact ⟨rfl, Below.refl _ _⟩
  replace bigs0 : s0.size ≤ 1048576 := by omega
  by_cases bigs1 : 1048576 < s1.size
  · go_enter Try.func8, Try.ntmps8
    go_wp2_with fail
    go_ret
    exact ⟨rfl, Below.refl _ _⟩
  replace bigs1 : s1.size ≤ 1048576 := by omega
  obtain ⟨q, b, hS, hI⟩ := both s s0 s1 bigs bigs0 bigs1
  have HS := Lib.hid hS
  have HI := Lib.hid hI
  clear hS hI
  cases b
  all_goals
    go_enter Try.func8, Try.ntmps8
    go_wp2_with fail
    refine (HS.out _).mono ?_
    rintro e w1 ⟨rfl, hb1⟩
    go_wp2_with fail
    refine (HI.out _).mono ?_
    rintro e w2 ⟨rfl, hb2⟩
    have HB := Lib.hid (hb1.trans (hb2.mono hb1.size))
    clear hb1 hb2
    go_wp2_with fail
    go_ret
    exact ⟨rfl, HB.out⟩
end Go.Proofs.Ytodfeaelidpckaa.fnExactGraftProtocol
