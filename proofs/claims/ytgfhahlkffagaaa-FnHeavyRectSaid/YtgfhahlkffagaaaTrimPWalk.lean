/-
  The walk of the law on TrimProtocol.
-/
import Derived.Test.YtgfhahlkffagaaaTreeIn
import Derived.Test.YtgfhahlkffagaaaSaidTrim
import Derived.Test.YtgfhahlkffagaaaTrimI
import Derived.Test.YtgfhahlkffagaaaTextOf
namespace Go.Proofs.Ytgfhahlkffagaaa.fnExactTrimProtocol
open Go.RowKit Go.Shelf Go.Proofs.Ytgfhahlkffagaaa.Plain Go.Proofs.Ytgfhahlkffagaaa.Tree Go.Proofs.Ytgfhahlkffagaaa.Read Go.Proofs.Ytgfhahlkffagaaa.Rect Go.Proofs.Ytgfhahlkffagaaa.TreeOf Go.Proofs.Ytgfhahlkffagaaa.TreeIn Go.Proofs.Ytgfhahlkffagaaa.TrimT Go.Proofs.Ytgfhahlkffagaaa.SaidTrim Go.Proofs.Ytgfhahlkffagaaa.TextOf
open Go.Proofs.Ytgfhahlkffagaaa.TrimI (trim_to)
open Go.Proofs.Ytgfhahlkffagaaa.Split (cells2)
set_option linter.unusedVariables false
set_option linter.unusedSimpArgs false

set_option maxHeartbeats 2000000 in
theorem spec_yes (s : ByteArray) (t : T) (hw : wf t) (h : s.data.toList = text t) (hs : s.size ≤ 2000) (r c : Nat) (hr : 1 ≤ r ∧ r ≤ 8) (hc : 1 ≤ c ∧ c ≤ 8) (w : World) :
    Calls Try.prog 22 #[.string s, .int .i64 (r : Int), .int .i64 (c : Int)] w fun e w' => e = .returned (.tuple #[.string (str (text (trimT t (allN r) (allN c)))), .bool true]) ∧ Below w.heap.size w w' := by
  have HV := Lib.hid (valid_said s t hw h hs)
  have HSd := Lib.hid (sides_yes (r : Int) (c : Int) ⟨by omega, by omega⟩)
  have HWh := Lib.hid (whole_said r c hr hc)
  obtain ⟨_, p2, p3⟩ := pow_facts r hr
  obtain ⟨_, q2, q3⟩ := pow_facts c hc
  have hl : (text t).length = s.size := by rw [← h]; simp
  have HL := Lib.hid (fun W => said_trim t hw (by omega) (allN r) (allN c) W p3 q3 p2 q2)
  have e : s = str (text t) := eq_str h
  rw [← e] at HL
  generalize str (text (trimT t (allN r) (allN c))) = q at *
  clear h e hl hw p2 p3 q2 q3
  go_enter Try.func22, Try.ntmps22
  go_wp2_with fail
  refine (HV.out _).mono ?_
  rintro e w1 ⟨rfl, rfl⟩
  go_wp2_with fail
  refine (HSd.out _).mono ?_
  rintro e w1 ⟨rfl, rfl⟩
  go_wp2_with fail
  refine (HWh.out _).mono ?_
  rintro e w2 ⟨rfl, hb2⟩
  go_wp2_with fail
  refine (HL.out _).mono ?_
  rintro e w3 ⟨rfl, hb3⟩
  have HB := Lib.hid (hb2.trans (hb3.mono hb2.size))
  clear hb2 hb3
  go_wp2_with fail
  go_returns
  exact ⟨rfl, HB.out⟩
set_option maxHeartbeats 1000000 in
theorem spec_no (s : ByteArray) (h : ¬ Ok s) (hs : s.size ≤ 1048576) (r c : Int) (w : World) :
    Calls Try.prog 22 #[.string s, .int .i64 r, .int .i64 c] w fun e w' => e = .returned (.tuple #[.string (str []), .bool false]) ∧ Below w.heap.size w w' := by
  have HV := Lib.hid (valid_no s h hs)
  clear h
  go_enter Try.func22, Try.ntmps22
  go_wp2_with fail
  refine (HV.out _).mono ?_
  rintro e w1 ⟨rfl, rfl⟩
  go_wp2_with fail
  go_returns
  exact ⟨rfl, Below.refl _ _⟩
set_option maxHeartbeats 1000000 in
theorem spec_bad (s : ByteArray) (b : Bool) (hV : ∀ W : World, Calls Try.prog 14 #[.string s] W fun e w' => e = .returned (.bool b) ∧ W = w') (r c : Int) (hb : ¬ Sides r c) (w : World) :
    Calls Try.prog 22 #[.string s, .int .i64 r, .int .i64 c] w fun e w' => e = .returned (.tuple #[.string (str []), .bool false]) ∧ Below w.heap.size w w' := by
  have HV := Lib.hid hV
  have HSd := Lib.hid (sides_no r c hb)
  clear hV hb
  cases b
  · go_enter Try.func22, Try.ntmps22
    go_wp2_with fail
    refine (HV.out _).mono ?_
    rintro e w1 ⟨rfl, rfl⟩
    go_wp2_with fail
    go_returns
    exact ⟨rfl, Below.refl _ _⟩
  · go_enter Try.func22, Try.ntmps22
    go_wp2_with fail
    refine (HV.out _).mono ?_
    rintro e w1 ⟨rfl, rfl⟩
    go_wp2_with fail
    refine (HSd.out _).mono ?_
    rintro e w1 ⟨rfl, rfl⟩
    go_wp2_with fail
    go_returns
    exact ⟨rfl, Below.refl _ _⟩

end Go.Proofs.Ytgfhahlkffagaaa.fnExactTrimProtocol
