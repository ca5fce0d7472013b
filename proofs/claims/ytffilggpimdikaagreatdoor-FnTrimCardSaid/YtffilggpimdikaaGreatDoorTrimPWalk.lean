/-
  The walk of the law on TrimProtocol.
-/
import Derived.Test.YtffilggpimdikaaGreatDoorJ10
import Derived.Test.YtffilggpimdikaaGreatDoorJ6
import Derived.Test.YtffilggpimdikaaGreatDoorJ9
import Derived.Test.YtffilggpimdikaaGreatDoorJ16
namespace Go.Proofs.YtffilggpimdikaaGreatDoor.fnExactTrimProtocol
open Go.RowKit Go.Shelf Go.Proofs.YtffilggpimdikaaGreatDoor.Plain Go.Proofs.YtffilggpimdikaaGreatDoor.Tree Go.Proofs.YtffilggpimdikaaGreatDoor.Read Go.Proofs.YtffilggpimdikaaGreatDoor.Rect Go.Proofs.YtffilggpimdikaaGreatDoor.TreeOf Go.Proofs.YtffilggpimdikaaGreatDoor.TreeIn Go.Proofs.YtffilggpimdikaaGreatDoor.TrimT Go.Proofs.YtffilggpimdikaaGreatDoor.SaidTrim Go.Proofs.YtffilggpimdikaaGreatDoor.TextOf
open Go.Proofs.YtffilggpimdikaaGreatDoor.TrimI (trim_to)
open Go.Proofs.YtffilggpimdikaaGreatDoor.Split (cells2)
set_option linter.unusedVariables false
set_option linter.unusedSimpArgs false

set_option maxHeartbeats 2000000 in
theorem spec_yes (s : ByteArray) (t : T) (hw : wf t) (h : s.data.toList = text t) (hs : s.size ≤ 2000) (r c : Nat) (hr : 1 ≤ r ∧ r ≤ 8) (hc : 1 ≤ c ∧ c ≤ 8) (w : World) :
    Calls Tryz.prog 16 #[.string s, .int .i64 (r : Int), .int .i64 (c : Int)] w fun e w' => e = .returned (.tuple #[.string (str (text (trimT t (allN r) (allN c)))), .bool true]) ∧ Below w.heap.size w w' := by
  have HV := Lib.hid (valid_said s t hw h hs)
  have HSd := Lib.hid (sides_yes (r : Int) (c : Int) ⟨by omega, by omega⟩)
  have HWh := Lib.hid (whole_said r c hr hc)
  obtain ⟨_, p2, p3⟩ := pow_facts r hr
  obtain ⟨_, q2, q3⟩ := pow_facts c hc
  have hl : (text t).length = s.size := by rw [← h]; simp
  have HL := Lib.hid (fun W => said_trim t hw (by omega) (allN r) (allN c) W p3 q3 p2 q2)
  have e : s = str (text t) := eq_str h
  rw [← e] at HL
  generalize str (text (trimT t (allN r) (allN c))) = q at *
  clear h e hl hw p2 p3 q2 q3
  go_enter Tryz.func16, Tryz.ntmps16
  go_wp2_with fail
  refine (HV.out _).mono ?_
  rintro e w1 ⟨rfl, rfl⟩
  go_wp2_with fail
  refine (HSd.out _).mono ?_
  rintro e w1 ⟨rfl, rfl⟩
  go_wp2_with fail
  refine (HWh.out _).mono ?_
  rintro e w2 ⟨rfl, hb2⟩
  go_wp2_with fail
  refine (HL.out _).mono ?_
  rintro e w3 ⟨rfl, hb3⟩
  have HB := Lib.hid (hb2.trans (hb3.mono hb2.size))
  clear hb2 hb3
  go_wp2_with fail
  go_returns
  exact ⟨rfl, HB.out⟩
set_option maxHeartbeats 1000000 in
theorem spec_no (s : ByteArray) (h : ¬ Ok s) (hs : s.size ≤ 1048576) (r c : Int) (w : World) :
    Calls Tryz.prog 16 #[.string s, .int .i64 r, .int .i64 c] w fun e w' => e = .returned (.tuple #[.string (str []), .bool false]) ∧ Below w.heap.size w w' := by
  have HV := Lib.hid (valid_no s h hs)
  clear h
  go_enter Tryz.func16, Tryz.ntmps16
  go_wp2_with fail
  refine (HV.out _).mono ?_
  rintro e w1 ⟨rfl, rfl⟩
  go_wp2_with fail
  go_returns
  exact ⟨rfl, Below.refl _ _⟩
set_option maxHeartbeats 1000000 in
theorem spec_bad (s : ByteArray) (b : Bool) (hV : ∀ W : World, Calls Tryz.prog 42 #[.string s] W fun e w' => e = .returned (.bool b) ∧ W = w') (r c : Int) (hb : ¬ Sides r c) (w : World) :
    Calls Tryz.prog 16 #[.string s, .int .i64 r, .int .i64 c] w fun e w' => e = .returned (.tuple #[.string (str []), .bool false]) ∧ Below w.heap.size w w' := by
  have HV := Lib.hid hV
  have HSd := Lib.hid (sides_no r c hb)
  clear hV hb
  cases b
  · go_enter Tryz.func16, Tryz.ntmps16
    go_wp2_with fail
    refine (HV.out _).mono ?_
    rintro e w1 ⟨rfl, rfl⟩
    go_wp2_with fail
    go_returns
    exact ⟨rfl, Below.refl _ _⟩
  · go_enter Tryz.func16, Tryz.ntmps16
    go_wp2_with fail
    refine (HV.out _).mono ?_
    rintro e w1 ⟨rfl, rfl⟩
    go_wp2_with fail
    refine (HSd.out _).mono ?_
    rintro e w1 ⟨rfl, rfl⟩
    go_wp2_with fail
    go_returns
    exact ⟨rfl, Below.refl _ _⟩

set_option maxHeartbeats 4000000 in
set_option maxRecDepth 100000 in
theorem impl_yes (s : ByteArray) (t : T) (hw : wf t) (h : s.data.toList = text t) (hs : s.size ≤ 2000) (r c : Nat) (hr : 1 ≤ r ∧ r ≤ 8) (hc : 1 ≤ c ∧ c ≤ 8) (w : World) :
    Calls Tryz.prog 10 #[.string s, .int .i64 (r : Int), .int .i64 (c : Int)] w fun e w' => e = .returned (.tuple #[.string (str (text (trimT t (allN r) (allN c)))), .bool true]) ∧ Below w.heap.size w w' := by
  obtain ⟨_, p2, p3⟩ := pow_facts r hr
  obtain ⟨_, q2, q3⟩ := pow_facts c hc
  have hl : (text t).length = s.size := by rw [← h]; simp
  have htl := trim_length t (allN r) (allN c)
  have HI := Lib.hid (in_yes s (tree t) (tree_yes s t hw h hs) r c hr hc)
  have hX : ∀ W : World, Calls Tryz.prog 29 #[tree (trimT t (allN r) (allN c))] W fun e w' => e = .returned (.tuple #[.string (str (text (trimT t (allN r) (allN c)))), .bool true]) ∧ Below W.heap.size W w' := fun W => by
    have h2 := text_of (trimT t (allN r) (allN c)) (trim_wf t _ _ p3 q3 hw) (by omega) W
    unfold textV at h2
    rw [if_pos (by omega)] at h2
    exact h2
  have HX := Lib.hid hX
  have hC := trim_to t
  unfold Go.Proofs.YtffilggpimdikaaGreatDoor.Count.Node Go.Proofs.YtffilggpimdikaaGreatDoor.TrimI.TrimC at hC
  generalize str (text (trimT t (allN r) (allN c))) = q at *
  clear h hl hw hX htl
  rcases hC with ⟨V, ev, hv⟩ | ⟨V, ev, hv⟩
  all_goals
    have HC := Lib.hid (fun W => hv (allN r) (allN c) W p3 q3 p2 q2)
    rw [ev] at HI
    clear ev hv
    generalize tree (trimT t (allN r) (allN c)) = tr at *
    generalize allN r = M at *
    generalize allN c = N at *
    go_enter Tryz.func10, Tryz.ntmps10
    go_wp2_with fail
    refine (HI.out _).mono ?_
    rintro e w1 ⟨rfl, hb1⟩
    have HB1 := Lib.hid (hb1.alloc hb1.size (.cells #[.int .i64 (M : Int), .int .i64 (N : Int)] 41))
    clear hb1
    go_wp2_with fail
    refine (HC.out _).mono ?_
    rintro e w2 ⟨rfl, hb2⟩
    have HB2 := Lib.hid (HB1.out.trans (hb2.mono HB1.out.size))
    clear hb2
    go_wp2_with fail
    refine (HX.out _).mono ?_
    rintro e w3 ⟨rfl, hb3⟩
    have HB3 := Lib.hid (HB2.out.trans (hb3.mono HB2.out.size))
    clear hb3
    go_wp2_with fail
    go_returns
    exact ⟨rfl, HB3.out⟩
set_option maxHeartbeats 1000000 in
theorem impl_nil (s : ByteArray) (r c : Int) (M N : Nat) (hI : ∀ W : World, Calls Tryz.prog 38 #[.string s, .int .i64 r, .int .i64 c] W fun e w' => e = .returned (.tuple #[.nilIface, rect M N]) ∧ Below W.heap.size W w') (w : World) :
    Calls Tryz.prog 10 #[.string s, .int .i64 r, .int .i64 c] w fun e w' => e = .returned (.tuple #[.string (str []), .bool false]) ∧ Below w.heap.size w w' := by
  have HI := Lib.hid hI
  clear hI
  go_enter Tryz.func10, Tryz.ntmps10
  go_wp2_with fail
  refine (HI.out _).mono ?_
  rintro e w1 ⟨rfl, hb1⟩
  have HB1 := Lib.hid (hb1.alloc hb1.size (.cells #[.int .i64 (M : Int), .int .i64 (N : Int)] 41))
  clear hb1
  go_wp2_with fail
  go_returns
  exact ⟨rfl, HB1.out⟩
theorem both (s : ByteArray) (hs : s.size ≤ 1048576) (r c : Int) : ∃ (q : ByteArray) (b : Bool), (∀ w, Calls Tryz.prog 16 #[.string s, .int .i64 r, .int .i64 c] w fun e w' => e = .returned (.tuple #[.string q, .bool b]) ∧ Below w.heap.size w w') ∧
    (∀ w, Calls Tryz.prog 10 #[.string s, .int .i64 r, .int .i64 c] w fun e w' => e = .returned (.tuple #[.string q, .bool b]) ∧ Below w.heap.size w w') := by
  by_cases hsd : Sides r c
  · obtain ⟨⟨r1, r2⟩, c1, c2⟩ := hsd
    obtain ⟨r', rfl⟩ : ∃ r' : Nat, r = (r' : Int) := ⟨r.toNat, by omega⟩
    obtain ⟨c', rfl⟩ : ∃ c' : Nat, c = (c' : Int) := ⟨c.toNat, by omega⟩
    rcases ok_or s with ⟨t, h1, h2, h3⟩ | h
    · exact ⟨_, true, spec_yes s t h1 h2 h3 r' c' (by omega) (by omega), impl_yes s t h1 h2 h3 r' c' (by omega) (by omega)⟩
    · exact ⟨_, false, spec_no s h hs r' c', impl_nil s r' c' (allN r') (allN c') (in_yes s .nilIface (tree_no s h hs) r' c' (by omega) (by omega))⟩
  · have hi := impl_nil s r c 0 0 (fun W => in_bad s r c hsd W)
    rcases ok_or s with ⟨t, h1, h2, h3⟩ | h
    · exact ⟨_, false, spec_bad s true (valid_said s t h1 h2 h3) r c hsd, hi⟩
    · exact ⟨_, false, spec_bad s false (valid_no s h hs) r c hsd, hi⟩

end Go.Proofs.YtffilggpimdikaaGreatDoor.fnExactTrimProtocol
