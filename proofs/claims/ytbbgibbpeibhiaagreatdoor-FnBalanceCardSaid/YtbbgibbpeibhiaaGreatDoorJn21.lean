/-
  Texts of one seat, joined: BalWalk, BitsOfWalk, LeavesOfWalk, Rd4.
-/
import Derived.Test.YtbbgibbpeibhiaaGreatDoorJn19
import Derived.Test.YtbbgibbpeibhiaaGreatDoorJn7
import Derived.Test.YtbbgibbpeibhiaaGreatDoorJn20
import Derived.Test.YtbbgibbpeibhiaaGreatDoorJn18
import Derived.Test.YtbbgibbpeibhiaaGreatDoorJn4
import Derived.Test.YtbbgibbpeibhiaaGreatDoorJn1
/-
  The walk of the law on BalanceProtocol.
-/
namespace Go.Proofs.YtbbgibbpeibhiaaGreatDoor.fnExactBalanceProtocol
open Go.RowKit Go.Shelf Go.Proofs.YtbbgibbpeibhiaaGreatDoor.Plain Go.Proofs.YtbbgibbpeibhiaaGreatDoor.Tree Go.Proofs.YtbbgibbpeibhiaaGreatDoor.Read Go.Proofs.YtbbgibbpeibhiaaGreatDoor.Rect Go.Proofs.YtbbgibbpeibhiaaGreatDoor.Parts Go.Proofs.YtbbgibbpeibhiaaGreatDoor.TreeOf Go.Proofs.YtbbgibbpeibhiaaGreatDoor.TreeIn Go.Proofs.YtbbgibbpeibhiaaGreatDoor.FreeL Go.Proofs.YtbbgibbpeibhiaaGreatDoor.TrimT Go.Proofs.YtbbgibbpeibhiaaGreatDoor.CutT Go.Proofs.YtbbgibbpeibhiaaGreatDoor.SaidBal Go.Proofs.YtbbgibbpeibhiaaGreatDoor.SaidTrim Go.Proofs.YtbbgibbpeibhiaaGreatDoor.BalI Go.Proofs.YtbbgibbpeibhiaaGreatDoor.HvI Go.Proofs.YtbbgibbpeibhiaaGreatDoor.TextOf
open Go.Proofs.YtbbgibbpeibhiaaGreatDoor.NodeH (eval_get)
open Go.Proofs.YtbbgibbpeibhiaaGreatDoor.Count (count_ends)
open Go.Proofs.YtbbgibbpeibhiaaGreatDoor.TrimI (trim_to TrimC)
open Go.Proofs.YtbbgibbpeibhiaaGreatDoor.Split (cells2 info_rect)
open Go.Proofs.YtbbgibbpeibhiaaGreatDoor.Free (fill wp_value wp_enter wp_load_row freeB)
set_option linter.unusedVariables false
set_option linter.unusedSimpArgs false

/-- what is answered of a protocol that is trimmed -/
def balV (u : T) (M N : Nat) : Value := if 16 < ends u then .tuple #[.string (str []), .bool false] else .tuple #[.string (str (text (trimT (balS 16 u M N) M N))), .bool true]
theorem bal_len (u : T) (M N : Nat) (h : ends u ≤ 16) : (text (balS 16 u M N)).length ≤ 2000 ∧ (text (balI 16 u M N)).length ≤ 2000 := by
  have h1 := balS_ends 16 u M N h
  have h2 := balI_ends 16 u M N h
  have h3 := most_le ⟨ends u, by omega⟩
  have h4 := text_ends (balS 16 u M N)
  have h5 := text_ends (balI 16 u M N)
  simp only at h3
  omega

set_option maxHeartbeats 4000000 in
set_option maxRecDepth 100000 in
theorem spec_yes (s : ByteArray) (t : T) (hw : wf t) (h : s.data.toList = text t) (hs : s.size ≤ 2000) (r c : Nat) (hr : 1 ≤ r ∧ r ≤ 8) (hc : 1 ≤ c ∧ c ≤ 8) (w : World) :
    Calls Tryz.prog 6 #[.string s, .int .i64 (r : Int), .int .i64 (c : Int)] w fun e w' => e = .returned (balV (trimT t (allN r) (allN c)) (allN r) (allN c)) ∧ Below w.heap.size w w' := by
  have HV := Lib.hid (valid_said s t hw h hs)
  have HSd := Lib.hid (sides_yes (r : Int) (c : Int) ⟨by omega, by omega⟩)
  have HWh := Lib.hid (whole_said r c hr hc)
  obtain ⟨_, p2, p3⟩ := pow_facts r hr
  obtain ⟨_, q2, q3⟩ := pow_facts c hc
  have hl : (text t).length = s.size := by rw [← h]; simp
  have HT := Lib.hid (fun W => said_trim t hw (by omega) (allN r) (allN c) W p3 q3 p2 q2)
  have hwu := trim_wf t (allN r) (allN c) p3 q3 hw
  have hlu := trim_length t (allN r) (allN c)
  have htu := trim_tight t (allN r) (allN c) p3 q3 p2 q2
  have hB := fun h16 => said_bal 16 t hw (by omega) (allN r) (allN c)
  have e : s = str (text t) := eq_str h
  have HB : Hid (ends (trimT t (allN r) (allN c)) ≤ 16 → ∀ W : World, Calls Tryz.prog 25 #[.string s, rect (allN r) (allN c)] W fun e w' => e = .returned (.string (str (text (balS 16 (trimT t (allN r) (allN c)) (allN r) (allN c))))) ∧ Below W.heap.size W w') := by
    intro h16 W
    rw [e]
    exact said_bal 16 t hw (by omega) (allN r) (allN c) W p3 q3 p2 q2 h16 h16
  rw [← e] at HT
  have HL := Lib.hid (said_ends (trimT t (allN r) (allN c)) hwu (by omega))
  unfold balV
  generalize trimT t (allN r) (allN c) = u at *
  have HT2 : Hid (ends u ≤ 16 → (∀ W : World, Calls Tryz.prog 23 #[.string (str (text (balS 16 u (allN r) (allN c)))), rect (allN r) (allN c)] W fun e w' => e = .returned (.string (str (text (trimT (balS 16 u (allN r) (allN c)) (allN r) (allN c))))) ∧ Below W.heap.size W w') ∧ (str (text (trimT (balS 16 u (allN r) (allN c)) (allN r) (allN c)))).size ≤ 2000) := by
    intro h16
    have hll := bal_len u (allN r) (allN c) h16
    have hw2 := (bal_wf 16 u (allN r) (allN c) p3 q3 p2 q2 htu hwu).2
    have hl2 := trim_length (balS 16 u (allN r) (allN c)) (allN r) (allN c)
    exact ⟨fun W => said_trim _ hw2 hll.1 (allN r) (allN c) W p3 q3 p2 q2, by rw [str_size]; omega⟩
  generalize str (text (trimT (balS 16 u (allN r) (allN c)) (allN r) (allN c))) = q3s at *
  generalize str (text (balS 16 u (allN r) (allN c))) = q2s at *
  generalize str (text u) = qu at *
  generalize ends u = E at *
  generalize allN r = M at *
  generalize allN c = N at *
  clear h e hl hw hwu hlu htu hB p2 p3 q2 q3 hr hc hs
  by_cases h16 : 16 < E
  · rw [if_pos h16]
    have h16i : (16 : Int) < (E : Int) := by omega
    clear HB HT2
    go_enter Tryz.func6, Tryz.ntmps6
    go_wp2_with fail
    refine (HV.out _).mono ?_
    rintro e w1 ⟨rfl, rfl⟩
    go_wp2_with fail
    refine (HSd.out _).mono ?_
    rintro e w1 ⟨rfl, rfl⟩
    go_wp2_with fail
    refine (HWh.out _).mono ?_
    rintro e w2 ⟨rfl, hb2⟩
    go_wp2_with fail
    refine (HT.out _).mono ?_
    rintro e w3 ⟨rfl, hb3⟩
    have hb13 := hb2.trans (hb3.mono hb2.size)
    clear hb2 hb3
    go_wp2_with fail
    refine (HL.out _).mono ?_
    rintro e w4 ⟨rfl, hb4⟩
    have HB4 := Lib.hid (hb13.trans (hb4.mono hb13.size))
    clear hb13 hb4
    go_wp2_with fail
    go_returns
    exact ⟨rfl, HB4.out⟩
  · rw [if_neg h16]
    have h16i : ¬ (16 : Int) < (E : Int) := by omega
    obtain ⟨ht2, hsz⟩ := HT2.out (by omega)
    have HT3 := Lib.hid ht2
    have HB3 := Lib.hid (HB.out (by omega))
    have hszi : ¬ (2000 : Int) < (q3s.size : Int) := by omega
    clear HB HT2 ht2
    go_enter Tryz.func6, Tryz.ntmps6
    go_wp2_with fail
    refine (HV.out _).mono ?_
    rintro e w1 ⟨rfl, rfl⟩
    go_wp2_with fail
    refine (HSd.out _).mono ?_
    rintro e w1 ⟨rfl, rfl⟩
    go_wp2_with fail
    refine (HWh.out _).mono ?_
    rintro e w2 ⟨rfl, hb2⟩
    go_wp2_with fail
    refine (HT.out _).mono ?_
    rintro e w3 ⟨rfl, hb3⟩
    have hb13 := hb2.trans (hb3.mono hb2.size)
    clear hb2 hb3
    go_wp2_with fail
    refine (HL.out _).mono ?_
    rintro e w4 ⟨rfl, hb4⟩
    have hb14 := hb13.trans (hb4.mono hb13.size)
    clear hb13 hb4
    go_wp2_with fail
    refine (HWh.out _).mono ?_
    rintro e w5 ⟨rfl, hb5⟩
    have hb15 := hb14.trans (hb5.mono hb14.size)
    clear hb14 hb5
    go_wp2_with fail
    refine (HB3.out _).mono ?_
    rintro e w6 ⟨rfl, hb6⟩
    have hb16 := hb15.trans (hb6.mono hb15.size)
    clear hb15 hb6
    go_wp2_with fail
    refine (HWh.out _).mono ?_
    rintro e w7 ⟨rfl, hb7⟩
    have hb17 := hb16.trans (hb7.mono hb16.size)
    clear hb16 hb7
    go_wp2_with fail
    refine (HT3.out _).mono ?_
    rintro e w8 ⟨rfl, hb8⟩
    have HB8 := Lib.hid (hb17.trans (hb8.mono hb17.size))
    clear hb17 hb8
    go_wp2_with fail
    go_returns
    exact ⟨rfl, HB8.out⟩
set_option maxHeartbeats 1000000 in
theorem spec_no (s : ByteArray) (b : Bool) (hV : ∀ W : World, Calls Tryz.prog 20 #[.string s] W fun e w' => e = .returned (.bool b) ∧ W = w') (r c : Int) (hb : b = false ∨ ¬ Sides r c) (w : World) :
    Calls Tryz.prog 6 #[.string s, .int .i64 r, .int .i64 c] w fun e w' => e = .returned (.tuple #[.string (str []), .bool false]) ∧ Below w.heap.size w w' := by
  have HV := Lib.hid hV
  have HSd : Hid (b = true → ∀ W : World, Calls Tryz.prog 21 #[.int .i64 r, .int .i64 c] W fun e w' => e = .returned (.bool false) ∧ W = w') := fun hbt => sides_no r c (by rcases hb with h | h; (rw [h] at hbt; cases hbt); exact h)
  clear hV hb
  cases b
  · clear HSd
    go_enter Tryz.func6, Tryz.ntmps6
    go_wp2_with fail
    refine (HV.out _).mono ?_
    rintro e w1 ⟨rfl, rfl⟩
    go_wp2_with fail
    go_returns
    exact ⟨rfl, Below.refl _ _⟩
  · have HS2 := Lib.hid (HSd.out rfl)
    clear HSd
    go_enter Tryz.func6, Tryz.ntmps6
    go_wp2_with fail
    refine (HV.out _).mono ?_
    rintro e w1 ⟨rfl, rfl⟩
    go_wp2_with fail
    refine (HS2.out _).mono ?_
    rintro e w1 ⟨rfl, rfl⟩
    go_wp2_with fail
    go_returns
    exact ⟨rfl, Below.refl _ _⟩

set_option maxHeartbeats 1000000 in
theorem impl_nil (s : ByteArray) (r c : Int) (M N : Nat) (hI : ∀ W : World, Calls Tryz.prog 17 #[.string s, .int .i64 r, .int .i64 c] W fun e w' => e = .returned (.tuple #[.nilIface, rect M N]) ∧ Below W.heap.size W w') (w : World) :
    Calls Tryz.prog 5 #[.string s, .int .i64 r, .int .i64 c] w fun e w' => e = .returned (.tuple #[.string (str []), .bool false]) ∧ Below w.heap.size w w' := by
  have HI := Lib.hid hI
  clear hI
  go_enter Tryz.func5, Tryz.ntmps5
  go_wp2_with fail
  refine (HI.out _).mono ?_
  rintro e w1 ⟨rfl, hb1⟩
  have HB1 := Lib.hid (hb1.alloc hb1.size (.cells #[.int .i64 (M : Int), .int .i64 (N : Int)] 45))
  clear hb1
  go_wp2_with fail
  go_returns
  exact ⟨rfl, HB1.out⟩

set_option maxHeartbeats 8000000 in
set_option maxRecDepth 100000 in
theorem impl_some (s : ByteArray) (r c : Int) (u : T) (hw : wf u) (hl : (text u).length ≤ 2000) (M N : Nat) (hM : M < 256) (hN : N < 256) (hM1 : 1 ≤ M) (hN1 : 1 ≤ N) (ht : Tight u M N) (hI : ∀ W : World, Calls Tryz.prog 17 #[.string s, .int .i64 r, .int .i64 c] W fun e w' => e = .returned (.tuple #[tree u, rect M N]) ∧ Below W.heap.size W w') (w : World) :
    Calls Tryz.prog 5 #[.string s, .int .i64 r, .int .i64 c] w fun e w' => e = .returned (balV u M N) ∧ Below w.heap.size w w' := by
  have hE := count_ends u (by omega)
  unfold Go.Proofs.YtbbgibbpeibhiaaGreatDoor.Count.Node Go.Proofs.YtbbgibbpeibhiaaGreatDoor.Count.EndsC at hE
  have HBal : Hid (ends u ≤ 16 → ∀ W : World, Calls Tryz.prog 19 #[tree u, rect M N] W fun e w' => e = .returned (tree (balI 16 u M N)) ∧ Below W.heap.size W w') := fun h16 W => bal_to 16 u M N W h16 h16 hM hN hM1 hN1 ht
  have hC := trim_to (balI 16 u M N)
  unfold Go.Proofs.YtbbgibbpeibhiaaGreatDoor.Count.Node TrimC at hC
  have hsame := bal_same 16 u M N M N hM hN hM1 hN1 ht (Sub.refl _) (Sub.refl _) hM hN hM1 hN1
  have HTx : Hid (ends u ≤ 16 → ∀ W : World, Calls Tryz.prog 18 #[tree (trimT (balI 16 u M N) M N)] W fun e w' => e = .returned (.tuple #[.string (str (text (trimT (balS 16 u M N) M N))), .bool true]) ∧ Below W.heap.size W w') := by
    intro h16 W
    have hll := bal_len u M N h16
    have hl2 := trim_length (balI 16 u M N) M N
    have hw2 := trim_wf _ M N hM hN (bal_wf 16 u M N hM hN hM1 hN1 ht hw).1
    have h2 := text_of (trimT (balI 16 u M N) M N) hw2 (by omega) W
    unfold textV at h2
    rw [if_pos (by omega), hsame] at h2
    rw [hsame]
    exact h2
  unfold balV
  obtain ⟨tb, vb, eb⟩ := tree_iface (balI 16 u M N)
  rw [eb] at HBal hC
  have HC : Hid ((∃ V, Value.iface tb vb = .iface 61 V ∧ ∀ W, Calls Tryz.prog 119 #[V, rect M N] W fun e w' => e = .returned (tree (trimT (balI 16 u M N) M N)) ∧ Below W.heap.size W w') ∨
      (∃ V, Value.iface tb vb = .iface 81 V ∧ ∀ W, Calls Tryz.prog 128 #[V, rect M N] W fun e w' => e = .returned (tree (trimT (balI 16 u M N) M N)) ∧ Below W.heap.size W w')) := by
    rcases hC with ⟨V, ev, hv⟩ | ⟨V, ev, hv⟩
    · exact .inl ⟨V, ev, fun W => hv _ _ W hM hN hM1 hN1⟩
    · exact .inr ⟨V, ev, fun W => hv _ _ W hM hN hM1 hN1⟩
  generalize tree (trimT (balI 16 u M N) M N) = X at *
  generalize str (text (trimT (balS 16 u M N) M N)) = q at *
  generalize ends u = E at *
  clear hC hsame hw hl hM hN hM1 hN1 ht eb
  rcases hE with ⟨v1, e1, hE⟩ | ⟨v1, e1, hE⟩
  · rw [e1] at hI HBal
    have HI := Lib.hid hI
    have HE := Lib.hid hE
    clear hI hE e1
    by_cases h16 : 16 < E
    · rw [if_pos h16]
      have h16i : (16 : Int) < (E : Int) := by omega
      clear HBal HTx HC
      go_enter Tryz.func5, Tryz.ntmps5
      go_wp2_with fail
      refine (HI.out _).mono ?_
      rintro e w1 ⟨rfl, hb1⟩
      have n0 := heap_alloc_new w1 (.cells #[.int .i64 (M : Int), .int .i64 (N : Int)] 45)
      obtain ⟨D, hD⟩ : ∃ D, w1.heap.size = D := ⟨_, rfl⟩
      rw [hD] at n0
      have HB1 := Lib.hid (hb1.alloc hb1.size (.cells #[.int .i64 (M : Int), .int .i64 (N : Int)] 45))
      have HN0 := Lib.hid n0
      clear hb1 n0
      go_wp2_with fail
      generalize w1.alloc (.cells #[.int .i64 (M : Int), .int .i64 (N : Int)] 45) = w2 at *
      refine (HE.out _).mono ?_
      rintro e w3 ⟨rfl, hb3⟩
      have HB3 := Lib.hid (HB1.out.trans (hb3.mono HB1.out.size))
      have HN3 := Lib.hid ((hb3.block _ (Array.getElem?_eq_some_iff.1 HN0.out).1).trans HN0.out)
      clear hb3 HB1 HN0 hD
      go_wp2_with fail
      go_returns
      exact ⟨rfl, HB3.out⟩
    · rw [if_neg h16]
      have h16i : ¬ (16 : Int) < (E : Int) := by omega
      have HBa := Lib.hid (HBal.out (by omega))
      have HTy := Lib.hid (HTx.out (by omega))
      clear HBal HTx
      go_enter Tryz.func5, Tryz.ntmps5
      go_wp2_with fail
      refine (HI.out _).mono ?_
      rintro e w1 ⟨rfl, hb1⟩
      have n0 := heap_alloc_new w1 (.cells #[.int .i64 (M : Int), .int .i64 (N : Int)] 45)
      obtain ⟨D, hD⟩ : ∃ D, w1.heap.size = D := ⟨_, rfl⟩
      rw [hD] at n0
      have HB1 := Lib.hid (hb1.alloc hb1.size (.cells #[.int .i64 (M : Int), .int .i64 (N : Int)] 45))
      have HN0 := Lib.hid n0
      clear hb1 n0
      go_wp2_with fail
      generalize w1.alloc (.cells #[.int .i64 (M : Int), .int .i64 (N : Int)] 45) = w2 at *
      refine (HE.out _).mono ?_
      rintro e w3 ⟨rfl, hb3⟩
      have HB3 := Lib.hid (HB1.out.trans (hb3.mono HB1.out.size))
      have HN3 := Lib.hid ((hb3.block _ (Array.getElem?_eq_some_iff.1 HN0.out).1).trans HN0.out)
      clear hb3 HB1 HN0 hD
      go_wp2_with fail
      refine wp_region_below (fun | 0 => .iface 61 v1 | 1 => rect M N | 2 => .iface tb vb | 3 => rect M N | 4 => X | 5 => .tuple #[.string q, .bool true] | 6 => .string q | 7 => .bool true | 8 => .string q | 9 => .bool true | _ => undef) (by kernel_rfl) (by kernel_rfl) rfl ?conE ?enE
      case conE =>
        intro i o ho a wx hb hf
        match i, ho with
        | 0, ho =>
          obtain rfl := Option.some.inj ho
          have b8 : a.tmps[8]?.getD undef = .iface 61 v1 := hf.2 8 (by kernel_rfl)
          exact wp_value (.iface 61 v1) (by unfold execOp; go_simp) ⟨rfl, Below.refl _ _⟩
        | 1, ho =>
          obtain rfl := Option.some.inj ho
          have b9 : a.tmps[9]?.getD undef = .pointer (some ⟨D, 0, none⟩) := hf.2 9 (by kernel_rfl)
          exact wp_load_row 45 (.tmp 9) rfl D (eval_get b9) 45 _ (0, 0) _ ((hb.block _ (Array.getElem?_eq_some_iff.1 HN3.out).1).trans HN3.out) Tryz.underlying45 rfl (info_rect _ _) ⟨rfl, Below.refl _ _⟩
        | 2, ho =>
          obtain rfl := Option.some.inj ho
          have e24 : a.tmps[24]?.getD undef = .iface 61 v1 := hf.1 ⟨0, .data⟩ (by simp) rfl _ 24 rfl rfl
          have e25 : a.tmps[25]?.getD undef = rect M N := hf.1 ⟨1, .data⟩ (by simp) rfl _ 25 rfl rfl
          exact wp_enter 19 #[.iface 61 v1, rect M N] (.iface tb vb) _ (by unfold execOp; go_simp) (HBa.out wx) (fun w' h => ⟨rfl, h⟩)
        | 3, ho =>
          obtain rfl := Option.some.inj ho
          have b9 : a.tmps[9]?.getD undef = .pointer (some ⟨D, 0, none⟩) := hf.2 9 (by kernel_rfl)
          exact wp_load_row 45 (.tmp 9) rfl D (eval_get b9) 45 _ (0, 0) _ ((hb.block _ (Array.getElem?_eq_some_iff.1 HN3.out).1).trans HN3.out) Tryz.underlying45 rfl (info_rect _ _) ⟨rfl, Below.refl _ _⟩
        | 4, ho =>
          obtain rfl := Option.some.inj ho
          have e26 : a.tmps[26]?.getD undef = .iface tb vb := hf.1 ⟨2, .data⟩ (by simp) rfl _ 26 rfl rfl
          have e27 : a.tmps[27]?.getD undef = rect M N := hf.1 ⟨3, .data⟩ (by simp) rfl _ 27 rfl rfl
          rcases HC.out with ⟨V, ev, hv⟩ | ⟨V, ev, hv⟩
          · simp only [Value.iface.injEq] at ev
            obtain ⟨rfl, rfl⟩ := ev
            exact wp_enter 119 #[vb, rect M N] (X) _ (by unfold execOp; go_simp; go_invoke; rfl) (hv wx) (fun w' h => ⟨rfl, h⟩)
          · simp only [Value.iface.injEq] at ev
            obtain ⟨rfl, rfl⟩ := ev
            exact wp_enter 128 #[vb, rect M N] (X) _ (by unfold execOp; go_simp; go_invoke; rfl) (hv wx) (fun w' h => ⟨rfl, h⟩)
        | 5, ho =>
          obtain rfl := Option.some.inj ho
          have e28 : a.tmps[28]?.getD undef = X := hf.1 ⟨4, .data⟩ (by simp) rfl _ 28 rfl rfl
          exact wp_enter 18 #[X] (.tuple #[.string q, .bool true]) _ (by unfold execOp; go_simp) (HTy.out wx) (fun w' h => ⟨rfl, h⟩)
        | 6, ho =>
          obtain rfl := Option.some.inj ho
          have e29 : a.tmps[29]?.getD undef = .tuple #[.string q, .bool true] := hf.1 ⟨5, .data⟩ (by simp) rfl _ 29 rfl rfl
          exact wp_value (.string q) (by unfold execOp; go_simp) ⟨rfl, Below.refl _ _⟩
        | 7, ho =>
          obtain rfl := Option.some.inj ho
          have e29 : a.tmps[29]?.getD undef = .tuple #[.string q, .bool true] := hf.1 ⟨5, .data⟩ (by simp) rfl _ 29 rfl rfl
          exact wp_value (.bool true) (by unfold execOp; go_simp) ⟨rfl, Below.refl _ _⟩
        | 8, ho =>
          obtain rfl := Option.some.inj ho
          have e30 : a.tmps[30]?.getD undef = .string q := hf.1 ⟨6, .data⟩ (by simp) rfl _ 30 rfl rfl
          exact wp_value (.string q) (by unfold execOp; go_simp) ⟨rfl, Below.refl _ _⟩
        | 9, ho =>
          obtain rfl := Option.some.inj ho
          have e31 : a.tmps[31]?.getD undef = .bool true := hf.1 ⟨7, .data⟩ (by simp) rfl _ 31 rfl rfl
          exact wp_value (.bool true) (by unfold execOp; go_simp) ⟨rfl, Below.refl _ _⟩
        | q + 10, ho => simp at ho
      case enE =>
        intro w5 hb5
        have HB := Lib.hid (HB3.out.trans (hb5.mono HB3.out.size))
        clear hb5 HB3
        simp only [fill, Act.put]
        go_simp
        go_wp2_with fail
        go_returns
        exact ⟨rfl, HB.out⟩
  · rw [e1] at hI HBal
    have HI := Lib.hid hI
    have HE := Lib.hid hE
    clear hI hE e1
    by_cases h16 : 16 < E
    · rw [if_pos h16]
      have h16i : (16 : Int) < (E : Int) := by omega
      clear HBal HTx HC
      go_enter Tryz.func5, Tryz.ntmps5
      go_wp2_with fail
      refine (HI.out _).mono ?_
      rintro e w1 ⟨rfl, hb1⟩
      have n0 := heap_alloc_new w1 (.cells #[.int .i64 (M : Int), .int .i64 (N : Int)] 45)
      obtain ⟨D, hD⟩ : ∃ D, w1.heap.size = D := ⟨_, rfl⟩
      rw [hD] at n0
      have HB1 := Lib.hid (hb1.alloc hb1.size (.cells #[.int .i64 (M : Int), .int .i64 (N : Int)] 45))
      have HN0 := Lib.hid n0
      clear hb1 n0
      go_wp2_with fail
      generalize w1.alloc (.cells #[.int .i64 (M : Int), .int .i64 (N : Int)] 45) = w2 at *
      refine (HE.out _).mono ?_
      rintro e w3 ⟨rfl, hb3⟩
      have HB3 := Lib.hid (HB1.out.trans (hb3.mono HB1.out.size))
      have HN3 := Lib.hid ((hb3.block _ (Array.getElem?_eq_some_iff.1 HN0.out).1).trans HN0.out)
      clear hb3 HB1 HN0 hD
      go_wp2_with fail
      go_returns
      exact ⟨rfl, HB3.out⟩
    · rw [if_neg h16]
      have h16i : ¬ (16 : Int) < (E : Int) := by omega
      have HBa := Lib.hid (HBal.out (by omega))
      have HTy := Lib.hid (HTx.out (by omega))
      clear HBal HTx
      go_enter Tryz.func5, Tryz.ntmps5
      go_wp2_with fail
      refine (HI.out _).mono ?_
      rintro e w1 ⟨rfl, hb1⟩
      have n0 := heap_alloc_new w1 (.cells #[.int .i64 (M : Int), .int .i64 (N : Int)] 45)
      obtain ⟨D, hD⟩ : ∃ D, w1.heap.size = D := ⟨_, rfl⟩
      rw [hD] at n0
      have HB1 := Lib.hid (hb1.alloc hb1.size (.cells #[.int .i64 (M : Int), .int .i64 (N : Int)] 45))
      have HN0 := Lib.hid n0
      clear hb1 n0
      go_wp2_with fail
      generalize w1.alloc (.cells #[.int .i64 (M : Int), .int .i64 (N : Int)] 45) = w2 at *
      refine (HE.out _).mono ?_
      rintro e w3 ⟨rfl, hb3⟩
      have HB3 := Lib.hid (HB1.out.trans (hb3.mono HB1.out.size))
      have HN3 := Lib.hid ((hb3.block _ (Array.getElem?_eq_some_iff.1 HN0.out).1).trans HN0.out)
      clear hb3 HB1 HN0 hD
      go_wp2_with fail
      refine wp_region_below (fun | 0 => .iface 81 v1 | 1 => rect M N | 2 => .iface tb vb | 3 => rect M N | 4 => X | 5 => .tuple #[.string q, .bool true] | 6 => .string q | 7 => .bool true | 8 => .string q | 9 => .bool true | _ => undef) (by kernel_rfl) (by kernel_rfl) rfl ?conS ?enS
      case conS =>
        intro i o ho a wx hb hf
        match i, ho with
        | 0, ho =>
          obtain rfl := Option.some.inj ho
          have b8 : a.tmps[8]?.getD undef = .iface 81 v1 := hf.2 8 (by kernel_rfl)
          exact wp_value (.iface 81 v1) (by unfold execOp; go_simp) ⟨rfl, Below.refl _ _⟩
        | 1, ho =>
          obtain rfl := Option.some.inj ho
          have b9 : a.tmps[9]?.getD undef = .pointer (some ⟨D, 0, none⟩) := hf.2 9 (by kernel_rfl)
          exact wp_load_row 45 (.tmp 9) rfl D (eval_get b9) 45 _ (0, 0) _ ((hb.block _ (Array.getElem?_eq_some_iff.1 HN3.out).1).trans HN3.out) Tryz.underlying45 rfl (info_rect _ _) ⟨rfl, Below.refl _ _⟩
        | 2, ho =>
          obtain rfl := Option.some.inj ho
          have e24 : a.tmps[24]?.getD undef = .iface 81 v1 := hf.1 ⟨0, .data⟩ (by simp) rfl _ 24 rfl rfl
          have e25 : a.tmps[25]?.getD undef = rect M N := hf.1 ⟨1, .data⟩ (by simp) rfl _ 25 rfl rfl
          exact wp_enter 19 #[.iface 81 v1, rect M N] (.iface tb vb) _ (by unfold execOp; go_simp) (HBa.out wx) (fun w' h => ⟨rfl, h⟩)
        | 3, ho =>
          obtain rfl := Option.some.inj ho
          have b9 : a.tmps[9]?.getD undef = .pointer (some ⟨D, 0, none⟩) := hf.2 9 (by kernel_rfl)
          exact wp_load_row 45 (.tmp 9) rfl D (eval_get b9) 45 _ (0, 0) _ ((hb.block _ (Array.getElem?_eq_some_iff.1 HN3.out).1).trans HN3.out) Tryz.underlying45 rfl (info_rect _ _) ⟨rfl, Below.refl _ _⟩
        | 4, ho =>
          obtain rfl := Option.some.inj ho
          have e26 : a.tmps[26]?.getD undef = .iface tb vb := hf.1 ⟨2, .data⟩ (by simp) rfl _ 26 rfl rfl
          have e27 : a.tmps[27]?.getD undef = rect M N := hf.1 ⟨3, .data⟩ (by simp) rfl _ 27 rfl rfl
          rcases HC.out with ⟨V, ev, hv⟩ | ⟨V, ev, hv⟩
          · simp only [Value.iface.injEq] at ev
            obtain ⟨rfl, rfl⟩ := ev
            exact wp_enter 119 #[vb, rect M N] (X) _ (by unfold execOp; go_simp; go_invoke; rfl) (hv wx) (fun w' h => ⟨rfl, h⟩)
          · simp only [Value.iface.injEq] at ev
            obtain ⟨rfl, rfl⟩ := ev
            exact wp_enter 128 #[vb, rect M N] (X) _ (by unfold execOp; go_simp; go_invoke; rfl) (hv wx) (fun w' h => ⟨rfl, h⟩)
        | 5, ho =>
          obtain rfl := Option.some.inj ho
          have e28 : a.tmps[28]?.getD undef = X := hf.1 ⟨4, .data⟩ (by simp) rfl _ 28 rfl rfl
          exact wp_enter 18 #[X] (.tuple #[.string q, .bool true]) _ (by unfold execOp; go_simp) (HTy.out wx) (fun w' h => ⟨rfl, h⟩)
        | 6, ho =>
          obtain rfl := Option.some.inj ho
          have e29 : a.tmps[29]?.getD undef = .tuple #[.string q, .bool true] := hf.1 ⟨5, .data⟩ (by simp) rfl _ 29 rfl rfl
          exact wp_value (.string q) (by unfold execOp; go_simp) ⟨rfl, Below.refl _ _⟩
        | 7, ho =>
          obtain rfl := Option.some.inj ho
          have e29 : a.tmps[29]?.getD undef = .tuple #[.string q, .bool true] := hf.1 ⟨5, .data⟩ (by simp) rfl _ 29 rfl rfl
          exact wp_value (.bool true) (by unfold execOp; go_simp) ⟨rfl, Below.refl _ _⟩
        | 8, ho =>
          obtain rfl := Option.some.inj ho
          have e30 : a.tmps[30]?.getD undef = .string q := hf.1 ⟨6, .data⟩ (by simp) rfl _ 30 rfl rfl
          exact wp_value (.string q) (by unfold execOp; go_simp) ⟨rfl, Below.refl _ _⟩
        | 9, ho =>
          obtain rfl := Option.some.inj ho
          have e31 : a.tmps[31]?.getD undef = .bool true := hf.1 ⟨7, .data⟩ (by simp) rfl _ 31 rfl rfl
          exact wp_value (.bool true) (by unfold execOp; go_simp) ⟨rfl, Below.refl _ _⟩
        | q + 10, ho => simp at ho
      case enS =>
        intro w5 hb5
        have HB := Lib.hid (HB3.out.trans (hb5.mono HB3.out.size))
        clear hb5 HB3
        simp only [fill, Act.put]
        go_simp
        go_wp2_with fail
        go_returns
        exact ⟨rfl, HB.out⟩

theorem both (s : ByteArray) (hs : s.size ≤ 1048576) (r c : Int) : ∃ (q : ByteArray) (b : Bool), (∀ w, Calls Tryz.prog 6 #[.string s, .int .i64 r, .int .i64 c] w fun e w' => e = .returned (.tuple #[.string q, .bool b]) ∧ Below w.heap.size w w') ∧
    (∀ w, Calls Tryz.prog 5 #[.string s, .int .i64 r, .int .i64 c] w fun e w' => e = .returned (.tuple #[.string q, .bool b]) ∧ Below w.heap.size w w') := by
  by_cases hsd : Sides r c
  · obtain ⟨⟨r1, r2⟩, c1, c2⟩ := hsd
    obtain ⟨r', rfl⟩ : ∃ r' : Nat, r = (r' : Int) := ⟨r.toNat, by omega⟩
    obtain ⟨c', rfl⟩ : ∃ c' : Nat, c = (c' : Int) := ⟨c.toNat, by omega⟩
    have hr : 1 ≤ r' ∧ r' ≤ 8 := by omega
    have hc : 1 ≤ c' ∧ c' ≤ 8 := by omega
    obtain ⟨_, p2, p3⟩ := pow_facts r' hr
    obtain ⟨_, q2, q3⟩ := pow_facts c' hc
    rcases ok_or s with ⟨t, h1, h2, h3⟩ | h
    · have hl : (text (trimT t (allN r') (allN c'))).length ≤ 2000 := by
        have e1 := trim_length t (allN r') (allN c')
        have e2 : (text t).length = s.size := by rw [← h2]; simp
        omega
      have hS := spec_yes s t h1 h2 h3 r' c' hr hc
      have hI := impl_some s r' c' _ (trim_wf t _ _ p3 q3 h1) hl _ _ p3 q3 p2 q2 (trim_tight t _ _ p3 q3 p2 q2) (trimmed_yes s t h1 h2 h3 r' c' hr hc)
      unfold balV at hS hI
      by_cases he : 16 < ends (trimT t (allN r') (allN c'))
      · rw [if_pos he] at hS hI
        exact ⟨_, false, hS, hI⟩
      · rw [if_neg he] at hS hI
        exact ⟨_, true, hS, hI⟩
    · exact ⟨_, false, spec_no s false (valid_no s h hs) r' c' (.inl rfl), impl_nil s r' c' 0 0 (trimmed_nil s r' c' _ _ (in_yes s .nilIface (tree_no s h hs) r' c' hr hc))⟩
  · have hi := impl_nil s r c 0 0 (trimmed_nil s r c 0 0 (fun W => in_bad s r c hsd W))
    rcases ok_or s with ⟨t, h1, h2, h3⟩ | h
    · exact ⟨_, false, spec_no s true (valid_said s t h1 h2 h3) r c (.inr hsd), hi⟩
    · exact ⟨_, false, spec_no s false (valid_no s h hs) r c (.inl rfl), hi⟩

end Go.Proofs.YtbbgibbpeibhiaaGreatDoor.fnExactBalanceProtocol

/-
  The walk of the law on BitsOf.
-/
namespace Go.Proofs.YtbbgibbpeibhiaaGreatDoor.fnExactBitsOf
open Go.RowKit Go.Shelf Go.Proofs.YtbbgibbpeibhiaaGreatDoor.Plain Go.Proofs.YtbbgibbpeibhiaaGreatDoor.Tree Go.Proofs.YtbbgibbpeibhiaaGreatDoor.Read Go.Proofs.YtbbgibbpeibhiaaGreatDoor.TreeOf Go.Proofs.YtbbgibbpeibhiaaGreatDoor.Parts
open Go.Proofs.YtbbgibbpeibhiaaGreatDoor.Count (count_bits count_ends)
set_option linter.unusedVariables false
set_option linter.unusedSimpArgs false

set_option maxHeartbeats 1000000 in
theorem impl_yes (s : ByteArray) (t : T) (hw : wf t) (h : s.data.toList = text t) (hs : s.size ≤ 2000) (w : World) :
    Calls Tryz.prog 11 #[.string s] w fun e w' => e = .returned (.int .i64 (Tree.bits t : Int)) ∧ Below w.heap.size w w' := by
  have HT := Lib.hid (tree_yes s t hw h hs)
  have hl : (text t).length = s.size := by rw [← h]; simp
  have hC := count_bits t (by omega)
  clear h hl hw
  rcases hC with ⟨V, ev, hv⟩ | ⟨V, ev, hv⟩
  all_goals
    have HC := Lib.hid hv
    rw [ev] at HT
    clear ev hv
    go_enter Tryz.func11, Tryz.ntmps11
    go_wp2_with fail
    refine (HT.out _).mono ?_
    rintro e w1 ⟨rfl, hb1⟩
    go_wp2_with fail
    refine (HC.out _).mono ?_
    rintro e w2 ⟨rfl, hb2⟩
    have HB := Lib.hid (hb1.trans (hb2.mono hb1.size))
    clear hb1 hb2
    go_wp2_with fail
    go_ret
    exact ⟨rfl, HB.out⟩
set_option maxHeartbeats 1000000 in
theorem impl_no (s : ByteArray) (h : ¬ Ok s) (hs : s.size ≤ 1048576) (w : World) :
    Calls Tryz.prog 11 #[.string s] w fun e w' => e = .returned (.int .i64 (-1)) ∧ Below w.heap.size w w' := by
  have HT := Lib.hid (tree_no s h hs)
  clear h
  go_enter Tryz.func11, Tryz.ntmps11
  go_wp2_with fail
  refine (HT.out _).mono ?_
  rintro e w1 ⟨rfl, hb1⟩
  have HB := Lib.hid hb1
  clear hb1
  go_wp2_with fail
  go_ret
  exact ⟨rfl, HB.out⟩
end Go.Proofs.YtbbgibbpeibhiaaGreatDoor.fnExactBitsOf

/-
  The walk of the law on LeavesOf.
-/
namespace Go.Proofs.YtbbgibbpeibhiaaGreatDoor.fnExactLeavesOf
open Go.RowKit Go.Shelf Go.Proofs.YtbbgibbpeibhiaaGreatDoor.Plain Go.Proofs.YtbbgibbpeibhiaaGreatDoor.Tree Go.Proofs.YtbbgibbpeibhiaaGreatDoor.Read Go.Proofs.YtbbgibbpeibhiaaGreatDoor.TreeOf Go.Proofs.YtbbgibbpeibhiaaGreatDoor.Parts
open Go.Proofs.YtbbgibbpeibhiaaGreatDoor.Count (count_bits count_ends)
set_option linter.unusedVariables false
set_option linter.unusedSimpArgs false

set_option maxHeartbeats 1000000 in
theorem impl_yes (s : ByteArray) (t : T) (hw : wf t) (h : s.data.toList = text t) (hs : s.size ≤ 2000) (w : World) :
    Calls Tryz.prog 9 #[.string s] w fun e w' => e = .returned (.int .i64 (ends t : Int)) ∧ Below w.heap.size w w' := by
  have HT := Lib.hid (tree_yes s t hw h hs)
  have hl : (text t).length = s.size := by rw [← h]; simp
  have hC := count_ends t (by omega)
  clear h hl hw
  rcases hC with ⟨V, ev, hv⟩ | ⟨V, ev, hv⟩
  all_goals
    have HC := Lib.hid hv
    rw [ev] at HT
    clear ev hv
    go_enter Tryz.func9, Tryz.ntmps9
    go_wp2_with fail
    refine (HT.out _).mono ?_
    rintro e w1 ⟨rfl, hb1⟩
    go_wp2_with fail
    refine (HC.out _).mono ?_
    rintro e w2 ⟨rfl, hb2⟩
    have HB := Lib.hid (hb1.trans (hb2.mono hb1.size))
    clear hb1 hb2
    go_wp2_with fail
    go_ret
    exact ⟨rfl, HB.out⟩
set_option maxHeartbeats 1000000 in
theorem impl_no (s : ByteArray) (h : ¬ Ok s) (hs : s.size ≤ 1048576) (w : World) :
    Calls Tryz.prog 9 #[.string s] w fun e w' => e = .returned (.int .i64 (-1)) ∧ Below w.heap.size w w' := by
  have HT := Lib.hid (tree_no s h hs)
  clear h
  go_enter Tryz.func9, Tryz.ntmps9
  go_wp2_with fail
  refine (HT.out _).mono ?_
  rintro e w1 ⟨rfl, hb1⟩
  have HB := Lib.hid hb1
  clear hb1
  go_wp2_with fail
  go_ret
  exact ⟨rfl, HB.out⟩
end Go.Proofs.YtbbgibbpeibhiaaGreatDoor.fnExactLeavesOf

/-
  The drawing function l2Bad.
-/
namespace Go.Proofs.YtbbgibbpeibhiaaGreatDoor.Rd4
open Go.RowKit Go.Proofs.YtbbgibbpeibhiaaGreatDoor.Plain Go.Proofs.YtbbgibbpeibhiaaGreatDoor.Rd Go.Proofs.YtbbgibbpeibhiaaGreatDoor.Rd2 Go.Proofs.YtbbgibbpeibhiaaGreatDoor.Rd3
set_option linter.unusedVariables false

/-- a number of 64 bits -/
def W64 (x : Int) : Prop := -9223372036854775808 ≤ x ∧ x ≤ 9223372036854775807
theorem cells2 {w : World} {g : Nat} {T : TypeId} {a b : Value} (h : w.heap[g]? = some (.cells #[a, b] T (0, 0))) : w.cell? ⟨g, 0, none⟩ = some a ∧ w.cell? ⟨g, 1, none⟩ = some b ∧ w.frozen? ⟨g, 0, none⟩ = false ∧ w.frozen? ⟨g, 1, none⟩ = false :=
  ⟨cell_of_row _ _ 0 _ _ _ h, cell_of_row _ _ 1 _ _ _ h, frozen_of_row _ _ 0 _ _ h, frozen_of_row _ _ 1 _ _ h⟩

end Go.Proofs.YtbbgibbpeibhiaaGreatDoor.Rd4

