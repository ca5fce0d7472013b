/-
  ParseRect, of the reference and of the program.
-/
import Derived.Test.YtalechngagkklaaParse
import Derived.Test.YtalechngagkklaaFree
import Derived.Laws.Rows
import Derived.Laws.Tables
namespace Go.Proofs.Ytalechngagkklaa.PRect
open Go.RowKit Go.Proofs.Ytalechngagkklaa.Plain Go.Proofs.Ytalechngagkklaa.Pat Go.Proofs.Ytalechngagkklaa.Rect Go.Proofs.Ytalechngagkklaa.Base Go.Proofs.Ytalechngagkklaa.Where Go.Proofs.Ytalechngagkklaa.Format Go.Proofs.Ytalechngagkklaa.Parse
open Go.Proofs.Ytalechngagkklaa.Free (fill wp_value wp_enter wp_load_row freeB wp_region_one get_of)
set_option linter.unusedVariables false

theorem rinfo : (Try.prog.info? 24).map (·.size) = some 2 := by kernel_rfl
theorem same_below {P : Program} {f : FuncId} {args : Array Value} {v : Value} (h : ∀ w, Calls P f args w fun e w' => e = .returned v ∧ w = w') (w : World) : Calls P f args w fun e w' => e = .returned v ∧ Below w.heap.size w w' :=
  (h w).mono fun e w' ⟨he, hw⟩ => ⟨he, by subst hw; exact Below.refl _ _⟩

set_option maxHeartbeats 1000000 in
theorem spec_no (s : ByteArray) (hs : s.size ≤ maxLen) (r : Int) (hr : Lib.indexByte s.data.toList 58 = r) (h : r < 0) (w : World) :
    Calls Try.prog 10 #[.string s] w fun e w' => e = .returned (.tuple #[rect 0 0, .bool false]) ∧ Below w.heap.size w w' := by
  have HF := Lib.hid (fun W => find_any s hs W)
  rw [hr] at HF
  clear hr
  go_enter Try.func10, Try.ntmps10
  go_wp2_with fail
  have e0 : (w.alloc (.cells #[.int .i64 0, .int .i64 0] 24)).heap[w.heap.size]? = some (.cells #[.int .i64 0, .int .i64 0] 24 (0, 0)) := heap_alloc_new w _
  have HB : Hid (Below w.heap.size w (w.alloc (.cells #[.int .i64 0, .int .i64 0] 24))) := (Below.refl w.heap.size w).alloc (Nat.le_refl _) _
  have hg : w.heap.size < (w.alloc (.cells #[.int .i64 0, .int .i64 0] 24)).heap.size := by simp
  have o0 : (w.alloc (.cells #[.int .i64 0, .int .i64 0] 24)).cell? ⟨w.heap.size, 0, none⟩ = some (.int .i64 0) := cell_of_row _ _ 0 _ _ _ e0
  have o1 : (w.alloc (.cells #[.int .i64 0, .int .i64 0] 24)).cell? ⟨w.heap.size, 1, none⟩ = some (.int .i64 0) := cell_of_row _ _ 1 _ _ _ e0
  have f0 : (w.alloc (.cells #[.int .i64 0, .int .i64 0] 24)).frozen? ⟨w.heap.size, 0, none⟩ = false := frozen_of_row _ _ 0 _ _ e0
  have f1 : (w.alloc (.cells #[.int .i64 0, .int .i64 0] 24)).frozen? ⟨w.heap.size, 1, none⟩ = false := frozen_of_row _ _ 1 _ _ e0
  clear e0
  generalize w.alloc (.cells #[.int .i64 0, .int .i64 0] 24) = W0 at *
  refine (HF.out _).mono ?_
  rintro e w' ⟨rfl, rfl⟩
  go_wp2_with fail
  refine bodyPost_ret (v := .tuple #[rect 0 0, .bool false]) (by simp [results, Try.results10, go_sem, o0, o1]) rfl ⟨rfl, ?_⟩
  exact (HB.out.setCell (by simp) _).setCell (by simp) _

set_option maxHeartbeats 1000000 in
set_option maxRecDepth 100000 in
theorem spec_yes (s : ByteArray) (hs : s.size ≤ maxLen) (k : Nat) (hr : Lib.indexByte s.data.toList 58 = (k : Int)) (hk : k < s.size) (A B : ByteArray) (hA : s.extract 0 k = A) (hB : s.extract (k + 1) s.size = B) (RS CS : Nat) (hA8 : A.size ≤ maxLen) (hB8 : B.size ≤ maxLen)
    (h1 : dset A.data.toList = RS) (h2 : dset B.data.toList = CS) (f : ByteArray)
    (hf : ∀ W : World, Calls Try.prog 6 #[rect RS CS] W fun e w' => e = .returned (.string f) ∧ Below W.heap.size W w') (t : Bool) (ht : (f.toList == s.toList) = t) (w : World) :
    Calls Try.prog 10 #[.string s] w fun e w' => e = .returned (.tuple #[if t then rect RS CS else rect 0 0, .bool t]) ∧ Below w.heap.size w w' := by
  have HF := Lib.hid (fun W => find_any s hs W)
  rw [hr] at HF
  have HA := Lib.hid hA
  have HB := Lib.hid hB
  have H1 := Lib.hid (fun W => same_below (fun w => l2Set_any A hA8 w) W)
  have H2 := Lib.hid (fun W => same_below (fun w => l2Set_any B hB8 w) W)
  rw [h1] at H1
  rw [h2] at H2
  have HFM := Lib.hid hf
  have HT := Lib.hid ht
  clear hr hA hB hA8 hB8 h1 h2 hf ht
  unfold maxLen at hs
  go_enter Try.func10, Try.ntmps10
  go_wp2_with fail
  have E0 : Hid ((w.alloc (.cells #[.int .i64 0, .int .i64 0] 24)).heap[w.heap.size]? = some (.cells #[.int .i64 0, .int .i64 0] 24 (0, 0))) := heap_alloc_new w _
  have HB0 : Hid (Below w.heap.size w (w.alloc (.cells #[.int .i64 0, .int .i64 0] 24))) := (Below.refl w.heap.size w).alloc (Nat.le_refl _) _
  generalize w.alloc (.cells #[.int .i64 0, .int .i64 0] 24) = W0 at *
  refine (HF.out _).mono ?_
  rintro e w' ⟨rfl, rfl⟩
  go_wp2_with fail
  refine wp_region_one (fun | 0 => .string s | 1 => .int .i64 (k : Int) | 2 => .string A | 3 => .int .i64 (RS : Int) | 4 => .string s | 5 => .int .i64 (k : Int) | 6 => .int .i64 ((k : Int) + 1) | 7 => .string B | 8 => .int .i64 (CS : Int) | 9 => rect RS CS | _ => undef) 10 11 5 24 #[.int .i64 0, .int .i64 0] #[.int .i64 (RS : Int), .int .i64 (CS : Int)] _ _
    (by kernel_rfl) (by kernel_rfl) rfl rfl rfl rfl rfl (by decide) ⟨_, List.mem_toArray.2 List.mem_cons_self, rfl, rfl⟩ rfl ?al ?st ?con ?en
  case al =>
    intro a w
    unfold execOp
    go_simp
  case st =>
    intro a w1 b old hf hp hg hsz
    refine wp_store_row 24 (.tmp 5) (.tmp 20) rfl b #[.int .i64 (RS : Int), .int .i64 (CS : Int)] hp ?_ 24 old hg rinfo hsz (by simp [Value.oneCell']) ⟨rfl, rfl⟩
    exact hf.1 ⟨9, .data⟩ (by simp) rfl _ 20 rfl rfl (by decide) (by decide)
  case con =>
    intro i o ho n1 n2 a w1 hb hf
    match i, ho with
    | 0, ho =>
      obtain rfl := Option.some.inj ho
      have b0 : a.tmps[0]?.getD undef = .string s := get_of (hf.2 0 (by kernel_rfl))
      exact wp_value (.string s) (by unfold execOp; go_simp) ⟨rfl, Below.refl _ _⟩
    | 1, ho =>
      obtain rfl := Option.some.inj ho
      have b4 : a.tmps[4]?.getD undef = .int .i64 (k : Int) := get_of (hf.2 4 (by kernel_rfl))
      exact wp_value (.int .i64 (k : Int)) (by unfold execOp; go_simp) ⟨rfl, Below.refl _ _⟩
    | 2, ho =>
      obtain rfl := Option.some.inj ho
      have e11 : a.tmps[11]?.getD undef = .string s := get_of (hf.1 ⟨0, .data⟩ (by simp) rfl _ 11 rfl rfl (by decide) (by decide))
      have e12 : a.tmps[12]?.getD undef = .int .i64 (k : Int) := get_of (hf.1 ⟨1, .data⟩ (by simp) rfl _ 12 rfl rfl (by decide) (by decide))
      have hA := HA.out
      exact wp_value (.string A) (by unfold execOp; go_simp; intro hh; exact absurd hh (by omega)) ⟨rfl, Below.refl _ _⟩
    | 3, ho =>
      obtain rfl := Option.some.inj ho
      have e13 : a.tmps[13]?.getD undef = .string A := get_of (hf.1 ⟨2, .data⟩ (by simp) rfl _ 13 rfl rfl (by decide) (by decide))
      exact wp_enter 27 #[.string A] (.int .i64 (RS : Int)) _ (by unfold execOp; go_simp) (H1.out w1) (fun w' h => ⟨rfl, h⟩)
    | 4, ho =>
      obtain rfl := Option.some.inj ho
      have b0 : a.tmps[0]?.getD undef = .string s := get_of (hf.2 0 (by kernel_rfl))
      exact wp_value (.string s) (by unfold execOp; go_simp) ⟨rfl, Below.refl _ _⟩
    | 5, ho =>
      obtain rfl := Option.some.inj ho
      have b4 : a.tmps[4]?.getD undef = .int .i64 (k : Int) := get_of (hf.2 4 (by kernel_rfl))
      exact wp_value (.int .i64 (k : Int)) (by unfold execOp; go_simp) ⟨rfl, Below.refl _ _⟩
    | 6, ho =>
      obtain rfl := Option.some.inj ho
      have e16 : a.tmps[16]?.getD undef = .int .i64 (k : Int) := get_of (hf.1 ⟨5, .data⟩ (by simp) rfl _ 16 rfl rfl (by decide) (by decide))
      exact wp_value (.int .i64 ((k : Int) + 1)) (by unfold execOp; go_simp; rw [IntKind.wrap_i64]; omega) ⟨rfl, Below.refl _ _⟩
    | 7, ho =>
      obtain rfl := Option.some.inj ho
      have e15 : a.tmps[15]?.getD undef = .string s := get_of (hf.1 ⟨4, .data⟩ (by simp) rfl _ 15 rfl rfl (by decide) (by decide))
      have e17 : a.tmps[17]?.getD undef = .int .i64 ((k : Int) + 1) := get_of (hf.1 ⟨6, .data⟩ (by simp) rfl _ 17 rfl rfl (by decide) (by decide))
      have hB := HB.out
      exact wp_value (.string B) (by unfold execOp; go_simp; intro hh; exact absurd (hh (by omega)) (by omega)) ⟨rfl, Below.refl _ _⟩
    | 8, ho =>
      obtain rfl := Option.some.inj ho
      have e18 : a.tmps[18]?.getD undef = .string B := get_of (hf.1 ⟨7, .data⟩ (by simp) rfl _ 18 rfl rfl (by decide) (by decide))
      exact wp_enter 27 #[.string B] (.int .i64 (CS : Int)) _ (by unfold execOp; go_simp) (H2.out w1) (fun w' h => ⟨rfl, h⟩)
    | 9, ho =>
      obtain rfl := Option.some.inj ho
      have e14 : a.tmps[14]?.getD undef = .int .i64 (RS : Int) := get_of (hf.1 ⟨3, .data⟩ (by simp) rfl _ 14 rfl rfl (by decide) (by decide))
      have e19 : a.tmps[19]?.getD undef = .int .i64 (CS : Int) := get_of (hf.1 ⟨8, .data⟩ (by simp) rfl _ 19 rfl rfl (by decide) (by decide))
      exact wp_value (rect RS CS) (by unfold execOp; go_simp) ⟨rfl, Below.refl _ _⟩
    | 10, ho => exact absurd rfl n1
    | 11, ho => exact absurd rfl n2
    | n + 12, ho => simp at ho
  case en =>
    intro b1 W1 hb hle hcell
    have E1 : TwoH W1 w.heap.size 24 0 0 := tw_on E0.out hb
    have C1 : TwoH W1 b1 24 RS CS := hcell
    have hne : b1 ≠ w.heap.size := by
      have h := (Array.getElem?_eq_some_iff.1 E0.out).1
      omega
    have HB1 := Lib.hid (rstep HB0.out hb)
    clear hb hcell HB0 E0 H1 H2 HA HB
    obtain ⟨c0, c1⟩ := tw_c C1
    simp only [fill, Act.put]
    go_simp
    go_wp2_with fail
    refine (HFM.out _).mono ?_
    rintro e w2 ⟨rfl, hb2⟩
    have E2 := tw_on E1 hb2
    have C2 := tw_on C1 hb2
    have HB2 := Lib.hid (rstep HB1.out hb2)
    clear hb2 HB1 c0 c1 C1 E1
    obtain ⟨c0, c1⟩ := tw_c C2
    obtain ⟨o0, o1⟩ := tw_c E2
    have hg := (Array.getElem?_eq_some_iff.1 E2).1
    have f0 : w2.frozen? ⟨w.heap.size, 0, none⟩ = false := frozen_of_row _ _ 0 _ _ E2
    have f1 : w2.frozen? ⟨w.heap.size, 1, none⟩ = false := frozen_of_row _ _ 1 _ _ E2
    have ht := HT.out
    clear C2 E2
    cases t
    · go_wp2_with fail
      refine bodyPost_ret (v := .tuple #[rect 0 0, .bool false]) (by simp [results, Try.results10, go_sem, o0, o1]) rfl ⟨rfl, ?_⟩
      exact (HB2.out.setCell (by simp) _).setCell (by simp) _
    · go_wp2_with fail
      refine bodyPost_ret (v := .tuple #[rect RS CS, .bool true]) (by simp [results, Try.results10, go_sem, o0, o1]) rfl ⟨rfl, ?_⟩
      exact (HB2.out.setCell (by simp) _).setCell (by simp) _

set_option maxHeartbeats 1000000 in
set_option maxRecDepth 100000 in
theorem impl_any (s A B : ByteArray) (d : Bool) (RS CS : Nat) (h1 : dset A.data.toList = RS) (h2 : dset B.data.toList = CS) (w : World)
    (hcut : ∀ W : World, Below w.heap.size w W → Calls Try.prog 17 #[.string s, .string ⟨#[58]⟩] W fun e w' => e = .returned (.tuple #[.string A, .string B, .bool d]) ∧ Below W.heap.size W w') (f : ByteArray)
    (hf : someB RS CS = true → ∀ W : World, Calls Try.prog 5 #[rect RS CS] W fun e w' => e = .returned (.string f) ∧ Below W.heap.size W w') (t : Bool) (ht : (someB RS CS && (f.toList == s.toList)) = t) :
    Calls Try.prog 7 #[.string s] w fun e w' => e = .returned (.tuple #[if t then rect RS CS else rect 0 0, .bool t]) ∧ Below w.heap.size w w' := by
  have HC := Lib.hid hcut
  have H1 := Lib.hid (fun W => parse_any A W)
  have H2 := Lib.hid (fun W => parse_any B W)
  rw [h1] at H1
  rw [h2] at H2
  have HR := Lib.hid (fun W => from_rect RS CS W)
  obtain ⟨sb, hsb⟩ : ∃ sb, someB (RS : Int) (CS : Int) = sb := ⟨_, rfl⟩
  rw [hsb] at HR hf ht
  have HFM := Lib.hid hf
  have HT := Lib.hid ht
  clear hcut h1 h2 hsb hf ht
  go_enter Try.func7, Try.ntmps7
  go_wp2_with fail
  have E0 : TwoH (w.alloc (.cells #[.int .i64 0, .int .i64 0] 24)) w.heap.size 24 0 0 := heap_alloc_new w _
  have HB0 : Hid (Below w.heap.size w (w.alloc (.cells #[.int .i64 0, .int .i64 0] 24))) := (Below.refl w.heap.size w).alloc (Nat.le_refl _) _
  generalize w.alloc (.cells #[.int .i64 0, .int .i64 0] 24) = W0 at *
  refine (HC.out _ HB0.out).mono ?_
  rintro e w1 ⟨rfl, hb1⟩
  have E1 := tw_on E0 hb1
  have HB1 := Lib.hid (rstep HB0.out hb1)
  clear hb1 HB0 E0 HC
  go_wp2_with fail
  refine (H1.out _).mono ?_
  rintro e w2 ⟨rfl, hb2⟩
  have E2 := tw_on E1 hb2
  have HB2 := Lib.hid (rstep HB1.out hb2)
  clear hb2 HB1 E1 H1
  go_wp2_with fail
  refine (H2.out _).mono ?_
  rintro e w3 ⟨rfl, hb3⟩
  have E3 := tw_on E2 hb3
  have HB3 := Lib.hid (rstep HB2.out hb3)
  clear hb3 HB2 E2 H2
  go_wp2_with fail
  refine (HR.out _).mono ?_
  rintro e w4 ⟨rfl, hb4⟩
  have E4 := tw_on E3 hb4
  have HB4 := Lib.hid (rstep HB3.out hb4)
  clear hb4 HB3 E3 HR
  cases sb
  · have HT2 : Hid (false = t) := HT.out
    obtain ⟨o0, o1⟩ := tw_c E4
    have hg := (Array.getElem?_eq_some_iff.1 E4).1
    have f0 : w4.frozen? ⟨w.heap.size, 0, none⟩ = false := frozen_of_row _ _ 0 _ _ E4
    have f1 : w4.frozen? ⟨w.heap.size, 1, none⟩ = false := frozen_of_row _ _ 1 _ _ E4
    clear E4 HT
    have ht := HT2.out
    subst ht
    go_wp2_with fail
    refine bodyPost_ret (v := .tuple #[rect 0 0, .bool false]) (by simp [results, Try.results7, go_sem, o0, o1, hg, World.cell?_alloc_lt]) rfl ⟨rfl, ?_⟩
    exact rstepA ((HB4.out.setCell (by simp) _).setCell (by simp) _) _
  · have HT2 : Hid ((f.toList == s.toList) = t) := HT.out
    clear HT
    have hg := (Array.getElem?_eq_some_iff.1 E4).1
    go_wp2_with fail
    refine (HFM.out (by trivial) _).mono ?_
    rintro e w5 ⟨rfl, hb5⟩
    have E5a : TwoH (w4.alloc (.cells #[.int .i64 (RS : Int), .int .i64 (CS : Int)] 24)) w.heap.size 24 0 0 := tw_on E4 ((Below.refl _ _).alloc (Nat.le_refl _) _)
    have C5a : TwoH (w4.alloc (.cells #[.int .i64 (RS : Int), .int .i64 (CS : Int)] 24)) w4.heap.size 24 RS CS := heap_alloc_new w4 _
    have E5 := tw_on E5a hb5
    have C5 := tw_on C5a hb5
    have HB5 : Hid (Below w.heap.size w w5) := rstep (rstepA HB4.out _) hb5
    clear hb5 E5a C5a E4 HB4 HFM hg
    obtain ⟨c0, c1⟩ := tw_c C5
    obtain ⟨o0, o1⟩ := tw_c E5
    have hg := (Array.getElem?_eq_some_iff.1 E5).1
    have f0 : w5.frozen? ⟨w.heap.size, 0, none⟩ = false := frozen_of_row _ _ 0 _ _ E5
    have f1 : w5.frozen? ⟨w.heap.size, 1, none⟩ = false := frozen_of_row _ _ 1 _ _ E5
    have ht := HT2.out
    clear C5 E5
    cases t
    · go_wp2_with fail
      refine bodyPost_ret (v := .tuple #[rect 0 0, .bool false]) (by simp [results, Try.results7, go_sem, o0, o1]) rfl ⟨rfl, ?_⟩
      exact (HB5.out.setCell (by simp) _).setCell (by simp) _
    · go_wp2_with fail
      refine bodyPost_ret (v := .tuple #[rect RS CS, .bool true]) (by simp [results, Try.results7, go_sem, o0, o1]) rfl ⟨rfl, ?_⟩
      exact (HB5.out.setCell (by simp) _).setCell (by simp) _
end Go.Proofs.Ytalechngagkklaa.PRect
