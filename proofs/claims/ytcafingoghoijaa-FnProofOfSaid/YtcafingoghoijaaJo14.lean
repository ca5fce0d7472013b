/-
  Texts of one seat, joined: KeysI, MaxS, DrawQ, Range.
-/
import Derived.Test.YtcafingoghoijaaJo1
import Derived.Test.YtcafingoghoijaaJo13
import Derived.Test.YtcafingoghoijaaJo4
import Derived.RangeFuncBox
import Derived.RangeFuncFrom
import Derived.Maps.AppendAt
import Derived.Test.YtcafingoghoijaaJo12
import Derived.Test.YtcafingoghoijaaJo5
import Derived.Test.YtcafingoghoijaaJo7
import Derived.Test.YtcafingoghoijaaDrawT
import Derived.Test.YtcafingoghoijaaFreeP
import Derived.RangeFuncNested
import Derived.RangeFuncBound
import Derived.RangeFuncCalls
import Derived.RangeFuncLeaves
/-
  maps.Keys over a map keyed by rectangles; slices.AppendSeq and slices.Collect of its keys.
-/
namespace Go.Proofs.Ytcafingoghoijaa.KeysI
open Go.RowKit Go.Maps Go.Sort Go.Shelf Go.Proofs.Ytcafingoghoijaa.Plain Go.Proofs.Ytcafingoghoijaa.Rect Go.Proofs.Ytcafingoghoijaa.KeysR
set_option linter.unusedVariables false
attribute [local go_sem] Oper.semAt_some

/-- a rectangle as yield's argument -/
abbrev encP (p : Int × Int) : Array Value := #[rect p.1 p.2]
/-- what has come, each once -/
def AllOf (L ss : List (Int × Int)) : Prop := ss.Nodup ∧ ∀ p, p ∈ ss ↔ p ∈ L

/-- rectangles' cells -/
def flat (ss : List (Int × Int)) : List Value := ss.flatMap fun p => [.int .i64 p.1, .int .i64 p.2]
theorem flat_next (pre : List (Int × Int)) (x : Int × Int) : flat (pre ++ [x]) = flat pre ++ [.int .i64 x.1, .int .i64 x.2] := by simp [flat]
theorem infoK : (Try.prog.info? 33).map (fun i => (i.zero, i.size, i.bytes)) = some (some (.agg #[.int .i64 0, .int .i64 0]), 2, 16) := by kernel_rfl
theorem two_new (w : World) (x y : Value) (t : TypeId) : ∀ j u, [x, y][j]? = some u → (w.alloc (.cells #[x, y] t)).cell? ((⟨w.heap.size, 0, none⟩ : Addr).add j) = some u := by
  intro j u hj
  match j, hj with
  | 0, hj => obtain rfl := Option.some.inj hj; exact cell_of_row _ _ 0 _ _ _ (heap_alloc_new w _)
  | 1, hj => obtain rfl := Option.some.inj hj; exact cell_of_row _ _ 1 _ _ _ (heap_alloc_new w _)
  | j + 2, hj => simp at hj

end Go.Proofs.Ytcafingoghoijaa.KeysI

/-
  The reference's l2Maximal and MaximalRects.
-/
namespace Go.Proofs.Ytcafingoghoijaa.MaxS
open Go.RowKit Go.Proofs.Ytcafingoghoijaa.Plain Go.Proofs.Ytcafingoghoijaa.Base Go.Proofs.Ytcafingoghoijaa.Valid Go.Proofs.Ytcafingoghoijaa.Law Go.Proofs.Ytcafingoghoijaa.GridPlain Go.Proofs.Ytcafingoghoijaa.Grid Go.Proofs.Ytcafingoghoijaa.Entry Go.Proofs.Ytcafingoghoijaa.Pat Go.Proofs.Ytcafingoghoijaa.Rect Go.Proofs.Ytcafingoghoijaa.Board Go.Proofs.Ytcafingoghoijaa.BoardM Go.Proofs.Ytcafingoghoijaa.RValid Go.Proofs.Ytcafingoghoijaa.Colour Go.Proofs.Ytcafingoghoijaa.Where Go.Proofs.Ytcafingoghoijaa.Turn1 Go.Proofs.Ytcafingoghoijaa.Cols Go.Proofs.Ytcafingoghoijaa.MaxM Go.Proofs.Ytcafingoghoijaa.App
open Go.Proofs.Ytcafingoghoijaa.KeysI (flat flat_next infoK two_new)
set_option linter.unusedVariables false

theorem own_lower {w : World} {B B' : Nat} {e : TypeId} {k n : Nat} {v : Value} {xs : List Value} (h : w.ownsRow B e k v n xs) (hB : B' ≤ B) : w.ownsRow B' e k v n xs := by
  refine ⟨h.1, ?_⟩
  rcases h.2 with h2 | ⟨g, cap, cur, h2, h3, h4⟩
  · exact .inl h2
  · exact .inr ⟨g, cap, cur, h2, Nat.le_trans hB h3, h4⟩

set_option maxHeartbeats 4000000 in
set_option maxRecDepth 100000 in
theorem l2_maximal (E : Nat → Nat → Bool) (R C : Nat) (hR1 : 1 ≤ R) (hR : R ≤ 8) (hC1 : 1 ≤ C) (hC : C ≤ 8) (b : Bool) (w : World) :
    Calls Try.prog 86 #[mat R C (str (rowsB E R C)), .int .i64 (bitI b)] w fun e w' => ∃ v, e = .returned v ∧ w'.ownsRow w.heap.size 33 2 v (mx E b R C (2 ^ R - 1)).length (flat (mx E b R C (2 ^ R - 1))) ∧ Below w.heap.size w w' := by
  obtain ⟨i0, hi, hz0, hz1, hz2⟩ := info_parts infoK
  have HCOL := Lib.hid (fun S hS W => cols_any E R C hR1 hR hC1 hC S hS b W)
  have HROW := Lib.hid (fun S hS W => rows_any E R C hR1 hR hC1 hC S hS b W)
  have HLEN := Lib.hid (fun k => mx_len E b R C k)
  have HN0 : Hid (mx E b R C 0 = []) := rfl
  have HNX : Hid (∀ q, mx E b R C (q + 1) = mx E b R C q ++ (if 0 < cS E b R C (q + 1) ∧ rS E b R C (cS E b R C (q + 1)) = q + 1 then [(((q + 1 : Nat) : Int), ((cS E b R C (q + 1) : Nat) : Int))] else [])) := fun q => rfl
  have HCL : Hid (∀ S, cS E b R C S < 256) := fun S => Nat.lt_of_lt_of_le (cS_lt E b R C S) (Nat.pow_le_pow_right (n := 2) (by decide) hC)
  have HRL : Hid (∀ T, rS E b R C T < 256) := fun T => Nat.lt_of_lt_of_le (rS_lt E b R C T) (Nat.pow_le_pow_right (n := 2) (by decide) hR)
  obtain ⟨hpw, hp1, hp2⟩ := pow8 R hR
  have hp3 : 2 ≤ 2 ^ R := by
    have := Nat.pow_le_pow_right (n := 2) (by decide) hR1
    omega
  generalize str (rowsB E R C) = s at *
  generalize 2 ^ R = N at *
  obtain ⟨bi, hbi⟩ : ∃ bi, bitI b = bi := ⟨_, rfl⟩
  rw [hbi] at HCOL HROW ⊢
  clear hbi
  go_enter Try.func86, Try.ntmps86
  go_wp2_with fail
  have e0 : MHolds (w.alloc (.cells #[.int .i64 (R : Int), .int .i64 (C : Int), .string s] 78)) w.heap.size 78 R C s := heap_alloc_new w _
  have hb0 : Below w.heap.size w (w.alloc (.cells #[.int .i64 (R : Int), .int .i64 (C : Int), .string s] 78)) := (Below.refl w.heap.size w).alloc (Nat.le_refl _) _
  have hs0 : w.heap.size ≤ (w.alloc (.cells #[.int .i64 (R : Int), .int .i64 (C : Int), .string s] 78)).heap.size := hb0.size
  have hsz : (w.alloc (.cells #[.int .i64 (R : Int), .int .i64 (C : Int), .string s] 78)).heap.size = w.heap.size + 1 := by simp
  generalize w.alloc (.cells #[.int .i64 (R : Int), .int .i64 (C : Int), .string s] 78) = W0 at *
  have HO0 : Hid (App.Own W0 (W0.alloc (.cells #[] 33)) 33 2 (.slice (some ⟨w.heap.size + 1, 0, none⟩) 0 0) (mx E b R C 0).length (flat (mx E b R C 0))) := by
    have h := App.Own.lit W0 33 2
    rw [hsz] at h
    exact h
  have HE := Lib.hid e0
  have HB0 := Lib.hid (And.intro hb0 hs0)
  clear e0 hb0 hs0 hsz
  go_loopw [5, 6] (fun v i wr => ∃ q : Nat, q + 1 ≤ N ∧ i = .int .i64 ((q + 1 : Nat) : Int) ∧ Hid (App.Own W0 wr 33 2 v (mx E b R C q).length (flat (mx E b R C q)))) (fun _ i _ => N - (intOf i).toNat)
  case atStart => exact ⟨0, by omega, rfl, HO0⟩
  case round =>
    obtain ⟨q, hq, rfl, HO⟩ := hrel
    clear HO0
    have hml := HLEN.out q
    obtain ⟨q0, q1, q2⟩ := mh_c (mh_on HE.out HO.out.below)
    obtain ⟨p, cp, rfl⟩ := HO.out.slice
    by_cases hlt : q + 1 < N
    · have HCC := Lib.hid (fun W => HCOL.out (q + 1) (by omega) W)
      have HRR := Lib.hid (fun W => HROW.out (cS E b R C (q + 1)) (HCL.out _) W)
      have hcl := HCL.out (q + 1)
      have hrl := HRL.out (cS E b R C (q + 1))
      have HX := Lib.hid (HNX.out q)
      have e1 : (setB (fun y => allTo E (q + 1) b y R) C : Nat) = cS E b R C (q + 1) := rfl
      have e2 : (setB (fun x => allTo (fun y x => E x y) (cS E b R C (q + 1)) b x C) R : Nat) = rS E b R C (cS E b R C (q + 1)) := rfl
      rw [e1] at HCC
      rw [e2] at HRR
      clear e1 e2
      generalize rS E b R C (cS E b R C (q + 1)) = r' at HRR hrl HX
      generalize cS E b R C (q + 1) = c at HCC HRR hcl HX
      obtain ⟨l0, hl0⟩ : ∃ l0, mx E b R C q = l0 := ⟨_, rfl⟩
      rw [hl0] at HX HO hml ⊢
      obtain ⟨k, hk⟩ : ∃ k, q + 1 = k := ⟨_, rfl⟩
      have HQ := Lib.hid (And.intro hl0 hk)
      rw [hk] at HCC HX hlt ⊢
      have hk1 : 1 ≤ k := by omega
      have hlk : l0.length ≤ 300 := by omega
      have hkl : (k : Int) < (N : Int) := by omega
      clear hl0 hk hq hml
      generalize hnn : l0.length = nn at HO hlk ⊢
      have HNN := Lib.hid hnn
      clear hnn
      go_wp2_with fail
      refine (HCC.out _).mono ?_
      rintro e w2 ⟨rfl, hb2⟩
      have HO2 := Lib.hid (HO.out.later hb2)
      clear hb2 q0 q1 q2 HO HCC
      obtain ⟨q0, q1, q2⟩ := mh_c (mh_on HE.out HO2.out.below)
      by_cases hc0 : 0 < c
      · have hci : (0 : Int) < (c : Int) := by omega
        go_wp2_with fail
        refine (HRR.out _).mono ?_
        rintro e w3 ⟨rfl, hb3⟩
        have HO3 := Lib.hid (HO2.out.later hb3)
        clear hb3 q0 q1 q2 HO2 HRR
        by_cases hrk : r' = k
        · subst hrk
          have HX1 := Lib.hid (HX.out.trans (by rw [if_pos ⟨hc0, rfl⟩]))
          have hbe : (((r' : Nat) : Int) == ((r' : Nat) : Int)) = true := by simp
          go_wp2_with (at_builtin; have HH := HO3.out; refine wpList_append_own _ rfl (.tmp 31) (.tmp 35) 25 rfl W0.heap.size 33 i0 (.agg #[.int .i64 0, .int .i64 0]) 2 16 Try.underlying25 hi hz0 hz1 hz2 rfl (by decide) _ _ _ rfl (HH.row.alloc _) ⟨w3.heap.size, 0, none⟩ 1 1 [.int .i64 (r' : Int), .int .i64 (c : Int)] rfl rfl ?a1 ?a2 ?a3 ?a4 ?a5 ?a6; go_must (case a1 => exact (two_new _ _ _ _)); go_must (case a2 => simp [Value.oneCell']); go_must (case a3 => (unfold maxLen; omega)); go_must (case a4 => omega); go_must (case a5 => (have := HH.below.size; simp at this ⊢; omega)); go_must (clear HH; intro v3 w3 hown3 hgrow3 _; have H3 := Lib.hid (App.Own.next HO3.out _ hown3 hgrow3); clear HO3 hown3 hgrow3))
          go_roundw
          case rel => exact ⟨r', by omega, by go_num, by rw [HX1.out, List.length_append, HNN.out, flat_next]; exact H3⟩
          case measure => simp [intOf]; omega
        · have hne : (((r' : Nat) : Int) == ((k : Nat) : Int)) = false := by simp; omega
          have HX1 := Lib.hid (HX.out.trans (by rw [if_neg (fun h => hrk h.2), List.append_nil]))
          go_wp2_with fail
          go_roundw
          case rel => exact ⟨k, by omega, by go_num, by rw [HX1.out, HNN.out]; exact HO3⟩
          case measure => simp [intOf]; omega
      · have hci : ¬ (0 : Int) < (c : Int) := by omega
        have HX1 := Lib.hid (HX.out.trans (by rw [if_neg (fun h => hc0 h.1), List.append_nil]))
        go_wp2_with fail
        go_roundw
        case rel => exact ⟨k, by omega, by go_num, by rw [HX1.out, HNN.out]; exact HO2⟩
        case measure => simp [intOf]; omega
    · obtain rfl : N = q + 1 := by omega
      go_wp2_with fail
      go_ret
      exact ⟨_, rfl, own_lower (by rw [show q + 1 - 1 = q by omega]; exact HO.out.row) HB0.out.2, HB0.out.1.trans (HO.out.below.mono HB0.out.2)⟩

set_option maxHeartbeats 1000000 in
theorem spec_no (r c : Int) (s : ByteArray) (hs : s.size ≤ maxLen) (bit : Int) (b : Bool) (hb : validB r c s = b) (h : b = false ∨ (bit ≠ 0 ∧ bit ≠ 1)) (w : World) :
    Calls Try.prog 72 #[mat r c s, .int .i64 bit] w fun e w' => ∃ v, e = .returned v ∧ w'.ownsRow w.heap.size 33 2 v 0 (flat []) ∧ Below w.heap.size w w' := by
  have HV := Lib.hid hb
  have HH := Lib.hid h
  clear hb h
  have own0 : ∀ W : World, w.heap.size ≤ W.heap.size → (W.alloc (.cells #[] 33)).ownsRow w.heap.size 33 2 (.slice (some ⟨W.heap.size, 0, none⟩) 0 0) 0 (flat []) := fun W hW => own_lower (App.Own.lit W 33 2).row hW
  have HO := Lib.hid own0
  clear own0
  go_enter Try.func72, Try.ntmps72
  go_wp2_with fail
  refine (spec_valid r c s hs _).mono ?_
  rintro e w1 ⟨rfl, hb1⟩
  rw [HV.out]
  have HB := Lib.hid (bstep ((Below.refl w.heap.size w).alloc (Nat.le_refl _) _) hb1)
  clear hb1
  cases b
  · go_wp2_with fail
    go_ret
    exact ⟨_, rfl, HO.out _ HB.out.size, HB.out.alloc HB.out.size _⟩
  · have HN : Hid (decide (0 ≤ bit ∧ bit ≤ 1) = false) := decide_eq_false (by have := HH.out; simp at this; omega)
    go_wp2_with fail
    refine (in_any bit 0 1 _).mono ?_
    rintro e w' ⟨rfl, rfl⟩
    rw [HN.out]
    go_wp2_with fail
    go_ret
    exact ⟨_, rfl, HO.out _ HB.out.size, HB.out.alloc HB.out.size _⟩

set_option maxHeartbeats 1000000 in
theorem spec_yes (E : Nat → Nat → Bool) (R C : Nat) (hR1 : 1 ≤ R) (hR : R ≤ 8) (hC1 : 1 ≤ C) (hC : C ≤ 8) (hs : (str (rowsB E R C)).size ≤ maxLen) (hv : validB R C (str (rowsB E R C)) = true) (b : Bool) (w : World) :
    Calls Try.prog 72 #[mat R C (str (rowsB E R C)), .int .i64 (bitI b)] w fun e w' => ∃ v, e = .returned v ∧ w'.ownsRow w.heap.size 33 2 v (mx E b R C (2 ^ R - 1)).length (flat (mx E b R C (2 ^ R - 1))) ∧ Below w.heap.size w w' := by
  have HL := Lib.hid (fun W => l2_maximal E R C hR1 hR hC1 hC b W)
  have HV := Lib.hid hv
  generalize mx E b R C (2 ^ R - 1) = l at *
  generalize str (rowsB E R C) = s at *
  have HN : Hid (decide (0 ≤ bitI b ∧ bitI b ≤ 1) = true) := decide_eq_true (by cases b <;> decide)
  generalize bitI b = bit at *
  clear hv
  go_enter Try.func72, Try.ntmps72
  go_wp2_with fail
  refine (spec_valid R C s hs _).mono ?_
  rintro e w1 ⟨rfl, hb1⟩
  rw [HV.out]
  have hm := mh_on (w1 := w1) (show MHolds (w.alloc (.cells #[.int .i64 (R : Int), .int .i64 (C : Int), .string s] 78)) w.heap.size 78 R C s from heap_alloc_new w _) hb1
  have HB := Lib.hid (bstep ((Below.refl w.heap.size w).alloc (Nat.le_refl _) _) hb1)
  clear hb1
  obtain ⟨q0, q1, q2⟩ := mh_c hm
  clear hm
  go_wp2_with fail
  refine (in_any bit 0 1 _).mono ?_
  rintro e w' ⟨rfl, rfl⟩
  rw [HN.out]
  go_wp2_with fail
  refine (HL.out _).mono ?_
  rintro e w2 ⟨v, rfl, ho, hb2⟩
  have HO := Lib.hid (And.intro (own_lower ho HB.out.size) (HB.out.trans (hb2.mono HB.out.size)))
  clear ho hb2
  go_wp2_with fail
  go_ret
  exact ⟨_, rfl, HO.out.1, HO.out.2⟩
end Go.Proofs.Ytcafingoghoijaa.MaxS

/-
  l8List: lists of rectangles that are drawn; the drawing functions of ProofOf and AcceptsRow.
-/
namespace Go.Proofs.Ytcafingoghoijaa.DrawQ
open Go Go.RowKit Go.Proofs.Ytcafingoghoijaa.Plain Go.Proofs.Ytcafingoghoijaa.Base Go.Proofs.Ytcafingoghoijaa.Rd Go.Proofs.Ytcafingoghoijaa.Rd2 Go.Proofs.Ytcafingoghoijaa.Rd3 Go.Proofs.Ytcafingoghoijaa.Rd4 Go.Proofs.Ytcafingoghoijaa.Rd5 Go.Proofs.Ytcafingoghoijaa.Rd6 Go.Proofs.Ytcafingoghoijaa.DrawT Go.Proofs.Ytcafingoghoijaa.FreeP Go.Proofs.Ytcafingoghoijaa.Entry
open Go.Proofs.Ytcafingoghoijaa.Rects (RV eval_get rinfo2)
open Go.Proofs.Ytcafingoghoijaa.Free (fill wp_value wp_load_row freeB)
open Go.Proofs.Ytcafingoghoijaa.Marks (flat rv_own)
open Go.Proofs.Ytcafingoghoijaa.MaxM (mx mx_len)
open Go.Proofs.Ytcafingoghoijaa.KeysI (infoK two_new)
set_option linter.unusedVariables false

theorem minfo : (Try.prog.info? 78).map (·.size) = some 3 := by kernel_rfl
theorem flat_next (pre : List (Int × Int)) (x y : Int) : flat (pre ++ [(x, y)]) = flat pre ++ [.int .i64 x, .int .i64 y] := by simp [flat]
theorem flat_same (xs : List (Int × Int)) : Go.Proofs.Ytcafingoghoijaa.KeysI.flat xs = flat xs := rfl
theorem own_apt {w w' : World} {B g n size : Nat} {e : TypeId} {v : Value} {xs : List Value} (h : w.ownsRow B e size v n xs) (ha : Apt g w w') (hg : g < B) : w'.ownsRow B e size v n xs := by
  refine ⟨h.1, ?_⟩
  rcases h.2 with h2 | ⟨b, cap, cur, h1, h2, h3, h4⟩
  · exact .inl h2
  · exact .inr ⟨b, cap, cur, h1, h2, (ha.block b (Array.getElem?_eq_some_iff.1 h3).1 (by omega)).trans h3, h4⟩
theorem own_low {w : World} {B B' n size : Nat} {e : TypeId} {v : Value} {xs : List Value} (h : w.ownsRow B e size v n xs) (hB : B' ≤ B) : w.ownsRow B' e size v n xs := by
  refine ⟨h.1, ?_⟩
  rcases h.2 with h2 | ⟨g, cap, cur, h1, h2, h3⟩
  · exact .inl h2
  · exact .inr ⟨g, cap, cur, h1, Nat.le_trans hB h2, h3⟩
/-- the reader lies as it lay where a younger block turns -/
theorem rdr_grown {lo g p : Nat} {w w' : World} {row : Option Nat} (h : Rdr lo w g p) (hg : w.grownBy w' row) (hr : ∀ q, row = some q → g < q) : Rdr lo w' g p := by
  obtain ⟨v, n, h, hl⟩ := h
  have hne : ∀ k, k ≤ g → some k ≠ row := fun k hk e => by have := hr k e.symm; omega
  refine ⟨v, n, ⟨(hg.block g h.lt (hne g (Nat.le_refl _))).trans h.cells, ?_⟩, hl⟩
  obtain ⟨h0, a, c, rfl, h1⟩ := h.bytes
  refine ⟨h0, a, c, rfl, ?_⟩
  rcases h1 with h1 | ⟨b, off, h1, h2, h3, h4⟩
  · exact .inl h1
  · refine .inr ⟨b, off, h1, h2, Nat.lt_of_lt_of_le h3 hg.size, fun j hj => ?_⟩
    obtain ⟨x, x0, x1, hx⟩ := h4 j hj
    exact ⟨x, x0, x1, (World.cell?_of_block (a := ⟨b, off + j, none⟩) (hg.block b h3 (hne b (by omega)))).trans hx⟩
theorem apt_grown {g : Nat} {w w1 w' : World} {row : Option Nat} (h : Apt g w w1) (hg : w1.grownBy w' row) (hr : ∀ q, row = some q → w.heap.size ≤ q) : Apt g w w' :=
  ⟨hg.os.trans h.os, hg.tape.trans h.tape, hg.output.trans h.output, Nat.le_trans h.size hg.size, fun k hk hkg => (hg.block k (Nat.lt_of_lt_of_le hk h.size) (fun e => by have := hr k e.symm; omega)).trans (h.block k hk hkg)⟩
theorem bit_of {x : Int} (h0 : 0 ≤ x) (h1 : x < 2 ∨ x = 0) : ∃ b : Bool, x = bitI b := by
  have h : x = 0 ∨ x = 1 := by omega
  rcases h with rfl | rfl
  · exact ⟨false, rfl⟩
  · exact ⟨true, rfl⟩

/-- a list of rectangles of the call's own -/
def OW (B : Nat) (v : Value) (wx : World) : Prop := ∃ xs : List (Int × Int), xs.length ≤ 256 ∧ wx.ownsRow B 33 2 v xs.length (flat xs)

set_option maxRecDepth 100000 in
set_option maxHeartbeats 8000000 in
theorem list_any {lo : Nat} (g p : Nat) (hp : p < 1000000) (w : World) (h : Rdr lo w g p) :
    Calls Try.prog 62 #[.pointer (some ⟨g, 0, none⟩)] w fun e w' => ∃ v xs p', e = .returned v ∧ xs.length ≤ 300 ∧ w'.ownsRow w.heap.size 33 2 v xs.length (flat xs) ∧ p ≤ p' ∧ p' ≤ p + 5000 ∧ Rdr lo w' g p' ∧ Apt g w w' := by
  obtain ⟨i0, hi, hz0, hz1, hz2⟩ := info_parts infoK
  have hg := h.lt
  have HM := Lib.hid (draw_matV g p (by omega) 4 (by omega) (by omega) w h)
  clear h
  go_enter Try.func62, Try.ntmps62
  go_wp2_with fail
  refine HM.out.mono ?_
  rintro e w1 ⟨a, b, t, p1, rfl, ha, hb, hsz, hp1, hp2, hr, hapt⟩
  obtain ⟨R, C, E, rfl, rfl, h1, h2, h3, h4, rfl⟩ := valid_form hsz.2
  have hts : (str (rowsB E R C)).size ≤ maxLen := by have := hsz.1.2; unfold maxLen; omega
  have HX := Lib.hid (fun bt W => Go.Proofs.Ytcafingoghoijaa.MaxS.spec_yes E R C h1 h2 h3 h4 hts hsz.2 bt W)
  have HXL : Hid (∀ bt, (mx E bt R C (2 ^ R - 1)).length ≤ 256) := fun bt => by
    have e1 := mx_len E bt R C (2 ^ R - 1)
    have e2 := Nat.pow_le_pow_right (n := 2) (by decide) h2
    omega
  generalize str (rowsB E R C) = t at *
  have hwl := hapt.size
  have HR1 := Lib.hid hr
  have HA1 := Lib.hid hapt
  clear hsz hts hr hapt HM
  go_wp2_with fail
  have HBW : Hid (∃ W2, w1.alloc (.cells #[.int .i64 (R : Int), .int .i64 (C : Int), .string t] 78) = W2 ∧ Below w1.heap.size w1 W2 ∧ W2.heap.size = w1.heap.size + 1 ∧ W2.heap[w1.heap.size]? = some (.cells #[.int .i64 (R : Int), .int .i64 (C : Int), .string t] 78 (0, 0))) := ⟨_, rfl, (Below.refl _ _).alloc (Nat.le_refl _) _, by simp, heap_alloc_new w1 _⟩
  obtain ⟨W2, hW2, hb2, hs2, hm2⟩ := HBW.out
  first | rw [hW2] | skip
  have HR2 := Lib.hid (HR1.out.later hb2)
  have HA2 := Lib.hid (HA1.out.trans (Apt.of_below hb2))
  have HM2 := Lib.hid hm2
  clear hb2 hm2 hW2 HBW HR1 HA1
  refine wp_region_draws g p1 (fun | 0 => fun v _ => v = mtx R C t | 1 => fun v _ => v = .pointer (some ⟨g, 0, none⟩) | 2 => fun v _ => ∃ bt, v = .int .i64 (bitI bt) | 3 => fun v wx => OW W2.heap.size v wx | 4 => fun v wx => OW W2.heap.size v wx | _ => fun _ _ => True) ?hR (by kernel_rfl) (by kernel_rfl) rfl HR2.out ?con ?en
  case hR =>
    intro i v wa wb ho hh
    match i, hh with
    | 0, hh => exact hh
    | 1, hh => exact hh
    | 2, hh => exact hh
    | 3, hh =>
      obtain ⟨xs, q1, q2⟩ := hh
      exact ⟨xs, q1, own_apt q2 ho (by omega)⟩
    | 4, hh =>
      obtain ⟨xs, q1, q2⟩ := hh
      exact ⟨xs, q1, own_apt q2 ho (by omega)⟩
    | q + 5, hh => trivial
  case con =>
    intro i o ho a wx q hq1 hq2 hax hrx hf
    match i, ho with
    | 0, ho =>
      obtain rfl := Option.some.inj ho
      have b3 : a.tmps[3]?.getD undef = .pointer (some ⟨w1.heap.size, 0, none⟩) := hf.2 3 (by kernel_rfl)
      exact wp_load_row 78 (.tmp 3) rfl w1.heap.size (eval_get b3 trivial) 78 _ (0, 0) _ ((hax.block _ (by omega) (by omega)).trans HM2.out) Try.underlying78 rfl minfo ⟨_, q, rfl, rfl, Apt.refl _ _, hrx, Nat.le_refl _, by omega⟩
    | 1, ho =>
      obtain rfl := Option.some.inj ho
      have b0 : a.tmps[0]?.getD undef = .pointer (some ⟨g, 0, none⟩) := hf.2 0 (by kernel_rfl)
      exact wp_value (.pointer (some ⟨g, 0, none⟩)) (by unfold execOp; go_simp) ⟨_, q, rfl, rfl, Apt.refl _ _, hrx, Nat.le_refl _, by omega⟩
    | 2, ho =>
      obtain rfl := Option.some.inj ho
      have e8 : a.tmps[8]?.getD undef = .pointer (some ⟨g, 0, none⟩) := hf.1 ⟨1, .data⟩ (by simp) rfl _ 8 rfl rfl
      refine wp_enterP 64 #[.pointer (some ⟨g, 0, none⟩), .int .i64 2] (fun v w' => (∃ bt, v = .int .i64 (bitI bt)) ∧ Rdr lo w' g (q + 1) ∧ Apt g wx w') (by unfold execOp; go_simp) ((pick_r g q (by simp at hq2; omega) 2 wx hrx).mono ?_) (fun v w' hh => ⟨_, q + 1, rfl, hh.1, hh.2.2, hh.2.1, by omega, by omega⟩)
      rintro e w' ⟨x, rfl, ⟨x0, _⟩, x1, r1, r2⟩
      obtain ⟨bt, rfl⟩ := bit_of x0 x1
      exact ⟨_, rfl, ⟨bt, rfl⟩, r1, r2⟩
    | 3, ho =>
      obtain rfl := Option.some.inj ho
      have e7 : a.tmps[7]?.getD undef = mtx R C t := hf.1 ⟨0, .data⟩ (by simp) rfl _ 7 rfl rfl
      obtain ⟨bt, e9⟩ : ∃ bt, a.tmps[9]?.getD undef = .int .i64 (bitI bt) := hf.1 ⟨2, .data⟩ (by simp) rfl _ 9 rfl rfl
      refine wp_enterP 72 #[mtx R C t, .int .i64 (bitI bt)] (fun v w' => OW W2.heap.size v w' ∧ Below wx.heap.size wx w') (by unfold execOp; go_simp) ((HX.out bt wx).mono ?_) (fun v w' hh => ⟨_, q, rfl, hh.1, Apt.of_below hh.2, hrx.later hh.2, by omega, by omega⟩)
      rintro e w' ⟨v, rfl, hrow, hbl⟩
      exact ⟨_, rfl, ⟨_, HXL.out bt, own_low hrow hax.size⟩, hbl⟩
    | 4, ho =>
      obtain rfl := Option.some.inj ho
      have hv : OW W2.heap.size (a.tmps[10]?.getD undef) wx := hf.1 ⟨3, .data⟩ (by simp) rfl _ 10 rfl rfl
      obtain ⟨V, hV⟩ : ∃ V, a.tmps[10]?.getD undef = V := ⟨_, rfl⟩
      rw [hV] at hv
      exact wp_value V (by unfold execOp; go_simp) ⟨_, q, rfl, hv, Apt.refl _ _, hrx, Nat.le_refl _, by omega⟩
    | q + 5, ho => simp at ho
  case en =>
    intro vs w3 p3 hq1 hq2 ha3 hr3 hall
    obtain ⟨xs, hxl, hown⟩ : OW W2.heap.size (vs 4) w3 := hall 4 _ rfl
    obtain ⟨V, hV⟩ : ∃ V, vs 4 = V := ⟨_, rfl⟩
    rw [hV] at hown
    have hq3 : p3 ≤ p1 + 2000 := by simp at hq2; omega
    have hs3 := ha3.size
    have HOWN := Lib.hid hown
    have HA3 := Lib.hid (HA2.out.trans ha3)
    have HM3 := Lib.hid ((ha3.block _ (by omega) (by omega)).trans HM2.out)
    have HP := Lib.hid (pick_r g p3 (by omega) 12 w3 hr3)
    simp only [fill, Act.put]
    rw [hV]
    clear hall hown ha3 hr3 hV HA2 HM2 HR2 HX HXL
    go_simp
    go_wp2_with fail
    refine HP.out.mono ?_
    rintro e w4 ⟨x, rfl, _, _, hr4, ha4⟩
    have hs4 := ha4.size
    have HO4 := Lib.hid (own_apt HOWN.out ha4 (by omega))
    have HA4 := Lib.hid (HA3.out.trans ha4)
    have HM4 := Lib.hid ((ha4.block _ (by omega) (by omega)).trans HM3.out)
    by_cases hx : x = 0
    · have hxb : (x == 0) = true := by rw [hx]; rfl
      have HD := Lib.hid (draw_rect8 g (p3 + 1) (by omega) R C ha.1 ha.2 hb.1 hb.2 t w4 hr4)
      have c0 : w4.cell? ⟨w1.heap.size, 0, none⟩ = some (.int .i64 (R : Int)) := cell_of_row _ _ 0 _ _ _ HM4.out
      have c1 : w4.cell? ⟨w1.heap.size, 1, none⟩ = some (.int .i64 (C : Int)) := cell_of_row _ _ 1 _ _ _ HM4.out
      have c2 : w4.cell? ⟨w1.heap.size, 2, none⟩ = some (.string t) := cell_of_row _ _ 2 _ _ _ HM4.out
      clear hr4 ha4 hx HP HOWN HA3 HM3
      go_wp2_with fail
      refine HD.out.mono ?_
      rintro e w5 ⟨u, v, rfl, hu, hv, hr5, ha5⟩
      have hs5 := ha5.size
      have HO5 := Lib.hid (own_apt HO4.out ha5 (by omega))
      have HA5 := Lib.hid (HA4.out.trans ha5)
      have HB := Lib.hid (bad_rect g (p3 + 1 + 2) (by omega) u v ⟨by omega, by omega⟩ ⟨by omega, by omega⟩ w5 hr5)
      clear hr5 ha5 HD HO4 HA4 HM4 c0 c1 c2
      go_wp2_with fail
      refine HB.out.mono ?_
      rintro e w6 ⟨a', b', p6, rfl, _, _, hp6, hp7, hr6, ha6⟩
      have hs6 := ha6.size
      have HO6 := Lib.hid (own_apt HO5.out ha6 (by omega))
      have HA6 := Lib.hid (HA5.out.trans ha6)
      have HR6 := Lib.hid hr6
      clear hr6 ha6 HB HO5 HA5
      go_wp2_with (at_builtin; have HH := HO6.out; refine wpList_append_own _ rfl (.tmp 14) (.tmp 20) 25 rfl W2.heap.size 33 i0 (.agg #[.int .i64 0, .int .i64 0]) 2 16 Try.underlying25 hi hz0 hz1 hz2 rfl (by decide) _ _ _ rfl (HH.alloc _) ⟨w6.heap.size, 0, none⟩ 1 1 [.int .i64 a', .int .i64 b'] rfl rfl ?c1 ?c2 ?c3 ?c4 ?c5 ?c6; go_must (case c1 => exact (two_new _ _ _ _)); go_must (case c2 => simp [Value.oneCell']); go_must (case c3 => unfold maxLen; omega); go_must (case c4 => omega); go_must (case c5 => simp; omega); go_must (clear HH; intro v' w7 hown7 hgrow7 hnil7; have HO7 := Lib.hid hown7; have HG7 := Lib.hid hgrow7; clear hown7 hgrow7 hnil7))
      have hbl : Below w6.heap.size w6 (w6.alloc (.cells #[.int .i64 a', .int .i64 b'] 33)) := (Below.refl _ _).alloc (Nat.le_refl _) _
      have HR7 := Lib.hid (rdr_grown (HR6.out.later hbl) HG7.out (fun q hq => by have := (HO6.out.lt q hq).1; omega))
      have HA7 := Lib.hid (apt_grown (HA6.out.trans (Apt.of_below hbl)) HG7.out (fun q hq => by have := (HO6.out.lt q hq).1; omega))
      clear hbl
      first | (go_wp2_with fail) | skip
      go_ret
      refine ⟨_, xs ++ [(a', b')], p6, rfl, by simp; omega, ?_, by omega, by omega, HR7.out, HA7.out⟩
      rw [List.length_append, flat_next]
      exact own_low HO7.out (by omega)
    · have hxb : (x == 0) = false := by rw [beq_eq_false_iff_ne]; exact hx
      have HR4 := Lib.hid hr4
      clear hr4 ha4 hx HP HOWN HA3 HM3 HM4
      go_wp2_with fail
      go_ret
      exact ⟨_, xs, p3 + 1, rfl, by omega, own_low HO4.out (by omega), by omega, by omega, HR4.out, HA4.out⟩
end Go.Proofs.Ytcafingoghoijaa.DrawQ

/-
  A range over a function whose iterator ranges over another one: the contract 'SeqAll' of such an iterator (no round leaves early; all but the
  loop's own record and one named block lies as it lay across a round), and the law for the loop over it.
-/
namespace Go.Proofs.Ytcafingoghoijaa.Range
open Go Go.RowKit
set_option linter.unusedVariables false

/-- all blocks but l and b lie as they lay -/
structure KeepBut (b l : Nat) (A B : World) : Prop where
  size : A.heap.size ≤ B.heap.size
  same : ∀ k, k < A.heap.size → k ≠ l → k ≠ b → B.heap[k]? = A.heap[k]?
theorem KeepBut.refl (b l : Nat) (A : World) : KeepBut b l A A := ⟨Nat.le_refl _, fun _ _ _ _ => rfl⟩
theorem KeepBut.trans {b l : Nat} {A B C : World} (h : KeepBut b l A B) (k : KeepBut b l B C) : KeepBut b l A C :=
  ⟨Nat.le_trans h.size k.size, fun i hi h1 h2 => (k.same i (Nat.lt_of_lt_of_le hi h.size) h1 h2).trans (h.same i hi h1 h2)⟩
theorem KeepBut.put (b l : Nat) (W : World) (o : Obj) : KeepBut b l W (W.putObj l o) := ⟨by simp, fun k _ hk _ => World.putObj_heap_other hk⟩
theorem KeepBut.of_below {b l : Nat} {A B : World} (h : Below A.heap.size A B) : KeepBut b l A B := ⟨h.size, fun k hk _ _ => h.block k hk⟩
theorem KeepBut.of_grown {b l : Nat} {A B : World} (h : A.grownBy B (some b)) : KeepBut b l A B := ⟨h.size, fun k hk _ hb => h.block k hk (fun e => hb (Option.some.inj e))⟩
theorem KeepBut.cell {b l : Nat} {A B : World} (h : KeepBut b l A B) {p : Addr} {v : Value} (hc : A.cell? p = some v) (h1 : p.block ≠ l) (h2 : p.block ≠ b) : B.cell? p = some v := by
  have hlt : p.block < A.heap.size := World.block_lt_of_cell? A p hc
  exact (World.cell?_of_block (h.same _ hlt h1 h2)).trans hc
theorem KeepBut.obj {b l : Nat} {A B : World} (h : KeepBut b l A B) {k : Nat} {o : Obj} (hk : A.heap[k]? = some o) (h1 : k ≠ l) (h2 : k ≠ b) : B.heap[k]? = some o :=
  (h.same k (Array.getElem?_eq_some_iff.1 hk).1 h1 h2).trans hk
theorem KeepBut.from_ {b l : Nat} {A B : World} (h : KeepBut b l A B) {n : Nat} (h1 : l < n) (h2 : b < n) : KeepsFrom n A B := ⟨h.size, fun k o hk ho _ => h.obj ho (by omega) (by omega)⟩

/-- an iterator whose rounds all go on -/
def SeqAll {α : Type} (F : Fence) (n : Nat) (P : Program) (g : Nat) (lb : Array Value) (encs : α → Array Value) (b : Nat) (S : List α → Prop) (N : Nat) (w : World) : Prop :=
  ∀ (l : Nat) (J : List α → World → Prop) (W : World), Below w.heap.size w W → w.heap.size ≤ l → l < W.heap.size → OwnFrom W.heap.size J →
    (∀ pre x W1, J pre W1 → pre.length < N → YieldAt F (n - 1) P l (encs x) W1 fun e W' => e = .returned (.bool true) ∧ J (pre ++ [x]) W' ∧ KeepBut b l W1 W') →
    J [] W →
    CallsIn F n P g (#[.func (.yield l) #[] #[]] ++ lb) W fun e W' => (∃ v, e = .returned v) ∧ ∃ xs, S xs ∧ J xs W'

/-- how a round's body is left: it goes on -/
def goesOn (B b l : Nat) {α : Type} (I : List α → World → Prop) (xs : List α) (W : World) : Exit → Act → World → Prop
  | .normal, _, W' => KeepsFrom B W W' ∧ KeepBut b l W W' ∧ I xs W'
  | _, _, _ => False

theorem wp_range_all {F : Fence} {n : Nat} {P : Program} {α : Type} {g : Operand} {ps : Array Tmp} {assign body : Code} {Q : Exit → Act → World → Prop} {a : Act} {w : World}
    (hro : F.round = none) (h1 : 1 ≤ n) {gf : Nat} {lb : Array Value} (hg : a.eval g = .func (.func gf) #[] lb) (hFg : F.fn gf) (eg : ∀ args w, (callFunc gf args).run P w = .ok (.enter gf args) w)
    {encs : α → Array Value} {b : Nat} {S : List α → Prop} {N : Nat} {w0 : World} (hseq : SeqAll F (n - 1) P gf lb encs b S N w0)
    (hb0 : Below w0.heap.size w0 w) (hps : ∀ x, (encs x).size = ps.size)
    (I : List α → World → Prop) (hI : OwnFrom w.heap.size I) (h0 : I [] w) (Ax : α → Act → World → Prop) (hAx : ∀ x a', OwnFrom w.heap.size (fun (_ : Unit) W => Ax x a' W))
    (hassign : ∀ (l : Nat) (pre : List α) (x : α) (W : World) (K : Act → World → Prop), w.heap.size < l → I pre W → (∀ a' W', KeepsFrom w.heap.size W W' → KeepBut b l W W' → I pre W' → Ax x a' W' → K a' W') →
      assign.wpIn (F.inRound l) (n - 1 - 1) P (Exit.then K (fun _ _ _ => False)) { tmps := (ps.zip (encs x)).foldl (fun t (p, v) => t.setIfInBounds p v) a.tmps, defers := [] } W)
    (hbody : ∀ (l : Nat) (pre : List α) (x : α) (a' : Act) (W : World), w.heap.size < l → l < W.heap.size → I pre W → Ax x a' W → pre.length < N → body.wpIn (F.inRound l) (n - 1 - 1) P (goesOn w.heap.size b l I (pre ++ [x]) W) a' W)
    (hdone : ∀ (D : Nat) (xs : List α) (W : World), w.heap.size ≤ D → S xs → I xs W → W.heap[D]? = some (.deferred (some [])) → Q .normal { a with defers := { target := .collected D, args := #[] } :: a.defers } W) :
    (Code.rangeFunc g ps assign body).wpIn F n P Q a w := by
  refine wpIn_rangeFunc ?_
  intro fn hfn
  rw [hro]
  obtain ⟨rec, hrec⟩ : ∃ rec : LoopState → Option Code → Loop, rec = fun st pe => { state := st, pending := pe, fn, tmps := a.tmps, params := ps, assign, body, defers := w.heap.size } := ⟨_, rfl⟩
  obtain ⟨W1, hW1⟩ : ∃ W1, (w.alloc (.deferred (some []))).alloc (.loop (rec .ready none)) = W1 := ⟨_, rfl⟩
  have hsz : W1.heap.size = w.heap.size + 2 := by rw [← hW1]; simp
  have hL1 : W1.heap[w.heap.size + 1]? = some (.loop (rec .ready none)) := by
    rw [← hW1]
    have := World.alloc_heap_new (w.alloc (.deferred (some []))) (.loop (rec .ready none))
    rwa [World.size_alloc] at this
  have hK1 : W1.heap[w.heap.size]? = some (.deferred (some [])) := by
    rw [← hW1]
    exact (Below.heap_alloc _ _ _ (by simp)).trans (World.alloc_heap_new w _)
  have hI1 : I [] W1 := by rw [← hW1]; exact hI.alloc _ (hI.alloc _ h0)
  have hb1 : Below w0.heap.size w0 W1 := by
    rw [← hW1]
    exact hb0.trans ((((Below.refl _ w).alloc (Nat.le_refl _) _).alloc (by simp) _).mono hb0.size)
  refine ⟨w.heap.size + 1, [{ target := .collected w.heap.size, args := #[] }], W1, { target := .fn (.func gf) lb, args := #[.func (.yield (w.heap.size + 1)) #[] #[]] }, W1, gf,
    #[.func (.yield (w.heap.size + 1)) #[] #[]] ++ lb, W1, ?_, ?_, ?_, ?_, fun _ => h1, ?_⟩
  · rw [← hW1, hrec]
    exact run_enterLoop_outer _ _ _ _ _
  · simp only [resolve, hg]
    simp [go_sem]
  · intro f' hf'
    simp [Target.leads] at hf'
    subst hf'
    exact hFg
  · simp [invoke, go_sem, eg]
  · have keepB : ∀ {A B : World} {row : Option Nat} {k : Nat} {o : Obj}, A.grownBy B row → (∀ r, row = some r → W1.heap.size ≤ r ∧ ∃ o : Obj, A.heap[r]? = some o ∧ o.isCells = false) → A.heap[k]? = some o → k < W1.heap.size → B.heap[k]? = some o := by
      intro A B row k o hg' hr hk hlt
      refine (hg'.block k (Array.getElem?_eq_some_iff.1 hk).1 (fun e => ?_)).trans hk
      have := (hr k e.symm).1
      omega
    refine (hseq (w.heap.size + 1)
      (fun pre W => I pre W ∧ W.heap[w.heap.size + 1]? = some (.loop (rec .ready none)) ∧ W.heap[w.heap.size]? = some (.deferred (some [])))
      W1 hb1 (by have := hb0.size; omega) (by omega)
      (fun s A B row hs hg' hr => ⟨hI s A B row hs.1 hg' (fun r e => ⟨by have := (hr r e).1; omega, (hr r e).2⟩), keepB hg' hr hs.2.1 (by omega), keepB hg' hr hs.2.2 (by omega)⟩)
      ?_ ⟨hI1, hL1, hK1⟩).mono ?_
    · rintro pre x W ⟨hi, hl, hk⟩ hlen
      have hlt : w.heap.size + 1 < W.heap.size := (Array.getElem?_eq_some_iff.1 hl).1
      have hy := run_yield (P := P) (args := encs x) hl (by rw [hrec]; exact hps x)
      rw [hrec] at hy
      refine ⟨fn, _, assign, body, hy, roundIn_of_wpIn hfn (hassign _ pre x W _ (by omega) hi ?_)⟩
      clear hy
      intro a' Wa hkfa hkpa hia hax
      have hla := hkfa.same _ _ (by omega) hl rfl
      have hka := hkfa.same _ _ (Nat.le_refl _) hk rfl
      have hlta : w.heap.size + 1 < Wa.heap.size := (Array.getElem?_eq_some_iff.1 hla).1
      refine ⟨_, run_beginRound hla (by rw [hrec]), ?_⟩
      have hl2 : (Wa.putObj (w.heap.size + 1) (.loop { rec .ready none with state := .busy })).heap[w.heap.size + 1]? = some (.loop { rec .ready none with state := .busy }) := World.putObj_heap_same hlta
      have hk2 : (Wa.putObj (w.heap.size + 1) (.loop { rec .ready none with state := .busy })).heap[w.heap.size]? = some (.deferred (some [])) := (World.putObj_heap_other (by omega)).trans hka
      refine wpIn_mono (hbody _ pre x a' _ (by omega) (Array.getElem?_eq_some_iff.1 hl2).1 (hI.putObj _ hia (by omega) hla rfl) ((hAx x a').putObj (s := ()) _ hax (by omega) hla rfl) hlen) ?_
      rintro e a3 W3 hp
      cases e with
      | normal =>
        obtain ⟨hk3, hkp3, hi3⟩ := hp
        have hl3 := hk3.same _ _ (by omega) hl2 rfl
        have hr := run_endRound (P := P) none hl3
        rw [hrec] at hr
        rw [hrec] at hl3
        refine ⟨_, _, hr, rfl, ⟨hI.putObj _ hi3 (by omega) hl3 rfl, ?_, (World.putObj_heap_other (by omega)).trans (hk3.same _ _ (Nat.le_refl _) hk2 rfl)⟩, ?_⟩
        · rw [hrec]
          exact World.putObj_heap_same (Array.getElem?_eq_some_iff.1 hl3).1
        · exact (hkpa.trans ((KeepBut.put _ _ _ _).trans hkp3)).trans (KeepBut.put _ _ _ _)
      | ret => exact hp.elim
      | exit id => exact hp.elim
      | goto t => exact hp.elim
      | panic ch => exact hp.elim
      | outgrown => exact hp.elim
    · rintro e W2 ⟨⟨v, rfl⟩, xs, hS, hi, hl, hk⟩
      exact ⟨none, _, by have := run_endLoop (P := P) hl (by rw [hrec]; simp); rw [hrec] at this; exact this, hdone _ xs _ (Nat.le_refl _) hS (hI.putObj _ hi (by omega) hl rfl) ((World.putObj_heap_other (by omega)).trans hk)⟩
end Go.Proofs.Ytcafingoghoijaa.Range

