/-
  Texts of one seat, joined: KeysI, MaxS, Rects.
-/
import Derived.Test.YtohkllmhknjkoaaDoorJp1
import Derived.Test.YtohkllmhknjkoaaDoorJp19
import Derived.Test.YtohkllmhknjkoaaDoorJp5
import Derived.RangeFuncBox
import Derived.RangeFuncFrom
import Derived.Maps.AppendAt
import Derived.Test.YtohkllmhknjkoaaDoorJp18
import Derived.Test.YtohkllmhknjkoaaDoorJp3
import Derived.Test.YtohkllmhknjkoaaDoorJp4
import Derived.Laws.MakeOwn
import Derived.Deep.MidRow
import Derived.Test.YtohkllmhknjkoaaDoorJp17
/-
  maps.Keys over a map keyed by rectangles; slices.AppendSeq and slices.Collect of its keys.
-/
namespace Go.Proofs.YtohkllmhknjkoaaDoor.KeysI
open Go.RowKit Go.Maps Go.Sort Go.Shelf Go.Proofs.YtohkllmhknjkoaaDoor.Plain Go.Proofs.YtohkllmhknjkoaaDoor.Rect Go.Proofs.YtohkllmhknjkoaaDoor.KeysR
set_option linter.unusedVariables false
attribute [local go_sem] Oper.semAt_some

/-- a rectangle as yield's argument -/
abbrev encP (p : Int × Int) : Array Value := #[rect p.1 p.2]
/-- what has come, each once -/
def AllOf (L ss : List (Int × Int)) : Prop := ss.Nodup ∧ ∀ p, p ∈ ss ↔ p ∈ L

/-- rectangles' cells -/
def flat (ss : List (Int × Int)) : List Value := ss.flatMap fun p => [.int .i64 p.1, .int .i64 p.2]
theorem flat_next (pre : List (Int × Int)) (x : Int × Int) : flat (pre ++ [x]) = flat pre ++ [.int .i64 x.1, .int .i64 x.2] := by simp [flat]
theorem infoK : (Tryd.prog.info? 39).map (fun i => (i.zero, i.size, i.bytes)) = some (some (.agg #[.int .i64 0, .int .i64 0]), 2, 16) := by kernel_rfl
theorem two_new (w : World) (x y : Value) (t : TypeId) : ∀ j u, [x, y][j]? = some u → (w.alloc (.cells #[x, y] t)).cell? ((⟨w.heap.size, 0, none⟩ : Addr).add j) = some u := by
  intro j u hj
  match j, hj with
  | 0, hj => obtain rfl := Option.some.inj hj; exact cell_of_row _ _ 0 _ _ _ (heap_alloc_new w _)
  | 1, hj => obtain rfl := Option.some.inj hj; exact cell_of_row _ _ 1 _ _ _ (heap_alloc_new w _)
  | j + 2, hj => simp at hj

end Go.Proofs.YtohkllmhknjkoaaDoor.KeysI

/-
  The reference's l2Maximal and MaximalRects.
-/
namespace Go.Proofs.YtohkllmhknjkoaaDoor.MaxS
open Go.RowKit Go.Proofs.YtohkllmhknjkoaaDoor.Plain Go.Proofs.YtohkllmhknjkoaaDoor.Base Go.Proofs.YtohkllmhknjkoaaDoor.Valid Go.Proofs.YtohkllmhknjkoaaDoor.Law Go.Proofs.YtohkllmhknjkoaaDoor.GridPlain Go.Proofs.YtohkllmhknjkoaaDoor.Grid Go.Proofs.YtohkllmhknjkoaaDoor.Entry Go.Proofs.YtohkllmhknjkoaaDoor.Pat Go.Proofs.YtohkllmhknjkoaaDoor.Rect Go.Proofs.YtohkllmhknjkoaaDoor.Board Go.Proofs.YtohkllmhknjkoaaDoor.BoardM Go.Proofs.YtohkllmhknjkoaaDoor.RValid Go.Proofs.YtohkllmhknjkoaaDoor.Colour Go.Proofs.YtohkllmhknjkoaaDoor.Where Go.Proofs.YtohkllmhknjkoaaDoor.Turn1 Go.Proofs.YtohkllmhknjkoaaDoor.Cols Go.Proofs.YtohkllmhknjkoaaDoor.MaxM Go.Proofs.YtohkllmhknjkoaaDoor.App
open Go.Proofs.YtohkllmhknjkoaaDoor.KeysI (flat flat_next infoK two_new)
set_option linter.unusedVariables false

theorem own_lower {w : World} {B B' : Nat} {e : TypeId} {k n : Nat} {v : Value} {xs : List Value} (h : w.ownsRow B e k v n xs) (hB : B' ≤ B) : w.ownsRow B' e k v n xs := by
  refine ⟨h.1, ?_⟩
  rcases h.2 with h2 | ⟨g, cap, cur, h2, h3, h4⟩
  · exact .inl h2
  · exact .inr ⟨g, cap, cur, h2, Nat.le_trans hB h3, h4⟩

set_option maxHeartbeats 4000000 in
set_option maxRecDepth 100000 in
theorem l2_maximal (E : Nat → Nat → Bool) (R C : Nat) (hR1 : 1 ≤ R) (hR : R ≤ 8) (hC1 : 1 ≤ C) (hC : C ≤ 8) (b : Bool) (w : World) :
    Calls Tryd.prog 112 #[mat R C (str (rowsB E R C)), .int .i64 (bitI b)] w fun e w' => ∃ v, e = .returned v ∧ w'.ownsRow w.heap.size 39 2 v (mx E b R C (2 ^ R - 1)).length (flat (mx E b R C (2 ^ R - 1))) ∧ Below w.heap.size w w' := by
  obtain ⟨i0, hi, hz0, hz1, hz2⟩ := info_parts infoK
  have HCOL := Lib.hid (fun S hS W => cols_any E R C hR1 hR hC1 hC S hS b W)
  have HROW := Lib.hid (fun S hS W => rows_any E R C hR1 hR hC1 hC S hS b W)
  have HLEN := Lib.hid (fun k => mx_len E b R C k)
  have HN0 : Hid (mx E b R C 0 = []) := rfl
  have HNX : Hid (∀ q, mx E b R C (q + 1) = mx E b R C q ++ (if 0 < cS E b R C (q + 1) ∧ rS E b R C (cS E b R C (q + 1)) = q + 1 then [(((q + 1 : Nat) : Int), ((cS E b R C (q + 1) : Nat) : Int))] else [])) := fun q => rfl
  have HCL : Hid (∀ S, cS E b R C S < 256) := fun S => Nat.lt_of_lt_of_le (cS_lt E b R C S) (Nat.pow_le_pow_right (n := 2) (by decide) hC)
  have HRL : Hid (∀ T, rS E b R C T < 256) := fun T => Nat.lt_of_lt_of_le (rS_lt E b R C T) (Nat.pow_le_pow_right (n := 2) (by decide) hR)
  obtain ⟨hpw, hp1, hp2⟩ := pow8 R hR
  have hp3 : 2 ≤ 2 ^ R := by
    have := Nat.pow_le_pow_right (n := 2) (by decide) hR1
    omega
  generalize str (rowsB E R C) = s at *
  generalize 2 ^ R = N at *
  obtain ⟨bi, hbi⟩ : ∃ bi, bitI b = bi := ⟨_, rfl⟩
  rw [hbi] at HCOL HROW ⊢
  clear hbi
  go_enter Tryd.func112, Tryd.ntmps112
  go_wp2_with fail
  have e0 : MHolds (w.alloc (.cells #[.int .i64 (R : Int), .int .i64 (C : Int), .string s] 26)) w.heap.size 26 R C s := heap_alloc_new w _
  have hb0 : Below w.heap.size w (w.alloc (.cells #[.int .i64 (R : Int), .int .i64 (C : Int), .string s] 26)) := (Below.refl w.heap.size w).alloc (Nat.le_refl _) _
  have hs0 : w.heap.size ≤ (w.alloc (.cells #[.int .i64 (R : Int), .int .i64 (C : Int), .string s] 26)).heap.size := hb0.size
  have hsz : (w.alloc (.cells #[.int .i64 (R : Int), .int .i64 (C : Int), .string s] 26)).heap.size = w.heap.size + 1 := by simp
  generalize w.alloc (.cells #[.int .i64 (R : Int), .int .i64 (C : Int), .string s] 26) = W0 at *
  have HO0 : Hid (App.Own W0 (W0.alloc (.cells #[] 39)) 39 2 (.slice (some ⟨w.heap.size + 1, 0, none⟩) 0 0) (mx E b R C 0).length (flat (mx E b R C 0))) := by
    have h := App.Own.lit W0 39 2
    rw [hsz] at h
    exact h
  have HE := Lib.hid e0
  have HB0 := Lib.hid (And.intro hb0 hs0)
  clear e0 hb0 hs0 hsz
  go_loopw [5, 6] (fun v i wr => ∃ q : Nat, q + 1 ≤ N ∧ i = .int .i64 ((q + 1 : Nat) : Int) ∧ Hid (App.Own W0 wr 39 2 v (mx E b R C q).length (flat (mx E b R C q)))) (fun _ i _ => N - (intOf i).toNat)
  case atStart => exact ⟨0, by omega, rfl, HO0⟩
  case round =>
    obtain ⟨q, hq, rfl, HO⟩ := hrel
    clear HO0
    have hml := HLEN.out q
    obtain ⟨q0, q1, q2⟩ := mh_c (mh_on HE.out HO.out.below)
    obtain ⟨p, cp, rfl⟩ := HO.out.slice
    by_cases hlt : q + 1 < N
    · have HCC := Lib.hid (fun W => HCOL.out (q + 1) (by omega) W)
      have HRR := Lib.hid (fun W => HROW.out (cS E b R C (q + 1)) (HCL.out _) W)
      have hcl := HCL.out (q + 1)
      have hrl := HRL.out (cS E b R C (q + 1))
      have HX := Lib.hid (HNX.out q)
      have e1 : (setB (fun y => allTo E (q + 1) b y R) C : Nat) = cS E b R C (q + 1) := rfl
      have e2 : (setB (fun x => allTo (fun y x => E x y) (cS E b R C (q + 1)) b x C) R : Nat) = rS E b R C (cS E b R C (q + 1)) := rfl
      rw [e1] at HCC
      rw [e2] at HRR
      clear e1 e2
      generalize rS E b R C (cS E b R C (q + 1)) = r' at HRR hrl HX
      generalize cS E b R C (q + 1) = c at HCC HRR hcl HX
      obtain ⟨l0, hl0⟩ : ∃ l0, mx E b R C q = l0 := ⟨_, rfl⟩
      rw [hl0] at HX HO hml ⊢
      obtain ⟨k, hk⟩ : ∃ k, q + 1 = k := ⟨_, rfl⟩
      have HQ := Lib.hid (And.intro hl0 hk)
      rw [hk] at HCC HX hlt ⊢
      have hk1 : 1 ≤ k := by omega
      have hlk : l0.length ≤ 300 := by omega
      have hkl : (k : Int) < (N : Int) := by omega
      clear hl0 hk hq hml
      generalize hnn : l0.length = nn at HO hlk ⊢
      have HNN := Lib.hid hnn
      clear hnn
      go_wp2_with fail
      refine (HCC.out _).mono ?_
      rintro e w2 ⟨rfl, hb2⟩
      have HO2 := Lib.hid (HO.out.later hb2)
      clear hb2 q0 q1 q2 HO HCC
      obtain ⟨q0, q1, q2⟩ := mh_c (mh_on HE.out HO2.out.below)
      by_cases hc0 : 0 < c
      · have hci : (0 : Int) < (c : Int) := by omega
        go_wp2_with fail
        refine (HRR.out _).mono ?_
        rintro e w3 ⟨rfl, hb3⟩
        have HO3 := Lib.hid (HO2.out.later hb3)
        clear hb3 q0 q1 q2 HO2 HRR
        by_cases hrk : r' = k
        · subst hrk
          have HX1 := Lib.hid (HX.out.trans (by rw [if_pos ⟨hc0, rfl⟩]))
          have hbe : (((r' : Nat) : Int) == ((r' : Nat) : Int)) = true := by simp
          go_wp2_with (at_builtin; have HH := HO3.out; refine wpList_append_own _ rfl (.tmp 31) (.tmp 35) 32 rfl W0.heap.size 39 i0 (.agg #[.int .i64 0, .int .i64 0]) 2 16 Tryd.underlying32 hi hz0 hz1 hz2 rfl (by decide) _ _ _ rfl (HH.row.alloc _) ⟨w3.heap.size, 0, none⟩ 1 1 [.int .i64 (r' : Int), .int .i64 (c : Int)] rfl rfl ?a1 ?a2 ?a3 ?a4 ?a5 ?a6; go_must (case a1 => exact (two_new _ _ _ _)); go_must (case a2 => simp [Value.oneCell']); go_must (case a3 => (unfold maxLen; omega)); go_must (case a4 => omega); go_must (case a5 => (have := HH.below.size; simp at this ⊢; omega)); go_must (clear HH; intro v3 w3 hown3 hgrow3 _; have H3 := Lib.hid (App.Own.next HO3.out _ hown3 hgrow3); clear HO3 hown3 hgrow3))
          go_roundw
          case rel => exact ⟨r', by omega, by go_num, by rw [HX1.out, List.length_append, HNN.out, flat_next]; exact H3⟩
          case measure => simp [intOf]; omega
        · have hne : (((r' : Nat) : Int) == ((k : Nat) : Int)) = false := by simp; omega
          have HX1 := Lib.hid (HX.out.trans (by rw [if_neg (fun h => hrk h.2), List.append_nil]))
          go_wp2_with fail
          go_roundw
          case rel => exact ⟨k, by omega, by go_num, by rw [HX1.out, HNN.out]; exact HO3⟩
          case measure => simp [intOf]; omega
      · have hci : ¬ (0 : Int) < (c : Int) := by omega
        have HX1 := Lib.hid (HX.out.trans (by rw [if_neg (fun h => hc0 h.1), List.append_nil]))
        go_wp2_with fail
        go_roundw
        case rel => exact ⟨k, by omega, by go_num, by rw [HX1.out, HNN.out]; exact HO2⟩
        case measure => simp [intOf]; omega
    · obtain rfl : N = q + 1 := by omega
      go_wp2_with fail
      go_ret
      exact ⟨_, rfl, own_lower (by rw [show q + 1 - 1 = q by omega]; exact HO.out.row) HB0.out.2, HB0.out.1.trans (HO.out.below.mono HB0.out.2)⟩

set_option maxHeartbeats 1000000 in
theorem spec_no (r c : Int) (s : ByteArray) (hs : s.size ≤ maxLen) (bit : Int) (b : Bool) (hb : validB r c s = b) (h : b = false ∨ (bit ≠ 0 ∧ bit ≠ 1)) (w : World) :
    Calls Tryd.prog 60 #[mat r c s, .int .i64 bit] w fun e w' => ∃ v, e = .returned v ∧ w'.ownsRow w.heap.size 39 2 v 0 (flat []) ∧ Below w.heap.size w w' := by
  have HV := Lib.hid hb
  have HH := Lib.hid h
  clear hb h
  have own0 : ∀ W : World, w.heap.size ≤ W.heap.size → (W.alloc (.cells #[] 39)).ownsRow w.heap.size 39 2 (.slice (some ⟨W.heap.size, 0, none⟩) 0 0) 0 (flat []) := fun W hW => own_lower (App.Own.lit W 39 2).row hW
  have HO := Lib.hid own0
  clear own0
  go_enter Tryd.func60, Tryd.ntmps60
  go_wp2_with fail
  refine (spec_valid r c s hs _).mono ?_
  rintro e w1 ⟨rfl, hb1⟩
  rw [HV.out]
  have HB := Lib.hid (bstep ((Below.refl w.heap.size w).alloc (Nat.le_refl _) _) hb1)
  clear hb1
  cases b
  · go_wp2_with fail
    go_ret
    exact ⟨_, rfl, HO.out _ HB.out.size, HB.out.alloc HB.out.size _⟩
  · have HN : Hid (decide (0 ≤ bit ∧ bit ≤ 1) = false) := decide_eq_false (by have := HH.out; simp at this; omega)
    go_wp2_with fail
    refine (in_any bit 0 1 _).mono ?_
    rintro e w' ⟨rfl, rfl⟩
    rw [HN.out]
    go_wp2_with fail
    go_ret
    exact ⟨_, rfl, HO.out _ HB.out.size, HB.out.alloc HB.out.size _⟩

set_option maxHeartbeats 1000000 in
theorem spec_yes (E : Nat → Nat → Bool) (R C : Nat) (hR1 : 1 ≤ R) (hR : R ≤ 8) (hC1 : 1 ≤ C) (hC : C ≤ 8) (hs : (str (rowsB E R C)).size ≤ maxLen) (hv : validB R C (str (rowsB E R C)) = true) (b : Bool) (w : World) :
    Calls Tryd.prog 60 #[mat R C (str (rowsB E R C)), .int .i64 (bitI b)] w fun e w' => ∃ v, e = .returned v ∧ w'.ownsRow w.heap.size 39 2 v (mx E b R C (2 ^ R - 1)).length (flat (mx E b R C (2 ^ R - 1))) ∧ Below w.heap.size w w' := by
  have HL := Lib.hid (fun W => l2_maximal E R C hR1 hR hC1 hC b W)
  have HV := Lib.hid hv
  generalize mx E b R C (2 ^ R - 1) = l at *
  generalize str (rowsB E R C) = s at *
  have HN : Hid (decide (0 ≤ bitI b ∧ bitI b ≤ 1) = true) := decide_eq_true (by cases b <;> decide)
  generalize bitI b = bit at *
  clear hv
  go_enter Tryd.func60, Tryd.ntmps60
  go_wp2_with fail
  refine (spec_valid R C s hs _).mono ?_
  rintro e w1 ⟨rfl, hb1⟩
  rw [HV.out]
  have hm := mh_on (w1 := w1) (show MHolds (w.alloc (.cells #[.int .i64 (R : Int), .int .i64 (C : Int), .string s] 26)) w.heap.size 26 R C s from heap_alloc_new w _) hb1
  have HB := Lib.hid (bstep ((Below.refl w.heap.size w).alloc (Nat.le_refl _) _) hb1)
  clear hb1
  obtain ⟨q0, q1, q2⟩ := mh_c hm
  clear hm
  go_wp2_with fail
  refine (in_any bit 0 1 _).mono ?_
  rintro e w' ⟨rfl, rfl⟩
  rw [HN.out]
  go_wp2_with fail
  refine (HL.out _).mono ?_
  rintro e w2 ⟨v, rfl, ho, hb2⟩
  have HO := Lib.hid (And.intro (own_lower ho HB.out.size) (HB.out.trans (hb2.mono HB.out.size)))
  clear ho hb2
  go_wp2_with fail
  go_ret
  exact ⟨_, rfl, HO.out.1, HO.out.2⟩
end Go.Proofs.YtohkllmhknjkoaaDoor.MaxS

/-
  A slice of rectangles as a value; contracts of the laws' own small functions on it: szRectS, toRectS, eqRectS.
-/
namespace Go.Proofs.YtohkllmhknjkoaaDoor.Rects
open Go.RowKit Go.Proofs.YtohkllmhknjkoaaDoor.Plain Go.Proofs.YtohkllmhknjkoaaDoor.Base Go.Proofs.YtohkllmhknjkoaaDoor.Law Go.Proofs.YtohkllmhknjkoaaDoor.Pat Go.Proofs.YtohkllmhknjkoaaDoor.Rect Go.Proofs.YtohkllmhknjkoaaDoor.FreeL Go.Proofs.YtohkllmhknjkoaaDoor.Board
open Go.Proofs.YtohkllmhknjkoaaDoor.Free (fill wp_value wp_enter wp_load_row freeB)
set_option linter.unusedVariables false

/-- v is a slice of these rectangles, in blocks that lie below B -/
def RV (w : World) (B : Nat) (v : Value) (xs : List (Int × Int)) : Prop :=
  xs.length ≤ 9223372036854775807 ∧ ((v = .slice none 0 0 ∧ xs = []) ∨ ∃ b off c, v = .slice (some ⟨b, off, none⟩) xs.length c ∧ b < B ∧
    ∀ j (hj : j < xs.length), w.cell? ⟨b, off + j * 2, none⟩ = some (.int .i64 xs[j].1) ∧ w.cell? ⟨b, off + j * 2 + 1, none⟩ = some (.int .i64 xs[j].2))
theorem RV.later {w w1 : World} {B : Nat} {v : Value} {xs : List (Int × Int)} (h : RV w B v xs) (hB : B ≤ w.heap.size) (hb : Below w.heap.size w w1) : RV w1 B v xs := by
  refine ⟨h.1, ?_⟩
  rcases h.2 with h2 | ⟨b, off, c, rfl, hlt, hc⟩
  · exact .inl h2
  · exact .inr ⟨b, off, c, rfl, hlt, fun j hj => ⟨(hb.cell (p := ⟨b, off + j * 2, none⟩) (by show b < _; omega)).trans (hc j hj).1, (hb.cell (p := ⟨b, off + j * 2 + 1, none⟩) (by show b < _; omega)).trans (hc j hj).2⟩⟩
theorem RV.mono {w : World} {B B' : Nat} {v : Value} {xs : List (Int × Int)} (h : RV w B v xs) (hB : B ≤ B') : RV w B' v xs := by
  refine ⟨h.1, ?_⟩
  rcases h.2 with h2 | ⟨b, off, c, rfl, hlt, hc⟩
  · exact .inl h2
  · exact .inr ⟨b, off, c, rfl, by omega, hc⟩
theorem RV.slice {w : World} {B : Nat} {v : Value} {xs : List (Int × Int)} (h : RV w B v xs) : ∃ p k, v = .slice p xs.length k := by
  rcases h.2 with ⟨rfl, rfl⟩ | ⟨b, off, c, rfl, _, _⟩
  · exact ⟨none, 0, rfl⟩
  · exact ⟨_, _, rfl⟩

theorem rinfos : (Tryd.prog.info? 39).map (fun i => (i.zero, i.size, i.bytes)) = some (some (.agg #[.int .i64 0, .int .i64 0]), 2, 16) := by kernel_rfl

/-- the copy so far -/
structure Out (w wr : World) (b : Nat) (xs : List (Int × Int)) (k : Nat) : Prop where
  cells : ∀ j (hj : j < xs.length), j < k → wr.cell? ⟨b, j * 2, none⟩ = some (.int .i64 xs[j].1) ∧ wr.cell? ⟨b, j * 2 + 1, none⟩ = some (.int .i64 xs[j].2)
  there : wr.there b 0 (xs.length * 2)
  below : Below w.heap.size w wr
  lo : w.heap.size ≤ b
  hi : b < wr.heap.size
theorem Out.later {w wr w2 : World} {b : Nat} {xs : List (Int × Int)} {k : Nat} (h : Out w wr b xs k) (hb : Below wr.heap.size wr w2) : Out w w2 b xs k :=
  ⟨fun j hj hk => ⟨(hb.cell (p := ⟨b, j * 2, none⟩) h.hi).trans (h.cells j hj hk).1, (hb.cell (p := ⟨b, j * 2 + 1, none⟩) h.hi).trans (h.cells j hj hk).2⟩,
   fun j hj => ⟨by rw [hb.cell (p := ⟨b, 0 + j, none⟩) h.hi]; exact (h.there j hj).1, by rw [hb.frozen (p := ⟨b, 0 + j, none⟩) h.hi]; exact (h.there j hj).2⟩,
   rstep h.below hb, h.lo, Nat.lt_of_lt_of_le h.hi hb.size⟩
theorem Out.place {w wr : World} {b : Nat} {xs : List (Int × Int)} {k : Nat} (h : Out w wr b xs k) (hk : k < xs.length) :
    (∃ u, wr.cell? ⟨b, k * 2, none⟩ = some u) ∧ (∃ u, wr.cell? ⟨b, k * 2 + 1, none⟩ = some u) ∧ wr.frozen? ⟨b, k * 2, none⟩ = false ∧ wr.frozen? ⟨b, k * 2 + 1, none⟩ = false := by
  have h0 := h.there (k * 2) (by omega)
  have h1 := h.there (k * 2 + 1) (by omega)
  rw [Nat.zero_add] at h0 h1
  exact ⟨Option.isSome_iff_exists.1 h0.1, Option.isSome_iff_exists.1 h1.1, h0.2, h1.2⟩
theorem Out.set_ {w wr : World} {b : Nat} {xs : List (Int × Int)} {k : Nat} (h : Out w wr b xs k) (hk : k < xs.length) (x y : Int) (hx : xs[k].1 = x) (hy : xs[k].2 = y) :
    Out w ((wr.setCell ⟨b, k * 2, none⟩ (.int .i64 x)).setCell ⟨b, k * 2 + 1, none⟩ (.int .i64 y)) b xs (k + 1) := by
  obtain ⟨⟨u0, h0⟩, ⟨u1, h1⟩, _, _⟩ := h.place hk
  refine ⟨fun j hj hjk => ?_, fun j hj => ?_, (h.below.setCell (p := ⟨b, k * 2, none⟩) h.lo _).setCell (p := ⟨b, k * 2 + 1, none⟩) h.lo _, h.lo, by simpa using h.hi⟩
  · by_cases e : j = k
    · subst e
      refine ⟨?_, ?_⟩
      · rw [World.cell?_setCell_other _ _ _ _ (by simp), World.cell?_setCell_same _ _ _ h0, hx]
      · rw [World.cell?_setCell_same _ _ _ (u := u1) (by rw [World.cell?_setCell_other _ _ _ _ (by simp)]; exact h1), hy]
    · obtain ⟨c0, c1⟩ := h.cells j hj (by omega)
      refine ⟨?_, ?_⟩
      · rw [World.cell?_setCell_other _ _ _ _ (by simp <;> omega), World.cell?_setCell_other _ _ _ _ (by simp <;> omega)]
        exact c0
      · rw [World.cell?_setCell_other _ _ _ _ (by simp <;> omega), World.cell?_setCell_other _ _ _ _ (by simp <;> omega)]
        exact c1
  · have ht : (wr.setCells b (k * 2) [.int .i64 x, .int .i64 y]).there b 0 (xs.length * 2) := World.there_setCells h.there b (k * 2) _
    exact ht j hj

/-- a row of cells read as a rectangle -/
theorem range_two {w : World} {b o : Nat} {x y : Value} (h0 : w.cell? ⟨b, o, none⟩ = some x) (h1 : w.cell? ⟨b, o + 1, none⟩ = some y) : w.rangeAt b o [x, y] := fun j v hv => by
  match j, hv with
  | 0, hv => obtain rfl := Option.some.inj hv; exact h0
  | 1, hv => obtain rfl := Option.some.inj hv; exact h1
  | j + 2, hv => simp at hv
theorem range_on {w w1 : World} {b o : Nat} {cs : List Value} (h : w.rangeAt b o cs) (hb : Below w.heap.size w w1) : w1.rangeAt b o cs := fun j v hv => (hb.cell (p := ⟨b, o + j, none⟩) (World.block_lt_of_cell? w _ (h j v hv))).trans (h j v hv)
theorem rinfo2 : (Tryd.prog.info? 39).map (·.size) = some 2 := by kernel_rfl

end Go.Proofs.YtohkllmhknjkoaaDoor.Rects

