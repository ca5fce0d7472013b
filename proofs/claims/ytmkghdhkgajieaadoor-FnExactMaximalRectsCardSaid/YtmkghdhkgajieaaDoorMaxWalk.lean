/-
  The walk of the law on MaximalRects.
-/
import Derived.Test.YtmkghdhkgajieaaDoorMaxB
import Derived.Test.YtmkghdhkgajieaaDoorMarks
namespace Go.Proofs.YtmkghdhkgajieaaDoor.fnExactMaximalRects
open Go.RowKit Go.Proofs.YtmkghdhkgajieaaDoor.Plain Go.Proofs.YtmkghdhkgajieaaDoor.Base Go.Proofs.YtmkghdhkgajieaaDoor.Valid Go.Proofs.YtmkghdhkgajieaaDoor.Law Go.Proofs.YtmkghdhkgajieaaDoor.GridPlain Go.Proofs.YtmkghdhkgajieaaDoor.Entry Go.Proofs.YtmkghdhkgajieaaDoor.Pat Go.Proofs.YtmkghdhkgajieaaDoor.Rect Go.Proofs.YtmkghdhkgajieaaDoor.Board Go.Proofs.YtmkghdhkgajieaaDoor.BoardM Go.Proofs.YtmkghdhkgajieaaDoor.RValid Go.Proofs.YtmkghdhkgajieaaDoor.Rects Go.Proofs.YtmkghdhkgajieaaDoor.Marks
open Go.Proofs.YtmkghdhkgajieaaDoor.KeysI (flat)
set_option linter.unusedVariables false

/-- the law's own copy of the matrix -/
def LBox (w : World) (b : Nat) (r c : Int) (s : ByteArray) : Prop := MHolds w b 23 r c s
theorem LBox.on {w w1 : World} {b : Nat} {r c : Int} {s : ByteArray} (h : LBox w b r c s) (hb : Below w.heap.size w w1) : LBox w1 b r c s := mh_on h hb
theorem own_later {w w1 : World} {B : Nat} {e : TypeId} {k n : Nat} {v : Value} {xs : List Value} (h : w.ownsRow B e k v n xs) (hb : Below w.heap.size w w1) : w1.ownsRow B e k v n xs := by
  refine ⟨h.1, ?_⟩
  rcases h.2 with h1 | ⟨g, cap, cur, h2, h3, h4, h5⟩
  · exact .inl h1
  · exact .inr ⟨g, cap, cur, h2, h3, (hb.block g (Array.getElem?_eq_some_iff.1 h4).1).trans h4, h5⟩
theorem rv_on {w w1 : World} {v : Value} {xs : List (Int × Int)} (h : RV w w.heap.size v xs) (hb : Below w.heap.size w w1) : RV w1 w1.heap.size v xs := (h.later (Nat.le_refl _) hb).mono hb.size

set_option maxHeartbeats 2000000 in
set_option maxRecDepth 100000 in
theorem walk (r c : Int) (s : ByteArray) (wr : (Lit.int .i64 r).wf = true) (wc : (Lit.int .i64 c).wf = true) (hs : s.size ≤ maxLen) (bit : Int) (wb : (Lit.int .i64 bit).wf = true) (w : World) :
    Calls Tryd.prog 3 #[mat r c s, .int .i64 bit] w fun e w' => e = .returned (.bool true) ∧ Below w.heap.size w w' := by
  obtain ⟨ts, hlen, hspec, himpl⟩ := MaxB.both r c s hs bit
  have HS := Lib.hid hspec
  have HI := Lib.hid himpl
  have HLN := Lib.hid hlen
  clear hspec himpl hlen
  have hs2 := hs
  unfold maxLen at hs2
  by_cases hbig : 1048576 < s.size
  · go_enter Tryd.func3, Tryd.ntmps3
    go_wp2_with fail
    refine (sz_over r c s _ (by omega) (by omega) hs _).mono ?_
    rintro e w1 ⟨rfl, hb1⟩
    have HB := Lib.hid (bstep ((Below.refl w.heap.size w).alloc (Nat.le_refl _) _) hb1)
    clear hb1
    go_wp2_with fail
    go_ret
    exact ⟨rfl, HB.out⟩
  · have hleft : ¬ (1048576 : Int) - (s.size : Int) < 0 := by omega
    go_enter Tryd.func3, Tryd.ntmps3
    go_wp2_with fail
    refine (sz_fits r c s _ (by omega) (by omega) _).mono ?_
    rintro e w1 ⟨rfl, hb1⟩
    have M1 : Hid (LBox w1 w.heap.size r c s) := mh_on (heap_alloc_new w _) hb1
    have HB1 := Lib.hid (bstep ((Below.refl w.heap.size w).alloc (Nat.le_refl _) _) hb1)
    clear hb1 hs2
    obtain ⟨k0, k1, k2⟩ := mh_c (show MHolds w1 w.heap.size 23 r c s from M1.out)
    go_wp2_with fail
    refine (to_any r c s _).mono ?_
    rintro e w2 ⟨rfl, hb2⟩
    have M2 := Lib.hid (M1.out.on hb2)
    have HB2 := Lib.hid (bstep HB1.out hb2)
    clear hb2 k0 k1 k2 M1 HB1
    go_wp2_with fail
    refine (HS.out _).mono ?_
    rintro e w3 ⟨v0, rfl, ho0, hb3⟩
    have R0 := Lib.hid (rv_own ho0 HLN.out)
    have M3 := Lib.hid (M2.out.on hb3)
    have HB3 := Lib.hid (bstep HB2.out hb3)
    clear hb3 ho0 M2 HB2
    obtain ⟨k0, k1, k2⟩ := mh_c (show MHolds w3 w.heap.size 23 r c s from M3.out)
    go_wp2_with fail
    refine (to_any r c s _).mono ?_
    rintro e w4 ⟨rfl, hb4⟩
    have M4 := Lib.hid (M3.out.on hb4)
    have HB4 := Lib.hid (bstep HB3.out hb4)
    have R4 := Lib.hid (rv_on R0.out hb4)
    clear hb4 k0 k1 k2 M3 HB3 R0
    go_wp2_with fail
    refine (HI.out _).mono ?_
    rintro e w5 ⟨v1, rfl, ho1, hb5⟩
    have HO1 := Lib.hid ho1
    have HG5 := Lib.hid hb5
    have hr1 := rv_own ho1 HLN.out
    have hr0 := rv_on R4.out hb5
    clear ho1 hb5
    go_wp2_with fail
    refine (eq_rects ts v1 v0 _ hr1 hr0).mono ?_
    rintro e w6 ⟨rfl, hb6⟩
    have HO6 := Lib.hid (own_later HO1.out hb6)
    have HG6 := Lib.hid (bstep HG5.out hb6)
    clear hb6 hr1 hr0 HO1 HG5
    go_wp2_with fail
    refine (Marks.mark w4 w6 v1 ts HLN.out HG6.out HO6.out).mono ?_
    rintro e w7 ⟨rfl, hr1, hb7⟩
    have R7 := Lib.hid hr1
    have R0 := Lib.hid (rv_on R4.out hb7)
    have M7 := Lib.hid (M4.out.on hb7)
    have HB7 := Lib.hid (bstep HB4.out hb7)
    clear hr1 hb7 HO6 HG6 M4 HB4 R4
    have HHELD := Lib.hid (fun W h => held v1 ts.length HLN.out W h)
    obtain ⟨Q, hQ⟩ : ∃ Q : Nat, 1 + 2 * ts.length = Q := ⟨_, rfl⟩
    rw [hQ] at HHELD ⊢
    clear hQ
    have hneg : ¬ ((Q : Nat) : Int) < 0 := by omega
    go_wp2_with fail
    refine (HHELD.out _ R7.out).mono ?_
    rintro e w' ⟨rfl, rfl⟩
    obtain ⟨k0, k1, k2⟩ := mh_c (show MHolds w7 w.heap.size 23 r c s from M7.out)
    go_wp2_with fail
    refine (to_any r c s _).mono ?_
    rintro e w8 ⟨rfl, hb8⟩
    have R8 := Lib.hid (rv_on R7.out hb8)
    have R08 := Lib.hid (rv_on R0.out hb8)
    have HB8 := Lib.hid (bstep HB7.out hb8)
    clear hb8 k0 k1 k2 R7 R0 M7 HB7
    go_wp2_with fail
    refine (HI.out _).mono ?_
    rintro e w9 ⟨v2, rfl, ho2, hb9⟩
    have hr2 := rv_own ho2 HLN.out
    have R9 := Lib.hid (rv_on R8.out hb9)
    have hr0 := rv_on R08.out hb9
    have HB9 := Lib.hid (bstep HB8.out hb9)
    clear ho2 hb9 R8 R08 HB8
    go_wp2_with fail
    refine (eq_rects ts v2 v0 _ hr2 hr0).mono ?_
    rintro e w10 ⟨rfl, hb10⟩
    have R10 := Lib.hid (rv_on R9.out hb10)
    have HB10 := Lib.hid (bstep HB9.out hb10)
    clear hb10 R9 HB9 hr2 hr0
    go_wp2_with fail
    refine (HHELD.out _ R10.out).mono ?_
    rintro e w' ⟨rfl, rfl⟩
    go_wp2_with fail
    go_ret
    exact ⟨rfl, HB10.out⟩
end Go.Proofs.YtmkghdhkgajieaaDoor.fnExactMaximalRects
