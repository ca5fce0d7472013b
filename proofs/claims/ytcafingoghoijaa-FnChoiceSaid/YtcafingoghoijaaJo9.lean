/-
  Texts of one seat, joined: GuessI, InRectWalk, RectsQ, Accept.
-/
import Derived.Test.YtcafingoghoijaaJo1
import Derived.Shelf.SortM.Plain
import Derived.Test.YtcafingoghoijaaJo8
import Derived.Test.YtcafingoghoijaaJo3
import Derived.Test.YtcafingoghoijaaJo5
import Derived.Shelf.SlIterI.Sorted
import Derived.Shelf.SortM.SortNone
import Derived.OwnWalk
import Derived.Maps.OwnSet
/-
  The guesses' numbers in ascending order (slices.Sorted of maps.Keys), the least one, the things themselves.
-/
namespace Go.Proofs.Ytcafingoghoijaa.GuessI
open Go.RowKit Go.Maps Go.Sort Go.Shelf Go.Proofs.Ytcafingoghoijaa.Plain Go.Proofs.Ytcafingoghoijaa.Rect Go.Proofs.Ytcafingoghoijaa.GuessM Go.Proofs.Ytcafingoghoijaa.Rects
open Go.Proofs.Ytcafingoghoijaa.Marks (flat encR)
set_option linter.unusedVariables false

/-- v is a map of the things of xs that f keeps, by their numbers, in a block that lies from B on -/
def IsG (B : Nat) (w : World) (v : Value) (xs : List (Int × Int)) (f : Nat → Bool) : Prop :=
  xs.length ≤ 1048576 ∧ ∃ mb nn D, v = .map (some mb) ∧ B ≤ mb ∧ nn ≤ 1048576 ∧ w.ownsMap Try.prog 3 rectElem mb nn D ∧ Guess D xs f
theorem IsG.later {B : Nat} {w w1 : World} {v : Value} {xs : List (Int × Int)} {f : Nat → Bool} (h : IsG B w v xs f) (hb : Below w.heap.size w w1) : IsG B w1 v xs f := by
  obtain ⟨h0, mb, nn, D, h1, h2, h3, ⟨es, clock, hb2, F, hs, hD⟩, h5⟩ := h
  exact ⟨h0, mb, nn, D, h1, h2, h3, ⟨es, clock, (hb.block mb (Array.getElem?_eq_some_iff.1 hb2).1).trans hb2, F, hs, hD⟩, h5⟩

theorem keyI : Keyed Try.prog 3 := int_keyed Try.underlying3
/-- slices.Sort's two contracts, at the fence that asks nothing -/
theorem sorts (m : Nat) : AnyZI.SortsIn Try.prog Try.sortedI_ren Fence.wide m :=
  ⟨fun blk off cap ss W hH hblk hsz => callsIn_wide.2 (AnyM.slices_Sort_int Try.sortI blk off cap ss W hH hblk hsz),
   fun p cap W => callsIn_wide.2 (AnyM.slices_Sort_int_none Try.sortI p cap W)⟩

set_option maxHeartbeats 2000000 in
theorem indices (xs : List (Int × Int)) (f : Nat → Bool) (v0 : Value) (B : Nat) (w : World) (hg : IsG B w v0 xs f) :
    Calls Try.prog 76 #[v0] w fun e w' => ∃ v, e = .returned v ∧
      w'.ownsRow w.heap.size 3 1 v (keep f xs.length).length ((keep f xs.length).map fun j : Nat => Value.int .i64 (j : Int)) ∧ Below w.heap.size w w' := by
  obtain ⟨hx, b, nn, D0, rfl, _, hnn, hown, hG⟩ := hg
  have hsz := hG.size hown keyI Try.underlying3
  have hkl := keep_len f xs.length
  have hmax : Maps.size D0 ≤ maxLen := by unfold maxLen; omega
  have hbytes : Maps.size D0 * 8 ≤ 140737488355328 := by omega
  have HS := Lib.hid (fun ss hp => hG.sorted hown keyI Try.underlying3 (ss := ss) hp)
  clear hsz hkl
  refine (callsIn_wide (n := 6)).1 ?_
  have hbl := hown.lt
  have hseq : SeqGives Fence.wide 2 Try.prog 99 #[.pointer (some ⟨w.heap.size, 0, none⟩)] encZ (fun ss => ss.Perm (intKeys D0)) (Maps.size D0) (w.alloc (.cells #[.map (some b)] 54)) :=
    AnyZI.keys_gives (ρ := Try.keysI_ren) { Try.keysI with } Fence.wide _ trivial rfl (by omega) w.heap.size b nn D0 _ (by simp) (by simp) (by
      obtain ⟨es, clock, hb, Ft, hs, hD⟩ := hown
      exact ⟨es, clock, (Below.heap_alloc _ _ b hbl).trans hb, Ft, hs, hD⟩)
  have cK : ∀ mb W, CallsIn Fence.wide 5 Try.prog 90 #[.map mb] W fun e w' => e = .returned (.func (.func 99) #[] #[.pointer (some ⟨W.heap.size, 0, none⟩)]) ∧ w' = W.alloc (.cells #[.map mb] 54) := fun mb W => AnyZI.keys_in Try.keysI Fence.wide 5 trivial rfl mb W
  have cS := AnyZI.sorted_in Try.sortedI Fence.wide 5 trivial trivial trivial trivial rfl (by omega) (sorts _) (enters_of Try.func98 (by kernel_rfl) rfl) 99 #[.pointer (some ⟨w.heap.size, 0, none⟩)] trivial (enters_of Try.func99 (by kernel_rfl) rfl) _ _ hmax hbytes _ hseq
  change CallsIn _ _ Try.prog 89 _ _ _ at cS
  have hfK : Fence.wide.fn 90 := trivial
  have hfS : Fence.wide.fn 89 := trivial
  refine callsIn_of_wp Try.func76 rfl trivial ?_ rfl
  simp only [Try.ntmps76, List.size_toArray, List.length_cons, List.length_nil, Nat.reduceAdd, Nat.reduceSub, Array.replicate_succ, Array.replicate_zero, List.push_toArray, List.append_toArray, List.nil_append, List.cons_append]
  gi_wp2_with (first
    | (gi_at_call 90; refine (cK _ _).mono ?_; rintro e w' ⟨rfl, rfl⟩)
    | (gi_at_call 89; refine cS.mono ?_; rintro e w' ⟨v, ss, rfl, hS, hrow, hnil, hb⟩))
  go_ret
  have hrow2 := ownsRow_base_a (base' := w.heap.size) hrow (by simp)
  have hss := HS.out ss hS
  have hlen : ss.length = (keep f xs.length).length := by rw [← List.length_mergeSort ss (le := fun x y => decide (x ≤ y)), hss, List.length_map]
  rw [hss, hlen, List.map_map] at hrow2
  exact ⟨v, rfl, hrow2, ((Below.refl _ w).alloc (Nat.le_refl _) _).trans (hb.mono (by simp))⟩

/-- the first number of the kept, or -1 -/
def leastK (f : Nat → Bool) (n : Nat) : Int := match keep f n with | [] => -1 | j :: _ => (j : Int)

set_option maxHeartbeats 2000000 in
theorem least (xs : List (Int × Int)) (f : Nat → Bool) (v0 : Value) (B : Nat) (w : World) (hg : IsG B w v0 xs f) :
    Calls Try.prog 41 #[v0] w fun e w' => e = .returned (.int .i64 (leastK f xs.length)) ∧ Below w.heap.size w w' := by
  have HI := Lib.hid (fun W hW => indices xs f v0 B W hW)
  have HG := Lib.hid hg
  obtain ⟨hx, b, nn, D0, rfl, _, hnn, hown, hG⟩ := hg
  have hsz := hG.size hown keyI Try.underlying3
  have HL := Lib.hid hsz
  clear hG hsz
  cases hk : keep f xs.length with
  | nil =>
    have e0 : Maps.size D0 = 0 := by rw [HL.out, hk]; rfl
    have e1 : (((Maps.size D0 : Nat) : Int) == 0) = true := by rw [e0]; rfl
    have HF : Hid (leastK f xs.length = -1) := by show leastK f xs.length = -1; unfold leastK; rw [hk]
    rw [HF.out]
    clear hk e0 HF HI HG
    go_enter Try.func41, Try.ntmps41
    go_wp2_with (first
      | (at_len; refine wpList_len_own _ rfl _ 54 rfl 3 33 Try.underlying54 _ b nn D0 rfl hown ?_))
    go_ret
    exact ⟨rfl, Below.refl _ _⟩
  | cons j t =>
    have e1 : (((Maps.size D0 : Nat) : Int) == 0) = false := by rw [HL.out, hk, beq_eq_false_iff_ne]; simp; omega
    have HF : Hid (leastK f xs.length = (j : Int)) := by show leastK f xs.length = (j : Int); unfold leastK; rw [hk]
    rw [HF.out]
    have HK := Lib.hid hk
    clear hk HF
    go_enter Try.func41, Try.ntmps41
    go_wp2_with (first
      | (at_len; refine wpList_len_own _ rfl _ 54 rfl 3 33 Try.underlying54 _ b nn D0 rfl hown ?_))
    refine (HI.out w HG.out).mono ?_
    rintro e w1 ⟨v, rfl, hrow, hb⟩
    rw [HK.out] at hrow
    rcases hrow.2 with ⟨rfl, h0⟩ | ⟨g, cap, cur, rfl, hgb, hheap, hn, hcap, hs2, htake⟩
    · simp at h0
    · have hl : (j :: t).length = t.length + 1 := rfl
      rw [hl] at hn ⊢
      have c0 : w1.cell? ⟨g, 0, none⟩ = some (.int .i64 (j : Int)) := by
        have h0 : (cur.toList.take ((t.length + 1) * 1))[0]? = some (Value.int .i64 (j : Int)) := by
          rw [show ((j :: t).length * 1) = (t.length + 1) * 1 from rfl] at htake
          rw [htake]; rfl
        rw [List.getElem?_take_of_lt (by omega), Array.getElem?_toList] at h0
        simpa [World.cell?, hheap] using h0
      have HB := Lib.hid hb
      clear hb hrow htake hheap HI HG
      go_wp2_with fail
      go_ret
      exact ⟨rfl, HB.out⟩
end Go.Proofs.Ytcafingoghoijaa.GuessI

/-
  The walk of the law on InRect.
-/
namespace Go.Proofs.Ytcafingoghoijaa.fnExactInRect
open Go.RowKit Go.Proofs.Ytcafingoghoijaa.Plain Go.Proofs.Ytcafingoghoijaa.Pat Go.Proofs.Ytcafingoghoijaa.Rect
set_option linter.unusedVariables false

set_option maxHeartbeats 1000000 in
theorem spec_yes (R C x y : Nat) (hR1 : 1 ≤ R) (hR : R < 256) (hC1 : 1 ≤ C) (hC : C < 256) (hx : x < 8) (hy : y < 8) (w : World) :
    Calls Try.prog 38 #[rect R C, .int .i64 (x : Int), .int .i64 (y : Int)] w fun e w' => e = .returned (.bool (R.testBit x && C.testBit y)) ∧ Below w.heap.size w w' := by
  have HS := Lib.hid (show someB R C = true by rw [someB_iff]; omega)
  obtain ⟨b1, h1⟩ : ∃ b, R.testBit x = b := ⟨_, rfl⟩
  obtain ⟨b2, h2⟩ : ∃ b, C.testBit y = b := ⟨_, rfl⟩
  rw [h1, h2]
  have H1 := Lib.hid h1
  have H2 := Lib.hid h2
  clear h1 h2
  go_enter Try.func38, Try.ntmps38
  go_wp2_with fail
  refine (some_any _ _ _).mono ?_
  rintro e w1 ⟨rfl, hb1⟩
  rw [HS.out]
  obtain ⟨c0, c1, hz, HB⟩ := box2 hb1
  clear hb1
  go_wp2_with fail
  refine (in_any _ _ _ _).mono ?_
  rintro e w' ⟨rfl, rfl⟩
  rw [decide_eq_true (by omega)]
  go_wp2_with fail
  refine (in_any _ _ _ _).mono ?_
  rintro e w' ⟨rfl, rfl⟩
  rw [decide_eq_true (by omega)]
  go_wp2_with fail
  refine (l2In_any R x hR hx _).mono ?_
  rintro e w' ⟨rfl, rfl⟩
  rw [H1.out]
  cases b1
  · go_wp2_with fail
    go_ret
    exact ⟨rfl, HB.out⟩
  · go_wp2_with fail
    refine (l2In_any C y hC hy _).mono ?_
    rintro e w' ⟨rfl, rfl⟩
    rw [H2.out]
    go_wp2_with fail
    go_ret
    exact ⟨rfl, HB.out⟩
set_option maxHeartbeats 1000000 in
theorem spec_none (r c x y : Int) (h : someB r c = false) (w : World) :
    Calls Try.prog 38 #[rect r c, .int .i64 x, .int .i64 y] w fun e w' => e = .returned (.bool false) ∧ Below w.heap.size w w' := by
  have HS := Lib.hid h
  clear h
  go_enter Try.func38, Try.ntmps38
  go_wp2_with fail
  refine (some_any _ _ _).mono ?_
  rintro e w1 ⟨rfl, hb1⟩
  rw [HS.out]
  obtain ⟨c0, c1, hz, HB⟩ := box2 hb1
  clear hb1
  go_wp2_with fail
  go_ret
  exact ⟨rfl, HB.out⟩
set_option maxHeartbeats 1000000 in
theorem spec_x (r c x y : Int) (h : someB r c = true) (hx : ¬ (0 ≤ x ∧ x ≤ 7)) (w : World) :
    Calls Try.prog 38 #[rect r c, .int .i64 x, .int .i64 y] w fun e w' => e = .returned (.bool false) ∧ Below w.heap.size w w' := by
  have HS := Lib.hid h
  have HX := Lib.hid hx
  clear h hx
  go_enter Try.func38, Try.ntmps38
  go_wp2_with fail
  refine (some_any _ _ _).mono ?_
  rintro e w1 ⟨rfl, hb1⟩
  rw [HS.out]
  obtain ⟨c0, c1, hz, HB⟩ := box2 hb1
  clear hb1
  go_wp2_with fail
  refine (in_any _ _ _ _).mono ?_
  rintro e w' ⟨rfl, rfl⟩
  rw [decide_eq_false HX.out]
  go_wp2_with fail
  go_ret
  exact ⟨rfl, HB.out⟩
set_option maxHeartbeats 1000000 in
theorem spec_y (r c x y : Int) (h : someB r c = true) (hx : 0 ≤ x ∧ x ≤ 7) (hy : ¬ (0 ≤ y ∧ y ≤ 7)) (w : World) :
    Calls Try.prog 38 #[rect r c, .int .i64 x, .int .i64 y] w fun e w' => e = .returned (.bool false) ∧ Below w.heap.size w w' := by
  have HS := Lib.hid h
  have HX := Lib.hid hx
  have HY := Lib.hid hy
  clear h hx hy
  go_enter Try.func38, Try.ntmps38
  go_wp2_with fail
  refine (some_any _ _ _).mono ?_
  rintro e w1 ⟨rfl, hb1⟩
  rw [HS.out]
  obtain ⟨c0, c1, hz, HB⟩ := box2 hb1
  clear hb1
  go_wp2_with fail
  refine (in_any _ _ _ _).mono ?_
  rintro e w' ⟨rfl, rfl⟩
  rw [decide_eq_true HX.out]
  go_wp2_with fail
  refine (in_any _ _ _ _).mono ?_
  rintro e w' ⟨rfl, rfl⟩
  rw [decide_eq_false HY.out]
  go_wp2_with fail
  go_ret
  exact ⟨rfl, HB.out⟩

set_option maxHeartbeats 1000000 in
/-- the program's, where each test is told -/
theorem impl_yes (r c x y : Int) (h : someB r c = true) (b1 b2 : Bool)
    (h1 : ∀ W : World, Calls Try.prog 57 #[.int .i64 r, .int .i64 x] W fun e w' => e = .returned (.bool b1) ∧ W = w')
    (h2 : ∀ W : World, Calls Try.prog 57 #[.int .i64 c, .int .i64 y] W fun e w' => e = .returned (.bool b2) ∧ W = w') (w : World) :
    Calls Try.prog 32 #[rect r c, .int .i64 x, .int .i64 y] w fun e w' => e = .returned (.bool (b1 && b2)) ∧ Below w.heap.size w w' := by
  have HS := Lib.hid h
  have H1 := Lib.hid h1
  have H2 := Lib.hid h2
  clear h h1 h2
  go_enter Try.func32, Try.ntmps32
  go_wp2_with fail
  refine (rect_any _ _ _).mono ?_
  rintro e w1 ⟨rfl, hb1⟩
  rw [HS.out]
  obtain ⟨c0, c1, hz, HB⟩ := box2 hb1
  clear hb1
  go_wp2_with fail
  refine (H1.out _).mono ?_
  rintro e w' ⟨rfl, rfl⟩
  cases b1
  · go_wp2_with fail
    go_ret
    exact ⟨rfl, HB.out⟩
  · go_wp2_with fail
    refine (H2.out _).mono ?_
    rintro e w' ⟨rfl, rfl⟩
    go_wp2_with fail
    go_ret
    exact ⟨rfl, HB.out⟩
set_option maxHeartbeats 1000000 in
theorem impl_none (r c x y : Int) (h : someB r c = false) (w : World) :
    Calls Try.prog 32 #[rect r c, .int .i64 x, .int .i64 y] w fun e w' => e = .returned (.bool false) ∧ Below w.heap.size w w' := by
  have HS := Lib.hid h
  clear h
  go_enter Try.func32, Try.ntmps32
  go_wp2_with fail
  refine (rect_any _ _ _).mono ?_
  rintro e w1 ⟨rfl, hb1⟩
  rw [HS.out]
  obtain ⟨c0, c1, hz, HB⟩ := box2 hb1
  clear hb1
  go_wp2_with fail
  go_ret
  exact ⟨rfl, HB.out⟩

/-- a set's test, whatever the number -/
theorem inSet_any (s : Nat) (hs : s < 256) (i : Int) : ∃ b : Bool, ∀ W : World, Calls Try.prog 57 #[.int .i64 (s : Int), .int .i64 i] W fun e w' => e = .returned (.bool b) ∧ W = w' := by
  by_cases h : 0 ≤ i ∧ i < 8
  · obtain ⟨k, rfl⟩ := Int.eq_ofNat_of_zero_le h.1
    exact ⟨_, fun W => inSet_yes s k hs (by omega) W⟩
  · exact ⟨false, fun W => inSet_no s i (by omega) W⟩

/-- both find one truth value -/
theorem both (r c x y : Int) : ∃ v : Bool,
    (∀ w, Calls Try.prog 38 #[rect r c, .int .i64 x, .int .i64 y] w fun e w' => e = .returned (.bool v) ∧ Below w.heap.size w w') ∧
    (∀ w, Calls Try.prog 32 #[rect r c, .int .i64 x, .int .i64 y] w fun e w' => e = .returned (.bool v) ∧ Below w.heap.size w w') := by
  by_cases h : someB r c = true
  · have hh := (someB_iff r c).1 h
    obtain ⟨R, rfl⟩ := Int.eq_ofNat_of_zero_le (show 0 ≤ r by omega)
    obtain ⟨C, rfl⟩ := Int.eq_ofNat_of_zero_le (show 0 ≤ c by omega)
    by_cases hx : 0 ≤ x ∧ x ≤ 7
    · by_cases hy : 0 ≤ y ∧ y ≤ 7
      · obtain ⟨X, rfl⟩ := Int.eq_ofNat_of_zero_le hx.1
        obtain ⟨Y, rfl⟩ := Int.eq_ofNat_of_zero_le hy.1
        exact ⟨_, fun w => spec_yes R C X Y (by omega) (by omega) (by omega) (by omega) (by omega) (by omega) w,
          fun w => impl_yes R C X Y h _ _ (fun W => inSet_yes R X (by omega) (by omega) W) (fun W => inSet_yes C Y (by omega) (by omega) W) w⟩
      · obtain ⟨b, hb⟩ := inSet_any R (by omega) x
        refine ⟨false, fun w => spec_y R C x y h hx hy w, fun w => ?_⟩
        have := impl_yes R C x y h b false hb (fun W => inSet_no C y (by omega) W) w
        rwa [Bool.and_false] at this
    · obtain ⟨b, hb⟩ := inSet_any C (by omega) y
      refine ⟨false, fun w => spec_x R C x y h hx w, fun w => ?_⟩
      have := impl_yes R C x y h false b (fun W => inSet_no R x (by omega) W) hb w
      rwa [Bool.false_and] at this
  · have h' : someB r c = false := by simpa using h
    exact ⟨false, fun w => spec_none r c x y h' w, fun w => impl_none r c x y h' w⟩

end Go.Proofs.Ytcafingoghoijaa.fnExactInRect

/-
  Contracts of the laws' own szRectS and toRectS at a plain seat.
-/
namespace Go.Proofs.Ytcafingoghoijaa.RectsQ
open Go.RowKit Go.Proofs.Ytcafingoghoijaa.Plain Go.Proofs.Ytcafingoghoijaa.Pat Go.Proofs.Ytcafingoghoijaa.Rect Go.Proofs.Ytcafingoghoijaa.Rects
set_option linter.unusedVariables false

set_option maxHeartbeats 400000 in
theorem sz_rects (p : Option Addr) (n k : Nat) (left : Int) (h0 : 0 ≤ left) (h1 : left ≤ 1048576) (hn : n ≤ 9223372036854775807) (w : World) :
    Calls Try.prog 13 #[.slice p n k, .int .i64 left] w fun e w' => e = .returned (.int .i64 (if (n : Int) ≤ left then left - n else -1)) ∧ w = w' := by
  by_cases h : (n : Int) ≤ left
  · rw [if_pos h]
    go_enter Try.func13, Try.ntmps13
    go_wp2_with fail
    go_ret
    exact ⟨rfl, rfl⟩
  · rw [if_neg h]
    go_enter Try.func13, Try.ntmps13
    go_wp2_with fail
    go_ret
    exact ⟨rfl, rfl⟩

set_option maxHeartbeats 1000000 in
theorem to_own (xs : List (Int × Int)) (v : Value) (hlen : xs.length ≤ 1048576) (w : World) (hiv : RV w w.heap.size v xs) :
    Calls Try.prog 15 #[v] w fun e w' => e = .returned (.slice (some ⟨w.heap.size, 0, none⟩) xs.length xs.length) ∧ Out w w' w.heap.size xs xs.length := by
  obtain ⟨i0, hi, hz0, hz1, hz2⟩ := info_parts rinfos
  have HMK : Hid (∀ W : World, (Instr.makeSlice 25 (.int .i64 (xs.length : Int)) (.int .i64 (xs.length : Int))).run Try.prog W = .ok (.slice (some ⟨W.heap.size, 0, none⟩) xs.length xs.length) (W.alloc (.cells (madeCells #[.int .i64 0, .int .i64 0] (xs.length * 2)) 33))) := fun W => by
    have := run_make (P := Try.prog) W 25 33 i0 _ Try.underlying25 hi hz0 .i64 .i64 (xs.length : Int) (xs.length : Int) (by omega) (Int.le_refl _) (by rw [hz2]; omega) (by omega)
    rw [hz1] at this
    simpa [Value.cells] using this
  have HC : Hid (∀ j (hj : j < xs.length), ∃ b off c, v = .slice (some ⟨b, off, none⟩) xs.length c ∧ b < w.heap.size ∧ w.cell? ⟨b, off + j * 2, none⟩ = some (.int .i64 xs[j].1) ∧ w.cell? ⟨b, off + j * 2 + 1, none⟩ = some (.int .i64 xs[j].2)) := fun j hj => by
    rcases hiv.2 with ⟨_, rfl⟩ | ⟨b, off, c, rfl, hlt, hc⟩
    · cases hj
    · exact ⟨b, off, c, rfl, hlt, hc j hj⟩
  obtain ⟨p, kk, rfl⟩ := hiv.slice
  clear hiv
  go_enter Try.func15, Try.ntmps15
  have hmk := HMK.out
  go_wp2_with fail
  clear hmk HMK hi hz0 hz1 hz2
  have HO : Hid (Out w (w.alloc (.cells (madeCells #[.int .i64 0, .int .i64 0] (xs.length * 2)) 33)) w.heap.size xs 0) := by
    have hn := heap_alloc_new w (.cells (madeCells #[.int .i64 0, .int .i64 0] (xs.length * 2)) 33)
    refine ⟨fun j _ h => absurd h (by omega), fun j hj => ⟨?_, ?_⟩, (Below.refl _ _).alloc (Nat.le_refl _) _, Nat.le_refl _, by simp⟩
    · rw [Nat.zero_add, cell_of_row _ _ j _ _ _ hn, Array.getElem?_eq_getElem (by rw [size_madeCells]; exact hj)]
      rfl
    · exact frozen_of_row _ _ _ _ _ hn
  generalize w.alloc (.cells (madeCells #[.int .i64 0, .int .i64 0] (xs.length * 2)) 33) = W0 at *
  go_loopw [4] (fun i wr => ∃ k : Nat, k ≤ xs.length ∧ i = .int .i64 (k : Int) ∧ Out w wr w.heap.size xs k) (fun i _ => xs.length - (intOf i).toNat)
  case atStart => exact ⟨0, Nat.zero_le _, rfl, HO.out⟩
  case round =>
    obtain ⟨k, hk, rfl, ho⟩ := hrel
    clear HO
    have HOK := Lib.hid ho
    by_cases hkl : k < xs.length
    · obtain ⟨b, off, c, e, hlt, c0, c1⟩ := HC.out k hkl
      injection e with e1 e2 e3
      subst e1 e3
      have c0 := (ho.below.cell (p := ⟨b, off + k * 2, none⟩) hlt).trans c0
      have c1 := (ho.below.cell (p := ⟨b, off + k * 2 + 1, none⟩) hlt).trans c1
      have HX : Hid (∃ x y, xs[k].1 = x ∧ xs[k].2 = y) := ⟨_, _, rfl, rfl⟩
      obtain ⟨x, y, hx, hy⟩ := HX.out
      rw [hx] at c0
      rw [hy] at c1
      clear ho HX
      go_wp2_with fail
      refine (to_rect x y _).mono ?_
      rintro e w2 ⟨rfl, hb2⟩
      have ho2 := HOK.out.later hb2
      obtain ⟨⟨u0, h0⟩, ⟨u1, h1⟩, f0, f1⟩ := ho2.place hkl
      have HO2 := Lib.hid (ho2.set_ hkl x y hx hy)
      clear hb2 ho2 c0 c1 HOK hx hy
      go_wp2_with fail
      go_roundw
      case rel => exact ⟨k + 1, by omega, by go_num, HO2.out⟩
      case measure => simp [intOf]; omega
    · obtain rfl : k = xs.length := by omega
      clear ho
      go_wp2_with fail
      refine bodyPost_ret (v := .slice (some ⟨w.heap.size, 0, none⟩) xs.length xs.length) (by simp [results, Try.results15, go_sem]) rfl ?_
      have ho := HOK.out
      exact ⟨rfl, ho⟩

theorem rv_out {w w' : World} {b : Nat} {xs : List (Int × Int)} (hlen : xs.length ≤ 1048576) (ho : Out w w' b xs xs.length) : RV w' w'.heap.size (.slice (some ⟨b, 0, none⟩) xs.length xs.length) xs :=
  ⟨by omega, .inr ⟨_, 0, _, rfl, ho.hi, fun j hj => by rw [Nat.zero_add]; exact ho.cells j hj hj⟩⟩
theorem to_rects (xs : List (Int × Int)) (v : Value) (hlen : xs.length ≤ 1048576) (w : World) (hiv : RV w w.heap.size v xs) :
    Calls Try.prog 15 #[v] w fun e w' => ∃ v', e = .returned v' ∧ RV w' w'.heap.size v' xs ∧ Below w.heap.size w w' := by
  refine (to_own xs v hlen w hiv).mono ?_
  rintro e w' ⟨rfl, ho⟩
  exact ⟨_, rfl, rv_out hlen ho, ho.below⟩
end Go.Proofs.Ytcafingoghoijaa.RectsQ

/-
  AcceptsRow and AcceptsCol: both sides answer alike.
-/
namespace Go.Proofs.Ytcafingoghoijaa.Accept
open Go.RowKit Go.Proofs.Ytcafingoghoijaa.Plain Go.Proofs.Ytcafingoghoijaa.Rect Go.Proofs.Ytcafingoghoijaa.Rects
open Go.Proofs.Ytcafingoghoijaa.fnExactInRect (inSet_any)
set_option linter.unusedVariables false
set_option linter.unusedSimpArgs false

/-- the rows or the columns -/
def side (q : Int × Int) (cols : Bool) : Int := if cols then q.2 else q.1
theorem rv_at {w : World} {v : Value} {xs : List (Int × Int)} (h : RV w w.heap.size v xs) (j : Nat) (hj : j < xs.length) :
    ∃ b off c, v = .slice (some ⟨b, off, none⟩) xs.length c ∧ b < w.heap.size ∧ w.cell? ⟨b, off + j * 2, none⟩ = some (.int .i64 xs[j].1) ∧ w.cell? ⟨b, off + j * 2 + 1, none⟩ = some (.int .i64 xs[j].2) := by
  rcases h.2 with ⟨_, rfl⟩ | ⟨b, off, c, rfl, hlt, hc⟩
  · cases hj
  · exact ⟨b, off, c, rfl, hlt, hc j hj⟩

set_option maxHeartbeats 1000000 in
theorem inputs_any (a b : Int) (cols : Bool) (w : World) :
    Calls Try.prog 51 #[rect a b, .bool cols] w fun e w' => e = .returned (.int .i64 (side (a, b) cols)) ∧ Below w.heap.size w w' := by
  cases cols
  all_goals
    go_enter Try.func51, Try.ntmps51
    go_wp2_with fail
    go_ret
    exact ⟨rfl, by go_grown⟩

set_option maxHeartbeats 1000000 in
/-- no number of the list -/
theorem impl_out (xs : List (Int × Int)) (p : Option Addr) (k : Nat) (proof input : Int) (cols : Bool) (hp : ¬ (0 ≤ proof ∧ proof < (xs.length : Int))) (w : World) :
    Calls Try.prog 45 #[.slice p xs.length k, .int .i64 proof, .int .i64 input, .bool cols] w fun e w' => e = .returned (.bool false) ∧ Below w.heap.size w w' := by
  have HP := Lib.hid (decide_eq_false hp)
  clear hp
  go_enter Try.func45, Try.ntmps45
  go_wp2_with fail
  refine (index_any _ _ _).mono ?_
  rintro e w' ⟨rfl, rfl⟩
  rw [HP.out]
  go_wp2_with fail
  go_ret
  exact ⟨rfl, Below.refl _ _⟩

set_option maxHeartbeats 1000000 in
/-- no rectangle -/
theorem impl_none (xs : List (Int × Int)) (v : Value) (j : Nat) (hj : j < xs.length) (input : Int) (cols : Bool) (hs : someB xs[j].1 xs[j].2 = false) (w : World) (hv : RV w w.heap.size v xs) :
    Calls Try.prog 45 #[v, .int .i64 (j : Int), .int .i64 input, .bool cols] w fun e w' => e = .returned (.bool false) ∧ Below w.heap.size w w' := by
  have HP : Hid (decide (0 ≤ (j : Int) ∧ (j : Int) < (xs.length : Int)) = true) := decide_eq_true (by omega)
  obtain ⟨b, off, c, rfl, hlt, c0, c1⟩ := rv_at hv j hj
  have hx : xs.length ≤ 9223372036854775807 := hv.1
  have HS := Lib.hid hs
  obtain ⟨x, hx0⟩ : ∃ a, xs[j].1 = a := ⟨_, rfl⟩
  obtain ⟨y, hy0⟩ : ∃ a, xs[j].2 = a := ⟨_, rfl⟩
  rw [hx0] at c0 HS
  rw [hy0] at c1 HS
  clear hv hs hx0 hy0
  go_enter Try.func45, Try.ntmps45
  go_wp2_with fail
  refine (index_any _ _ _).mono ?_
  rintro e w' ⟨rfl, rfl⟩
  rw [HP.out]
  go_wp2_with fail
  refine (rect_any _ _ _).mono ?_
  rintro e w1 ⟨rfl, hb1⟩
  rw [HS.out]
  have HB := Lib.hid hb1
  clear hb1 c0 c1
  go_wp2_with fail
  go_ret
  exact ⟨rfl, HB.out⟩

set_option maxHeartbeats 1000000 in
/-- a rectangle: the test of its side -/
theorem impl_some (xs : List (Int × Int)) (v : Value) (j : Nat) (hj : j < xs.length) (input : Int) (cols bt : Bool) (hs : someB xs[j].1 xs[j].2 = true)
    (ht : ∀ W : World, Calls Try.prog 57 #[.int .i64 (side xs[j] cols), .int .i64 input] W fun e w' => e = .returned (.bool bt) ∧ W = w') (w : World) (hv : RV w w.heap.size v xs) :
    Calls Try.prog 45 #[v, .int .i64 (j : Int), .int .i64 input, .bool cols] w fun e w' => e = .returned (.bool bt) ∧ Below w.heap.size w w' := by
  have HP : Hid (decide (0 ≤ (j : Int) ∧ (j : Int) < (xs.length : Int)) = true) := decide_eq_true (by omega)
  obtain ⟨b, off, c, rfl, hlt, c0, c1⟩ := rv_at hv j hj
  have hx : xs.length ≤ 9223372036854775807 := hv.1
  have HS := Lib.hid hs
  have HT := Lib.hid ht
  have HSE : Hid (xs[j] = (xs[j].1, xs[j].2)) := rfl
  obtain ⟨x, hx0⟩ : ∃ a, xs[j].1 = a := ⟨_, rfl⟩
  obtain ⟨y, hy0⟩ : ∃ a, xs[j].2 = a := ⟨_, rfl⟩
  rw [HSE.out, hx0, hy0] at HT
  rw [hx0] at c0 HS
  rw [hy0] at c1 HS
  clear hv hs ht hx0 hy0 HSE
  go_enter Try.func45, Try.ntmps45
  go_wp2_with fail
  refine (index_any _ _ _).mono ?_
  rintro e w' ⟨rfl, rfl⟩
  rw [HP.out]
  go_wp2_with fail
  refine (rect_any _ _ _).mono ?_
  rintro e w1 ⟨rfl, hb1⟩
  rw [HS.out]
  have HB := Lib.hid hb1
  have hw1 := hb1.size
  have c0 := (hb1.cell (p := ⟨b, off + j * 2, none⟩) hlt).trans c0
  have c1 := (hb1.cell (p := ⟨b, off + j * 2 + 1, none⟩) hlt).trans c1
  clear hb1
  go_wp2_with fail
  refine (inputs_any _ _ _ _).mono ?_
  rintro e w2 ⟨rfl, hb2⟩
  have HB2 := Lib.hid (HB.out.trans (hb2.mono hw1))
  clear hb2 c0 c1 HB
  go_wp2_with fail
  refine (HT.out _).mono ?_
  rintro e w' ⟨rfl, rfl⟩
  go_wp2_with fail
  go_ret
  exact ⟨rfl, HB2.out⟩

set_option maxHeartbeats 1000000 in
theorem proof_out (xs : List (Int × Int)) (hlen : xs.length ≤ 1048576) (p : Option Addr) (k : Nat) (proof input : Int) (hp : ¬ (0 ≤ proof ∧ proof < (xs.length : Int))) (w : World) :
    Calls Try.prog 43 #[.slice p xs.length k, .int .i64 proof, .int .i64 input] w fun e w' => e = .returned (.bool false) ∧ Below w.heap.size w w' := by
  have HP : Hid (decide (0 ≤ proof ∧ proof ≤ (xs.length : Int) - 1) = false) := decide_eq_false (by omega)
  clear hp
  go_enter Try.func43, Try.ntmps43
  go_wp2_with fail
  refine (in_any _ _ _ _).mono ?_
  rintro e w' ⟨rfl, rfl⟩
  rw [HP.out]
  go_wp2_with fail
  go_ret
  exact ⟨rfl, Below.refl _ _⟩

set_option maxHeartbeats 1000000 in
theorem proof_in (xs : List (Int × Int)) (hlen : xs.length ≤ 1048576) (v : Value) (j : Nat) (hj : j < xs.length) (input : Int) (w : World) (hv : RV w w.heap.size v xs) :
    Calls Try.prog 43 #[v, .int .i64 (j : Int), .int .i64 input] w fun e w' => e = .returned (.bool (someB xs[j].1 xs[j].2 && decide (0 ≤ input ∧ input ≤ 7))) ∧ Below w.heap.size w w' := by
  have HP : Hid (decide (0 ≤ (j : Int) ∧ (j : Int) ≤ (xs.length : Int) - 1) = true) := decide_eq_true (by omega)
  obtain ⟨b, off, c, rfl, hlt, c0, c1⟩ := rv_at hv j hj
  obtain ⟨x, hx0⟩ : ∃ a, xs[j].1 = a := ⟨_, rfl⟩
  obtain ⟨y, hy0⟩ : ∃ a, xs[j].2 = a := ⟨_, rfl⟩
  rw [hx0] at c0 ⊢
  rw [hy0] at c1 ⊢
  obtain ⟨s, hs⟩ : ∃ s, someB x y = s := ⟨_, rfl⟩
  rw [hs]
  have HS := Lib.hid hs
  obtain ⟨d, hd⟩ : ∃ d, decide (0 ≤ input ∧ input ≤ 7) = d := ⟨_, rfl⟩
  rw [hd]
  have HD := Lib.hid hd
  clear hv hs hd hx0 hy0
  go_enter Try.func43, Try.ntmps43
  go_wp2_with fail
  refine (in_any _ _ _ _).mono ?_
  rintro e w' ⟨rfl, rfl⟩
  rw [HP.out]
  go_wp2_with fail
  refine (some_any _ _ _).mono ?_
  rintro e w1 ⟨rfl, hb1⟩
  rw [HS.out]
  have HB := Lib.hid hb1
  clear hb1 c0 c1
  cases s
  · go_wp2_with fail
    go_ret
    exact ⟨rfl, HB.out⟩
  · go_wp2_with fail
    refine (in_any _ _ _ _).mono ?_
    rintro e w' ⟨rfl, rfl⟩
    rw [HD.out]
    go_wp2_with fail
    go_ret
    exact ⟨rfl, HB.out⟩

set_option maxHeartbeats 1000000 in
theorem spec_acc (a b input : Int) (cols bt : Bool)
    (ht : ∀ W : World, Calls Try.prog 73 #[.int .i64 (side (a, b) cols), .int .i64 input] W fun e w' => e = .returned (.bool bt) ∧ W = w') (w : World) :
    Calls Try.prog 44 #[rect a b, .int .i64 input, .bool cols] w fun e w' => e = .returned (.bool bt) ∧ Below w.heap.size w w' := by
  have HT := Lib.hid ht
  clear ht
  cases cols
  all_goals
    simp only [side, if_true, if_false, Bool.false_eq_true] at HT
    go_enter Try.func44, Try.ntmps44
    go_wp2_with fail
    refine (HT.out _).mono ?_
    rintro e w' ⟨rfl, rfl⟩
    go_wp2_with fail
    go_ret
    exact ⟨rfl, by go_grown⟩

set_option maxHeartbeats 1000000 in
theorem wrapRow (v : Value) (proof input : Int) (bt : Bool) (w : World) (h : Calls Try.prog 45 #[v, .int .i64 proof, .int .i64 input, .bool false] w fun e w' => e = .returned (.bool bt) ∧ Below w.heap.size w w') :
    Calls Try.prog 19 #[v, .int .i64 proof, .int .i64 input] w fun e w' => e = .returned (.bool bt) ∧ Below w.heap.size w w' := by
  have H := Lib.hid h
  clear h
  go_enter Try.func19, Try.ntmps19
  go_wp2_with fail
  refine H.out.mono ?_
  rintro e w1 ⟨rfl, hb1⟩
  have HB := Lib.hid hb1
  clear hb1 H
  go_wp2_with fail
  go_ret
  exact ⟨rfl, HB.out⟩

set_option maxHeartbeats 1000000 in
theorem noRow (v : Value) (proof input : Int) (w : World) (h : Calls Try.prog 43 #[v, .int .i64 proof, .int .i64 input] w fun e w' => e = .returned (.bool false) ∧ Below w.heap.size w w') :
    Calls Try.prog 18 #[v, .int .i64 proof, .int .i64 input] w fun e w' => e = .returned (.bool false) ∧ Below w.heap.size w w' := by
  have H := Lib.hid h
  clear h
  go_enter Try.func18, Try.ntmps18
  go_wp2_with fail
  refine H.out.mono ?_
  rintro e w1 ⟨rfl, hb1⟩
  have HB := Lib.hid hb1
  clear hb1 H
  go_wp2_with fail
  go_ret
  exact ⟨rfl, HB.out⟩

set_option maxHeartbeats 1000000 in
theorem yesRow (xs : List (Int × Int)) (v : Value) (j : Nat) (hj : j < xs.length) (input : Int) (bt : Bool) (w : World) (hv : RV w w.heap.size v xs)
    (h : Calls Try.prog 43 #[v, .int .i64 (j : Int), .int .i64 input] w fun e w' => e = .returned (.bool true) ∧ Below w.heap.size w w')
    (ht : ∀ W : World, Calls Try.prog 73 #[.int .i64 (side xs[j] false), .int .i64 input] W fun e w' => e = .returned (.bool bt) ∧ W = w') :
    Calls Try.prog 18 #[v, .int .i64 (j : Int), .int .i64 input] w fun e w' => e = .returned (.bool bt) ∧ Below w.heap.size w w' := by
  obtain ⟨b, off, c, rfl, hlt, c0, c1⟩ := rv_at hv j hj
  have hx : xs.length ≤ 9223372036854775807 := hv.1
  have HSE : Hid (xs[j] = (xs[j].1, xs[j].2)) := rfl
  have HT := Lib.hid ht
  obtain ⟨x, hx0⟩ : ∃ a, xs[j].1 = a := ⟨_, rfl⟩
  obtain ⟨y, hy0⟩ : ∃ a, xs[j].2 = a := ⟨_, rfl⟩
  rw [HSE.out, hx0, hy0] at HT
  rw [hx0] at c0
  rw [hy0] at c1
  have HA := Lib.hid (fun W => spec_acc x y input false bt HT.out W)
  have H := Lib.hid h
  clear hv h ht hx0 hy0 HSE HT
  go_enter Try.func18, Try.ntmps18
  go_wp2_with fail
  refine H.out.mono ?_
  rintro e w1 ⟨rfl, hb1⟩
  have hw1 := hb1.size
  have HB := Lib.hid hb1
  have c0 := (hb1.cell (p := ⟨b, off + j * 2, none⟩) hlt).trans c0
  have c1 := (hb1.cell (p := ⟨b, off + j * 2 + 1, none⟩) hlt).trans c1
  clear hb1 H
  go_wp2_with fail
  refine (HA.out _).mono ?_
  rintro e w2 ⟨rfl, hb2⟩
  have HB2 := Lib.hid (HB.out.trans (hb2.mono hw1))
  clear hb2 c0 c1 HB
  go_wp2_with fail
  go_ret
  exact ⟨rfl, HB2.out⟩

/-- both answer alike -/
theorem bothRow (xs : List (Int × Int)) (hlen : xs.length ≤ 1048576) (proof input : Int) : ∃ bt : Bool,
    (∀ w v, RV w w.heap.size v xs → Calls Try.prog 18 #[v, .int .i64 proof, .int .i64 input] w fun e w' => e = .returned (.bool bt) ∧ Below w.heap.size w w') ∧
    (∀ w v, RV w w.heap.size v xs → Calls Try.prog 19 #[v, .int .i64 proof, .int .i64 input] w fun e w' => e = .returned (.bool bt) ∧ Below w.heap.size w w') := by
  by_cases hp : 0 ≤ proof ∧ proof < (xs.length : Int)
  · obtain ⟨j, rfl⟩ := Int.eq_ofNat_of_zero_le hp.1
    have hj : j < xs.length := by omega
    cases hs : someB xs[j].1 xs[j].2 with
    | false =>
      exact ⟨false, fun w v hv => noRow v _ _ w ((proof_in xs hlen v j hj input w hv).mono fun e w' h => by rw [hs, Bool.false_and] at h; exact h), fun w v hv => wrapRow v _ _ _ w (impl_none xs v j hj input false hs w hv)⟩
    | true =>
      have hb := (someB_iff _ _).1 hs
      obtain ⟨s, hse, hsl⟩ : ∃ s : Nat, side xs[j] false = (s : Int) ∧ s < 256 := ⟨(side xs[j] false).toNat, by simp only [side, if_true, if_false, Bool.false_eq_true]; omega, by simp only [side, if_true, if_false, Bool.false_eq_true]; omega⟩
      by_cases hi : 0 ≤ input ∧ input ≤ 7
      · obtain ⟨i, rfl⟩ := Int.eq_ofNat_of_zero_le hi.1
        have hi8 : i < 8 := by omega
        refine ⟨s.testBit i, fun w v hv => yesRow xs v j hj _ _ w hv ((proof_in xs hlen v j hj _ w hv).mono fun e w' h => by rw [hs, decide_eq_true hi] at h; exact h) (fun W => by rw [hse]; exact l2In_any s i hsl hi8 W),
          fun w v hv => wrapRow v _ _ _ w (impl_some xs v j hj _ false _ hs (fun W => by rw [hse]; exact inSet_yes s i hsl hi8 W) w hv)⟩
      · refine ⟨false, fun w v hv => noRow v _ _ w ((proof_in xs hlen v j hj input w hv).mono fun e w' h => by rw [decide_eq_false hi, Bool.and_false] at h; exact h),
          fun w v hv => wrapRow v _ _ _ w (impl_some xs v j hj _ false _ hs (fun W => by rw [hse]; exact inSet_no s input (by omega) W) w hv)⟩
  · refine ⟨false, fun w v hv => ?_, fun w v hv => ?_⟩
    · obtain ⟨p, k, rfl⟩ := hv.slice
      exact noRow _ _ _ w (proof_out xs hlen p k proof input hp w)
    · obtain ⟨p, k, rfl⟩ := hv.slice
      exact wrapRow _ _ _ _ w (impl_out xs p k proof input false hp w)

set_option maxHeartbeats 1000000 in
theorem wrapCol (v : Value) (proof input : Int) (bt : Bool) (w : World) (h : Calls Try.prog 45 #[v, .int .i64 proof, .int .i64 input, .bool true] w fun e w' => e = .returned (.bool bt) ∧ Below w.heap.size w w') :
    Calls Try.prog 21 #[v, .int .i64 proof, .int .i64 input] w fun e w' => e = .returned (.bool bt) ∧ Below w.heap.size w w' := by
  have H := Lib.hid h
  clear h
  go_enter Try.func21, Try.ntmps21
  go_wp2_with fail
  refine H.out.mono ?_
  rintro e w1 ⟨rfl, hb1⟩
  have HB := Lib.hid hb1
  clear hb1 H
  go_wp2_with fail
  go_ret
  exact ⟨rfl, HB.out⟩

set_option maxHeartbeats 1000000 in
theorem noCol (v : Value) (proof input : Int) (w : World) (h : Calls Try.prog 43 #[v, .int .i64 proof, .int .i64 input] w fun e w' => e = .returned (.bool false) ∧ Below w.heap.size w w') :
    Calls Try.prog 20 #[v, .int .i64 proof, .int .i64 input] w fun e w' => e = .returned (.bool false) ∧ Below w.heap.size w w' := by
  have H := Lib.hid h
  clear h
  go_enter Try.func20, Try.ntmps20
  go_wp2_with fail
  refine H.out.mono ?_
  rintro e w1 ⟨rfl, hb1⟩
  have HB := Lib.hid hb1
  clear hb1 H
  go_wp2_with fail
  go_ret
  exact ⟨rfl, HB.out⟩

set_option maxHeartbeats 1000000 in
theorem yesCol (xs : List (Int × Int)) (v : Value) (j : Nat) (hj : j < xs.length) (input : Int) (bt : Bool) (w : World) (hv : RV w w.heap.size v xs)
    (h : Calls Try.prog 43 #[v, .int .i64 (j : Int), .int .i64 input] w fun e w' => e = .returned (.bool true) ∧ Below w.heap.size w w')
    (ht : ∀ W : World, Calls Try.prog 73 #[.int .i64 (side xs[j] true), .int .i64 input] W fun e w' => e = .returned (.bool bt) ∧ W = w') :
    Calls Try.prog 20 #[v, .int .i64 (j : Int), .int .i64 input] w fun e w' => e = .returned (.bool bt) ∧ Below w.heap.size w w' := by
  obtain ⟨b, off, c, rfl, hlt, c0, c1⟩ := rv_at hv j hj
  have hx : xs.length ≤ 9223372036854775807 := hv.1
  have HSE : Hid (xs[j] = (xs[j].1, xs[j].2)) := rfl
  have HT := Lib.hid ht
  obtain ⟨x, hx0⟩ : ∃ a, xs[j].1 = a := ⟨_, rfl⟩
  obtain ⟨y, hy0⟩ : ∃ a, xs[j].2 = a := ⟨_, rfl⟩
  rw [HSE.out, hx0, hy0] at HT
  rw [hx0] at c0
  rw [hy0] at c1
  have HA := Lib.hid (fun W => spec_acc x y input true bt HT.out W)
  have H := Lib.hid h
  clear hv h ht hx0 hy0 HSE HT
  go_enter Try.func20, Try.ntmps20
  go_wp2_with fail
  refine H.out.mono ?_
  rintro e w1 ⟨rfl, hb1⟩
  have hw1 := hb1.size
  have HB := Lib.hid hb1
  have c0 := (hb1.cell (p := ⟨b, off + j * 2, none⟩) hlt).trans c0
  have c1 := (hb1.cell (p := ⟨b, off + j * 2 + 1, none⟩) hlt).trans c1
  clear hb1 H
  go_wp2_with fail
  refine (HA.out _).mono ?_
  rintro e w2 ⟨rfl, hb2⟩
  have HB2 := Lib.hid (HB.out.trans (hb2.mono hw1))
  clear hb2 c0 c1 HB
  go_wp2_with fail
  go_ret
  exact ⟨rfl, HB2.out⟩

/-- both answer alike -/
theorem bothCol (xs : List (Int × Int)) (hlen : xs.length ≤ 1048576) (proof input : Int) : ∃ bt : Bool,
    (∀ w v, RV w w.heap.size v xs → Calls Try.prog 20 #[v, .int .i64 proof, .int .i64 input] w fun e w' => e = .returned (.bool bt) ∧ Below w.heap.size w w') ∧
    (∀ w v, RV w w.heap.size v xs → Calls Try.prog 21 #[v, .int .i64 proof, .int .i64 input] w fun e w' => e = .returned (.bool bt) ∧ Below w.heap.size w w') := by
  by_cases hp : 0 ≤ proof ∧ proof < (xs.length : Int)
  · obtain ⟨j, rfl⟩ := Int.eq_ofNat_of_zero_le hp.1
    have hj : j < xs.length := by omega
    cases hs : someB xs[j].1 xs[j].2 with
    | false =>
      exact ⟨false, fun w v hv => noCol v _ _ w ((proof_in xs hlen v j hj input w hv).mono fun e w' h => by rw [hs, Bool.false_and] at h; exact h), fun w v hv => wrapCol v _ _ _ w (impl_none xs v j hj input true hs w hv)⟩
    | true =>
      have hb := (someB_iff _ _).1 hs
      obtain ⟨s, hse, hsl⟩ : ∃ s : Nat, side xs[j] true = (s : Int) ∧ s < 256 := ⟨(side xs[j] true).toNat, by simp only [side, if_true, if_false, Bool.false_eq_true]; omega, by simp only [side, if_true, if_false, Bool.false_eq_true]; omega⟩
      by_cases hi : 0 ≤ input ∧ input ≤ 7
      · obtain ⟨i, rfl⟩ := Int.eq_ofNat_of_zero_le hi.1
        have hi8 : i < 8 := by omega
        refine ⟨s.testBit i, fun w v hv => yesCol xs v j hj _ _ w hv ((proof_in xs hlen v j hj _ w hv).mono fun e w' h => by rw [hs, decide_eq_true hi] at h; exact h) (fun W => by rw [hse]; exact l2In_any s i hsl hi8 W),
          fun w v hv => wrapCol v _ _ _ w (impl_some xs v j hj _ true _ hs (fun W => by rw [hse]; exact inSet_yes s i hsl hi8 W) w hv)⟩
      · refine ⟨false, fun w v hv => noCol v _ _ w ((proof_in xs hlen v j hj input w hv).mono fun e w' h => by rw [decide_eq_false hi, Bool.and_false] at h; exact h),
          fun w v hv => wrapCol v _ _ _ w (impl_some xs v j hj _ true _ hs (fun W => by rw [hse]; exact inSet_no s input (by omega) W) w hv)⟩
  · refine ⟨false, fun w v hv => ?_, fun w v hv => ?_⟩
    · obtain ⟨p, k, rfl⟩ := hv.slice
      exact noCol _ _ _ w (proof_out xs hlen p k proof input hp w)
    · obtain ⟨p, k, rfl⟩ := hv.slice
      exact wrapCol _ _ _ _ w (impl_out xs p k proof input true hp w)

end Go.Proofs.Ytcafingoghoijaa.Accept

