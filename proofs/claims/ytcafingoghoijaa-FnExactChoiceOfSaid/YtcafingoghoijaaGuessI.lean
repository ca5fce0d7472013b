/-
  The guesses' numbers in ascending order (slices.Sorted of maps.Keys), the least one, the things themselves.
-/
import Derived.Test.YtcafingoghoijaaGuessM
import Derived.Test.YtcafingoghoijaaShelfI
import Derived.Test.YtcafingoghoijaaRect
import Derived.Test.YtcafingoghoijaaMarksQ
import Derived.Shelf.SlIterI.Sorted
import Derived.Shelf.SortM.Plain
import Derived.Shelf.SortM.SortNone
import Derived.OwnWalk
import Derived.Maps.OwnSet
namespace Go.Proofs.Ytcafingoghoijaa.GuessI
open Go.RowKit Go.Maps Go.Sort Go.Shelf Go.Proofs.Ytcafingoghoijaa.Plain Go.Proofs.Ytcafingoghoijaa.Rect Go.Proofs.Ytcafingoghoijaa.GuessM Go.Proofs.Ytcafingoghoijaa.Rects
open Go.Proofs.Ytcafingoghoijaa.Marks (flat encR)
set_option linter.unusedVariables false

/-- v is a map of the things of xs that f keeps, by their numbers, in a block that lies from B on -/
def IsG (B : Nat) (w : World) (v : Value) (xs : List (Int × Int)) (f : Nat → Bool) : Prop :=
  xs.length ≤ 1048576 ∧ ∃ mb nn D, v = .map (some mb) ∧ B ≤ mb ∧ nn ≤ 1048576 ∧ w.ownsMap Try.prog 3 rectElem mb nn D ∧ Guess D xs f
theorem IsG.later {B : Nat} {w w1 : World} {v : Value} {xs : List (Int × Int)} {f : Nat → Bool} (h : IsG B w v xs f) (hb : Below w.heap.size w w1) : IsG B w1 v xs f := by
  obtain ⟨h0, mb, nn, D, h1, h2, h3, ⟨es, clock, hb2, F, hs, hD⟩, h5⟩ := h
  exact ⟨h0, mb, nn, D, h1, h2, h3, ⟨es, clock, (hb.block mb (Array.getElem?_eq_some_iff.1 hb2).1).trans hb2, F, hs, hD⟩, h5⟩

theorem keyI : Keyed Try.prog 3 := int_keyed Try.underlying3
/-- slices.Sort's two contracts, at the fence that asks nothing -/
theorem sorts (m : Nat) : AnyZI.SortsIn Try.prog Try.sortedI_ren Fence.wide m :=
  ⟨fun blk off cap ss W hH hblk hsz => callsIn_wide.2 (AnyM.slices_Sort_int Try.sortI blk off cap ss W hH hblk hsz),
   fun p cap W => callsIn_wide.2 (AnyM.slices_Sort_int_none Try.sortI p cap W)⟩

set_option maxHeartbeats 2000000 in
theorem indices (xs : List (Int × Int)) (f : Nat → Bool) (v0 : Value) (B : Nat) (w : World) (hg : IsG B w v0 xs f) :
    Calls Try.prog 76 #[v0] w fun e w' => ∃ v, e = .returned v ∧
      w'.ownsRow w.heap.size 3 1 v (keep f xs.length).length ((keep f xs.length).map fun j : Nat => Value.int .i64 (j : Int)) ∧ Below w.heap.size w w' := by
  obtain ⟨hx, b, nn, D0, rfl, _, hnn, hown, hG⟩ := hg
  have hsz := hG.size hown keyI Try.underlying3
  have hkl := keep_len f xs.length
  have hmax : Maps.size D0 ≤ maxLen := by unfold maxLen; omega
  have hbytes : Maps.size D0 * 8 ≤ 140737488355328 := by omega
  have HS := Lib.hid (fun ss hp => hG.sorted hown keyI Try.underlying3 (ss := ss) hp)
  clear hsz hkl
  refine (callsIn_wide (n := 6)).1 ?_
  have hbl := hown.lt
  have hseq : SeqGives Fence.wide 2 Try.prog 99 #[.pointer (some ⟨w.heap.size, 0, none⟩)] encZ (fun ss => ss.Perm (intKeys D0)) (Maps.size D0) (w.alloc (.cells #[.map (some b)] 54)) :=
    AnyZI.keys_gives (ρ := Try.keysI_ren) { Try.keysI with } Fence.wide _ trivial rfl (by omega) w.heap.size b nn D0 _ (by simp) (by simp) (by
      obtain ⟨es, clock, hb, Ft, hs, hD⟩ := hown
      exact ⟨es, clock, (Below.heap_alloc _ _ b hbl).trans hb, Ft, hs, hD⟩)
  have cK : ∀ mb W, CallsIn Fence.wide 5 Try.prog 90 #[.map mb] W fun e w' => e = .returned (.func (.func 99) #[] #[.pointer (some ⟨W.heap.size, 0, none⟩)]) ∧ w' = W.alloc (.cells #[.map mb] 54) := fun mb W => AnyZI.keys_in Try.keysI Fence.wide 5 trivial rfl mb W
  have cS := AnyZI.sorted_in Try.sortedI Fence.wide 5 trivial trivial trivial trivial rfl (by omega) (sorts _) (enters_of Try.func98 (by kernel_rfl) rfl) 99 #[.pointer (some ⟨w.heap.size, 0, none⟩)] trivial (enters_of Try.func99 (by kernel_rfl) rfl) _ _ hmax hbytes _ hseq
  change CallsIn _ _ Try.prog 89 _ _ _ at cS
  have hfK : Fence.wide.fn 90 := trivial
  have hfS : Fence.wide.fn 89 := trivial
  refine callsIn_of_wp Try.func76 rfl trivial ?_ rfl
  simp only [Try.ntmps76, List.size_toArray, List.length_cons, List.length_nil, Nat.reduceAdd, Nat.reduceSub, Array.replicate_succ, Array.replicate_zero, List.push_toArray, List.append_toArray, List.nil_append, List.cons_append]
  gi_wp2_with (first
    | (gi_at_call 90; refine (cK _ _).mono ?_; rintro e w' ⟨rfl, rfl⟩)
    | (gi_at_call 89; refine cS.mono ?_; rintro e w' ⟨v, ss, rfl, hS, hrow, hnil, hb⟩))
  go_ret
  have hrow2 := ownsRow_base_a (base' := w.heap.size) hrow (by simp)
  have hss := HS.out ss hS
  have hlen : ss.length = (keep f xs.length).length := by rw [← List.length_mergeSort ss (le := fun x y => decide (x ≤ y)), hss, List.length_map]
  rw [hss, hlen, List.map_map] at hrow2
  exact ⟨v, rfl, hrow2, ((Below.refl _ w).alloc (Nat.le_refl _) _).trans (hb.mono (by simp))⟩

/-- the first number of the kept, or -1 -/
def leastK (f : Nat → Bool) (n : Nat) : Int := match keep f n with | [] => -1 | j :: _ => (j : Int)

set_option maxHeartbeats 2000000 in
theorem least (xs : List (Int × Int)) (f : Nat → Bool) (v0 : Value) (B : Nat) (w : World) (hg : IsG B w v0 xs f) :
    Calls Try.prog 41 #[v0] w fun e w' => e = .returned (.int .i64 (leastK f xs.length)) ∧ Below w.heap.size w w' := by
  have HI := Lib.hid (fun W hW => indices xs f v0 B W hW)
  have HG := Lib.hid hg
  obtain ⟨hx, b, nn, D0, rfl, _, hnn, hown, hG⟩ := hg
  have hsz := hG.size hown keyI Try.underlying3
  have HL := Lib.hid hsz
  clear hG hsz
  cases hk : keep f xs.length with
  | nil =>
    have e0 : Maps.size D0 = 0 := by rw [HL.out, hk]; rfl
    have e1 : (((Maps.size D0 : Nat) : Int) == 0) = true := by rw [e0]; rfl
    have HF : Hid (leastK f xs.length = -1) := by show leastK f xs.length = -1; unfold leastK; rw [hk]
    rw [HF.out]
    clear hk e0 HF HI HG
    go_enter Try.func41, Try.ntmps41
    go_wp2_with (first
      | (at_len; refine wpList_len_own _ rfl _ 54 rfl 3 33 Try.underlying54 _ b nn D0 rfl hown ?_))
    go_ret
    exact ⟨rfl, Below.refl _ _⟩
  | cons j t =>
    have e1 : (((Maps.size D0 : Nat) : Int) == 0) = false := by rw [HL.out, hk, beq_eq_false_iff_ne]; simp; omega
    have HF : Hid (leastK f xs.length = (j : Int)) := by show leastK f xs.length = (j : Int); unfold leastK; rw [hk]
    rw [HF.out]
    have HK := Lib.hid hk
    clear hk HF
    go_enter Try.func41, Try.ntmps41
    go_wp2_with (first
      | (at_len; refine wpList_len_own _ rfl _ 54 rfl 3 33 Try.underlying54 _ b nn D0 rfl hown ?_))
    refine (HI.out w HG.out).mono ?_
    rintro e w1 ⟨v, rfl, hrow, hb⟩
    rw [HK.out] at hrow
    rcases hrow.2 with ⟨rfl, h0⟩ | ⟨g, cap, cur, rfl, hgb, hheap, hn, hcap, hs2, htake⟩
    · simp at h0
    · have hl : (j :: t).length = t.length + 1 := rfl
      rw [hl] at hn ⊢
      have c0 : w1.cell? ⟨g, 0, none⟩ = some (.int .i64 (j : Int)) := by
        have h0 : (cur.toList.take ((t.length + 1) * 1))[0]? = some (Value.int .i64 (j : Int)) := by
          rw [show ((j :: t).length * 1) = (t.length + 1) * 1 from rfl] at htake
          rw [htake]; rfl
        rw [List.getElem?_take_of_lt (by omega), Array.getElem?_toList] at h0
        simpa [World.cell?, hheap] using h0
      have HB := Lib.hid hb
      clear hb hrow htake hheap HI HG
      go_wp2_with fail
      go_ret
      exact ⟨rfl, HB.out⟩
end Go.Proofs.Ytcafingoghoijaa.GuessI
