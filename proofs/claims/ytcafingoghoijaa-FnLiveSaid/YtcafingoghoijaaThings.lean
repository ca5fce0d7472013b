/-
  The things that are guessed, in order.
-/
import Derived.Test.YtcafingoghoijaaJo9
import Derived.Test.YtcafingoghoijaaJo5
import Derived.OwnWalk
import Derived.Maps.OwnSet
namespace Go.Proofs.Ytcafingoghoijaa.Things
open Go.RowKit Go.Maps Go.Proofs.Ytcafingoghoijaa.Plain Go.Proofs.Ytcafingoghoijaa.Rect Go.Proofs.Ytcafingoghoijaa.GuessM Go.Proofs.Ytcafingoghoijaa.GuessI Go.Proofs.Ytcafingoghoijaa.Rects
open Go.Proofs.Ytcafingoghoijaa.Marks (flat encR)
set_option linter.unusedVariables false

/-- the things that f keeps -/
def kept (xs : List (Int × Int)) (f : Nat → Bool) : List (Int × Int) := (keep f xs.length).map fun j => xs.getD j (0, 0)
theorem kept_len (xs : List (Int × Int)) (f : Nat → Bool) : (kept xs f).length ≤ xs.length := by
  unfold kept
  rw [List.length_map]
  exact keep_len f _
theorem flat_next (pre : List (Int × Int)) (x y : Int) : flat (pre ++ [(x, y)]) = flat pre ++ [.int .i64 x, .int .i64 y] := by simp [flat]
theorem infoK : (Try.prog.info? 33).map (fun i => (i.zero, i.size, i.bytes)) = some (some (.agg #[.int .i64 0, .int .i64 0]), 2, 16) := by kernel_rfl
theorem two_new (w : World) (x y : Value) (t : TypeId) : ∀ j u, [x, y][j]? = some u → (w.alloc (.cells #[x, y] t)).cell? ((⟨w.heap.size, 0, none⟩ : Addr).add j) = some u := by
  intro j u hj
  match j, hj with
  | 0, hj => obtain rfl := Option.some.inj hj; exact cell_of_row _ _ 0 _ _ _ (heap_alloc_new w _)
  | 1, hj => obtain rfl := Option.some.inj hj; exact cell_of_row _ _ 1 _ _ _ (heap_alloc_new w _)
  | j + 2, hj => simp at hj
theorem own_lower {w : World} {B B' : Nat} {e : TypeId} {size n : Nat} {v : Value} {xs : List Value} (h : w.ownsRow B e size v n xs) (hB : B' ≤ B) : w.ownsRow B' e size v n xs := by
  refine ⟨h.1, ?_⟩
  rcases h.2 with h2 | ⟨g, cap, cur, h1, h2, h3⟩
  · exact .inl h2
  · exact .inr ⟨g, cap, cur, h1, Nat.le_trans hB h2, h3⟩

/-- the numbers lie in cells -/
theorem int_cells {w : World} {B : Nat} {v : Value} {L : List Nat} (h : w.ownsRow B 3 1 v L.length (L.map fun j : Nat => Value.int .i64 (j : Int))) :
    ∃ p c, v = .slice p L.length c ∧ ∀ t (ht : t < L.length), ∃ g, p = some ⟨g, 0, none⟩ ∧ g < w.heap.size ∧ w.cell? ⟨g, t, none⟩ = some (.int .i64 (L[t] : Int)) := by
  rcases h.2 with ⟨rfl, h0⟩ | ⟨g, cap, cur, rfl, hgb, hheap, hn, hcap, hs2, htake⟩
  · exact ⟨none, 0, by rw [h0], fun t ht => by omega⟩
  · refine ⟨_, cap, rfl, fun t ht => ⟨g, rfl, (Array.getElem?_eq_some_iff.1 hheap).1, ?_⟩⟩
    have h1 : (cur.toList.take (L.length * 1))[t]? = some (Value.int .i64 (L[t] : Int)) := by
      rw [htake, List.getElem?_map, List.getElem?_eq_getElem ht]; rfl
    rw [List.getElem?_take_of_lt (by omega), Array.getElem?_toList] at h1
    simpa [World.cell?, hheap] using h1

set_option maxRecDepth 100000 in
set_option maxHeartbeats 4000000 in
theorem things (xs : List (Int × Int)) (f : Nat → Bool) (v0 : Value) (B : Nat) (w : World) (hg : IsG B w v0 xs f) :
    Calls Try.prog 53 #[v0] w fun e w' => ∃ v, e = .returned v ∧
      w'.ownsRow w.heap.size 33 2 v (kept xs f).length (flat (kept xs f)) ∧ Below w.heap.size w w' := by
  obtain ⟨i0, hi, hz0, hz1, hz2⟩ := info_parts infoK
  have HI := Lib.hid (indices xs f v0 B w hg)
  have hxl := hg.1
  obtain ⟨hx, b, nn, D, rfl, _, hnn, hown, hG⟩ := hg
  have hbl := hown.lt
  have HG := Lib.hid hG
  have HOWN := Lib.hid hown
  have hkl := keep_len f xs.length
  have HM := Lib.hid (fun j => mem_keep f j xs.length)
  clear hG hown
  obtain ⟨L, hL⟩ : ∃ L, keep f xs.length = L := ⟨_, rfl⟩
  have HKE : Hid (kept xs f = L.map fun j => xs.getD j (0, 0)) := by show kept xs f = _; unfold kept; rw [hL]
  rw [HKE.out]
  rw [hL] at HI hkl HM
  rw [List.length_map]
  clear hL
  go_enter Try.func53, Try.ntmps53
  go_wp2_with fail
  refine HI.out.mono ?_
  rintro e w1 ⟨v, rfl, hrow, hb⟩
  obtain ⟨p, c, rfl, hc⟩ := int_cells hrow
  have HC := Lib.hid hc
  have HB := Lib.hid hb
  have hw1 := hb.size
  clear hrow hc hb HI
  go_wp2_with fail
  go_loopw [3, 9] (fun acc i wr => ∃ j : Nat, j ≤ L.length ∧ i = .int .i64 (j : Int) ∧ wr.ownsRow w1.heap.size 33 2 acc j (flat ((L.take j).map fun t => xs.getD t (0, 0))) ∧ Below w1.heap.size w1 wr) (fun _ i _ => L.length - (intOf i).toNat)
  case atStart => exact ⟨0, Nat.zero_le _, rfl, World.ownsRow_nil _ _ _ _, Below.refl _ _⟩
  case round =>
    obtain ⟨j, hj, rfl, hrow, hbr⟩ := hrel
    by_cases hlt : j < L.length
    · obtain ⟨g, rfl, hgl, hcell⟩ := HC.out j hlt
      have hcr := (hbr.cell (p := ⟨g, j, none⟩) hgl).trans hcell
      have hmem := (HM.out L[j]).1 (List.getElem_mem hlt)
      obtain ⟨x, hxe⟩ : ∃ x, (xs.getD L[j] (0, 0)).1 = x := ⟨_, rfl⟩
      obtain ⟨y, hye⟩ : ∃ y, (xs.getD L[j] (0, 0)).2 = y := ⟨_, rfl⟩
      have hget : xs[L[j]]'hmem.1 = xs.getD L[j] (0, 0) := by simp [List.getD, hmem.1]
      have hkl2 : keyOf Try.prog 3 (.int .i64 (L[j] : Int)) = some (.int .i64 (L[j] : Int)) := keyOf_int_mk Try.underlying3 (by have := hmem.1; simp [Lit.wf, IntKind.min, IntKind.max, IntKind.bits, IntKind.signed]; omega)
      have hownr : wr.ownsMap Try.prog 3 rectElem b nn D := by
        obtain ⟨es, clock, hb2, F, hs, hD⟩ := HOWN.out
        exact ⟨es, clock, (hbr.block b (by omega)).trans ((HB.out.block b hbl).trans hb2), F, hs, hD⟩
      obtain ⟨vv, ps, hrun, hv⟩ := hownr.lookup (t := 54) keyI Try.underlying54 (Try.zeroValue33 wr) (rectElem_mk 0 0) hkl2
      rw [HG.out.at_ L[j] hmem.1 hmem.2, hget] at hv
      obtain ⟨a0, a1, rfl, hpt⟩ := rectElem_inv hv
      have hpe := pt_one hpt
      obtain rfl : x = a0 := by rw [← hxe, hpe]
      obtain rfl : y = a1 := by rw [← hye, hpe]
      have HNX : Hid (flat ((L.take (j + 1)).map fun t => xs.getD t (0, 0)) = flat ((L.take j).map fun t => xs.getD t (0, 0)) ++ [.int .i64 x, .int .i64 y]) := by
        rw [List.take_succ_eq_append_getElem hlt, List.map_append, List.map_singleton, show xs.getD L[j] (0, 0) = (x, y) from Prod.ext hxe hye, flat_next]; exact rfl
      have hbs := hbr.size
      have hlen0 : j ≤ 1048576 := by omega
      have HBR := Lib.hid hbr
      have HROW := Lib.hid hrow
      clear hpe hpt hv hxe hye hget hmem hkl2 hownr hcell hbr hrow
      go_wp2_with (at_builtin; have HH := HROW.out; refine wpList_append_own _ rfl (.tmp 13) (.tmp 17) 25 rfl w1.heap.size 33 i0 (.agg #[.int .i64 0, .int .i64 0]) 2 16 Try.underlying25 hi hz0 hz1 hz2 rfl (by decide) _ _ _ rfl (HH.alloc _) ⟨wr.heap.size, 0, none⟩ 1 1 [.int .i64 x, .int .i64 y] rfl rfl ?c1 ?c2 ?c3 ?c4 ?c5 ?c6; go_must (case c1 => exact (two_new _ _ _ _)); go_must (case c2 => simp [Value.oneCell']); go_must (case c3 => unfold maxLen; omega); go_must (case c4 => omega); go_must (case c5 => simp; omega); go_must (clear HH; intro v' w2 hown2 hgrow hnil2))
      have HO2 := Lib.hid hown2
      have HB3 : Hid (Below w1.heap.size w1 w2) := (HBR.out.alloc hbs _).grown hgrow (by simp; omega) (fun k hk => (HROW.out.lt k hk).1)
      clear hown2 hgrow hnil2 hrun
      go_wp2_with fail
      go_roundw
      case rel => exact ⟨j + 1, by omega, by go_num, by have h := HO2.out; rw [← HNX.out] at h; exact h, HB3.out⟩
      case measure => simp [intOf]; omega
    · obtain rfl : j = L.length := by omega
      have HROW := Lib.hid hrow
      have HBR := Lib.hid hbr
      clear hrow hbr
      go_wp2_with fail
      go_ret
      refine ⟨_, rfl, own_lower (B := w1.heap.size) (by have h := HROW.out; rw [List.take_length] at h; exact h) hw1, HB.out.trans (HBR.out.mono hw1)⟩
end Go.Proofs.Ytcafingoghoijaa.Things
