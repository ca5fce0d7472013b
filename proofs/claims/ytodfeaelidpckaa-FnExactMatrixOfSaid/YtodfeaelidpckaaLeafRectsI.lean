/-
  The program's rectangles of the ends.
-/
import Derived.Test.YtodfeaelidpckaaLeavesI
import Derived.Test.YtodfeaelidpckaaTreeIn
import Derived.Test.YtodfeaelidpckaaSaidRects
namespace Go.Proofs.Ytodfeaelidpckaa.LeafRectsI
open Go.RowKit Go.Shelf Go.Proofs.Ytodfeaelidpckaa.Plain Go.Proofs.Ytodfeaelidpckaa.Tree Go.Proofs.Ytodfeaelidpckaa.Read Go.Proofs.Ytodfeaelidpckaa.Rect Go.Proofs.Ytodfeaelidpckaa.TreeOf Go.Proofs.Ytodfeaelidpckaa.TreeIn Go.Proofs.Ytodfeaelidpckaa.App Go.Proofs.Ytodfeaelidpckaa.Leaf Go.Proofs.Ytodfeaelidpckaa.LeavesI
open Go.Proofs.Ytodfeaelidpckaa.SaidRects (info_r)
set_option linter.unusedVariables false
set_option linter.unusedSimpArgs false

theorem cellsL_get : ∀ (l : List (Nat × Nat × Bool)) (k : Nat) (h : k < l.length), (cellsL l)[k * 3]? = some (.int .i64 (l[k].1 : Int)) ∧ (cellsL l)[k * 3 + 1]? = some (.int .i64 (l[k].2.1 : Int)) ∧ (cellsL l)[k * 3 + 2]? = some (.int .i64 (bitI l[k].2.2))
  | [], k, h => by simp at h
  | p :: l, 0, h => by simp [cellsL]
  | p :: l, k + 1, h => by
    have ih := cellsL_get l k (by simpa using h)
    have e : cellsL (p :: l) = .int .i64 (p.1 : Int) :: .int .i64 (p.2.1 : Int) :: .int .i64 (bitI p.2.2) :: cellsL l := by simp [cellsL]
    have e0 : (k + 1) * 3 = k * 3 + 3 := by omega
    rw [e, e0]
    simpa using ih
theorem cellsR_take (l : List (Nat × Nat × Bool)) (k : Nat) (h : k < l.length) : cellsR (l.take (k + 1)) = cellsR (l.take k) ++ [.int .i64 (l[k].1 : Int), .int .i64 (l[k].2.1 : Int)] := by
  rw [List.take_succ_eq_append_getElem h, cellsR_append]
  simp [cellsR]
theorem cells_list {w : World} (cs : List Value) (ty : TypeId) : ∀ j u, cs[j]? = some u → (w.alloc (.cells cs.toArray ty)).cell? ((⟨w.heap.size, 0, none⟩ : Addr).add j) = some u := by
  intro j u hj
  have h := cell_of_row (w.alloc (.cells cs.toArray ty)) w.heap.size j cs.toArray ty (0, 0) (heap_alloc_new w _)
  have e : ((⟨w.heap.size, 0, none⟩ : Addr).add j) = ⟨w.heap.size, j, none⟩ := by
    simp [Addr.add]
    try exact fun h => h.symm
  rw [e, h]
  simpa using hj
theorem cells_list' {w : World} {n : Nat} (hn : w.heap.size = n) (cs : List Value) (ty : TypeId) : ∀ j u, cs[j]? = some u → (w.alloc (.cells cs.toArray ty)).cell? ((⟨n, 0, none⟩ : Addr).add j) = some u := by
  subst hn
  exact cells_list cs ty

set_option maxHeartbeats 4000000 in
set_option maxRecDepth 100000 in
theorem impl_nil (s : ByteArray) (r c : Int) (M N : Nat) (hI : ∀ W : World, Calls Try.prog 46 #[.string s, .int .i64 r, .int .i64 c] W fun e w' => e = .returned (.tuple #[.nilIface, rect M N]) ∧ Below W.heap.size W w') (w : World) :
    Calls Try.prog 27 #[.string s, .int .i64 r, .int .i64 c] w fun e w' => ∃ v, e = .returned v ∧ Own w w' 57 2 v 0 [] := by
  have HI := Lib.hid hI
  clear hI
  go_enter Try.func27, Try.ntmps27
  go_wp2_with fail
  refine (HI.out _).mono ?_
  rintro e w1 ⟨rfl, hb1⟩
  have HB1 := Lib.hid (hb1.alloc hb1.size (.cells #[.int .i64 (M : Int), .int .i64 (N : Int)] 57))
  clear hb1
  go_wp2_with fail
  go_ret
  exact ⟨.slice none 0 0, rfl, ⟨⟨by simp, .inl ⟨rfl, rfl⟩⟩, HB1.out⟩⟩

set_option maxHeartbeats 8000000 in
set_option maxRecDepth 100000 in
theorem impl_yes (s : ByteArray) (t : T) (hw : wf t) (h : s.data.toList = text t) (hs : s.size ≤ 2000) (r c : Nat) (hr : 1 ≤ r ∧ r ≤ 8) (hc : 1 ≤ c ∧ c ≤ 8) (w : World) :
    Calls Try.prog 27 #[.string s, .int .i64 (r : Int), .int .i64 (c : Int)] w fun e w' => ∃ v, e = .returned v ∧ Own w w' 57 2 v (leavesT t (allN r) (allN c)).length (cellsR (leavesT t (allN r) (allN c))) := by
  obtain ⟨_, p2, p3⟩ := pow_facts r hr
  obtain ⟨_, q2, q3⟩ := pow_facts c hc
  have hl : (text t).length = s.size := by rw [← h]; simp
  have hll := Nat.le_trans (leaves_length t (allN r) (allN c)) (show _ ≤ 2000 by omega)
  have HI := Lib.hid (in_yes s (tree t) (tree_yes s t hw h hs) r c hr hc)
  have hC := leaves_to t (by omega)
  unfold Go.Proofs.Ytodfeaelidpckaa.Count.Node LeavesC at hC
  obtain ⟨i0, hi, hz0, hz1, hz2⟩ := info_r
  clear h hl hw
  rcases hC with ⟨V, ev, hv⟩ | ⟨V, ev, hv⟩
  · have HC := Lib.hid (fun W => hv (allN r) (allN c) W p3 q3)
    rw [ev] at HI
    clear ev hv
    generalize leavesT t (allN r) (allN c) = LA at *
    generalize allN r = M at *
    generalize allN c = N at *
    go_enter Try.func27, Try.ntmps27
    go_wp2_with fail
    refine (HI.out _).mono ?_
    rintro e w1 ⟨rfl, hb1⟩
    have HB1 := Lib.hid (hb1.alloc hb1.size (.cells #[.int .i64 (M : Int), .int .i64 (N : Int)] 57))
    clear hb1
    go_wp2_with fail
    refine (HC.out _).mono ?_
    rintro e w2 ⟨v, rfl, hO⟩
    have HB2 := Lib.hid (HB1.out.trans (hO.below.mono HB1.out.size))
    obtain ⟨p, cc, rfl⟩ := hO.slice
    have HCE : Hid (∀ k (hk : k < LA.length), ∃ g, p = some ⟨g, 0, none⟩ ∧ g < w2.heap.size ∧ w2.cell? ⟨g, k * 3, none⟩ = some (.int .i64 (LA[k].1 : Int)) ∧ w2.cell? ⟨g, k * 3 + 1, none⟩ = some (.int .i64 (LA[k].2.1 : Int)) ∧ w2.cell? ⟨g, k * 3 + 2, none⟩ = some (.int .i64 (bitI LA[k].2.2))) := fun k hk => by
      obtain ⟨g, hp, _, hg, h0⟩ := hO.cell (k * 3) (by omega)
      obtain ⟨g1, hp1, _, _, h1⟩ := hO.cell (k * 3 + 1) (by omega)
      obtain ⟨g2, hp2, _, _, h2⟩ := hO.cell (k * 3 + 2) (by omega)
      rw [hp] at hp1 hp2
      simp only [Option.some.injEq, Addr.mk.injEq, and_true] at hp1 hp2
      subst hp1 hp2
      obtain ⟨x0, x1, x2⟩ := cellsL_get LA k hk
      exact ⟨g, hp, hg, by rw [h0, x0], by rw [h1, x1], by rw [h2, x2]⟩
    clear hO HB1
    go_wp2_with fail
    go_loopw [9, 25] (fun l i wr => ∃ k : Nat, k ≤ LA.length ∧ i = .int .i64 (k : Int) ∧ Hid (Own w2 wr 57 2 l k (cellsR (LA.take k)))) (fun _ i _ => LA.length - (intOf i).toNat)
    case atStart => exact ⟨0, Nat.zero_le _, rfl, (Own.none w2 57 2 : Own w2 _ 57 2 _ 0 [])⟩
    case round =>
      obtain ⟨k, hk, rfl, HO⟩ := hrel
      by_cases hlt : k < LA.length
      · obtain ⟨g, hp, hg, y0, y1, y2⟩ := HCE.out k hlt
        subst hp
        have HN : Hid (cellsR (LA.take (k + 1)) = cellsR (LA.take k) ++ [.int .i64 (LA[k].1 : Int), .int .i64 (LA[k].2.1 : Int)]) := cellsR_take LA k hlt
        have hbw := HO.out.below
        have x0 := (hbw.cell (p := ⟨g, k * 3, none⟩) hg).trans y0
        have x1 := (hbw.cell (p := ⟨g, k * 3 + 1, none⟩) hg).trans y1
        have x2 := (hbw.cell (p := ⟨g, k * 3 + 2, none⟩) hg).trans y2
        generalize (LA[k].1 : Int) = R1 at *
        generalize (LA[k].2.1 : Int) = C1 at *
        generalize bitI LA[k].2.2 = b1 at *
        have HO2 := Lib.hid (HO.out.later ((Below.refl wr.heap.size wr).alloc (Nat.le_refl _) (.cells #[.int .i64 R1, .int .i64 C1, .int .i64 b1] 67)))
        obtain ⟨lp, lc, hlv⟩ := HO.out.slice
        subst hlv
        clear HO y0 y1 y2 hbw
        go_wp2_with (at_builtin; have HH := HO2.out; refine wpList_append_own _ rfl (.tmp 29) (.tmp 32) 30 rfl w2.heap.size 57 i0 (.agg #[.int .i64 0, .int .i64 0]) 2 16 Try.underlying30 hi hz0 hz1 hz2 rfl (by decide) _ _ _ rfl (HH.row.alloc _) ⟨wr.heap.size + 1, 0, none⟩ 1 1 [.int .i64 R1, .int .i64 C1] rfl rfl ?c11 ?c12 ?c13 ?c14 ?c15 ?c16; go_must (case c11 => exact (cells_list' (by simp) [.int .i64 R1, .int .i64 C1] _)); go_must (case c12 => simp [Value.oneCell']); go_must (case c13 => (unfold maxLen; omega)); go_must (case c14 => omega); go_must (case c15 => (have := HH.below.size; simp at this ⊢; omega)); go_must (clear HH; intro v3 w3 hown3 hgrow3 _; have H3 := Lib.hid (Own.next HO2.out _ hown3 hgrow3); clear HO2 hown3 hgrow3))
        go_wp2_with fail
        go_roundw
        case rel => exact ⟨k + 1, by omega, by go_num, by show Own _ _ _ _ _ _ _; rw [HN.out]; exact H3.out⟩
        case measure => simp [intOf]; omega
      · obtain rfl : k = LA.length := by omega
        have h := HO.out
        rw [List.take_length] at h
        have HF := Lib.hid (Leaf.Own.lower h HB2.out)
        clear h
        obtain ⟨lp, lc, hlv⟩ := HO.out.slice
        clear HO HCE
        go_wp2_with fail
        go_ret
        exact ⟨_, rfl, HF.out⟩
  · have HC := Lib.hid (fun W => hv (allN r) (allN c) W p3 q3)
    rw [ev] at HI
    clear ev hv
    generalize leavesT t (allN r) (allN c) = LA at *
    generalize allN r = M at *
    generalize allN c = N at *
    go_enter Try.func27, Try.ntmps27
    go_wp2_with fail
    refine (HI.out _).mono ?_
    rintro e w1 ⟨rfl, hb1⟩
    have HB1 := Lib.hid (hb1.alloc hb1.size (.cells #[.int .i64 (M : Int), .int .i64 (N : Int)] 57))
    clear hb1
    go_wp2_with fail
    refine (HC.out _).mono ?_
    rintro e w2 ⟨v, rfl, hO⟩
    have HB2 := Lib.hid (HB1.out.trans (hO.below.mono HB1.out.size))
    obtain ⟨p, cc, rfl⟩ := hO.slice
    have HCE : Hid (∀ k (hk : k < LA.length), ∃ g, p = some ⟨g, 0, none⟩ ∧ g < w2.heap.size ∧ w2.cell? ⟨g, k * 3, none⟩ = some (.int .i64 (LA[k].1 : Int)) ∧ w2.cell? ⟨g, k * 3 + 1, none⟩ = some (.int .i64 (LA[k].2.1 : Int)) ∧ w2.cell? ⟨g, k * 3 + 2, none⟩ = some (.int .i64 (bitI LA[k].2.2))) := fun k hk => by
      obtain ⟨g, hp, _, hg, h0⟩ := hO.cell (k * 3) (by omega)
      obtain ⟨g1, hp1, _, _, h1⟩ := hO.cell (k * 3 + 1) (by omega)
      obtain ⟨g2, hp2, _, _, h2⟩ := hO.cell (k * 3 + 2) (by omega)
      rw [hp] at hp1 hp2
      simp only [Option.some.injEq, Addr.mk.injEq, and_true] at hp1 hp2
      subst hp1 hp2
      obtain ⟨x0, x1, x2⟩ := cellsL_get LA k hk
      exact ⟨g, hp, hg, by rw [h0, x0], by rw [h1, x1], by rw [h2, x2]⟩
    clear hO HB1
    go_wp2_with fail
    go_loopw [9, 25] (fun l i wr => ∃ k : Nat, k ≤ LA.length ∧ i = .int .i64 (k : Int) ∧ Hid (Own w2 wr 57 2 l k (cellsR (LA.take k)))) (fun _ i _ => LA.length - (intOf i).toNat)
    case atStart => exact ⟨0, Nat.zero_le _, rfl, (Own.none w2 57 2 : Own w2 _ 57 2 _ 0 [])⟩
    case round =>
      obtain ⟨k, hk, rfl, HO⟩ := hrel
      by_cases hlt : k < LA.length
      · obtain ⟨g, hp, hg, y0, y1, y2⟩ := HCE.out k hlt
        subst hp
        have HN : Hid (cellsR (LA.take (k + 1)) = cellsR (LA.take k) ++ [.int .i64 (LA[k].1 : Int), .int .i64 (LA[k].2.1 : Int)]) := cellsR_take LA k hlt
        have hbw := HO.out.below
        have x0 := (hbw.cell (p := ⟨g, k * 3, none⟩) hg).trans y0
        have x1 := (hbw.cell (p := ⟨g, k * 3 + 1, none⟩) hg).trans y1
        have x2 := (hbw.cell (p := ⟨g, k * 3 + 2, none⟩) hg).trans y2
        generalize (LA[k].1 : Int) = R1 at *
        generalize (LA[k].2.1 : Int) = C1 at *
        generalize bitI LA[k].2.2 = b1 at *
        have HO2 := Lib.hid (HO.out.later ((Below.refl wr.heap.size wr).alloc (Nat.le_refl _) (.cells #[.int .i64 R1, .int .i64 C1, .int .i64 b1] 67)))
        obtain ⟨lp, lc, hlv⟩ := HO.out.slice
        subst hlv
        clear HO y0 y1 y2 hbw
        go_wp2_with (at_builtin; have HH := HO2.out; refine wpList_append_own _ rfl (.tmp 29) (.tmp 32) 30 rfl w2.heap.size 57 i0 (.agg #[.int .i64 0, .int .i64 0]) 2 16 Try.underlying30 hi hz0 hz1 hz2 rfl (by decide) _ _ _ rfl (HH.row.alloc _) ⟨wr.heap.size + 1, 0, none⟩ 1 1 [.int .i64 R1, .int .i64 C1] rfl rfl ?c21 ?c22 ?c23 ?c24 ?c25 ?c26; go_must (case c21 => exact (cells_list' (by simp) [.int .i64 R1, .int .i64 C1] _)); go_must (case c22 => simp [Value.oneCell']); go_must (case c23 => (unfold maxLen; omega)); go_must (case c24 => omega); go_must (case c25 => (have := HH.below.size; simp at this ⊢; omega)); go_must (clear HH; intro v3 w3 hown3 hgrow3 _; have H3 := Lib.hid (Own.next HO2.out _ hown3 hgrow3); clear HO2 hown3 hgrow3))
        go_wp2_with fail
        go_roundw
        case rel => exact ⟨k + 1, by omega, by go_num, by show Own _ _ _ _ _ _ _; rw [HN.out]; exact H3.out⟩
        case measure => simp [intOf]; omega
      · obtain rfl : k = LA.length := by omega
        have h := HO.out
        rw [List.take_length] at h
        have HF := Lib.hid (Leaf.Own.lower h HB2.out)
        clear h
        obtain ⟨lp, lc, hlv⟩ := HO.out.slice
        clear HO HCE
        go_wp2_with fail
        go_ret
        exact ⟨_, rfl, HF.out⟩
end Go.Proofs.Ytodfeaelidpckaa.LeafRectsI
