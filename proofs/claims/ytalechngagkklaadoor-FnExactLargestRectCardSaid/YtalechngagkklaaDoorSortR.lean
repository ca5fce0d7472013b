/-
  slices.SortFunc over rectangles by their rows; slices.Collect and slices.SortedFunc of a map's keys.
-/
import Derived.Test.YtalechngagkklaaDoorKeysI
import Derived.Test.YtalechngagkklaaDoorShelfS
import Derived.Shelf.SlSortCmp.WholeK
import Derived.Shelf.SlSortCmp.NoneTotal
namespace Go.Proofs.YtalechngagkklaaDoor.SortR
open Go.RowKit Go.Lib Go.Shelf Go.Maps Go.Proofs Go.Proofs.YtalechngagkklaaDoor.Plain Go.Proofs.YtalechngagkklaaDoor.Rect Go.Proofs.YtalechngagkklaaDoor.KeysR Go.Proofs.YtalechngagkklaaDoor.KeysI
open Go.Sort (flatK HoldsK Holds putRowK putRow putCells SWO PermIn SortedIn grow mapBlock get_flatK size_flatK ext_get! alloc_eq_grow grow_grow)
set_option linter.unusedVariables false

/-- a rectangle's two cells -/
abbrev encR (p : Int × Int) : List Value := [.int .i64 p.1, .int .i64 p.2]
/-- by their rows -/
abbrev byRows (x y : Int × Int) : Int := Lib.compareInt x.1 y.1
theorem ltRows (x y : Int × Int) : ltOf byRows x y = decide (x.1 < y.1) := by
  unfold ltOf byRows Lib.compareInt
  by_cases h1 : x.1 < y.1
  · simp [h1]
  · by_cases h2 : y.1 < x.1 <;> simp [h1, h2]
theorem swoRows : SWO (ltOf byRows) where
  irrefl x := by rw [ltRows]; simp
  trans x y z h1 h2 := by rw [ltRows] at *; simp at *; omega
  ntrans x y z h1 h2 := by rw [ltRows] at *; simp at *; omega

set_option maxHeartbeats 1000000 in
theorem cmp_int (x y : Int) (w : World) : Calls Tryd.prog 148 #[.int .i64 x, .int .i64 y] w fun e w' => e = .returned (.int .i64 (Lib.compareInt x y)) ∧ w' = w := by
  have hnan : ∀ (z : Int) (W : World), Calls Tryd.prog 173 #[.int .i64 z] W fun e w' => e = .returned (.bool false) ∧ w' = W := by
    intro z W
    go_enter Tryd.func173, Tryd.ntmps173
    go_wp2
    go_ret
    exact ⟨rfl, rfl⟩
  have HN := Lib.hid hnan
  clear hnan
  unfold Lib.compareInt
  by_cases h1 : x < y
  · rw [if_pos h1]
    go_enter Tryd.func148, Tryd.ntmps148
    go_wp2_with (go_at_call 173; refine (HN.out _ _).mono ?_; rintro e w' ⟨rfl, rfl⟩)
    go_ret
    exact ⟨rfl, rfl⟩
  · rw [if_neg h1]
    by_cases h2 : y < x
    · rw [if_pos h2]
      go_enter Tryd.func148, Tryd.ntmps148
      go_wp2_with (go_at_call 173; refine (HN.out _ _).mono ?_; rintro e w' ⟨rfl, rfl⟩)
      go_ret
      exact ⟨rfl, rfl⟩
    · rw [if_neg h2]
      go_enter Tryd.func148, Tryd.ntmps148
      go_wp2_with (go_at_call 173; refine (HN.out _ _).mono ?_; rintro e w' ⟨rfl, rfl⟩)
      go_ret
      exact ⟨rfl, rfl⟩

set_option maxHeartbeats 1000000 in
theorem closure (x y : Int × Int) (W : World) : Calls Tryd.prog 147 #[.agg #[.int .i64 x.1, .int .i64 x.2], .agg #[.int .i64 y.1, .int .i64 y.2]] W fun e w' => e = .returned (.int .i64 (byRows x y)) ∧ ∃ q os', w' = grow (W.drewN q) os' := by
  have hcon := fun W' => cmp_int x.1 y.1 W'
  unfold byRows
  generalize Lib.compareInt x.1 y.1 = r at hcon ⊢
  have HC := Lib.hid hcon
  clear hcon
  go_enter Tryd.func147, Tryd.ntmps147
  go_wp2_with (go_at_call 148; refine (HC.out _).mono ?_; rintro e w' ⟨rfl, rfl⟩)
  go_ret
  exact ⟨rfl, 0, _, by rw [alloc_eq_grow, alloc_eq_grow, grow_grow]; rfl⟩
theorem closure_lays (blk off size : Nat) (w : World) : CmpLays Tryd.prog 147 #[] encR 2 byRows blk off size w :=
  fun _ _ _ _ x y => closure x y _

theorem flat_get : ∀ (ss : List (Int × Int)) (t : Nat), t < ss.length * 2 → (flat ss)[t]? = some ((encR ss[t / 2]!)[t % 2]!)
  | [], t, h => by simp at h
  | p :: r, 0, h => by simp [flat]
  | p :: r, 1, h => by simp [flat]
  | p :: r, t + 2, h => by
    have ih := flat_get r t (by simp at h; omega)
    have e1 : (t + 2) / 2 = t / 2 + 1 := by omega
    have e2 : (t + 2) % 2 = t % 2 := by omega
    have e3 : flat (p :: r) = Value.int .i64 p.1 :: Value.int .i64 p.2 :: flat r := by simp [flat]
    rw [e3, e1, e2, List.getElem?_cons_succ, List.getElem?_cons_succ, ih]
    simp
theorem flat_length (ss : List (Int × Int)) : (flat ss).length = ss.length * 2 := by
  induction ss with
  | nil => rfl
  | cons p r ih =>
    have e3 : flat (p :: r) = Value.int .i64 p.1 :: Value.int .i64 p.2 :: flat r := by simp [flat]
    rw [e3]; simp [ih]; omega
theorem flatK_eq (ss : List (Int × Int)) : flatK encR 2 ss.toArray = (flat ss).toArray := by
  refine ext_get! (by simp [flat_length]) fun t ht => ?_
  have ht' : t < ss.length * 2 := by simpa using ht
  rw [get_flatK _ _ _ t (by simpa using ht')]
  have h := flat_get ss t ht'
  have hl : t < (flat ss).length := by rw [flat_length]; exact ht'
  rw [getElem!_pos _ t (by simpa using hl)]
  rw [List.getElem?_eq_getElem hl] at h
  have h2 := Option.some.inj h
  simpa using h2.symm

theorem holds_of {w : World} {g : Nat} {cur : Array Value} {e : TypeId} {ss : List (Int × Int)} (hb : w.heap[g]? = some (.cells cur e (0, 0))) (ht : cur.toList.take (ss.length * 2) = flat ss) : HoldsK encR 2 w g 0 ss.toArray := by
  unfold HoldsK
  rw [flatK_eq]
  intro j hj
  have hj1 : j < (flat ss).length := by simpa using hj
  have hj' : j < ss.length * 2 := by rw [flat_length] at hj1; exact hj1
  refine ⟨?_, by simp [World.frozen?, hb]⟩
  have h1 : (cur.toList.take (ss.length * 2))[j]? = (flat ss)[j]? := by rw [ht]
  rw [List.getElem?_take_of_lt hj'] at h1
  simp only [World.cell?, hb, Nat.zero_add]
  simp only [Option.isSome_none, Bool.false_eq_true, if_false]
  rw [← Array.getElem?_toList, h1]
  rw [getElem!_pos _ j hj, List.getElem?_eq_getElem hj1]
  simp
theorem heap_after {w : World} {g n : Nat} {os : Array Obj} {cur : Array Value} {e : TypeId} (F : Array Value) (hb : w.heap[g]? = some (.cells cur e (0, 0))) :
    (grow (putRow id (Go.Sort.ahead w n) g 0 F) os).heap[g]? = some (.cells (putCells id 0 F cur) e (0, 0)) := by
  have hg : g < w.heap.size := (Array.getElem?_eq_some_iff.1 hb).1
  rw [Go.Sort.heap_grow_old _ _ (by simpa using hg)]
  simp [putRow, mapBlock, Go.Sort.ahead, Array.getElem?_modify, hb, Go.Sort.onCells]
theorem below_after {B : Nat} {w : World} {g n : Nat} {os : Array Obj} (F : Array Value) (hB : B ≤ g) (hw : B ≤ w.heap.size) : Below B w (grow (putRow id (Go.Sort.ahead w n) g 0 F) os) := by
  refine ⟨rfl, rfl, rfl, by simp, fun k hk => ?_⟩
  rw [Go.Sort.heap_grow_old _ _ (by simp; omega)]
  have : g ≠ k := by omega
  simp [putRow, mapBlock, Go.Sort.ahead, Array.getElem?_modify, this]
theorem take_after (cur : Array Value) (ts : List Value) (h : ts.length ≤ cur.size) : (putCells id 0 ts.toArray cur).toList.take ts.length = ts := by
  apply List.ext_getElem?
  intro j
  by_cases hj : j < ts.length
  · rw [List.getElem?_take_of_lt hj, Array.getElem?_toList]
    simp [putCells, hj, show j < cur.size by omega]
  · rw [List.getElem?_take_eq_none (by omega), List.getElem?_eq_none (by omega)]
theorem owns_after {w : World} {base g cap n : Nat} {e : TypeId} {os : Array Obj} {cur : Array Value} {ts : List (Int × Int)} (hbase : base ≤ g) (hb : w.heap[g]? = some (.cells cur e (0, 0)))
    (h1 : ts.length ≤ cap) (h2 : cap ≤ maxLen) (h3 : cur.size = cap * 2) :
    (grow (putRow id (Go.Sort.ahead w n) g 0 (flat ts).toArray) os).ownsRow base e 2 (.slice (some ⟨g, 0, none⟩) ts.length cap) ts.length (flat ts) :=
  ⟨flat_length ts, .inr ⟨g, cap, _, rfl, hbase, heap_after _ hb, h1, h2, by simp [putCells, h3], by rw [← flat_length ts]; exact take_after cur (flat ts) (by rw [flat_length]; omega)⟩⟩

/-- slices.SortFunc of a slice of the call's own -/
theorem sort_own (base : Nat) (v : Value) (ss : List (Int × Int)) (W : World) (hb : base ≤ W.heap.size) (hown : W.ownsRow base 26 2 v ss.length (flat ss)) (hlen : ss.length ≤ 1000) :
    Calls Tryd.prog 171 #[v, .func (.func 147) #[] #[]] W fun e w' => e = .returned (.tuple #[]) ∧
      ∃ ts : List (Int × Int), ts.Perm ss ∧ ts.Pairwise (fun p q => p.1 ≤ q.1) ∧ w'.ownsRow base 26 2 v ts.length (flat ts) ∧ Below base W w' := by
  rcases hown.2 with ⟨rfl, h0⟩ | ⟨g, cap, cur, rfl, hg, hheap, hn, hcap, hsz, htake⟩
  · obtain rfl : ss = [] := List.length_eq_zero_iff.1 h0
    refine (AnyF.slices_SortFunc_none Tryd.sortR none 0 _ W).mono ?_
    rintro e w' ⟨rfl, rfl⟩
    exact ⟨rfl, [], List.Perm.refl _, List.Pairwise.nil, hown, Below.refl _ _⟩
  · have eg : ∀ args w, (callFunc 147 args).run Tryd.prog w = .ok (.enter 147 args) w := enters_of Tryd.func147 (by kernel_rfl) rfl
    have hH := holds_of (ss := ss) hheap htake
    have hcon := AnyQ.slices_SortFunc Tryd.sortR 2 Tryd.isAgg26 Tryd.sizeOf26 encR (fun _ => rfl) (fun x v hv => by simp [encR] at hv; rcases hv with rfl | rfl <;> rfl) byRows swoRows 147 #[] g 0 cap ss.toArray W eg (closure_lays g 0 _ W) hH (Array.getElem?_eq_some_iff.1 hheap).1 (by simp; omega)
    simp only [List.size_toArray] at hcon
    refine hcon.mono ?_
    rintro e w' ⟨rfl, d', n, os, ⟨hds, -, hperm⟩, hsorted, rfl⟩
    obtain ⟨ts, rfl⟩ : ∃ ts : List (Int × Int), d' = ts.toArray := ⟨d'.toList, by simp⟩
    have hlt : ts.length = ss.length := by simpa using hds
    refine ⟨rfl, ts, ?_, ?_, ?_, ?_⟩
    · have := hperm
      simp at this
      rw [← hlt, List.take_length] at this
      first | exact this | (rw [hlt, List.take_length] at this; exact this)
    · rw [List.pairwise_iff_getElem]
      intro i j hi hj hij
      have h := hsorted i j (Nat.zero_le _) hij (by omega)
      rw [ltRows] at h
      have h' := of_decide_eq_false h
      rw [getElem!_pos ts.toArray j (by simpa using hj), getElem!_pos ts.toArray i (by simpa using hi)] at h'
      simp at h'
      omega
    · rw [← hlt]
      unfold sortWorldK putRowK
      rw [flatK_eq]
      exact owns_after hg hheap (by omega) hcap hsz
    · unfold sortWorldK putRowK
      exact below_after _ hg hb

set_option maxHeartbeats 1000000 in
/-- slices.Collect of the keys -/
theorem collect (Bm b nn : Nat) (hnn : nn ≤ 1000) (D0 : DataW Unit) (L : List (Int × Int)) (hD : KeysAre D0 L) (hL : ∀ p ∈ L, WF p.1 ∧ WF p.2) (w : World) (hBm : Bm < w.heap.size)
    (hm : w.cell? ⟨Bm, 0, none⟩ = some (.map (some b))) (hown : w.ownsMap Tryd.prog 26 (plainElem (H := Unit) Tryd.prog 4) b nn D0) :
    Calls Tryd.prog 170 #[.func (.func 172) #[] #[.pointer (some ⟨Bm, 0, none⟩)]] w
      fun e W' => ∃ v ss, e = .returned v ∧ AllOf L ss ∧ W'.ownsRow w.heap.size 26 2 v ss.length (flat ss) ∧ Below w.heap.size w W' := by
  have HA := Lib.hid (callsIn_wide.1 (append_in 3 (by decide) Bm b nn hnn D0 L hD hL w hBm hm hown))
  clear hD hL hm hown hBm hnn
  go_enter Tryd.func170, Tryd.ntmps170
  go_wp2_with fail
  refine HA.out.mono ?_
  rintro e w1 ⟨v, ss, rfl, h1, h2, h3⟩
  have H := Lib.hid (And.intro h1 (And.intro h2 h3))
  clear h1 h2 h3 HA
  go_wp2_with fail
  go_ret
  exact ⟨v, ss, rfl, H.out.1, H.out.2.1, H.out.2.2⟩

set_option maxHeartbeats 1000000 in
/-- slices.SortedFunc of the keys -/
theorem sorted (Bm b nn : Nat) (hnn : nn ≤ 1000) (D0 : DataW Unit) (L : List (Int × Int)) (hD : KeysAre D0 L) (hL : ∀ p ∈ L, WF p.1 ∧ WF p.2) (hlen : ∀ ss, AllOf L ss → ss.length ≤ 1000) (w : World) (hBm : Bm < w.heap.size)
    (hm : w.cell? ⟨Bm, 0, none⟩ = some (.map (some b))) (hown : w.ownsMap Tryd.prog 26 (plainElem (H := Unit) Tryd.prog 4) b nn D0) :
    Calls Tryd.prog 145 #[.func (.func 172) #[] #[.pointer (some ⟨Bm, 0, none⟩)], .func (.func 147) #[] #[]] w
      fun e W' => ∃ v ts, e = .returned v ∧ AllOf L ts ∧ ts.Pairwise (fun p q => p.1 ≤ q.1) ∧ W'.ownsRow w.heap.size 26 2 v ts.length (flat ts) ∧ Below w.heap.size w W' := by
  have HA := Lib.hid (collect Bm b nn hnn D0 L hD hL w hBm hm hown)
  have HL := Lib.hid hlen
  clear hD hL hm hown hBm hnn hlen
  go_enter Tryd.func145, Tryd.ntmps145
  go_wp2_with fail
  refine HA.out.mono ?_
  rintro e w1 ⟨v, ss, rfl, h1, h2, h3⟩
  have HS := Lib.hid (sort_own w.heap.size v ss w1 h3.size h2 (HL.out ss h1))
  have H := Lib.hid (And.intro h1 h3)
  clear h1 h2 h3 HA HL
  go_wp2_with fail
  refine HS.out.mono ?_
  rintro e w2 ⟨rfl, ts, hp, hs, ho, hb⟩
  have HQ := Lib.hid (And.intro hp (And.intro hs (And.intro ho hb)))
  clear hp hs ho hb HS
  go_wp2_with fail
  go_ret
  refine ⟨v, ts, rfl, ⟨HQ.out.1.nodup_iff.2 H.out.1.1, fun p => HQ.out.1.mem_iff.trans (H.out.1.2 p)⟩, HQ.out.2.1, HQ.out.2.2.1, H.out.2.trans HQ.out.2.2.2⟩
end Go.Proofs.YtalechngagkklaaDoor.SortR
