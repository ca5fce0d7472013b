/-
  Texts of one seat, joined: SortR, Range.
-/
import Derived.Test.YtgmhddceeomjbaaGreatDoorJ23
import Derived.Shelf.SlSortCmp.WholeK
import Derived.Shelf.SlSortCmp.NoneTotal
import Derived.RangeFuncNested
import Derived.RangeFuncBound
import Derived.RangeFuncCalls
import Derived.RangeFuncLeaves
import Derived.Test.YtgmhddceeomjbaaGreatDoorJ1
/-
  slices.SortFunc over rectangles by their rows; slices.Collect and slices.SortedFunc of a map's keys.
-/
namespace Go.Proofs.YtgmhddceeomjbaaGreatDoor.SortR
open Go.RowKit Go.Lib Go.Shelf Go.Maps Go.Proofs Go.Proofs.YtgmhddceeomjbaaGreatDoor.Plain Go.Proofs.YtgmhddceeomjbaaGreatDoor.Rect Go.Proofs.YtgmhddceeomjbaaGreatDoor.KeysR Go.Proofs.YtgmhddceeomjbaaGreatDoor.KeysI
open Go.Sort (flatK HoldsK Holds putRowK putRow putCells SWO PermIn SortedIn grow mapBlock get_flatK size_flatK ext_get! alloc_eq_grow grow_grow)
set_option linter.unusedVariables false

/-- a rectangle's two cells -/
abbrev encR (p : Int × Int) : List Value := [.int .i64 p.1, .int .i64 p.2]
/-- by their rows -/
abbrev byRows (x y : Int × Int) : Int := Lib.compareInt x.1 y.1
theorem ltRows (x y : Int × Int) : ltOf byRows x y = decide (x.1 < y.1) := by
  unfold ltOf byRows Lib.compareInt
  by_cases h1 : x.1 < y.1
  · simp [h1]
  · by_cases h2 : y.1 < x.1 <;> simp [h1, h2]
theorem swoRows : SWO (ltOf byRows) where
  irrefl x := by rw [ltRows]; simp
  trans x y z h1 h2 := by rw [ltRows] at *; simp at *; omega
  ntrans x y z h1 h2 := by rw [ltRows] at *; simp at *; omega

set_option maxHeartbeats 1000000 in
theorem cmp_int (x y : Int) (w : World) : Calls Tryz.prog 41 #[.int .i64 x, .int .i64 y] w fun e w' => e = .returned (.int .i64 (Lib.compareInt x y)) ∧ w' = w := by
  have hnan : ∀ (z : Int) (W : World), Calls Tryz.prog 82 #[.int .i64 z] W fun e w' => e = .returned (.bool false) ∧ w' = W := by
    intro z W
    go_enter Tryz.func82, Tryz.ntmps82
    go_wp2
    go_ret
    exact ⟨rfl, rfl⟩
  have HN := Lib.hid hnan
  clear hnan
  unfold Lib.compareInt
  by_cases h1 : x < y
  · rw [if_pos h1]
    go_enter Tryz.func41, Tryz.ntmps41
    go_wp2_with (go_at_call 82; refine (HN.out _ _).mono ?_; rintro e w' ⟨rfl, rfl⟩)
    go_ret
    exact ⟨rfl, rfl⟩
  · rw [if_neg h1]
    by_cases h2 : y < x
    · rw [if_pos h2]
      go_enter Tryz.func41, Tryz.ntmps41
      go_wp2_with (go_at_call 82; refine (HN.out _ _).mono ?_; rintro e w' ⟨rfl, rfl⟩)
      go_ret
      exact ⟨rfl, rfl⟩
    · rw [if_neg h2]
      go_enter Tryz.func41, Tryz.ntmps41
      go_wp2_with (go_at_call 82; refine (HN.out _ _).mono ?_; rintro e w' ⟨rfl, rfl⟩)
      go_ret
      exact ⟨rfl, rfl⟩

set_option maxHeartbeats 1000000 in
theorem closure (x y : Int × Int) (W : World) : Calls Tryz.prog 59 #[.agg #[.int .i64 x.1, .int .i64 x.2], .agg #[.int .i64 y.1, .int .i64 y.2]] W fun e w' => e = .returned (.int .i64 (byRows x y)) ∧ ∃ q os', w' = grow (W.drewN q) os' := by
  have hcon := fun W' => cmp_int x.1 y.1 W'
  unfold byRows
  generalize Lib.compareInt x.1 y.1 = r at hcon ⊢
  have HC := Lib.hid hcon
  clear hcon
  go_enter Tryz.func59, Tryz.ntmps59
  go_wp2_with (go_at_call 41; refine (HC.out _).mono ?_; rintro e w' ⟨rfl, rfl⟩)
  go_ret
  exact ⟨rfl, 0, _, by rw [alloc_eq_grow, alloc_eq_grow, grow_grow]; rfl⟩
theorem closure_lays (blk off size : Nat) (w : World) : CmpLays Tryz.prog 59 #[] encR 2 byRows blk off size w :=
  fun _ _ _ _ x y => closure x y _

theorem flat_get : ∀ (ss : List (Int × Int)) (t : Nat), t < ss.length * 2 → (flat ss)[t]? = some ((encR ss[t / 2]!)[t % 2]!)
  | [], t, h => by simp at h
  | p :: r, 0, h => by simp [flat]
  | p :: r, 1, h => by simp [flat]
  | p :: r, t + 2, h => by
    have ih := flat_get r t (by simp at h; omega)
    have e1 : (t + 2) / 2 = t / 2 + 1 := by omega
    have e2 : (t + 2) % 2 = t % 2 := by omega
    have e3 : flat (p :: r) = Value.int .i64 p.1 :: Value.int .i64 p.2 :: flat r := by simp [flat]
    rw [e3, e1, e2, List.getElem?_cons_succ, List.getElem?_cons_succ, ih]
    simp
theorem flat_length (ss : List (Int × Int)) : (flat ss).length = ss.length * 2 := by
  induction ss with
  | nil => rfl
  | cons p r ih =>
    have e3 : flat (p :: r) = Value.int .i64 p.1 :: Value.int .i64 p.2 :: flat r := by simp [flat]
    rw [e3]; simp [ih]; omega
theorem flatK_eq (ss : List (Int × Int)) : flatK encR 2 ss.toArray = (flat ss).toArray := by
  refine ext_get! (by simp [flat_length]) fun t ht => ?_
  have ht' : t < ss.length * 2 := by simpa using ht
  rw [get_flatK _ _ _ t (by simpa using ht')]
  have h := flat_get ss t ht'
  have hl : t < (flat ss).length := by rw [flat_length]; exact ht'
  rw [getElem!_pos _ t (by simpa using hl)]
  rw [List.getElem?_eq_getElem hl] at h
  have h2 := Option.some.inj h
  simpa using h2.symm

theorem holds_of {w : World} {g : Nat} {cur : Array Value} {e : TypeId} {ss : List (Int × Int)} (hb : w.heap[g]? = some (.cells cur e (0, 0))) (ht : cur.toList.take (ss.length * 2) = flat ss) : HoldsK encR 2 w g 0 ss.toArray := by
  unfold HoldsK
  rw [flatK_eq]
  intro j hj
  have hj1 : j < (flat ss).length := by simpa using hj
  have hj' : j < ss.length * 2 := by rw [flat_length] at hj1; exact hj1
  refine ⟨?_, by simp [World.frozen?, hb]⟩
  have h1 : (cur.toList.take (ss.length * 2))[j]? = (flat ss)[j]? := by rw [ht]
  rw [List.getElem?_take_of_lt hj'] at h1
  simp only [World.cell?, hb, Nat.zero_add]
  simp only [Option.isSome_none, Bool.false_eq_true, if_false]
  rw [← Array.getElem?_toList, h1]
  rw [getElem!_pos _ j hj, List.getElem?_eq_getElem hj1]
  simp
theorem heap_after {w : World} {g n : Nat} {os : Array Obj} {cur : Array Value} {e : TypeId} (F : Array Value) (hb : w.heap[g]? = some (.cells cur e (0, 0))) :
    (grow (putRow id (Go.Sort.ahead w n) g 0 F) os).heap[g]? = some (.cells (putCells id 0 F cur) e (0, 0)) := by
  have hg : g < w.heap.size := (Array.getElem?_eq_some_iff.1 hb).1
  rw [Go.Sort.heap_grow_old _ _ (by simpa using hg)]
  simp [putRow, mapBlock, Go.Sort.ahead, Array.getElem?_modify, hb, Go.Sort.onCells]
theorem below_after {B : Nat} {w : World} {g n : Nat} {os : Array Obj} (F : Array Value) (hB : B ≤ g) (hw : B ≤ w.heap.size) : Below B w (grow (putRow id (Go.Sort.ahead w n) g 0 F) os) := by
  refine ⟨rfl, rfl, rfl, by simp, fun k hk => ?_⟩
  rw [Go.Sort.heap_grow_old _ _ (by simp; omega)]
  have : g ≠ k := by omega
  simp [putRow, mapBlock, Go.Sort.ahead, Array.getElem?_modify, this]
theorem take_after (cur : Array Value) (ts : List Value) (h : ts.length ≤ cur.size) : (putCells id 0 ts.toArray cur).toList.take ts.length = ts := by
  apply List.ext_getElem?
  intro j
  by_cases hj : j < ts.length
  · rw [List.getElem?_take_of_lt hj, Array.getElem?_toList]
    simp [putCells, hj, show j < cur.size by omega]
  · rw [List.getElem?_take_eq_none (by omega), List.getElem?_eq_none (by omega)]
theorem owns_after {w : World} {base g cap n : Nat} {e : TypeId} {os : Array Obj} {cur : Array Value} {ts : List (Int × Int)} (hbase : base ≤ g) (hb : w.heap[g]? = some (.cells cur e (0, 0)))
    (h1 : ts.length ≤ cap) (h2 : cap ≤ maxLen) (h3 : cur.size = cap * 2) :
    (grow (putRow id (Go.Sort.ahead w n) g 0 (flat ts).toArray) os).ownsRow base e 2 (.slice (some ⟨g, 0, none⟩) ts.length cap) ts.length (flat ts) :=
  ⟨flat_length ts, .inr ⟨g, cap, _, rfl, hbase, heap_after _ hb, h1, h2, by simp [putCells, h3], by rw [← flat_length ts]; exact take_after cur (flat ts) (by rw [flat_length]; omega)⟩⟩

/-- slices.SortFunc of a slice of the call's own -/
theorem sort_own (base : Nat) (v : Value) (ss : List (Int × Int)) (W : World) (hb : base ≤ W.heap.size) (hown : W.ownsRow base 34 2 v ss.length (flat ss)) (hlen : ss.length ≤ 1000) :
    Calls Tryz.prog 96 #[v, .func (.func 59) #[] #[]] W fun e w' => e = .returned (.tuple #[]) ∧
      ∃ ts : List (Int × Int), ts.Perm ss ∧ ts.Pairwise (fun p q => p.1 ≤ q.1) ∧ w'.ownsRow base 34 2 v ts.length (flat ts) ∧ Below base W w' := by
  rcases hown.2 with ⟨rfl, h0⟩ | ⟨g, cap, cur, rfl, hg, hheap, hn, hcap, hsz, htake⟩
  · obtain rfl : ss = [] := List.length_eq_zero_iff.1 h0
    refine (AnyF.slices_SortFunc_none Tryz.sortR none 0 _ W).mono ?_
    rintro e w' ⟨rfl, rfl⟩
    exact ⟨rfl, [], List.Perm.refl _, List.Pairwise.nil, hown, Below.refl _ _⟩
  · have eg : ∀ args w, (callFunc 59 args).run Tryz.prog w = .ok (.enter 59 args) w := enters_of Tryz.func59 (by kernel_rfl) rfl
    have hH := holds_of (ss := ss) hheap htake
    have hcon := AnyQ.slices_SortFunc Tryz.sortR 2 Tryz.isAgg34 Tryz.sizeOf34 encR (fun _ => rfl) (fun x v hv => by simp [encR] at hv; rcases hv with rfl | rfl <;> rfl) byRows swoRows 59 #[] g 0 cap ss.toArray W eg (closure_lays g 0 _ W) hH (Array.getElem?_eq_some_iff.1 hheap).1 (by simp; omega)
    simp only [List.size_toArray] at hcon
    refine hcon.mono ?_
    rintro e w' ⟨rfl, d', n, os, ⟨hds, -, hperm⟩, hsorted, rfl⟩
    obtain ⟨ts, rfl⟩ : ∃ ts : List (Int × Int), d' = ts.toArray := ⟨d'.toList, by simp⟩
    have hlt : ts.length = ss.length := by simpa using hds
    refine ⟨rfl, ts, ?_, ?_, ?_, ?_⟩
    · have := hperm
      simp at this
      rw [← hlt, List.take_length] at this
      first | exact this | (rw [hlt, List.take_length] at this; exact this)
    · rw [List.pairwise_iff_getElem]
      intro i j hi hj hij
      have h := hsorted i j (Nat.zero_le _) hij (by omega)
      rw [ltRows] at h
      have h' := of_decide_eq_false h
      rw [getElem!_pos ts.toArray j (by simpa using hj), getElem!_pos ts.toArray i (by simpa using hi)] at h'
      simp at h'
      omega
    · rw [← hlt]
      unfold sortWorldK putRowK
      rw [flatK_eq]
      exact owns_after hg hheap (by omega) hcap hsz
    · unfold sortWorldK putRowK
      exact below_after _ hg hb

set_option maxHeartbeats 1000000 in
/-- slices.Collect of the keys -/
theorem collect (Bm b nn : Nat) (hnn : nn ≤ 1000) (D0 : DataW Unit) (L : List (Int × Int)) (hD : KeysAre D0 L) (hL : ∀ p ∈ L, WF p.1 ∧ WF p.2) (w : World) (hBm : Bm < w.heap.size)
    (hm : w.cell? ⟨Bm, 0, none⟩ = some (.map (some b))) (hown : w.ownsMap Tryz.prog 34 (plainElem (H := Unit) Tryz.prog 4) b nn D0) :
    Calls Tryz.prog 95 #[.func (.func 97) #[] #[.pointer (some ⟨Bm, 0, none⟩)]] w
      fun e W' => ∃ v ss, e = .returned v ∧ AllOf L ss ∧ W'.ownsRow w.heap.size 34 2 v ss.length (flat ss) ∧ Below w.heap.size w W' := by
  have HA := Lib.hid (callsIn_wide.1 (append_in 3 (by decide) Bm b nn hnn D0 L hD hL w hBm hm hown))
  clear hD hL hm hown hBm hnn
  go_enter Tryz.func95, Tryz.ntmps95
  go_wp2_with fail
  refine HA.out.mono ?_
  rintro e w1 ⟨v, ss, rfl, h1, h2, h3⟩
  have H := Lib.hid (And.intro h1 (And.intro h2 h3))
  clear h1 h2 h3 HA
  go_wp2_with fail
  go_ret
  exact ⟨v, ss, rfl, H.out.1, H.out.2.1, H.out.2.2⟩

set_option maxHeartbeats 1000000 in
/-- slices.SortedFunc of the keys -/
theorem sorted (Bm b nn : Nat) (hnn : nn ≤ 1000) (D0 : DataW Unit) (L : List (Int × Int)) (hD : KeysAre D0 L) (hL : ∀ p ∈ L, WF p.1 ∧ WF p.2) (hlen : ∀ ss, AllOf L ss → ss.length ≤ 1000) (w : World) (hBm : Bm < w.heap.size)
    (hm : w.cell? ⟨Bm, 0, none⟩ = some (.map (some b))) (hown : w.ownsMap Tryz.prog 34 (plainElem (H := Unit) Tryz.prog 4) b nn D0) :
    Calls Tryz.prog 57 #[.func (.func 97) #[] #[.pointer (some ⟨Bm, 0, none⟩)], .func (.func 59) #[] #[]] w
      fun e W' => ∃ v ts, e = .returned v ∧ AllOf L ts ∧ ts.Pairwise (fun p q => p.1 ≤ q.1) ∧ W'.ownsRow w.heap.size 34 2 v ts.length (flat ts) ∧ Below w.heap.size w W' := by
  have HA := Lib.hid (collect Bm b nn hnn D0 L hD hL w hBm hm hown)
  have HL := Lib.hid hlen
  clear hD hL hm hown hBm hnn hlen
  go_enter Tryz.func57, Tryz.ntmps57
  go_wp2_with fail
  refine HA.out.mono ?_
  rintro e w1 ⟨v, ss, rfl, h1, h2, h3⟩
  have HS := Lib.hid (sort_own w.heap.size v ss w1 h3.size h2 (HL.out ss h1))
  have H := Lib.hid (And.intro h1 h3)
  clear h1 h2 h3 HA HL
  go_wp2_with fail
  refine HS.out.mono ?_
  rintro e w2 ⟨rfl, ts, hp, hs, ho, hb⟩
  have HQ := Lib.hid (And.intro hp (And.intro hs (And.intro ho hb)))
  clear hp hs ho hb HS
  go_wp2_with fail
  go_ret
  refine ⟨v, ts, rfl, ⟨HQ.out.1.nodup_iff.2 H.out.1.1, fun p => HQ.out.1.mem_iff.trans (H.out.1.2 p)⟩, HQ.out.2.1, HQ.out.2.2.1, H.out.2.trans HQ.out.2.2.2⟩
end Go.Proofs.YtgmhddceeomjbaaGreatDoor.SortR

/-
  A range over a function whose iterator ranges over another one: the contract 'SeqAll' of such an iterator (no round leaves early; all but the
  loop's own record and one named block lies as it lay across a round), and the law for the loop over it.
-/
namespace Go.Proofs.YtgmhddceeomjbaaGreatDoor.Range
open Go Go.RowKit
set_option linter.unusedVariables false

/-- all blocks but l and b lie as they lay -/
structure KeepBut (b l : Nat) (A B : World) : Prop where
  size : A.heap.size ≤ B.heap.size
  same : ∀ k, k < A.heap.size → k ≠ l → k ≠ b → B.heap[k]? = A.heap[k]?
theorem KeepBut.refl (b l : Nat) (A : World) : KeepBut b l A A := ⟨Nat.le_refl _, fun _ _ _ _ => rfl⟩
theorem KeepBut.trans {b l : Nat} {A B C : World} (h : KeepBut b l A B) (k : KeepBut b l B C) : KeepBut b l A C :=
  ⟨Nat.le_trans h.size k.size, fun i hi h1 h2 => (k.same i (Nat.lt_of_lt_of_le hi h.size) h1 h2).trans (h.same i hi h1 h2)⟩
theorem KeepBut.put (b l : Nat) (W : World) (o : Obj) : KeepBut b l W (W.putObj l o) := ⟨by simp, fun k _ hk _ => World.putObj_heap_other hk⟩
theorem KeepBut.of_below {b l : Nat} {A B : World} (h : Below A.heap.size A B) : KeepBut b l A B := ⟨h.size, fun k hk _ _ => h.block k hk⟩
theorem KeepBut.of_grown {b l : Nat} {A B : World} (h : A.grownBy B (some b)) : KeepBut b l A B := ⟨h.size, fun k hk _ hb => h.block k hk (fun e => hb (Option.some.inj e))⟩
theorem KeepBut.cell {b l : Nat} {A B : World} (h : KeepBut b l A B) {p : Addr} {v : Value} (hc : A.cell? p = some v) (h1 : p.block ≠ l) (h2 : p.block ≠ b) : B.cell? p = some v := by
  have hlt : p.block < A.heap.size := World.block_lt_of_cell? A p hc
  exact (World.cell?_of_block (h.same _ hlt h1 h2)).trans hc
theorem KeepBut.obj {b l : Nat} {A B : World} (h : KeepBut b l A B) {k : Nat} {o : Obj} (hk : A.heap[k]? = some o) (h1 : k ≠ l) (h2 : k ≠ b) : B.heap[k]? = some o :=
  (h.same k (Array.getElem?_eq_some_iff.1 hk).1 h1 h2).trans hk
theorem KeepBut.from_ {b l : Nat} {A B : World} (h : KeepBut b l A B) {n : Nat} (h1 : l < n) (h2 : b < n) : KeepsFrom n A B := ⟨h.size, fun k o hk ho _ => h.obj ho (by omega) (by omega)⟩

/-- an iterator whose rounds all go on -/
def SeqAll {α : Type} (F : Fence) (n : Nat) (P : Program) (g : Nat) (lb : Array Value) (encs : α → Array Value) (b : Nat) (S : List α → Prop) (N : Nat) (w : World) : Prop :=
  ∀ (l : Nat) (J : List α → World → Prop) (W : World), Below w.heap.size w W → w.heap.size ≤ l → l < W.heap.size → OwnFrom W.heap.size J →
    (∀ pre x W1, J pre W1 → pre.length < N → YieldAt F (n - 1) P l (encs x) W1 fun e W' => e = .returned (.bool true) ∧ J (pre ++ [x]) W' ∧ KeepBut b l W1 W') →
    J [] W →
    CallsIn F n P g (#[.func (.yield l) #[] #[]] ++ lb) W fun e W' => (∃ v, e = .returned v) ∧ ∃ xs, S xs ∧ J xs W'

/-- how a round's body is left: it goes on -/
def goesOn (B b l : Nat) {α : Type} (I : List α → World → Prop) (xs : List α) (W : World) : Exit → Act → World → Prop
  | .normal, _, W' => KeepsFrom B W W' ∧ KeepBut b l W W' ∧ I xs W'
  | _, _, _ => False

theorem wp_range_all {F : Fence} {n : Nat} {P : Program} {α : Type} {g : Operand} {ps : Array Tmp} {assign body : Code} {Q : Exit → Act → World → Prop} {a : Act} {w : World}
    (hro : F.round = none) (h1 : 1 ≤ n) {gf : Nat} {lb : Array Value} (hg : a.eval g = .func (.func gf) #[] lb) (hFg : F.fn gf) (eg : ∀ args w, (callFunc gf args).run P w = .ok (.enter gf args) w)
    {encs : α → Array Value} {b : Nat} {S : List α → Prop} {N : Nat} {w0 : World} (hseq : SeqAll F (n - 1) P gf lb encs b S N w0)
    (hb0 : Below w0.heap.size w0 w) (hps : ∀ x, (encs x).size = ps.size)
    (I : List α → World → Prop) (hI : OwnFrom w.heap.size I) (h0 : I [] w) (Ax : α → Act → World → Prop) (hAx : ∀ x a', OwnFrom w.heap.size (fun (_ : Unit) W => Ax x a' W))
    (hassign : ∀ (l : Nat) (pre : List α) (x : α) (W : World) (K : Act → World → Prop), w.heap.size < l → I pre W → (∀ a' W', KeepsFrom w.heap.size W W' → KeepBut b l W W' → I pre W' → Ax x a' W' → K a' W') →
      assign.wpIn (F.inRound l) (n - 1 - 1) P (Exit.then K (fun _ _ _ => False)) { tmps := (ps.zip (encs x)).foldl (fun t (p, v) => t.setIfInBounds p v) a.tmps, defers := [] } W)
    (hbody : ∀ (l : Nat) (pre : List α) (x : α) (a' : Act) (W : World), w.heap.size < l → l < W.heap.size → I pre W → Ax x a' W → pre.length < N → body.wpIn (F.inRound l) (n - 1 - 1) P (goesOn w.heap.size b l I (pre ++ [x]) W) a' W)
    (hdone : ∀ (D : Nat) (xs : List α) (W : World), w.heap.size ≤ D → S xs → I xs W → W.heap[D]? = some (.deferred (some [])) → Q .normal { a with defers := { target := .collected D, args := #[] } :: a.defers } W) :
    (Code.rangeFunc g ps assign body).wpIn F n P Q a w := by
  refine wpIn_rangeFunc ?_
  intro fn hfn
  rw [hro]
  obtain ⟨rec, hrec⟩ : ∃ rec : LoopState → Option Code → Loop, rec = fun st pe => { state := st, pending := pe, fn, tmps := a.tmps, params := ps, assign, body, defers := w.heap.size } := ⟨_, rfl⟩
  obtain ⟨W1, hW1⟩ : ∃ W1, (w.alloc (.deferred (some []))).alloc (.loop (rec .ready none)) = W1 := ⟨_, rfl⟩
  have hsz : W1.heap.size = w.heap.size + 2 := by rw [← hW1]; simp
  have hL1 : W1.heap[w.heap.size + 1]? = some (.loop (rec .ready none)) := by
    rw [← hW1]
    have := World.alloc_heap_new (w.alloc (.deferred (some []))) (.loop (rec .ready none))
    rwa [World.size_alloc] at this
  have hK1 : W1.heap[w.heap.size]? = some (.deferred (some [])) := by
    rw [← hW1]
    exact (Below.heap_alloc _ _ _ (by simp)).trans (World.alloc_heap_new w _)
  have hI1 : I [] W1 := by rw [← hW1]; exact hI.alloc _ (hI.alloc _ h0)
  have hb1 : Below w0.heap.size w0 W1 := by
    rw [← hW1]
    exact hb0.trans ((((Below.refl _ w).alloc (Nat.le_refl _) _).alloc (by simp) _).mono hb0.size)
  refine ⟨w.heap.size + 1, [{ target := .collected w.heap.size, args := #[] }], W1, { target := .fn (.func gf) lb, args := #[.func (.yield (w.heap.size + 1)) #[] #[]] }, W1, gf,
    #[.func (.yield (w.heap.size + 1)) #[] #[]] ++ lb, W1, ?_, ?_, ?_, ?_, fun _ => h1, ?_⟩
  · rw [← hW1, hrec]
    exact run_enterLoop_outer _ _ _ _ _
  · simp only [resolve, hg]
    simp [go_sem]
  · intro f' hf'
    simp [Target.leads] at hf'
    subst hf'
    exact hFg
  · simp [invoke, go_sem, eg]
  · have keepB : ∀ {A B : World} {row : Option Nat} {k : Nat} {o : Obj}, A.grownBy B row → (∀ r, row = some r → W1.heap.size ≤ r ∧ ∃ o : Obj, A.heap[r]? = some o ∧ o.isCells = false) → A.heap[k]? = some o → k < W1.heap.size → B.heap[k]? = some o := by
      intro A B row k o hg' hr hk hlt
      refine (hg'.block k (Array.getElem?_eq_some_iff.1 hk).1 (fun e => ?_)).trans hk
      have := (hr k e.symm).1
      omega
    refine (hseq (w.heap.size + 1)
      (fun pre W => I pre W ∧ W.heap[w.heap.size + 1]? = some (.loop (rec .ready none)) ∧ W.heap[w.heap.size]? = some (.deferred (some [])))
      W1 hb1 (by have := hb0.size; omega) (by omega)
      (fun s A B row hs hg' hr => ⟨hI s A B row hs.1 hg' (fun r e => ⟨by have := (hr r e).1; omega, (hr r e).2⟩), keepB hg' hr hs.2.1 (by omega), keepB hg' hr hs.2.2 (by omega)⟩)
      ?_ ⟨hI1, hL1, hK1⟩).mono ?_
    · rintro pre x W ⟨hi, hl, hk⟩ hlen
      have hlt : w.heap.size + 1 < W.heap.size := (Array.getElem?_eq_some_iff.1 hl).1
      have hy := run_yield (P := P) (args := encs x) hl (by rw [hrec]; exact hps x)
      rw [hrec] at hy
      refine ⟨fn, _, assign, body, hy, roundIn_of_wpIn hfn (hassign _ pre x W _ (by omega) hi ?_)⟩
      clear hy
      intro a' Wa hkfa hkpa hia hax
      have hla := hkfa.same _ _ (by omega) hl rfl
      have hka := hkfa.same _ _ (Nat.le_refl _) hk rfl
      have hlta : w.heap.size + 1 < Wa.heap.size := (Array.getElem?_eq_some_iff.1 hla).1
      refine ⟨_, run_beginRound hla (by rw [hrec]), ?_⟩
      have hl2 : (Wa.putObj (w.heap.size + 1) (.loop { rec .ready none with state := .busy })).heap[w.heap.size + 1]? = some (.loop { rec .ready none with state := .busy }) := World.putObj_heap_same hlta
      have hk2 : (Wa.putObj (w.heap.size + 1) (.loop { rec .ready none with state := .busy })).heap[w.heap.size]? = some (.deferred (some [])) := (World.putObj_heap_other (by omega)).trans hka
      refine wpIn_mono (hbody _ pre x a' _ (by omega) (Array.getElem?_eq_some_iff.1 hl2).1 (hI.putObj _ hia (by omega) hla rfl) ((hAx x a').putObj (s := ()) _ hax (by omega) hla rfl) hlen) ?_
      rintro e a3 W3 hp
      cases e with
      | normal =>
        obtain ⟨hk3, hkp3, hi3⟩ := hp
        have hl3 := hk3.same _ _ (by omega) hl2 rfl
        have hr := run_endRound (P := P) none hl3
        rw [hrec] at hr
        rw [hrec] at hl3
        refine ⟨_, _, hr, rfl, ⟨hI.putObj _ hi3 (by omega) hl3 rfl, ?_, (World.putObj_heap_other (by omega)).trans (hk3.same _ _ (Nat.le_refl _) hk2 rfl)⟩, ?_⟩
        · rw [hrec]
          exact World.putObj_heap_same (Array.getElem?_eq_some_iff.1 hl3).1
        · exact (hkpa.trans ((KeepBut.put _ _ _ _).trans hkp3)).trans (KeepBut.put _ _ _ _)
      | ret => exact hp.elim
      | exit id => exact hp.elim
      | goto t => exact hp.elim
      | panic ch => exact hp.elim
      | outgrown => exact hp.elim
    · rintro e W2 ⟨⟨v, rfl⟩, xs, hS, hi, hl, hk⟩
      exact ⟨none, _, by have := run_endLoop (P := P) hl (by rw [hrec]; simp); rw [hrec] at this; exact this, hdone _ xs _ (Nat.le_refl _) hS (hI.putObj _ hi (by omega) hl rfl) ((World.putObj_heap_other (by omega)).trans hk)⟩
end Go.Proofs.YtgmhddceeomjbaaGreatDoor.Range

