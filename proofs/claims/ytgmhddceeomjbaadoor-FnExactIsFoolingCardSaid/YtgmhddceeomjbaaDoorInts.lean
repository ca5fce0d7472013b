/-
  Slices of numbers that are only read: areIndices, l1Numbers.
-/
import Derived.Test.YtgmhddceeomjbaaDoorEntry
namespace Go.Proofs.YtgmhddceeomjbaaDoor.Ints
open Go.RowKit Go.Proofs.YtgmhddceeomjbaaDoor.Plain Go.Proofs.YtgmhddceeomjbaaDoor.Base Go.Proofs.YtgmhddceeomjbaaDoor.Valid Go.Proofs.YtgmhddceeomjbaaDoor.Law Go.Proofs.YtgmhddceeomjbaaDoor.Entry
set_option linter.unusedVariables false

/-- a slice value reads as these numbers, in blocks below B -/
def IV (w : World) (B : Nat) (v : Value) (xs : List Int) : Prop :=
  xs.length ≤ 9223372036854775807 ∧ ((v = .slice none 0 0 ∧ xs = []) ∨ ∃ b off c, v = .slice (some ⟨b, off, none⟩) xs.length c ∧ b < B ∧ ∀ j (hj : j < xs.length), w.cell? ⟨b, off + j, none⟩ = some (.int .i64 xs[j]))
theorem IV.later {w w1 : World} {B : Nat} {v : Value} {xs : List Int} (h : IV w B v xs) (hB : B ≤ w.heap.size) (hb : Below w.heap.size w w1) : IV w1 B v xs := by
  refine ⟨h.1, ?_⟩
  rcases h.2 with h2 | ⟨b, off, c, rfl, hlt, hc⟩
  · exact .inl h2
  · exact .inr ⟨b, off, c, rfl, hlt, fun j hj => (hb.cell (p := ⟨b, off + j, none⟩) (by show b < _; omega)).trans (hc j hj)⟩
theorem IV.mono {w : World} {B B' : Nat} {v : Value} {xs : List Int} (h : IV w B v xs) (hB : B ≤ B') : IV w B' v xs := by
  refine ⟨h.1, ?_⟩
  rcases h.2 with h2 | ⟨b, off, c, rfl, hlt, hc⟩
  · exact .inl h2
  · exact .inr ⟨b, off, c, rfl, by omega, hc⟩

/-- all are from 0 to less than n -/
def okI (xs : List Int) (n : Int) : Bool := xs.all fun x => decide (0 ≤ x ∧ x < n)
theorem okI_true {xs : List Int} {n : Int} (h : ∀ j (hj : j < xs.length), 0 ≤ xs[j] ∧ xs[j] < n) : okI xs n = true := by
  unfold okI
  rw [List.all_eq_true]
  intro x hx
  obtain ⟨j, hj, rfl⟩ := List.getElem_of_mem hx
  exact decide_eq_true (h j hj)
theorem okI_false {xs : List Int} {n : Int} (j : Nat) (hj : j < xs.length) (h : ¬ (0 ≤ xs[j] ∧ xs[j] < n)) : okI xs n = false := by
  unfold okI
  rw [List.all_eq_false]
  exact ⟨xs[j], List.getElem_mem hj, by simpa using h⟩
theorem okI_get {xs : List Int} {n : Int} (h : okI xs n = true) (j : Nat) (hj : j < xs.length) : 0 ≤ xs[j] ∧ xs[j] < n := by
  unfold okI at h
  have := List.all_eq_true.1 h _ (List.getElem_mem hj)
  simpa using this

set_option maxHeartbeats 1000000 in
theorem are_any (xs : List Int) (v : Value) (n : Int) (w : World) (hiv : IV w w.heap.size v xs) :
    Calls Tryd.prog 60 #[v, .int .i64 n] w fun e w' => e = .returned (.bool (okI xs n)) ∧ w = w' := by
  obtain ⟨hl, ⟨rfl, rfl⟩ | ⟨b, off, c, rfl, hlt, hc⟩⟩ := hiv
  · go_enter Tryd.func60, Tryd.ntmps60
    go_wp2_with fail
    refine wp_loop_rounds 1 ?_
    rw [rounds_succ]
    go_wp2_with fail
    go_ret
    exact ⟨rfl, rfl⟩
  · have HC := Lib.hid hc
    clear hc
    go_enter Tryd.func60, Tryd.ntmps60
    go_wp2_with fail
    go_loop [9] (fun i => ∃ k : Nat, k ≤ xs.length ∧ i = .int .i64 (k : Int) ∧ Hid (∀ j (hj : j < xs.length), j < k → 0 ≤ xs[j] ∧ xs[j] < n)) (fun i => xs.length - (intOf i).toNat)
    case atStart => exact ⟨0, Nat.zero_le _, rfl, fun j _ h => absurd h (by omega)⟩
    case round =>
      obtain ⟨k, hk, rfl, hall⟩ := hrel
      by_cases hkl : k < xs.length
      · have hcell := HC.out k hkl
        have HALL : Hid (0 ≤ xs[k] ∧ xs[k] < n → ∀ j (hj : j < xs.length), j < k + 1 → 0 ≤ xs[j] ∧ xs[j] < n) := fun hx j hj hjk => by
          by_cases e : j = k
          · subst e; exact hx
          · exact hall.out j hj (by omega)
        have HNO : Hid (¬ (0 ≤ xs[k] ∧ xs[k] < n) → okI xs n = false) := fun h => okI_false k hkl h
        generalize xs[k] = x at hcell HALL HNO
        by_cases hx : 0 ≤ x ∧ x < n
        · have HX := Lib.hid hx
          clear hx
          go_wp2_with fail
          refine (index_true _ _ HX.out.1 HX.out.2 _).mono ?_
          rintro e w' ⟨rfl, rfl⟩
          go_wp2_with fail
          go_round
          case rel => exact ⟨k + 1, by omega, by go_num, HALL.out HX.out⟩
          case measure => simp [intOf]; omega
        · have HX : Hid (x < 0 ∨ n ≤ x) := by unfold Hid; omega
          have HF := Lib.hid (HNO.out hx)
          clear hx
          go_wp2_with fail
          refine (index_false _ _ HX.out _).mono ?_
          rintro e w' ⟨rfl, rfl⟩
          go_wp2_with fail
          go_ret
          exact ⟨by rw [HF.out]; rfl, rfl⟩
      · obtain rfl : k = xs.length := by omega
        have HT := Lib.hid (okI_true (n := n) fun j hj => hall.out j hj hj)
        go_wp2_with fail
        go_ret
        exact ⟨by rw [HT.out]; rfl, rfl⟩
set_option maxHeartbeats 1000000 in
theorem num_any (xs : List Int) (v : Value) (n : Int) (hn1 : 1 ≤ n) (hn8 : n ≤ 8) (w : World) (hiv : IV w w.heap.size v xs) :
    Calls Tryd.prog 99 #[v, .int .i64 n] w fun e w' => e = .returned (.bool (okI xs n && decide (1 ≤ xs.length ∧ xs.length ≤ 8))) ∧ w = w' := by
  obtain ⟨hl, ⟨rfl, rfl⟩ | ⟨b, off, c, rfl, hlt, hc⟩⟩ := hiv
  · go_enter Tryd.func99, Tryd.ntmps99
    go_wp2_with fail
    refine wp_loop_rounds 1 ?_
    rw [rounds_succ]
    go_wp2_with fail
    refine (l1In_false _ _ _ (by omega) _).mono ?_
    rintro e w' ⟨rfl, rfl⟩
    go_wp2_with fail
    go_ret
    exact ⟨rfl, rfl⟩
  · have HC := Lib.hid hc
    clear hc
    go_enter Tryd.func99, Tryd.ntmps99
    go_wp2_with fail
    go_loop [5] (fun i => ∃ k : Nat, k ≤ xs.length ∧ i = .int .i64 (k : Int) ∧ Hid (∀ j (hj : j < xs.length), j < k → 0 ≤ xs[j] ∧ xs[j] < n)) (fun i => xs.length - (intOf i).toNat)
    case atStart => exact ⟨0, Nat.zero_le _, rfl, fun j _ h => absurd h (by omega)⟩
    case round =>
      obtain ⟨k, hk, rfl, hall⟩ := hrel
      by_cases hkl : k < xs.length
      · have hcell := HC.out k hkl
        have HALL : Hid (0 ≤ xs[k] ∧ xs[k] < n → ∀ j (hj : j < xs.length), j < k + 1 → 0 ≤ xs[j] ∧ xs[j] < n) := fun hx j hj hjk => by
          by_cases e : j = k
          · subst e; exact hx
          · exact hall.out j hj (by omega)
        have HNO : Hid (¬ (0 ≤ xs[k] ∧ xs[k] < n) → okI xs n = false) := fun h => okI_false k hkl h
        generalize xs[k] = x at hcell HALL HNO
        by_cases hx : 0 ≤ x ∧ x < n
        · have HX := Lib.hid hx
          have HX2 : Hid (x ≤ n - 1) := by unfold Hid; omega
          clear hx
          go_wp2_with fail
          refine (l1In_true _ _ _ HX.out.1 HX2.out _).mono ?_
          rintro e w' ⟨rfl, rfl⟩
          go_wp2_with fail
          go_round
          case rel => exact ⟨k + 1, by omega, by go_num, HALL.out HX.out⟩
          case measure => simp [intOf]; omega
        · have HX : Hid (x < 0 ∨ n - 1 < x) := by unfold Hid; omega
          have HF := Lib.hid (HNO.out hx)
          clear hx
          go_wp2_with fail
          refine (l1In_false _ _ _ HX.out _).mono ?_
          rintro e w' ⟨rfl, rfl⟩
          go_wp2_with fail
          go_ret
          exact ⟨by rw [HF.out]; rfl, rfl⟩
      · obtain rfl : k = xs.length := by omega
        have HT := Lib.hid (okI_true (n := n) fun j hj => hall.out j hj hj)
        by_cases h18 : 1 ≤ xs.length ∧ xs.length ≤ 8
        · have HD := Lib.hid (decide_eq_true h18)
          have HI : Hid ((1 : Int) ≤ (xs.length : Int) ∧ (xs.length : Int) ≤ 8) := by unfold Hid; omega
          clear h18
          go_wp2_with fail
          refine (l1In_true _ _ _ HI.out.1 HI.out.2 _).mono ?_
          rintro e w' ⟨rfl, rfl⟩
          go_wp2_with fail
          go_ret
          exact ⟨by rw [HT.out, HD.out]; rfl, rfl⟩
        · have HD := Lib.hid (decide_eq_false h18)
          have HI : Hid ((xs.length : Int) < 1 ∨ 8 < (xs.length : Int)) := by unfold Hid; omega
          clear h18
          go_wp2_with fail
          refine (l1In_false _ _ _ HI.out _).mono ?_
          rintro e w' ⟨rfl, rfl⟩
          go_wp2_with fail
          go_ret
          exact ⟨by rw [HT.out, HD.out]; rfl, rfl⟩

theorem info3 : (Tryd.prog.info? 3).map (fun i => (i.zero, i.size, i.bytes)) = some (some (.int .i64 0), 1, 8) := by kernel_rfl
/-- the numbers as values, so many of them laid -/
def ivs (xs : List Int) (k : Nat) : List Value := (List.range xs.length).map fun j => .int .i64 (if j < k then xs.getD j 0 else 0)
theorem ivs_set (xs : List Int) (k : Nat) (hk : k < xs.length) : (ivs xs k).set k (.int .i64 xs[k]) = ivs xs (k + 1) := by
  apply List.ext_getElem?
  intro i
  rw [List.getElem?_set]
  unfold ivs
  by_cases hi : k = i
  · subst hi
    simp [hk]
  · rw [if_neg hi]
    by_cases h2 : i < xs.length
    · simp only [List.getElem?_map, List.getElem?_range h2, Option.map_some]
      by_cases h3 : i < k
      · rw [if_pos h3, if_pos (by omega)]
      · rw [if_neg h3, if_neg (by omega)]
    · rw [List.getElem?_eq_none (by simp; omega), List.getElem?_eq_none (by simp; omega)]
theorem ivs_zero (xs : List Int) : (madeCells (Value.int .i64 0).cells (xs.length * 1)).toList = ivs xs 0 := by
  unfold madeCells ivs
  simp [Value.cells]
  intro a ha
  rw [Nat.mod_one]
  rfl
theorem ivs_all (xs : List Int) (j : Nat) (hj : j < xs.length) : (ivs xs xs.length)[j]? = some (.int .i64 xs[j]) := by
  unfold ivs
  simp [hj]
theorem ivs_at (xs : List Int) (k : Nat) (hk : k < xs.length) : (ivs xs k)[k]? = some (.int .i64 0) := by
  unfold ivs
  simp [hk]

/-- a copy that reads as the same numbers -/
def Copied (w : World) (xs : List Int) (e : Ending) (w' : World) : Prop := ∃ v, e = .returned v ∧ IV w' w'.heap.size v xs ∧ Below w.heap.size w w'

set_option maxHeartbeats 1000000 in
theorem copy_any (xs : List Int) (v : Value) (hn : xs.length ≤ 1048576) (w : World) (hiv : IV w w.heap.size v xs) :
    Calls Tryd.prog 14 #[v] w (Copied w xs) := by
  obtain ⟨i0, hi, hz0, hz1, hz2⟩ := info_parts info3
  obtain ⟨hl, ⟨rfl, rfl⟩ | ⟨b, off, c, rfl, hlt, hc⟩⟩ := hiv
  · go_enter Tryd.func14, Tryd.ntmps14
    go_wp2_with (at_make; refine wpList_make_full _ rfl (.tmp 6) (.tmp 6) 24 rfl w.heap.size 3 i0 (.int .i64 0) 1 Tryd.underlying24 hi hz0 hz1 .i64 .i64 0 0 0 rfl rfl rfl rfl ?a1 ?a2 ?a3 ?a4; go_must (case a1 => omega); go_must (case a2 => (unfold maxLen; omega)); go_must (case a3 => exact Nat.le_refl _); go_must (intro w2 hown hgrow; have HO := Lib.hid hown; have HG := Lib.hid hgrow; clear hown hgrow))
    refine wp_loop_rounds 1 ?_
    rw [rounds_succ]
    go_wp2_with fail
    go_ret
    exact ⟨_, rfl, ⟨hl, .inr ⟨w.heap.size, 0, 0, rfl, (HO.out.lt _ rfl).2, fun j hj => absurd hj (by simp)⟩⟩, ⟨HG.out.os, HG.out.tape, HG.out.output, HG.out.size, fun i hi => HG.out.block i hi (by simp)⟩⟩
  · have HC := Lib.hid hc
    clear hc
    go_enter Tryd.func14, Tryd.ntmps14
    go_wp2_with (at_make; refine wpList_make_full _ rfl (.tmp 6) (.tmp 6) 24 rfl w.heap.size 3 i0 (.int .i64 0) 1 Tryd.underlying24 hi hz0 hz1 .i64 .i64 (xs.length : Int) (xs.length : Int) xs.length rfl rfl rfl rfl ?b1 ?b2 ?b3 ?b4; go_must (case b1 => (rw [hz2]; omega)); go_must (case b2 => (unfold maxLen; omega)); go_must (case b3 => exact Nat.le_refl _); go_must (intro w2 hown hgrow; rw [ivs_zero xs] at hown; have HO := Lib.hid hown; have HG := Lib.hid hgrow; clear hown hgrow))
    go_loopw [4] (fun i wr => ∃ k : Nat, k ≤ xs.length ∧ i = .int .i64 (k : Int) ∧ wr.ownsRow w.heap.size 3 1 (.slice (some ⟨w.heap.size, 0, none⟩) xs.length xs.length) xs.length (ivs xs k) ∧ Below w.heap.size w wr) (fun i _ => xs.length - (intOf i).toNat)
    case atStart => exact ⟨0, Nat.zero_le _, rfl, HO.out, ⟨HG.out.os, HG.out.tape, HG.out.output, HG.out.size, fun i hi => HG.out.block i hi (by simp)⟩⟩
    case round =>
      obtain ⟨k, hk, rfl, hown, hbel⟩ := hrel
      clear HO HG
      have HO := Lib.hid hown
      have HL := Lib.hid hbel
      by_cases hkl : k < xs.length
      · have hcell : wr.cell? ⟨b, off + k, none⟩ = some (.int .i64 xs[k]) := (hbel.cell (p := ⟨b, off + k, none⟩) hlt).trans (HC.out k hkl)
        have hcell2 : wr.cell? ⟨w.heap.size, k, none⟩ = some (.int .i64 0) := (hown.cellAt k (by omega)).trans (ivs_at xs k hkl)
        have hfr : wr.frozen? ⟨w.heap.size, k, none⟩ = false := hown.frozenAt k
        have HS := Lib.hid (ivs_set xs k hkl)
        generalize xs[k] = x at hcell HS
        clear hown hbel
        go_wp2_with fail
        go_roundw
        case rel => exact ⟨k + 1, by omega, by go_num, by have h := (HO.out.stored k (.int .i64 x)).1; rw [HS.out] at h; exact h, HL.out.setCell (Nat.le_refl _) _⟩
        case measure => simp [intOf]; omega
      · obtain rfl : k = xs.length := by omega
        have HIV : Hid (IV wr wr.heap.size (.slice (some ⟨w.heap.size, 0, none⟩) xs.length xs.length) xs) := ⟨hl, .inr ⟨w.heap.size, 0, xs.length, rfl, (hown.lt _ rfl).2, fun j hj => by
          rw [Nat.zero_add]
          exact (hown.cellAt j (by omega)).trans (ivs_all xs j hj)⟩⟩
        clear hown hbel
        go_wp2_with fail
        go_ret
        exact ⟨_, rfl, HIV.out, HL.out⟩

set_option maxHeartbeats 1000000 in
theorem same_any (xs : List Int) (v u : Value) (w : World) (hv : IV w w.heap.size v xs) (hu : IV w w.heap.size u xs) :
    Calls Tryd.prog 16 #[v, u] w fun e w' => e = .returned (.bool true) ∧ Below w.heap.size w w' := by
  obtain ⟨hl, hv⟩ := hv
  by_cases h0 : xs = []
  · subst h0
    obtain ⟨A, c, rfl⟩ : ∃ A c, v = .slice A 0 c := by rcases hv with ⟨rfl, _⟩ | ⟨b, off, c, rfl, _⟩; exact ⟨_, _, rfl⟩; exact ⟨_, _, rfl⟩
    obtain ⟨A2, c2, rfl⟩ : ∃ A c, u = .slice A 0 c := by rcases hu.2 with ⟨rfl, _⟩ | ⟨b, off, c, rfl, _⟩; exact ⟨_, _, rfl⟩; exact ⟨_, _, rfl⟩
    clear hv hu
    go_enter Tryd.func16, Tryd.ntmps16
    go_wp2_with fail
    refine wp_loop_rounds 1 ?_
    rw [rounds_succ]
    go_wp2_with fail
    go_ret
    exact ⟨rfl, Below.refl _ _⟩
  · obtain ⟨b, off, c, rfl, hlt, hc⟩ := hv.resolve_left fun h => h0 h.2
    obtain ⟨b2, off2, c2, rfl, hlt2, hc2⟩ := hu.2.resolve_left fun h => h0 h.2
    have HC := Lib.hid hc
    have HC2 := Lib.hid hc2
    clear hc hc2 hv hu h0
    go_enter Tryd.func16, Tryd.ntmps16
    go_wp2_with fail
    go_loopw [5] (fun i wr => ∃ k q : Nat, k ≤ xs.length ∧ i = .int .i64 (k : Int) ∧ wr = w.drewN q) (fun i _ => xs.length - (intOf i).toNat)
    case atStart => exact ⟨0, 0, Nat.zero_le _, rfl, rfl⟩
    case round =>
      obtain ⟨k, q, hk, rfl, rfl⟩ := hrel
      by_cases hkl : k < xs.length
      · have hcell := HC.out k hkl
        have hcell2 := HC2.out k hkl
        generalize xs[k] = x at hcell hcell2
        go_wp2_with fail
        go_quiet (fail)
        go_wp2_with fail
        go_roundw
        case rel => exact ⟨k + 1, _, by omega, by go_num, rfl⟩
        case measure => simp [intOf]; omega
      · obtain rfl : k = xs.length := by omega
        go_wp2_with fail
        go_ret
        exact ⟨rfl, ⟨rfl, rfl, rfl, Nat.le_refl _, fun _ _ => rfl⟩⟩

end Go.Proofs.YtgmhddceeomjbaaDoor.Ints
