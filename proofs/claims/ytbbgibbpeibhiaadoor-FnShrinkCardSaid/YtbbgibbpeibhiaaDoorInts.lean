/-
  Slices of numbers that are only read: areIndices, l1Numbers.
-/
import Derived.Test.YtbbgibbpeibhiaaDoorEntry
namespace Go.Proofs.YtbbgibbpeibhiaaDoor.Ints
open Go.RowKit Go.Proofs.YtbbgibbpeibhiaaDoor.Plain Go.Proofs.YtbbgibbpeibhiaaDoor.Base Go.Proofs.YtbbgibbpeibhiaaDoor.Valid Go.Proofs.YtbbgibbpeibhiaaDoor.Law Go.Proofs.YtbbgibbpeibhiaaDoor.Entry
set_option linter.unusedVariables false

/-- a slice value reads as these numbers, in blocks below B -/
def IV (w : World) (B : Nat) (v : Value) (xs : List Int) : Prop :=
  xs.length ≤ 9223372036854775807 ∧ ((v = .slice none 0 0 ∧ xs = []) ∨ ∃ b off c, v = .slice (some ⟨b, off, none⟩) xs.length c ∧ b < B ∧ ∀ j (hj : j < xs.length), w.cell? ⟨b, off + j, none⟩ = some (.int .i64 xs[j]))
theorem IV.later {w w1 : World} {B : Nat} {v : Value} {xs : List Int} (h : IV w B v xs) (hB : B ≤ w.heap.size) (hb : Below w.heap.size w w1) : IV w1 B v xs := by
  refine ⟨h.1, ?_⟩
  rcases h.2 with h2 | ⟨b, off, c, rfl, hlt, hc⟩
  · exact .inl h2
  · exact .inr ⟨b, off, c, rfl, hlt, fun j hj => (hb.cell (p := ⟨b, off + j, none⟩) (by show b < _; omega)).trans (hc j hj)⟩
theorem IV.mono {w : World} {B B' : Nat} {v : Value} {xs : List Int} (h : IV w B v xs) (hB : B ≤ B') : IV w B' v xs := by
  refine ⟨h.1, ?_⟩
  rcases h.2 with h2 | ⟨b, off, c, rfl, hlt, hc⟩
  · exact .inl h2
  · exact .inr ⟨b, off, c, rfl, by omega, hc⟩

/-- all are from 0 to less than n -/
def okI (xs : List Int) (n : Int) : Bool := xs.all fun x => decide (0 ≤ x ∧ x < n)
theorem okI_true {xs : List Int} {n : Int} (h : ∀ j (hj : j < xs.length), 0 ≤ xs[j] ∧ xs[j] < n) : okI xs n = true := by
  unfold okI
  rw [List.all_eq_true]
  intro x hx
  obtain ⟨j, hj, rfl⟩ := List.getElem_of_mem hx
  exact decide_eq_true (h j hj)
theorem okI_false {xs : List Int} {n : Int} (j : Nat) (hj : j < xs.length) (h : ¬ (0 ≤ xs[j] ∧ xs[j] < n)) : okI xs n = false := by
  unfold okI
  rw [List.all_eq_false]
  exact ⟨xs[j], List.getElem_mem hj, by simpa using h⟩
theorem okI_get {xs : List Int} {n : Int} (h : okI xs n = true) (j : Nat) (hj : j < xs.length) : 0 ≤ xs[j] ∧ xs[j] < n := by
  unfold okI at h
  have := List.all_eq_true.1 h _ (List.getElem_mem hj)
  simpa using this

set_option maxHeartbeats 1000000 in
theorem are_any (xs : List Int) (v : Value) (n : Int) (w : World) (hiv : IV w w.heap.size v xs) :
    Calls Tryd.prog 38 #[v, .int .i64 n] w fun e w' => e = .returned (.bool (okI xs n)) ∧ w = w' := by
  obtain ⟨hl, ⟨rfl, rfl⟩ | ⟨b, off, c, rfl, hlt, hc⟩⟩ := hiv
  · go_enter Tryd.func38, Tryd.ntmps38
    go_wp2_with fail
    refine wp_loop_rounds 1 ?_
    rw [rounds_succ]
    go_wp2_with fail
    go_ret
    exact ⟨rfl, rfl⟩
  · have HC := Lib.hid hc
    clear hc
    go_enter Tryd.func38, Tryd.ntmps38
    go_wp2_with fail
    go_loop [9] (fun i => ∃ k : Nat, k ≤ xs.length ∧ i = .int .i64 (k : Int) ∧ Hid (∀ j (hj : j < xs.length), j < k → 0 ≤ xs[j] ∧ xs[j] < n)) (fun i => xs.length - (intOf i).toNat)
    case atStart => exact ⟨0, Nat.zero_le _, rfl, fun j _ h => absurd h (by omega)⟩
    case round =>
      obtain ⟨k, hk, rfl, hall⟩ := hrel
      by_cases hkl : k < xs.length
      · have hcell := HC.out k hkl
        have HALL : Hid (0 ≤ xs[k] ∧ xs[k] < n → ∀ j (hj : j < xs.length), j < k + 1 → 0 ≤ xs[j] ∧ xs[j] < n) := fun hx j hj hjk => by
          by_cases e : j = k
          · subst e; exact hx
          · exact hall.out j hj (by omega)
        have HNO : Hid (¬ (0 ≤ xs[k] ∧ xs[k] < n) → okI xs n = false) := fun h => okI_false k hkl h
        generalize xs[k] = x at hcell HALL HNO
        by_cases hx : 0 ≤ x ∧ x < n
        · have HX := Lib.hid hx
          clear hx
          go_wp2_with fail
          refine (index_true _ _ HX.out.1 HX.out.2 _).mono ?_
          rintro e w' ⟨rfl, rfl⟩
          go_wp2_with fail
          go_round
          case rel => exact ⟨k + 1, by omega, by go_num, HALL.out HX.out⟩
          case measure => simp [intOf]; omega
        · have HX : Hid (x < 0 ∨ n ≤ x) := by unfold Hid; omega
          have HF := Lib.hid (HNO.out hx)
          clear hx
          go_wp2_with fail
          refine (index_false _ _ HX.out _).mono ?_
          rintro e w' ⟨rfl, rfl⟩
          go_wp2_with fail
          go_ret
          exact ⟨by rw [HF.out]; rfl, rfl⟩
      · obtain rfl : k = xs.length := by omega
        have HT := Lib.hid (okI_true (n := n) fun j hj => hall.out j hj hj)
        go_wp2_with fail
        go_ret
        exact ⟨by rw [HT.out]; rfl, rfl⟩
set_option maxHeartbeats 1000000 in
theorem num_any (xs : List Int) (v : Value) (n : Int) (hn1 : 1 ≤ n) (hn8 : n ≤ 8) (w : World) (hiv : IV w w.heap.size v xs) :
    Calls Tryd.prog 51 #[v, .int .i64 n] w fun e w' => e = .returned (.bool (okI xs n && decide (1 ≤ xs.length ∧ xs.length ≤ 8))) ∧ w = w' := by
  obtain ⟨hl, ⟨rfl, rfl⟩ | ⟨b, off, c, rfl, hlt, hc⟩⟩ := hiv
  · go_enter Tryd.func51, Tryd.ntmps51
    go_wp2_with fail
    refine wp_loop_rounds 1 ?_
    rw [rounds_succ]
    go_wp2_with fail
    refine (l1In_false _ _ _ (by omega) _).mono ?_
    rintro e w' ⟨rfl, rfl⟩
    go_wp2_with fail
    go_ret
    exact ⟨rfl, rfl⟩
  · have HC := Lib.hid hc
    clear hc
    go_enter Tryd.func51, Tryd.ntmps51
    go_wp2_with fail
    go_loop [5] (fun i => ∃ k : Nat, k ≤ xs.length ∧ i = .int .i64 (k : Int) ∧ Hid (∀ j (hj : j < xs.length), j < k → 0 ≤ xs[j] ∧ xs[j] < n)) (fun i => xs.length - (intOf i).toNat)
    case atStart => exact ⟨0, Nat.zero_le _, rfl, fun j _ h => absurd h (by omega)⟩
    case round =>
      obtain ⟨k, hk, rfl, hall⟩ := hrel
      by_cases hkl : k < xs.length
      · have hcell := HC.out k hkl
        have HALL : Hid (0 ≤ xs[k] ∧ xs[k] < n → ∀ j (hj : j < xs.length), j < k + 1 → 0 ≤ xs[j] ∧ xs[j] < n) := fun hx j hj hjk => by
          by_cases e : j = k
          · subst e; exact hx
          · exact hall.out j hj (by omega)
        have HNO : Hid (¬ (0 ≤ xs[k] ∧ xs[k] < n) → okI xs n = false) := fun h => okI_false k hkl h
        generalize xs[k] = x at hcell HALL HNO
        by_cases hx : 0 ≤ x ∧ x < n
        · have HX := Lib.hid hx
          have HX2 : Hid (x ≤ n - 1) := by unfold Hid; omega
          clear hx
          go_wp2_with fail
          refine (l1In_true _ _ _ HX.out.1 HX2.out _).mono ?_
          rintro e w' ⟨rfl, rfl⟩
          go_wp2_with fail
          go_round
          case rel => exact ⟨k + 1, by omega, by go_num, HALL.out HX.out⟩
          case measure => simp [intOf]; omega
        · have HX : Hid (x < 0 ∨ n - 1 < x) := by unfold Hid; omega
          have HF := Lib.hid (HNO.out hx)
          clear hx
          go_wp2_with fail
          refine (l1In_false _ _ _ HX.out _).mono ?_
          rintro e w' ⟨rfl, rfl⟩
          go_wp2_with fail
          go_ret
          exact ⟨by rw [HF.out]; rfl, rfl⟩
      · obtain rfl : k = xs.length := by omega
        have HT := Lib.hid (okI_true (n := n) fun j hj => hall.out j hj hj)
        by_cases h18 : 1 ≤ xs.length ∧ xs.length ≤ 8
        · have HD := Lib.hid (decide_eq_true h18)
          have HI : Hid ((1 : Int) ≤ (xs.length : Int) ∧ (xs.length : Int) ≤ 8) := by unfold Hid; omega
          clear h18
          go_wp2_with fail
          refine (l1In_true _ _ _ HI.out.1 HI.out.2 _).mono ?_
          rintro e w' ⟨rfl, rfl⟩
          go_wp2_with fail
          go_ret
          exact ⟨by rw [HT.out, HD.out]; rfl, rfl⟩
        · have HD := Lib.hid (decide_eq_false h18)
          have HI : Hid ((xs.length : Int) < 1 ∨ 8 < (xs.length : Int)) := by unfold Hid; omega
          clear h18
          go_wp2_with fail
          refine (l1In_false _ _ _ HI.out _).mono ?_
          rintro e w' ⟨rfl, rfl⟩
          go_wp2_with fail
          go_ret
          exact ⟨by rw [HT.out, HD.out]; rfl, rfl⟩



end Go.Proofs.YtbbgibbpeibhiaaDoor.Ints
