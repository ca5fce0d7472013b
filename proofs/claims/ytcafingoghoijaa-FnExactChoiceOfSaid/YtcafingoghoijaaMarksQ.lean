/-
  Contracts of the laws' own markRectS and heldRectS over a slice of a call's own.
-/
import Derived.Test.YtcafingoghoijaaRectsP
import Derived.Laws.AppendOwn
namespace Go.Proofs.Ytcafingoghoijaa.Marks
open Go.RowKit Go.Proofs.Ytcafingoghoijaa.Plain Go.Proofs.Ytcafingoghoijaa.Pat Go.Proofs.Ytcafingoghoijaa.Rect Go.Proofs.Ytcafingoghoijaa.Rects
set_option linter.unusedVariables false

abbrev encR (p : Int × Int) : List Value := [.int .i64 p.1, .int .i64 p.2]
def flat (ss : List (Int × Int)) : List Value := ss.flatMap fun p => [.int .i64 p.1, .int .i64 p.2]
theorem flat_get : ∀ (ss : List (Int × Int)) (t : Nat), t < ss.length * 2 → (flat ss)[t]? = some ((encR ss[t / 2]!)[t % 2]!)
  | [], t, h => by simp at h
  | p :: r, 0, h => by simp [flat]
  | p :: r, 1, h => by simp [flat]
  | p :: r, t + 2, h => by
    have ih := flat_get r t (by simp at h; omega)
    have e1 : (t + 2) / 2 = t / 2 + 1 := by omega
    have e2 : (t + 2) % 2 = t % 2 := by omega
    have e3 : flat (p :: r) = Value.int .i64 p.1 :: Value.int .i64 p.2 :: flat r := by simp [flat]
    rw [e3, e1, e2, List.getElem?_cons_succ, List.getElem?_cons_succ, ih]
    simp
theorem flat_length (ss : List (Int × Int)) : (flat ss).length = ss.length * 2 := by
  induction ss with
  | nil => rfl
  | cons p r ih =>
    have e3 : flat (p :: r) = Value.int .i64 p.1 :: Value.int .i64 p.2 :: flat r := by simp [flat]
    rw [e3]; simp [ih]; omega
/-- the marks -/
def nums (n : Nat) : List (Int × Int) := (List.range n).map fun j => (((1 + 2 * j : Nat) : Int), ((2 + 2 * j : Nat) : Int))
theorem nums_len (n : Nat) : (nums n).length = n := by simp [nums]
theorem nums_get (n j : Nat) (h : j < (nums n).length) : (nums n)[j] = (((1 + 2 * j : Nat) : Int), ((2 + 2 * j : Nat) : Int)) := by simp [nums]

/-- a slice of the call's own is a slice of these rectangles -/
theorem rv_own {w : World} {B : Nat} {v : Value} {xs : List (Int × Int)} (h : w.ownsRow B 33 2 v xs.length (flat xs)) (hl : xs.length ≤ 1048576) : RV w w.heap.size v xs := by
  refine ⟨by omega, ?_⟩
  rcases h.2 with ⟨rfl, h0⟩ | ⟨g, cap, cur, rfl, hg, hheap, hn, hcap, hsz, htake⟩
  · exact .inl ⟨rfl, List.length_eq_zero_iff.1 h0⟩
  · refine .inr ⟨g, 0, cap, rfl, (Array.getElem?_eq_some_iff.1 hheap).1, fun j hj => ?_⟩
    have key : ∀ t, t < xs.length * 2 → w.cell? ⟨g, t, none⟩ = (flat xs)[t]? := by
      intro t ht
      rw [← htake, List.getElem?_take_of_lt ht, Array.getElem?_toList]
      simp [World.cell?, hheap]
    have h1 := key (j * 2) (by omega)
    have h2 := key (j * 2 + 1) (by omega)
    rw [flat_get _ _ (by omega)] at h1 h2
    have e1 : j * 2 / 2 = j := by omega
    have e2 : j * 2 % 2 = 0 := by omega
    have e3 : (j * 2 + 1) / 2 = j := by omega
    have e4 : (j * 2 + 1) % 2 = 1 := by omega
    rw [e1, e2, getElem!_pos xs j hj] at h1
    rw [e3, e4, getElem!_pos xs j hj] at h2
    exact ⟨by rw [Nat.zero_add]; exact h1, by rw [Nat.zero_add]; exact h2⟩

set_option maxHeartbeats 1000000 in
theorem mark_block (wb : World) (g cap n : Nat) (hn : n ≤ 1048576) (w : World) (ho : Out wb w g (nums n) 0) :
    Calls Try.prog 25 #[.slice (some ⟨g, 0, none⟩) n cap, .int .i64 1] w fun e w' => e = .returned (.int .i64 ((1 + 2 * n : Nat) : Int)) ∧ Out wb w' g (nums n) n := by
  have HO := Lib.hid ho
  clear ho
  go_enter Try.func25, Try.ntmps25
  go_wp2_with fail
  go_loopw [1, 5] (fun k i wr => ∃ j : Nat, j ≤ n ∧ k = .int .i64 ((1 + 2 * j : Nat) : Int) ∧ i = .int .i64 (j : Int) ∧ Out wb wr g (nums n) j) (fun _ i _ => n - (intOf i).toNat)
  case atStart => exact ⟨0, Nat.zero_le _, rfl, rfl, HO.out⟩
  case round =>
    obtain ⟨j, hj, rfl, rfl, ho⟩ := hrel
    clear HO
    have HOK := Lib.hid ho
    by_cases hlt : j < n
    · have hl : j < (nums n).length := by rw [nums_len]; exact hlt
      obtain ⟨⟨u0, h0⟩, ⟨u1, h1⟩, f0, f1⟩ := ho.place hl
      have HO2 := Lib.hid (ho.set_ hl (((1 + 2 * j : Nat) : Int)) (((2 + 2 * j : Nat) : Int)) (by rw [nums_get]) (by rw [nums_get]))
      clear ho hl
      obtain ⟨a, ha⟩ : ∃ a : Nat, 1 + 2 * j = a := ⟨_, rfl⟩
      obtain ⟨b, hb⟩ : ∃ b : Nat, 2 + 2 * j = b := ⟨_, rfl⟩
      have hab : (b : Int) = (a : Int) + 1 := by omega
      rw [ha, hb, hab] at HO2
      rw [ha]
      have HAB := Lib.hid (And.intro ha (And.intro hb hab))
      have ha4 : a ≤ 4200000 := by omega
      clear ha hb hab
      go_wp2_with fail
      go_roundw
      case rel => exact ⟨j + 1, by omega, by have := HAB.out; go_num, by go_num, HO2.out⟩
      case measure => simp [intOf]; omega
    · obtain rfl : j = n := by omega
      clear ho
      go_wp2_with fail
      go_ret
      exact ⟨rfl, HOK.out⟩

set_option maxHeartbeats 1000000 in
theorem mark_none (w : World) :
    Calls Try.prog 25 #[.slice none 0 0, .int .i64 1] w fun e w' => e = .returned (.int .i64 1) ∧ w = w' := by
  go_enter Try.func25, Try.ntmps25
  go_wp2_with fail
  go_loopw [1, 5] (fun k i wr => k = .int .i64 1 ∧ i = .int .i64 0 ∧ w = wr) (fun _ _ _ => 0)
  case atStart => exact ⟨rfl, rfl, rfl⟩
  case round =>
    obtain ⟨rfl, rfl, rfl⟩ := hrel
    go_wp2_with fail
    go_ret
    exact ⟨rfl, rfl⟩

/-- the marks are written -/
theorem mark (wb w : World) (v : Value) (xs : List (Int × Int)) (hlen : xs.length ≤ 1048576) (hb : Below wb.heap.size wb w) (h : w.ownsRow wb.heap.size 33 2 v xs.length (flat xs)) :
    Calls Try.prog 25 #[v, .int .i64 1] w fun e w' => e = .returned (.int .i64 ((1 + 2 * xs.length : Nat) : Int)) ∧ RV w' w'.heap.size v (nums xs.length) ∧ Below wb.heap.size wb w' := by
  rcases h.2 with ⟨rfl, h0⟩ | ⟨g, cap, cur, rfl, hg, hheap, hn, hcap, hsz, htake⟩
  · rw [h0]
    refine (mark_none w).mono ?_
    rintro e w' ⟨rfl, rfl⟩
    exact ⟨rfl, ⟨by simp [nums], .inl ⟨rfl, rfl⟩⟩, hb⟩
  · have hglt := (Array.getElem?_eq_some_iff.1 hheap).1
    refine (mark_block wb g cap xs.length hlen w ⟨fun _ _ h => absurd h (by omega), fun j hj => ⟨?_, by simp [World.frozen?, hheap]⟩, hb, hg, hglt⟩).mono ?_
    · rw [nums_len] at hj
      rw [Nat.zero_add, cell_of_row _ _ j _ _ _ hheap, Array.getElem?_eq_getElem (by rw [hsz]; have := Nat.mul_le_mul_right 2 hn; omega)]
      rfl
    · rintro e w' ⟨rfl, ho⟩
      have hl := nums_len xs.length
      refine ⟨rfl, ⟨by rw [hl]; omega, .inr ⟨g, 0, cap, by rw [hl], ho.hi, fun j hj => by rw [Nat.zero_add]; exact ho.cells j hj (by omega)⟩⟩, ho.below⟩

set_option maxHeartbeats 1000000 in
/-- the marks are found -/
theorem held (v : Value) (n : Nat) (hn : n ≤ 1048576) (w : World) (hv : RV w w.heap.size v (nums n)) :
    Calls Try.prog 26 #[v, .int .i64 1] w fun e w' => e = .returned (.int .i64 ((1 + 2 * n : Nat) : Int)) ∧ w = w' := by
  have HC : Hid (∀ j, j < n → ∃ b off c, v = .slice (some ⟨b, off, none⟩) n c ∧ w.cell? ⟨b, off + j * 2, none⟩ = some (.int .i64 ((1 + 2 * j : Nat) : Int)) ∧ w.cell? ⟨b, off + j * 2 + 1, none⟩ = some (.int .i64 ((2 + 2 * j : Nat) : Int))) := fun j hj => by
    have hl := nums_len n
    have hj2 : j < (nums n).length := by omega
    rcases hv.2 with ⟨_, h0⟩ | ⟨b, off, c, rfl, hlt, hc⟩
    · rw [h0] at hj2; cases hj2
    · have := hc j hj2
      rw [nums_get] at this
      exact ⟨b, off, c, by rw [hl], this.1, this.2⟩
  obtain ⟨p, k, rfl⟩ := hv.slice
  rw [nums_len] at HC ⊢
  clear hv
  go_enter Try.func26, Try.ntmps26
  go_wp2_with fail
  go_loopw [1, 5] (fun k i wr => ∃ j : Nat, j ≤ n ∧ k = .int .i64 ((1 + 2 * j : Nat) : Int) ∧ i = .int .i64 (j : Int) ∧ w = wr) (fun _ i _ => n - (intOf i).toNat)
  case atStart => exact ⟨0, Nat.zero_le _, rfl, rfl, rfl⟩
  case round =>
    obtain ⟨j, hj, rfl, rfl, rfl⟩ := hrel
    by_cases hlt : j < n
    · obtain ⟨b, off, c, e, c0, c1⟩ := HC.out j hlt
      injection e with e1 e2 e3
      subst e1 e3
      obtain ⟨x, hx⟩ : ∃ x : Nat, 1 + 2 * j = x := ⟨_, rfl⟩
      obtain ⟨y, hy⟩ : ∃ y : Nat, 2 + 2 * j = y := ⟨_, rfl⟩
      have hxy : (y : Int) = (x : Int) + 1 := by omega
      rw [hx] at c0 ⊢
      rw [hy, hxy] at c1
      have HX := Lib.hid (And.intro hx (And.intro hy hxy))
      have hx4 : x ≤ 4200000 := by omega
      clear hx hy hxy
      go_wp2_with fail
      go_roundw
      case rel => exact ⟨j + 1, by omega, by have := HX.out; go_num, by go_num, trivial⟩
      case measure => simp [intOf]; omega
    · obtain rfl : j = n := by omega
      go_wp2_with fail
      go_ret
      exact ⟨rfl, rfl⟩
end Go.Proofs.Ytcafingoghoijaa.Marks
