/-
  Contracts of the grid's methods and of the reference's l1At.
-/
import Derived.Test.YtbbgibbpeibhiaaDoorGrid
namespace Go.Proofs.YtbbgibbpeibhiaaDoor.Entry
open Go.RowKit Go.Proofs.YtbbgibbpeibhiaaDoor.Plain Go.Proofs.YtbbgibbpeibhiaaDoor.Base Go.Proofs.YtbbgibbpeibhiaaDoor.Valid Go.Proofs.YtbbgibbpeibhiaaDoor.Law Go.Proofs.YtbbgibbpeibhiaaDoor.GridPlain Go.Proofs.YtbbgibbpeibhiaaDoor.Grid
set_option linter.unusedVariables false

set_option maxHeartbeats 400000 in
theorem index_true (i n : Int) (h1 : 0 ≤ i) (h2 : i < n) (w : World) :
    Calls Tryd.prog 61 #[.int .i64 i, .int .i64 n] w fun e w' => e = .returned (.bool true) ∧ w = w' := by
  go_enter Tryd.func61, Tryd.ntmps61
  go_wp2
  go_ret
  exact ⟨rfl, rfl⟩
set_option maxHeartbeats 400000 in
theorem index_false (i n : Int) (h : i < 0 ∨ n ≤ i) (w : World) :
    Calls Tryd.prog 61 #[.int .i64 i, .int .i64 n] w fun e w' => e = .returned (.bool false) ∧ w = w' := by
  by_cases h0 : 0 ≤ i
  · have h2 : n ≤ i := by omega
    clear h
    go_enter Tryd.func61, Tryd.ntmps61
    go_wp2
    go_ret
    exact ⟨by simp; omega, rfl⟩
  · have h2 : i < 0 := by omega
    clear h h0
    go_enter Tryd.func61, Tryd.ntmps61
    go_wp2
    go_ret
    exact ⟨rfl, rfl⟩

/-- a grid's value -/
abbrev gval (r c : Int) (f : Nat → Int) : Value := .agg (gcells r c f)

set_option maxHeartbeats 1000000 in
theorem entry_any (r c : Int) (f : Nat → Int) (x y : Nat) (hx : x < 8) (hy : y < 8) (w : World) :
    Calls Tryd.prog 37 #[gval r c f, .int .i64 (x : Int), .int .i64 (y : Int)] w fun e w' => e = .returned (.int .i64 (f (8 * x + y))) ∧ Below w.heap.size w w' := by
  have hx' : (x : Int) < 8 := by omega
  have hy' : (y : Int) < 8 := by omega
  have cg : (w.alloc (.cells (gcells r c f) 47)).cell? ⟨w.heap.size, 2 + x * 8 + y, none⟩ = some (.int .i64 (f (8 * x + y))) := by
    rw [Nat.mul_comm 8 x]
    exact (cell_of_row _ _ _ _ _ _ (heap_alloc_new w _)).trans (gat _ _ _ _ _ hx hy)
  go_enter Tryd.func37, Tryd.ntmps37
  go_wp2_with fail
  go_ret
  exact ⟨rfl, by go_grown⟩


theorem byte_xy (E : Nat → Nat → Bool) (r c x y : Nat) (s : ByteArray) (h : s = str (rowsB E r c)) (hx : x < r) (hy : y < c) (hlt : x * c + y < s.size) : s[x * c + y].toNat = if E x y then 49 else 48 := by
  have hk : x * c + y < r * c := by
    have : (x + 1) * c ≤ r * c := Nat.mul_le_mul_right c hx
    rw [Nat.succ_mul] at this
    omega
  have h1 : (x * c + y) / c = x := by rw [Nat.mul_comm, Nat.mul_add_div (by omega), Nat.div_eq_of_lt hy, Nat.add_zero]
  have h2 : (x * c + y) % c = y := by rw [Nat.mul_comm, Nat.mul_add_mod, Nat.mod_eq_of_lt hy]
  have h3 := Grid.byte_at E r c (x * c + y) s h hk hlt
  rwa [h1, h2] at h3
theorem size_xy {r c x y : Nat} (hx : x < r) (hy : y < c) : x * c + y < r * c := by
  have : (x + 1) * c ≤ r * c := Nat.mul_le_mul_right c hx
  rw [Nat.succ_mul] at this
  omega

set_option maxHeartbeats 1000000 in
theorem at_any (E : Nat → Nat → Bool) (r c : Nat) (hr8 : r ≤ 8) (hc8 : c ≤ 8) (x y : Nat) (hx : x < r) (hy : y < c) (w : World) :
    Calls Tryd.prog 58 #[mat r c (str (rowsB E r c)), .int .i64 (x : Int), .int .i64 (y : Int)] w fun e w' => e = .returned (.bool (E x y)) ∧ Below w.heap.size w w' := by
  obtain ⟨s, hs⟩ : ∃ s, str (rowsB E r c) = s := ⟨_, rfl⟩
  rw [hs]
  have HS := Lib.hid hs
  have hz : s.size = r * c := by rw [← hs, str_size, rowsB_length]
  have hlt := size_xy hx hy
  rw [← hz] at hlt
  have h64 : s.size ≤ 64 := by rw [hz]; exact prod_le hr8 hc8
  have hby := byte_xy E r c x y s hs.symm hx hy hlt
  have HB : Hid (((s[x * c + y].toNat : Int) == 49) = E x y) := by
    unfold Hid
    rw [hby]
    cases E x y <;> rfl
  have hmul := wrap_prod x c (by omega) hc8
  have HM := Lib.hid hmul
  have hxc : x * c ≤ 64 := by omega
  clear hs hz HS hby hmul
  go_enter Tryd.func58, Tryd.ntmps58
  go_wp2_with fail
  go_ret
  exact ⟨congrArg (fun b => Ending.returned (.bool b)) HB.out, by go_grown⟩

/-- a valid matrix is told by its entries -/
theorem valid_form {r c : Int} {s : ByteArray} (h : validB r c s = true) : ∃ (R C : Nat) (E : Nat → Nat → Bool), r = (R : Int) ∧ c = (C : Int) ∧ 1 ≤ R ∧ R ≤ 8 ∧ 1 ≤ C ∧ C ≤ 8 ∧ s = str (rowsB E R C) := by
  unfold validB at h
  simp only [Bool.and_eq_true, decide_eq_true_eq, beq_iff_eq] at h
  obtain ⟨⟨h1, h2, h3, h4⟩, hok, hsz⟩ := h
  obtain ⟨R, rfl⟩ := Int.eq_ofNat_of_zero_le (show 0 ≤ r by omega)
  obtain ⟨C, rfl⟩ := Int.eq_ofNat_of_zero_le (show 0 ≤ c by omega)
  have hsz' : s.size = R * C := by
    have : ((s.size : Nat) : Int) = ((R * C : Nat) : Int) := by rw [hsz, Int.natCast_mul]
    omega
  refine ⟨R, C, fun x y => decide (s.data.toList[x * C + y]? = some 49), rfl, rfl, by omega, by omega, by omega, by omega, ?_⟩
  have hl : s.data.toList = rowsB (fun x y => decide (s.data.toList[x * C + y]? = some 49)) R C := by
    apply List.ext_getElem?
    intro k
    by_cases hk : k < R * C
    · rw [rowsB_get _ _ _ _ hk]
      have he : k / C * C + k % C = k := by rw [Nat.mul_comm]; exact Nat.div_add_mod k C
      have hk2 : k < s.data.toList.length := by rw [Array.length_toList]; show k < s.size; omega
      simp only [he]
      rw [List.getElem?_eq_getElem hk2]
      have hb := List.all_eq_true.1 hok _ (List.getElem_mem hk2)
      unfold isBit at hb
      unfold dig
      by_cases h49 : s.data.toList[k] = 49
      · rw [h49]; simp
      · have h48 : s.data.toList[k] = 48 := by
          simp only [Bool.or_eq_true, beq_iff_eq] at hb
          exact hb.resolve_right h49
        rw [h48]; simp
    · rw [List.getElem?_eq_none (by rw [Array.length_toList]; show s.size ≤ k; omega), List.getElem?_eq_none (by rw [rowsB_length]; omega)]
  rw [← hl]
  apply ByteArray.ext
  simp [str]
end Go.Proofs.YtbbgibbpeibhiaaDoor.Entry
