/-
  The contract of spec.l1Make, kind by kind.
-/
import Derived.Test.YtbbgibbpeibhiaaDoorBase
import Derived.Deep.RegionHeld3
namespace Go.Proofs.YtbbgibbpeibhiaaDoor.Make
open Go.RowKit Go.Proofs.YtbbgibbpeibhiaaDoor.Plain Go.Proofs.YtbbgibbpeibhiaaDoor.Base

/-- the world in l1Make: the result's block and out's block -/
abbrev mw (w : World) (r c : Nat) (s : ByteArray) : World :=
  (w.alloc (.cells #[.int .i64 0, .int .i64 0, .string ⟨#[]⟩] 24)).alloc (.cells #[.int .i64 (r : Int), .int .i64 (c : Int), .string s] 24)
theorem mw_set (w : World) (r c q : Nat) (s t : ByteArray) : ((mw w r c s).drewN q).setCell ⟨w.heap.size + 1, 2, none⟩ (.string t) = (mw w r c t).drewN q := by
  have h : (w.alloc (.cells #[.int .i64 0, .int .i64 0, .string ⟨#[]⟩] 24)).heap.size = w.heap.size + 1 := by simp
  show ((mw w r c s).setCell ⟨w.heap.size + 1, 2, none⟩ (.string t)).drewN q = _
  unfold mw
  rw [World.setCell_alloc_at _ _ _ _ _ h.symm]
  rfl
theorem mw_below (w : World) (r c q : Nat) (s : ByteArray) (a b d : Value) : Below w.heap.size w (((((mw w r c s).drewN q).setCell ⟨w.heap.size, 0, none⟩ a).setCell ⟨w.heap.size, 1, none⟩ b).setCell ⟨w.heap.size, 2, none⟩ d) := by
  have h : Below w.heap.size w (mw w r c s) := ((Below.refl _ _).alloc (Nat.le_refl _) _).alloc (by simp) _
  have h2 : Below w.heap.size w ((mw w r c s).drewN q) := ⟨h.os, h.tape, h.output, h.size, h.block⟩
  exact ((h2.setCell (Nat.le_refl _) _).setCell (Nat.le_refl _) _).setCell (Nat.le_refl _) _

theorem b0 (k j : Nat) : ((k : Int) == (j : Int)) = decide (k = j) := by
  rw [Bool.eq_iff_iff]; simp [Int.ofNat_inj]
theorem b2 (k j : Nat) : (((k &&& j : Nat) : Int) == 0) = decide (k &&& j = 0) := by
  rw [Bool.eq_iff_iff]; simp
theorem b3 (k j : Nat) : (((ones (k &&& j) : Nat) : Int) % 2 == 1) = decide (ones (k &&& j) % 2 = 1) := by
  rw [Bool.eq_iff_iff]; simp only [beq_iff_eq, decide_eq_true_eq]; omega
theorem b4 (k j : Nat) (hk : k < 8) (hj : j < 8) : (bits BinOp.and IntKind.i64 ((k : Int) / 2 ^ j) 1 == 1) = decide ((k >>> j) % 2 = 1) := by
  have h : ∀ k : Fin 8, ∀ j : Fin 8, (bits BinOp.and IntKind.i64 (((k.val : Nat) : Int) / 2 ^ j.val) 1 == 1) = decide ((k.val >>> j.val) % 2 = 1) := by decide +kernel
  exact h ⟨k, hk⟩ ⟨j, hj⟩
theorem and_nat : ∀ k j : Nat, k < 8 → j < 8 → bits .and .i64 (k : Int) (j : Int) = ((k &&& j : Nat) : Int) := by
  have h : ∀ k : Fin 8, ∀ j : Fin 8, bits .and .i64 ((k.val : Nat) : Int) ((j.val : Nat) : Int) = ((k.val &&& j.val : Nat) : Int) := by decide +kernel
  intro k j hk hj
  exact h ⟨k, hk⟩ ⟨j, hj⟩

set_option maxHeartbeats 2000000 in
theorem make0 (r c : Nat) (hr : r ≤ 8) (hc : c ≤ 8) (w : World) :
    Calls Tryd.prog 86 #[.int .i64 0, .int .i64 (r : Int), .int .i64 (c : Int)] w fun e w' => e = .returned (mat r c (str (rowsB (fun x y => decide (x = y)) r c))) ∧ Below w.heap.size w w' := by
  go_enter Tryd.func86, Tryd.ntmps86
  go_wp2_with fail
  go_loopw [8] (fun x wr => ∃ (k : Nat) (q : Nat) (s : ByteArray), k ≤ r ∧ x = .int .i64 (k : Int) ∧ Hid (s = str (rowsB (fun x y => decide (x = y)) k c)) ∧ wr = (mw w r c s).drewN q) (fun x _ => r - (intOf x).toNat)
  case atStart => exact ⟨0, 0, _, Nat.zero_le _, rfl, rfl, rfl⟩
  case round =>
    obtain ⟨k, q, s, hk, rfl, hs, rfl⟩ := hrel
    by_cases hlt : k < r
    · go_wp2_with fail
      go_loopw [9] (fun y wr => ∃ (j : Nat) (q : Nat) (s : ByteArray), j ≤ c ∧ y = .int .i64 (j : Int) ∧ Hid (s = str (rowsB (fun x y => decide (x = y)) k c ++ rowB (fun x y => decide (x = y)) k j)) ∧ wr = (mw w r c s).drewN q) (fun y _ => c - (intOf y).toNat)
      case atStart => exact ⟨0, q, _, Nat.zero_le _, rfl, by rw [hs.out]; exact part_start _ _ _, rfl⟩
      case round =>
        obtain ⟨j, q', s', hj, rfl, hs', rfl⟩ := hrel
        by_cases hlt' : j < c
        · skip
          go_wp2_with fail
          obtain ⟨b, hb⟩ : ∃ b : Bool, ((k : Int) == (j : Int)) = b := ⟨_, rfl⟩
          rw [hb]
          have HB := Lib.hid hb
          clear hb
          have hsz : s'.size + 1 ≤ 9223372036854775807 := by
            have := part_size (fun x y => decide (x = y)) hr hc hlt hlt'
            rw [hs'.out]
            omega
          have hcat := fun W => run_string_add_sum (P := Tryd.prog) (w := W) s' ⟨#[dig b]⟩ hsz
          clear hsz
          go_region_with (go_at_call 57; refine (l1Bit_any b _).mono ?_; rintro e w' ⟨rfl, rfl⟩)
          all_goals go_wp2_with fail
          all_goals
            go_roundw
            case rel => exact ⟨j + 1, q' + 1, _, by omega, by go_num, by rw [hs'.out]; exact (congrArg (fun d => str (rowsB (fun x y => decide (x = y)) k c ++ rowB (fun x y => decide (x = y)) k j) ++ ⟨#[d]⟩) (congrArg dig (HB.out.symm.trans (b0 k j)))).trans (part_next _ _ _ _), mw_set _ _ _ _ _ _⟩
            case measure => simp [intOf]; omega
        · go_wp2_with fail
          obtain rfl : j = c := by omega
          go_roundw
          case rel => exact ⟨k + 1, q', _, by omega, by go_num, by rw [hs'.out]; exact part_done _ _ _, rfl⟩
          case measure => simp [intOf]; omega
    · go_wp2_with fail
      obtain rfl : k = r := by omega
      exact bodyPost_ret (v := mat k c s) (by simp [results, Tryd.results86, go_sem]) rfl ⟨by rw [hs.out], mw_below _ _ _ _ _ _ _ _⟩

set_option maxHeartbeats 2000000 in
theorem make1 (r c : Nat) (hr : r ≤ 8) (hc : c ≤ 8) (w : World) :
    Calls Tryd.prog 86 #[.int .i64 1, .int .i64 (r : Int), .int .i64 (c : Int)] w fun e w' => e = .returned (mat r c (str (rowsB (fun x y => decide (y < x)) r c))) ∧ Below w.heap.size w w' := by
  go_enter Tryd.func86, Tryd.ntmps86
  go_wp2_with fail
  go_loopw [8] (fun x wr => ∃ (k : Nat) (q : Nat) (s : ByteArray), k ≤ r ∧ x = .int .i64 (k : Int) ∧ Hid (s = str (rowsB (fun x y => decide (y < x)) k c)) ∧ wr = (mw w r c s).drewN q) (fun x _ => r - (intOf x).toNat)
  case atStart => exact ⟨0, 0, _, Nat.zero_le _, rfl, rfl, rfl⟩
  case round =>
    obtain ⟨k, q, s, hk, rfl, hs, rfl⟩ := hrel
    by_cases hlt : k < r
    · go_wp2_with fail
      go_loopw [9] (fun y wr => ∃ (j : Nat) (q : Nat) (s : ByteArray), j ≤ c ∧ y = .int .i64 (j : Int) ∧ Hid (s = str (rowsB (fun x y => decide (y < x)) k c ++ rowB (fun x y => decide (y < x)) k j)) ∧ wr = (mw w r c s).drewN q) (fun y _ => c - (intOf y).toNat)
      case atStart => exact ⟨0, q, _, Nat.zero_le _, rfl, by rw [hs.out]; exact part_start _ _ _, rfl⟩
      case round =>
        obtain ⟨j, q', s', hj, rfl, hs', rfl⟩ := hrel
        by_cases hlt' : j < c
        · skip
          go_wp2_with fail
          obtain ⟨b, hb⟩ : ∃ b : Bool, decide (j < k) = b := ⟨_, rfl⟩
          rw [hb]
          have HB := Lib.hid hb
          clear hb
          have hsz : s'.size + 1 ≤ 9223372036854775807 := by
            have := part_size (fun x y => decide (y < x)) hr hc hlt hlt'
            rw [hs'.out]
            omega
          have hcat := fun W => run_string_add_sum (P := Tryd.prog) (w := W) s' ⟨#[dig b]⟩ hsz
          clear hsz
          go_region_with (go_at_call 57; refine (l1Bit_any b _).mono ?_; rintro e w' ⟨rfl, rfl⟩)
          all_goals go_wp2_with fail
          all_goals
            go_roundw
            case rel => exact ⟨j + 1, q' + 1, _, by omega, by go_num, by rw [hs'.out]; exact (congrArg (fun d => str (rowsB (fun x y => decide (y < x)) k c ++ rowB (fun x y => decide (y < x)) k j) ++ ⟨#[d]⟩) (congrArg dig (HB.out.symm.trans (rfl)))).trans (part_next _ _ _ _), mw_set _ _ _ _ _ _⟩
            case measure => simp [intOf]; omega
        · go_wp2_with fail
          obtain rfl : j = c := by omega
          go_roundw
          case rel => exact ⟨k + 1, q', _, by omega, by go_num, by rw [hs'.out]; exact part_done _ _ _, rfl⟩
          case measure => simp [intOf]; omega
    · go_wp2_with fail
      obtain rfl : k = r := by omega
      exact bodyPost_ret (v := mat k c s) (by simp [results, Tryd.results86, go_sem]) rfl ⟨by rw [hs.out], mw_below _ _ _ _ _ _ _ _⟩

set_option maxHeartbeats 2000000 in
theorem make2 (r c : Nat) (hr : r ≤ 8) (hc : c ≤ 8) (w : World) :
    Calls Tryd.prog 86 #[.int .i64 2, .int .i64 (r : Int), .int .i64 (c : Int)] w fun e w' => e = .returned (mat r c (str (rowsB (fun x y => decide (x &&& y = 0)) r c))) ∧ Below w.heap.size w w' := by
  go_enter Tryd.func86, Tryd.ntmps86
  go_wp2_with fail
  go_loopw [8] (fun x wr => ∃ (k : Nat) (q : Nat) (s : ByteArray), k ≤ r ∧ x = .int .i64 (k : Int) ∧ Hid (s = str (rowsB (fun x y => decide (x &&& y = 0)) k c)) ∧ wr = (mw w r c s).drewN q) (fun x _ => r - (intOf x).toNat)
  case atStart => exact ⟨0, 0, _, Nat.zero_le _, rfl, rfl, rfl⟩
  case round =>
    obtain ⟨k, q, s, hk, rfl, hs, rfl⟩ := hrel
    by_cases hlt : k < r
    · go_wp2_with fail
      go_loopw [9] (fun y wr => ∃ (j : Nat) (q : Nat) (s : ByteArray), j ≤ c ∧ y = .int .i64 (j : Int) ∧ Hid (s = str (rowsB (fun x y => decide (x &&& y = 0)) k c ++ rowB (fun x y => decide (x &&& y = 0)) k j)) ∧ wr = (mw w r c s).drewN q) (fun y _ => c - (intOf y).toNat)
      case atStart => exact ⟨0, q, _, Nat.zero_le _, rfl, by rw [hs.out]; exact part_start _ _ _, rfl⟩
      case round =>
        obtain ⟨j, q', s', hj, rfl, hs', rfl⟩ := hrel
        by_cases hlt' : j < c
        · have hbit := and_nat k j (by omega) (by omega)
          go_wp2_with fail
          obtain ⟨b, hb⟩ : ∃ b : Bool, (((k &&& j : Nat) : Int) == 0) = b := ⟨_, rfl⟩
          rw [hb]
          have HB := Lib.hid hb
          clear hb
          have hsz : s'.size + 1 ≤ 9223372036854775807 := by
            have := part_size (fun x y => decide (x &&& y = 0)) hr hc hlt hlt'
            rw [hs'.out]
            omega
          have hcat := fun W => run_string_add_sum (P := Tryd.prog) (w := W) s' ⟨#[dig b]⟩ hsz
          clear hsz
          go_region_with (go_at_call 57; refine (l1Bit_any b _).mono ?_; rintro e w' ⟨rfl, rfl⟩)
          all_goals go_wp2_with fail
          all_goals
            go_roundw
            case rel => exact ⟨j + 1, q' + 1, _, by omega, by go_num, by rw [hs'.out]; exact (congrArg (fun d => str (rowsB (fun x y => decide (x &&& y = 0)) k c ++ rowB (fun x y => decide (x &&& y = 0)) k j) ++ ⟨#[d]⟩) (congrArg dig (HB.out.symm.trans (b2 k j)))).trans (part_next _ _ _ _), mw_set _ _ _ _ _ _⟩
            case measure => simp [intOf]; omega
        · go_wp2_with fail
          obtain rfl : j = c := by omega
          go_roundw
          case rel => exact ⟨k + 1, q', _, by omega, by go_num, by rw [hs'.out]; exact part_done _ _ _, rfl⟩
          case measure => simp [intOf]; omega
    · go_wp2_with fail
      obtain rfl : k = r := by omega
      exact bodyPost_ret (v := mat k c s) (by simp [results, Tryd.results86, go_sem]) rfl ⟨by rw [hs.out], mw_below _ _ _ _ _ _ _ _⟩

set_option maxHeartbeats 2000000 in
theorem make3 (r c : Nat) (hr : r ≤ 8) (hc : c ≤ 8) (w : World) :
    Calls Tryd.prog 86 #[.int .i64 3, .int .i64 (r : Int), .int .i64 (c : Int)] w fun e w' => e = .returned (mat r c (str (rowsB (fun x y => decide (ones (x &&& y) % 2 = 1)) r c))) ∧ Below w.heap.size w w' := by
  go_enter Tryd.func86, Tryd.ntmps86
  go_wp2_with fail
  go_loopw [8] (fun x wr => ∃ (k : Nat) (q : Nat) (s : ByteArray), k ≤ r ∧ x = .int .i64 (k : Int) ∧ Hid (s = str (rowsB (fun x y => decide (ones (x &&& y) % 2 = 1)) k c)) ∧ wr = (mw w r c s).drewN q) (fun x _ => r - (intOf x).toNat)
  case atStart => exact ⟨0, 0, _, Nat.zero_le _, rfl, rfl, rfl⟩
  case round =>
    obtain ⟨k, q, s, hk, rfl, hs, rfl⟩ := hrel
    by_cases hlt : k < r
    · go_wp2_with fail
      go_loopw [9] (fun y wr => ∃ (j : Nat) (q : Nat) (s : ByteArray), j ≤ c ∧ y = .int .i64 (j : Int) ∧ Hid (s = str (rowsB (fun x y => decide (ones (x &&& y) % 2 = 1)) k c ++ rowB (fun x y => decide (ones (x &&& y) % 2 = 1)) k j)) ∧ wr = (mw w r c s).drewN q) (fun y _ => c - (intOf y).toNat)
      case atStart => exact ⟨0, q, _, Nat.zero_le _, rfl, by rw [hs.out]; exact part_start _ _ _, rfl⟩
      case round =>
        obtain ⟨j, q', s', hj, rfl, hs', rfl⟩ := hrel
        by_cases hlt' : j < c
        · have hbit := and_nat k j (by omega) (by omega)
          have hand : k &&& j < 8 := Nat.lt_of_le_of_lt Nat.and_le_left (by omega)
          go_wp2_with (go_at_call 97; refine (ones_any (k &&& j) hand _).mono ?_; rintro e w' ⟨rfl, rfl⟩)
          obtain ⟨b, hb⟩ : ∃ b : Bool, (((ones (k &&& j) : Nat) : Int) % 2 == 1) = b := ⟨_, rfl⟩
          rw [hb]
          have HB := Lib.hid hb
          clear hb
          have hsz : s'.size + 1 ≤ 9223372036854775807 := by
            have := part_size (fun x y => decide (ones (x &&& y) % 2 = 1)) hr hc hlt hlt'
            rw [hs'.out]
            omega
          have hcat := fun W => run_string_add_sum (P := Tryd.prog) (w := W) s' ⟨#[dig b]⟩ hsz
          clear hsz
          go_region_with (go_at_call 57; refine (l1Bit_any b _).mono ?_; rintro e w' ⟨rfl, rfl⟩)
          all_goals go_wp2_with fail
          all_goals
            go_roundw
            case rel => exact ⟨j + 1, q' + 1, _, by omega, by go_num, by rw [hs'.out]; exact (congrArg (fun d => str (rowsB (fun x y => decide (ones (x &&& y) % 2 = 1)) k c ++ rowB (fun x y => decide (ones (x &&& y) % 2 = 1)) k j) ++ ⟨#[d]⟩) (congrArg dig (HB.out.symm.trans (b3 k j)))).trans (part_next _ _ _ _), mw_set _ _ _ _ _ _⟩
            case measure => simp [intOf]; omega
        · go_wp2_with fail
          obtain rfl : j = c := by omega
          go_roundw
          case rel => exact ⟨k + 1, q', _, by omega, by go_num, by rw [hs'.out]; exact part_done _ _ _, rfl⟩
          case measure => simp [intOf]; omega
    · go_wp2_with fail
      obtain rfl : k = r := by omega
      exact bodyPost_ret (v := mat k c s) (by simp [results, Tryd.results86, go_sem]) rfl ⟨by rw [hs.out], mw_below _ _ _ _ _ _ _ _⟩

set_option maxHeartbeats 2000000 in
theorem make4 (r c : Nat) (hr : r ≤ 8) (hc : c ≤ 8) (w : World) :
    Calls Tryd.prog 86 #[.int .i64 4, .int .i64 (r : Int), .int .i64 (c : Int)] w fun e w' => e = .returned (mat r c (str (rowsB (fun x y => decide ((x >>> y) % 2 = 1)) r c))) ∧ Below w.heap.size w w' := by
  go_enter Tryd.func86, Tryd.ntmps86
  go_wp2_with fail
  go_loopw [8] (fun x wr => ∃ (k : Nat) (q : Nat) (s : ByteArray), k ≤ r ∧ x = .int .i64 (k : Int) ∧ Hid (s = str (rowsB (fun x y => decide ((x >>> y) % 2 = 1)) k c)) ∧ wr = (mw w r c s).drewN q) (fun x _ => r - (intOf x).toNat)
  case atStart => exact ⟨0, 0, _, Nat.zero_le _, rfl, rfl, rfl⟩
  case round =>
    obtain ⟨k, q, s, hk, rfl, hs, rfl⟩ := hrel
    by_cases hlt : k < r
    · go_wp2_with fail
      go_loopw [9] (fun y wr => ∃ (j : Nat) (q : Nat) (s : ByteArray), j ≤ c ∧ y = .int .i64 (j : Int) ∧ Hid (s = str (rowsB (fun x y => decide ((x >>> y) % 2 = 1)) k c ++ rowB (fun x y => decide ((x >>> y) % 2 = 1)) k j)) ∧ wr = (mw w r c s).drewN q) (fun y _ => c - (intOf y).toNat)
      case atStart => exact ⟨0, q, _, Nat.zero_le _, rfl, by rw [hs.out]; exact part_start _ _ _, rfl⟩
      case round =>
        obtain ⟨j, q', s', hj, rfl, hs', rfl⟩ := hrel
        by_cases hlt' : j < c
        · skip
          go_wp2_with fail
          obtain ⟨b, hb⟩ : ∃ b : Bool, (bits BinOp.and IntKind.i64 ((k : Int) / 2 ^ j) 1 == 1) = b := ⟨_, rfl⟩
          rw [hb]
          have HB := Lib.hid hb
          clear hb
          have hsz : s'.size + 1 ≤ 9223372036854775807 := by
            have := part_size (fun x y => decide ((x >>> y) % 2 = 1)) hr hc hlt hlt'
            rw [hs'.out]
            omega
          have hcat := fun W => run_string_add_sum (P := Tryd.prog) (w := W) s' ⟨#[dig b]⟩ hsz
          clear hsz
          go_region_with (go_at_call 57; refine (l1Bit_any b _).mono ?_; rintro e w' ⟨rfl, rfl⟩)
          all_goals go_wp2_with fail
          all_goals
            go_roundw
            case rel => exact ⟨j + 1, q' + 1, _, by omega, by go_num, by rw [hs'.out]; exact (congrArg (fun d => str (rowsB (fun x y => decide ((x >>> y) % 2 = 1)) k c ++ rowB (fun x y => decide ((x >>> y) % 2 = 1)) k j) ++ ⟨#[d]⟩) (congrArg dig (HB.out.symm.trans (b4 k j (by omega) (by omega))))).trans (part_next _ _ _ _), mw_set _ _ _ _ _ _⟩
            case measure => simp [intOf]; omega
        · go_wp2_with fail
          obtain rfl : j = c := by omega
          go_roundw
          case rel => exact ⟨k + 1, q', _, by omega, by go_num, by rw [hs'.out]; exact part_done _ _ _, rfl⟩
          case measure => simp [intOf]; omega
    · go_wp2_with fail
      obtain rfl : k = r := by omega
      exact bodyPost_ret (v := mat k c s) (by simp [results, Tryd.results86, go_sem]) rfl ⟨by rw [hs.out], mw_below _ _ _ _ _ _ _ _⟩

end Go.Proofs.YtbbgibbpeibhiaaDoor.Make
