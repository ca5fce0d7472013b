/-
  Which tables are monotone, of both sides.
-/
import Derived.Test.YtbhkfibbepocfaaDoorWid
namespace Go.Proofs.YtbhkfibbepocfaaDoor.Mono
open Go.RowKit Go.Proofs.YtbhkfibbepocfaaDoor.Plain Go.Proofs.YtbhkfibbepocfaaDoor.Base Go.Proofs.YtbhkfibbepocfaaDoor.Valid Go.Proofs.YtbhkfibbepocfaaDoor.Wid
set_option linter.unusedVariables false
set_option linter.unusedSimpArgs false

/-- a table falls from one number to another one -/
def bad (s : ByteArray) (n m : Nat) : Bool := (n &&& m == n) && (s.data.toList.getD n 0 == 49) && (s.data.toList.getD m 0 == 48)
def monoV (s : ByteArray) : Bool := (List.range s.size).all fun n => (List.range s.size).all fun m => !bad s n m
def monoR (s : ByteArray) : Bool := tabV s && monoV s
theorem mono_true {s : ByteArray} (h : ∀ n, n < s.size → ∀ m, m < s.size → bad s n m = false) : monoV s = true := by
  unfold monoV
  rw [List.all_eq_true]
  intro n hn
  rw [List.all_eq_true]
  intro m hm
  rw [h n (List.mem_range.1 hn) m (List.mem_range.1 hm)]
  rfl
theorem mono_false {s : ByteArray} {n m : Nat} (hn : n < s.size) (hm : m < s.size) (h : bad s n m = true) : monoV s = false := by
  unfold monoV
  rw [List.all_eq_false]
  refine ⟨n, List.mem_range.2 hn, ?_⟩
  rw [Bool.not_eq_true, List.all_eq_false]
  exact ⟨m, List.mem_range.2 hm, by rw [h]; simp⟩
theorem ok_byte {s : ByteArray} (h : okB s = true) (k : Nat) (hk : k < s.size) : (s.data.toList.getD k 0 = 48 ∧ s[k].toNat = 48) ∨ (s.data.toList.getD k 0 = 49 ∧ s[k].toNat = 49) := by
  have hk' : k < s.data.toList.length := by simpa using hk
  have hd : s.data.toList.getD k 0 = s[k] := by
    simp only [List.getD_eq_getElem?_getD, List.getElem?_eq_getElem hk']
    simp
    rfl
  rw [hd]
  unfold okB at h
  rw [List.all_eq_true] at h
  have h1 := h (s[k]) (by rw [← hd]; simp only [List.getD_eq_getElem?_getD, List.getElem?_eq_getElem hk']; simp)
  unfold isBit at h1
  rw [Bool.or_eq_true, beq_iff_eq, beq_iff_eq] at h1
  rcases h1 with e | e
  · left; rw [e]; exact ⟨rfl, rfl⟩
  · right; rw [e]; exact ⟨rfl, rfl⟩
theorem drewn {w0 w : World} (h : Below w0.heap.size w0 w) (q : Nat) : Below w0.heap.size w0 (w.drewN q) := ⟨h.os, h.tape, h.output, h.size, h.block⟩
theorem below_test (n m : Nat) (hn : n < 8) (hm : m < 8) : (Go.bits .andNot .i64 (n : Int) (m : Int) == 0) = (n &&& m == n) ∧ (Go.bits .and .i64 (n : Int) (m : Int) == (n : Int)) = (n &&& m == n) := by
  have h : ∀ n m : Fin 8, (Go.bits .andNot .i64 ((n.val : Nat) : Int) ((m.val : Nat) : Int) == 0) = (n.val &&& m.val == n.val) ∧ (Go.bits .and .i64 ((n.val : Nat) : Int) ((m.val : Nat) : Int) == ((n.val : Nat) : Int)) = (n.val &&& m.val == n.val) := by decide +kernel
  exact h ⟨n, hn⟩ ⟨m, hm⟩

set_option maxHeartbeats 8000000 in
set_option maxRecDepth 100000 in
theorem impl_mono (s : ByteArray) (hs : s.size ≤ maxLen) (w : World) :
    Calls Tryd.prog 14 #[.string s] w fun e w' => e = .returned (.bool (monoR s)) ∧ Below w.heap.size w w' := by
  have HT := Lib.hid (impl_tabv s hs)
  unfold monoR
  rcases width_or s with ⟨b, N, hb1, hb3, hN, hN8, hN2, hsz, hok, hw⟩ | hw
  · have htv : tabV s = true := by unfold tabV; rw [hw]; exact decide_eq_true (by omega)
    rw [htv] at HT
    rw [htv, Bool.true_and]
    have HBY := Lib.hid (fun k hk => ok_byte hok k hk)
    have hs8 : s.size ≤ 8 := by omega
    clear htv hw hok hN hsz hs
    go_enter Tryd.func14, Tryd.ntmps14
    go_wp2_with fail
    refine (HT.out _).mono ?_
    rintro e w1 ⟨rfl, hb⟩
    have HB := Lib.hid hb
    clear hb HT
    go_wp2_with fail
    go_loopw [10] (fun i wr => ∃ k : Nat, k ≤ s.size ∧ i = .int .i64 (k : Int) ∧ Hid (∀ n, n < k → ∀ m, m < s.size → bad s n m = false) ∧ Below w.heap.size w wr) (fun i _ => s.size - (intOf i).toNat)
    case atStart => exact ⟨0, by omega, rfl, fun n hn => absurd hn (by omega), HB.out⟩
    case round =>
      obtain ⟨k, hk, rfl, hno, hb⟩ := hrel
      have HB1 := Lib.hid hb
      clear hb HB
      by_cases hlt : k < s.size
      · go_wp2_with fail
        go_loopw [15] (fun i wr => ∃ j : Nat, j ≤ s.size ∧ i = .int .i64 (j : Int) ∧ Hid (∀ m, m < j → bad s k m = false) ∧ Below w.heap.size w wr) (fun i _ => s.size - (intOf i).toNat)
        case atStart => exact ⟨0, by omega, rfl, fun m hm => absurd hm (by omega), HB1.out⟩
        case round =>
          obtain ⟨j, hj, rfl, hni, hb⟩ := hrel
          have HB2 := Lib.hid hb
          clear hb HB1
          by_cases hlj : j < s.size
          · obtain ⟨h1, h2⟩ := below_test k j (by omega) (by omega)
            clear h2
            obtain ⟨x, hx⟩ : ∃ x, (k &&& j == k) = x := ⟨_, rfl⟩
            rw [hx] at h1
            have HX := Lib.hid hx
            have go_on : ∀ v : Bool, bad s k j = v → v = false → Hid (∀ m, m < j + 1 → bad s k m = false) := fun v e1 e2 m hm => by
              by_cases e : m = j
              · subst e; rw [e1, e2]
              · exact hni.out m (by omega)
            have HK := Lib.hid (HBY.out k hlt)
            have HJ := Lib.hid (HBY.out j hlj)
            cases x
            · have HN := go_on _ rfl (by unfold bad; rw [HX.out]; rfl)
              clear go_on hx
              go_wp2_with fail
              go_quiet (fail)
              go_wp2_with fail
              go_roundw
              case rel => exact ⟨j + 1, by omega, by go_num, HN, drewn HB2.out _⟩
              case measure => simp [intOf]; omega
            · clear hx
              rcases HK.out with ⟨dk, ek⟩ | ⟨dk, ek⟩
              · have HN := go_on _ rfl (by unfold bad; rw [dk]; simp)
                clear go_on dk
                rcases HJ.out with ⟨dj, ej⟩ | ⟨dj, ej⟩
                all_goals
                  clear dj
                  go_wp2_with fail
                  go_quiet (fail)
                  go_wp2_with fail
                  go_roundw
                  case rel => exact ⟨j + 1, by omega, by go_num, HN, drewn HB2.out _⟩
                  case measure => simp [intOf]; omega
              · rcases HJ.out with ⟨dj, ej⟩ | ⟨dj, ej⟩
                · have HF : Hid (monoV s = false) := mono_false hlt hlj (by unfold bad; rw [HX.out, dk, dj]; rfl)
                  clear go_on dk dj
                  go_wp2_with fail
                  go_quiet (fail)
                  go_wp2_with fail
                  go_ret
                  exact ⟨by rw [HF.out]; rfl, drewn HB2.out _⟩
                · have HN := go_on _ rfl (by unfold bad; rw [dj]; simp)
                  clear go_on dk dj
                  go_wp2_with fail
                  go_quiet (fail)
                  go_wp2_with fail
                  go_roundw
                  case rel => exact ⟨j + 1, by omega, by go_num, HN, drewn HB2.out _⟩
                  case measure => simp [intOf]; omega
          · obtain rfl : j = s.size := by omega
            have HN : Hid (∀ n, n < k + 1 → ∀ m, m < s.size → bad s n m = false) := fun n hn m hm => by
              by_cases e : n = k
              · subst e; exact hni.out m hm
              · exact hno.out n (by omega) m hm
            go_wp2_with fail
            go_roundw
            case rel => exact ⟨k + 1, by omega, by go_num, HN, HB2.out⟩
            case measure => simp [intOf]; omega
      · obtain rfl : k = s.size := by omega
        have HR : Hid (monoV s = true) := mono_true hno.out
        go_wp2_with fail
        go_ret
        exact ⟨by rw [HR.out]; rfl, HB1.out⟩
  · have htv : tabV s = false := by unfold tabV; rw [hw]; rfl
    rw [htv] at HT
    rw [htv, Bool.false_and]
    clear htv hw
    go_enter Tryd.func14, Tryd.ntmps14
    go_wp2_with fail
    refine (HT.out _).mono ?_
    rintro e w1 ⟨rfl, hb⟩
    have HB := Lib.hid hb
    clear hb HT
    go_wp2_with fail
    go_ret
    exact ⟨rfl, HB.out⟩

set_option maxHeartbeats 8000000 in
set_option maxRecDepth 100000 in
theorem spec_mono (s : ByteArray) (hs : s.size ≤ maxLen) (w : World) :
    Calls Tryd.prog 15 #[.string s] w fun e w' => e = .returned (.bool (monoR s)) ∧ w = w' := by
  have HT := Lib.hid (spec_tab s hs)
  unfold monoR
  rcases width_or s with ⟨b, N, hb1, hb3, hN, hN8, hN2, hsz, hok, hw⟩ | hw
  · have htv : tabV s = true := by unfold tabV; rw [hw]; exact decide_eq_true (by omega)
    rw [htv] at HT
    rw [htv, Bool.true_and]
    have HBY := Lib.hid (fun k hk => ok_byte hok k hk)
    have hs8 : s.size ≤ 8 := by omega
    clear htv hw hok hN hsz hs
    go_enter Tryd.func15, Tryd.ntmps15
    go_wp2_with fail
    go_loop [3] (fun i => ∃ k : Nat, k ≤ s.size ∧ i = .int .i64 (k : Int) ∧ Hid (∀ n, n < k → ∀ m, m < s.size → bad s n m = false)) (fun i => s.size - (intOf i).toNat)
    case atStart => exact ⟨0, by omega, rfl, fun n hn => absurd hn (by omega)⟩
    case round =>
      obtain ⟨k, hk, rfl, hno⟩ := hrel
      by_cases hlt : k < s.size
      · go_wp2_with fail
        refine (HT.out _).mono ?_
        rintro e w' ⟨rfl, rfl⟩
        go_wp2_with fail
        go_loop [4] (fun i => ∃ j : Nat, j ≤ s.size ∧ i = .int .i64 (j : Int) ∧ Hid (∀ m, m < j → bad s k m = false)) (fun i => s.size - (intOf i).toNat)
        case atStart => exact ⟨0, by omega, rfl, fun m hm => absurd hm (by omega)⟩
        case round =>
          obtain ⟨j, hj, rfl, hni⟩ := hrel
          by_cases hlj : j < s.size
          · obtain ⟨h1, h2⟩ := below_test k j (by omega) (by omega)
            clear h1
            obtain ⟨x, hx⟩ : ∃ x, (k &&& j == k) = x := ⟨_, rfl⟩
            rw [hx] at h2
            have HX := Lib.hid hx
            have go_on : ∀ v : Bool, bad s k j = v → v = false → Hid (∀ m, m < j + 1 → bad s k m = false) := fun v e1 e2 m hm => by
              by_cases e : m = j
              · subst e; rw [e1, e2]
              · exact hni.out m (by omega)
            have HK := Lib.hid (HBY.out k hlt)
            have HJ := Lib.hid (HBY.out j hlj)
            cases x
            · have HN := go_on _ rfl (by unfold bad; rw [HX.out]; rfl)
              clear go_on hx
              go_wp2_with fail
              go_round
              case rel => exact ⟨j + 1, by omega, by go_num, HN⟩
              case measure => simp [intOf]; omega
            · clear hx
              rcases HK.out with ⟨dk, ek⟩ | ⟨dk, ek⟩
              · have HN := go_on _ rfl (by unfold bad; rw [dk]; simp)
                clear go_on dk
                go_wp2_with fail
                go_round
                case rel => exact ⟨j + 1, by omega, by go_num, HN⟩
                case measure => simp [intOf]; omega
              · rcases HJ.out with ⟨dj, ej⟩ | ⟨dj, ej⟩
                · have HF : Hid (monoV s = false) := mono_false hlt hlj (by unfold bad; rw [HX.out, dk, dj]; rfl)
                  clear go_on dk dj
                  go_wp2_with fail
                  go_ret
                  exact ⟨by rw [HF.out]; rfl, rfl⟩
                · have HN := go_on _ rfl (by unfold bad; rw [dj]; simp)
                  clear go_on dk dj
                  go_wp2_with fail
                  go_round
                  case rel => exact ⟨j + 1, by omega, by go_num, HN⟩
                  case measure => simp [intOf]; omega
          · obtain rfl : j = s.size := by omega
            have HN : Hid (∀ n, n < k + 1 → ∀ m, m < s.size → bad s n m = false) := fun n hn m hm => by
              by_cases e : n = k
              · subst e; exact hni.out m hm
              · exact hno.out n (by omega) m hm
            go_wp2_with fail
            go_round
            case rel => exact ⟨k + 1, by omega, by go_num, HN⟩
            case measure => simp [intOf]; omega
      · obtain rfl : k = s.size := by omega
        have HR : Hid (monoV s = true) := mono_true hno.out
        go_wp2_with fail
        refine (HT.out _).mono ?_
        rintro e w' ⟨rfl, rfl⟩
        go_wp2_with fail
        go_ret
        exact ⟨by rw [HR.out]; rfl, rfl⟩
  · have htv : tabV s = false := by unfold tabV; rw [hw]; rfl
    rw [htv] at HT
    rw [htv, Bool.false_and]
    clear htv hw
    by_cases h0 : 0 < s.size
    · go_enter Tryd.func15, Tryd.ntmps15
      go_wp2_with fail
      go_loop [3] (fun i => i = .int .i64 0) (fun i => 0)
      case atStart => rfl
      case round =>
        obtain rfl := hrel
        go_wp2_with fail
        refine (HT.out _).mono ?_
        rintro e w' ⟨rfl, rfl⟩
        go_wp2_with fail
        refine (HT.out _).mono ?_
        rintro e w' ⟨rfl, rfl⟩
        go_wp2_with fail
        go_ret
        exact ⟨rfl, rfl⟩
    · have h00 : s.size = 0 := by omega
      clear h0
      go_enter Tryd.func15, Tryd.ntmps15
      go_wp2_with fail
      go_loop [3] (fun i => i = .int .i64 0) (fun i => 0)
      case atStart => rfl
      case round =>
        obtain rfl := hrel
        go_wp2_with fail
        refine (HT.out _).mono ?_
        rintro e w' ⟨rfl, rfl⟩
        go_wp2_with fail
        go_ret
        exact ⟨rfl, rfl⟩
end Go.Proofs.YtbhkfibbepocfaaDoor.Mono
