/-
  The table of a formula, of both sides.
-/
import Derived.Test.YtbhkfibbepocfaaDoorFmMeth
import Derived.Test.YtbhkfibbepocfaaDoorFmParts
import Derived.Test.YtbhkfibbepocfaaDoorFmRow
namespace Go.Proofs.YtbhkfibbepocfaaDoor.FmTab
open Go.RowKit Go.Shelf Go.Proofs.YtbhkfibbepocfaaDoor.Plain Go.Proofs.YtbhkfibbepocfaaDoor.Pat Go.Proofs.YtbhkfibbepocfaaDoor.Fm Go.Proofs.YtbhkfibbepocfaaDoor.FmB Go.Proofs.YtbhkfibbepocfaaDoor.Rect Go.Proofs.YtbhkfibbepocfaaDoor.FmRead Go.Proofs.YtbhkfibbepocfaaDoor.FmNo Go.Proofs.YtbhkfibbepocfaaDoor.FmSaid Go.Proofs.YtbhkfibbepocfaaDoor.FmParts Go.Proofs.YtbhkfibbepocfaaDoor.FmMeth Go.Proofs.YtbhkfibbepocfaaDoor.FmRow Go.Proofs.YtbhkfibbepocfaaDoor.Base
set_option linter.unusedVariables false
set_option linter.unusedSimpArgs false

def tabL (f : F) (k : Nat) : List UInt8 := (List.range k).map fun n => dig (val f n)
theorem tabL_zero (f : F) : tabL f 0 = [] := rfl
theorem tabL_succ (f : F) (k : Nat) : tabL f (k + 1) = tabL f k ++ [dig (val f k)] := by simp [tabL, List.range_succ]
theorem tabL_length (f : F) (k : Nat) : (tabL f k).length = k := by simp [tabL]
theorem tab_eq (f : F) (b N : Nat) (h : 2 ^ b = N) : tabB f b = tabL f N := by unfold tabB tabL; rw [h]
theorem str_next (f : F) (k : Nat) : str (tabL f k) ++ ⟨#[dig (val f k)]⟩ = str (tabL f (k + 1)) := by rw [str_one, str_append, tabL_succ]

set_option maxHeartbeats 2000000 in
set_option maxRecDepth 100000 in
theorem table1 (t : F) (hw : wf 3 t) (hl : (text t).length ≤ 2000) (w : World) :
    Calls Tryd.prog 26 #[.string (str (text t)), .int .i64 1] w fun e w' => e = .returned (.string (str (tabL t 2))) ∧ Below w.heap.size w w' := by
  have HT : Hid (∀ n : Nat, n < 8 → ∀ W, Calls Tryd.prog 40 #[.string (str (text t)), .int .i64 (n : Int)] W fun e w' => e = .returned (.bool (val t n)) ∧ Below W.heap.size W w') := fun n hn W => said_true n hn t hw hl W
  generalize str (text t) = s at *
  clear hw hl
  go_enter Tryd.func26, Tryd.ntmps26
  go_wp2_with fail
  go_loopw [5, 6] (fun o i wr => ∃ (k : Nat) (q : ByteArray), k ≤ 2 ∧ o = .string q ∧ Hid (q = str (tabL t k)) ∧ i = .int .i64 (k : Int) ∧ Below w.heap.size w wr) (fun _ i _ => 2 - (intOf i).toNat)
  case atStart => exact ⟨0, _, by omega, rfl, rfl, rfl, Below.refl _ _⟩
  case round =>
    obtain ⟨k, q, hk, rfl, hq, rfl, hb⟩ := hrel
    have HB := Lib.hid hb
    clear hb
    by_cases hlt : k < 2
    · have HC := Lib.hid (HT.out k (by omega))
      have hsz : q.size + 1 ≤ 9223372036854775807 := by rw [hq.out, str_size, tabL_length]; omega
      have hcat := fun W d => run_string_add_sum (P := Tryd.prog) (w := W) q ⟨#[dig d]⟩ hsz
      obtain ⟨d, hd⟩ : ∃ d, val t k = d := ⟨_, rfl⟩
      have HQ : Hid (q ++ ⟨#[dig d]⟩ = str (tabL t (k + 1))) := by unfold Hid; rw [hq.out, ← hd]; exact str_next t k
      rw [hd] at HC
      replace hcat := fun W => hcat W d
      clear hd hq hsz
      go_wp2_with fail
      refine (HC.out _).mono ?_
      rintro e w1 ⟨rfl, hb1⟩
      have HB1 := Lib.hid (HB.out.trans (hb1.mono HB.out.size))
      clear hb1 HB HC
      go_wp2_with fail
      refine (l1Bit_any d _).mono ?_
      rintro e w2 ⟨rfl, rfl⟩
      go_wp2_with fail
      go_roundw
      case rel => exact ⟨k + 1, _, by omega, rfl, HQ.out, by go_num, HB1.out⟩
      case measure => simp [intOf]; omega
    · obtain rfl : k = 2 := by omega
      go_wp2_with fail
      go_ret
      exact ⟨by rw [← hq.out]; rfl, HB.out⟩
set_option maxHeartbeats 2000000 in
set_option maxRecDepth 100000 in
theorem table2 (t : F) (hw : wf 3 t) (hl : (text t).length ≤ 2000) (w : World) :
    Calls Tryd.prog 26 #[.string (str (text t)), .int .i64 2] w fun e w' => e = .returned (.string (str (tabL t 4))) ∧ Below w.heap.size w w' := by
  have HT : Hid (∀ n : Nat, n < 8 → ∀ W, Calls Tryd.prog 40 #[.string (str (text t)), .int .i64 (n : Int)] W fun e w' => e = .returned (.bool (val t n)) ∧ Below W.heap.size W w') := fun n hn W => said_true n hn t hw hl W
  generalize str (text t) = s at *
  clear hw hl
  go_enter Tryd.func26, Tryd.ntmps26
  go_wp2_with fail
  go_loopw [5, 6] (fun o i wr => ∃ (k : Nat) (q : ByteArray), k ≤ 4 ∧ o = .string q ∧ Hid (q = str (tabL t k)) ∧ i = .int .i64 (k : Int) ∧ Below w.heap.size w wr) (fun _ i _ => 4 - (intOf i).toNat)
  case atStart => exact ⟨0, _, by omega, rfl, rfl, rfl, Below.refl _ _⟩
  case round =>
    obtain ⟨k, q, hk, rfl, hq, rfl, hb⟩ := hrel
    have HB := Lib.hid hb
    clear hb
    by_cases hlt : k < 4
    · have HC := Lib.hid (HT.out k (by omega))
      have hsz : q.size + 1 ≤ 9223372036854775807 := by rw [hq.out, str_size, tabL_length]; omega
      have hcat := fun W d => run_string_add_sum (P := Tryd.prog) (w := W) q ⟨#[dig d]⟩ hsz
      obtain ⟨d, hd⟩ : ∃ d, val t k = d := ⟨_, rfl⟩
      have HQ : Hid (q ++ ⟨#[dig d]⟩ = str (tabL t (k + 1))) := by unfold Hid; rw [hq.out, ← hd]; exact str_next t k
      rw [hd] at HC
      replace hcat := fun W => hcat W d
      clear hd hq hsz
      go_wp2_with fail
      refine (HC.out _).mono ?_
      rintro e w1 ⟨rfl, hb1⟩
      have HB1 := Lib.hid (HB.out.trans (hb1.mono HB.out.size))
      clear hb1 HB HC
      go_wp2_with fail
      refine (l1Bit_any d _).mono ?_
      rintro e w2 ⟨rfl, rfl⟩
      go_wp2_with fail
      go_roundw
      case rel => exact ⟨k + 1, _, by omega, rfl, HQ.out, by go_num, HB1.out⟩
      case measure => simp [intOf]; omega
    · obtain rfl : k = 4 := by omega
      go_wp2_with fail
      go_ret
      exact ⟨by rw [← hq.out]; rfl, HB.out⟩
set_option maxHeartbeats 2000000 in
set_option maxRecDepth 100000 in
theorem table3 (t : F) (hw : wf 3 t) (hl : (text t).length ≤ 2000) (w : World) :
    Calls Tryd.prog 26 #[.string (str (text t)), .int .i64 3] w fun e w' => e = .returned (.string (str (tabL t 8))) ∧ Below w.heap.size w w' := by
  have HT : Hid (∀ n : Nat, n < 8 → ∀ W, Calls Tryd.prog 40 #[.string (str (text t)), .int .i64 (n : Int)] W fun e w' => e = .returned (.bool (val t n)) ∧ Below W.heap.size W w') := fun n hn W => said_true n hn t hw hl W
  generalize str (text t) = s at *
  clear hw hl
  go_enter Tryd.func26, Tryd.ntmps26
  go_wp2_with fail
  go_loopw [5, 6] (fun o i wr => ∃ (k : Nat) (q : ByteArray), k ≤ 8 ∧ o = .string q ∧ Hid (q = str (tabL t k)) ∧ i = .int .i64 (k : Int) ∧ Below w.heap.size w wr) (fun _ i _ => 8 - (intOf i).toNat)
  case atStart => exact ⟨0, _, by omega, rfl, rfl, rfl, Below.refl _ _⟩
  case round =>
    obtain ⟨k, q, hk, rfl, hq, rfl, hb⟩ := hrel
    have HB := Lib.hid hb
    clear hb
    by_cases hlt : k < 8
    · have HC := Lib.hid (HT.out k (by omega))
      have hsz : q.size + 1 ≤ 9223372036854775807 := by rw [hq.out, str_size, tabL_length]; omega
      have hcat := fun W d => run_string_add_sum (P := Tryd.prog) (w := W) q ⟨#[dig d]⟩ hsz
      obtain ⟨d, hd⟩ : ∃ d, val t k = d := ⟨_, rfl⟩
      have HQ : Hid (q ++ ⟨#[dig d]⟩ = str (tabL t (k + 1))) := by unfold Hid; rw [hq.out, ← hd]; exact str_next t k
      rw [hd] at HC
      replace hcat := fun W => hcat W d
      clear hd hq hsz
      go_wp2_with fail
      refine (HC.out _).mono ?_
      rintro e w1 ⟨rfl, hb1⟩
      have HB1 := Lib.hid (HB.out.trans (hb1.mono HB.out.size))
      clear hb1 HB HC
      go_wp2_with fail
      refine (l1Bit_any d _).mono ?_
      rintro e w2 ⟨rfl, rfl⟩
      go_wp2_with fail
      go_roundw
      case rel => exact ⟨k + 1, _, by omega, rfl, HQ.out, by go_num, HB1.out⟩
      case measure => simp [intOf]; omega
    · obtain rfl : k = 8 := by omega
      go_wp2_with fail
      go_ret
      exact ⟨by rw [← hq.out]; rfl, HB.out⟩
theorem said_table (b N : Nat) (hb1 : 1 ≤ b) (hb3 : b ≤ 3) (hN : 2 ^ b = N) (t : F) (hw : wf 3 t) (hl : (text t).length ≤ 2000) (w : World) :
    Calls Tryd.prog 26 #[.string (str (text t)), .int .i64 (b : Int)] w fun e w' => e = .returned (.string (str (tabL t N))) ∧ Below w.heap.size w w' := by
  have h : b = 1 ∨ b = 2 ∨ b = 3 := by omega
  subst hN
  rcases h with rfl | rfl | rfl
  · exact table1 t hw hl w
  · exact table2 t hw hl w
  · exact table3 t hw hl w

theorem bit_of_set (f : F) (j : Nat) (hj : j < 8) : (setB (val f) 8).testBit j = val f j := by
  rw [setB_bit, decide_eq_true hj, Bool.true_and]
theorem make1 (w : World) : (Instr.makeSlice 22 (.int .i64 2) (.int .i64 2)).run Tryd.prog w = .ok (.slice (some ⟨w.heap.size, 0, none⟩) 2 2) (w.alloc (.cells #[.int .u8 0, .int .u8 0] 5)) := by kernel_rfl
set_option maxHeartbeats 2000000 in
set_option maxRecDepth 100000 in
theorem impl_tab1 (s : ByteArray) (t : F) (hw : wf 1 t) (h : s.data.toList = text t) (hs : s.size ≤ 200) (w : World) :
    Calls Tryd.prog 9 #[.string s, .int .i64 1] w fun e w' => e = .returned (.tuple #[.string (str (tabL t 2)), .bool true]) ∧ Below w.heap.size w w' := by
  have HT : Hid (∀ W, Calls Tryd.prog 22 #[.string s, .int .i64 1] W fun e w' => e = .returned (tree t) ∧ Below W.heap.size W w') := tree_yes 1 (by omega) (by omega) s t hw h hs
  have hC := tru_to t (wf_mono (by omega) t hw)
  unfold TruC at hC
  have hz : setB (val t) 8 < 256 := setB_lt8 _ 8 (Nat.le_refl _)
  have HIS : Hid (∀ j : Nat, j < 8 → ∀ W, Calls Tryd.prog 24 #[.int .i64 ((setB (val t) 8 : Nat) : Int), .int .i64 (j : Int)] W fun e w' => e = .returned (.bool (val t j)) ∧ W = w') := fun j hj W => by
    rw [← bit_of_set t j hj]; exact inSet_yes _ j hz hj W
  generalize setB (val t) 8 = z at *
  have hmk := make1
  clear h hs hw
  rcases hC with ⟨V, ev, hv⟩ | ⟨V, ev, hv⟩
  all_goals
    have HC := Lib.hid hv
    rw [ev] at HT
    clear ev hv
    go_enter Tryd.func9, Tryd.ntmps9
    go_wp2_with fail
    refine (HT.out _).mono ?_
    rintro e w1 ⟨rfl, hb1⟩
    have HB1 := Lib.hid hb1
    clear hb1
    go_wp2_with fail
    refine (HC.out _).mono ?_
    rintro e w2 ⟨rfl, hb2⟩
    have HB2 := Lib.hid (HB1.out.trans (hb2.mono HB1.out.size))
    clear hb2 HB1 HC HT
    go_wp2_with fail
    obtain ⟨B, hB⟩ : ∃ B, w2.heap.size = B := ⟨_, rfl⟩
    have HR0 : Hid (Rw (w2.alloc (.cells #[.int .u8 0, .int .u8 0] 5)) B 2 (fun _ => 0)) := by
      unfold Hid; rw [← hB]; exact Rw.zeros w2 _ _ 2 (fun j hj => by
        have : j < 2 := hj
        have h8 : j = 0 ∨ j = 1 := by omega
        rcases h8 with rfl | rfl <;> rfl)
    have HB3 : Hid (Below w.heap.size w (w2.alloc (.cells #[.int .u8 0, .int .u8 0] 5))) := HB2.out.alloc HB2.out.size _
    have hBw : w.heap.size ≤ B := by rw [← hB]; exact HB2.out.size
    rw [hB]
    generalize w2.alloc (.cells #[.int .u8 0, .int .u8 0] 5) = w3 at *
    clear HB2 hB hmk
    go_loopw [22] (fun i wr => ∃ (k : Nat), k ≤ 2 ∧ i = .int .i64 (k : Int) ∧ Rw wr B 2 (fun j => if j < k then dig (val t j) else 0) ∧ Below w.heap.size w wr) (fun i _ => 2 - (intOf i).toNat)
    case atStart => exact ⟨0, by omega, rfl, HR0.out.same (fun j _ => by simp), HB3.out⟩
    case round =>
      obtain ⟨k, hk, rfl, hr, hb⟩ := hrel
      have HR := Lib.hid hr
      have HB := Lib.hid hb
      clear hr hb
      by_cases hlt : k < 2
      · have HI := Lib.hid (HIS.out k (by omega))
        have c0 := HR.out.cell k hlt
        have f0 := HR.out.free k hlt
        obtain ⟨d, hd⟩ : ∃ d, val t k = d := ⟨_, rfl⟩
        rw [hd] at HI
        have HD := Lib.hid hd
        clear hd
        have HN : Hid (Rw (wr.setCell ⟨B, k, none⟩ (.int .u8 ((dig d).toNat : Int))) B 2 (fun j => if j < k + 1 then dig (val t j) else 0)) :=
          (HR.out.set k hlt (dig d)).same (fun j _ => by
            unfold upd
            by_cases e : j = k
            · subst e; rw [if_pos rfl, if_pos (by omega), HD.out]
            · rw [if_neg e]
              show (if j < k then dig (val t j) else (0 : UInt8)) = _
              by_cases e2 : j < k
              · rw [if_pos e2, if_pos (by omega)]
              · rw [if_neg e2, if_neg (by omega)])
        have HBN : Hid (Below w.heap.size w (wr.setCell ⟨B, k, none⟩ (.int .u8 ((dig d).toNat : Int)))) := HB.out.setCell hBw _
        go_wp2_with fail
        refine (HI.out _).mono ?_
        rintro e w' ⟨rfl, rfl⟩
        go_wp2_with fail
        refine (bitOf_any d _).mono ?_
        rintro e w' ⟨rfl, rfl⟩
        cases d
        · rw [bitI_false]
          go_wp2_with fail
          go_roundw
          case rel => exact ⟨k + 1, by omega, by go_num, HN.out, HBN.out⟩
          case measure => simp [intOf]; omega
        · rw [bitI_true]
          go_wp2_with fail
          go_roundw
          case rel => exact ⟨k + 1, by omega, by go_num, HN.out, HBN.out⟩
          case measure => simp [intOf]; omega
      · obtain rfl : k = 2 := by omega
        have hr2 : Rw wr B 2 (fun j => dig (val t j)) := HR.out.same (fun j hj => by rw [if_pos hj])
        have hcv : ∀ cap, (convert 22 9 (.slice (some ⟨B, 0, none⟩) 2 cap)).run Tryd.prog wr = .ok (.string (str (tabL t 2))) wr := fun cap => hr2.conv
        obtain ⟨res, hres⟩ : ∃ res, str (tabL t 2) = res := ⟨_, rfl⟩
        rw [hres] at hcv
        have HRES := Lib.hid hres
        clear hr2 hres
        go_wp2_with fail
        go_returns
        exact ⟨by rw [HRES.out]; rfl, HB.out⟩
theorem make2 (w : World) : (Instr.makeSlice 22 (.int .i64 4) (.int .i64 4)).run Tryd.prog w = .ok (.slice (some ⟨w.heap.size, 0, none⟩) 4 4) (w.alloc (.cells #[.int .u8 0, .int .u8 0, .int .u8 0, .int .u8 0] 5)) := by kernel_rfl
set_option maxHeartbeats 2000000 in
set_option maxRecDepth 100000 in
theorem impl_tab2 (s : ByteArray) (t : F) (hw : wf 2 t) (h : s.data.toList = text t) (hs : s.size ≤ 200) (w : World) :
    Calls Tryd.prog 9 #[.string s, .int .i64 2] w fun e w' => e = .returned (.tuple #[.string (str (tabL t 4)), .bool true]) ∧ Below w.heap.size w w' := by
  have HT : Hid (∀ W, Calls Tryd.prog 22 #[.string s, .int .i64 2] W fun e w' => e = .returned (tree t) ∧ Below W.heap.size W w') := tree_yes 2 (by omega) (by omega) s t hw h hs
  have hC := tru_to t (wf_mono (by omega) t hw)
  unfold TruC at hC
  have hz : setB (val t) 8 < 256 := setB_lt8 _ 8 (Nat.le_refl _)
  have HIS : Hid (∀ j : Nat, j < 8 → ∀ W, Calls Tryd.prog 24 #[.int .i64 ((setB (val t) 8 : Nat) : Int), .int .i64 (j : Int)] W fun e w' => e = .returned (.bool (val t j)) ∧ W = w') := fun j hj W => by
    rw [← bit_of_set t j hj]; exact inSet_yes _ j hz hj W
  generalize setB (val t) 8 = z at *
  have hmk := make2
  clear h hs hw
  rcases hC with ⟨V, ev, hv⟩ | ⟨V, ev, hv⟩
  all_goals
    have HC := Lib.hid hv
    rw [ev] at HT
    clear ev hv
    go_enter Tryd.func9, Tryd.ntmps9
    go_wp2_with fail
    refine (HT.out _).mono ?_
    rintro e w1 ⟨rfl, hb1⟩
    have HB1 := Lib.hid hb1
    clear hb1
    go_wp2_with fail
    refine (HC.out _).mono ?_
    rintro e w2 ⟨rfl, hb2⟩
    have HB2 := Lib.hid (HB1.out.trans (hb2.mono HB1.out.size))
    clear hb2 HB1 HC HT
    go_wp2_with fail
    obtain ⟨B, hB⟩ : ∃ B, w2.heap.size = B := ⟨_, rfl⟩
    have HR0 : Hid (Rw (w2.alloc (.cells #[.int .u8 0, .int .u8 0, .int .u8 0, .int .u8 0] 5)) B 4 (fun _ => 0)) := by
      unfold Hid; rw [← hB]; exact Rw.zeros w2 _ _ 4 (fun j hj => by
        have : j < 4 := hj
        have h8 : j = 0 ∨ j = 1 ∨ j = 2 ∨ j = 3 := by omega
        rcases h8 with rfl | rfl | rfl | rfl <;> rfl)
    have HB3 : Hid (Below w.heap.size w (w2.alloc (.cells #[.int .u8 0, .int .u8 0, .int .u8 0, .int .u8 0] 5))) := HB2.out.alloc HB2.out.size _
    have hBw : w.heap.size ≤ B := by rw [← hB]; exact HB2.out.size
    rw [hB]
    generalize w2.alloc (.cells #[.int .u8 0, .int .u8 0, .int .u8 0, .int .u8 0] 5) = w3 at *
    clear HB2 hB hmk
    go_loopw [22] (fun i wr => ∃ (k : Nat), k ≤ 4 ∧ i = .int .i64 (k : Int) ∧ Rw wr B 4 (fun j => if j < k then dig (val t j) else 0) ∧ Below w.heap.size w wr) (fun i _ => 4 - (intOf i).toNat)
    case atStart => exact ⟨0, by omega, rfl, HR0.out.same (fun j _ => by simp), HB3.out⟩
    case round =>
      obtain ⟨k, hk, rfl, hr, hb⟩ := hrel
      have HR := Lib.hid hr
      have HB := Lib.hid hb
      clear hr hb
      by_cases hlt : k < 4
      · have HI := Lib.hid (HIS.out k (by omega))
        have c0 := HR.out.cell k hlt
        have f0 := HR.out.free k hlt
        obtain ⟨d, hd⟩ : ∃ d, val t k = d := ⟨_, rfl⟩
        rw [hd] at HI
        have HD := Lib.hid hd
        clear hd
        have HN : Hid (Rw (wr.setCell ⟨B, k, none⟩ (.int .u8 ((dig d).toNat : Int))) B 4 (fun j => if j < k + 1 then dig (val t j) else 0)) :=
          (HR.out.set k hlt (dig d)).same (fun j _ => by
            unfold upd
            by_cases e : j = k
            · subst e; rw [if_pos rfl, if_pos (by omega), HD.out]
            · rw [if_neg e]
              show (if j < k then dig (val t j) else (0 : UInt8)) = _
              by_cases e2 : j < k
              · rw [if_pos e2, if_pos (by omega)]
              · rw [if_neg e2, if_neg (by omega)])
        have HBN : Hid (Below w.heap.size w (wr.setCell ⟨B, k, none⟩ (.int .u8 ((dig d).toNat : Int)))) := HB.out.setCell hBw _
        go_wp2_with fail
        refine (HI.out _).mono ?_
        rintro e w' ⟨rfl, rfl⟩
        go_wp2_with fail
        refine (bitOf_any d _).mono ?_
        rintro e w' ⟨rfl, rfl⟩
        cases d
        · rw [bitI_false]
          go_wp2_with fail
          go_roundw
          case rel => exact ⟨k + 1, by omega, by go_num, HN.out, HBN.out⟩
          case measure => simp [intOf]; omega
        · rw [bitI_true]
          go_wp2_with fail
          go_roundw
          case rel => exact ⟨k + 1, by omega, by go_num, HN.out, HBN.out⟩
          case measure => simp [intOf]; omega
      · obtain rfl : k = 4 := by omega
        have hr2 : Rw wr B 4 (fun j => dig (val t j)) := HR.out.same (fun j hj => by rw [if_pos hj])
        have hcv : ∀ cap, (convert 22 9 (.slice (some ⟨B, 0, none⟩) 4 cap)).run Tryd.prog wr = .ok (.string (str (tabL t 4))) wr := fun cap => hr2.conv
        obtain ⟨res, hres⟩ : ∃ res, str (tabL t 4) = res := ⟨_, rfl⟩
        rw [hres] at hcv
        have HRES := Lib.hid hres
        clear hr2 hres
        go_wp2_with fail
        go_returns
        exact ⟨by rw [HRES.out]; rfl, HB.out⟩
theorem make3 (w : World) : (Instr.makeSlice 22 (.int .i64 8) (.int .i64 8)).run Tryd.prog w = .ok (.slice (some ⟨w.heap.size, 0, none⟩) 8 8) (w.alloc (.cells #[.int .u8 0, .int .u8 0, .int .u8 0, .int .u8 0, .int .u8 0, .int .u8 0, .int .u8 0, .int .u8 0] 5)) := by kernel_rfl
set_option maxHeartbeats 2000000 in
set_option maxRecDepth 100000 in
theorem impl_tab3 (s : ByteArray) (t : F) (hw : wf 3 t) (h : s.data.toList = text t) (hs : s.size ≤ 200) (w : World) :
    Calls Tryd.prog 9 #[.string s, .int .i64 3] w fun e w' => e = .returned (.tuple #[.string (str (tabL t 8)), .bool true]) ∧ Below w.heap.size w w' := by
  have HT : Hid (∀ W, Calls Tryd.prog 22 #[.string s, .int .i64 3] W fun e w' => e = .returned (tree t) ∧ Below W.heap.size W w') := tree_yes 3 (by omega) (by omega) s t hw h hs
  have hC := tru_to t (wf_mono (by omega) t hw)
  unfold TruC at hC
  have hz : setB (val t) 8 < 256 := setB_lt8 _ 8 (Nat.le_refl _)
  have HIS : Hid (∀ j : Nat, j < 8 → ∀ W, Calls Tryd.prog 24 #[.int .i64 ((setB (val t) 8 : Nat) : Int), .int .i64 (j : Int)] W fun e w' => e = .returned (.bool (val t j)) ∧ W = w') := fun j hj W => by
    rw [← bit_of_set t j hj]; exact inSet_yes _ j hz hj W
  generalize setB (val t) 8 = z at *
  have hmk := make3
  clear h hs hw
  rcases hC with ⟨V, ev, hv⟩ | ⟨V, ev, hv⟩
  all_goals
    have HC := Lib.hid hv
    rw [ev] at HT
    clear ev hv
    go_enter Tryd.func9, Tryd.ntmps9
    go_wp2_with fail
    refine (HT.out _).mono ?_
    rintro e w1 ⟨rfl, hb1⟩
    have HB1 := Lib.hid hb1
    clear hb1
    go_wp2_with fail
    refine (HC.out _).mono ?_
    rintro e w2 ⟨rfl, hb2⟩
    have HB2 := Lib.hid (HB1.out.trans (hb2.mono HB1.out.size))
    clear hb2 HB1 HC HT
    go_wp2_with fail
    obtain ⟨B, hB⟩ : ∃ B, w2.heap.size = B := ⟨_, rfl⟩
    have HR0 : Hid (Rw (w2.alloc (.cells #[.int .u8 0, .int .u8 0, .int .u8 0, .int .u8 0, .int .u8 0, .int .u8 0, .int .u8 0, .int .u8 0] 5)) B 8 (fun _ => 0)) := by
      unfold Hid; rw [← hB]; exact Rw.zeros w2 _ _ 8 (fun j hj => by
        have : j < 8 := hj
        have h8 : j = 0 ∨ j = 1 ∨ j = 2 ∨ j = 3 ∨ j = 4 ∨ j = 5 ∨ j = 6 ∨ j = 7 := by omega
        rcases h8 with rfl | rfl | rfl | rfl | rfl | rfl | rfl | rfl <;> rfl)
    have HB3 : Hid (Below w.heap.size w (w2.alloc (.cells #[.int .u8 0, .int .u8 0, .int .u8 0, .int .u8 0, .int .u8 0, .int .u8 0, .int .u8 0, .int .u8 0] 5))) := HB2.out.alloc HB2.out.size _
    have hBw : w.heap.size ≤ B := by rw [← hB]; exact HB2.out.size
    rw [hB]
    generalize w2.alloc (.cells #[.int .u8 0, .int .u8 0, .int .u8 0, .int .u8 0, .int .u8 0, .int .u8 0, .int .u8 0, .int .u8 0] 5) = w3 at *
    clear HB2 hB hmk
    go_loopw [22] (fun i wr => ∃ (k : Nat), k ≤ 8 ∧ i = .int .i64 (k : Int) ∧ Rw wr B 8 (fun j => if j < k then dig (val t j) else 0) ∧ Below w.heap.size w wr) (fun i _ => 8 - (intOf i).toNat)
    case atStart => exact ⟨0, by omega, rfl, HR0.out.same (fun j _ => by simp), HB3.out⟩
    case round =>
      obtain ⟨k, hk, rfl, hr, hb⟩ := hrel
      have HR := Lib.hid hr
      have HB := Lib.hid hb
      clear hr hb
      by_cases hlt : k < 8
      · have HI := Lib.hid (HIS.out k (by omega))
        have c0 := HR.out.cell k hlt
        have f0 := HR.out.free k hlt
        obtain ⟨d, hd⟩ : ∃ d, val t k = d := ⟨_, rfl⟩
        rw [hd] at HI
        have HD := Lib.hid hd
        clear hd
        have HN : Hid (Rw (wr.setCell ⟨B, k, none⟩ (.int .u8 ((dig d).toNat : Int))) B 8 (fun j => if j < k + 1 then dig (val t j) else 0)) :=
          (HR.out.set k hlt (dig d)).same (fun j _ => by
            unfold upd
            by_cases e : j = k
            · subst e; rw [if_pos rfl, if_pos (by omega), HD.out]
            · rw [if_neg e]
              show (if j < k then dig (val t j) else (0 : UInt8)) = _
              by_cases e2 : j < k
              · rw [if_pos e2, if_pos (by omega)]
              · rw [if_neg e2, if_neg (by omega)])
        have HBN : Hid (Below w.heap.size w (wr.setCell ⟨B, k, none⟩ (.int .u8 ((dig d).toNat : Int)))) := HB.out.setCell hBw _
        go_wp2_with fail
        refine (HI.out _).mono ?_
        rintro e w' ⟨rfl, rfl⟩
        go_wp2_with fail
        refine (bitOf_any d _).mono ?_
        rintro e w' ⟨rfl, rfl⟩
        cases d
        · rw [bitI_false]
          go_wp2_with fail
          go_roundw
          case rel => exact ⟨k + 1, by omega, by go_num, HN.out, HBN.out⟩
          case measure => simp [intOf]; omega
        · rw [bitI_true]
          go_wp2_with fail
          go_roundw
          case rel => exact ⟨k + 1, by omega, by go_num, HN.out, HBN.out⟩
          case measure => simp [intOf]; omega
      · obtain rfl : k = 8 := by omega
        have hr2 : Rw wr B 8 (fun j => dig (val t j)) := HR.out.same (fun j hj => by rw [if_pos hj])
        have hcv : ∀ cap, (convert 22 9 (.slice (some ⟨B, 0, none⟩) 8 cap)).run Tryd.prog wr = .ok (.string (str (tabL t 8))) wr := fun cap => hr2.conv
        obtain ⟨res, hres⟩ : ∃ res, str (tabL t 8) = res := ⟨_, rfl⟩
        rw [hres] at hcv
        have HRES := Lib.hid hres
        clear hr2 hres
        go_wp2_with fail
        go_returns
        exact ⟨by rw [HRES.out]; rfl, HB.out⟩
theorem impl_tab (b N : Nat) (hb1 : 1 ≤ b) (hb3 : b ≤ 3) (hN : 2 ^ b = N) (s : ByteArray) (t : F) (hw : wf b t) (h : s.data.toList = text t) (hs : s.size ≤ 200) (w : World) :
    Calls Tryd.prog 9 #[.string s, .int .i64 (b : Int)] w fun e w' => e = .returned (.tuple #[.string (str (tabL t N)), .bool true]) ∧ Below w.heap.size w w' := by
  have h3 : b = 1 ∨ b = 2 ∨ b = 3 := by omega
  subst hN
  rcases h3 with rfl | rfl | rfl
  · exact impl_tab1 s t hw h hs w
  · exact impl_tab2 s t hw h hs w
  · exact impl_tab3 s t hw h hs w
set_option maxHeartbeats 1000000 in
theorem impl_no (s : ByteArray) (b : Int) (hno : ∀ W, Calls Tryd.prog 22 #[.string s, .int .i64 b] W fun e w' => e = .returned .nilIface ∧ Below W.heap.size W w') (w : World) :
    Calls Tryd.prog 9 #[.string s, .int .i64 b] w fun e w' => e = .returned (.tuple #[.string (str []), .bool false]) ∧ Below w.heap.size w w' := by
  have HT := Lib.hid hno
  clear hno
  go_enter Tryd.func9, Tryd.ntmps9
  go_wp2_with fail
  refine (HT.out _).mono ?_
  rintro e w1 ⟨rfl, hb1⟩
  have HB := Lib.hid hb1
  clear hb1
  go_wp2_with fail
  go_returns
  exact ⟨rfl, HB.out⟩
set_option maxHeartbeats 1000000 in
theorem spec_yes (b N : Nat) (hb1 : 1 ≤ b) (hb3 : b ≤ 3) (hN : 2 ^ b = N) (s : ByteArray) (t : F) (hw : wf b t) (h : s.data.toList = text t) (hs : s.size ≤ 200)
    (hV : ∀ W, Calls Tryd.prog 25 #[.string s, .int .i64 (b : Int)] W fun e w' => e = .returned (.bool true) ∧ W = w') (w : World) :
    Calls Tryd.prog 10 #[.string s, .int .i64 (b : Int)] w fun e w' => e = .returned (.tuple #[.string (str (tabL t N)), .bool true]) ∧ Below w.heap.size w w' := by
  have HV := Lib.hid hV
  have hl : (text t).length = s.size := by rw [← h]; simp
  have HL := Lib.hid (said_table b N hb1 hb3 hN t (wf_mono hb3 t hw) (by omega))
  have e : s = str (text t) := eq_str h
  rw [← e] at HL
  generalize str (tabL t N) = q at *
  clear h e hl hw hV hN
  go_enter Tryd.func10, Tryd.ntmps10
  go_wp2_with fail
  refine (HV.out _).mono ?_
  rintro e w1 ⟨rfl, rfl⟩
  go_wp2_with fail
  refine (HL.out _).mono ?_
  rintro e w2 ⟨rfl, hb⟩
  have HB := Lib.hid hb
  clear hb
  go_wp2_with fail
  go_returns
  exact ⟨rfl, HB.out⟩
set_option maxHeartbeats 1000000 in
theorem spec_no (s : ByteArray) (b : Int) (hV : ∀ W, Calls Tryd.prog 25 #[.string s, .int .i64 b] W fun e w' => e = .returned (.bool false) ∧ W = w') (w : World) :
    Calls Tryd.prog 10 #[.string s, .int .i64 b] w fun e w' => e = .returned (.tuple #[.string (str []), .bool false]) ∧ Below w.heap.size w w' := by
  have HV := Lib.hid hV
  clear hV
  go_enter Tryd.func10, Tryd.ntmps10
  go_wp2_with fail
  refine (HV.out _).mono ?_
  rintro e w1 ⟨rfl, rfl⟩
  go_wp2_with fail
  go_returns
  exact ⟨rfl, Below.refl _ _⟩
/-- what both answer of a text and a number of bits -/
def tabAns (s : ByteArray) (b : Int) (q : ByteArray) (v : Bool) : Prop :=
  (v = true ∧ ∃ (n : Nat) (t : F), b = n ∧ 1 ≤ n ∧ n ≤ 3 ∧ wf n t ∧ s.data.toList = text t ∧ s.size ≤ 200 ∧ q = str (tabL t (2 ^ n))) ∨ (v = false ∧ q = str [] ∧ ¬ ((1 ≤ b ∧ b ≤ 3) ∧ Ok b.toNat s))
theorem both (s : ByteArray) (hs : s.size ≤ 1048576) (b : Int) : ∃ (q : ByteArray) (v : Bool), tabAns s b q v ∧ (∀ w, Calls Tryd.prog 10 #[.string s, .int .i64 b] w fun e w' => e = .returned (.tuple #[.string q, .bool v]) ∧ Below w.heap.size w w') ∧
    (∀ w, Calls Tryd.prog 9 #[.string s, .int .i64 b] w fun e w' => e = .returned (.tuple #[.string q, .bool v]) ∧ Below w.heap.size w w') := by
  obtain ⟨v, hv, hS, hI⟩ := said_valid s hs b
  by_cases h : (1 ≤ b ∧ b ≤ 3) ∧ Ok b.toNat s
  · have hvt : v = true := hv.2 h
    subst hvt
    obtain ⟨hb, hl, t, hw, ht⟩ := h
    obtain ⟨n, rfl⟩ : ∃ n : Nat, b = n := ⟨b.toNat, by omega⟩
    have hw2 : wf n t := by simpa using hw
    exact ⟨_, true, .inl ⟨rfl, n, t, rfl, by omega, by omega, hw2, ht, hl, rfl⟩, spec_yes n (2 ^ n) (by omega) (by omega) rfl s t hw2 ht hl hS, impl_tab n (2 ^ n) (by omega) (by omega) rfl s t hw2 ht hl⟩
  · have hvf : v = false := by cases v with | false => rfl | true => exact absurd (hv.1 rfl) h
    subst hvf
    refine ⟨_, false, .inr ⟨rfl, rfl, h⟩, spec_no s b hS, impl_no s b ?_⟩
    by_cases hb : 1 ≤ b ∧ b ≤ 3
    · obtain ⟨n, rfl⟩ : ∃ n : Nat, b = n := ⟨b.toNat, by omega⟩
      exact tree_no n (by omega) (by omega) s (fun ho => h ⟨hb, by simpa using ho⟩) hs
    · exact tree_bad s hs b (by omega)
end Go.Proofs.YtbhkfibbepocfaaDoor.FmTab
