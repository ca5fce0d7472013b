/-
  Texts of one seat, joined: FmTab, GTree.
-/
import Derived.Test.YtbccachkkflceaaGreatDoorJn1
import Derived.Test.YtbccachkkflceaaGreatDoorJn10
import Derived.Test.YtbccachkkflceaaGreatDoorJn11
import Derived.Test.YtbccachkkflceaaGreatDoorJn16
import Derived.Lib.IndexLaws
import Derived.Lib.IndexAny
/-
  The table of a formula, of both sides.
-/
namespace Go.Proofs.YtbccachkkflceaaGreatDoor.FmTab
open Go.RowKit Go.Shelf Go.Proofs.YtbccachkkflceaaGreatDoor.Plain Go.Proofs.YtbccachkkflceaaGreatDoor.Pat Go.Proofs.YtbccachkkflceaaGreatDoor.Fm Go.Proofs.YtbccachkkflceaaGreatDoor.FmB Go.Proofs.YtbccachkkflceaaGreatDoor.Rect Go.Proofs.YtbccachkkflceaaGreatDoor.FmRead Go.Proofs.YtbccachkkflceaaGreatDoor.FmNo Go.Proofs.YtbccachkkflceaaGreatDoor.FmSaid Go.Proofs.YtbccachkkflceaaGreatDoor.FmParts Go.Proofs.YtbccachkkflceaaGreatDoor.FmMeth Go.Proofs.YtbccachkkflceaaGreatDoor.FmRow Go.Proofs.YtbccachkkflceaaGreatDoor.Base
set_option linter.unusedVariables false
set_option linter.unusedSimpArgs false

def tabL (f : F) (k : Nat) : List UInt8 := (List.range k).map fun n => dig (val f n)
theorem tabL_zero (f : F) : tabL f 0 = [] := rfl
theorem tabL_succ (f : F) (k : Nat) : tabL f (k + 1) = tabL f k ++ [dig (val f k)] := by simp [tabL, List.range_succ]
theorem tabL_length (f : F) (k : Nat) : (tabL f k).length = k := by simp [tabL]
theorem tab_eq (f : F) (b N : Nat) (h : 2 ^ b = N) : tabB f b = tabL f N := by unfold tabB tabL; rw [h]
theorem str_next (f : F) (k : Nat) : str (tabL f k) ++ ⟨#[dig (val f k)]⟩ = str (tabL f (k + 1)) := by rw [str_one, str_append, tabL_succ]

set_option maxHeartbeats 2000000 in
set_option maxRecDepth 100000 in
theorem table1 (t : F) (hw : wf 3 t) (hl : (text t).length ≤ 2000) (w : World) :
    Calls Tryz.prog 61 #[.string (str (text t)), .int .i64 1] w fun e w' => e = .returned (.string (str (tabL t 2))) ∧ Below w.heap.size w w' := by
  have HT : Hid (∀ n : Nat, n < 8 → ∀ W, Calls Tryz.prog 89 #[.string (str (text t)), .int .i64 (n : Int)] W fun e w' => e = .returned (.bool (val t n)) ∧ Below W.heap.size W w') := fun n hn W => said_true n hn t hw hl W
  generalize str (text t) = s at *
  clear hw hl
  go_enter Tryz.func61, Tryz.ntmps61
  go_wp2_with fail
  go_loopw [5, 6] (fun o i wr => ∃ (k : Nat) (q : ByteArray), k ≤ 2 ∧ o = .string q ∧ Hid (q = str (tabL t k)) ∧ i = .int .i64 (k : Int) ∧ Below w.heap.size w wr) (fun _ i _ => 2 - (intOf i).toNat)
  case atStart => exact ⟨0, _, by omega, rfl, rfl, rfl, Below.refl _ _⟩
  case round =>
    obtain ⟨k, q, hk, rfl, hq, rfl, hb⟩ := hrel
    have HB := Lib.hid hb
    clear hb
    by_cases hlt : k < 2
    · have HC := Lib.hid (HT.out k (by omega))
      have hsz : q.size + 1 ≤ 9223372036854775807 := by rw [hq.out, str_size, tabL_length]; omega
      have hcat := fun W d => run_string_add_sum (P := Tryz.prog) (w := W) q ⟨#[dig d]⟩ hsz
      obtain ⟨d, hd⟩ : ∃ d, val t k = d := ⟨_, rfl⟩
      have HQ : Hid (q ++ ⟨#[dig d]⟩ = str (tabL t (k + 1))) := by unfold Hid; rw [hq.out, ← hd]; exact str_next t k
      rw [hd] at HC
      replace hcat := fun W => hcat W d
      clear hd hq hsz
      go_wp2_with fail
      refine (HC.out _).mono ?_
      rintro e w1 ⟨rfl, hb1⟩
      have HB1 := Lib.hid (HB.out.trans (hb1.mono HB.out.size))
      clear hb1 HB HC
      go_wp2_with fail
      refine (l1Bit_any d _).mono ?_
      rintro e w2 ⟨rfl, rfl⟩
      go_wp2_with fail
      go_roundw
      case rel => exact ⟨k + 1, _, by omega, rfl, HQ.out, by go_num, HB1.out⟩
      case measure => simp [intOf]; omega
    · obtain rfl : k = 2 := by omega
      go_wp2_with fail
      go_ret
      exact ⟨by rw [← hq.out]; rfl, HB.out⟩
set_option maxHeartbeats 2000000 in
set_option maxRecDepth 100000 in
theorem table2 (t : F) (hw : wf 3 t) (hl : (text t).length ≤ 2000) (w : World) :
    Calls Tryz.prog 61 #[.string (str (text t)), .int .i64 2] w fun e w' => e = .returned (.string (str (tabL t 4))) ∧ Below w.heap.size w w' := by
  have HT : Hid (∀ n : Nat, n < 8 → ∀ W, Calls Tryz.prog 89 #[.string (str (text t)), .int .i64 (n : Int)] W fun e w' => e = .returned (.bool (val t n)) ∧ Below W.heap.size W w') := fun n hn W => said_true n hn t hw hl W
  generalize str (text t) = s at *
  clear hw hl
  go_enter Tryz.func61, Tryz.ntmps61
  go_wp2_with fail
  go_loopw [5, 6] (fun o i wr => ∃ (k : Nat) (q : ByteArray), k ≤ 4 ∧ o = .string q ∧ Hid (q = str (tabL t k)) ∧ i = .int .i64 (k : Int) ∧ Below w.heap.size w wr) (fun _ i _ => 4 - (intOf i).toNat)
  case atStart => exact ⟨0, _, by omega, rfl, rfl, rfl, Below.refl _ _⟩
  case round =>
    obtain ⟨k, q, hk, rfl, hq, rfl, hb⟩ := hrel
    have HB := Lib.hid hb
    clear hb
    by_cases hlt : k < 4
    · have HC := Lib.hid (HT.out k (by omega))
      have hsz : q.size + 1 ≤ 9223372036854775807 := by rw [hq.out, str_size, tabL_length]; omega
      have hcat := fun W d => run_string_add_sum (P := Tryz.prog) (w := W) q ⟨#[dig d]⟩ hsz
      obtain ⟨d, hd⟩ : ∃ d, val t k = d := ⟨_, rfl⟩
      have HQ : Hid (q ++ ⟨#[dig d]⟩ = str (tabL t (k + 1))) := by unfold Hid; rw [hq.out, ← hd]; exact str_next t k
      rw [hd] at HC
      replace hcat := fun W => hcat W d
      clear hd hq hsz
      go_wp2_with fail
      refine (HC.out _).mono ?_
      rintro e w1 ⟨rfl, hb1⟩
      have HB1 := Lib.hid (HB.out.trans (hb1.mono HB.out.size))
      clear hb1 HB HC
      go_wp2_with fail
      refine (l1Bit_any d _).mono ?_
      rintro e w2 ⟨rfl, rfl⟩
      go_wp2_with fail
      go_roundw
      case rel => exact ⟨k + 1, _, by omega, rfl, HQ.out, by go_num, HB1.out⟩
      case measure => simp [intOf]; omega
    · obtain rfl : k = 4 := by omega
      go_wp2_with fail
      go_ret
      exact ⟨by rw [← hq.out]; rfl, HB.out⟩
set_option maxHeartbeats 2000000 in
set_option maxRecDepth 100000 in
theorem table3 (t : F) (hw : wf 3 t) (hl : (text t).length ≤ 2000) (w : World) :
    Calls Tryz.prog 61 #[.string (str (text t)), .int .i64 3] w fun e w' => e = .returned (.string (str (tabL t 8))) ∧ Below w.heap.size w w' := by
  have HT : Hid (∀ n : Nat, n < 8 → ∀ W, Calls Tryz.prog 89 #[.string (str (text t)), .int .i64 (n : Int)] W fun e w' => e = .returned (.bool (val t n)) ∧ Below W.heap.size W w') := fun n hn W => said_true n hn t hw hl W
  generalize str (text t) = s at *
  clear hw hl
  go_enter Tryz.func61, Tryz.ntmps61
  go_wp2_with fail
  go_loopw [5, 6] (fun o i wr => ∃ (k : Nat) (q : ByteArray), k ≤ 8 ∧ o = .string q ∧ Hid (q = str (tabL t k)) ∧ i = .int .i64 (k : Int) ∧ Below w.heap.size w wr) (fun _ i _ => 8 - (intOf i).toNat)
  case atStart => exact ⟨0, _, by omega, rfl, rfl, rfl, Below.refl _ _⟩
  case round =>
    obtain ⟨k, q, hk, rfl, hq, rfl, hb⟩ := hrel
    have HB := Lib.hid hb
    clear hb
    by_cases hlt : k < 8
    · have HC := Lib.hid (HT.out k (by omega))
      have hsz : q.size + 1 ≤ 9223372036854775807 := by rw [hq.out, str_size, tabL_length]; omega
      have hcat := fun W d => run_string_add_sum (P := Tryz.prog) (w := W) q ⟨#[dig d]⟩ hsz
      obtain ⟨d, hd⟩ : ∃ d, val t k = d := ⟨_, rfl⟩
      have HQ : Hid (q ++ ⟨#[dig d]⟩ = str (tabL t (k + 1))) := by unfold Hid; rw [hq.out, ← hd]; exact str_next t k
      rw [hd] at HC
      replace hcat := fun W => hcat W d
      clear hd hq hsz
      go_wp2_with fail
      refine (HC.out _).mono ?_
      rintro e w1 ⟨rfl, hb1⟩
      have HB1 := Lib.hid (HB.out.trans (hb1.mono HB.out.size))
      clear hb1 HB HC
      go_wp2_with fail
      refine (l1Bit_any d _).mono ?_
      rintro e w2 ⟨rfl, rfl⟩
      go_wp2_with fail
      go_roundw
      case rel => exact ⟨k + 1, _, by omega, rfl, HQ.out, by go_num, HB1.out⟩
      case measure => simp [intOf]; omega
    · obtain rfl : k = 8 := by omega
      go_wp2_with fail
      go_ret
      exact ⟨by rw [← hq.out]; rfl, HB.out⟩
theorem said_table (b N : Nat) (hb1 : 1 ≤ b) (hb3 : b ≤ 3) (hN : 2 ^ b = N) (t : F) (hw : wf 3 t) (hl : (text t).length ≤ 2000) (w : World) :
    Calls Tryz.prog 61 #[.string (str (text t)), .int .i64 (b : Int)] w fun e w' => e = .returned (.string (str (tabL t N))) ∧ Below w.heap.size w w' := by
  have h : b = 1 ∨ b = 2 ∨ b = 3 := by omega
  subst hN
  rcases h with rfl | rfl | rfl
  · exact table1 t hw hl w
  · exact table2 t hw hl w
  · exact table3 t hw hl w

theorem bit_of_set (f : F) (j : Nat) (hj : j < 8) : (setB (val f) 8).testBit j = val f j := by
  rw [setB_bit, decide_eq_true hj, Bool.true_and]
theorem make1 (w : World) : (Instr.makeSlice 22 (.int .i64 2) (.int .i64 2)).run Tryz.prog w = .ok (.slice (some ⟨w.heap.size, 0, none⟩) 2 2) (w.alloc (.cells #[.int .u8 0, .int .u8 0] 5)) := by kernel_rfl
set_option maxHeartbeats 2000000 in
set_option maxRecDepth 100000 in
theorem impl_tab1 (s : ByteArray) (t : F) (hw : wf 1 t) (h : s.data.toList = text t) (hs : s.size ≤ 200) (w : World) :
    Calls Tryz.prog 8 #[.string s, .int .i64 1] w fun e w' => e = .returned (.tuple #[.string (str (tabL t 2)), .bool true]) ∧ Below w.heap.size w w' := by
  have HT : Hid (∀ W, Calls Tryz.prog 21 #[.string s, .int .i64 1] W fun e w' => e = .returned (tree t) ∧ Below W.heap.size W w') := tree_yes 1 (by omega) (by omega) s t hw h hs
  have hC := tru_to t (wf_mono (by omega) t hw)
  unfold TruC at hC
  have hz : setB (val t) 8 < 256 := setB_lt8 _ 8 (Nat.le_refl _)
  have HIS : Hid (∀ j : Nat, j < 8 → ∀ W, Calls Tryz.prog 26 #[.int .i64 ((setB (val t) 8 : Nat) : Int), .int .i64 (j : Int)] W fun e w' => e = .returned (.bool (val t j)) ∧ W = w') := fun j hj W => by
    rw [← bit_of_set t j hj]; exact inSet_yes _ j hz hj W
  generalize setB (val t) 8 = z at *
  have hmk := make1
  clear h hs hw
  rcases hC with ⟨V, ev, hv⟩ | ⟨V, ev, hv⟩
  all_goals
    have HC := Lib.hid hv
    rw [ev] at HT
    clear ev hv
    go_enter Tryz.func8, Tryz.ntmps8
    go_wp2_with fail
    refine (HT.out _).mono ?_
    rintro e w1 ⟨rfl, hb1⟩
    have HB1 := Lib.hid hb1
    clear hb1
    go_wp2_with fail
    refine (HC.out _).mono ?_
    rintro e w2 ⟨rfl, hb2⟩
    have HB2 := Lib.hid (HB1.out.trans (hb2.mono HB1.out.size))
    clear hb2 HB1 HC HT
    go_wp2_with fail
    obtain ⟨B, hB⟩ : ∃ B, w2.heap.size = B := ⟨_, rfl⟩
    have HR0 : Hid (Rw (w2.alloc (.cells #[.int .u8 0, .int .u8 0] 5)) B 2 (fun _ => 0)) := by
      unfold Hid; rw [← hB]; exact Rw.zeros w2 _ _ 2 (fun j hj => by
        have : j < 2 := hj
        have h8 : j = 0 ∨ j = 1 := by omega
        rcases h8 with rfl | rfl <;> rfl)
    have HB3 : Hid (Below w.heap.size w (w2.alloc (.cells #[.int .u8 0, .int .u8 0] 5))) := HB2.out.alloc HB2.out.size _
    have hBw : w.heap.size ≤ B := by rw [← hB]; exact HB2.out.size
    rw [hB]
    generalize w2.alloc (.cells #[.int .u8 0, .int .u8 0] 5) = w3 at *
    clear HB2 hB hmk
    go_loopw [22] (fun i wr => ∃ (k : Nat), k ≤ 2 ∧ i = .int .i64 (k : Int) ∧ Rw wr B 2 (fun j => if j < k then dig (val t j) else 0) ∧ Below w.heap.size w wr) (fun i _ => 2 - (intOf i).toNat)
    case atStart => exact ⟨0, by omega, rfl, HR0.out.same (fun j _ => by simp), HB3.out⟩
    case round =>
      obtain ⟨k, hk, rfl, hr, hb⟩ := hrel
      have HR := Lib.hid hr
      have HB := Lib.hid hb
      clear hr hb
      by_cases hlt : k < 2
      · have HI := Lib.hid (HIS.out k (by omega))
        have c0 := HR.out.cell k hlt
        have f0 := HR.out.free k hlt
        obtain ⟨d, hd⟩ : ∃ d, val t k = d := ⟨_, rfl⟩
        rw [hd] at HI
        have HD := Lib.hid hd
        clear hd
        have HN : Hid (Rw (wr.setCell ⟨B, k, none⟩ (.int .u8 ((dig d).toNat : Int))) B 2 (fun j => if j < k + 1 then dig (val t j) else 0)) :=
          (HR.out.set k hlt (dig d)).same (fun j _ => by
            unfold upd
            by_cases e : j = k
            · subst e; rw [if_pos rfl, if_pos (by omega), HD.out]
            · rw [if_neg e]
              show (if j < k then dig (val t j) else (0 : UInt8)) = _
              by_cases e2 : j < k
              · rw [if_pos e2, if_pos (by omega)]
              · rw [if_neg e2, if_neg (by omega)])
        have HBN : Hid (Below w.heap.size w (wr.setCell ⟨B, k, none⟩ (.int .u8 ((dig d).toNat : Int)))) := HB.out.setCell hBw _
        go_wp2_with fail
        refine (HI.out _).mono ?_
        rintro e w' ⟨rfl, rfl⟩
        go_wp2_with fail
        refine (bitOf_any d _).mono ?_
        rintro e w' ⟨rfl, rfl⟩
        cases d
        · rw [bitI_false]
          go_wp2_with fail
          go_roundw
          case rel => exact ⟨k + 1, by omega, by go_num, HN.out, HBN.out⟩
          case measure => simp [intOf]; omega
        · rw [bitI_true]
          go_wp2_with fail
          go_roundw
          case rel => exact ⟨k + 1, by omega, by go_num, HN.out, HBN.out⟩
          case measure => simp [intOf]; omega
      · obtain rfl : k = 2 := by omega
        have hr2 : Rw wr B 2 (fun j => dig (val t j)) := HR.out.same (fun j hj => by rw [if_pos hj])
        have hcv : ∀ cap, (convert 22 9 (.slice (some ⟨B, 0, none⟩) 2 cap)).run Tryz.prog wr = .ok (.string (str (tabL t 2))) wr := fun cap => hr2.conv
        obtain ⟨res, hres⟩ : ∃ res, str (tabL t 2) = res := ⟨_, rfl⟩
        rw [hres] at hcv
        have HRES := Lib.hid hres
        clear hr2 hres
        go_wp2_with fail
        go_returns
        exact ⟨by rw [HRES.out]; rfl, HB.out⟩
theorem make2 (w : World) : (Instr.makeSlice 22 (.int .i64 4) (.int .i64 4)).run Tryz.prog w = .ok (.slice (some ⟨w.heap.size, 0, none⟩) 4 4) (w.alloc (.cells #[.int .u8 0, .int .u8 0, .int .u8 0, .int .u8 0] 5)) := by kernel_rfl
set_option maxHeartbeats 2000000 in
set_option maxRecDepth 100000 in
theorem impl_tab2 (s : ByteArray) (t : F) (hw : wf 2 t) (h : s.data.toList = text t) (hs : s.size ≤ 200) (w : World) :
    Calls Tryz.prog 8 #[.string s, .int .i64 2] w fun e w' => e = .returned (.tuple #[.string (str (tabL t 4)), .bool true]) ∧ Below w.heap.size w w' := by
  have HT : Hid (∀ W, Calls Tryz.prog 21 #[.string s, .int .i64 2] W fun e w' => e = .returned (tree t) ∧ Below W.heap.size W w') := tree_yes 2 (by omega) (by omega) s t hw h hs
  have hC := tru_to t (wf_mono (by omega) t hw)
  unfold TruC at hC
  have hz : setB (val t) 8 < 256 := setB_lt8 _ 8 (Nat.le_refl _)
  have HIS : Hid (∀ j : Nat, j < 8 → ∀ W, Calls Tryz.prog 26 #[.int .i64 ((setB (val t) 8 : Nat) : Int), .int .i64 (j : Int)] W fun e w' => e = .returned (.bool (val t j)) ∧ W = w') := fun j hj W => by
    rw [← bit_of_set t j hj]; exact inSet_yes _ j hz hj W
  generalize setB (val t) 8 = z at *
  have hmk := make2
  clear h hs hw
  rcases hC with ⟨V, ev, hv⟩ | ⟨V, ev, hv⟩
  all_goals
    have HC := Lib.hid hv
    rw [ev] at HT
    clear ev hv
    go_enter Tryz.func8, Tryz.ntmps8
    go_wp2_with fail
    refine (HT.out _).mono ?_
    rintro e w1 ⟨rfl, hb1⟩
    have HB1 := Lib.hid hb1
    clear hb1
    go_wp2_with fail
    refine (HC.out _).mono ?_
    rintro e w2 ⟨rfl, hb2⟩
    have HB2 := Lib.hid (HB1.out.trans (hb2.mono HB1.out.size))
    clear hb2 HB1 HC HT
    go_wp2_with fail
    obtain ⟨B, hB⟩ : ∃ B, w2.heap.size = B := ⟨_, rfl⟩
    have HR0 : Hid (Rw (w2.alloc (.cells #[.int .u8 0, .int .u8 0, .int .u8 0, .int .u8 0] 5)) B 4 (fun _ => 0)) := by
      unfold Hid; rw [← hB]; exact Rw.zeros w2 _ _ 4 (fun j hj => by
        have : j < 4 := hj
        have h8 : j = 0 ∨ j = 1 ∨ j = 2 ∨ j = 3 := by omega
        rcases h8 with rfl | rfl | rfl | rfl <;> rfl)
    have HB3 : Hid (Below w.heap.size w (w2.alloc (.cells #[.int .u8 0, .int .u8 0, .int .u8 0, .int .u8 0] 5))) := HB2.out.alloc HB2.out.size _
    have hBw : w.heap.size ≤ B := by rw [← hB]; exact HB2.out.size
    rw [hB]
    generalize w2.alloc (.cells #[.int .u8 0, .int .u8 0, .int .u8 0, .int .u8 0] 5) = w3 at *
    clear HB2 hB hmk
    go_loopw [22] (fun i wr => ∃ (k : Nat), k ≤ 4 ∧ i = .int .i64 (k : Int) ∧ Rw wr B 4 (fun j => if j < k then dig (val t j) else 0) ∧ Below w.heap.size w wr) (fun i _ => 4 - (intOf i).toNat)
    case atStart => exact ⟨0, by omega, rfl, HR0.out.same (fun j _ => by simp), HB3.out⟩
    case round =>
      obtain ⟨k, hk, rfl, hr, hb⟩ := hrel
      have HR := Lib.hid hr
      have HB := Lib.hid hb
      clear hr hb
      by_cases hlt : k < 4
      · have HI := Lib.hid (HIS.out k (by omega))
        have c0 := HR.out.cell k hlt
        have f0 := HR.out.free k hlt
        obtain ⟨d, hd⟩ : ∃ d, val t k = d := ⟨_, rfl⟩
        rw [hd] at HI
        have HD := Lib.hid hd
        clear hd
        have HN : Hid (Rw (wr.setCell ⟨B, k, none⟩ (.int .u8 ((dig d).toNat : Int))) B 4 (fun j => if j < k + 1 then dig (val t j) else 0)) :=
          (HR.out.set k hlt (dig d)).same (fun j _ => by
            unfold upd
            by_cases e : j = k
            · subst e; rw [if_pos rfl, if_pos (by omega), HD.out]
            · rw [if_neg e]
              show (if j < k then dig (val t j) else (0 : UInt8)) = _
              by_cases e2 : j < k
              · rw [if_pos e2, if_pos (by omega)]
              · rw [if_neg e2, if_neg (by omega)])
        have HBN : Hid (Below w.heap.size w (wr.setCell ⟨B, k, none⟩ (.int .u8 ((dig d).toNat : Int)))) := HB.out.setCell hBw _
        go_wp2_with fail
        refine (HI.out _).mono ?_
        rintro e w' ⟨rfl, rfl⟩
        go_wp2_with fail
        refine (bitOf_any d _).mono ?_
        rintro e w' ⟨rfl, rfl⟩
        cases d
        · rw [bitI_false]
          go_wp2_with fail
          go_roundw
          case rel => exact ⟨k + 1, by omega, by go_num, HN.out, HBN.out⟩
          case measure => simp [intOf]; omega
        · rw [bitI_true]
          go_wp2_with fail
          go_roundw
          case rel => exact ⟨k + 1, by omega, by go_num, HN.out, HBN.out⟩
          case measure => simp [intOf]; omega
      · obtain rfl : k = 4 := by omega
        have hr2 : Rw wr B 4 (fun j => dig (val t j)) := HR.out.same (fun j hj => by rw [if_pos hj])
        have hcv : ∀ cap, (convert 22 9 (.slice (some ⟨B, 0, none⟩) 4 cap)).run Tryz.prog wr = .ok (.string (str (tabL t 4))) wr := fun cap => hr2.conv
        obtain ⟨res, hres⟩ : ∃ res, str (tabL t 4) = res := ⟨_, rfl⟩
        rw [hres] at hcv
        have HRES := Lib.hid hres
        clear hr2 hres
        go_wp2_with fail
        go_returns
        exact ⟨by rw [HRES.out]; rfl, HB.out⟩
theorem make3 (w : World) : (Instr.makeSlice 22 (.int .i64 8) (.int .i64 8)).run Tryz.prog w = .ok (.slice (some ⟨w.heap.size, 0, none⟩) 8 8) (w.alloc (.cells #[.int .u8 0, .int .u8 0, .int .u8 0, .int .u8 0, .int .u8 0, .int .u8 0, .int .u8 0, .int .u8 0] 5)) := by kernel_rfl
set_option maxHeartbeats 2000000 in
set_option maxRecDepth 100000 in
theorem impl_tab3 (s : ByteArray) (t : F) (hw : wf 3 t) (h : s.data.toList = text t) (hs : s.size ≤ 200) (w : World) :
    Calls Tryz.prog 8 #[.string s, .int .i64 3] w fun e w' => e = .returned (.tuple #[.string (str (tabL t 8)), .bool true]) ∧ Below w.heap.size w w' := by
  have HT : Hid (∀ W, Calls Tryz.prog 21 #[.string s, .int .i64 3] W fun e w' => e = .returned (tree t) ∧ Below W.heap.size W w') := tree_yes 3 (by omega) (by omega) s t hw h hs
  have hC := tru_to t (wf_mono (by omega) t hw)
  unfold TruC at hC
  have hz : setB (val t) 8 < 256 := setB_lt8 _ 8 (Nat.le_refl _)
  have HIS : Hid (∀ j : Nat, j < 8 → ∀ W, Calls Tryz.prog 26 #[.int .i64 ((setB (val t) 8 : Nat) : Int), .int .i64 (j : Int)] W fun e w' => e = .returned (.bool (val t j)) ∧ W = w') := fun j hj W => by
    rw [← bit_of_set t j hj]; exact inSet_yes _ j hz hj W
  generalize setB (val t) 8 = z at *
  have hmk := make3
  clear h hs hw
  rcases hC with ⟨V, ev, hv⟩ | ⟨V, ev, hv⟩
  all_goals
    have HC := Lib.hid hv
    rw [ev] at HT
    clear ev hv
    go_enter Tryz.func8, Tryz.ntmps8
    go_wp2_with fail
    refine (HT.out _).mono ?_
    rintro e w1 ⟨rfl, hb1⟩
    have HB1 := Lib.hid hb1
    clear hb1
    go_wp2_with fail
    refine (HC.out _).mono ?_
    rintro e w2 ⟨rfl, hb2⟩
    have HB2 := Lib.hid (HB1.out.trans (hb2.mono HB1.out.size))
    clear hb2 HB1 HC HT
    go_wp2_with fail
    obtain ⟨B, hB⟩ : ∃ B, w2.heap.size = B := ⟨_, rfl⟩
    have HR0 : Hid (Rw (w2.alloc (.cells #[.int .u8 0, .int .u8 0, .int .u8 0, .int .u8 0, .int .u8 0, .int .u8 0, .int .u8 0, .int .u8 0] 5)) B 8 (fun _ => 0)) := by
      unfold Hid; rw [← hB]; exact Rw.zeros w2 _ _ 8 (fun j hj => by
        have : j < 8 := hj
        have h8 : j = 0 ∨ j = 1 ∨ j = 2 ∨ j = 3 ∨ j = 4 ∨ j = 5 ∨ j = 6 ∨ j = 7 := by omega
        rcases h8 with rfl | rfl | rfl | rfl | rfl | rfl | rfl | rfl <;> rfl)
    have HB3 : Hid (Below w.heap.size w (w2.alloc (.cells #[.int .u8 0, .int .u8 0, .int .u8 0, .int .u8 0, .int .u8 0, .int .u8 0, .int .u8 0, .int .u8 0] 5))) := HB2.out.alloc HB2.out.size _
    have hBw : w.heap.size ≤ B := by rw [← hB]; exact HB2.out.size
    rw [hB]
    generalize w2.alloc (.cells #[.int .u8 0, .int .u8 0, .int .u8 0, .int .u8 0, .int .u8 0, .int .u8 0, .int .u8 0, .int .u8 0] 5) = w3 at *
    clear HB2 hB hmk
    go_loopw [22] (fun i wr => ∃ (k : Nat), k ≤ 8 ∧ i = .int .i64 (k : Int) ∧ Rw wr B 8 (fun j => if j < k then dig (val t j) else 0) ∧ Below w.heap.size w wr) (fun i _ => 8 - (intOf i).toNat)
    case atStart => exact ⟨0, by omega, rfl, HR0.out.same (fun j _ => by simp), HB3.out⟩
    case round =>
      obtain ⟨k, hk, rfl, hr, hb⟩ := hrel
      have HR := Lib.hid hr
      have HB := Lib.hid hb
      clear hr hb
      by_cases hlt : k < 8
      · have HI := Lib.hid (HIS.out k (by omega))
        have c0 := HR.out.cell k hlt
        have f0 := HR.out.free k hlt
        obtain ⟨d, hd⟩ : ∃ d, val t k = d := ⟨_, rfl⟩
        rw [hd] at HI
        have HD := Lib.hid hd
        clear hd
        have HN : Hid (Rw (wr.setCell ⟨B, k, none⟩ (.int .u8 ((dig d).toNat : Int))) B 8 (fun j => if j < k + 1 then dig (val t j) else 0)) :=
          (HR.out.set k hlt (dig d)).same (fun j _ => by
            unfold upd
            by_cases e : j = k
            · subst e; rw [if_pos rfl, if_pos (by omega), HD.out]
            · rw [if_neg e]
              show (if j < k then dig (val t j) else (0 : UInt8)) = _
              by_cases e2 : j < k
              · rw [if_pos e2, if_pos (by omega)]
              · rw [if_neg e2, if_neg (by omega)])
        have HBN : Hid (Below w.heap.size w (wr.setCell ⟨B, k, none⟩ (.int .u8 ((dig d).toNat : Int)))) := HB.out.setCell hBw _
        go_wp2_with fail
        refine (HI.out _).mono ?_
        rintro e w' ⟨rfl, rfl⟩
        go_wp2_with fail
        refine (bitOf_any d _).mono ?_
        rintro e w' ⟨rfl, rfl⟩
        cases d
        · rw [bitI_false]
          go_wp2_with fail
          go_roundw
          case rel => exact ⟨k + 1, by omega, by go_num, HN.out, HBN.out⟩
          case measure => simp [intOf]; omega
        · rw [bitI_true]
          go_wp2_with fail
          go_roundw
          case rel => exact ⟨k + 1, by omega, by go_num, HN.out, HBN.out⟩
          case measure => simp [intOf]; omega
      · obtain rfl : k = 8 := by omega
        have hr2 : Rw wr B 8 (fun j => dig (val t j)) := HR.out.same (fun j hj => by rw [if_pos hj])
        have hcv : ∀ cap, (convert 22 9 (.slice (some ⟨B, 0, none⟩) 8 cap)).run Tryz.prog wr = .ok (.string (str (tabL t 8))) wr := fun cap => hr2.conv
        obtain ⟨res, hres⟩ : ∃ res, str (tabL t 8) = res := ⟨_, rfl⟩
        rw [hres] at hcv
        have HRES := Lib.hid hres
        clear hr2 hres
        go_wp2_with fail
        go_returns
        exact ⟨by rw [HRES.out]; rfl, HB.out⟩
theorem impl_tab (b N : Nat) (hb1 : 1 ≤ b) (hb3 : b ≤ 3) (hN : 2 ^ b = N) (s : ByteArray) (t : F) (hw : wf b t) (h : s.data.toList = text t) (hs : s.size ≤ 200) (w : World) :
    Calls Tryz.prog 8 #[.string s, .int .i64 (b : Int)] w fun e w' => e = .returned (.tuple #[.string (str (tabL t N)), .bool true]) ∧ Below w.heap.size w w' := by
  have h3 : b = 1 ∨ b = 2 ∨ b = 3 := by omega
  subst hN
  rcases h3 with rfl | rfl | rfl
  · exact impl_tab1 s t hw h hs w
  · exact impl_tab2 s t hw h hs w
  · exact impl_tab3 s t hw h hs w
set_option maxHeartbeats 1000000 in
theorem impl_no (s : ByteArray) (b : Int) (hno : ∀ W, Calls Tryz.prog 21 #[.string s, .int .i64 b] W fun e w' => e = .returned .nilIface ∧ Below W.heap.size W w') (w : World) :
    Calls Tryz.prog 8 #[.string s, .int .i64 b] w fun e w' => e = .returned (.tuple #[.string (str []), .bool false]) ∧ Below w.heap.size w w' := by
  have HT := Lib.hid hno
  clear hno
  go_enter Tryz.func8, Tryz.ntmps8
  go_wp2_with fail
  refine (HT.out _).mono ?_
  rintro e w1 ⟨rfl, hb1⟩
  have HB := Lib.hid hb1
  clear hb1
  go_wp2_with fail
  go_returns
  exact ⟨rfl, HB.out⟩
/-- what both answer of a text and a number of bits -/
def tabAns (s : ByteArray) (b : Int) (q : ByteArray) (v : Bool) : Prop :=
  (v = true ∧ ∃ (n : Nat) (t : F), b = n ∧ 1 ≤ n ∧ n ≤ 3 ∧ wf n t ∧ s.data.toList = text t ∧ s.size ≤ 200 ∧ q = str (tabL t (2 ^ n))) ∨ (v = false ∧ q = str [] ∧ ¬ ((1 ≤ b ∧ b ≤ 3) ∧ Ok b.toNat s))
end Go.Proofs.YtbccachkkflceaaGreatDoor.FmTab

/-
  Protocols as trees: their texts, what is read of a text, and what is told of a tree. Nothing of the program.
-/
namespace Go.Proofs.YtbccachkkflceaaGreatDoor.Tree
open Go.RowKit Go.Proofs.YtbccachkkflceaaGreatDoor.Plain
set_option linter.unusedVariables false

/-- the values of ends -/
inductive V3 where
  | v0
  | v1
  | v2
def gN : V3 → Nat
  | .v0 => 0
  | .v1 => 1
  | .v2 => 2
def gI (b : V3) : Int := (gN b : Int)
def gD : V3 → UInt8
  | .v0 => 48
  | .v1 => 49
  | .v2 => 50
theorem gN_lt (b : V3) : gN b < 3 := by cases b <;> decide
/-- a protocol of a game: an end, or a bit of a player (true: the first one) about a set, with what follows -/
inductive T where
  | leaf (b : V3)
  | say (a : Bool) (s : Nat) (z o : T)

/-- the digits of 16 values -/
def hexL : List UInt8 := [48, 49, 50, 51, 52, 53, 54, 55, 56, 57, 97, 98, 99, 100, 101, 102]
def hexD (n : Nat) : UInt8 := hexL.getD n 0
def hexV (c : UInt8) : Int := Lib.indexByte hexL c
/-- the letter of a player -/
def whoB (a : Bool) : UInt8 := if a then 65 else 66

theorem hexV_D (n : Nat) (h : n < 16) : hexV (hexD n) = (n : Int) := by
  have : ∀ k : Fin 16, hexV (hexD k.1) = (k.1 : Int) := by decide
  exact this ⟨n, h⟩
theorem hexV_ge (c : UInt8) : -1 ≤ hexV c := Lib.indexByte_ge hexL c
theorem hexD_V (c : UInt8) (h : 0 ≤ hexV c) : hexD (hexV c).toNat = c ∧ (hexV c).toNat < 16 := by
  obtain ⟨o, ho⟩ : ∃ o : Nat, hexV c = o := ⟨(hexV c).toNat, by omega⟩
  have h1 := (Lib.indexByte_some (l := hexL) (c := c) (o := o) ho).1
  have h2 : o < hexL.length := (List.getElem?_eq_some_iff.1 h1).1
  rw [ho]
  refine ⟨?_, h2⟩
  show hexL.getD o 0 = c
  rw [List.getD_eq_getElem?_getD, h1]
  rfl

theorem idx_hi (c : UInt8) : hexV c < 16 := by
  by_cases h : 0 ≤ hexV c
  · have := (hexD_V c h).2
    omega
  · omega

/-- the text of a protocol -/
def text : T → List UInt8
  | .leaf b => [gD b]
  | .say a s z o => whoB a :: hexD (s / 16) :: hexD (s % 16) :: (text z ++ text o)
/-- its sets are told by two digits -/
def wf : T → Prop
  | .leaf _ => True
  | .say _ s z o => s < 256 ∧ wf z ∧ wf o
/-- no protocol stands at the begin of a text -/
def No (l : List UInt8) : Prop := ∀ t r, wf t → l ≠ text t ++ r
theorem yes_or_no (l : List UInt8) : (∃ t r, wf t ∧ l = text t ++ r) ∨ No l := by
  by_cases h : ∃ t r, wf t ∧ l = text t ++ r
  · exact .inl h
  · exact .inr fun t r hw e => h ⟨t, r, hw, e⟩
/-- a text is a protocol -/
def Is (l : List UInt8) : Prop := ∃ t, wf t ∧ l = text t

theorem text_pos (t : T) : 0 < (text t).length := by cases t <;> simp [text]
theorem No.nil : No [] := by
  intro t r _ e
  have := text_pos t
  have h := congrArg List.length e
  simp at h
  omega
theorem text_head (t : T) (r : List UInt8) : (∃ b, t = .leaf b ∧ text t ++ r = gD b :: r) ∨
    (∃ a s z o, t = .say a s z o ∧ text t ++ r = whoB a :: hexD (s / 16) :: hexD (s % 16) :: (text z ++ (text o ++ r))) := by
  cases t with
  | leaf b => exact .inl ⟨b, rfl, rfl⟩
  | say a s z o => exact .inr ⟨a, s, z, o, rfl, by simp [text]⟩
theorem dig_or (c : UInt8) (h : c = 48 ∨ c = 49 ∨ c = 50) : ∃ b, c = gD b := by
  rcases h with rfl | rfl | rfl
  · exact ⟨.v0, rfl⟩
  · exact ⟨.v1, rfl⟩
  · exact ⟨.v2, rfl⟩
theorem who_or (c : UInt8) (h : c = 65 ∨ c = 66) : ∃ a, c = whoB a := by
  rcases h with rfl | rfl
  · exact ⟨true, rfl⟩
  · exact ⟨false, rfl⟩
theorem No.not_dig {c : UInt8} {r : List UInt8} (h : No (c :: r)) : c ≠ 48 ∧ c ≠ 49 ∧ c ≠ 50 := by
  refine ⟨?_, ?_, ?_⟩
  · rintro rfl; exact h (.leaf .v0) r trivial rfl
  · rintro rfl; exact h (.leaf .v1) r trivial rfl
  · rintro rfl; exact h (.leaf .v2) r trivial rfl
/-- a letter, two digits and two protocols are a protocol -/
theorem No.say {a : Bool} {x y : UInt8} {z o : T} {r : List UInt8} (h : No (whoB a :: x :: y :: (text z ++ (text o ++ r)))) (hx : 0 ≤ hexV x) (hy : 0 ≤ hexV y) (hz : wf z) (ho : wf o) : False := by
  obtain ⟨ex, lx⟩ := hexD_V x hx
  obtain ⟨ey, ly⟩ := hexD_V y hy
  refine h (.say a (16 * (hexV x).toNat + (hexV y).toNat) z o) r ⟨by omega, hz, ho⟩ ?_
  have e1 : (16 * (hexV x).toNat + (hexV y).toNat) / 16 = (hexV x).toNat := by omega
  have e2 : (16 * (hexV x).toNat + (hexV y).toNat) % 16 = (hexV y).toNat := by omega
  simp only [text, e1, e2, ex, ey, List.cons_append, List.append_assoc]
theorem set_hex (s : Nat) (h : s < 256) : (16 * (hexV (hexD (s / 16))) + hexV (hexD (s % 16)) : Int) = s := by
  rw [hexV_D _ (by omega), hexV_D _ (by omega)]
  omega

/-- two texts that begin with a protocol: the same protocol -/
theorem text_inj : ∀ (t u : T) (r q : List UInt8), wf t → wf u → text t ++ r = text u ++ q → t = u ∧ r = q
  | .leaf b, u, r, q, _, hu, e => by
    rcases text_head u q with ⟨b2, rfl, h2⟩ | ⟨a, s, z, o, rfl, h2⟩
    · rw [h2] at e
      simp only [text, List.singleton_append, List.cons.injEq] at e
      refine ⟨?_, e.2⟩
      have := e.1
      cases b <;> cases b2 <;> simp [gD] at this ⊢
    · rw [h2] at e
      simp only [text, List.singleton_append, List.cons.injEq] at e
      have := e.1
      cases b <;> cases a <;> simp [gD, whoB] at this
  | .say a s z o, u, r, q, ht, hu, e => by
    rcases text_head u q with ⟨b2, rfl, h2⟩ | ⟨a2, s2, z2, o2, rfl, h2⟩
    · rw [h2] at e
      simp only [text, List.cons_append, List.cons.injEq] at e
      have := e.1
      cases b2 <;> cases a <;> simp [gD, whoB] at this
    · rw [h2] at e
      simp only [text, List.cons_append, List.append_assoc, List.cons.injEq] at e
      obtain ⟨e1, e2, e3, e4⟩ := e
      obtain ⟨ez, e5⟩ := text_inj z z2 _ _ ht.2.1 hu.2.1 e4
      obtain ⟨eo, e6⟩ := text_inj o o2 _ _ ht.2.2 hu.2.2 e5
      have ha : a = a2 := by cases a <;> cases a2 <;> simp [whoB] at e1 ⊢
      have hs : s = s2 := by
        have h1 := set_hex s ht.1
        have h3 := set_hex s2 hu.1
        rw [e2, e3] at h1
        omega
      exact ⟨by rw [ha, hs, ez, eo], e6⟩

/-- the greatest number of bits -/
def bits : T → Nat
  | .leaf _ => 0
  | .say _ _ z o => 1 + max (bits z) (bits o)
/-- the number of ends -/
def ends : T → Nat
  | .leaf _ => 1
  | .say _ _ z o => ends z + ends o
theorem bits_lt : ∀ t, bits t < (text t).length
  | .leaf _ => by simp [bits, text]
  | .say _ _ z o => by
    have h1 := bits_lt z
    have h2 := bits_lt o
    simp only [bits, text, List.length_cons, List.length_append]
    omega
theorem ends_le : ∀ t, ends t ≤ (text t).length
  | .leaf _ => by simp [ends, text]
  | .say _ _ z o => by
    have h1 := ends_le z
    have h2 := ends_le o
    simp only [ends, text, List.length_cons, List.length_append]
    omega
/-- players exchanged -/
def turnT : T → T
  | .leaf b => .leaf b
  | .say a s z o => .say (!a) s (turnT z) (turnT o)
theorem turn_wf : ∀ t, wf t → wf (turnT t)
  | .leaf _, _ => trivial
  | .say _ _ z o, h => ⟨h.1, turn_wf z h.2.1, turn_wf o h.2.2⟩
theorem turn_length : ∀ t, (text (turnT t)).length = (text t).length
  | .leaf _ => rfl
  | .say _ _ z o => by simp only [turnT, text, List.length_cons, List.length_append, turn_length z, turn_length o]
end Go.Proofs.YtbccachkkflceaaGreatDoor.Tree

