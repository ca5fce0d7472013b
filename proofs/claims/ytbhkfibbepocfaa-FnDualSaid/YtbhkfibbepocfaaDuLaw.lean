/-
  The walk of the drawn law on DualFormula.
-/
import Derived.Test.YtbhkfibbepocfaaDrawFm
import Derived.Test.YtbhkfibbepocfaaSizeOfWalk
import Derived.Test.YtbhkfibbepocfaaDeepOfWalk
import Derived.Test.YtbhkfibbepocfaaFmDual
import Derived.Test.YtbhkfibbepocfaaFmTab
import Derived.Test.YtbhkfibbepocfaaWq
namespace Go.Proofs.Ytbhkfibbepocfaa.fnDual
open Go.RowKit Go.Shelf Go.Proofs.Ytbhkfibbepocfaa.Plain Go.Proofs.Ytbhkfibbepocfaa.Fm Go.Proofs.Ytbhkfibbepocfaa.FmB Go.Proofs.Ytbhkfibbepocfaa.FmNo Go.Proofs.Ytbhkfibbepocfaa.FmSaid Go.Proofs.Ytbhkfibbepocfaa.Rd Go.Proofs.Ytbhkfibbepocfaa.DrawFm
open Go.Proofs.Ytbhkfibbepocfaa.FmTab (tabL tabL_length impl_tab)
set_option linter.unusedVariables false
set_option linter.unusedSimpArgs false

theorem tab_at (f : F) (k : Nat) (hk : k < 8) (h : k < (str (tabL f 8)).size) : (str (tabL f 8))[k]'h = dig (val f k) := by
  have e : (str (tabL f 8)).data.toList[k]'(by simpa using h) = (str (tabL f 8))[k]'h := by simp; rfl
  rw [← e]
  simp [str, tabL]
theorem tab_ne (f : F) (k : Nat) (hk : k < 8) (h : k < (str (tabL f 8)).size) (h2 : k < (str (tabL (dual f) 8)).size) : ((((str (tabL f 8))[k]'h).toNat : Int) == (((str (tabL (dual f) 8))[k]'h2).toNat : Int)) = false := by
  rw [tab_at f k hk h, tab_at (dual f) k hk h2, dual_val]
  cases val f k <;> rfl
set_option maxHeartbeats 8000000 in
set_option maxRecDepth 100000 in
theorem walk (v : Value) (n : Nat) (w : World) (h : ByteArg w v n) :
    Calls Try.prog 4 #[v] w fun e w' => e = .returned (.bool true) ∧ Below w.heap.size w w' := by
  obtain ⟨hn0, a, cap, rfl, hc, hb0⟩ := id h
  clear hb0
  have HD := Lib.hid (draw_dual _ n w h)
  clear h
  by_cases hbig : 1048576 < n
  · have hbi : (1048576 : Int) < (n : Int) := by omega
    go_enter Try.func4, Try.ntmps4
    go_wp2_with fail
    go_ret
    exact ⟨rfl, Below.refl _ _⟩
  have hbi : ¬ (1048576 : Int) < (n : Int) := by omega
  go_enter Try.func4, Try.ntmps4
  go_wp2_with fail
  refine HD.out.mono ?_
  rintro e w1 ⟨s, rfl, hs, hb⟩
  have HB1 := Lib.hid hb
  clear HD hbig hbi hb
  rcases ok_or 3 s with ⟨t, hw, ht, h2⟩ | hno
  · have HI := Lib.hid (FmDual.impl_yes s t hw ht h2)
    have HS := Lib.hid (FmDual.spec_yes s t hw ht h2)
    have hdt : (str (text (dual t))).data.toList = text (dual t) := by simp [str]
    have hsl : (text t).length = s.size := by rw [← ht]; simp
    have hds : (str (text (dual t))).size ≤ 200 := by rw [str_size, dual_length]; omega
    have HT : Hid (∀ W, Calls Try.prog 20 #[.string s, .int .i64 3] W fun e w' => e = .returned (.tuple #[.string (str (tabL t 8)), .bool true]) ∧ Below W.heap.size W w') := impl_tab 3 8 (by omega) (by omega) rfl s t hw ht h2
    have HU : Hid (∀ W, Calls Try.prog 20 #[.string (str (text (dual t))), .int .i64 3] W fun e w' => e = .returned (.tuple #[.string (str (tabL (dual t) 8)), .bool true]) ∧ Below W.heap.size W w') := impl_tab 3 8 (by omega) (by omega) rfl _ (dual t) (dual_wf 3 t hw) hdt hds
    have HX := Lib.hid (FmDual.impl_yes (str (text (dual t))) (dual t) (dual_wf 3 t hw) hdt hds)
    rw [dual_dual, ← ht, ← eq_str (q := s) rfl] at HX
    have HK := Lib.hid (fnExactDeepOf.impl_yes s t hw ht h2)
    have HK2 := Lib.hid (fnExactDeepOf.impl_yes (str (text (dual t))) (dual t) (dual_wf 3 t hw) hdt hds)
    rw [dual_deep] at HK2
    have HZ := Lib.hid (fnExactSizeOf.impl_yes s t hw ht h2)
    have HZ2 := Lib.hid (fnExactSizeOf.impl_yes (str (text (dual t))) (dual t) (dual_wf 3 t hw) hdt hds)
    rw [dual_size] at HZ2
    have l1 : (str (tabL t 8)).size = 8 := by rw [str_size, tabL_length]
    have l2 : (str (tabL (dual t) 8)).size = 8 := by rw [str_size, tabL_length]
    have HNE := Lib.hid (tab_ne t)
    generalize str (tabL t 8) = A at *
    generalize str (tabL (dual t) 8) = B at *
    generalize str (text (dual t)) = q at *
    generalize deep t = dd at *
    generalize size t = zz at *
    clear hw ht h2 hdt hsl hds
    go_wp2_with fail
    refine (HI.out _).mono ?_
    rintro e w2 ⟨rfl, hb2'⟩
    have HB2 : Hid (Below w.heap.size w w2) := HB1.out.trans (hb2'.mono HB1.out.size)
    clear hb2' HB1
    go_wp2_with fail
    refine (HS.out _).mono ?_
    rintro e w3 ⟨rfl, hb3'⟩
    have HB3 : Hid (Below w.heap.size w w3) := HB2.out.trans (hb3'.mono HB2.out.size)
    clear hb3' HB2
    go_wp2_with fail
    refine (HT.out _).mono ?_
    rintro e w4 ⟨rfl, hb4'⟩
    have HB4 : Hid (Below w.heap.size w w4) := HB3.out.trans (hb4'.mono HB3.out.size)
    clear hb4' HB3
    go_wp2_with fail
    refine (HU.out _).mono ?_
    rintro e w5 ⟨rfl, hb5'⟩
    have HB5 : Hid (Below w.heap.size w w5) := HB4.out.trans (hb5'.mono HB4.out.size)
    clear hb5' HB4
    go_wp2_with fail
    go_loopw [12] (fun i wr => ∃ (k : Nat), k ≤ 8 ∧ i = .int .i64 (k : Int) ∧ Below w.heap.size w wr) (fun i _ => 8 - (intOf i).toNat)
    case atStart => exact ⟨0, by omega, rfl, HB5.out⟩
    case round =>
      obtain ⟨k, hk, rfl, hb⟩ := hrel
      have HB6 := Lib.hid hb
      clear hb
      by_cases hlt : k < 8
      · have hka : k < A.size := by omega
        have hkb : k < B.size := by omega
        have hne := HNE.out k hlt hka hkb
        go_wp2_with fail
        go_quiet (fail)
        go_wp2_with fail
        go_roundw
        case rel => exact ⟨k + 1, by omega, by go_num, HB6.out.trans (Wq.drawn_at _ _ |>.mono HB6.out.size)⟩
        case measure => simp [intOf]; omega
      · obtain rfl : k = 8 := by omega
        go_wp2_with fail
        refine (HX.out _).mono ?_
        rintro e w7 ⟨rfl, hb7'⟩
        have HB7 : Hid (Below w.heap.size w w7) := HB6.out.trans (hb7'.mono HB6.out.size)
        clear hb7' HB6
        go_wp2_with fail
        refine (HK2.out _).mono ?_
        rintro e w8 ⟨rfl, hb8'⟩
        have HB8 : Hid (Below w.heap.size w w8) := HB7.out.trans (hb8'.mono HB7.out.size)
        clear hb8' HB7
        go_wp2_with fail
        refine (HK.out _).mono ?_
        rintro e w9 ⟨rfl, hb9'⟩
        have HB9 : Hid (Below w.heap.size w w9) := HB8.out.trans (hb9'.mono HB8.out.size)
        clear hb9' HB8
        go_wp2_with fail
        refine (HZ2.out _).mono ?_
        rintro e w10 ⟨rfl, hb10'⟩
        have HB10 : Hid (Below w.heap.size w w10) := HB9.out.trans (hb10'.mono HB9.out.size)
        clear hb10' HB9
        go_wp2_with fail
        refine (HZ.out _).mono ?_
        rintro e w11 ⟨rfl, hb11'⟩
        have HB11 : Hid (Below w.heap.size w w11) := HB10.out.trans (hb11'.mono HB10.out.size)
        clear hb11' HB10
        go_wp2_with fail
        go_ret
        exact ⟨rfl, HB11.out⟩
  · have HI := Lib.hid (FmDual.impl_no s hno (by omega))
    have HS := Lib.hid (FmDual.spec_no s hno (by omega))
    generalize str [] = q at *
    clear hno
    go_wp2_with fail
    refine (HI.out _).mono ?_
    rintro e w2 ⟨rfl, hb2'⟩
    have HB2 : Hid (Below w.heap.size w w2) := HB1.out.trans (hb2'.mono HB1.out.size)
    clear hb2' HB1
    go_wp2_with fail
    refine (HS.out _).mono ?_
    rintro e w3 ⟨rfl, hb3'⟩
    have HB3 : Hid (Below w.heap.size w w3) := HB2.out.trans (hb3'.mono HB2.out.size)
    clear hb3' HB2
    go_wp2_with fail
    go_ret
    exact ⟨rfl, HB3.out⟩
end Go.Proofs.Ytbhkfibbepocfaa.fnDual
