/-
  Texts of one seat, joined: FmDual, FgLaw.
-/
import Derived.Test.YtbccachkkflceaaGreatDoorJn1
import Derived.Test.YtbccachkkflceaaGreatDoorJn16
import Derived.Test.YtbccachkkflceaaGreatDoorJn10
import Derived.Test.YtbccachkkflceaaGreatDoorJn11
import Derived.Test.YtbccachkkflceaaGreatDoorJn5
import Derived.Test.YtbccachkkflceaaGreatDoorJn12
import Derived.Test.YtbccachkkflceaaGreatDoorJn17
import Derived.Test.YtbccachkkflceaaGreatDoorJn24
import Derived.Test.YtbccachkkflceaaGreatDoorJn25
import Derived.Test.YtbccachkkflceaaGreatDoorJn26
import Derived.Test.YtbccachkkflceaaGreatDoorJn34
import Derived.Test.YtbccachkkflceaaGreatDoorJn9
/-
  The dual of a formula, of both sides.
-/
namespace Go.Proofs.YtbccachkkflceaaGreatDoor.FmDual
open Go.RowKit Go.Shelf Go.Proofs.YtbccachkkflceaaGreatDoor.Plain Go.Proofs.YtbccachkkflceaaGreatDoor.Fm Go.Proofs.YtbccachkkflceaaGreatDoor.FmB Go.Proofs.YtbccachkkflceaaGreatDoor.FmRead Go.Proofs.YtbccachkkflceaaGreatDoor.FmNo Go.Proofs.YtbccachkkflceaaGreatDoor.FmSaid Go.Proofs.YtbccachkkflceaaGreatDoor.FmParts Go.Proofs.YtbccachkkflceaaGreatDoor.FmMeth Go.Proofs.YtbccachkkflceaaGreatDoor.FmCnt Go.Proofs.YtbccachkkflceaaGreatDoor.FmText Go.Proofs.YtbccachkkflceaaGreatDoor.FmRow
set_option linter.unusedVariables false
set_option linter.unusedSimpArgs false

/-- the byte that stands for another one, as the reference looks it up -/
theorem swap_at (c : UInt8) (h : known c) : ∃ o : Nat, o < 8 ∧ Lib.indexByte [120, 121, 122, 88, 89, 90, 38, 124] c = (o : Int) ∧ ∀ (ho : o < (⟨#[88, 89, 90, 120, 121, 122, 124, 38]⟩ : ByteArray).size), ((⟨#[88, 89, 90, 120, 121, 122, 124, 38]⟩ : ByteArray)[o]'ho) = swapB c := by
  have key : ∀ k : Fin 8, ∃ o : Fin 8, Lib.indexByte [120, 121, 122, 88, 89, 90, 38, 124] (([120, 121, 122, 88, 89, 90, 38, 124] : List UInt8)[k.1]'(by have := k.2; simp)) = (o.1 : Int) ∧ ((⟨#[88, 89, 90, 120, 121, 122, 124, 38]⟩ : ByteArray)[o.1]'(by have := o.2; exact this)) = swapB (([120, 121, 122, 88, 89, 90, 38, 124] : List UInt8)[k.1]'(by have := k.2; simp)) := by decide
  unfold known at h
  obtain ⟨k, hk, rfl⟩ := List.getElem_of_mem h
  have hk8 : k < 8 := by simpa using hk
  obtain ⟨o, h1, h2⟩ := key ⟨k, hk8⟩
  exact ⟨o.1, o.2, h1, fun _ => h2⟩
set_option maxHeartbeats 1000000 in
theorem impl_yes (s : ByteArray) (t : F) (hw : wf 3 t) (h : s.data.toList = text t) (hs : s.size ≤ 200) (w : World) :
    Calls Tryz.prog 9 #[.string s] w fun e w' => e = .returned (.tuple #[.string (str (text (dual t))), .bool true]) ∧ Below w.heap.size w w' := by
  have HT : Hid (∀ W, Calls Tryz.prog 21 #[.string s, .int .i64 3] W fun e w' => e = .returned (tree t) ∧ Below W.heap.size W w') := tree_yes 3 (by omega) (by omega) s t hw h hs
  have hl : (text t).length = s.size := by rw [← h]; simp
  have HX := Lib.hid (text_of (dual t) (dual_wf 3 t hw) (by rw [dual_length]; omega))
  have hC := dua_to t
  unfold DuaC at hC
  generalize str (text (dual t)) = q at *
  obtain ⟨ty, v, ev2⟩ := tree_iface (dual t)
  rw [ev2] at HX hC
  clear h hl hw ev2
  rcases hC with ⟨V, ev, hv⟩ | ⟨V, ev, hv⟩
  all_goals
    have HC := Lib.hid hv
    rw [ev] at HT
    clear ev hv
    go_enter Tryz.func9, Tryz.ntmps9
    go_wp2_with fail
    refine (HT.out _).mono ?_
    rintro e w1 ⟨rfl, hb1⟩
    go_wp2_with fail
    refine (HC.out _).mono ?_
    rintro e w2 ⟨rfl, hb2⟩
    go_wp2_with fail
    refine (HX.out _).mono ?_
    rintro e w3 ⟨rfl, hb3⟩
    have h12 := hb1.trans (hb2.mono hb1.size)
    have HB := Lib.hid (h12.trans (hb3.mono h12.size))
    clear hb1 hb2 hb3 h12
    go_wp2_with fail
    go_returns
    exact ⟨rfl, HB.out⟩
set_option maxHeartbeats 1000000 in
theorem impl_no (s : ByteArray) (h : ¬ Ok 3 s) (hs : s.size ≤ 1048576) (w : World) :
    Calls Tryz.prog 9 #[.string s] w fun e w' => e = .returned (.tuple #[.string (str []), .bool false]) ∧ Below w.heap.size w w' := by
  have HT : Hid (∀ W, Calls Tryz.prog 21 #[.string s, .int .i64 3] W fun e w' => e = .returned .nilIface ∧ Below W.heap.size W w') := tree_no 3 (by omega) (by omega) s h hs
  clear h
  go_enter Tryz.func9, Tryz.ntmps9
  go_wp2_with fail
  refine (HT.out _).mono ?_
  rintro e w1 ⟨rfl, hb1⟩
  have HB := Lib.hid hb1
  clear hb1
  go_wp2_with fail
  go_returns
  exact ⟨rfl, HB.out⟩
def dualAns (s : ByteArray) (q : ByteArray) (b : Bool) : Prop := (b = true ∧ ∃ t, wf 3 t ∧ s.data.toList = text t ∧ s.size ≤ 200 ∧ q = str (text (dual t))) ∨ (b = false ∧ q = str [] ∧ ¬ Ok 3 s)
end Go.Proofs.YtbccachkkflceaaGreatDoor.FmDual

/-
  The walk of the drawn law on FormulaGame.
-/
namespace Go.Proofs.YtbccachkkflceaaGreatDoor.fnFormulaGame
open Go.RowKit Go.Shelf Go.Proofs.YtbccachkkflceaaGreatDoor.Plain Go.Proofs.YtbccachkkflceaaGreatDoor.Rd Go.Proofs.YtbccachkkflceaaGreatDoor.DrawFm Go.Proofs.YtbccachkkflceaaGreatDoor.GmG Go.Proofs.YtbccachkkflceaaGreatDoor.FgM
open Go.Proofs.YtbccachkkflceaaGreatDoor.Fm (F dual dual_wf dual_length)
open Go.Proofs.YtbccachkkflceaaGreatDoor.GmM (gameT game_wf game_bits game_ends game_length)
open Go.Proofs.YtbccachkkflceaaGreatDoor.FmTab (tabL tabL_length impl_tab)
open Go.Proofs.YtbccachkkflceaaGreatDoor.FmRow (Rw upd)
set_option linter.unusedVariables false
set_option linter.unusedSimpArgs false

set_option maxHeartbeats 1000000 in
theorem draw_fg (v : Value) (n : Nat) (w : World) (h : ByteArg w v n) :
    Calls Tryz.prog 5 #[v] w fun e w' => ∃ (s : ByteArray), e = .returned (.string s) ∧ s.size ≤ 1000 ∧ Below w.heap.size w w' := by
  have HO := Lib.hid (draw_deep v n w h)
  clear h
  go_enter Tryz.func5, Tryz.ntmps5
  go_wp2_with fail
  refine HO.out.mono ?_
  rintro e w1 ⟨s, rfl, hs, hb⟩
  have HB := Lib.hid hb
  clear hb
  go_wp2_with fail
  go_ret
  exact ⟨s, rfl, hs, HB.out⟩

theorem nat65 (c : UInt8) : (((c.toNat : Int)) == 65) = decide (c.toNat = 65) := by
  by_cases h : c.toNat = 65
  · rw [h]; rfl
  · rw [decide_eq_false h]; exact beq_eq_false_iff_ne.2 (by omega)
theorem nat66 (c : UInt8) : (((c.toNat : Int)) == 66) = decide (c.toNat = 66) := by
  by_cases h : c.toNat = 66
  · rw [h]; rfl
  · rw [decide_eq_false h]; exact beq_eq_false_iff_ne.2 (by omega)
theorem swapW_a {c : UInt8} (h : c.toNat = 65) : swapW c = 66 := by unfold swapW; rw [if_pos h]
theorem swapW_b {c : UInt8} (h : c.toNat = 66) : swapW c = 65 := by unfold swapW; rw [if_neg (by omega), if_pos h]
theorem swapW_c {c : UInt8} (h : c.toNat ≠ 65) (h2 : c.toNat ≠ 66) : swapW c = c := by unfold swapW; rw [if_neg h, if_neg h2]

set_option maxHeartbeats 8000000 in
set_option maxRecDepth 100000 in
theorem walk (v : Value) (n : Nat) (w : World) (h : ByteArg w v n) :
    Calls Tryz.prog 3 #[v] w fun e w' => e = .returned (.bool true) ∧ Below w.heap.size w w' := by
  obtain ⟨hn0, a, cap, rfl, hc, hb0⟩ := id h
  clear hb0
  have HD := Lib.hid (draw_fg _ n w h)
  clear h
  by_cases hbig : 1048576 < n
  · have hbi : (1048576 : Int) < (n : Int) := by omega
    go_enter Tryz.func3, Tryz.ntmps3
    go_wp2_with fail
    go_ret
    exact ⟨rfl, Below.refl _ _⟩
  have hbi : ¬ (1048576 : Int) < (n : Int) := by omega
  go_enter Tryz.func3, Tryz.ntmps3
  go_wp2_with fail
  refine HD.out.mono ?_
  rintro e w1 ⟨s, rfl, hs, hb⟩
  have HB1 := Lib.hid hb
  clear HD hbig hbi hb
  rcases FmNo.ok_or 3 s with ⟨t, hw, ht, h2⟩ | hno
  · have HI := Lib.hid (impl_yes s t hw ht h2)
    have HS := Lib.hid (spec_yes s t hw ht h2)
    unfold fgAns at HI HS
    have hlt : (Fm.text t).length ≤ 200 := by rw [← ht]; simpa using h2
    have hdt : (str (Fm.text (dual t))).data.toList = Fm.text (dual t) := by simp [str]
    have hds : (str (Fm.text (dual t))).size ≤ 200 := by rw [str_size, dual_length]; omega
    have HT : Hid (∀ W, Calls Tryz.prog 8 #[.string s, .int .i64 3] W fun e w' => e = .returned (.tuple #[.string (str (tabL t 8)), .bool true]) ∧ Below W.heap.size W w') := impl_tab 3 8 (by omega) (by omega) rfl s t hw ht h2
    have HX := Lib.hid (FmDual.impl_yes s t hw ht h2)
    have HY := Lib.hid (impl_yes (str (Fm.text (dual t))) (dual t) (dual_wf 3 t hw) hdt hds)
    unfold fgAns at HY
    have hgl := game_length t hlt
    have hgt : (str (Tree.text (gameT t))).data.toList = Tree.text (gameT t) := by simp [str]
    have hgs : (str (Tree.text (gameT t))).size ≤ 400 := by rw [str_size]; exact hgl
    have HP := Lib.hid (PlX.plays_yes (str (Tree.text (gameT t))) (gameT t) (game_wf t) hgt (by omega) (str (tabL t 8)) (by rw [tab_size]; exact Nat.le_refl _) (tab_tabV t))
    rw [tab_plays t hw] at HP
    have HGB := Lib.hid (fnExactGameBits.impl_yes (str (Tree.text (gameT t))) (gameT t) (game_wf t) hgt (by omega))
    have HGE := Lib.hid (fnExactGameEnds.impl_yes (str (Tree.text (gameT t))) (gameT t) (game_wf t) hgt (by omega))
    rw [game_bits] at HGB
    rw [game_ends] at HGE
    have HK := Lib.hid (fnExactDeepOf.impl_yes s t hw ht h2)
    have HZ := Lib.hid (fnExactSizeOf.impl_yes s t hw ht h2)
    have hturn : Tree.text (gameT (dual t)) = (Tree.text (gameT t)).map swapW := by rw [dual_game, turn_text]
    rw [hturn] at HY
    have HPE : Hid (str ((Tree.text (gameT t)).map swapW) = str ((str (Tree.text (gameT t))).data.toList.map swapW)) := by unfold Hid; rw [hgt]
    generalize str ((Tree.text (gameT t)).map swapW) = q at *
    generalize str (Tree.text (gameT t)) = p at *
    generalize str (tabL t 8) = A at *
    generalize str (Fm.text (dual t)) = du at *
    generalize Fm.deep t = dd at *
    generalize Fm.size t = zz at *
    clear hw ht h2 hdt hds hlt hgl hgt hturn
    have kc := fun (w : World) => run_bytes_of_string (P := Tryz.prog) w 9 22 5 p Tryz.underlying9 Tryz.underlying22 Tryz.underlying5
    go_wp2_with fail
    refine (HI.out _).mono ?_
    rintro e w2 ⟨rfl, hb2'⟩
    have HB2 : Hid (Below w.heap.size w w2) := HB1.out.trans (hb2'.mono HB1.out.size)
    clear hb2' HB1
    go_wp2_with fail
    refine (HS.out _).mono ?_
    rintro e w3 ⟨rfl, hb3'⟩
    have HB3 : Hid (Below w.heap.size w w3) := HB2.out.trans (hb3'.mono HB2.out.size)
    clear hb3' HB2
    go_wp2_with fail
    refine (HT.out _).mono ?_
    rintro e w4 ⟨rfl, hb4'⟩
    have HB4 : Hid (Below w.heap.size w w4) := HB3.out.trans (hb4'.mono HB3.out.size)
    clear hb4' HB3
    go_wp2_with fail
    refine (HX.out _).mono ?_
    rintro e w5 ⟨rfl, hb5'⟩
    have HB5 : Hid (Below w.heap.size w w5) := HB4.out.trans (hb5'.mono HB4.out.size)
    clear hb5' HB4
    go_wp2_with fail
    refine (HY.out _).mono ?_
    rintro e w6 ⟨rfl, hb6'⟩
    have HB6 : Hid (Below w.heap.size w w6) := HB5.out.trans (hb6'.mono HB5.out.size)
    clear hb6' HB5
    go_wp2_with fail
    obtain ⟨B, hB⟩ : ∃ B, w6.heap.size = B := ⟨_, rfl⟩
    obtain ⟨cap, hcap⟩ : ∃ cap, grownCap w6 p.size 0 5 = cap := ⟨_, rfl⟩
    have hc : p.size ≤ cap := by rw [← hcap]; exact grownCap_ge _ _ _ _
    rw [hcap]
    have HR0 : Hid (Rw ((w6.alloc (.cells (bytesRow p cap) 5 ((bytesRow p cap).size, (bytesRow p cap).size + 1))).drew) B p.size (fun j => p.data.toList.getD j 0)) := by
      unfold Hid; rw [← hB]; exact Rw.bytes w6 p cap _ hc
    have HB0 : Hid (Below w.heap.size w ((w6.alloc (.cells (bytesRow p cap) 5 ((bytesRow p cap).size, (bytesRow p cap).size + 1))).drew)) := by
      unfold Hid
      exact (HB6.out.alloc HB6.out.size _).trans ⟨rfl, rfl, rfl, Nat.le_refl _, fun _ _ => rfl⟩
    have hBw : w.heap.size ≤ B := by rw [← hB]; exact HB6.out.size
    rw [hB]
    generalize (w6.alloc (.cells (bytesRow p cap) 5 ((bytesRow p cap).size, (bytesRow p cap).size + 1))).drew = w7 at *
    clear hB hcap kc HB6
    go_wp2_with fail
    go_loopw [15] (fun i wr => ∃ (k : Nat), k ≤ p.size ∧ i = .int .i64 (k : Int) ∧ Rw wr B p.size (fun j => if j < k then swapW (p.data.toList.getD j 0) else p.data.toList.getD j 0) ∧ Below w.heap.size w wr) (fun i _ => p.size - (intOf i).toNat)
    case atStart => exact ⟨0, by omega, rfl, HR0.out.same (fun j _ => by simp), HB0.out⟩
    case round =>
      obtain ⟨k, hk2, rfl, hr, hb⟩ := hrel
      have HR := Lib.hid hr
      have HB := Lib.hid hb
      clear hr hb HR0 HB0
      by_cases hlt : k < p.size
      · have hd : p.data.toList.getD k 0 = p[k] := by
          have hk' : k < p.data.toList.length := by simpa using hlt
          simp only [List.getD_eq_getElem?_getD, List.getElem?_eq_getElem hk']
          simp
          rfl
        have c0 := HR.out.cell k hlt
        have f0 := HR.out.free k hlt
        have HN : Hid (Rw (wr.setCell ⟨B, k, none⟩ (.int .u8 ((swapW (p[k])).toNat : Int))) B p.size (fun j => if j < k + 1 then swapW (p.data.toList.getD j 0) else p.data.toList.getD j 0)) :=
          (HR.out.set k hlt (swapW (p[k]))).same (fun j _ => by
            unfold upd
            by_cases e : j = k
            · subst e; rw [if_pos rfl, if_pos (by omega), hd]
            · rw [if_neg e]
              show (if j < k then swapW (p.data.toList.getD j 0) else p.data.toList.getD j 0) = _
              by_cases e2 : j < k
              · rw [if_pos e2, if_pos (by omega)]
              · rw [if_neg e2, if_neg (by omega)])
        have HN0 : Hid (swapW (p[k]) = p[k] → Rw wr B p.size (fun j => if j < k + 1 then swapW (p.data.toList.getD j 0) else p.data.toList.getD j 0)) := fun e => HR.out.same (fun j _ => by
          by_cases e1 : j = k
          · subst e1; rw [if_neg (by omega), if_pos (by omega), hd, e]
          · by_cases e2 : j < k
            · rw [if_pos e2, if_pos (by omega)]
            · rw [if_neg e2, if_neg (by omega)])
        have HBN : Hid (Below w.heap.size w (wr.setCell ⟨B, k, none⟩ (.int .u8 ((swapW (p[k])).toNat : Int)))) := HB.out.setCell hBw _
        by_cases hA : (p[k]).toNat = 65
        · have b1 : (((p[k]).toNat : Int) == 65) = true := by rw [nat65, decide_eq_true hA]
          have b2 : (((p[k]).toNat : Int) == 66) = false := by rw [nat66]; exact decide_eq_false (by omega)
          rw [show ((swapW (p[k])).toNat : Int) = 66 by rw [swapW_a hA]; rfl] at HN HBN
          clear hd hA HN0
          go_wp2_with fail
          go_roundw
          case rel => exact ⟨k + 1, by omega, by go_num, HN.out, HBN.out⟩
          case measure => simp [intOf]; omega
        · by_cases hBB : (p[k]).toNat = 66
          · have b1 : (((p[k]).toNat : Int) == 65) = false := by rw [nat65]; exact decide_eq_false hA
            have b2 : (((p[k]).toNat : Int) == 66) = true := by rw [nat66]; exact decide_eq_true hBB
            rw [show ((swapW (p[k])).toNat : Int) = 65 by rw [swapW_b hBB]; rfl] at HN HBN
            clear hd hA hBB HN0
            go_wp2_with fail
            go_roundw
            case rel => exact ⟨k + 1, by omega, by go_num, HN.out, HBN.out⟩
            case measure => simp [intOf]; omega
          · have b1 : (((p[k]).toNat : Int) == 65) = false := by rw [nat65]; exact decide_eq_false hA
            have b2 : (((p[k]).toNat : Int) == 66) = false := by rw [nat66]; exact decide_eq_false hBB
            have HN1 := Lib.hid (HN0.out (swapW_c hA hBB))
            clear hd hA hBB HN HN0 HBN
            go_wp2_with fail
            go_roundw
            case rel => exact ⟨k + 1, by omega, by go_num, HN1.out, HB.out⟩
            case measure => simp [intOf]; omega
      · obtain rfl : k = p.size := by omega
        have hr2 : Rw wr B p.size (fun j => swapW (p.data.toList.getD j 0)) := HR.out.same (fun j hj => by rw [if_pos hj])
        have HR2 := Lib.hid hr2
        clear HR hr2
        go_wp2_with fail
        refine (HP.out _).mono ?_
        rintro e w8 ⟨rfl, hb8⟩
        have HR8 := Lib.hid (HR2.out.later hb8)
        have HB8 : Hid (Below w.heap.size w w8) := HB.out.trans (hb8.mono HB.out.size)
        clear hb8 HB HR2
        go_wp2_with fail
        refine (HGB.out _).mono ?_
        rintro e w9 ⟨rfl, hb9⟩
        have HR9 := Lib.hid (HR8.out.later hb9)
        have HB9 : Hid (Below w.heap.size w w9) := HB8.out.trans (hb9.mono HB8.out.size)
        clear hb9 HB8 HR8
        go_wp2_with fail
        refine (HK.out _).mono ?_
        rintro e w10 ⟨rfl, hb10⟩
        have HR10 := Lib.hid (HR9.out.later hb10)
        have HB10 : Hid (Below w.heap.size w w10) := HB9.out.trans (hb10.mono HB9.out.size)
        clear hb10 HB9 HR9
        go_wp2_with fail
        refine (HGE.out _).mono ?_
        rintro e w11 ⟨rfl, hb11⟩
        have HR11 := Lib.hid (HR10.out.later hb11)
        have HB11 : Hid (Below w.heap.size w w11) := HB10.out.trans (hb11.mono HB10.out.size)
        clear hb11 HB10 HR10
        go_wp2_with fail
        refine (HZ.out _).mono ?_
        rintro e w12 ⟨rfl, hb12⟩
        have HR12 := Lib.hid (HR11.out.later hb12)
        have HB12 : Hid (Below w.heap.size w w12) := HB11.out.trans (hb12.mono HB11.out.size)
        clear hb12 HB11 HR11
        have hcv : (convert 22 9 (.slice (some ⟨B, 0, none⟩) p.size cap)).run Tryz.prog w12 = .ok (.string q) w12 := by
          have h := HR12.out.conv (cap := cap)
          have e : (List.range p.size).map (fun j => swapW (p.data.toList.getD j 0)) = p.data.toList.map swapW := by
            apply List.ext_getElem
            · simp
            · intro i h1 h2
              have hi : i < p.data.toList.length := by simpa using h2
              simp only [List.getElem_map, List.getElem_range, List.getD_eq_getElem?_getD, List.getElem?_eq_getElem hi, Option.getD_some]
          rw [e, ← HPE.out] at h
          exact h
        clear HR12
        go_wp2_with fail
        go_ret
        exact ⟨rfl, HB12.out⟩
  · have HI := Lib.hid (impl_no s hno (by omega))
    have HS := Lib.hid (spec_no s hno (by omega))
    generalize str [] = q at *
    clear hno
    go_wp2_with fail
    refine (HI.out _).mono ?_
    rintro e w2 ⟨rfl, hb2'⟩
    have HB2 : Hid (Below w.heap.size w w2) := HB1.out.trans (hb2'.mono HB1.out.size)
    clear hb2' HB1
    go_wp2_with fail
    refine (HS.out _).mono ?_
    rintro e w3 ⟨rfl, hb3'⟩
    have HB3 : Hid (Below w.heap.size w w3) := HB2.out.trans (hb3'.mono HB2.out.size)
    clear hb3' HB2
    go_wp2_with fail
    go_ret
    exact ⟨rfl, HB3.out⟩
end Go.Proofs.YtbccachkkflceaaGreatDoor.fnFormulaGame

