/-
  The walk of the drawn law on IsMonotone.
-/
import Derived.Test.YtbhkfibbepocfaaDoorDrawMo
import Derived.Test.YtbhkfibbepocfaaDoorMoM
namespace Go.Proofs.YtbhkfibbepocfaaDoor.fnMonotone
open Go.RowKit Go.Shelf Go.Proofs.YtbhkfibbepocfaaDoor.Plain Go.Proofs.YtbhkfibbepocfaaDoor.Fm Go.Proofs.YtbhkfibbepocfaaDoor.FmB Go.Proofs.YtbhkfibbepocfaaDoor.FmNo Go.Proofs.YtbhkfibbepocfaaDoor.FmSaid Go.Proofs.YtbhkfibbepocfaaDoor.FmTab Go.Proofs.YtbhkfibbepocfaaDoor.FmRow Go.Proofs.YtbhkfibbepocfaaDoor.Rd Go.Proofs.YtbhkfibbepocfaaDoor.DrawFm Go.Proofs.YtbhkfibbepocfaaDoor.DrawMo Go.Proofs.YtbhkfibbepocfaaDoor.TabW Go.Proofs.YtbhkfibbepocfaaDoor.Valid Go.Proofs.YtbhkfibbepocfaaDoor.Wid Go.Proofs.YtbhkfibbepocfaaDoor.Mono Go.Proofs.YtbhkfibbepocfaaDoor.MoM
set_option linter.unusedVariables false
set_option linter.unusedSimpArgs false

theorem drewn {w0 w : World} (h : Below w0.heap.size w0 w) (q : Nat) : Below w0.heap.size w0 (w.drewN q) := ⟨h.os, h.tape, h.output, h.size, h.block⟩
theorem all_succ (f : Nat → Bool) (k : Nat) : (List.range (k + 1)).all f = ((List.range k).all f && f k) := by
  rw [List.range_succ, List.all_append]
  simp
theorem or_small (n i : Nat) (hn : n < 8) (hi : i < 3) : Go.bits .or .i64 (n : Int) ((2 ^ i : Nat) : Int) = ((n ||| 2 ^ i : Nat) : Int) := by
  have h : ∀ n : Fin 8, ∀ i : Fin 3, Go.bits .or .i64 ((n.val : Nat) : Int) ((2 ^ i.val : Nat) : Int) = ((n.val ||| 2 ^ i.val : Nat) : Int) := by decide +kernel
  exact h ⟨n, hn⟩ ⟨i, hi⟩
theorem upd_byte (c : UInt8) : (88 ≤ c.toNat ∧ c.toNat ≤ 90 ∧ (upB c).toNat = c.toNat + 32) ∨ ((c.toNat < 88 ∨ 90 < c.toNat) ∧ upB c = c) := by
  unfold upB
  by_cases h : 88 ≤ c ∧ c ≤ 90
  · left
    rw [if_pos h]
    have h1 : (88 : UInt8).toNat ≤ c.toNat := UInt8.le_iff_toNat_le.1 h.1
    have h2 : c.toNat ≤ (90 : UInt8).toNat := UInt8.le_iff_toNat_le.1 h.2
    have h3 : (88 : UInt8).toNat = 88 := rfl
    have h4 : (90 : UInt8).toNat = 90 := rfl
    refine ⟨by omega, by omega, ?_⟩
    rw [UInt8.toNat_add]
    show (c.toNat + 32) % 256 = _
    omega
  · right
    rw [if_neg h]
    refine ⟨?_, rfl⟩
    apply Classical.byContradiction
    intro hn
    exact h ⟨UInt8.le_iff_toNat_le.2 (show 88 ≤ c.toNat by omega), UInt8.le_iff_toNat_le.2 (show c.toNat ≤ 90 by omega)⟩

set_option maxHeartbeats 16000000 in
set_option maxRecDepth 100000 in
theorem walk (v : Value) (n : Nat) (v2 : Value) (n2 : Nat) (w : World) (h : ByteArg w v n) (h2 : ByteArg w v2 n2) :
    Calls Tryd.prog 4 #[v, v2] w fun e w' => e = .returned (.bool true) ∧ Below w.heap.size w w' := by
  obtain ⟨hn0, a, cap, rfl, hc, hb0⟩ := id h
  obtain ⟨hn02, a2, cap2, rfl, hc2, hb02⟩ := id h2
  clear hb0 hb02
  have HD := Lib.hid (draw_mono _ n w h)
  have HE := Lib.hid (fun (W : World) (hb : Below w.heap.size w W) => draw_valid _ n2 W (h2.later hb))
  clear h h2
  by_cases hbig : 1048576 < n
  · have hbi : (1048576 : Int) < (n : Int) := by omega
    go_enter Tryd.func4, Tryd.ntmps4
    go_wp2_with fail
    go_ret
    exact ⟨rfl, Below.refl _ _⟩
  have hbi : ¬ (1048576 : Int) < (n : Int) := by omega
  by_cases hbig2 : 1048576 < n2
  · have hbi2 : (1048576 : Int) < (n2 : Int) := by omega
    go_enter Tryd.func4, Tryd.ntmps4
    go_wp2_with fail
    go_ret
    exact ⟨rfl, Below.refl _ _⟩
  have hbi2 : ¬ (1048576 : Int) < (n2 : Int) := by omega
  go_enter Tryd.func4, Tryd.ntmps4
  go_wp2_with fail
  refine HD.out.mono ?_
  rintro e w1 ⟨s, rfl, hs, hb⟩
  have HB1 := Lib.hid hb
  clear HD hbig hbig2 hbi hbi2 hb
  have hsm : s.size ≤ maxLen := by unfold maxLen; omega
  have HM := Lib.hid (impl_mono s hsm)
  have HS := Lib.hid (spec_mono s hsm)
  have HT := Lib.hid (impl_tabv s hsm)
  have HW := Lib.hid (impl_width s hsm)
  rcases width_or s with ⟨b, N, hb1, hb3, hN, hN8, hN2, hsz, hok, hw⟩ | hw
  · have htv : tabV s = true := by unfold tabV; rw [hw]; exact decide_eq_true (by omega)
    have hR : monoR s = monoV s := by unfold monoR; rw [htv, Bool.true_and]
    have hGM := good_mono s b hb1 hb3 hok (by omega)
    rw [hR] at HM HS
    rw [htv] at HT
    rw [hw] at HW
    rw [hGM] at HM HS
    have HBY := Lib.hid (fun k hk => ok_byte hok k hk)
    have HUP : Hid (∀ n i, n < s.size → i < b → (n ||| 2 ^ i) < s.size) := fun n i h1 h2 => by have := (up_lt n i b hb3 (by omega) h2).1; omega
    obtain ⟨r, hr⟩ : ∃ r, goodV s b = r := ⟨_, rfl⟩
    rw [hr] at HM HS
    have HR := Lib.hid hr
    clear htv hR hGM hok hw hN hr hsm
    have hs8 : s.size ≤ 8 := by omega
    clear hsz hN8 hN2
    cases r
    · go_wp2_with fail
      refine (HM.out _).mono ?_
      rintro e w2 ⟨rfl, hb2'⟩
      have HB2 : Hid (Below w.heap.size w w2) := HB1.out.trans (hb2'.mono HB1.out.size)
      clear hb2' HB1
      go_wp2_with fail
      refine (HS.out _).mono ?_
      rintro e w3 ⟨rfl, rfl⟩
      go_wp2_with fail
      refine (HT.out _).mono ?_
      rintro e w4 ⟨rfl, hb4'⟩
      have HB4 : Hid (Below w.heap.size w w4) := HB2.out.trans (hb4'.mono HB2.out.size)
      clear hb4' HB2
      go_wp2_with fail
      go_loopw [7, 8] (fun gd i wr => ∃ (k : Nat) (gb : Bool), k ≤ s.size ∧ gd = .bool gb ∧ Hid (gb = (List.range k).all fun n => (List.range b).all fun i => stepV s n i) ∧ i = .int .i64 (k : Int) ∧ Below w.heap.size w wr) (fun _ i _ => s.size - (intOf i).toNat)
      case atStart => exact ⟨0, true, by omega, rfl, rfl, rfl, HB4.out⟩
      case round =>
        obtain ⟨k, gb, hk, rfl, hgb, rfl, hb⟩ := hrel
        have HB5 := Lib.hid hb
        clear hb HB4
        by_cases hlt : k < s.size
        · go_wp2_with fail
          go_loopw [7, 9] (fun gd i wr => ∃ (j : Nat) (gc : Bool), j ≤ b ∧ gd = .bool gc ∧ Hid (gc = (gb && (List.range j).all fun i => stepV s k i)) ∧ i = .int .i64 (j : Int) ∧ Below w.heap.size w wr) (fun _ i _ => b - (intOf i).toNat)
          case atStart => exact ⟨0, gb, by omega, rfl, by unfold Hid; simp, rfl, HB5.out⟩
          case round =>
            obtain ⟨j, gc, hj, rfl, hgc, rfl, hb⟩ := hrel
            have HB6 := Lib.hid hb
            clear hb HB5
            by_cases hlj : j < b
            · have hup := HUP.out k j hlt hlj
              have hor := or_small k j (by omega) (by omega)
              have hsh : IntKind.i64.wrap (2 ^ j) = ((2 ^ j : Nat) : Int) := by
                have h8 : 2 ^ j ≤ 8 := Nat.pow_le_pow_right (n := 2) (by decide) (show j ≤ 3 by omega)
                rw [show ((2 : Int) ^ j) = ((2 ^ j : Nat) : Int) by simp]
                generalize (2 ^ j : Nat) = X at *
                rw [IntKind.wrap_i64]
                omega
              have hsu : IntKind.u64.wrap (j : Int) = (j : Int) := by rw [IntKind.wrap_u64]; omega
              have HK := Lib.hid (HBY.out k hlt)
              have HJ := Lib.hid (HBY.out _ hup)
              have HST : Hid (stepV s k j = ((s.data.toList.getD k 0 == 48) || (s.data.toList.getD (k ||| 2 ^ j) 0 == 49))) := rfl
              have HGN : Hid (∀ v, stepV s k j = v → (gc && v) = (gb && (List.range (j + 1)).all fun i => stepV s k i)) := fun v e => by rw [all_succ, hgc.out, ← e, Bool.and_assoc]
              generalize (k ||| 2 ^ j) = u at *
              generalize (2 ^ j : Nat) = X at *
              clear hgc
              rcases HK.out with ⟨dk, ek⟩ | ⟨dk, ek⟩ <;> rcases HJ.out with ⟨dj, ej⟩ | ⟨dj, ej⟩ <;> cases gc
              all_goals
                have HV := HST.out
                rw [dk, dj] at HV
                have HG := Lib.hid (HGN.out _ HV)
                clear HV dk dj HST HGN
                go_wp2_with fail
                refine (HW.out _).mono ?_
                rintro e w7 ⟨rfl, hb7⟩
                have HB7 : Hid (Below w.heap.size w w7) := HB6.out.trans (hb7.mono HB6.out.size)
                clear hb7
                go_wp2_with fail
                go_roundw
                case rel => exact ⟨j + 1, _, by omega, rfl, HG.out, by go_num, HB7.out⟩
                case measure => simp [intOf]; omega
            · obtain rfl : j = b := by omega
              have HGN : Hid (gc = (List.range (k + 1)).all fun n => (List.range j).all fun i => stepV s n i) := by unfold Hid; rw [all_succ, ← hgb.out]; exact hgc.out
              clear hgc
              go_wp2_with fail
              refine (HW.out _).mono ?_
              rintro e w7 ⟨rfl, hb7⟩
              have HB7 : Hid (Below w.heap.size w w7) := HB6.out.trans (hb7.mono HB6.out.size)
              clear hb7
              go_wp2_with fail
              go_roundw
              case rel => exact ⟨k + 1, gc, by omega, rfl, HGN.out, by go_num, HB7.out⟩
              case measure => simp [intOf]; omega
        · obtain rfl : k = s.size := by omega
          have hgr : gb = false := hgb.out.trans HR.out
          subst hgr
          clear hgb HR
          have HE2 := Lib.hid (HE.out _ HB5.out)
          go_wp2_with fail
          refine HE2.out.mono ?_
          rintro e w6 ⟨f, fb, rfl, hf, hfb, hb6⟩
          have HB6 : Hid (Below w.heap.size w w6) := HB5.out.trans (hb6.mono HB5.out.size)
          clear hb6 HE2 HE HB5
          obtain ⟨x, hx, _, hxI⟩ := said_valid f (by omega) fb
          have HX := Lib.hid hxI
          clear hxI
          cases x
          · clear hx
            go_wp2_with fail
            refine (HX.out _).mono ?_
            rintro e w7 ⟨rfl, hb7'⟩
            have HB7 : Hid (Below w.heap.size w w7) := HB6.out.trans (hb7'.mono HB6.out.size)
            clear hb7' HB6
            go_wp2_with fail
            go_ret
            exact ⟨rfl, HB7.out⟩
          · obtain ⟨hfb2, hfl, t, hw, ht⟩ := hx.1 rfl
            obtain ⟨M, rfl⟩ : ∃ M : Nat, fb = M := ⟨fb.toNat, by omega⟩
            have hwM : wf M t := by simpa using hw
            have hpt : text (plainF t) = f.data.toList.map upB := by rw [ht]; exact plain_text t (wf_mono (by omega) t hwM)
            have hpl : (str (f.data.toList.map upB)).size ≤ 200 := by rw [str_size]; simp; omega
            have HTO := Lib.hid (impl_tab M (2 ^ M) (by omega) (by omega) rfl (str (f.data.toList.map upB)) (plainF t) (plain_wf M t hwM) (by rw [hpt]; simp [str]) hpl)
            have HMO := Lib.hid (impl_mono (str (tabL (plainF t) (2 ^ M))) (by rw [tab_size]; have : 2 ^ M ≤ 2 ^ 3 := Nat.pow_le_pow_right (by decide) (by omega); unfold maxLen; omega))
            rw [plain_mono t M (by omega) (by omega)] at HMO
            generalize str (tabL (plainF t) (2 ^ M)) = tq at *
            have kc := fun (w : World) => run_bytes_of_string (P := Tryd.prog) w 9 22 5 f Tryd.underlying9 Tryd.underlying22 Tryd.underlying5
            clear hx hw hwM ht hpt hpl hfb2
            go_wp2_with fail
            refine (HX.out _).mono ?_
            rintro e w7 ⟨rfl, hb7'⟩
            have HB7 : Hid (Below w.heap.size w w7) := HB6.out.trans (hb7'.mono HB6.out.size)
            clear hb7' HB6
            go_wp2_with fail
            obtain ⟨B, hB⟩ : ∃ B, w7.heap.size = B := ⟨_, rfl⟩
            obtain ⟨cap, hcap⟩ : ∃ cap, grownCap w7 f.size 0 5 = cap := ⟨_, rfl⟩
            have hc : f.size ≤ cap := by rw [← hcap]; exact grownCap_ge _ _ _ _
            rw [hcap]
            have HR0 : Hid (Rw ((w7.alloc (.cells (bytesRow f cap) 5 ((bytesRow f cap).size, (bytesRow f cap).size + 1))).drew) B f.size (fun j => f.data.toList.getD j 0)) := by
              unfold Hid; rw [← hB]; exact Rw.bytes w7 f cap _ hc
            have HB0 : Hid (Below w.heap.size w ((w7.alloc (.cells (bytesRow f cap) 5 ((bytesRow f cap).size, (bytesRow f cap).size + 1))).drew)) := by
              unfold Hid
              exact (HB7.out.alloc HB7.out.size _).trans ⟨rfl, rfl, rfl, Nat.le_refl _, fun _ _ => rfl⟩
            have hBw : w.heap.size ≤ B := by rw [← hB]; exact HB7.out.size
            rw [hB]
            generalize (w7.alloc (.cells (bytesRow f cap) 5 ((bytesRow f cap).size, (bytesRow f cap).size + 1))).drew = w8 at *
            clear hB hcap kc HB7
            go_loopw [14] (fun i wr => ∃ (k : Nat), k ≤ f.size ∧ i = .int .i64 (k : Int) ∧ Rw wr B f.size (fun j => if j < k then upB (f.data.toList.getD j 0) else f.data.toList.getD j 0) ∧ Below w.heap.size w wr) (fun i _ => f.size - (intOf i).toNat)
            case atStart => exact ⟨0, by omega, rfl, HR0.out.same (fun j _ => by simp), HB0.out⟩
            case round =>
              obtain ⟨k, hk2, rfl, hr, hb⟩ := hrel
              have HRr := Lib.hid hr
              have HBr := Lib.hid hb
              clear hr hb
              by_cases hlf : k < f.size
              · have c0 := HRr.out.cell k hlf
                have f0 := HRr.out.free k hlf
                simp only [Nat.lt_irrefl, if_false] at c0
                obtain ⟨c, hcc⟩ : ∃ c, f.data.toList.getD k 0 = c := ⟨_, rfl⟩
                rw [hcc] at c0
                have hc256 := UInt8.toNat_lt c
                have HNX : Hid (∀ wz, Rw wz B f.size (upd (fun j => if j < k then upB (f.data.toList.getD j 0) else f.data.toList.getD j 0) k (upB c)) → Rw wz B f.size (fun j => if j < k + 1 then upB (f.data.toList.getD j 0) else f.data.toList.getD j 0)) := fun wz hz => hz.same (fun j _ => by
                  unfold upd
                  by_cases e : j = k
                  · subst e; rw [if_pos rfl, if_pos (by omega), hcc]
                  · rw [if_neg e]
                    show (if j < k then upB (f.data.toList.getD j 0) else f.data.toList.getD j 0) = _
                    by_cases e2 : j < k
                    · rw [if_pos e2, if_pos (by omega)]
                    · rw [if_neg e2, if_neg (by omega)])
                rcases upd_byte c with ⟨h88, h90, hup⟩ | ⟨hno, hup⟩
                · have HN : Hid (Rw (wr.setCell ⟨B, k, none⟩ (.int .u8 ((upB c).toNat : Int))) B f.size (fun j => if j < k + 1 then upB (f.data.toList.getD j 0) else f.data.toList.getD j 0)) := HNX.out _ (HRr.out.set k hlf (upB c))
                  have HBN : Hid (Below w.heap.size w (wr.setCell ⟨B, k, none⟩ (.int .u8 ((upB c).toNat : Int)))) := HBr.out.setCell hBw _
                  rw [hup] at HN HBN
                  have hwr : IntKind.u8.wrap ((c.toNat : Int) + 32) = ((c.toNat + 32 : Nat) : Int) := by rw [IntKind.wrap_u8]; omega
                  clear hup hcc HNX
                  generalize c.toNat = cn at *
                  go_wp2_with fail
                  go_roundw
                  case rel => exact ⟨k + 1, by omega, by go_num, by first | exact HN.out | (have h := HN.out; rw [← hwr] at h; exact h), by first | exact HBN.out | (have h := HBN.out; rw [← hwr] at h; exact h)⟩
                  case measure => simp [intOf]; omega
                · have HN : Hid (Rw wr B f.size (fun j => if j < k + 1 then upB (f.data.toList.getD j 0) else f.data.toList.getD j 0)) := HRr.out.same (fun j _ => by
                    by_cases e : j = k
                    · subst e
                      rw [if_pos (show j < j + 1 by omega), hcc, hup]
                      show (if j < j then _ else _) = _
                      rw [if_neg (by omega)]
                      try rw [hcc]
                    · show (if j < k then upB (f.data.toList.getD j 0) else f.data.toList.getD j 0) = _
                      by_cases e2 : j < k
                      · rw [if_pos e2, if_pos (by omega)]
                      · rw [if_neg e2, if_neg (by omega)])
                  clear hup hcc HNX
                  generalize c.toNat = cn at *
                  rcases hno with hlow | hhigh
                  all_goals
                    go_wp2_with fail
                    go_roundw
                    case rel => exact ⟨k + 1, by omega, by go_num, HN.out, HBr.out⟩
                    case measure => simp [intOf]; omega
              · obtain rfl : k = f.size := by omega
                have hr2 : Rw wr B f.size (fun j => upB (f.data.toList.getD j 0)) := HRr.out.same (fun j hj => by rw [if_pos hj])
                have hcv : (convert 22 9 (.slice (some ⟨B, 0, none⟩) f.size cap)).run Tryd.prog wr = .ok (.string (str (f.data.toList.map upB))) wr := by
                  have h := hr2.conv (cap := cap)
                  have e : (List.range f.size).map (fun j => upB (f.data.toList.getD j 0)) = f.data.toList.map upB := by
                    apply List.ext_getElem
                    · simp
                    · intro i h1 h2
                      have hi : i < f.data.toList.length := by simpa using h2
                      simp only [List.getElem_map, List.getElem_range, List.getD_eq_getElem?_getD, List.getElem?_eq_getElem hi, Option.getD_some]
                  rw [e] at h
                  exact h
                generalize str (f.data.toList.map upB) = pq at *
                clear hr2 HRr HR0 HB0
                go_wp2_with fail
                refine (HTO.out _).mono ?_
                rintro e w9 ⟨rfl, hb9'⟩
                have HB9 : Hid (Below w.heap.size w w9) := HBr.out.trans (hb9'.mono HBr.out.size)
                clear hb9' HBr
                go_wp2_with fail
                refine (HMO.out _).mono ?_
                rintro e w10 ⟨rfl, hb10'⟩
                have HB10 : Hid (Below w.heap.size w w10) := HB9.out.trans (hb10'.mono HB9.out.size)
                clear hb10' HB9
                go_wp2_with fail
                go_ret
                exact ⟨rfl, HB10.out⟩
    · go_wp2_with fail
      refine (HM.out _).mono ?_
      rintro e w2 ⟨rfl, hb2'⟩
      have HB2 : Hid (Below w.heap.size w w2) := HB1.out.trans (hb2'.mono HB1.out.size)
      clear hb2' HB1
      go_wp2_with fail
      refine (HS.out _).mono ?_
      rintro e w3 ⟨rfl, rfl⟩
      go_wp2_with fail
      refine (HT.out _).mono ?_
      rintro e w4 ⟨rfl, hb4'⟩
      have HB4 : Hid (Below w.heap.size w w4) := HB2.out.trans (hb4'.mono HB2.out.size)
      clear hb4' HB2
      go_wp2_with fail
      go_loopw [7, 8] (fun gd i wr => ∃ (k : Nat) (gb : Bool), k ≤ s.size ∧ gd = .bool gb ∧ Hid (gb = (List.range k).all fun n => (List.range b).all fun i => stepV s n i) ∧ i = .int .i64 (k : Int) ∧ Below w.heap.size w wr) (fun _ i _ => s.size - (intOf i).toNat)
      case atStart => exact ⟨0, true, by omega, rfl, rfl, rfl, HB4.out⟩
      case round =>
        obtain ⟨k, gb, hk, rfl, hgb, rfl, hb⟩ := hrel
        have HB5 := Lib.hid hb
        clear hb HB4
        by_cases hlt : k < s.size
        · go_wp2_with fail
          go_loopw [7, 9] (fun gd i wr => ∃ (j : Nat) (gc : Bool), j ≤ b ∧ gd = .bool gc ∧ Hid (gc = (gb && (List.range j).all fun i => stepV s k i)) ∧ i = .int .i64 (j : Int) ∧ Below w.heap.size w wr) (fun _ i _ => b - (intOf i).toNat)
          case atStart => exact ⟨0, gb, by omega, rfl, by unfold Hid; simp, rfl, HB5.out⟩
          case round =>
            obtain ⟨j, gc, hj, rfl, hgc, rfl, hb⟩ := hrel
            have HB6 := Lib.hid hb
            clear hb HB5
            by_cases hlj : j < b
            · have hup := HUP.out k j hlt hlj
              have hor := or_small k j (by omega) (by omega)
              have hsh : IntKind.i64.wrap (2 ^ j) = ((2 ^ j : Nat) : Int) := by
                have h8 : 2 ^ j ≤ 8 := Nat.pow_le_pow_right (n := 2) (by decide) (show j ≤ 3 by omega)
                rw [show ((2 : Int) ^ j) = ((2 ^ j : Nat) : Int) by simp]
                generalize (2 ^ j : Nat) = X at *
                rw [IntKind.wrap_i64]
                omega
              have hsu : IntKind.u64.wrap (j : Int) = (j : Int) := by rw [IntKind.wrap_u64]; omega
              have HK := Lib.hid (HBY.out k hlt)
              have HJ := Lib.hid (HBY.out _ hup)
              have HST : Hid (stepV s k j = ((s.data.toList.getD k 0 == 48) || (s.data.toList.getD (k ||| 2 ^ j) 0 == 49))) := rfl
              have HGN : Hid (∀ v, stepV s k j = v → (gc && v) = (gb && (List.range (j + 1)).all fun i => stepV s k i)) := fun v e => by rw [all_succ, hgc.out, ← e, Bool.and_assoc]
              generalize (k ||| 2 ^ j) = u at *
              generalize (2 ^ j : Nat) = X at *
              clear hgc
              rcases HK.out with ⟨dk, ek⟩ | ⟨dk, ek⟩ <;> rcases HJ.out with ⟨dj, ej⟩ | ⟨dj, ej⟩ <;> cases gc
              all_goals
                have HV := HST.out
                rw [dk, dj] at HV
                have HG := Lib.hid (HGN.out _ HV)
                clear HV dk dj HST HGN
                go_wp2_with fail
                refine (HW.out _).mono ?_
                rintro e w7 ⟨rfl, hb7⟩
                have HB7 : Hid (Below w.heap.size w w7) := HB6.out.trans (hb7.mono HB6.out.size)
                clear hb7
                go_wp2_with fail
                go_roundw
                case rel => exact ⟨j + 1, _, by omega, rfl, HG.out, by go_num, HB7.out⟩
                case measure => simp [intOf]; omega
            · obtain rfl : j = b := by omega
              have HGN : Hid (gc = (List.range (k + 1)).all fun n => (List.range j).all fun i => stepV s n i) := by unfold Hid; rw [all_succ, ← hgb.out]; exact hgc.out
              clear hgc
              go_wp2_with fail
              refine (HW.out _).mono ?_
              rintro e w7 ⟨rfl, hb7⟩
              have HB7 : Hid (Below w.heap.size w w7) := HB6.out.trans (hb7.mono HB6.out.size)
              clear hb7
              go_wp2_with fail
              go_roundw
              case rel => exact ⟨k + 1, gc, by omega, rfl, HGN.out, by go_num, HB7.out⟩
              case measure => simp [intOf]; omega
        · obtain rfl : k = s.size := by omega
          have hgr : gb = true := hgb.out.trans HR.out
          subst hgr
          clear hgb HR
          have HE2 := Lib.hid (HE.out _ HB5.out)
          go_wp2_with fail
          refine HE2.out.mono ?_
          rintro e w6 ⟨f, fb, rfl, hf, hfb, hb6⟩
          have HB6 : Hid (Below w.heap.size w w6) := HB5.out.trans (hb6.mono HB5.out.size)
          clear hb6 HE2 HE HB5
          obtain ⟨x, hx, _, hxI⟩ := said_valid f (by omega) fb
          have HX := Lib.hid hxI
          clear hxI
          cases x
          · clear hx
            go_wp2_with fail
            refine (HX.out _).mono ?_
            rintro e w7 ⟨rfl, hb7'⟩
            have HB7 : Hid (Below w.heap.size w w7) := HB6.out.trans (hb7'.mono HB6.out.size)
            clear hb7' HB6
            go_wp2_with fail
            go_ret
            exact ⟨rfl, HB7.out⟩
          · obtain ⟨hfb2, hfl, t, hw, ht⟩ := hx.1 rfl
            obtain ⟨M, rfl⟩ : ∃ M : Nat, fb = M := ⟨fb.toNat, by omega⟩
            have hwM : wf M t := by simpa using hw
            have hpt : text (plainF t) = f.data.toList.map upB := by rw [ht]; exact plain_text t (wf_mono (by omega) t hwM)
            have hpl : (str (f.data.toList.map upB)).size ≤ 200 := by rw [str_size]; simp; omega
            have HTO := Lib.hid (impl_tab M (2 ^ M) (by omega) (by omega) rfl (str (f.data.toList.map upB)) (plainF t) (plain_wf M t hwM) (by rw [hpt]; simp [str]) hpl)
            have HMO := Lib.hid (impl_mono (str (tabL (plainF t) (2 ^ M))) (by rw [tab_size]; have : 2 ^ M ≤ 2 ^ 3 := Nat.pow_le_pow_right (by decide) (by omega); unfold maxLen; omega))
            rw [plain_mono t M (by omega) (by omega)] at HMO
            generalize str (tabL (plainF t) (2 ^ M)) = tq at *
            have kc := fun (w : World) => run_bytes_of_string (P := Tryd.prog) w 9 22 5 f Tryd.underlying9 Tryd.underlying22 Tryd.underlying5
            clear hx hw hwM ht hpt hpl hfb2
            go_wp2_with fail
            refine (HX.out _).mono ?_
            rintro e w7 ⟨rfl, hb7'⟩
            have HB7 : Hid (Below w.heap.size w w7) := HB6.out.trans (hb7'.mono HB6.out.size)
            clear hb7' HB6
            go_wp2_with fail
            obtain ⟨B, hB⟩ : ∃ B, w7.heap.size = B := ⟨_, rfl⟩
            obtain ⟨cap, hcap⟩ : ∃ cap, grownCap w7 f.size 0 5 = cap := ⟨_, rfl⟩
            have hc : f.size ≤ cap := by rw [← hcap]; exact grownCap_ge _ _ _ _
            rw [hcap]
            have HR0 : Hid (Rw ((w7.alloc (.cells (bytesRow f cap) 5 ((bytesRow f cap).size, (bytesRow f cap).size + 1))).drew) B f.size (fun j => f.data.toList.getD j 0)) := by
              unfold Hid; rw [← hB]; exact Rw.bytes w7 f cap _ hc
            have HB0 : Hid (Below w.heap.size w ((w7.alloc (.cells (bytesRow f cap) 5 ((bytesRow f cap).size, (bytesRow f cap).size + 1))).drew)) := by
              unfold Hid
              exact (HB7.out.alloc HB7.out.size _).trans ⟨rfl, rfl, rfl, Nat.le_refl _, fun _ _ => rfl⟩
            have hBw : w.heap.size ≤ B := by rw [← hB]; exact HB7.out.size
            rw [hB]
            generalize (w7.alloc (.cells (bytesRow f cap) 5 ((bytesRow f cap).size, (bytesRow f cap).size + 1))).drew = w8 at *
            clear hB hcap kc HB7
            go_loopw [14] (fun i wr => ∃ (k : Nat), k ≤ f.size ∧ i = .int .i64 (k : Int) ∧ Rw wr B f.size (fun j => if j < k then upB (f.data.toList.getD j 0) else f.data.toList.getD j 0) ∧ Below w.heap.size w wr) (fun i _ => f.size - (intOf i).toNat)
            case atStart => exact ⟨0, by omega, rfl, HR0.out.same (fun j _ => by simp), HB0.out⟩
            case round =>
              obtain ⟨k, hk2, rfl, hr, hb⟩ := hrel
              have HRr := Lib.hid hr
              have HBr := Lib.hid hb
              clear hr hb
              by_cases hlf : k < f.size
              · have c0 := HRr.out.cell k hlf
                have f0 := HRr.out.free k hlf
                simp only [Nat.lt_irrefl, if_false] at c0
                obtain ⟨c, hcc⟩ : ∃ c, f.data.toList.getD k 0 = c := ⟨_, rfl⟩
                rw [hcc] at c0
                have hc256 := UInt8.toNat_lt c
                have HNX : Hid (∀ wz, Rw wz B f.size (upd (fun j => if j < k then upB (f.data.toList.getD j 0) else f.data.toList.getD j 0) k (upB c)) → Rw wz B f.size (fun j => if j < k + 1 then upB (f.data.toList.getD j 0) else f.data.toList.getD j 0)) := fun wz hz => hz.same (fun j _ => by
                  unfold upd
                  by_cases e : j = k
                  · subst e; rw [if_pos rfl, if_pos (by omega), hcc]
                  · rw [if_neg e]
                    show (if j < k then upB (f.data.toList.getD j 0) else f.data.toList.getD j 0) = _
                    by_cases e2 : j < k
                    · rw [if_pos e2, if_pos (by omega)]
                    · rw [if_neg e2, if_neg (by omega)])
                rcases upd_byte c with ⟨h88, h90, hup⟩ | ⟨hno, hup⟩
                · have HN : Hid (Rw (wr.setCell ⟨B, k, none⟩ (.int .u8 ((upB c).toNat : Int))) B f.size (fun j => if j < k + 1 then upB (f.data.toList.getD j 0) else f.data.toList.getD j 0)) := HNX.out _ (HRr.out.set k hlf (upB c))
                  have HBN : Hid (Below w.heap.size w (wr.setCell ⟨B, k, none⟩ (.int .u8 ((upB c).toNat : Int)))) := HBr.out.setCell hBw _
                  rw [hup] at HN HBN
                  have hwr : IntKind.u8.wrap ((c.toNat : Int) + 32) = ((c.toNat + 32 : Nat) : Int) := by rw [IntKind.wrap_u8]; omega
                  clear hup hcc HNX
                  generalize c.toNat = cn at *
                  go_wp2_with fail
                  go_roundw
                  case rel => exact ⟨k + 1, by omega, by go_num, by first | exact HN.out | (have h := HN.out; rw [← hwr] at h; exact h), by first | exact HBN.out | (have h := HBN.out; rw [← hwr] at h; exact h)⟩
                  case measure => simp [intOf]; omega
                · have HN : Hid (Rw wr B f.size (fun j => if j < k + 1 then upB (f.data.toList.getD j 0) else f.data.toList.getD j 0)) := HRr.out.same (fun j _ => by
                    by_cases e : j = k
                    · subst e
                      rw [if_pos (show j < j + 1 by omega), hcc, hup]
                      show (if j < j then _ else _) = _
                      rw [if_neg (by omega)]
                      try rw [hcc]
                    · show (if j < k then upB (f.data.toList.getD j 0) else f.data.toList.getD j 0) = _
                      by_cases e2 : j < k
                      · rw [if_pos e2, if_pos (by omega)]
                      · rw [if_neg e2, if_neg (by omega)])
                  clear hup hcc HNX
                  generalize c.toNat = cn at *
                  rcases hno with hlow | hhigh
                  all_goals
                    go_wp2_with fail
                    go_roundw
                    case rel => exact ⟨k + 1, by omega, by go_num, HN.out, HBr.out⟩
                    case measure => simp [intOf]; omega
              · obtain rfl : k = f.size := by omega
                have hr2 : Rw wr B f.size (fun j => upB (f.data.toList.getD j 0)) := HRr.out.same (fun j hj => by rw [if_pos hj])
                have hcv : (convert 22 9 (.slice (some ⟨B, 0, none⟩) f.size cap)).run Tryd.prog wr = .ok (.string (str (f.data.toList.map upB))) wr := by
                  have h := hr2.conv (cap := cap)
                  have e : (List.range f.size).map (fun j => upB (f.data.toList.getD j 0)) = f.data.toList.map upB := by
                    apply List.ext_getElem
                    · simp
                    · intro i h1 h2
                      have hi : i < f.data.toList.length := by simpa using h2
                      simp only [List.getElem_map, List.getElem_range, List.getD_eq_getElem?_getD, List.getElem?_eq_getElem hi, Option.getD_some]
                  rw [e] at h
                  exact h
                generalize str (f.data.toList.map upB) = pq at *
                clear hr2 HRr HR0 HB0
                go_wp2_with fail
                refine (HTO.out _).mono ?_
                rintro e w9 ⟨rfl, hb9'⟩
                have HB9 : Hid (Below w.heap.size w w9) := HBr.out.trans (hb9'.mono HBr.out.size)
                clear hb9' HBr
                go_wp2_with fail
                refine (HMO.out _).mono ?_
                rintro e w10 ⟨rfl, hb10'⟩
                have HB10 : Hid (Below w.heap.size w w10) := HB9.out.trans (hb10'.mono HB9.out.size)
                clear hb10' HB9
                go_wp2_with fail
                go_ret
                exact ⟨rfl, HB10.out⟩
  · have htv : tabV s = false := by unfold tabV; rw [hw]; rfl
    have hR : monoR s = false := by unfold monoR; rw [htv]; rfl
    rw [hR] at HM HS
    rw [htv] at HT
    clear htv hR hw HW HE
    go_wp2_with fail
    refine (HM.out _).mono ?_
    rintro e w2 ⟨rfl, hb2'⟩
    have HB2 : Hid (Below w.heap.size w w2) := HB1.out.trans (hb2'.mono HB1.out.size)
    clear hb2' HB1
    go_wp2_with fail
    refine (HS.out _).mono ?_
    rintro e w3 ⟨rfl, rfl⟩
    go_wp2_with fail
    refine (HT.out _).mono ?_
    rintro e w4 ⟨rfl, hb4'⟩
    have HB4 : Hid (Below w.heap.size w w4) := HB2.out.trans (hb4'.mono HB2.out.size)
    clear hb4' HB2
    go_wp2_with fail
    refine (HS.out _).mono ?_
    rintro e w5 ⟨rfl, rfl⟩
    go_wp2_with fail
    refine (HT.out _).mono ?_
    rintro e w6 ⟨rfl, hb6'⟩
    have HB6 : Hid (Below w.heap.size w w6) := HB4.out.trans (hb6'.mono HB4.out.size)
    clear hb6' HB4
    go_wp2_with fail
    go_ret
    exact ⟨rfl, HB6.out⟩
end Go.Proofs.YtbhkfibbepocfaaDoor.fnMonotone
