/-
  The dual of a formula, of both sides.
-/
import Derived.Test.YtbhkfibbepocfaaFmText
import Derived.Test.YtbhkfibbepocfaaFmParts
import Derived.Test.YtbhkfibbepocfaaFmRow
namespace Go.Proofs.Ytbhkfibbepocfaa.FmDual
open Go.RowKit Go.Shelf Go.Proofs.Ytbhkfibbepocfaa.Plain Go.Proofs.Ytbhkfibbepocfaa.Fm Go.Proofs.Ytbhkfibbepocfaa.FmB Go.Proofs.Ytbhkfibbepocfaa.FmRead Go.Proofs.Ytbhkfibbepocfaa.FmNo Go.Proofs.Ytbhkfibbepocfaa.FmSaid Go.Proofs.Ytbhkfibbepocfaa.FmParts Go.Proofs.Ytbhkfibbepocfaa.FmMeth Go.Proofs.Ytbhkfibbepocfaa.FmText Go.Proofs.Ytbhkfibbepocfaa.FmRow
set_option linter.unusedVariables false
set_option linter.unusedSimpArgs false

/-- the byte that stands for another one, as the reference looks it up -/
theorem swap_at (c : UInt8) (h : known c) : ∃ o : Nat, o < 8 ∧ Lib.indexByte [120, 121, 122, 88, 89, 90, 38, 124] c = (o : Int) ∧ ∀ (ho : o < (⟨#[88, 89, 90, 120, 121, 122, 124, 38]⟩ : ByteArray).size), ((⟨#[88, 89, 90, 120, 121, 122, 124, 38]⟩ : ByteArray)[o]'ho) = swapB c := by
  have key : ∀ k : Fin 8, ∃ o : Fin 8, Lib.indexByte [120, 121, 122, 88, 89, 90, 38, 124] (([120, 121, 122, 88, 89, 90, 38, 124] : List UInt8)[k.1]'(by have := k.2; simp)) = (o.1 : Int) ∧ ((⟨#[88, 89, 90, 120, 121, 122, 124, 38]⟩ : ByteArray)[o.1]'(by have := o.2; exact this)) = swapB (([120, 121, 122, 88, 89, 90, 38, 124] : List UInt8)[k.1]'(by have := k.2; simp)) := by decide
  unfold known at h
  obtain ⟨k, hk, rfl⟩ := List.getElem_of_mem h
  have hk8 : k < 8 := by simpa using hk
  obtain ⟨o, h1, h2⟩ := key ⟨k, hk8⟩
  exact ⟨o.1, o.2, h1, fun _ => h2⟩
set_option maxHeartbeats 4000000 in
set_option maxRecDepth 100000 in
theorem dual_w (s : ByteArray) (hs : s.size ≤ 2000) (hk : ∀ c ∈ s.data.toList, known c) (w : World) :
    Calls Try.prog 31 #[.string s] w fun e w' => e = .returned (.string (str (s.data.toList.map swapB))) ∧ Below w.heap.size w w' := by
  have kc := fun (w : World) => run_bytes_of_string (P := Try.prog) w 9 22 5 s Try.underlying9 Try.underlying22 Try.underlying5
  go_enter Try.func31, Try.ntmps31
  go_wp2_with fail
  obtain ⟨B, hB⟩ : ∃ B, w.heap.size = B := ⟨_, rfl⟩
  obtain ⟨cap, hcap⟩ : ∃ cap, grownCap w s.size 0 5 = cap := ⟨_, rfl⟩
  have hc : s.size ≤ cap := by rw [← hcap]; exact grownCap_ge _ _ _ _
  rw [hcap]
  have HR0 : Hid (Rw ((w.alloc (.cells (bytesRow s cap) 5 ((bytesRow s cap).size, (bytesRow s cap).size + 1))).drew) B s.size (fun j => s.data.toList.getD j 0)) := by
    unfold Hid; rw [← hB]; exact Rw.bytes w s cap _ hc
  have HB0 : Hid (Below w.heap.size w ((w.alloc (.cells (bytesRow s cap) 5 ((bytesRow s cap).size, (bytesRow s cap).size + 1))).drew)) := by
    unfold Hid
    exact ((Below.refl w.heap.size w).alloc (Nat.le_refl _) _).trans ⟨rfl, rfl, rfl, Nat.le_refl _, fun _ _ => rfl⟩
  have hBw : w.heap.size ≤ B := by rw [← hB]; exact Nat.le_refl _
  rw [hB]
  generalize (w.alloc (.cells (bytesRow s cap) 5 ((bytesRow s cap).size, (bytesRow s cap).size + 1))).drew = w3 at *
  clear hB hcap kc
  go_loopw [4] (fun i wr => ∃ (k : Nat), k ≤ s.size ∧ i = .int .i64 (k : Int) ∧ Rw wr B s.size (fun j => if j < k then swapB (s.data.toList.getD j 0) else s.data.toList.getD j 0) ∧ Below w.heap.size w wr) (fun i _ => s.size - (intOf i).toNat)
  case atStart => exact ⟨0, by omega, rfl, HR0.out.same (fun j _ => by simp), HB0.out⟩
  case round =>
    obtain ⟨k, hk2, rfl, hr, hb⟩ := hrel
    have HR := Lib.hid hr
    have HB := Lib.hid hb
    clear hr hb
    by_cases hlt : k < s.size
    · have hd : s.data.toList.getD k 0 = s[k] := by
        have hk' : k < s.data.toList.length := by simpa using hlt
        simp only [List.getD_eq_getElem?_getD, List.getElem?_eq_getElem hk']
        simp
        rfl
      have hmem : s[k] ∈ s.data.toList := by
        rw [← hd]
        have hk' : k < s.data.toList.length := by simpa using hlt
        simp only [List.getD_eq_getElem?_getD, List.getElem?_eq_getElem hk']
        simp
      obtain ⟨o, ho, hix, hsw⟩ := swap_at (s[k]) (hk _ hmem)
      have HF : Hid (∀ W, Calls Try.prog 42 #[.string ⟨#[120, 121, 122, 88, 89, 90, 38, 124]⟩, .int .u8 ((s[k]).toNat : Int)] W fun e w' => e = .returned (.int .i64 (o : Int)) ∧ W = w') := fun W => by
        have h := find_at ⟨#[120, 121, 122, 88, 89, 90, 38, 124]⟩ (by decide) (s[k]) W
        rw [show Lib.indexByte (⟨#[120, 121, 122, 88, 89, 90, 38, 124]⟩ : ByteArray).data.toList (s[k]) = (o : Int) from hix] at h
        exact h
      have c0 := HR.out.cell k hlt
      have f0 := HR.out.free k hlt
      have HN : Hid (Rw (wr.setCell ⟨B, k, none⟩ (.int .u8 ((swapB (s[k])).toNat : Int))) B s.size (fun j => if j < k + 1 then swapB (s.data.toList.getD j 0) else s.data.toList.getD j 0)) :=
        (HR.out.set k hlt (swapB (s[k]))).same (fun j _ => by
          unfold upd
          by_cases e : j = k
          · subst e; rw [if_pos rfl, if_pos (by omega), hd]
          · rw [if_neg e]
            show (if j < k then swapB (s.data.toList.getD j 0) else s.data.toList.getD j 0) = _
            by_cases e2 : j < k
            · rw [if_pos e2, if_pos (by omega)]
            · rw [if_neg e2, if_neg (by omega)])
      have HBN : Hid (Below w.heap.size w (wr.setCell ⟨B, k, none⟩ (.int .u8 ((swapB (s[k])).toNat : Int)))) := HB.out.setCell hBw _
      have hsw2 : ((⟨#[88, 89, 90, 120, 121, 122, 124, 38]⟩ : ByteArray)[o]'ho).toNat = (swapB (s[k])).toNat := by rw [hsw]
      generalize (swapB (s[k])).toNat = sw at *
      clear hd hix hsw
      go_wp2_with fail
      refine (HF.out _).mono ?_
      rintro e w' ⟨rfl, rfl⟩
      go_wp2_with fail
      go_roundw
      case rel => exact ⟨k + 1, by omega, by go_num, HN.out, HBN.out⟩
      case measure => simp [intOf]; omega
    · obtain rfl : k = s.size := by omega
      have hr2 : Rw wr B s.size (fun j => swapB (s.data.toList.getD j 0)) := HR.out.same (fun j hj => by rw [if_pos hj])
      have hcv : (convert 22 9 (.slice (some ⟨B, 0, none⟩) s.size cap)).run Try.prog wr = .ok (.string (str (s.data.toList.map swapB))) wr := by
        have h := hr2.conv (cap := cap)
        have e : (List.range s.size).map (fun j => swapB (s.data.toList.getD j 0)) = s.data.toList.map swapB := by
          apply List.ext_getElem
          · simp
          · intro i h1 h2
            have hi : i < s.data.toList.length := by simpa using h2
            simp only [List.getElem_map, List.getElem_range, List.getD_eq_getElem?_getD, List.getElem?_eq_getElem hi, Option.getD_some]
        rw [e] at h
        exact h
      obtain ⟨res, hres⟩ : ∃ res, str (s.data.toList.map swapB) = res := ⟨_, rfl⟩
      rw [hres] at hcv
      have HRES := Lib.hid hres
      clear hr2 hres
      go_wp2_with fail
      go_ret
      exact ⟨by rw [HRES.out]; rfl, HB.out⟩
set_option maxHeartbeats 1000000 in
theorem spec_yes (s : ByteArray) (t : F) (hw : wf 3 t) (h : s.data.toList = text t) (hs : s.size ≤ 200) (w : World) :
    Calls Try.prog 19 #[.string s] w fun e w' => e = .returned (.tuple #[.string (str (text (dual t))), .bool true]) ∧ Below w.heap.size w w' := by
  have HV : Hid (∀ W, Calls Try.prog 27 #[.string s, .int .i64 3] W fun e w' => e = .returned (.bool true) ∧ W = w') := valid_yes s 3 (by omega) t hw h hs
  have HL := Lib.hid (dual_w s (by omega) (by rw [h]; exact known_text t hw))
  rw [h, ← dual_text t hw] at HL
  generalize str (text (dual t)) = q at *
  clear h hw
  go_enter Try.func19, Try.ntmps19
  go_wp2_with fail
  refine (HV.out _).mono ?_
  rintro e w1 ⟨rfl, rfl⟩
  go_wp2_with fail
  refine (HL.out _).mono ?_
  rintro e w2 ⟨rfl, hb⟩
  have HB := Lib.hid hb
  clear hb
  go_wp2_with fail
  go_returns
  exact ⟨rfl, HB.out⟩
set_option maxHeartbeats 1000000 in
theorem spec_no (s : ByteArray) (h : ¬ Ok 3 s) (hs : s.size ≤ 1048576) (w : World) :
    Calls Try.prog 19 #[.string s] w fun e w' => e = .returned (.tuple #[.string (str []), .bool false]) ∧ Below w.heap.size w w' := by
  have HV : Hid (∀ W, Calls Try.prog 27 #[.string s, .int .i64 3] W fun e w' => e = .returned (.bool false) ∧ W = w') := valid_no s 3 (by omega) h hs
  clear h
  go_enter Try.func19, Try.ntmps19
  go_wp2_with fail
  refine (HV.out _).mono ?_
  rintro e w1 ⟨rfl, rfl⟩
  go_wp2_with fail
  go_returns
  exact ⟨rfl, Below.refl _ _⟩
set_option maxHeartbeats 1000000 in
theorem impl_yes (s : ByteArray) (t : F) (hw : wf 3 t) (h : s.data.toList = text t) (hs : s.size ≤ 200) (w : World) :
    Calls Try.prog 18 #[.string s] w fun e w' => e = .returned (.tuple #[.string (str (text (dual t))), .bool true]) ∧ Below w.heap.size w w' := by
  have HT : Hid (∀ W, Calls Try.prog 24 #[.string s, .int .i64 3] W fun e w' => e = .returned (tree t) ∧ Below W.heap.size W w') := tree_yes 3 (by omega) (by omega) s t hw h hs
  have hl : (text t).length = s.size := by rw [← h]; simp
  have HX := Lib.hid (text_of (dual t) (dual_wf 3 t hw) (by rw [dual_length]; omega))
  have hC := dua_to t
  unfold DuaC at hC
  generalize str (text (dual t)) = q at *
  obtain ⟨ty, v, ev2⟩ := tree_iface (dual t)
  rw [ev2] at HX hC
  clear h hl hw ev2
  rcases hC with ⟨V, ev, hv⟩ | ⟨V, ev, hv⟩
  all_goals
    have HC := Lib.hid hv
    rw [ev] at HT
    clear ev hv
    go_enter Try.func18, Try.ntmps18
    go_wp2_with fail
    refine (HT.out _).mono ?_
    rintro e w1 ⟨rfl, hb1⟩
    go_wp2_with fail
    refine (HC.out _).mono ?_
    rintro e w2 ⟨rfl, hb2⟩
    go_wp2_with fail
    refine (HX.out _).mono ?_
    rintro e w3 ⟨rfl, hb3⟩
    have h12 := hb1.trans (hb2.mono hb1.size)
    have HB := Lib.hid (h12.trans (hb3.mono h12.size))
    clear hb1 hb2 hb3 h12
    go_wp2_with fail
    go_returns
    exact ⟨rfl, HB.out⟩
set_option maxHeartbeats 1000000 in
theorem impl_no (s : ByteArray) (h : ¬ Ok 3 s) (hs : s.size ≤ 1048576) (w : World) :
    Calls Try.prog 18 #[.string s] w fun e w' => e = .returned (.tuple #[.string (str []), .bool false]) ∧ Below w.heap.size w w' := by
  have HT : Hid (∀ W, Calls Try.prog 24 #[.string s, .int .i64 3] W fun e w' => e = .returned .nilIface ∧ Below W.heap.size W w') := tree_no 3 (by omega) (by omega) s h hs
  clear h
  go_enter Try.func18, Try.ntmps18
  go_wp2_with fail
  refine (HT.out _).mono ?_
  rintro e w1 ⟨rfl, hb1⟩
  have HB := Lib.hid hb1
  clear hb1
  go_wp2_with fail
  go_returns
  exact ⟨rfl, HB.out⟩
def dualAns (s : ByteArray) (q : ByteArray) (b : Bool) : Prop := (b = true ∧ ∃ t, wf 3 t ∧ s.data.toList = text t ∧ s.size ≤ 200 ∧ q = str (text (dual t))) ∨ (b = false ∧ q = str [] ∧ ¬ Ok 3 s)
theorem both (s : ByteArray) (hs : s.size ≤ 1048576) : ∃ (q : ByteArray) (b : Bool), dualAns s q b ∧ (∀ w, Calls Try.prog 19 #[.string s] w fun e w' => e = .returned (.tuple #[.string q, .bool b]) ∧ Below w.heap.size w w') ∧
    (∀ w, Calls Try.prog 18 #[.string s] w fun e w' => e = .returned (.tuple #[.string q, .bool b]) ∧ Below w.heap.size w w') := by
  rcases ok_or 3 s with ⟨t, h1, h2, h3⟩ | h
  · exact ⟨_, true, .inl ⟨rfl, t, h1, h2, h3, rfl⟩, spec_yes s t h1 h2 h3, impl_yes s t h1 h2 h3⟩
  · exact ⟨_, false, .inr ⟨rfl, rfl, h⟩, spec_no s h hs, impl_no s h hs⟩
end Go.Proofs.Ytbhkfibbepocfaa.FmDual
