/-
  The program's firstsOf at lines, slices.ContainsFunc and slices.IndexFunc at its closure.
-/
import Derived.Test.YtbbgibbpeibhiaaDoorFirst
import Derived.Test.YtbbgibbpeibhiaaDoorLine
import Derived.Test.YtbbgibbpeibhiaaDoorFreeL
namespace Go.Proofs.YtbbgibbpeibhiaaDoor.FirstI
open Go.RowKit Go.Proofs.YtbbgibbpeibhiaaDoor.Plain Go.Proofs.YtbbgibbpeibhiaaDoor.Base Go.Proofs.YtbbgibbpeibhiaaDoor.Valid Go.Proofs.YtbbgibbpeibhiaaDoor.Law Go.Proofs.YtbbgibbpeibhiaaDoor.GridPlain Go.Proofs.YtbbgibbpeibhiaaDoor.Grid Go.Proofs.YtbbgibbpeibhiaaDoor.Entry Go.Proofs.YtbbgibbpeibhiaaDoor.App Go.Proofs.YtbbgibbpeibhiaaDoor.First Go.Proofs.YtbbgibbpeibhiaaDoor.Line Go.Proofs.YtbbgibbpeibhiaaDoor.FreeL
open Go.Proofs.YtbbgibbpeibhiaaDoor.Free (fill wp_value wp_enter wp_load_row freeB)
set_option linter.unusedVariables false

theorem eval_get {a : Act} {d : Tmp} {v : Value} (h : a.tmps[d]?.getD undef = v) (_ : True) : a.eval (.tmp d) = v := by
  rw [← h]
  show a.tmps.getD d undef = _
  simp [Array.getD_eq_getD_getElem?]

/-- a function value bound to one value tells these lines -/
def Lines (gg : Nat) (g0 : Value) (n : Nat) (ln : Nat → Nat → Int) : Prop :=
  (∀ args W, (callFunc gg args).run Tryd.prog W = .ok (.enter gg args) W) ∧
  ∀ (x : Nat), x < n → ∀ W : World, Calls Tryd.prog gg #[g0, .int .i64 (x : Int)] W fun e W' => e = .returned (lineV (ln x)) ∧ Below W.heap.size W W'

set_option maxHeartbeats 2000000 in
set_option maxRecDepth 100000 in
theorem same_clos (gg : Nat) (g0 : Value) (n : Nat) (ln : Nat → Nat → Int) (hl : Lines gg g0 n ln) (i j : Nat) (hi : i < n) (hj : j < n) (k h : Nat) (W : World)
    (hk : W.cell? ⟨k, 0, none⟩ = some (.func (.func gg) #[g0] #[])) (hkb : k < W.heap.size) (hh : W.cell? ⟨h, 0, none⟩ = some (.int .i64 (i : Int))) (hhb : h < W.heap.size) :
    Calls Tryd.prog 53 #[.int .i64 (j : Int), .pointer (some ⟨k, 0, none⟩), .pointer (some ⟨h, 0, none⟩)] W
      fun e W' => e = .returned (.bool (sameL (ln j) (ln i))) ∧ Below W.heap.size W W' := by
  have HK : Hid (∀ W' : World, Below W.heap.size W W' → W'.cell? ⟨k, 0, none⟩ = some (.func (.func gg) #[g0] #[])) := fun W' hb => (hb.cell (p := ⟨k, 0, none⟩) hkb).trans hk
  have HN : Hid (∀ W' : World, Below W.heap.size W W' → W'.cell? ⟨h, 0, none⟩ = some (.int .i64 (i : Int))) := fun W' hb => (hb.cell (p := ⟨h, 0, none⟩) hhb).trans hh
  have HJ := Lib.hid (hl.2 j hj)
  have HI := Lib.hid (hl.2 i hi)
  have HG := Lib.hid hl.1
  clear hk hh hl
  go_enter Tryd.func53, Tryd.ntmps53
  go_wp2_with fail
  refine wp_region_below (fun | 0 => .func (.func gg) #[g0] #[] | 1 => .int .i64 (j : Int) | 2 => lineV (ln j) | 3 => .func (.func gg) #[g0] #[] | 4 => .int .i64 (i : Int) | 5 => lineV (ln i) | 6 => .bool (sameL (ln j) (ln i)) | 7 => .bool (sameL (ln j) (ln i)) | _ => undef) (by kernel_rfl) (by kernel_rfl) rfl ?con ?en
  case con =>
    intro q0 o ho a w2 hb2 hf
    match q0, ho with
    | 0, ho =>
      obtain rfl := Option.some.inj ho
      have b1 : a.tmps[1]?.getD undef = .pointer (some ⟨k, 0, none⟩) := hf.2 1 (by kernel_rfl)
      have hc1 := HK.out w2 hb2
      exact wp_value (.func (.func gg) #[g0] #[]) (by unfold execOp; go_simp) ⟨rfl, Below.refl _ _⟩
    | 1, ho =>
      obtain rfl := Option.some.inj ho
      have b0 : a.tmps[0]?.getD undef = .int .i64 (j : Int) := hf.2 0 (by kernel_rfl)
      exact wp_value (.int .i64 (j : Int)) (by unfold execOp; go_simp) ⟨rfl, Below.refl _ _⟩
    | 2, ho =>
      obtain rfl := Option.some.inj ho
      have e5 : a.tmps[5]?.getD undef = .func (.func gg) #[g0] #[] := hf.1 ⟨0, .data⟩ (by simp) rfl _ 5 rfl rfl
      have e6 : a.tmps[6]?.getD undef = .int .i64 (j : Int) := hf.1 ⟨1, .data⟩ (by simp) rfl _ 6 rfl rfl
      have X := HG.out
      exact wp_enter gg #[g0, .int .i64 (j : Int)] (lineV (ln j)) _ (by unfold execOp; go_simp) (HJ.out w2) (fun w' h => ⟨rfl, h⟩)
    | 3, ho =>
      obtain rfl := Option.some.inj ho
      have b1 : a.tmps[1]?.getD undef = .pointer (some ⟨k, 0, none⟩) := hf.2 1 (by kernel_rfl)
      have hc1 := HK.out w2 hb2
      exact wp_value (.func (.func gg) #[g0] #[]) (by unfold execOp; go_simp) ⟨rfl, Below.refl _ _⟩
    | 4, ho =>
      obtain rfl := Option.some.inj ho
      have b2 : a.tmps[2]?.getD undef = .pointer (some ⟨h, 0, none⟩) := hf.2 2 (by kernel_rfl)
      have hc2 := HN.out w2 hb2
      exact wp_value (.int .i64 (i : Int)) (by unfold execOp; go_simp) ⟨rfl, Below.refl _ _⟩
    | 5, ho =>
      obtain rfl := Option.some.inj ho
      have e8 : a.tmps[8]?.getD undef = .func (.func gg) #[g0] #[] := hf.1 ⟨3, .data⟩ (by simp) rfl _ 8 rfl rfl
      have e9 : a.tmps[9]?.getD undef = .int .i64 (i : Int) := hf.1 ⟨4, .data⟩ (by simp) rfl _ 9 rfl rfl
      have X := HG.out
      exact wp_enter gg #[g0, .int .i64 (i : Int)] (lineV (ln i)) _ (by unfold execOp; go_simp) (HI.out w2) (fun w' h => ⟨rfl, h⟩)
    | 6, ho =>
      obtain rfl := Option.some.inj ho
      have e7 : a.tmps[7]?.getD undef = lineV (ln j) := hf.1 ⟨2, .data⟩ (by simp) rfl _ 7 rfl rfl
      have e10 : a.tmps[10]?.getD undef = lineV (ln i) := hf.1 ⟨5, .data⟩ (by simp) rfl _ 10 rfl rfl
      have hq := line_eq (ln j) (ln i)
      exact wp_value (.bool (sameL (ln j) (ln i))) (by unfold execOp; go_simp) ⟨rfl, Below.refl _ _⟩
    | 7, ho =>
      obtain rfl := Option.some.inj ho
      have e11 : a.tmps[11]?.getD undef = .bool (sameL (ln j) (ln i)) := hf.1 ⟨6, .data⟩ (by simp) rfl _ 11 rfl rfl
      exact wp_value (.bool (sameL (ln j) (ln i))) (by unfold execOp; go_simp) ⟨rfl, Below.refl _ _⟩
    | q + 8, ho => simp at ho
  case en =>
    intro w2 hb2
    have HB2 := Lib.hid hb2
    clear hb2
    simp only [fill, Act.put]
    go_simp
    go_wp2_with fail
    go_ret
    exact ⟨rfl, HB2.out⟩
theorem clos_enters (args : Array Value) (W : World) : (callFunc 53 args).run Tryd.prog W = .ok (.enter 53 args) W := by kernel_rfl

/-- a predicate's answers at these numbers -/
def Tests (lb : Array Value) (l : List Nat) (pr : Nat → Bool) (w : World) : Prop :=
  ∀ (j : Nat), j ∈ l → ∀ W : World, Below w.heap.size w W → Calls Tryd.prog 53 (#[.int .i64 (j : Int)] ++ lb) W fun e W' => e = .returned (.bool (pr j)) ∧ Below W.heap.size W W'

set_option maxHeartbeats 2000000 in
set_option maxRecDepth 100000 in
theorem index_any (p1 p2 : Value) (l : List Nat) (hlen : l.length ≤ 8) (pr : Nat → Bool) (p : Option Addr) (cc : Nat) (w : World) (ht : Tests #[p1, p2] l pr w)
    (hc : ∀ (j : Nat) (hj : j < l.length), ∃ g, p = some ⟨g, 0, none⟩ ∧ g < w.heap.size ∧ w.cell? ⟨g, j, none⟩ = some (.int .i64 (l[j] : Int))) :
    Calls Tryd.prog 74 #[.slice p l.length cc, .func (.func 53) #[] #[p1, p2]] w fun e w' => ∃ k : Int, e = .returned (.int .i64 k) ∧ decide (0 ≤ k) = l.any pr ∧ Below w.heap.size w w' := by
  have HT := Lib.hid ht
  have HC := Lib.hid hc
  clear ht hc
  go_enter Tryd.func74, Tryd.ntmps74
  go_wp2_with fail
  go_loopw [5, 8] (fun _ x wr => ∃ k : Nat, k ≤ l.length ∧ x = .int .i64 (k : Int) ∧ Below w.heap.size w wr ∧ Hid (∀ (j : Nat) (hj : j < l.length), j < k → pr l[j] = false)) (fun _ x _ => l.length - (intOf x).toNat)
  case atStart => exact ⟨0, Nat.zero_le _, rfl, Below.refl _ _, fun j hj h => absurd h (by omega)⟩
  case round =>
    obtain ⟨k, hk, rfl, hb, hall⟩ := hrel
    have HB := Lib.hid hb
    by_cases hlt : k < l.length
    · obtain ⟨g, hp, hg, hcell⟩ := HC.out k hlt
      subst hp
      have hcl : wr.cell? ⟨g, k, none⟩ = some (.int .i64 (l[k] : Int)) := (hb.cell (p := ⟨g, k, none⟩) hg).trans hcell
      have HP := Lib.hid (HT.out l[k] (List.getElem_mem hlt))
      have HM : Hid (l[k] ∈ l) := List.getElem_mem hlt
      have HA : Hid (∀ (j : Nat) (hj : j < l.length), j < k + 1 → j ≠ k → pr l[j] = false) := fun j hj h h2 => hall.out j hj (by omega)
      obtain ⟨y, hy⟩ : ∃ y, l[k] = y := ⟨_, rfl⟩
      have HY := Lib.hid hy
      rw [hy] at hcl HP HM
      have k0 : (0 : Int) ≤ (k : Int) := Int.natCast_nonneg k
      have k1 : (k : Int) < (l.length : Int) := by omega
      clear hy hcell hb hall
      obtain ⟨b, hb⟩ : ∃ b, pr y = b := ⟨_, rfl⟩
      have HPB := Lib.hid hb
      rw [hb] at HP
      clear hb
      cases b with
      | true =>
        go_wp2_with fail
        refine (HP.out _ HB.out).mono ?_
        rintro e w2 ⟨rfl, hb2⟩
        have HB2 := Lib.hid (bstep HB.out hb2)
        clear hb2
        go_wp2_with fail
        go_ret
        refine ⟨_, rfl, ?_, HB2.out⟩
        rw [List.any_eq_true.2 ⟨y, HM.out, HPB.out⟩]
        simp
      | false =>
        go_wp2_with fail
        refine (HP.out _ HB.out).mono ?_
        rintro e w2 ⟨rfl, hb2⟩
        have HB2 := Lib.hid (bstep HB.out hb2)
        clear hb2
        go_wp2_with fail
        go_roundw
        case rel => exact ⟨k + 1, by omega, by go_num, HB2.out, fun j hj h => by
          by_cases e : j = k
          · subst e; rw [HY.out]; exact HPB.out
          · exact HA.out j hj h e⟩
        case measure => simp [intOf]; omega
    · obtain rfl : k = l.length := by omega
      clear hb
      go_wp2_with fail
      go_ret
      refine ⟨-1, rfl, ?_, HB.out⟩
      have : l.any pr = false := by
        rw [List.any_eq_false]
        intro x hx
        obtain ⟨j, hj, rfl⟩ := List.getElem_of_mem hx
        rw [hall.out j hj hj]; simp
      rw [this]; rfl

set_option maxHeartbeats 1000000 in
theorem contains_any (p1 p2 : Value) (l : List Nat) (hlen : l.length ≤ 8) (pr : Nat → Bool) (p : Option Addr) (cc : Nat) (w : World) (ht : Tests #[p1, p2] l pr w)
    (hc : ∀ (j : Nat) (hj : j < l.length), ∃ g, p = some ⟨g, 0, none⟩ ∧ g < w.heap.size ∧ w.cell? ⟨g, j, none⟩ = some (.int .i64 (l[j] : Int))) :
    Calls Tryd.prog 54 #[.slice p l.length cc, .func (.func 53) #[] #[p1, p2]] w fun e w' => e = .returned (.bool (l.any pr)) ∧ Below w.heap.size w w' := by
  have HX := Lib.hid (index_any p1 p2 l hlen pr p cc w ht hc)
  clear ht hc
  go_enter Tryd.func54, Tryd.ntmps54
  go_wp2_with fail
  refine HX.out.mono ?_
  rintro e w2 ⟨k, rfl, hk, hb⟩
  have HB := Lib.hid hb
  have HK := Lib.hid hk
  clear hb hk
  go_wp2_with fail
  go_ret
  exact ⟨by rw [← HK.out]; rfl, HB.out⟩

theorem cell_own {w0 wr : World} {p : Option Addr} {cc : Nat} {l : List Nat} (h : Own w0 wr 3 1 (.slice p l.length cc) l.length (nums l)) (j : Nat) (hj : j < l.length) :
    ∃ g, p = some ⟨g, 0, none⟩ ∧ g < wr.heap.size ∧ wr.cell? ⟨g, j, none⟩ = some (.int .i64 (l[j] : Int)) := by
  obtain ⟨g, h1, _, h3, h4⟩ := h.cell j (by omega)
  exact ⟨g, h1, h3, h4.trans (by simp [nums, hj])⟩

set_option maxHeartbeats 2000000 in
set_option maxRecDepth 100000 in
theorem firsts_of (gg : Nat) (g0 : Value) (n : Nat) (hn : n ≤ 8) (ln : Nat → Nat → Int) (hl : Lines gg g0 n ln) (key : Nat → List UInt8) (hkey : ∀ i j, i < n → j < n → sameL (ln j) (ln i) = (key j == key i)) (w : World) :
    Calls Tryd.prog 28 #[.int .i64 (n : Int), .func (.func gg) #[g0] #[]] w fun e w' => ∃ v, e = .returned v ∧
      Own (w.alloc (.cells #[.func (.func gg) #[g0] #[]] 50)) w' 3 1 v (firsts key n).length (nums (firsts key n)) := by
  obtain ⟨i0, hi, hz0, hz1, hz2⟩ := info_parts info3
  have HL := Lib.hid hl
  have HKEY := Lib.hid hkey
  clear hl hkey
  obtain ⟨W0, hW0⟩ : ∃ W0, W0 = w.alloc (.cells #[.func (.func gg) #[g0] #[]] 50) := ⟨_, rfl⟩
  rw [← hW0]
  have HBOX : Hid (∀ W', Below W0.heap.size W0 W' → W'.cell? ⟨w.heap.size, 0, none⟩ = some (.func (.func gg) #[g0] #[])) := fun W' hb => by subst hW0; exact cell_of_row _ _ 0 _ _ _ (box_later hb)
  have HLT : Hid (w.heap.size < W0.heap.size) := by unfold Hid; rw [hW0]; simp
  have HW0 := Lib.hid hW0
  clear hW0
  go_enter Tryd.func28, Tryd.ntmps28
  go_wp2_with fail
  rw [← HW0.out]
  go_loopw [5, 9] (fun v x wr => ∃ (k : Nat), k ≤ n ∧ x = .int .i64 (k : Int) ∧ Own W0 wr 3 1 v (firsts key k).length (nums (firsts key k))) (fun _ x _ => n - (intOf x).toNat)
  case atStart => exact ⟨0, Nat.zero_le _, rfl, (Own.none W0 3 1 : Own W0 _ 3 1 _ 0 [])⟩
  case round =>
    obtain ⟨k, hk, rfl, hown⟩ := hrel
    have HO := Lib.hid hown
    have hle := firsts_len key k
    by_cases hlt : k < n
    · obtain ⟨p, cc, hv⟩ := hown.slice
      subst hv
      have HNX : Hid (firsts key (k + 1) = if ((firsts key k).any fun j => key j == key k) = true then firsts key k else firsts key k ++ [k]) := by
        unfold Hid
        rw [firsts, firsts_any]
        cases fresh key (key k) k <;> simp
      have HMEM : Hid (∀ j ∈ firsts key k, j < n) := fun j hj => Nat.lt_trans (firsts_lt key k j hj) hlt
      have hlen8 : (firsts key k).length ≤ 8 := by omega
      clear hown
      go_wp2_with fail
      generalize firsts key k = l at *
      have HO1 : Hid (Own W0 (wr.alloc (.cells #[.int .i64 (k : Int)] 3)) 3 1 (.slice p l.length cc) l.length (nums l)) := HO.out.later ((Below.refl _ _).alloc (Nat.le_refl _) _)
      have HZ : Hid (w.heap.size < wr.heap.size) := Nat.lt_of_lt_of_le HLT.out HO.out.below.size
      have HTS : Hid (Tests #[.pointer (some ⟨w.heap.size, 0, none⟩), .pointer (some ⟨wr.heap.size, 0, none⟩)] l (fun j => key j == key k) (wr.alloc (.cells #[.int .i64 (k : Int)] 3))) := fun j hj W hb => by
        have hs := hb.size
        simp only [World.size_alloc] at hs
        have hz := HZ.out
        have hq := same_clos gg g0 n ln HL.out k j hlt (HMEM.out j hj) w.heap.size wr.heap.size W (HBOX.out W (HO1.out.below.trans (hb.mono HO1.out.below.size))) (by omega)
          ((hb.cell (p := ⟨wr.heap.size, 0, none⟩) (by simp)).trans (by simp)) (by omega)
        rw [HKEY.out k j hlt (HMEM.out j hj)] at hq
        exact hq
      refine (contains_any _ _ l hlen8 (fun j => key j == key k) p cc _ HTS.out (fun j hj => cell_own HO1.out j hj)).mono ?_
      rintro e w2 ⟨rfl, hb2⟩
      have HO2 := Lib.hid (HO1.out.later hb2)
      have hci : w2.cell? ⟨wr.heap.size, 0, none⟩ = some (.int .i64 (k : Int)) := (hb2.cell (p := ⟨wr.heap.size, 0, none⟩) (by simp)).trans (by simp)
      clear hb2 HTS HO1 HO
      obtain ⟨b, hb⟩ : ∃ b, (l.any fun j => key j == key k) = b := ⟨_, rfl⟩
      rw [hb]
      rw [hb] at HNX
      clear hb
      cases b with
      | true =>
        have HN2 : Hid (firsts key (k + 1) = l) := by unfold Hid; rw [HNX.out]; simp
        clear HNX
        go_wp2_with fail
        go_roundw
        case rel => exact ⟨k + 1, by omega, by go_num, by rw [HN2.out]; exact HO2.out⟩
        case measure => simp [intOf]; omega
      | false =>
        have HN2 : Hid (firsts key (k + 1) = l ++ [k]) := by unfold Hid; rw [HNX.out]; simp
        clear HNX
        go_wp2_with (at_builtin; have HH := HO2.out; refine wpList_append_own _ rfl (.tmp 17) (.tmp 19) 28 rfl W0.heap.size 3 i0 (.int .i64 0) 1 8 Tryd.underlying28 hi hz0 hz1 hz2 rfl (by decide) _ _ _ rfl (HH.row.alloc _) ⟨w2.heap.size, 0, none⟩ 1 1 [.int .i64 (k : Int)] rfl rfl ?c1 ?c2 ?c3 ?c4 ?c5 ?c6; go_must (case c1 => exact (cell_one _ _ _)); go_must (case c2 => simp [Value.oneCell']); go_must (case c3 => (unfold maxLen; omega)); go_must (case c4 => omega); go_must (case c5 => (have := HH.below.size; simp at this ⊢; omega)); go_must (clear HH; intro v3 w3 hown3 hgrow3 _; have H3 := Lib.hid (Own.next HO2.out _ hown3 hgrow3); clear HO2 hown3 hgrow3))
        go_wp2_with fail
        go_roundw
        case rel => exact ⟨k + 1, by omega, by go_num, by rw [HN2.out, List.length_append, ← nums_next]; exact H3.out⟩
        case measure => simp [intOf]; omega
    · obtain rfl : k = n := by omega
      clear hown
      go_wp2_with fail
      go_ret
      exact ⟨_, rfl, HO.out⟩
end Go.Proofs.YtbbgibbpeibhiaaDoor.FirstI
