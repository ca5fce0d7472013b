/-
  The program's ParseMatrix.
-/
import Derived.Test.YtalechngagkklaaDoorPMat
namespace Go.Proofs.YtalechngagkklaaDoor.PMatI
open Go.RowKit Go.Proofs.YtalechngagkklaaDoor.Plain Go.Proofs.YtalechngagkklaaDoor.Base Go.Proofs.YtalechngagkklaaDoor.Valid Go.Proofs.YtalechngagkklaaDoor.Law Go.Proofs.YtalechngagkklaaDoor.Entry Go.Proofs.YtalechngagkklaaDoor.Fmt Go.Proofs.YtalechngagkklaaDoor.App Go.Proofs.YtalechngagkklaaDoor.Cut Go.Proofs.YtalechngagkklaaDoor.Rect Go.Proofs.YtalechngagkklaaDoor.FreeL Go.Proofs.YtalechngagkklaaDoor.Board Go.Proofs.YtalechngagkklaaDoor.PMat
open Go.Proofs.YtalechngagkklaaDoor.Free (fill wp_value wp_enter wp_load_row freeB wp_region_one get_of)
set_option linter.unusedVariables false

set_option maxHeartbeats 2000000 in
set_option maxRecDepth 100000 in
theorem impl_pm (s : ByteArray) (hs : s.size ≤ 1048576) (O : List (List UInt8)) (hO : cutL s.data.toList = O) (x0 : ByteArray) (hx0 : O[0]? = some x0.data.toList) (bv : Bool) (hbv : validB O.length x0.size (str O.flatten) = bv) (f : ByteArray)
    (hf : bv = true → ∀ W : World, Calls Tryd.prog 28 #[mat O.length x0.size (str O.flatten)] W fun e w' => e = .returned (.string f) ∧ Below W.heap.size W w') (tt : Bool) (ht : (bv && (f.toList == s.toList)) = tt) (w : World) (hmx : MaxAt w) :
    Calls Tryd.prog 31 #[.string s] w fun e w' => e = .returned (.tuple #[if tt then mat O.length x0.size (str O.flatten) else mat 0 0 (str []), .bool tt]) ∧ Below w.heap.size w w' := by
  have hlen := cutL_len s.data.toList
  have hflat := flat_len s.data.toList
  have hne := cutL_ne s.data.toList
  have HCUT := Lib.hid (fun W hm => split_any s hs W hm)
  rw [hO] at hlen hflat hne HCUT
  have hsl : s.data.toList.length = s.size := by simp
  have hpos : 0 < O.length := List.length_pos_iff.2 hne
  have hbits : (str O.flatten).size ≤ maxLen := by rw [str_size]; unfold maxLen; omega
  have HV := Lib.hid (fun W => impl_valid O.length x0.size (str O.flatten) hbits W)
  rw [hbv] at HV
  have HF := Lib.hid hf
  have HT := Lib.hid ht
  have HX0 : Hid (str O[0] = x0) := by
    unfold Hid
    rw [List.getElem?_eq_getElem hpos] at hx0
    rw [Option.some.inj hx0]
    simp [str]
  have HM := Lib.hid hmx
  clear hf ht hbv hx0 hO hne hmx
  go_enter Tryd.func31, Tryd.ntmps31
  go_wp2_with fail
  have E0 : (w.alloc (.cells #[.int .i64 0, .int .i64 0, .string ⟨#[]⟩] 24)).heap[w.heap.size]? = some (.cells #[.int .i64 0, .int .i64 0, .string ⟨#[]⟩] 24 (0, 0)) := heap_alloc_new w _
  have hb0 : Below w.heap.size w (w.alloc (.cells #[.int .i64 0, .int .i64 0, .string ⟨#[]⟩] 24)) := (Below.refl w.heap.size w).alloc (Nat.le_refl _) _
  have hlt0 := (Array.getElem?_eq_some_iff.1 E0).1
  generalize w.alloc (.cells #[.int .i64 0, .int .i64 0, .string ⟨#[]⟩] 24) = W0 at *
  refine (HCUT.out W0 (HM.out.on hb0)).mono ?_
  rintro e w' ⟨rfl, rfl⟩
  have hb01 : Below W0.heap.size W0 (W0.alloc (.cells (strs O).toArray 9)) := (Below.refl _ _).alloc (Nat.le_refl _) _
  have hN : (W0.alloc (.cells (strs O).toArray 9)).heap[W0.heap.size]? = some (.cells (strs O).toArray 9 (0, 0)) := heap_alloc_new W0 _
  have E1 := (hb01.block w.heap.size hlt0).trans E0
  have hb1 := rstep hb0 hb01
  have hcells : ∀ j (hj : j < O.length), (W0.alloc (.cells (strs O).toArray 9)).cell? ⟨W0.heap.size, j, none⟩ = some (.string (str O[j])) := fun j hj => by
    rw [cell_of_row _ _ j _ _ _ hN]
    simpa using strs_get O j hj
  have hgl := (Array.getElem?_eq_some_iff.1 hN).1
  have hl1 := (Array.getElem?_eq_some_iff.1 E1).1
  clear E0 hb0 hb01 hN HM HCUT
  generalize W0.alloc (.cells (strs O).toArray 9) = W1 at *
  generalize W0.heap.size = g at *
  obtain ⟨n, hn⟩ : ∃ n, O.length = n := ⟨_, rfl⟩
  obtain ⟨bits, hbits2⟩ : ∃ bits, str O.flatten = bits := ⟨_, rfl⟩
  have HJ : Hid (∀ W, Below W1.heap.size W1 W → Calls Tryd.prog 80 #[.slice (some ⟨g, 0, none⟩) n n, .string ⟨#[]⟩] W fun e w' => e = .returned (.string bits) ∧ Below W.heap.size W w') := by
    intro W hb
    have h := join_any0 g O.length O W (fun j hj => (hb.cell (p := ⟨g, j, none⟩) hgl).trans (hcells j hj)) (Nat.lt_of_lt_of_le hgl hb.size) (by omega) (Nat.le_refl _) (by omega)
    rw [hn, hbits2] at h
    exact h
  have HX : Hid (W1.cell? ⟨g, 0, none⟩ = some (.string x0)) := by
    have h := hcells 0 hpos
    rw [HX0.out] at h
    exact h
  have HG := Lib.hid hgl
  have HE := Lib.hid E1
  have HB1 := Lib.hid hb1
  have HCELLS := Lib.hid hcells
  have HN := Lib.hid hn
  have HBITS := Lib.hid hbits2
  rw [hn] at HV HF hlen hpos ⊢
  rw [hbits2] at HV HF
  clear hn hbits2 hcells E1 hb1
  go_wp2_with fail
  refine wp_region_one (fun | 0 => .slice (some ⟨g, 0, none⟩) n n | 1 => .int .i64 (n : Int) | 2 => .slice (some ⟨g, 0, none⟩) n n | 3 => .pointer (some ⟨g, 0, none⟩) | 4 => .string x0 | 5 => .int .i64 (x0.size : Int) | 6 => .slice (some ⟨g, 0, none⟩) n n | 7 => .string bits | 8 => mat n x0.size bits | _ => undef) 9 10 5 24 #[.int .i64 0, .int .i64 0, .string ⟨#[]⟩] #[.int .i64 (n : Int), .int .i64 (x0.size : Int), .string bits] _ _
    (by kernel_rfl) (by kernel_rfl) rfl rfl rfl rfl rfl (by decide) ⟨_, List.mem_toArray.2 List.mem_cons_self, rfl, rfl⟩ rfl ?al ?st ?con ?en
  case al =>
    intro a w
    unfold execOp
    go_simp
  case st =>
    intro a w1 b old hf hp hg hsz
    refine wp_store_row 24 (.tmp 5) (.tmp 16) rfl b #[.int .i64 (n : Int), .int .i64 (x0.size : Int), .string bits] hp ?_ 24 old hg minfo3 hsz (by simp [Value.oneCell']) ⟨rfl, rfl⟩
    exact hf.1 ⟨8, .data⟩ (by simp) rfl _ 16 rfl rfl (by decide) (by decide)
  case con =>
    intro i o ho n1 n2 a w1 hb hf
    match i, ho with
    | 0, ho =>
      obtain rfl := Option.some.inj ho
      have b4 : a.tmps[4]?.getD undef = .slice (some ⟨g, 0, none⟩) n n := get_of (hf.2 4 (by kernel_rfl))
      exact wp_value (.slice (some ⟨g, 0, none⟩) n n) (by unfold execOp; go_simp) ⟨rfl, Below.refl _ _⟩
    | 1, ho =>
      obtain rfl := Option.some.inj ho
      have e8 : a.tmps[8]?.getD undef = .slice (some ⟨g, 0, none⟩) n n := get_of (hf.1 ⟨0, .data⟩ (by simp) rfl _ 8 rfl rfl (by decide) (by decide))
      exact wp_value (.int .i64 (n : Int)) (by unfold execOp; go_simp) ⟨rfl, Below.refl _ _⟩
    | 2, ho =>
      obtain rfl := Option.some.inj ho
      have b4 : a.tmps[4]?.getD undef = .slice (some ⟨g, 0, none⟩) n n := get_of (hf.2 4 (by kernel_rfl))
      exact wp_value (.slice (some ⟨g, 0, none⟩) n n) (by unfold execOp; go_simp) ⟨rfl, Below.refl _ _⟩
    | 3, ho =>
      obtain rfl := Option.some.inj ho
      have e10 : a.tmps[10]?.getD undef = .slice (some ⟨g, 0, none⟩) n n := get_of (hf.1 ⟨2, .data⟩ (by simp) rfl _ 10 rfl rfl (by decide) (by decide))
      exact wp_value (.pointer (some ⟨g, 0, none⟩)) (by unfold execOp; go_simp) ⟨rfl, Below.refl _ _⟩
    | 4, ho =>
      obtain rfl := Option.some.inj ho
      have e11 : a.tmps[11]?.getD undef = .pointer (some ⟨g, 0, none⟩) := get_of (hf.1 ⟨3, .data⟩ (by simp) rfl _ 11 rfl rfl (by decide) (by decide))
      have hx := (hb.cell (p := ⟨g, 0, none⟩) HG.out).trans HX.out
      exact wp_value (.string x0) (by unfold execOp; go_simp) ⟨rfl, Below.refl _ _⟩
    | 5, ho =>
      obtain rfl := Option.some.inj ho
      have e12 : a.tmps[12]?.getD undef = .string x0 := get_of (hf.1 ⟨4, .data⟩ (by simp) rfl _ 12 rfl rfl (by decide) (by decide))
      exact wp_value (.int .i64 (x0.size : Int)) (by unfold execOp; go_simp) ⟨rfl, Below.refl _ _⟩
    | 6, ho =>
      obtain rfl := Option.some.inj ho
      have b4 : a.tmps[4]?.getD undef = .slice (some ⟨g, 0, none⟩) n n := get_of (hf.2 4 (by kernel_rfl))
      exact wp_value (.slice (some ⟨g, 0, none⟩) n n) (by unfold execOp; go_simp) ⟨rfl, Below.refl _ _⟩
    | 7, ho =>
      obtain rfl := Option.some.inj ho
      have e14 : a.tmps[14]?.getD undef = .slice (some ⟨g, 0, none⟩) n n := get_of (hf.1 ⟨6, .data⟩ (by simp) rfl _ 14 rfl rfl (by decide) (by decide))
      exact wp_enter 80 #[.slice (some ⟨g, 0, none⟩) n n, .string ⟨#[]⟩] (.string bits) _ (by unfold execOp; go_simp) (HJ.out w1 hb) (fun w' h => ⟨rfl, h⟩)
    | 8, ho =>
      obtain rfl := Option.some.inj ho
      have e9 : a.tmps[9]?.getD undef = .int .i64 (n : Int) := get_of (hf.1 ⟨1, .data⟩ (by simp) rfl _ 9 rfl rfl (by decide) (by decide))
      have e13 : a.tmps[13]?.getD undef = .int .i64 (x0.size : Int) := get_of (hf.1 ⟨5, .data⟩ (by simp) rfl _ 13 rfl rfl (by decide) (by decide))
      have e15 : a.tmps[15]?.getD undef = .string bits := get_of (hf.1 ⟨7, .data⟩ (by simp) rfl _ 15 rfl rfl (by decide) (by decide))
      exact wp_value (mat n x0.size bits) (by unfold execOp; go_simp) ⟨rfl, Below.refl _ _⟩
    | 9, ho => exact absurd rfl n1
    | 10, ho => exact absurd rfl n2
    | n + 11, ho => simp at ho
  case en =>
    intro b W2 hb hle hcell
    have R := (hb.block w.heap.size hl1).trans HE.out
    have HI3 : Hid (PI w W2 g b n x0.size bits O) :=
      ⟨cell_of_row _ _ 0 _ _ _ hcell, cell_of_row _ _ 1 _ _ _ hcell, cell_of_row _ _ 2 _ _ _ hcell, frozen_of_row _ _ 2 _ _ hcell, cell_of_row _ _ 0 _ _ _ R, cell_of_row _ _ 1 _ _ _ R, cell_of_row _ _ 2 _ _ _ R, frozen_of_row _ _ 0 _ _ R, frozen_of_row _ _ 1 _ _ R, frozen_of_row _ _ 2 _ _ R,
        fun j hj => (hb.cell (p := ⟨g, j, none⟩) hgl).trans (HCELLS.out j hj), rstep HB1.out hb, by omega, by omega, (Array.getElem?_eq_some_iff.1 hcell).1, Nat.lt_of_lt_of_le hgl hb.size⟩
    clear hb hle hcell R HE HB1 HCELLS HJ HX HG hgl hl1 hlt0
    simp only [fill, Act.put]
    go_simp
    obtain ⟨q0, q1, q2⟩ : W2.cell? ⟨b, 0, none⟩ = some (.int .i64 (n : Int)) ∧ W2.cell? ⟨b, 1, none⟩ = some (.int .i64 (x0.size : Int)) ∧ W2.cell? ⟨b, 2, none⟩ = some (.string bits) := ⟨HI3.out.m0, HI3.out.m1, HI3.out.m2⟩
    go_wp2_with fail
    refine (HV.out _).mono ?_
    rintro e w3 ⟨rfl, hb3⟩
    have HI := HI3
    clear HI3
    have HI3 := Lib.hid (HI.out.later hb3)
    clear hb3 HI q0 q1 q2 HV
    obtain ⟨r0, r1, r2⟩ : w3.cell? ⟨w.heap.size, 0, none⟩ = some (.int .i64 0) ∧ w3.cell? ⟨w.heap.size, 1, none⟩ = some (.int .i64 0) ∧ w3.cell? ⟨w.heap.size, 2, none⟩ = some (.string ⟨#[]⟩) := ⟨HI3.out.r0, HI3.out.r1, HI3.out.r2⟩
    obtain ⟨g0, g1, g2⟩ : w3.frozen? ⟨w.heap.size, 0, none⟩ = false ∧ w3.frozen? ⟨w.heap.size, 1, none⟩ = false ∧ w3.frozen? ⟨w.heap.size, 2, none⟩ = false := ⟨HI3.out.g0, HI3.out.g1, HI3.out.g2⟩
    cases bv
    · have ht := HT.out
      rw [Bool.false_and] at ht
      subst ht
      clear HF
      go_wp2_with fail
      refine bodyPost_ret (v := .tuple #[mat 0 0 (str []), .bool false]) (by simp [results, Tryd.results31, go_sem, r0, r1, r2, str]) rfl ⟨rfl, ?_⟩
      exact ((HI3.out.below.setCell (by simp) _).setCell (by simp) _).setCell (by simp) _
    · obtain ⟨q0, q1, q2⟩ : w3.cell? ⟨b, 0, none⟩ = some (.int .i64 (n : Int)) ∧ w3.cell? ⟨b, 1, none⟩ = some (.int .i64 (x0.size : Int)) ∧ w3.cell? ⟨b, 2, none⟩ = some (.string bits) := ⟨HI3.out.m0, HI3.out.m1, HI3.out.m2⟩
      clear r0 r1 r2 g0 g1 g2
      go_wp2_with fail
      refine (HF.out (by trivial) _).mono ?_
      rintro e w4 ⟨rfl, hb4⟩
      have HI4 := Lib.hid (HI3.out.later hb4)
      clear hb4 HI3 q0 q1 q2 HF
      obtain ⟨q0, q1, q2⟩ : w4.cell? ⟨b, 0, none⟩ = some (.int .i64 (n : Int)) ∧ w4.cell? ⟨b, 1, none⟩ = some (.int .i64 (x0.size : Int)) ∧ w4.cell? ⟨b, 2, none⟩ = some (.string bits) := ⟨HI4.out.m0, HI4.out.m1, HI4.out.m2⟩
      obtain ⟨r0, r1, r2⟩ : w4.cell? ⟨w.heap.size, 0, none⟩ = some (.int .i64 0) ∧ w4.cell? ⟨w.heap.size, 1, none⟩ = some (.int .i64 0) ∧ w4.cell? ⟨w.heap.size, 2, none⟩ = some (.string ⟨#[]⟩) := ⟨HI4.out.r0, HI4.out.r1, HI4.out.r2⟩
      obtain ⟨g0, g1, g2⟩ : w4.frozen? ⟨w.heap.size, 0, none⟩ = false ∧ w4.frozen? ⟨w.heap.size, 1, none⟩ = false ∧ w4.frozen? ⟨w.heap.size, 2, none⟩ = false := ⟨HI4.out.g0, HI4.out.g1, HI4.out.g2⟩
      have ht := HT.out
      rw [Bool.true_and] at ht
      cases tt
      · clear q0 q1 q2
        go_wp2_with fail
        refine bodyPost_ret (v := .tuple #[mat 0 0 (str []), .bool false]) (by simp [results, Tryd.results31, go_sem, r0, r1, r2, str]) rfl ⟨rfl, ?_⟩
        exact ((HI4.out.below.setCell (by simp) _).setCell (by simp) _).setCell (by simp) _
      · go_wp2_with fail
        refine bodyPost_ret (v := .tuple #[mat n x0.size bits, .bool true]) (by simp [results, Tryd.results31, go_sem, r0, r1, r2]) rfl ⟨by rw [HN.out, HBITS.out], ?_⟩
        exact ((HI4.out.below.setCell (by simp) _).setCell (by simp) _).setCell (by simp) _
end Go.Proofs.YtalechngagkklaaDoor.PMatI
