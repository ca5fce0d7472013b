/-
  The matrix that a protocol finds, of the reference.
-/
import Derived.Test.YtgfhahlkffagaaaDoorJ6
import Derived.Test.YtgfhahlkffagaaaDoorJ7
import Derived.Laws.IdiomStrings
import Derived.Laws.Concat
namespace Go.Proofs.YtgfhahlkffagaaaDoor.SaidMat
open Go.RowKit Go.Shelf Go.Proofs.YtgfhahlkffagaaaDoor.Plain Go.Proofs.YtgfhahlkffagaaaDoor.Tree Go.Proofs.YtgfhahlkffagaaaDoor.Read Go.Proofs.YtgfhahlkffagaaaDoor.Parts Go.Proofs.YtgfhahlkffagaaaDoor.Rect Go.Proofs.YtgfhahlkffagaaaDoor.Talk Go.Proofs.YtgfhahlkffagaaaDoor.FreeL
open Go.Proofs.YtgfhahlkffagaaaDoor.Free (fill wp_value wp_enter wp_load_row freeB)
set_option linter.unusedVariables false
set_option maxRecDepth 100000
set_option linter.unusedSimpArgs false

theorem conv_one (w : World) (d : UInt8) (v : Int) (hv : v = (d.toNat : Int)) :
    (convert 76 9 (.slice (some ⟨w.heap.size, 0, none⟩) 1 1)).run Tryd.prog (w.alloc (.cells #[.int .u8 v] 5)) = .ok (.string ⟨#[d]⟩) (w.alloc (.cells #[.int .u8 v] 5)) := by
  have h := run_convert_bytes_back (P := Tryd.prog) (w.alloc (.cells #[.int .u8 v] 5)) 76 9 5 ⟨w.heap.size, 0, none⟩ 1 [d] Tryd.underlying76 Tryd.underlying5 Tryd.underlying9 (fun j hj => by
    obtain rfl : j = 0 := by simpa using hj
    rw [hv]
    exact cell_of_row _ _ 0 _ _ _ (heap_alloc_new w _))
  exact h
set_option maxHeartbeats 1000000 in
theorem dec_bit (b : Bool) (w : World) : Calls Tryd.prog 67 #[.int .i64 (bitI b)] w fun e w' => e = .returned (.string ⟨#[dig b]⟩) ∧ Below w.heap.size w w' := by
  cases b
  · show Calls _ _ #[.int .i64 0] _ fun e w' => e = .returned (.string ⟨#[48]⟩) ∧ _
    have hcv := conv_one w 48 48 (by decide)
    go_enter Tryd.func67, Tryd.ntmps67
    go_wp2_with fail
    go_loop [0, 3] (fun m t => m = .int .i64 0 ∧ t = .string ⟨#[]⟩) (fun _ _ => 0)
    case atStart => exact ⟨rfl, rfl⟩
    case round =>
      obtain ⟨rfl, rfl⟩ := hrel
      go_wp2_with fail
      go_ret
      exact ⟨rfl, by go_grown⟩
  · show Calls _ _ #[.int .i64 1] _ fun e w' => e = .returned (.string ⟨#[49]⟩) ∧ _
    have hcv := conv_one w 49 49 (by decide)
    go_enter Tryd.func67, Tryd.ntmps67
    go_wp2_with fail
    go_loop [0, 3] (fun m t => m = .int .i64 1 ∧ t = .string ⟨#[]⟩) (fun _ _ => 0)
    case atStart => exact ⟨rfl, rfl⟩
    case round =>
      obtain ⟨rfl, rfl⟩ := hrel
      go_wp2_with fail
      go_ret
      exact ⟨rfl, by go_grown⟩

def mtx (r c : Int) (s : ByteArray) : Value := .agg #[.int .i64 r, .int .i64 c, .string s]
theorem cells3 {w : World} {b : Nat} {c0 c1 c2 : Value} {ty : TypeId} (h : w.heap[b]? = some (.cells #[c0, c1, c2] ty (0, 0))) : w.cell? ⟨b, 0, none⟩ = some c0 ∧ w.cell? ⟨b, 1, none⟩ = some c1 ∧ w.cell? ⟨b, 2, none⟩ = some c2 ∧ w.frozen? ⟨b, 0, none⟩ = false ∧ w.frozen? ⟨b, 1, none⟩ = false ∧ w.frozen? ⟨b, 2, none⟩ = false :=
  ⟨cell_of_row _ _ 0 _ _ _ h, cell_of_row _ _ 1 _ _ _ h, cell_of_row _ _ 2 _ _ _ h, frozen_of_row _ _ _ _ _ h, frozen_of_row _ _ _ _ _ h, frozen_of_row _ _ _ _ _ h⟩
theorem wp_skip {P : Program} {o : Oper} {a : Act} {w w' : World} {K : Act → World → Prop} {Q : Exit → Act → World → Prop} (h : (execOp a.eval o).run P w = .ok .skip w') (hK : K (a.put o.dst undef) w') : o.wp P a w K Q := by
  unfold Oper.wp
  rw [h]
  exact hK
/-- the result's block, and the matrix so far -/
structure Mx (w wr : World) (B : Nat) (r c : Int) (s : ByteArray) : Prop where
  res : wr.heap[B]? = some (.cells #[.int .i64 0, .int .i64 0, .string ⟨#[]⟩] 27 (0, 0))
  sofar : wr.heap[B + 1]? = some (.cells #[.int .i64 r, .int .i64 c, .string s] 27 (0, 0))
  below : Below w.heap.size w wr
  size : w.heap.size = B
theorem Mx.later {w wr w2 : World} {B : Nat} {r c : Int} {s : ByteArray} (h : Mx w wr B r c s) (hb : Below wr.heap.size wr w2) : Mx w w2 B r c s :=
  ⟨(hb.block _ (Array.getElem?_eq_some_iff.1 h.res).1).trans h.res, (hb.block _ (Array.getElem?_eq_some_iff.1 h.sofar).1).trans h.sofar, h.below.trans (hb.mono h.below.size), h.size⟩
theorem Mx.put {w wr : World} {B : Nat} {r c : Int} {s : ByteArray} (h : Mx w wr B r c s) (u : ByteArray) : Mx w (wr.setCell ⟨B + 1, 2, none⟩ (.string u)) B r c u := by
  have ho : ∀ k, k ≠ B + 1 → (wr.setCell ⟨B + 1, 2, none⟩ (.string u)).heap[k]? = wr.heap[k]? := fun k hk => by
    simp only [World.setCell, Array.getElem?_modify]
    rw [if_neg (by omega)]
  refine ⟨(ho B (by omega)).trans h.res, by simp [World.setCell, Array.getElem?_modify, h.sofar], ?_, h.size⟩
  exact h.below.trans ⟨rfl, rfl, rfl, by simp [World.setCell], fun k hk => ho k (by have := h.size; omega)⟩

set_option maxHeartbeats 8000000 in
set_option maxRecDepth 100000 in
theorem said_matrix (t : T) (hw : wf t) (hl : (text t).length ≤ 2000) (r c : Nat) (hr : r ≤ 8) (hc : c ≤ 8) (w : World) :
    Calls Tryd.prog 37 #[.string (str (text t)), .int .i64 (r : Int), .int .i64 (c : Int)] w fun e w' => e = .returned (mtx r c (str (rowsB (fun x y => (talkT t x y).2) r c))) ∧ Below w.heap.size w w' := by
  have HTk := Lib.hid (fun (x y : Nat) (hx : x < 8) (hy : y < 8) (W : World) => said_talk t hw hl x y hx hy W)
  have HD := Lib.hid dec_bit
  have hrc : r * c ≤ 64 := prod_le hr hc
  generalize str (text t) = st at *
  obtain ⟨B, hB⟩ : ∃ B, w.heap.size = B := ⟨_, rfl⟩
  have HBB := Lib.hid hB
  clear hw hl
  go_enter Tryd.func37, Tryd.ntmps37
  go_wp2_with fail
  obtain ⟨W1, hW1⟩ : ∃ W1, (w.alloc (.cells #[.int .i64 0, .int .i64 0, .string ⟨#[]⟩] 27)).alloc (.cells #[.int .i64 (r : Int), .int .i64 (c : Int), .string ⟨#[]⟩] 27) = W1 := ⟨_, rfl⟩
  rw [hW1]
  have HM0 : Hid (Mx w W1 B r c (str (rowsB (fun x y => (talkT t x y).2) 0 c))) := by
    show Mx _ _ _ _ _ _
    rw [← hW1, ← HBB.out]
    have b0 := Below.refl w.heap.size w
    have b1 := b0.alloc b0.size (.cells #[.int .i64 0, .int .i64 0, .string ⟨#[]⟩] 27)
    have n0 := heap_alloc_new w (.cells #[.int .i64 0, .int .i64 0, .string ⟨#[]⟩] 27)
    have n1 := heap_alloc_new (w.alloc (.cells #[.int .i64 0, .int .i64 0, .string ⟨#[]⟩] 27)) (.cells #[.int .i64 (r : Int), .int .i64 (c : Int), .string ⟨#[]⟩] 27)
    rw [show (w.alloc (.cells #[.int .i64 0, .int .i64 0, .string ⟨#[]⟩] 27)).heap.size = w.heap.size + 1 by simp] at n1
    exact ⟨(heap_alloc_old _ _ (Array.getElem?_eq_some_iff.1 n0).1).trans n0, n1, b1.alloc b1.size _, rfl⟩
  clear hW1 hB
  go_wp2_with fail
  go_loopw [8] (fun x wr => ∃ k : Nat, k ≤ r ∧ x = .int .i64 (k : Int) ∧ Hid (Mx w wr B r c (str (rowsB (fun x y => (talkT t x y).2) k c)))) (fun x _ => r - (intOf x).toNat)
  case atStart => exact ⟨0, Nat.zero_le _, rfl, HM0.out⟩
  case round =>
    obtain ⟨k, hk, rfl, HM⟩ := hrel
    clear HM0
    by_cases hkr : k < r
    · go_wp2_with fail
      go_loopw [9] (fun y wr => ∃ j : Nat, j ≤ c ∧ y = .int .i64 (j : Int) ∧ Hid (Mx w wr B r c (str (rowsB (fun x y => (talkT t x y).2) k c ++ rowB (fun x y => (talkT t x y).2) k j)))) (fun y _ => c - (intOf y).toNat)
      case atStart => exact ⟨0, Nat.zero_le _, rfl, by show Mx _ _ _ _ _ _; rw [rowB_zero, List.append_nil]; exact HM.out⟩
      case round =>
        clear HM
        obtain ⟨j, hj, rfl, HM⟩ := hrel
        by_cases hjc : j < c
        · have HT1 := Lib.hid (HTk.out k j (by omega) (by omega))
          have hsz := part_size (fun x y => (talkT t x y).2) hr hc hkr hjc
          have HNx : Hid (str (rowsB (fun x y => (talkT t x y).2) k c ++ rowB (fun x y => (talkT t x y).2) k j) ++ ⟨#[dig ((talkT t k j).2)]⟩ = str (rowsB (fun x y => (talkT t x y).2) k c ++ rowB (fun x y => (talkT t x y).2) k (j + 1))) := part_next _ k j c
          generalize str (rowsB (fun x y => (talkT t x y).2) k c ++ rowB (fun x y => (talkT t x y).2) k j) = u at *
          generalize bitsS (talkT t k j).1 = bs at *
          generalize (talkT t k j).2 = b at *
          have HD1 := Lib.hid (HD.out b)
          obtain ⟨bi, hbi⟩ : ∃ bi, bitI b = bi := ⟨_, rfl⟩
          rw [hbi] at HT1 HD1
          have hds : (⟨#[dig b]⟩ : ByteArray).size ≤ 1000 := by show 1 ≤ 1000; omega
          generalize (⟨#[dig b]⟩ : ByteArray) = d at *
          have q1 := fun W => run_string_add_sum (P := Tryd.prog) (w := W) u d (by omega)
          clear hbi hsz
          go_wp2_with fail
          refine (HT1.out _).mono ?_
          rintro e w2 ⟨rfl, hb2⟩
          have HM2 := Lib.hid (HM.out.later hb2)
          clear hb2 HM
          go_wp2_with fail
          refine wp_region_last (fun | 0 => .pointer (some ⟨B + 1, 2, none⟩) | 1 => .string u | 2 => .int .i64 bi | 3 => .string d | 4 => .string (u ++ d) | 5 => .pointer (some ⟨B + 1, 2, none⟩) | _ => undef) 6 (fun wx => wx.setCell ⟨B + 1, 2, none⟩ (.string (u ++ d))) _ (by kernel_rfl) (by kernel_rfl) rfl rfl rfl rfl (by kernel_rfl) ?con ?st ?en
          case con =>
            intro i o ho hlt a wx hb hf
            match i, ho with
            | 0, ho =>
              obtain rfl := Option.some.inj ho
              have b7 : a.tmps[7]?.getD undef = .pointer (some ⟨B + 1, 0, none⟩) := hf.2 7 (by kernel_rfl)
              exact wp_value (.pointer (some ⟨B + 1, 2, none⟩)) (by unfold execOp; go_simp) ⟨rfl, Below.refl _ _⟩
            | 1, ho =>
              obtain rfl := Option.some.inj ho
              have e32 : a.tmps[32]?.getD undef = .pointer (some ⟨B + 1, 2, none⟩) := hf.1 ⟨0, .data⟩ (by simp) rfl _ 32 rfl rfl
              obtain ⟨m0, m1, m2, _, _, _⟩ := cells3 (HM2.out.later hb).sofar
              exact wp_value (.string u) (by unfold execOp; go_simp) ⟨rfl, Below.refl _ _⟩
            | 2, ho =>
              obtain rfl := Option.some.inj ho
              have b11 : a.tmps[11]?.getD undef = .int .i64 bi := hf.2 11 (by kernel_rfl)
              exact wp_value (.int .i64 bi) (by unfold execOp; go_simp) ⟨rfl, Below.refl _ _⟩
            | 3, ho =>
              obtain rfl := Option.some.inj ho
              have e34 : a.tmps[34]?.getD undef = .int .i64 bi := hf.1 ⟨2, .data⟩ (by simp) rfl _ 34 rfl rfl
              exact wp_enter 67 #[.int .i64 bi] (.string d) _ (by unfold execOp; go_simp) (HD1.out wx) (fun w' h => ⟨rfl, h⟩)
            | 4, ho =>
              obtain rfl := Option.some.inj ho
              have e33 : a.tmps[33]?.getD undef = .string u := hf.1 ⟨1, .data⟩ (by simp) rfl _ 33 rfl rfl
              have e35 : a.tmps[35]?.getD undef = .string d := hf.1 ⟨3, .data⟩ (by simp) rfl _ 35 rfl rfl
              exact wp_value (.string (u ++ d)) (by unfold execOp; go_simp) ⟨rfl, Below.refl _ _⟩
            | 5, ho =>
              obtain rfl := Option.some.inj ho
              have b7 : a.tmps[7]?.getD undef = .pointer (some ⟨B + 1, 0, none⟩) := hf.2 7 (by kernel_rfl)
              exact wp_value (.pointer (some ⟨B + 1, 2, none⟩)) (by unfold execOp; go_simp) ⟨rfl, Below.refl _ _⟩
            | 6, ho => exact absurd hlt (by omega)
            | q + 7, ho => simp at ho
          case st =>
            intro a wx hb hf
            have e36 : a.tmps[36]?.getD undef = .string (u ++ d) := hf.1 ⟨4, .data⟩ (by simp) rfl _ 36 rfl rfl
            have e37 : a.tmps[37]?.getD undef = .pointer (some ⟨B + 1, 2, none⟩) := hf.1 ⟨5, .data⟩ (by simp) rfl _ 37 rfl rfl
            obtain ⟨m0, m1, m2, m3, m4, m5⟩ := cells3 (HM2.out.later hb).sofar
            exact wp_skip (by unfold execOp; go_simp) ⟨rfl, rfl⟩
          intro w6 hb6
          have HM3 := Lib.hid ((HM2.out.later hb6).put (u ++ d))
          clear hb6 HM2
          simp only [fill, Act.put]
          go_simp
          generalize w6.setCell ⟨B + 1, 2, none⟩ (.string (u ++ d)) = w7 at *
          go_wp2_with fail
          go_roundw
          case rel => exact ⟨j + 1, by omega, by go_num, by show Mx _ _ _ _ _ _; rw [← HNx.out]; exact HM3.out⟩
          case measure => simp [intOf]; omega
        · obtain hjc' : j = c := by omega
          have HM4 : Hid (Mx w wr B r c (str (rowsB (fun x y => (talkT t x y).2) (k + 1) c))) := by
            show Mx _ _ _ _ _ _
            have h := HM.out
            rw [hjc', part_done] at h
            exact h
          clear HM
          go_wp2_with fail
          go_roundw
          case rel => exact ⟨k + 1, by omega, by go_num, HM4.out⟩
          case measure => simp [intOf]; omega
    · obtain hkr' : k = r := by omega
      have HM4 : Hid (Mx w wr B r c (str (rowsB (fun x y => (talkT t x y).2) r c))) := by
        show Mx _ _ _ _ _ _
        have h := HM.out
        rw [hkr'] at h
        exact h
      clear HM
      obtain ⟨u, hu⟩ : ∃ u, str (rowsB (fun x y => (talkT t x y).2) r c) = u := ⟨_, rfl⟩
      rw [hu] at HM4
      have HU := Lib.hid hu
      obtain ⟨p0, p1, p2, p3, p4, p5⟩ := cells3 HM4.out.res
      obtain ⟨m0, m1, m2, m3, m4, m5⟩ := cells3 HM4.out.sofar
      clear hu
      go_wp2_with fail
      obtain ⟨W8, hW8⟩ : ∃ W8, (((wr.setCell ⟨B, 0, none⟩ (.int .i64 (r : Int))).setCell ⟨B, 1, none⟩ (.int .i64 (c : Int))).setCell ⟨B, 2, none⟩ (.string u)) = W8 := ⟨_, rfl⟩
      rw [hW8]
      have HF : Hid (W8.heap[B]? = some (.cells #[.int .i64 (r : Int), .int .i64 (c : Int), .string u] 27 (0, 0)) ∧ Below w.heap.size w W8) := by
        show _ ∧ _
        rw [← hW8]
        refine ⟨by simp [World.setCell, Array.getElem?_modify, HM4.out.res], ?_⟩
        have h1 : w.heap.size ≤ B := Nat.le_of_eq HM4.out.size
        exact ((HM4.out.below.setCell (p := ⟨B, 0, none⟩) h1 _).setCell (p := ⟨B, 1, none⟩) h1 _).setCell (p := ⟨B, 2, none⟩) h1 _
      clear hW8 HM4 p0 p1 p2 p3 p4 p5 m0 m1 m2 m3 m4 m5
      obtain ⟨x0, x1, x2, _, _, _⟩ := cells3 HF.out.1
      refine bodyPost_ret (v := mtx r c u) (by simp [results, Tryd.results37, go_sem, x0, x1, x2, mtx]) rfl ⟨by rw [HU.out], HF.out.2⟩
end Go.Proofs.YtgfhahlkffagaaaDoor.SaidMat
