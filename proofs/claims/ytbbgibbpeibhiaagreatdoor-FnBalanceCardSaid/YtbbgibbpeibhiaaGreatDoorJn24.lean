/-
  Texts of one seat, joined: MatI, MatrixOfWalk, ErrW, Board.
-/
import Derived.Test.YtbbgibbpeibhiaaGreatDoorJn1
import Derived.Test.YtbbgibbpeibhiaaGreatDoorJn23
import Derived.Test.YtbbgibbpeibhiaaGreatDoorJn12
import Derived.Lib.BufferMore
import Derived.Test.YtbbgibbpeibhiaaGreatDoorJn15
import Derived.Test.YtbbgibbpeibhiaaGreatDoorJn16
import Derived.Test.YtbbgibbpeibhiaaGreatDoorJn11
import Derived.Deep.QuietTactic
import Derived.BigQuiet
import Derived.Test.YtbbgibbpeibhiaaGreatDoorJn14
import Derived.Test.YtbbgibbpeibhiaaGreatDoorJn5
/-
  The program's matrix of a protocol.
-/
namespace Go.Proofs.YtbbgibbpeibhiaaGreatDoor.MatI
open Go.RowKit Go.Shelf Go.Proofs.YtbbgibbpeibhiaaGreatDoor.Plain Go.Proofs.YtbbgibbpeibhiaaGreatDoor.Base Go.Proofs.YtbbgibbpeibhiaaGreatDoor.Pat Go.Proofs.YtbbgibbpeibhiaaGreatDoor.Patch Go.Proofs.YtbbgibbpeibhiaaGreatDoor.Rect Go.Proofs.YtbbgibbpeibhiaaGreatDoor.Tree Go.Proofs.YtbbgibbpeibhiaaGreatDoor.Read Go.Proofs.YtbbgibbpeibhiaaGreatDoor.TreeOf Go.Proofs.YtbbgibbpeibhiaaGreatDoor.TreeIn Go.Proofs.YtbbgibbpeibhiaaGreatDoor.App Go.Proofs.YtbbgibbpeibhiaaGreatDoor.Leaf Go.Proofs.YtbbgibbpeibhiaaGreatDoor.LeavesI Go.Proofs.YtbbgibbpeibhiaaGreatDoor.Talk Go.Proofs.YtbbgibbpeibhiaaGreatDoor.MatT Go.Proofs.YtbbgibbpeibhiaaGreatDoor.MatP Go.Proofs.YtbbgibbpeibhiaaGreatDoor.MatC Go.Proofs.YtbbgibbpeibhiaaGreatDoor.FreeL Go.Proofs.YtbbgibbpeibhiaaGreatDoor.From
open Go.Proofs.YtbbgibbpeibhiaaGreatDoor.LeafRectsI (cellsL_get)
open Go.Proofs.YtbbgibbpeibhiaaGreatDoor.Free (fill wp_value wp_enter wp_load_row freeB)
set_option linter.unusedVariables false
set_option maxRecDepth 100000
set_option linter.unusedSimpArgs false

theorem old_kept (w : World) (o : Obj) {r : Nat} (h : r < w.heap.size) : (w.alloc o).heap[r]? = w.heap[r]? := by
  simp only [World.alloc, Array.getElem?_push]
  rw [if_neg (by omega)]
theorem wp_skip {P : Program} {o : Oper} {a : Act} {w w' : World} {K : Act → World → Prop} {Q : Exit → Act → World → Prop} (h : (execOp a.eval o).run P w = .ok .skip w') (hK : K (a.put o.dst undef) w') : o.wp P a w K Q := by
  unfold Oper.wp
  rw [h]
  exact hK
theorem set_other {w : World} {B k i : Nat} {v : Value} (h : k ≠ B) : (w.setCell ⟨B, i, none⟩ v).heap[k]? = w.heap[k]? := by
  simp only [World.setCell, Array.getElem?_modify]
  rw [if_neg (by omega)]
theorem set_two {w : World} {g : Nat} {c0 c1 v : Value} {T : TypeId} (i : Nat) (h : w.heap[g]? = some (.cells #[c0, c1] T (0, 0))) : (w.setCell ⟨g, i, none⟩ v).heap[g]? = some (.cells (#[c0, c1].setIfInBounds i v) T (0, 0)) := by
  simp [World.setCell, Array.getElem?_modify, h]
theorem set_below {b : Nat} {w w1 : World} {B i : Nat} {v : Value} (h : Below b w w1) (hB : b ≤ B) : Below b w (w1.setCell ⟨B, i, none⟩ v) :=
  h.trans ⟨rfl, rfl, rfl, by simp [World.setCell], fun k hk => set_other (by omega)⟩
theorem cell_same {w w1 : World} {g i : Nat} (h : w1.heap[g]? = w.heap[g]?) : w1.cell? ⟨g, i, none⟩ = w.cell? ⟨g, i, none⟩ := by
  simp only [World.cell?, h]

/-- what the loop keeps: the result's block, the found entries, and all other blocks -/
structure MI (w w2 wr : World) (D z o : Nat) : Prop where
  found : wr.heap[D]? = some (.cells #[.int .u64 (z : Int), .int .u64 (o : Int)] 58 (0, 0))
  keep : ∀ i, i < w2.heap.size → i ≠ D → wr.heap[i]? = w2.heap[i]?
  size : w2.heap.size ≤ wr.heap.size
  below : Below w.heap.size w wr
  low : w.heap.size < D ∧ D < w2.heap.size
theorem MI.later {w w2 wr w3 : World} {D z o : Nat} (h : MI w w2 wr D z o) (hb : Below wr.heap.size wr w3) : MI w w2 w3 D z o :=
  ⟨(hb.block _ (Array.getElem?_eq_some_iff.1 h.found).1).trans h.found, fun i hi hd => (hb.block _ (Nat.lt_of_lt_of_le hi h.size)).trans (h.keep i hi hd), Nat.le_trans h.size hb.size, h.below.trans (hb.mono h.below.size), h.low⟩
theorem MI.put0 {w w2 wr : World} {D z o : Nat} (h : MI w w2 wr D z o) (n : Nat) : MI w w2 (wr.setCell ⟨D, 0, none⟩ (.int .u64 (n : Int))) D n o :=
  ⟨set_two 0 h.found, fun i hi hd => (set_other hd).trans (h.keep i hi hd), by simpa [World.setCell] using h.size, set_below h.below (Nat.le_of_lt h.low.1), h.low⟩
theorem MI.put1 {w w2 wr : World} {D z o : Nat} (h : MI w w2 wr D z o) (n : Nat) : MI w w2 (wr.setCell ⟨D, 1, none⟩ (.int .u64 (n : Int))) D z n :=
  ⟨set_two 1 h.found, fun i hi hd => (set_other hd).trans (h.keep i hi hd), by simpa [World.setCell] using h.size, set_below h.below (Nat.le_of_lt h.low.1), h.low⟩
theorem next_false (l : List (Nat × Nat × Bool)) (p : Nat × Nat × Bool) (h : ∀ q ∈ l, q.2.1 < 256) (hp : p.2.1 < 256) (hv : p.2.2 = false) :
    pat (fB false (l ++ [p])) 8 = pat (fB false l) 8 ||| pat (rectB p.1 p.2.1) 8 ∧ pat (fB true (l ++ [p])) 8 = pat (fB true l) 8 := by
  rw [pat_next _ _ _ h hp, pat_next _ _ _ h hp, hv]
  exact ⟨rfl, rfl⟩
theorem next_true (l : List (Nat × Nat × Bool)) (p : Nat × Nat × Bool) (h : ∀ q ∈ l, q.2.1 < 256) (hp : p.2.1 < 256) (hv : p.2.2 = true) :
    pat (fB true (l ++ [p])) 8 = pat (fB true l) 8 ||| pat (rectB p.1 p.2.1) 8 ∧ pat (fB false (l ++ [p])) 8 = pat (fB false l) 8 := by
  rw [pat_next _ _ _ h hp, pat_next _ _ _ h hp, hv]
  exact ⟨rfl, rfl⟩

set_option maxHeartbeats 4000000 in
set_option maxRecDepth 100000 in
theorem impl_nil (s : ByteArray) (r c : Int) (M N : Nat) (hI : ∀ W : World, Calls Tryz.prog 26 #[.string s, .int .i64 r, .int .i64 c] W fun e w' => e = .returned (.tuple #[.nilIface, rect M N]) ∧ Below W.heap.size W w') (w : World) :
    Calls Tryz.prog 7 #[.string s, .int .i64 r, .int .i64 c] w fun e w' => e = .returned (.tuple #[mat 0 0 (str []), .bool false]) ∧ Below w.heap.size w w' := by
  have HI := Lib.hid hI
  clear hI
  go_enter Tryz.func7, Tryz.ntmps7
  go_wp2_with fail
  refine (HI.out _).mono ?_
  rintro e w1 ⟨rfl, hb1⟩
  have HM : Hid (w1.heap[w.heap.size]? = some (.cells #[.int .i64 0, .int .i64 0, .string ⟨#[]⟩] 28 (0, 0))) := (hb1.block _ (by simp)).trans (heap_alloc_new w _)
  have HB1 := Lib.hid (((Below.refl w.heap.size w).alloc (Nat.le_refl _) _).trans (hb1.mono (by simp)))
  clear hb1
  have HA : Hid ((w1.alloc (.cells #[.int .i64 (M : Int), .int .i64 (N : Int)] 45)).heap[w.heap.size]? = some (.cells #[.int .i64 0, .int .i64 0, .string ⟨#[]⟩] 28 (0, 0))) := (old_kept _ _ (Array.getElem?_eq_some_iff.1 HM.out).1).trans HM.out
  have k0 := cell_of_row _ _ 0 _ _ _ HA.out
  have k1 := cell_of_row _ _ 1 _ _ _ HA.out
  have k2 := cell_of_row _ _ 2 _ _ _ HA.out
  have f1 := frozen_of_row _ _ 0 _ _ HA.out
  have f2 := frozen_of_row _ _ 1 _ _ HA.out
  have f3 := frozen_of_row _ _ 2 _ _ HA.out
  have HB2 := Lib.hid (HB1.out.alloc HB1.out.size (.cells #[.int .i64 (M : Int), .int .i64 (N : Int)] 45))
  clear HM HA HB1
  go_wp2_with fail
  refine bodyPost_ret (v := .tuple #[mat 0 0 (str []), .bool false]) (by simp [results, Tryz.results7, go_sem, k0, k1, k2, str]) rfl ⟨rfl, ?_⟩
  exact ((HB2.out.setCell (Nat.le_refl _) _).setCell (Nat.le_refl _) _).setCell (Nat.le_refl _) _

set_option maxHeartbeats 8000000 in
set_option maxRecDepth 100000 in
theorem impl_yes (s : ByteArray) (t : T) (hw : wf t) (h : s.data.toList = text t) (hs : s.size ≤ 2000) (r c : Nat) (hr : 1 ≤ r ∧ r ≤ 8) (hc : 1 ≤ c ∧ c ≤ 8) (w : World) :
    Calls Tryz.prog 7 #[.string s, .int .i64 (r : Int), .int .i64 (c : Int)] w fun e w' => e = .returned (.tuple #[mat r c (str (rowsB (fun x y => (fB true (leavesT t (allN r) (allN c)) x).testBit y) r c)), .bool true]) ∧ Below w.heap.size w w' := by
  obtain ⟨_, p2, p3⟩ := pow_facts r hr
  obtain ⟨_, q2, q3⟩ := pow_facts c hc
  have hl : (text t).length = s.size := by rw [← h]; simp
  have hll := Nat.le_trans (leaves_length t (allN r) (allN c)) (show _ ≤ 2000 by omega)
  have HI := Lib.hid (in_yes s (tree t) (tree_yes s t hw h hs) r c hr hc)
  have HLT := Lib.hid (leaves_lt t (allN r) (allN c) p3 q3)
  have hC := leaves_to t (by omega)
  unfold Go.Proofs.YtbbgibbpeibhiaaGreatDoor.Count.Node LeavesC at hC
  clear h hl hw
  rcases hC with ⟨V, ev, hv⟩ | ⟨V, ev, hv⟩
  · have HC := Lib.hid (fun W => hv (allN r) (allN c) W p3 q3)
    rw [ev] at HI
    clear ev hv
    generalize leavesT t (allN r) (allN c) = LA at *
    generalize allN r = M at *
    generalize allN c = N at *
    go_enter Tryz.func7, Tryz.ntmps7
    go_wp2_with fail
    refine (HI.out _).mono ?_
    rintro e w1 ⟨rfl, hb1⟩
    have HB1 := Lib.hid (((Below.refl w.heap.size w).alloc (Nat.le_refl _) (.cells #[.int .i64 0, .int .i64 0, .string ⟨#[]⟩] 28)).trans (hb1.mono (by simp)))
    have hs1 : w.heap.size + 1 ≤ w1.heap.size := by have := hb1.size; simpa using this
    have HS1 := Lib.hid hs1
    clear hs1
    have HM1 : Hid (w1.heap[w.heap.size]? = some (.cells #[.int .i64 0, .int .i64 0, .string ⟨#[]⟩] 28 (0, 0))) := (hb1.block _ (by simp)).trans (heap_alloc_new w _)
    clear hb1
    go_wp2_with fail
    refine (HC.out _).mono ?_
    rintro e w2 ⟨v, rfl, hO⟩
    obtain ⟨D, hD⟩ : ∃ D, w1.heap.size + 1 = D := ⟨_, rfl⟩
    have hWs : D + 1 ≤ w2.heap.size := by have := hO.below.size; simp at this; omega
    have hb2 := hO.below
    have HF0 : Hid (MI w w2 w2 D (pat (fB false []) 8) (pat (fB true []) 8)) := by
      refine ⟨?_, fun i _ _ => rfl, Nat.le_refl _, ?_, ?_⟩
      · rw [fB_nil, fB_nil, pat_none, ← hD]
        refine (hb2.block _ (by simp)).trans ?_
        have h2 := heap_alloc_new (w1.alloc (.cells #[.int .i64 (M : Int), .int .i64 (N : Int)] 45)) (.cells #[.int .u64 0, .int .u64 0] 58)
        rwa [World.size_alloc] at h2
      · exact ((HB1.out.alloc HB1.out.size _).alloc (by have := HB1.out.size; simp; omega) _).trans (hb2.mono (by have := HS1.out; simp; omega))
      · have := HS1.out
        omega
    have HM2 : Hid (w2.heap[w.heap.size]? = some (.cells #[.int .i64 0, .int .i64 0, .string ⟨#[]⟩] 28 (0, 0))) := by
      refine (hb2.block _ (by have := HS1.out; simp; omega)).trans ?_
      rw [old_kept _ _ (by have := HS1.out; simp; omega), old_kept _ _ (by have := HS1.out; omega)]
      exact HM1.out
    obtain ⟨p, cc, rfl⟩ := hO.slice
    have HCE : Hid (∀ k (hk : k < LA.length), ∃ g, p = some ⟨g, 0, none⟩ ∧ g < w2.heap.size ∧ g ≠ D ∧ w2.cell? ⟨g, k * 3, none⟩ = some (.int .i64 (LA[k].1 : Int)) ∧ w2.cell? ⟨g, k * 3 + 1, none⟩ = some (.int .i64 (LA[k].2.1 : Int)) ∧ w2.cell? ⟨g, k * 3 + 2, none⟩ = some (.int .i64 (bitI LA[k].2.2))) := fun k hk => by
      obtain ⟨g, hp, hgl, hg, h0⟩ := hO.cell (k * 3) (by omega)
      obtain ⟨g1, hp1, _, _, h1⟩ := hO.cell (k * 3 + 1) (by omega)
      obtain ⟨g2, hp2, _, _, h2⟩ := hO.cell (k * 3 + 2) (by omega)
      rw [hp] at hp1 hp2
      simp only [Option.some.injEq, Addr.mk.injEq, and_true] at hp1 hp2
      subst hp1 hp2
      obtain ⟨x0, x1, x2⟩ := cellsL_get LA k hk
      exact ⟨g, hp, hg, by simp at hgl; omega, by rw [h0, x0], by rw [h1, x1], by rw [h2, x2]⟩
    clear hO HB1 hb2 HM1
    subst hD
    go_wp2_with fail
    go_loopw [27] (fun i wr => ∃ k : Nat, k ≤ LA.length ∧ i = .int .i64 (k : Int) ∧ Hid (MI w w2 wr (w1.heap.size + 1) (pat (fB false (LA.take k)) 8) (pat (fB true (LA.take k)) 8))) (fun i _ => LA.length - (intOf i).toNat)
    case atStart => exact ⟨0, Nat.zero_le _, rfl, HF0⟩
    case round =>
      obtain ⟨k, hk, rfl, HO⟩ := hrel
      by_cases hlt : k < LA.length
      · obtain ⟨g, hp, hg, hgD, y0, y1, y2⟩ := HCE.out k hlt
        subst hp
        have HT : Hid (LA.take (k + 1) = LA.take k ++ [LA[k]]) := List.take_succ_eq_append_getElem hlt
        have hlts := HLT.out LA[k] (List.getElem_mem hlt)
        have hlps : ∀ q ∈ LA.take k, q.2.1 < 256 := fun q hq => (HLT.out q (List.mem_of_mem_take hq)).2
        have ee := HO.out.keep g hg hgD
        have x0 := (cell_same (i := k * 3) ee).trans y0
        have x1 := (cell_same (i := k * 3 + 1) ee).trans y1
        have x2 := (cell_same (i := k * 3 + 2) ee).trans y2
        clear y0 y1 y2 ee
        have hnF := next_false (LA.take k) LA[k] hlps hlts.2
        have hnT := next_true (LA.take k) LA[k] hlps hlts.2
        rw [← HT.out] at hnF hnT
        have HNF := Lib.hid hnF
        have HNT := Lib.hid hnT
        have HP := Lib.hid (patch_any LA[k].1 LA[k].2.1 hlts.1 hlts.2)
        have hpl := pat64 (rectB LA[k].1 LA[k].2.1) (rectB_lt _ _ hlts.2)
        have hzl := pat64 (fB false (LA.take k)) (fun j => fB_lt _ j _ hlps)
        have hol := pat64 (fB true (LA.take k)) (fun j => fB_lt _ j _ hlps)
        have HOZ := Lib.hid (u64_or_nat _ _ hzl hpl)
        have HOO := Lib.hid (u64_or_nat _ _ hol hpl)
        clear hnF hnT hlts hlps hpl hzl hol HT
        generalize pat (fB false (LA.take k)) 8 = z at *
        generalize pat (fB true (LA.take k)) 8 = o at *
        generalize pat (rectB LA[k].1 LA[k].2.1) 8 = p at *
        obtain ⟨b, hbv⟩ : ∃ b, LA[k].2.2 = b := ⟨_, rfl⟩
        rw [hbv] at x2 HNF HNT
        generalize LA[k].1 = R1 at *
        generalize LA[k].2.1 = C1 at *
        clear hbv
        have HO1 := Lib.hid (HO.out.later ((Below.refl wr.heap.size wr).alloc (Nat.le_refl _) (.cells #[.int .i64 (R1 : Int), .int .i64 (C1 : Int), .int .i64 (bitI b)] 63)))
        have HL1 : Hid ((wr.alloc (.cells #[.int .i64 (R1 : Int), .int .i64 (C1 : Int), .int .i64 (bitI b)] 63)).heap[wr.heap.size]? = some (.cells #[.int .i64 (R1 : Int), .int .i64 (C1 : Int), .int .i64 (bitI b)] 63 (0, 0))) := heap_alloc_new wr _
        clear HO
        go_wp2_with fail
        generalize wr.alloc (.cells #[.int .i64 (R1 : Int), .int .i64 (C1 : Int), .int .i64 (bitI b)] 63) = W1 at *
        generalize wr.heap.size = L at *
        have HD0 : Hid (∀ wx : World, Below W1.heap.size W1 wx → wx.heap[w1.heap.size + 1]? = some (.cells #[.int .u64 (z : Int), .int .u64 (o : Int)] 58 (0, 0))) := fun wx h => (h.block _ (Array.getElem?_eq_some_iff.1 HO1.out.found).1).trans HO1.out.found
        have HL0 : Hid (∀ wx : World, Below W1.heap.size W1 wx → wx.heap[L]? = some (.cells #[.int .i64 (R1 : Int), .int .i64 (C1 : Int), .int .i64 (bitI b)] 63 (0, 0))) := fun wx h => (h.block _ (Array.getElem?_eq_some_iff.1 HL1.out).1).trans HL1.out
        clear HL1
        cases b
        · have HD := HD0
          have HL : Hid (∀ wx : World, Below W1.heap.size W1 wx → wx.heap[L]? = some (.cells #[.int .i64 (R1 : Int), .int .i64 (C1 : Int), .int .i64 0] 63 (0, 0))) := HL0
          have HO := HOZ
          have HQ : Hid (pat (fB false (LA.take (k + 1))) 8 = z ||| p ∧ pat (fB true (LA.take (k + 1))) 8 = o) := HNF.out rfl
          clear HD0 HL0 HNF HNT
          generalize z ||| p = n at *
          refine wp_region_last (fun | 0 => .pointer (some ⟨L, 2, none⟩) | 1 => .int .i64 0 | 2 => .pointer (some ⟨w1.heap.size + 1, 0, none⟩) | 3 => .int .u64 (z : Int) | 4 => .pointer (some ⟨L, 0, none⟩) | 5 => rect (R1 : Int) (C1 : Int) | 6 => .int .u64 (p : Int) | 7 => .int .u64 (n : Int) | 8 => .pointer (some ⟨w1.heap.size + 1, 0, none⟩) | _ => undef) 9 (fun wx => wx.setCell ⟨w1.heap.size + 1, 0, none⟩ (.int .u64 (n : Int))) _ (by kernel_rfl) (by kernel_rfl) rfl rfl rfl rfl (by kernel_rfl) ?con00 ?st00 ?en00
          case con00 =>
            intro i o ho hlt a wx hb hf
            match i, ho with
            | 0, ho =>
              obtain rfl := Option.some.inj ho
              have b12 : a.tmps[12]?.getD undef = .pointer (some ⟨L, 0, none⟩) := hf.2 12 (by kernel_rfl)
              exact wp_value (.pointer (some ⟨L, 2, none⟩)) (by unfold execOp; go_simp) ⟨rfl, Below.refl _ _⟩
            | 1, ho =>
              obtain rfl := Option.some.inj ho
              have e31 : a.tmps[31]?.getD undef = .pointer (some ⟨L, 2, none⟩) := hf.1 ⟨0, .data⟩ (by simp) rfl _ 31 rfl rfl
              have g2 : wx.cell? ⟨L, 2, none⟩ = some (.int .i64 0) := cell_of_row _ _ 2 _ _ _ (HL.out wx hb)
              exact wp_value (.int .i64 0) (by unfold execOp; go_simp) ⟨rfl, Below.refl _ _⟩
            | 2, ho =>
              obtain rfl := Option.some.inj ho
              have e32 : a.tmps[32]?.getD undef = .int .i64 0 := hf.1 ⟨1, .data⟩ (by simp) rfl _ 32 rfl rfl
              have b10 : a.tmps[10]?.getD undef = .pointer (some ⟨w1.heap.size + 1, 0, none⟩) := hf.2 10 (by kernel_rfl)
              exact wp_value (.pointer (some ⟨w1.heap.size + 1, 0, none⟩)) (by unfold execOp; go_simp) ⟨rfl, Below.refl _ _⟩
            | 3, ho =>
              obtain rfl := Option.some.inj ho
              have e33 : a.tmps[33]?.getD undef = .pointer (some ⟨w1.heap.size + 1, 0, none⟩) := hf.1 ⟨2, .data⟩ (by simp) rfl _ 33 rfl rfl
              have g2 : wx.cell? ⟨w1.heap.size + 1, 0, none⟩ = some (.int .u64 (z : Int)) := cell_of_row _ _ 0 _ _ _ (HD.out wx hb)
              exact wp_value (.int .u64 (z : Int)) (by unfold execOp; go_simp) ⟨rfl, Below.refl _ _⟩
            | 4, ho =>
              obtain rfl := Option.some.inj ho
              have b12 : a.tmps[12]?.getD undef = .pointer (some ⟨L, 0, none⟩) := hf.2 12 (by kernel_rfl)
              exact wp_value (.pointer (some ⟨L, 0, none⟩)) (by unfold execOp; go_simp) ⟨rfl, Below.refl _ _⟩
            | 5, ho =>
              obtain rfl := Option.some.inj ho
              have e35 : a.tmps[35]?.getD undef = .pointer (some ⟨L, 0, none⟩) := hf.1 ⟨4, .data⟩ (by simp) rfl _ 35 rfl rfl
              have g0 : wx.cell? ⟨L, 0, none⟩ = some (.int .i64 (R1 : Int)) := cell_of_row _ _ 0 _ _ _ (HL.out wx hb)
              have g1 : wx.cell? ⟨L, 1, none⟩ = some (.int .i64 (C1 : Int)) := cell_of_row _ _ 1 _ _ _ (HL.out wx hb)
              exact wp_value (rect (R1 : Int) (C1 : Int)) (by unfold execOp; go_simp) ⟨rfl, Below.refl _ _⟩
            | 6, ho =>
              obtain rfl := Option.some.inj ho
              have e36 : a.tmps[36]?.getD undef = rect (R1 : Int) (C1 : Int) := hf.1 ⟨5, .data⟩ (by simp) rfl _ 36 rfl rfl
              exact wp_enter 27 #[rect (R1 : Int) (C1 : Int)] (.int .u64 (p : Int)) _ (by unfold execOp; go_simp) (HP.out wx) (fun w' h => ⟨rfl, h⟩)
            | 7, ho =>
              obtain rfl := Option.some.inj ho
              have e34 : a.tmps[34]?.getD undef = .int .u64 (z : Int) := hf.1 ⟨3, .data⟩ (by simp) rfl _ 34 rfl rfl
              have e37 : a.tmps[37]?.getD undef = .int .u64 (p : Int) := hf.1 ⟨6, .data⟩ (by simp) rfl _ 37 rfl rfl
              exact wp_value (.int .u64 (n : Int)) (by unfold execOp; go_simp; exact HO.out) ⟨rfl, Below.refl _ _⟩
            | 8, ho =>
              obtain rfl := Option.some.inj ho
              have e32 : a.tmps[32]?.getD undef = .int .i64 0 := hf.1 ⟨1, .data⟩ (by simp) rfl _ 32 rfl rfl
              have b10 : a.tmps[10]?.getD undef = .pointer (some ⟨w1.heap.size + 1, 0, none⟩) := hf.2 10 (by kernel_rfl)
              exact wp_value (.pointer (some ⟨w1.heap.size + 1, 0, none⟩)) (by unfold execOp; go_simp) ⟨rfl, Below.refl _ _⟩
            | 9, ho => exact absurd hlt (by omega)
            | q + 10, ho => simp at ho
          case st00 =>
            intro a wx hb hf
            have e38 : a.tmps[38]?.getD undef = .int .u64 (n : Int) := hf.1 ⟨7, .data⟩ (by simp) rfl _ 38 rfl rfl
            have e39 : a.tmps[39]?.getD undef = .pointer (some ⟨w1.heap.size + 1, 0, none⟩) := hf.1 ⟨8, .data⟩ (by simp) rfl _ 39 rfl rfl
            have g2 : wx.cell? ⟨w1.heap.size + 1, 0, none⟩ = some (.int .u64 (z : Int)) := cell_of_row _ _ 0 _ _ _ (HD.out wx hb)
            have g3 : wx.frozen? ⟨w1.heap.size + 1, 0, none⟩ = false := frozen_of_row _ _ _ _ _ (HD.out wx hb)
            exact wp_skip (by unfold execOp; go_simp) ⟨rfl, rfl⟩
          case en00 =>
            intro w5 hb5
            have H5 := Lib.hid ((HO1.out.later hb5).put0 n)
            clear hb5 HO1 HD HL
            simp only [fill, Act.put]
            go_simp
            go_wp2_with fail
            go_roundw
            case rel => exact ⟨k + 1, by omega, by go_num, by show MI _ _ _ _ _ _; rw [HQ.out.1, HQ.out.2]; exact H5.out⟩
            case measure => simp [intOf]; omega
        · have HD := HD0
          have HL : Hid (∀ wx : World, Below W1.heap.size W1 wx → wx.heap[L]? = some (.cells #[.int .i64 (R1 : Int), .int .i64 (C1 : Int), .int .i64 1] 63 (0, 0))) := HL0
          have HO := HOO
          have HQ : Hid (pat (fB true (LA.take (k + 1))) 8 = o ||| p ∧ pat (fB false (LA.take (k + 1))) 8 = z) := HNT.out rfl
          clear HD0 HL0 HNF HNT
          generalize o ||| p = n at *
          refine wp_region_last (fun | 0 => .pointer (some ⟨L, 2, none⟩) | 1 => .int .i64 1 | 2 => .pointer (some ⟨w1.heap.size + 1, 1, none⟩) | 3 => .int .u64 (o : Int) | 4 => .pointer (some ⟨L, 0, none⟩) | 5 => rect (R1 : Int) (C1 : Int) | 6 => .int .u64 (p : Int) | 7 => .int .u64 (n : Int) | 8 => .pointer (some ⟨w1.heap.size + 1, 1, none⟩) | _ => undef) 9 (fun wx => wx.setCell ⟨w1.heap.size + 1, 1, none⟩ (.int .u64 (n : Int))) _ (by kernel_rfl) (by kernel_rfl) rfl rfl rfl rfl (by kernel_rfl) ?con01 ?st01 ?en01
          case con01 =>
            intro i o ho hlt a wx hb hf
            match i, ho with
            | 0, ho =>
              obtain rfl := Option.some.inj ho
              have b12 : a.tmps[12]?.getD undef = .pointer (some ⟨L, 0, none⟩) := hf.2 12 (by kernel_rfl)
              exact wp_value (.pointer (some ⟨L, 2, none⟩)) (by unfold execOp; go_simp) ⟨rfl, Below.refl _ _⟩
            | 1, ho =>
              obtain rfl := Option.some.inj ho
              have e31 : a.tmps[31]?.getD undef = .pointer (some ⟨L, 2, none⟩) := hf.1 ⟨0, .data⟩ (by simp) rfl _ 31 rfl rfl
              have g2 : wx.cell? ⟨L, 2, none⟩ = some (.int .i64 1) := cell_of_row _ _ 2 _ _ _ (HL.out wx hb)
              exact wp_value (.int .i64 1) (by unfold execOp; go_simp) ⟨rfl, Below.refl _ _⟩
            | 2, ho =>
              obtain rfl := Option.some.inj ho
              have e32 : a.tmps[32]?.getD undef = .int .i64 1 := hf.1 ⟨1, .data⟩ (by simp) rfl _ 32 rfl rfl
              have b10 : a.tmps[10]?.getD undef = .pointer (some ⟨w1.heap.size + 1, 0, none⟩) := hf.2 10 (by kernel_rfl)
              exact wp_value (.pointer (some ⟨w1.heap.size + 1, 1, none⟩)) (by unfold execOp; go_simp) ⟨rfl, Below.refl _ _⟩
            | 3, ho =>
              obtain rfl := Option.some.inj ho
              have e33 : a.tmps[33]?.getD undef = .pointer (some ⟨w1.heap.size + 1, 1, none⟩) := hf.1 ⟨2, .data⟩ (by simp) rfl _ 33 rfl rfl
              have g2 : wx.cell? ⟨w1.heap.size + 1, 1, none⟩ = some (.int .u64 (o : Int)) := cell_of_row _ _ 1 _ _ _ (HD.out wx hb)
              exact wp_value (.int .u64 (o : Int)) (by unfold execOp; go_simp) ⟨rfl, Below.refl _ _⟩
            | 4, ho =>
              obtain rfl := Option.some.inj ho
              have b12 : a.tmps[12]?.getD undef = .pointer (some ⟨L, 0, none⟩) := hf.2 12 (by kernel_rfl)
              exact wp_value (.pointer (some ⟨L, 0, none⟩)) (by unfold execOp; go_simp) ⟨rfl, Below.refl _ _⟩
            | 5, ho =>
              obtain rfl := Option.some.inj ho
              have e35 : a.tmps[35]?.getD undef = .pointer (some ⟨L, 0, none⟩) := hf.1 ⟨4, .data⟩ (by simp) rfl _ 35 rfl rfl
              have g0 : wx.cell? ⟨L, 0, none⟩ = some (.int .i64 (R1 : Int)) := cell_of_row _ _ 0 _ _ _ (HL.out wx hb)
              have g1 : wx.cell? ⟨L, 1, none⟩ = some (.int .i64 (C1 : Int)) := cell_of_row _ _ 1 _ _ _ (HL.out wx hb)
              exact wp_value (rect (R1 : Int) (C1 : Int)) (by unfold execOp; go_simp) ⟨rfl, Below.refl _ _⟩
            | 6, ho =>
              obtain rfl := Option.some.inj ho
              have e36 : a.tmps[36]?.getD undef = rect (R1 : Int) (C1 : Int) := hf.1 ⟨5, .data⟩ (by simp) rfl _ 36 rfl rfl
              exact wp_enter 27 #[rect (R1 : Int) (C1 : Int)] (.int .u64 (p : Int)) _ (by unfold execOp; go_simp) (HP.out wx) (fun w' h => ⟨rfl, h⟩)
            | 7, ho =>
              obtain rfl := Option.some.inj ho
              have e34 : a.tmps[34]?.getD undef = .int .u64 (o : Int) := hf.1 ⟨3, .data⟩ (by simp) rfl _ 34 rfl rfl
              have e37 : a.tmps[37]?.getD undef = .int .u64 (p : Int) := hf.1 ⟨6, .data⟩ (by simp) rfl _ 37 rfl rfl
              exact wp_value (.int .u64 (n : Int)) (by unfold execOp; go_simp; exact HO.out) ⟨rfl, Below.refl _ _⟩
            | 8, ho =>
              obtain rfl := Option.some.inj ho
              have e32 : a.tmps[32]?.getD undef = .int .i64 1 := hf.1 ⟨1, .data⟩ (by simp) rfl _ 32 rfl rfl
              have b10 : a.tmps[10]?.getD undef = .pointer (some ⟨w1.heap.size + 1, 0, none⟩) := hf.2 10 (by kernel_rfl)
              exact wp_value (.pointer (some ⟨w1.heap.size + 1, 1, none⟩)) (by unfold execOp; go_simp) ⟨rfl, Below.refl _ _⟩
            | 9, ho => exact absurd hlt (by omega)
            | q + 10, ho => simp at ho
          case st01 =>
            intro a wx hb hf
            have e38 : a.tmps[38]?.getD undef = .int .u64 (n : Int) := hf.1 ⟨7, .data⟩ (by simp) rfl _ 38 rfl rfl
            have e39 : a.tmps[39]?.getD undef = .pointer (some ⟨w1.heap.size + 1, 1, none⟩) := hf.1 ⟨8, .data⟩ (by simp) rfl _ 39 rfl rfl
            have g2 : wx.cell? ⟨w1.heap.size + 1, 1, none⟩ = some (.int .u64 (o : Int)) := cell_of_row _ _ 1 _ _ _ (HD.out wx hb)
            have g3 : wx.frozen? ⟨w1.heap.size + 1, 1, none⟩ = false := frozen_of_row _ _ _ _ _ (HD.out wx hb)
            exact wp_skip (by unfold execOp; go_simp) ⟨rfl, rfl⟩
          case en01 =>
            intro w5 hb5
            have H5 := Lib.hid ((HO1.out.later hb5).put1 n)
            clear hb5 HO1 HD HL
            simp only [fill, Act.put]
            go_simp
            go_wp2_with fail
            go_roundw
            case rel => exact ⟨k + 1, by omega, by go_num, by show MI _ _ _ _ _ _; rw [HQ.out.1, HQ.out.2]; exact H5.out⟩
            case measure => simp [intOf]; omega
      · obtain rfl : k = LA.length := by omega
        have HMI := HO
        rw [List.take_length] at HMI
        have hF : ∀ j, fB true LA j < 256 := fun j => fB_lt _ j _ fun q hq => (HLT.out q hq).2
        have HTe : Hid (∀ W : World, Below wr.heap.size wr W → Tells 29 #[.pointer (some ⟨w1.heap.size + 1, 0, none⟩)] r c (fun x y => (fB true LA x).testBit y) W) := fun W hW W' x y hx hy hW' => tell_any (fB true LA) hF x y (by omega) (by omega) _ (w1.heap.size + 1) W' (((hW'.block _ (Array.getElem?_eq_some_iff.1 ((hW.block _ (Array.getElem?_eq_some_iff.1 HMI.out.found).1).trans HMI.out.found)).1).trans (hW.block _ (Array.getElem?_eq_some_iff.1 HMI.out.found).1)).trans HMI.out.found)
        have HFr := Lib.hid (fun W (hW : Below wr.heap.size wr W) => from_any 29 #[.pointer (some ⟨w1.heap.size + 1, 0, none⟩)] r c hr.1 hr.2 hc.1 hc.2 (fun x y => (fB true LA x).testBit y) W (fun args W => rfl) (HTe.out W hW))
        have HMr : Hid (wr.heap[w.heap.size]? = some (.cells #[.int .i64 0, .int .i64 0, .string ⟨#[]⟩] 28 (0, 0))) := (HMI.out.keep _ (by have := HMI.out.low; omega) (by have := HMI.out.low; omega)).trans HM2.out
        have HBr := Lib.hid HMI.out.below
        clear HO HMI HTe hF HM2 HCE
        go_wp2_with fail
        refine (HFr.out _ (Below.refl _ _)).mono ?_
        rintro e w6 ⟨rfl, hb6⟩
        have HM6 : Hid (w6.heap[w.heap.size]? = some (.cells #[.int .i64 0, .int .i64 0, .string ⟨#[]⟩] 28 (0, 0))) := (hb6.block _ (Array.getElem?_eq_some_iff.1 HMr.out).1).trans HMr.out
        have HB6 := Lib.hid (HBr.out.trans (hb6.mono HBr.out.size))
        clear hb6 HBr HMr HFr
        have k0 := cell_of_row _ _ 0 _ _ _ HM6.out
        have k1 := cell_of_row _ _ 1 _ _ _ HM6.out
        have k2 := cell_of_row _ _ 2 _ _ _ HM6.out
        have f1 : w6.frozen? ⟨w.heap.size, 0, none⟩ = false := frozen_of_row _ _ _ _ _ HM6.out
        have f2 : w6.frozen? ⟨w.heap.size, 1, none⟩ = false := frozen_of_row _ _ _ _ _ HM6.out
        have f3 : w6.frozen? ⟨w.heap.size, 2, none⟩ = false := frozen_of_row _ _ _ _ _ HM6.out
        go_wp2_with fail
        refine bodyPost_ret (v := .tuple #[mat r c (str (rowsB (fun x y => (fB true LA x).testBit y) r c)), .bool true]) (by simp [results, Tryz.results7, go_sem, k0, k1, k2]) rfl ⟨rfl, ?_⟩
        exact ((HB6.out.setCell (Nat.le_refl _) _).setCell (Nat.le_refl _) _).setCell (Nat.le_refl _) _
  · have HC := Lib.hid (fun W => hv (allN r) (allN c) W p3 q3)
    rw [ev] at HI
    clear ev hv
    generalize leavesT t (allN r) (allN c) = LA at *
    generalize allN r = M at *
    generalize allN c = N at *
    go_enter Tryz.func7, Tryz.ntmps7
    go_wp2_with fail
    refine (HI.out _).mono ?_
    rintro e w1 ⟨rfl, hb1⟩
    have HB1 := Lib.hid (((Below.refl w.heap.size w).alloc (Nat.le_refl _) (.cells #[.int .i64 0, .int .i64 0, .string ⟨#[]⟩] 28)).trans (hb1.mono (by simp)))
    have hs1 : w.heap.size + 1 ≤ w1.heap.size := by have := hb1.size; simpa using this
    have HS1 := Lib.hid hs1
    clear hs1
    have HM1 : Hid (w1.heap[w.heap.size]? = some (.cells #[.int .i64 0, .int .i64 0, .string ⟨#[]⟩] 28 (0, 0))) := (hb1.block _ (by simp)).trans (heap_alloc_new w _)
    clear hb1
    go_wp2_with fail
    refine (HC.out _).mono ?_
    rintro e w2 ⟨v, rfl, hO⟩
    obtain ⟨D, hD⟩ : ∃ D, w1.heap.size + 1 = D := ⟨_, rfl⟩
    have hWs : D + 1 ≤ w2.heap.size := by have := hO.below.size; simp at this; omega
    have hb2 := hO.below
    have HF0 : Hid (MI w w2 w2 D (pat (fB false []) 8) (pat (fB true []) 8)) := by
      refine ⟨?_, fun i _ _ => rfl, Nat.le_refl _, ?_, ?_⟩
      · rw [fB_nil, fB_nil, pat_none, ← hD]
        refine (hb2.block _ (by simp)).trans ?_
        have h2 := heap_alloc_new (w1.alloc (.cells #[.int .i64 (M : Int), .int .i64 (N : Int)] 45)) (.cells #[.int .u64 0, .int .u64 0] 58)
        rwa [World.size_alloc] at h2
      · exact ((HB1.out.alloc HB1.out.size _).alloc (by have := HB1.out.size; simp; omega) _).trans (hb2.mono (by have := HS1.out; simp; omega))
      · have := HS1.out
        omega
    have HM2 : Hid (w2.heap[w.heap.size]? = some (.cells #[.int .i64 0, .int .i64 0, .string ⟨#[]⟩] 28 (0, 0))) := by
      refine (hb2.block _ (by have := HS1.out; simp; omega)).trans ?_
      rw [old_kept _ _ (by have := HS1.out; simp; omega), old_kept _ _ (by have := HS1.out; omega)]
      exact HM1.out
    obtain ⟨p, cc, rfl⟩ := hO.slice
    have HCE : Hid (∀ k (hk : k < LA.length), ∃ g, p = some ⟨g, 0, none⟩ ∧ g < w2.heap.size ∧ g ≠ D ∧ w2.cell? ⟨g, k * 3, none⟩ = some (.int .i64 (LA[k].1 : Int)) ∧ w2.cell? ⟨g, k * 3 + 1, none⟩ = some (.int .i64 (LA[k].2.1 : Int)) ∧ w2.cell? ⟨g, k * 3 + 2, none⟩ = some (.int .i64 (bitI LA[k].2.2))) := fun k hk => by
      obtain ⟨g, hp, hgl, hg, h0⟩ := hO.cell (k * 3) (by omega)
      obtain ⟨g1, hp1, _, _, h1⟩ := hO.cell (k * 3 + 1) (by omega)
      obtain ⟨g2, hp2, _, _, h2⟩ := hO.cell (k * 3 + 2) (by omega)
      rw [hp] at hp1 hp2
      simp only [Option.some.injEq, Addr.mk.injEq, and_true] at hp1 hp2
      subst hp1 hp2
      obtain ⟨x0, x1, x2⟩ := cellsL_get LA k hk
      exact ⟨g, hp, hg, by simp at hgl; omega, by rw [h0, x0], by rw [h1, x1], by rw [h2, x2]⟩
    clear hO HB1 hb2 HM1
    subst hD
    go_wp2_with fail
    go_loopw [27] (fun i wr => ∃ k : Nat, k ≤ LA.length ∧ i = .int .i64 (k : Int) ∧ Hid (MI w w2 wr (w1.heap.size + 1) (pat (fB false (LA.take k)) 8) (pat (fB true (LA.take k)) 8))) (fun i _ => LA.length - (intOf i).toNat)
    case atStart => exact ⟨0, Nat.zero_le _, rfl, HF0⟩
    case round =>
      obtain ⟨k, hk, rfl, HO⟩ := hrel
      by_cases hlt : k < LA.length
      · obtain ⟨g, hp, hg, hgD, y0, y1, y2⟩ := HCE.out k hlt
        subst hp
        have HT : Hid (LA.take (k + 1) = LA.take k ++ [LA[k]]) := List.take_succ_eq_append_getElem hlt
        have hlts := HLT.out LA[k] (List.getElem_mem hlt)
        have hlps : ∀ q ∈ LA.take k, q.2.1 < 256 := fun q hq => (HLT.out q (List.mem_of_mem_take hq)).2
        have ee := HO.out.keep g hg hgD
        have x0 := (cell_same (i := k * 3) ee).trans y0
        have x1 := (cell_same (i := k * 3 + 1) ee).trans y1
        have x2 := (cell_same (i := k * 3 + 2) ee).trans y2
        clear y0 y1 y2 ee
        have hnF := next_false (LA.take k) LA[k] hlps hlts.2
        have hnT := next_true (LA.take k) LA[k] hlps hlts.2
        rw [← HT.out] at hnF hnT
        have HNF := Lib.hid hnF
        have HNT := Lib.hid hnT
        have HP := Lib.hid (patch_any LA[k].1 LA[k].2.1 hlts.1 hlts.2)
        have hpl := pat64 (rectB LA[k].1 LA[k].2.1) (rectB_lt _ _ hlts.2)
        have hzl := pat64 (fB false (LA.take k)) (fun j => fB_lt _ j _ hlps)
        have hol := pat64 (fB true (LA.take k)) (fun j => fB_lt _ j _ hlps)
        have HOZ := Lib.hid (u64_or_nat _ _ hzl hpl)
        have HOO := Lib.hid (u64_or_nat _ _ hol hpl)
        clear hnF hnT hlts hlps hpl hzl hol HT
        generalize pat (fB false (LA.take k)) 8 = z at *
        generalize pat (fB true (LA.take k)) 8 = o at *
        generalize pat (rectB LA[k].1 LA[k].2.1) 8 = p at *
        obtain ⟨b, hbv⟩ : ∃ b, LA[k].2.2 = b := ⟨_, rfl⟩
        rw [hbv] at x2 HNF HNT
        generalize LA[k].1 = R1 at *
        generalize LA[k].2.1 = C1 at *
        clear hbv
        have HO1 := Lib.hid (HO.out.later ((Below.refl wr.heap.size wr).alloc (Nat.le_refl _) (.cells #[.int .i64 (R1 : Int), .int .i64 (C1 : Int), .int .i64 (bitI b)] 63)))
        have HL1 : Hid ((wr.alloc (.cells #[.int .i64 (R1 : Int), .int .i64 (C1 : Int), .int .i64 (bitI b)] 63)).heap[wr.heap.size]? = some (.cells #[.int .i64 (R1 : Int), .int .i64 (C1 : Int), .int .i64 (bitI b)] 63 (0, 0))) := heap_alloc_new wr _
        clear HO
        go_wp2_with fail
        generalize wr.alloc (.cells #[.int .i64 (R1 : Int), .int .i64 (C1 : Int), .int .i64 (bitI b)] 63) = W1 at *
        generalize wr.heap.size = L at *
        have HD0 : Hid (∀ wx : World, Below W1.heap.size W1 wx → wx.heap[w1.heap.size + 1]? = some (.cells #[.int .u64 (z : Int), .int .u64 (o : Int)] 58 (0, 0))) := fun wx h => (h.block _ (Array.getElem?_eq_some_iff.1 HO1.out.found).1).trans HO1.out.found
        have HL0 : Hid (∀ wx : World, Below W1.heap.size W1 wx → wx.heap[L]? = some (.cells #[.int .i64 (R1 : Int), .int .i64 (C1 : Int), .int .i64 (bitI b)] 63 (0, 0))) := fun wx h => (h.block _ (Array.getElem?_eq_some_iff.1 HL1.out).1).trans HL1.out
        clear HL1
        cases b
        · have HD := HD0
          have HL : Hid (∀ wx : World, Below W1.heap.size W1 wx → wx.heap[L]? = some (.cells #[.int .i64 (R1 : Int), .int .i64 (C1 : Int), .int .i64 0] 63 (0, 0))) := HL0
          have HO := HOZ
          have HQ : Hid (pat (fB false (LA.take (k + 1))) 8 = z ||| p ∧ pat (fB true (LA.take (k + 1))) 8 = o) := HNF.out rfl
          clear HD0 HL0 HNF HNT
          generalize z ||| p = n at *
          refine wp_region_last (fun | 0 => .pointer (some ⟨L, 2, none⟩) | 1 => .int .i64 0 | 2 => .pointer (some ⟨w1.heap.size + 1, 0, none⟩) | 3 => .int .u64 (z : Int) | 4 => .pointer (some ⟨L, 0, none⟩) | 5 => rect (R1 : Int) (C1 : Int) | 6 => .int .u64 (p : Int) | 7 => .int .u64 (n : Int) | 8 => .pointer (some ⟨w1.heap.size + 1, 0, none⟩) | _ => undef) 9 (fun wx => wx.setCell ⟨w1.heap.size + 1, 0, none⟩ (.int .u64 (n : Int))) _ (by kernel_rfl) (by kernel_rfl) rfl rfl rfl rfl (by kernel_rfl) ?con10 ?st10 ?en10
          case con10 =>
            intro i o ho hlt a wx hb hf
            match i, ho with
            | 0, ho =>
              obtain rfl := Option.some.inj ho
              have b12 : a.tmps[12]?.getD undef = .pointer (some ⟨L, 0, none⟩) := hf.2 12 (by kernel_rfl)
              exact wp_value (.pointer (some ⟨L, 2, none⟩)) (by unfold execOp; go_simp) ⟨rfl, Below.refl _ _⟩
            | 1, ho =>
              obtain rfl := Option.some.inj ho
              have e31 : a.tmps[31]?.getD undef = .pointer (some ⟨L, 2, none⟩) := hf.1 ⟨0, .data⟩ (by simp) rfl _ 31 rfl rfl
              have g2 : wx.cell? ⟨L, 2, none⟩ = some (.int .i64 0) := cell_of_row _ _ 2 _ _ _ (HL.out wx hb)
              exact wp_value (.int .i64 0) (by unfold execOp; go_simp) ⟨rfl, Below.refl _ _⟩
            | 2, ho =>
              obtain rfl := Option.some.inj ho
              have e32 : a.tmps[32]?.getD undef = .int .i64 0 := hf.1 ⟨1, .data⟩ (by simp) rfl _ 32 rfl rfl
              have b10 : a.tmps[10]?.getD undef = .pointer (some ⟨w1.heap.size + 1, 0, none⟩) := hf.2 10 (by kernel_rfl)
              exact wp_value (.pointer (some ⟨w1.heap.size + 1, 0, none⟩)) (by unfold execOp; go_simp) ⟨rfl, Below.refl _ _⟩
            | 3, ho =>
              obtain rfl := Option.some.inj ho
              have e33 : a.tmps[33]?.getD undef = .pointer (some ⟨w1.heap.size + 1, 0, none⟩) := hf.1 ⟨2, .data⟩ (by simp) rfl _ 33 rfl rfl
              have g2 : wx.cell? ⟨w1.heap.size + 1, 0, none⟩ = some (.int .u64 (z : Int)) := cell_of_row _ _ 0 _ _ _ (HD.out wx hb)
              exact wp_value (.int .u64 (z : Int)) (by unfold execOp; go_simp) ⟨rfl, Below.refl _ _⟩
            | 4, ho =>
              obtain rfl := Option.some.inj ho
              have b12 : a.tmps[12]?.getD undef = .pointer (some ⟨L, 0, none⟩) := hf.2 12 (by kernel_rfl)
              exact wp_value (.pointer (some ⟨L, 0, none⟩)) (by unfold execOp; go_simp) ⟨rfl, Below.refl _ _⟩
            | 5, ho =>
              obtain rfl := Option.some.inj ho
              have e35 : a.tmps[35]?.getD undef = .pointer (some ⟨L, 0, none⟩) := hf.1 ⟨4, .data⟩ (by simp) rfl _ 35 rfl rfl
              have g0 : wx.cell? ⟨L, 0, none⟩ = some (.int .i64 (R1 : Int)) := cell_of_row _ _ 0 _ _ _ (HL.out wx hb)
              have g1 : wx.cell? ⟨L, 1, none⟩ = some (.int .i64 (C1 : Int)) := cell_of_row _ _ 1 _ _ _ (HL.out wx hb)
              exact wp_value (rect (R1 : Int) (C1 : Int)) (by unfold execOp; go_simp) ⟨rfl, Below.refl _ _⟩
            | 6, ho =>
              obtain rfl := Option.some.inj ho
              have e36 : a.tmps[36]?.getD undef = rect (R1 : Int) (C1 : Int) := hf.1 ⟨5, .data⟩ (by simp) rfl _ 36 rfl rfl
              exact wp_enter 27 #[rect (R1 : Int) (C1 : Int)] (.int .u64 (p : Int)) _ (by unfold execOp; go_simp) (HP.out wx) (fun w' h => ⟨rfl, h⟩)
            | 7, ho =>
              obtain rfl := Option.some.inj ho
              have e34 : a.tmps[34]?.getD undef = .int .u64 (z : Int) := hf.1 ⟨3, .data⟩ (by simp) rfl _ 34 rfl rfl
              have e37 : a.tmps[37]?.getD undef = .int .u64 (p : Int) := hf.1 ⟨6, .data⟩ (by simp) rfl _ 37 rfl rfl
              exact wp_value (.int .u64 (n : Int)) (by unfold execOp; go_simp; exact HO.out) ⟨rfl, Below.refl _ _⟩
            | 8, ho =>
              obtain rfl := Option.some.inj ho
              have e32 : a.tmps[32]?.getD undef = .int .i64 0 := hf.1 ⟨1, .data⟩ (by simp) rfl _ 32 rfl rfl
              have b10 : a.tmps[10]?.getD undef = .pointer (some ⟨w1.heap.size + 1, 0, none⟩) := hf.2 10 (by kernel_rfl)
              exact wp_value (.pointer (some ⟨w1.heap.size + 1, 0, none⟩)) (by unfold execOp; go_simp) ⟨rfl, Below.refl _ _⟩
            | 9, ho => exact absurd hlt (by omega)
            | q + 10, ho => simp at ho
          case st10 =>
            intro a wx hb hf
            have e38 : a.tmps[38]?.getD undef = .int .u64 (n : Int) := hf.1 ⟨7, .data⟩ (by simp) rfl _ 38 rfl rfl
            have e39 : a.tmps[39]?.getD undef = .pointer (some ⟨w1.heap.size + 1, 0, none⟩) := hf.1 ⟨8, .data⟩ (by simp) rfl _ 39 rfl rfl
            have g2 : wx.cell? ⟨w1.heap.size + 1, 0, none⟩ = some (.int .u64 (z : Int)) := cell_of_row _ _ 0 _ _ _ (HD.out wx hb)
            have g3 : wx.frozen? ⟨w1.heap.size + 1, 0, none⟩ = false := frozen_of_row _ _ _ _ _ (HD.out wx hb)
            exact wp_skip (by unfold execOp; go_simp) ⟨rfl, rfl⟩
          case en10 =>
            intro w5 hb5
            have H5 := Lib.hid ((HO1.out.later hb5).put0 n)
            clear hb5 HO1 HD HL
            simp only [fill, Act.put]
            go_simp
            go_wp2_with fail
            go_roundw
            case rel => exact ⟨k + 1, by omega, by go_num, by show MI _ _ _ _ _ _; rw [HQ.out.1, HQ.out.2]; exact H5.out⟩
            case measure => simp [intOf]; omega
        · have HD := HD0
          have HL : Hid (∀ wx : World, Below W1.heap.size W1 wx → wx.heap[L]? = some (.cells #[.int .i64 (R1 : Int), .int .i64 (C1 : Int), .int .i64 1] 63 (0, 0))) := HL0
          have HO := HOO
          have HQ : Hid (pat (fB true (LA.take (k + 1))) 8 = o ||| p ∧ pat (fB false (LA.take (k + 1))) 8 = z) := HNT.out rfl
          clear HD0 HL0 HNF HNT
          generalize o ||| p = n at *
          refine wp_region_last (fun | 0 => .pointer (some ⟨L, 2, none⟩) | 1 => .int .i64 1 | 2 => .pointer (some ⟨w1.heap.size + 1, 1, none⟩) | 3 => .int .u64 (o : Int) | 4 => .pointer (some ⟨L, 0, none⟩) | 5 => rect (R1 : Int) (C1 : Int) | 6 => .int .u64 (p : Int) | 7 => .int .u64 (n : Int) | 8 => .pointer (some ⟨w1.heap.size + 1, 1, none⟩) | _ => undef) 9 (fun wx => wx.setCell ⟨w1.heap.size + 1, 1, none⟩ (.int .u64 (n : Int))) _ (by kernel_rfl) (by kernel_rfl) rfl rfl rfl rfl (by kernel_rfl) ?con11 ?st11 ?en11
          case con11 =>
            intro i o ho hlt a wx hb hf
            match i, ho with
            | 0, ho =>
              obtain rfl := Option.some.inj ho
              have b12 : a.tmps[12]?.getD undef = .pointer (some ⟨L, 0, none⟩) := hf.2 12 (by kernel_rfl)
              exact wp_value (.pointer (some ⟨L, 2, none⟩)) (by unfold execOp; go_simp) ⟨rfl, Below.refl _ _⟩
            | 1, ho =>
              obtain rfl := Option.some.inj ho
              have e31 : a.tmps[31]?.getD undef = .pointer (some ⟨L, 2, none⟩) := hf.1 ⟨0, .data⟩ (by simp) rfl _ 31 rfl rfl
              have g2 : wx.cell? ⟨L, 2, none⟩ = some (.int .i64 1) := cell_of_row _ _ 2 _ _ _ (HL.out wx hb)
              exact wp_value (.int .i64 1) (by unfold execOp; go_simp) ⟨rfl, Below.refl _ _⟩
            | 2, ho =>
              obtain rfl := Option.some.inj ho
              have e32 : a.tmps[32]?.getD undef = .int .i64 1 := hf.1 ⟨1, .data⟩ (by simp) rfl _ 32 rfl rfl
              have b10 : a.tmps[10]?.getD undef = .pointer (some ⟨w1.heap.size + 1, 0, none⟩) := hf.2 10 (by kernel_rfl)
              exact wp_value (.pointer (some ⟨w1.heap.size + 1, 1, none⟩)) (by unfold execOp; go_simp) ⟨rfl, Below.refl _ _⟩
            | 3, ho =>
              obtain rfl := Option.some.inj ho
              have e33 : a.tmps[33]?.getD undef = .pointer (some ⟨w1.heap.size + 1, 1, none⟩) := hf.1 ⟨2, .data⟩ (by simp) rfl _ 33 rfl rfl
              have g2 : wx.cell? ⟨w1.heap.size + 1, 1, none⟩ = some (.int .u64 (o : Int)) := cell_of_row _ _ 1 _ _ _ (HD.out wx hb)
              exact wp_value (.int .u64 (o : Int)) (by unfold execOp; go_simp) ⟨rfl, Below.refl _ _⟩
            | 4, ho =>
              obtain rfl := Option.some.inj ho
              have b12 : a.tmps[12]?.getD undef = .pointer (some ⟨L, 0, none⟩) := hf.2 12 (by kernel_rfl)
              exact wp_value (.pointer (some ⟨L, 0, none⟩)) (by unfold execOp; go_simp) ⟨rfl, Below.refl _ _⟩
            | 5, ho =>
              obtain rfl := Option.some.inj ho
              have e35 : a.tmps[35]?.getD undef = .pointer (some ⟨L, 0, none⟩) := hf.1 ⟨4, .data⟩ (by simp) rfl _ 35 rfl rfl
              have g0 : wx.cell? ⟨L, 0, none⟩ = some (.int .i64 (R1 : Int)) := cell_of_row _ _ 0 _ _ _ (HL.out wx hb)
              have g1 : wx.cell? ⟨L, 1, none⟩ = some (.int .i64 (C1 : Int)) := cell_of_row _ _ 1 _ _ _ (HL.out wx hb)
              exact wp_value (rect (R1 : Int) (C1 : Int)) (by unfold execOp; go_simp) ⟨rfl, Below.refl _ _⟩
            | 6, ho =>
              obtain rfl := Option.some.inj ho
              have e36 : a.tmps[36]?.getD undef = rect (R1 : Int) (C1 : Int) := hf.1 ⟨5, .data⟩ (by simp) rfl _ 36 rfl rfl
              exact wp_enter 27 #[rect (R1 : Int) (C1 : Int)] (.int .u64 (p : Int)) _ (by unfold execOp; go_simp) (HP.out wx) (fun w' h => ⟨rfl, h⟩)
            | 7, ho =>
              obtain rfl := Option.some.inj ho
              have e34 : a.tmps[34]?.getD undef = .int .u64 (o : Int) := hf.1 ⟨3, .data⟩ (by simp) rfl _ 34 rfl rfl
              have e37 : a.tmps[37]?.getD undef = .int .u64 (p : Int) := hf.1 ⟨6, .data⟩ (by simp) rfl _ 37 rfl rfl
              exact wp_value (.int .u64 (n : Int)) (by unfold execOp; go_simp; exact HO.out) ⟨rfl, Below.refl _ _⟩
            | 8, ho =>
              obtain rfl := Option.some.inj ho
              have e32 : a.tmps[32]?.getD undef = .int .i64 1 := hf.1 ⟨1, .data⟩ (by simp) rfl _ 32 rfl rfl
              have b10 : a.tmps[10]?.getD undef = .pointer (some ⟨w1.heap.size + 1, 0, none⟩) := hf.2 10 (by kernel_rfl)
              exact wp_value (.pointer (some ⟨w1.heap.size + 1, 1, none⟩)) (by unfold execOp; go_simp) ⟨rfl, Below.refl _ _⟩
            | 9, ho => exact absurd hlt (by omega)
            | q + 10, ho => simp at ho
          case st11 =>
            intro a wx hb hf
            have e38 : a.tmps[38]?.getD undef = .int .u64 (n : Int) := hf.1 ⟨7, .data⟩ (by simp) rfl _ 38 rfl rfl
            have e39 : a.tmps[39]?.getD undef = .pointer (some ⟨w1.heap.size + 1, 1, none⟩) := hf.1 ⟨8, .data⟩ (by simp) rfl _ 39 rfl rfl
            have g2 : wx.cell? ⟨w1.heap.size + 1, 1, none⟩ = some (.int .u64 (o : Int)) := cell_of_row _ _ 1 _ _ _ (HD.out wx hb)
            have g3 : wx.frozen? ⟨w1.heap.size + 1, 1, none⟩ = false := frozen_of_row _ _ _ _ _ (HD.out wx hb)
            exact wp_skip (by unfold execOp; go_simp) ⟨rfl, rfl⟩
          case en11 =>
            intro w5 hb5
            have H5 := Lib.hid ((HO1.out.later hb5).put1 n)
            clear hb5 HO1 HD HL
            simp only [fill, Act.put]
            go_simp
            go_wp2_with fail
            go_roundw
            case rel => exact ⟨k + 1, by omega, by go_num, by show MI _ _ _ _ _ _; rw [HQ.out.1, HQ.out.2]; exact H5.out⟩
            case measure => simp [intOf]; omega
      · obtain rfl : k = LA.length := by omega
        have HMI := HO
        rw [List.take_length] at HMI
        have hF : ∀ j, fB true LA j < 256 := fun j => fB_lt _ j _ fun q hq => (HLT.out q hq).2
        have HTe : Hid (∀ W : World, Below wr.heap.size wr W → Tells 29 #[.pointer (some ⟨w1.heap.size + 1, 0, none⟩)] r c (fun x y => (fB true LA x).testBit y) W) := fun W hW W' x y hx hy hW' => tell_any (fB true LA) hF x y (by omega) (by omega) _ (w1.heap.size + 1) W' (((hW'.block _ (Array.getElem?_eq_some_iff.1 ((hW.block _ (Array.getElem?_eq_some_iff.1 HMI.out.found).1).trans HMI.out.found)).1).trans (hW.block _ (Array.getElem?_eq_some_iff.1 HMI.out.found).1)).trans HMI.out.found)
        have HFr := Lib.hid (fun W (hW : Below wr.heap.size wr W) => from_any 29 #[.pointer (some ⟨w1.heap.size + 1, 0, none⟩)] r c hr.1 hr.2 hc.1 hc.2 (fun x y => (fB true LA x).testBit y) W (fun args W => rfl) (HTe.out W hW))
        have HMr : Hid (wr.heap[w.heap.size]? = some (.cells #[.int .i64 0, .int .i64 0, .string ⟨#[]⟩] 28 (0, 0))) := (HMI.out.keep _ (by have := HMI.out.low; omega) (by have := HMI.out.low; omega)).trans HM2.out
        have HBr := Lib.hid HMI.out.below
        clear HO HMI HTe hF HM2 HCE
        go_wp2_with fail
        refine (HFr.out _ (Below.refl _ _)).mono ?_
        rintro e w6 ⟨rfl, hb6⟩
        have HM6 : Hid (w6.heap[w.heap.size]? = some (.cells #[.int .i64 0, .int .i64 0, .string ⟨#[]⟩] 28 (0, 0))) := (hb6.block _ (Array.getElem?_eq_some_iff.1 HMr.out).1).trans HMr.out
        have HB6 := Lib.hid (HBr.out.trans (hb6.mono HBr.out.size))
        clear hb6 HBr HMr HFr
        have k0 := cell_of_row _ _ 0 _ _ _ HM6.out
        have k1 := cell_of_row _ _ 1 _ _ _ HM6.out
        have k2 := cell_of_row _ _ 2 _ _ _ HM6.out
        have f1 : w6.frozen? ⟨w.heap.size, 0, none⟩ = false := frozen_of_row _ _ _ _ _ HM6.out
        have f2 : w6.frozen? ⟨w.heap.size, 1, none⟩ = false := frozen_of_row _ _ _ _ _ HM6.out
        have f3 : w6.frozen? ⟨w.heap.size, 2, none⟩ = false := frozen_of_row _ _ _ _ _ HM6.out
        go_wp2_with fail
        refine bodyPost_ret (v := .tuple #[mat r c (str (rowsB (fun x y => (fB true LA x).testBit y) r c)), .bool true]) (by simp [results, Tryz.results7, go_sem, k0, k1, k2]) rfl ⟨rfl, ?_⟩
        exact ((HB6.out.setCell (Nat.le_refl _) _).setCell (Nat.le_refl _) _).setCell (Nat.le_refl _) _
end Go.Proofs.YtbbgibbpeibhiaaGreatDoor.MatI

/-
  The walk of the law on MatrixOf.
-/
namespace Go.Proofs.YtbbgibbpeibhiaaGreatDoor.fnExactMatrixOf
open Go.RowKit Go.Shelf Go.Proofs.YtbbgibbpeibhiaaGreatDoor.Plain Go.Proofs.YtbbgibbpeibhiaaGreatDoor.Base Go.Proofs.YtbbgibbpeibhiaaGreatDoor.Rect Go.Proofs.YtbbgibbpeibhiaaGreatDoor.Tree Go.Proofs.YtbbgibbpeibhiaaGreatDoor.Read Go.Proofs.YtbbgibbpeibhiaaGreatDoor.TreeOf Go.Proofs.YtbbgibbpeibhiaaGreatDoor.TreeIn Go.Proofs.YtbbgibbpeibhiaaGreatDoor.Leaf Go.Proofs.YtbbgibbpeibhiaaGreatDoor.Talk Go.Proofs.YtbbgibbpeibhiaaGreatDoor.MatT Go.Proofs.YtbbgibbpeibhiaaGreatDoor.MatP
open Go.Proofs.YtbbgibbpeibhiaaGreatDoor.SaidMat (mtx)
set_option linter.unusedVariables false
set_option linter.unusedSimpArgs false

/-- one step more: what a callee leaves alone -/
theorem bstep {w a b : World} (h : Below w.heap.size w a) (h2 : Below a.heap.size a b) : Below w.heap.size w b := h.trans (h2.mono h.size)
theorem bstepA {w a : World} (h : Below w.heap.size w a) (o : Obj) : Below w.heap.size w (a.alloc o) := h.alloc h.size o

/-- the law's own copy of its argument, later on -/
theorem three_of {w w1 : World} {a b c : Value} {T : TypeId} (hb : Below (w.alloc (.cells #[a, b, c] T)).heap.size (w.alloc (.cells #[a, b, c] T)) w1) :
    w1.cell? ⟨w.heap.size, 0, none⟩ = some a ∧ w1.cell? ⟨w.heap.size, 1, none⟩ = some b ∧ w1.cell? ⟨w.heap.size, 2, none⟩ = some c := by
  have hs : (w.alloc (.cells #[a, b, c] T)).heap.size = w.heap.size + 1 := by simp
  refine ⟨?_, ?_, ?_⟩
  · exact (hb.cell (p := ⟨w.heap.size, 0, none⟩) (by show w.heap.size < _; omega)).trans (by simp)
  · exact (hb.cell (p := ⟨w.heap.size, 1, none⟩) (by show w.heap.size < _; omega)).trans (by simp)
  · exact (hb.cell (p := ⟨w.heap.size, 2, none⟩) (by show w.heap.size < _; omega)).trans (by simp)
theorem three_on {w1 w2 : World} {g : Nat} {a b c : Value} (hb : Below w1.heap.size w1 w2) (hg : g < w1.heap.size)
    (h0 : w1.cell? ⟨g, 0, none⟩ = some a) (h1 : w1.cell? ⟨g, 1, none⟩ = some b) (h2 : w1.cell? ⟨g, 2, none⟩ = some c) :
    w2.cell? ⟨g, 0, none⟩ = some a ∧ w2.cell? ⟨g, 1, none⟩ = some b ∧ w2.cell? ⟨g, 2, none⟩ = some c :=
  ⟨(hb.cell (p := ⟨g, 0, none⟩) hg).trans h0, (hb.cell (p := ⟨g, 1, none⟩) hg).trans h1, (hb.cell (p := ⟨g, 2, none⟩) hg).trans h2⟩

theorem bit_all {r x : Nat} (h : x < r) : (allN r).testBit x = true := by
  unfold allN
  rw [Nat.testBit_two_pow_sub_one]
  exact decide_eq_true h
end Go.Proofs.YtbbgibbpeibhiaaGreatDoor.fnExactMatrixOf

/-
  For how many inputs a protocol finds another value: the program and the reference.
-/
namespace Go.Proofs.YtbbgibbpeibhiaaGreatDoor.ErrW
open Go.RowKit Go.Shelf Go.Proofs.YtbbgibbpeibhiaaGreatDoor.Plain Go.Proofs.YtbbgibbpeibhiaaGreatDoor.Base Go.Proofs.YtbbgibbpeibhiaaGreatDoor.Valid Go.Proofs.YtbbgibbpeibhiaaGreatDoor.Entry Go.Proofs.YtbbgibbpeibhiaaGreatDoor.Tree Go.Proofs.YtbbgibbpeibhiaaGreatDoor.Read Go.Proofs.YtbbgibbpeibhiaaGreatDoor.TreeOf Go.Proofs.YtbbgibbpeibhiaaGreatDoor.TreeIn Go.Proofs.YtbbgibbpeibhiaaGreatDoor.FreeL Go.Proofs.YtbbgibbpeibhiaaGreatDoor.Talk Go.Proofs.YtbbgibbpeibhiaaGreatDoor.Join Go.Proofs.YtbbgibbpeibhiaaGreatDoor.Ops
open Go.Proofs.YtbbgibbpeibhiaaGreatDoor.NodeH (eval_get)
open Go.Proofs.YtbbgibbpeibhiaaGreatDoor.SaidMat (mtx)
open Go.Proofs.YtbbgibbpeibhiaaGreatDoor.Split (wp_skip)
open Go.Proofs.YtbbgibbpeibhiaaGreatDoor.fnExactCountOnes (cntI impl_count count_next)
open Go.Proofs.YtbbgibbpeibhiaaGreatDoor.Free (fill wp_value wp_enter wp_load_row freeB)
set_option linter.unusedVariables false
set_option linter.unusedSimpArgs false
set_option maxRecDepth 100000

def xorS : ByteArray := ⟨#[120, 111, 114]⟩
theorem known_xor : opKnown xorS = true := by unfold opKnown xorS; rw [ByteArray.toList_eq]; rfl
theorem opB_xor (a b : Bool) : opB xorS a b = !(a == b) := by unfold opB xorS; rw [ByteArray.toList_eq]; cases a <;> cases b <;> rfl
theorem cells3 {w : World} {b : Nat} {c0 c1 c2 : Value} {ty : TypeId} (h : w.heap[b]? = some (.cells #[c0, c1, c2] ty (0, 0))) : w.cell? ⟨b, 0, none⟩ = some c0 ∧ w.cell? ⟨b, 1, none⟩ = some c1 ∧ w.cell? ⟨b, 2, none⟩ = some c2 :=
  ⟨cell_of_row _ _ 0 _ _ _ h, cell_of_row _ _ 1 _ _ _ h, cell_of_row _ _ 2 _ _ _ h⟩
theorem zero_cnt : cntI 0 0 (str []) = -1 := by unfold cntI validB; simp
/-- two values differ where their sum is 1 -/
theorem differ (F E : Nat → Nat → Bool) (r c : Nat) (hc : 1 ≤ c) (k : Nat) (hk : k < r * c) (f e j : ByteArray) (hf : f = str (rowsB F r c)) (he : e = str (rowsB E r c)) (hj : j = str (rowsB (joinE xorS F E) r c)) (h1 : k < f.size) (h2 : k < e.size) (h3 : k < j.size) :
    ((j[k].toNat : Int) == 49) = !((f[k].toNat : Int) == (e[k].toNat : Int)) := by
  have hx : k / c < r := by
    rw [Nat.div_lt_iff_lt_mul (by omega)]
    exact hk
  have hy : k % c < c := Nat.mod_lt _ (by omega)
  have hkk : k / c * c + k % c = k := by rw [Nat.mul_comm]; exact Nat.div_add_mod k c
  have a1 : f[k].toNat = if F (k / c) (k % c) then 49 else 48 := by
    have := byte_xy F r c (k / c) (k % c) f hf hx hy (by rw [hkk]; exact h1)
    simpa only [hkk] using this
  have a2 : e[k].toNat = if E (k / c) (k % c) then 49 else 48 := by
    have := byte_xy E r c (k / c) (k % c) e he hx hy (by rw [hkk]; exact h2)
    simpa only [hkk] using this
  have a3 : j[k].toNat = if joinE xorS F E (k / c) (k % c) then 49 else 48 := by
    have := byte_xy (joinE xorS F E) r c (k / c) (k % c) j hj hx hy (by rw [hkk]; exact h3)
    simpa only [hkk] using this
  rw [a1, a2, a3]
  unfold joinE
  rw [opB_xor]
  cases F (k / c) (k % c) <;> cases E (k / c) (k % c) <;> rfl

set_option maxHeartbeats 2000000 in
theorem impl_err (s : ByteArray) (r c : Int) (ms : ByteArray) (A B : Int) (u : ByteArray) (b : Bool) (A2 B2 : Int) (u2 : ByteArray) (b2 : Bool) (hu2 : u2.size ≤ maxLen)
    (hM : ∀ W : World, Calls Tryz.prog 7 #[.string s, .int .i64 r, .int .i64 c] W fun e w' => e = .returned (.tuple #[mat A B u, .bool b]) ∧ Below W.heap.size W w')
    (hJ : ∀ W : World, Calls Tryz.prog 46 #[.string ⟨#[120, 111, 114]⟩, mat A B u, mat r c ms] W fun e w' => e = .returned (.tuple #[mat A2 B2 u2, .bool b2]) ∧ Below W.heap.size W w') (w : World) :
    Calls Tryz.prog 33 #[.string s, mat r c ms] w fun e w' => e = .returned (.int .i64 (cntI A2 B2 u2)) ∧ Below w.heap.size w w' := by
  have HM := Lib.hid hM
  have HJ := Lib.hid hJ
  have HC := Lib.hid (fun W => impl_count A2 B2 u2 hu2 W)
  generalize cntI A2 B2 u2 = n at *
  obtain ⟨D, hD⟩ : ∃ D, w.heap.size = D := ⟨_, rfl⟩
  clear hM hJ hu2
  go_enter Tryz.func33, Tryz.ntmps33
  go_wp2_with fail
  refine (HM.out _).mono ?_
  rintro e w1 ⟨rfl, hb1⟩
  have n0 := heap_alloc_new w (.cells #[.int .i64 r, .int .i64 c, .string ms] 28)
  have k0 := (hb1.block _ (Array.getElem?_eq_some_iff.1 n0).1).trans n0
  have hB1 := ((Below.refl w.heap.size w).alloc (Nat.le_refl _) (.cells #[.int .i64 r, .int .i64 c, .string ms] 28)).trans (hb1.mono (by simp))
  rw [hD] at k0
  obtain ⟨G, hG⟩ : ∃ G, w1.heap.size = G := ⟨_, rfl⟩
  have hlt : D < w1.heap.size := (Array.getElem?_eq_some_iff.1 k0).1
  have k1 := (heap_alloc_old w1 (.cells #[.int .i64 A, .int .i64 B, .string u] 28) hlt).trans k0
  have n1 := heap_alloc_new w1 (.cells #[.int .i64 A, .int .i64 B, .string u] 28)
  rw [hG] at n1 hlt
  have HB1 := Lib.hid (hB1.alloc hB1.size (.cells #[.int .i64 A, .int .i64 B, .string u] 28))
  obtain ⟨m0, m1, m2⟩ := cells3 k1
  obtain ⟨f0, f1, f2⟩ := cells3 n1
  have hne : D ≠ G := by omega
  have hne2 : G ≠ D := by omega
  clear hb1 n0 k0 hB1 k1 n1 hlt HM hD
  go_wp2_with fail
  generalize w1.alloc (.cells #[.int .i64 A, .int .i64 B, .string u] 28) = w2 at *
  refine (HJ.out _).mono ?_
  rintro e w3 ⟨rfl, hb3⟩
  have HB3 := Lib.hid (HB1.out.trans (hb3.mono HB1.out.size))
  have HB4 := Lib.hid (HB3.out.alloc HB3.out.size (.cells #[.int .i64 A2, .int .i64 B2, .string u2] 28))
  clear hb3 HJ m0 m1 m2 f0 f1 f2 hG
  go_wp2_with fail
  refine (HC.out _).mono ?_
  rintro e w5 ⟨rfl, hb5⟩
  have HB5 := Lib.hid (HB4.out.trans (hb5.mono HB4.out.size))
  clear hb5
  go_wp2_with fail
  go_ret
  exact ⟨rfl, HB5.out⟩

/-- the blocks of the reference's call: the matrix, and the one that is found -/
structure Eb (w wr : World) (B D : Nat) (r c : Int) (ms fs : ByteArray) : Prop where
  arg : wr.heap[B]? = some (.cells #[.int .i64 r, .int .i64 c, .string ms] 28 (0, 0))
  found : wr.heap[D]? = some (.cells #[.int .i64 r, .int .i64 c, .string fs] 28 (0, 0))
  below : Below w.heap.size w wr
theorem Eb.later {w wr w2 : World} {B D : Nat} {r c : Int} {ms fs : ByteArray} (h : Eb w wr B D r c ms fs) (hb : Below wr.heap.size wr w2) : Eb w w2 B D r c ms fs :=
  have k : ∀ {g : Nat} {o : Obj}, wr.heap[g]? = some o → w2.heap[g]? = some o := fun e => (hb.block _ (Array.getElem?_eq_some_iff.1 e).1).trans e
  ⟨k h.arg, k h.found, h.below.trans (hb.mono h.below.size)⟩

end Go.Proofs.YtbbgibbpeibhiaaGreatDoor.ErrW

/-
  The program's board: the entries of a matrix as a set for each value. Its contract, and those of its small methods.
-/
namespace Go.Proofs.YtbbgibbpeibhiaaGreatDoor.Board
open Go.RowKit Go.Proofs.YtbbgibbpeibhiaaGreatDoor.Plain Go.Proofs.YtbbgibbpeibhiaaGreatDoor.Base Go.Proofs.YtbbgibbpeibhiaaGreatDoor.Valid Go.Proofs.YtbbgibbpeibhiaaGreatDoor.Law Go.Proofs.YtbbgibbpeibhiaaGreatDoor.GridPlain Go.Proofs.YtbbgibbpeibhiaaGreatDoor.Grid Go.Proofs.YtbbgibbpeibhiaaGreatDoor.Entry Go.Proofs.YtbbgibbpeibhiaaGreatDoor.Pat Go.Proofs.YtbbgibbpeibhiaaGreatDoor.Rect Go.Proofs.YtbbgibbpeibhiaaGreatDoor.Patch Go.Proofs.YtbbgibbpeibhiaaGreatDoor.FreeL
open Go.Proofs.YtbbgibbpeibhiaaGreatDoor.Free (fill wp_value wp_enter wp_load_row freeB)
set_option linter.unusedVariables false

/-- a board's value -/
abbrev brd (r c : Int) (z o : Nat) : Value := .agg #[.int .i64 r, .int .i64 c, .int .u64 (z : Int), .int .u64 (o : Int)]
/-- the bytes of the entries of so many rows, and of so many columns of the next one, for which P holds -/
def wB (P : Nat → Nat → Bool) (c x y : Nat) : Nat → Nat := fun j => if j < x then setB (P j) c else if j = x then setB (P j) y else 0
/-- the bytes of all entries for which P holds -/
def onB (P : Nat → Nat → Bool) (r c : Nat) : Nat → Nat := fun j => if j < r then setB (P j) c else 0
theorem wB_lt (P : Nat → Nat → Bool) (c x y : Nat) (hc : c ≤ 8) (hy : y ≤ 8) (j : Nat) : wB P c x y j < 256 := by
  unfold wB
  split
  · exact setB_lt8 _ _ hc
  · split
    · exact setB_lt8 _ _ hy
    · omega
theorem onB_lt (P : Nat → Nat → Bool) (r c : Nat) (hc : c ≤ 8) (j : Nat) : onB P r c j < 256 := by
  unfold onB
  split
  · exact setB_lt8 _ _ hc
  · omega
theorem wB_start (P : Nat → Nat → Bool) (c : Nat) : pat (wB P c 0 0) 8 = 0 := (pat_zero 8 _).2 fun j _ => by
  unfold wB
  rw [if_neg (by omega)]
  split
  · rfl
  · rfl
theorem wB_row (P : Nat → Nat → Bool) (c x : Nat) : wB P c x c = wB P c (x + 1) 0 := by
  funext j
  unfold wB
  by_cases h : j < x
  · rw [if_pos h, if_pos (by omega)]
  · rw [if_neg h]
    by_cases e : j = x
    · rw [if_pos e, if_pos (by omega)]
    · rw [if_neg e, if_neg (by omega)]
      split <;> rfl
theorem wB_end (P : Nat → Nat → Bool) (r c : Nat) : wB P c r 0 = onB P r c := by
  funext j
  unfold wB onB
  by_cases h : j < r
  · rw [if_pos h, if_pos h]
  · rw [if_neg h, if_neg h]
    split <;> rfl
theorem wB_no (P : Nat → Nat → Bool) (c x y : Nat) (h : P x y = false) : wB P c x (y + 1) = wB P c x y := by
  funext j
  unfold wB
  by_cases hj : j < x
  · rw [if_pos hj, if_pos hj]
  · rw [if_neg hj, if_neg hj]
    by_cases e : j = x
    · subst e
      rw [if_pos rfl, if_pos rfl, setB, if_neg (by rw [h]; decide), Nat.add_zero]
    · rw [if_neg e, if_neg e]
theorem pow_bit (x j : Nat) : (2 ^ x).testBit j = decide (x = j) := Nat.testBit_two_pow
theorem wB_yes (P : Nat → Nat → Bool) (c x y : Nat) (hc : c ≤ 8) (hx : x < 8) (hy : y < 8) (h : P x y = true) : pat (wB P c x y) 8 ||| pat (rectB (2 ^ x) (2 ^ y)) 8 = pat (wB P c x (y + 1)) 8 := by
  have h2 : 2 ^ y < 256 := Nat.lt_of_lt_of_le (Nat.pow_lt_pow_right (by decide) hy) (by decide)
  rw [pat_or 8 _ _ (wB_lt P c x y hc (by omega)) (rectB_lt _ _ h2)]
  apply pat_congr
  intro j hj
  unfold wB rectB
  rw [pow_bit]
  by_cases e : x = j
  · subst e
    simp only [Nat.lt_irrefl, if_false, if_true, decide_true]
    have := setB_or (P x) y
    rwa [if_pos h] at this
  · rw [if_neg (show ¬ (decide (x = j) = true) by simpa using e)]
    by_cases hj2 : j < x
    · rw [if_pos hj2, if_pos hj2, Nat.or_zero]
    · rw [if_neg hj2, if_neg hj2, if_neg (fun h => e h.symm), if_neg (fun h => e h.symm), Nat.or_zero]

/-- block g holds a grid -/
def GHolds (w : World) (g : Nat) (r c : Int) (f : Nat → Int) : Prop := w.heap[g]? = some (.cells (gcells r c f) 109 (0, 0))
theorem two_blk {w w1 : World} {o1 o2 : Obj} (hb : Below ((w.alloc o1).alloc o2).heap.size ((w.alloc o1).alloc o2) w1) : w1.heap[w.heap.size + 1]? = some o2 ∧ Below w.heap.size w w1 ∧ w.heap.size + 2 ≤ w1.heap.size := by
  have hs : ((w.alloc o1).alloc o2).heap.size = w.heap.size + 2 := by simp
  have h2 : ((w.alloc o1).alloc o2).heap[w.heap.size + 1]? = some o2 := by
    have := heap_alloc_new (w.alloc o1) o2
    rwa [World.size_alloc] at this
  exact ⟨(hb.block _ (by omega)).trans h2, (((Below.refl w.heap.size w).alloc (Nat.le_refl _) _).alloc (by simp) _).trans (hb.mono (by omega)), by have := hb.size; omega⟩
theorem wrap_small (n : Nat) (h : n < 256) : IntKind.i64.wrap (n : Int) = (n : Int) := by
  rw [IntKind.wrap_i64]
  omega
theorem eval_get {a : Act} {d : Tmp} {v : Value} (h : a.tmps[d]?.getD undef = v) (_ : True) : a.eval (.tmp d) = v := by
  rw [← h]
  show a.tmps.getD d undef = _
  simp [Array.getD_eq_getD_getElem?]
theorem wp_skip {P : Program} {o : Oper} {a : Act} {w w' : World} {K : Act → World → Prop} {Q : Exit → Act → World → Prop} (h : (execOp a.eval o).run P w = .ok .skip w') (hK : K (a.put o.dst undef) w') : o.wp P a w K Q := by
  unfold Oper.wp
  rw [h]
  exact hK

end Go.Proofs.YtbbgibbpeibhiaaGreatDoor.Board

