/-
  The reference's PairMatrices where it answers.
-/
import Derived.Test.YtalechngagkklaaDoorPairI
import Derived.Test.YtalechngagkklaaDoorPairN
namespace Go.Proofs.YtalechngagkklaaDoor.PairS
open Go.RowKit Go.Proofs.YtalechngagkklaaDoor.Plain Go.Proofs.YtalechngagkklaaDoor.Base Go.Proofs.YtalechngagkklaaDoor.Valid Go.Proofs.YtalechngagkklaaDoor.Law Go.Proofs.YtalechngagkklaaDoor.GridPlain Go.Proofs.YtalechngagkklaaDoor.Grid Go.Proofs.YtalechngagkklaaDoor.Entry Go.Proofs.YtalechngagkklaaDoor.From Go.Proofs.YtalechngagkklaaDoor.JoinB Go.Proofs.YtalechngagkklaaDoor.Ops Go.Proofs.YtalechngagkklaaDoor.Join Go.Proofs.YtalechngagkklaaDoor.JoinI Go.Proofs.YtalechngagkklaaDoor.PairI Go.Proofs.YtalechngagkklaaDoor.FreeL
open Go.Proofs.YtalechngagkklaaDoor.Free (fill wp_value wp_enter wp_load_row freeB)
set_option linter.unusedVariables false

theorem wp_skip {P : Program} {o : Oper} {a : Act} {w w' : World} {K : Act → World → Prop} {Q : Exit → Act → World → Prop} (h : (execOp a.eval o).run P w = .ok .skip w') (hK : K (a.put o.dst undef) w') : o.wp P a w K Q := by
  unfold Oper.wp
  rw [h]
  exact hK

/-- both boxes, the result's block, out's block -/
structure PInv (w wr : World) (g : Nat) (r c r2 c2 R C : Int) (s1 s2 t : ByteArray) : Prop where
  m : wr.heap[w.heap.size]? = some (.cells #[.int .i64 r, .int .i64 c, .string s1] 24 (0, 0))
  n : wr.heap[w.heap.size + 1]? = some (.cells #[.int .i64 r2, .int .i64 c2, .string s2] 24 (0, 0))
  o : wr.heap[w.heap.size + 1 + 1]? = some (.cells #[.int .i64 0, .int .i64 0, .string ⟨#[]⟩] 24 (0, 0))
  q : wr.heap[g]? = some (.cells #[.int .i64 R, .int .i64 C, .string t] 24 (0, 0))
  below : Below w.heap.size w wr
  far : w.heap.size + 3 ≤ g
theorem PInv.later {w wr w2 : World} {g : Nat} {r c r2 c2 R C : Int} {s1 s2 t : ByteArray} (h : PInv w wr g r c r2 c2 R C s1 s2 t) (hb : Below wr.heap.size wr w2) : PInv w w2 g r c r2 c2 R C s1 s2 t :=
  ⟨(hb.block _ (Array.getElem?_eq_some_iff.1 h.m).1).trans h.m, (hb.block _ (Array.getElem?_eq_some_iff.1 h.n).1).trans h.n, (hb.block _ (Array.getElem?_eq_some_iff.1 h.o).1).trans h.o, (hb.block _ (Array.getElem?_eq_some_iff.1 h.q).1).trans h.q, bstep h.below hb, h.far⟩
theorem PInv.set_ {w wr : World} {g : Nat} {r c r2 c2 R C : Int} {s1 s2 t : ByteArray} (h : PInv w wr g r c r2 c2 R C s1 s2 t) (u : ByteArray) : PInv w (wr.setCell ⟨g, 2, none⟩ (.string u)) g r c r2 c2 R C s1 s2 u := by
  obtain ⟨h0, h1, h2, h3, h4, h5⟩ := h
  exact ⟨(heap_setCell_other _ _ _ _ (by simp; omega)).trans h0, (heap_setCell_other _ _ _ _ (by simp; omega)).trans h1, (heap_setCell_other _ _ _ _ (by simp; omega)).trans h2, (heap_setCell_same _ _ _ _ _ _ h3).trans rfl, h4.setCell (by simp; omega) _, h5⟩

set_option maxHeartbeats 4000000 in
set_option maxRecDepth 100000 in
theorem pair_spec (op : ByteArray) (hk : opKnown op = true) (E G : Nat → Nat → Bool) (r c r2 c2 : Nat) (hr8 : r ≤ 8) (hc8 : c ≤ 8) (hr2 : 1 ≤ r2) (hr28 : r2 ≤ 8) (hc2 : 1 ≤ c2) (hc28 : c2 ≤ 8) (R C : Nat) (hR : R = r * r2) (hC : C = c * c2) (hR8 : R ≤ 8) (hC1 : 1 ≤ C) (hC8 : C ≤ 8)
    (hv1 : validB r c (str (rowsB E r c)) = true) (hv2 : validB r2 c2 (str (rowsB G r2 c2)) = true) (hs1 : (str (rowsB E r c)).size ≤ maxLen) (hs2 : (str (rowsB G r2 c2)).size ≤ maxLen) (w : World) :
    Calls Tryd.prog 49 #[.string op, mat r c (str (rowsB E r c)), mat r2 c2 (str (rowsB G r2 c2))] w fun e w' => e = .returned (.tuple #[mat R C (str (rowsB (pairE op E G r2 c2) R C)), .bool true]) ∧ Below w.heap.size w w' := by
  have HAT1 := Lib.hid (fun x y hx hy W => at_any E r c hr8 hc8 x y hx hy W)
  have HAT2 := Lib.hid (fun x y hx hy W => at_any G r2 c2 hr28 hc28 x y hx hy W)
  have hp : wrap64 ((r : Int) * (r2 : Int)) = (R : Int) := by rw [hR]; exact wrap_prod r r2 hr8 hr28
  have hq : wrap64 ((c : Int) * (c2 : Int)) = (C : Int) := by rw [hC]; exact wrap_prod c c2 hc8 hc28
  have HR := Lib.hid hR
  have HC := Lib.hid hC
  have HK := Lib.hid hk
  have HV1 := Lib.hid hv1
  have HV2 := Lib.hid hv2
  clear hk hR hC hv1 hv2
  generalize str (rowsB E r c) = s1 at *
  generalize str (rowsB G r2 c2) = s2 at *
  go_enter Tryd.func49, Tryd.ntmps49
  go_wp2_with fail
  refine (known_any op _).mono ?_
  rintro e w' ⟨rfl, rfl⟩
  rw [HK.out]
  have HI0 := Lib.hid (BInv3.start w r c r2 c2 s1 s2)
  generalize ((w.alloc (.cells #[.int .i64 (r : Int), .int .i64 (c : Int), .string s1] 24)).alloc (.cells #[.int .i64 (r2 : Int), .int .i64 (c2 : Int), .string s2] 24)).alloc (.cells #[.int .i64 0, .int .i64 0, .string ⟨#[]⟩] 24) = W0 at *
  obtain ⟨m0, m1, m2⟩ := cells3 HI0.out.m
  obtain ⟨n0, n1, n2⟩ := cells3 HI0.out.n
  go_wp2_with fail
  refine (spec_valid _ _ s1 hs1 _).mono ?_
  rintro e w1 ⟨rfl, hb1⟩
  rw [HV1.out]
  have HI1 := Lib.hid (HI0.out.later hb1)
  clear hb1 m0 m1 m2 n0 n1 n2
  obtain ⟨m0, m1, m2⟩ := cells3 HI1.out.m
  obtain ⟨n0, n1, n2⟩ := cells3 HI1.out.n
  go_wp2_with fail
  refine (spec_valid _ _ s2 hs2 _).mono ?_
  rintro e w2 ⟨rfl, hb2⟩
  rw [HV2.out]
  have HI2 := Lib.hid (HI1.out.later hb2)
  clear hb2 m0 m1 m2 n0 n1 n2
  obtain ⟨m0, m1, m2⟩ := cells3 HI2.out.m
  obtain ⟨n0, n1, n2⟩ := cells3 HI2.out.n
  have hP8 : (R : Int) ≤ 8 := by omega
  have hQ8 : (C : Int) ≤ 8 := by omega
  go_wp2_with fail
  have HPI : Hid (PInv w (w2.alloc (.cells #[.int .i64 (R : Int), .int .i64 (C : Int), .string ⟨#[]⟩] 24)) w2.heap.size r c r2 c2 R C s1 s2 ⟨#[]⟩) := by
    have hi := HI2.out.later ((Below.refl w2.heap.size w2).alloc (Nat.le_refl _) (.cells #[.int .i64 (R : Int), .int .i64 (C : Int), .string ⟨#[]⟩] 24))
    exact ⟨hi.m, hi.n, hi.o, heap_alloc_new _ _, hi.below, HI2.out.size⟩
  clear m0 m1 m2 n0 n1 n2 HI0 HI1 HI2 HV1 HV2 HK hp hq
  generalize w2.alloc (.cells #[.int .i64 (R : Int), .int .i64 (C : Int), .string ⟨#[]⟩] 24) = W3 at *
  generalize w2.heap.size = g at *
  go_loopw [9] (fun x wr => ∃ (k : Nat) (t : ByteArray), k ≤ R ∧ x = .int .i64 (k : Int) ∧ Hid (t = str ((rowsB (pairE op E G r2 c2) R C).take (k * C))) ∧ PInv w wr g r c r2 c2 R C s1 s2 t) (fun x _ => R - (intOf x).toNat)
  case atStart => exact ⟨0, _, Nat.zero_le _, rfl, by unfold Hid; simp; rfl, HPI.out⟩
  case round =>
    obtain ⟨k, t, hk, rfl, ht, hinv⟩ := hrel
    clear HPI
    obtain ⟨u0, u1, u2⟩ := cells3 hinv.q
    by_cases hlt : k < R
    · have HI := Lib.hid hinv
      have HT := Lib.hid ht.out
      clear hinv ht
      go_wp2_with fail
      go_loopw [10] (fun y wr => ∃ (j : Nat) (t : ByteArray), j ≤ C ∧ y = .int .i64 (j : Int) ∧ Hid (t = str ((rowsB (pairE op E G r2 c2) R C).take (k * C + j))) ∧ PInv w wr g r c r2 c2 R C s1 s2 t) (fun y _ => C - (intOf y).toNat)
      case atStart => exact ⟨0, _, Nat.zero_le _, rfl, HT.out, HI.out⟩
      case round =>
        obtain ⟨j, t, hj, rfl, ht, hinv⟩ := hrel
        clear u0 u1 u2 HI HT
        obtain ⟨u0, u1, u2⟩ := cells3 hinv.q
        have HI := Lib.hid hinv
        clear hinv
        by_cases hlt' : j < C
        · have hkR : k < r * r2 := by rw [← HR.out]; exact hlt
          have hjC : j < c * c2 := by rw [← HC.out]; exact hlt'
          have hkj : k * C + j < R * C := by
            have : k * C + C ≤ R * C := by rw [← Nat.succ_mul]; exact Nat.mul_le_mul_right C hlt
            omega
          have hdg := rowsB_get (pairE op E G r2 c2) R C (k * C + j) hkj
          rw [show (k * C + j) / C = k by rw [Nat.mul_comm, Nat.mul_add_div (by omega), Nat.div_eq_of_lt hlt', Nat.add_zero], show (k * C + j) % C = j by rw [Nat.mul_comm, Nat.mul_add_mod, Nat.mod_eq_of_lt hlt']] at hdg
          have hN := take_next _ _ _ hdg
          have h64 : R * C ≤ 64 := prod_le hR8 hC8
          have htz : t.size + 1 ≤ 9223372036854775807 := by
            rw [ht.out, str_size, List.length_take]
            omega
          have HNT : Hid (t ++ ⟨#[dig (pairE op E G r2 c2 k j)]⟩ = str ((rowsB (pairE op E G r2 c2) R C).take (k * C + (j + 1)))) := by
            unfold Hid
            rw [ht.out, hN, Nat.add_assoc]
          clear hN hdg hkj ht
          unfold pairE at HNT
          have N1 : Hid (¬ (r2 = 0)) := fun e => by omega
          have N2 : Hid (¬ (c2 = 0)) := fun e => by omega
          have Q1 := Lib.hid (quo_nat k r2 hr2 (by omega))
          have Q2 := Lib.hid (quo_nat j c2 hc2 (by omega))
          have M1 := Lib.hid (rem_nat k r2)
          have M2 := Lib.hid (rem_nat j c2)
          have HA1 := Lib.hid (fun W => HAT1.out _ _ (div_side hkR) (div_side hjC) W)
          have HA2 := Lib.hid (fun W => HAT2.out _ _ (mod_side hkR) (mod_side hjC) W)
          clear hkR hjC h64
          generalize E (k / r2) (j / c2) = a1 at *
          generalize G (k % r2) (j % c2) = a2 at *
          generalize k / r2 = p at *
          generalize k % r2 = p2 at *
          generalize j / c2 = q at *
          generalize j % c2 = q2 at *
          have HCAT := Lib.hid (fun W => run_string_add_sum (P := Tryd.prog) (w := W) t ⟨#[dig (opB op a1 a2)]⟩ htz)
          have HOP := Lib.hid (fun W => (op_any op a1 a2 W).mono fun e w' he => (⟨he.1, by have := he.2; subst this; exact Below.refl _ _⟩ : e = .returned (.bool (opB op a1 a2)) ∧ Below W.heap.size W w'))
          have HBT := Lib.hid (fun W => (l1Bit_any (opB op a1 a2) W).mono fun e w' he => (⟨he.1, by have := he.2; subst this; exact Below.refl _ _⟩ : e = .returned (.string ⟨#[dig (opB op a1 a2)]⟩) ∧ Below W.heap.size W w'))
          clear htz
          go_wp2_with fail
          refine wp_region_last (fun | 0 => .pointer (some ⟨g, 2, none⟩) | 1 => .string t | 2 => .string op | 3 => mat r c s1 | 4 => .int .i64 (k : Int) | 5 => .pointer (some ⟨w.heap.size + 1, 0, none⟩) | 6 => .int .i64 (r2 : Int) | 7 => .int .i64 (p : Int) | 8 => .int .i64 (j : Int) | 9 => .pointer (some ⟨w.heap.size + 1, 1, none⟩) | 10 => .int .i64 (c2 : Int) | 11 => .int .i64 (q : Int) | 12 => .bool a1 | 13 => mat r2 c2 s2 | 14 => .int .i64 (k : Int) | 15 => .pointer (some ⟨w.heap.size + 1, 0, none⟩) | 16 => .int .i64 (r2 : Int) | 17 => .int .i64 (p2 : Int) | 18 => .int .i64 (j : Int) | 19 => .pointer (some ⟨w.heap.size + 1, 1, none⟩) | 20 => .int .i64 (c2 : Int) | 21 => .int .i64 (q2 : Int) | 22 => .bool a2 | 23 => .bool (opB op a1 a2) | 24 => .string ⟨#[dig (opB op a1 a2)]⟩ | 25 => .string (t ++ ⟨#[dig (opB op a1 a2)]⟩) | 26 => .pointer (some ⟨g, 2, none⟩) | _ => undef) 27 (fun w' => w'.setCell ⟨g, 2, none⟩ (.string (t ++ ⟨#[dig (opB op a1 a2)]⟩))) _ (by kernel_rfl) (by kernel_rfl) rfl rfl rfl rfl (by kernel_rfl) ?con ?st ?en
          case con =>
            intro i o ho hi a w2 hb2 hf
            have HI2 := HI.out.later hb2
            match i, ho with
            | 0, ho =>
              obtain rfl := Option.some.inj ho
              have b8 : a.tmps[8]?.getD undef = .pointer (some ⟨g, 0, none⟩) := hf.2 8 (by kernel_rfl)
              exact wp_value (.pointer (some ⟨g, 2, none⟩)) (by unfold execOp; go_simp) ⟨rfl, Below.refl _ _⟩
            | 1, ho =>
              obtain rfl := Option.some.inj ho
              have e64 : a.tmps[64]?.getD undef = .pointer (some ⟨g, 2, none⟩) := hf.1 ⟨0, .data⟩ (by simp) rfl _ 64 rfl rfl
              have hc1 : w2.cell? ⟨g, 2, none⟩ = some (.string t) := (cells3 HI2.q).2.2
              exact wp_value (.string t) (by unfold execOp; go_simp) ⟨rfl, Below.refl _ _⟩
            | 2, ho =>
              obtain rfl := Option.some.inj ho
              have b0 : a.tmps[0]?.getD undef = .string op := hf.2 0 (by kernel_rfl)
              exact wp_value (.string op) (by unfold execOp; go_simp) ⟨rfl, Below.refl _ _⟩
            | 3, ho =>
              obtain rfl := Option.some.inj ho
              have b4 : a.tmps[4]?.getD undef = .pointer (some ⟨w.heap.size, 0, none⟩) := hf.2 4 (by kernel_rfl)
              exact wp_load_row 24 (.tmp 4) rfl w.heap.size (eval_get b4 trivial) 24 _ (0, 0) _ (HI2.m) Tryd.underlying24 rfl minfo ⟨rfl, Below.refl _ _⟩
            | 4, ho =>
              obtain rfl := Option.some.inj ho
              have b9 : a.tmps[9]?.getD undef = .int .i64 (k : Int) := hf.2 9 (by kernel_rfl)
              exact wp_value (.int .i64 (k : Int)) (by unfold execOp; go_simp) ⟨rfl, Below.refl _ _⟩
            | 5, ho =>
              obtain rfl := Option.some.inj ho
              have b5 : a.tmps[5]?.getD undef = .pointer (some ⟨w.heap.size + 1, 0, none⟩) := hf.2 5 (by kernel_rfl)
              exact wp_value (.pointer (some ⟨w.heap.size + 1, 0, none⟩)) (by unfold execOp; go_simp) ⟨rfl, Below.refl _ _⟩
            | 6, ho =>
              obtain rfl := Option.some.inj ho
              have e69 : a.tmps[69]?.getD undef = .pointer (some ⟨w.heap.size + 1, 0, none⟩) := hf.1 ⟨5, .data⟩ (by simp) rfl _ 69 rfl rfl
              have hc1 : w2.cell? ⟨w.heap.size + 1, 0, none⟩ = some (.int .i64 (r2 : Int)) := (cells3 HI2.n).1
              exact wp_value (.int .i64 (r2 : Int)) (by unfold execOp; go_simp) ⟨rfl, Below.refl _ _⟩
            | 7, ho =>
              obtain rfl := Option.some.inj ho
              have e68 : a.tmps[68]?.getD undef = .int .i64 (k : Int) := hf.1 ⟨4, .data⟩ (by simp) rfl _ 68 rfl rfl
              have e70 : a.tmps[70]?.getD undef = .int .i64 (r2 : Int) := hf.1 ⟨6, .data⟩ (by simp) rfl _ 70 rfl rfl
              have hn := N1.out
              have hq := Q1.out
              exact wp_value (.int .i64 (p : Int)) (by unfold execOp; go_simp) ⟨rfl, Below.refl _ _⟩
            | 8, ho =>
              obtain rfl := Option.some.inj ho
              have b10 : a.tmps[10]?.getD undef = .int .i64 (j : Int) := hf.2 10 (by kernel_rfl)
              exact wp_value (.int .i64 (j : Int)) (by unfold execOp; go_simp) ⟨rfl, Below.refl _ _⟩
            | 9, ho =>
              obtain rfl := Option.some.inj ho
              have b5 : a.tmps[5]?.getD undef = .pointer (some ⟨w.heap.size + 1, 0, none⟩) := hf.2 5 (by kernel_rfl)
              exact wp_value (.pointer (some ⟨w.heap.size + 1, 1, none⟩)) (by unfold execOp; go_simp) ⟨rfl, Below.refl _ _⟩
            | 10, ho =>
              obtain rfl := Option.some.inj ho
              have e73 : a.tmps[73]?.getD undef = .pointer (some ⟨w.heap.size + 1, 1, none⟩) := hf.1 ⟨9, .data⟩ (by simp) rfl _ 73 rfl rfl
              have hc1 : w2.cell? ⟨w.heap.size + 1, 1, none⟩ = some (.int .i64 (c2 : Int)) := (cells3 HI2.n).2.1
              exact wp_value (.int .i64 (c2 : Int)) (by unfold execOp; go_simp) ⟨rfl, Below.refl _ _⟩
            | 11, ho =>
              obtain rfl := Option.some.inj ho
              have e72 : a.tmps[72]?.getD undef = .int .i64 (j : Int) := hf.1 ⟨8, .data⟩ (by simp) rfl _ 72 rfl rfl
              have e74 : a.tmps[74]?.getD undef = .int .i64 (c2 : Int) := hf.1 ⟨10, .data⟩ (by simp) rfl _ 74 rfl rfl
              have hn := N2.out
              have hq := Q2.out
              exact wp_value (.int .i64 (q : Int)) (by unfold execOp; go_simp) ⟨rfl, Below.refl _ _⟩
            | 12, ho =>
              obtain rfl := Option.some.inj ho
              have e67 : a.tmps[67]?.getD undef = mat r c s1 := hf.1 ⟨3, .data⟩ (by simp) rfl _ 67 rfl rfl
              have e71 : a.tmps[71]?.getD undef = .int .i64 (p : Int) := hf.1 ⟨7, .data⟩ (by simp) rfl _ 71 rfl rfl
              have e75 : a.tmps[75]?.getD undef = .int .i64 (q : Int) := hf.1 ⟨11, .data⟩ (by simp) rfl _ 75 rfl rfl
              exact wp_enter 105 #[mat r c s1, .int .i64 (p : Int), .int .i64 (q : Int)] (.bool a1) _ (by unfold execOp; go_simp) (HA1.out w2) (fun w' h => ⟨rfl, h⟩)
            | 13, ho =>
              obtain rfl := Option.some.inj ho
              have b5 : a.tmps[5]?.getD undef = .pointer (some ⟨w.heap.size + 1, 0, none⟩) := hf.2 5 (by kernel_rfl)
              exact wp_load_row 24 (.tmp 5) rfl (w.heap.size + 1) (eval_get b5 trivial) 24 _ (0, 0) _ (HI2.n) Tryd.underlying24 rfl minfo ⟨rfl, Below.refl _ _⟩
            | 14, ho =>
              obtain rfl := Option.some.inj ho
              have b9 : a.tmps[9]?.getD undef = .int .i64 (k : Int) := hf.2 9 (by kernel_rfl)
              exact wp_value (.int .i64 (k : Int)) (by unfold execOp; go_simp) ⟨rfl, Below.refl _ _⟩
            | 15, ho =>
              obtain rfl := Option.some.inj ho
              have b5 : a.tmps[5]?.getD undef = .pointer (some ⟨w.heap.size + 1, 0, none⟩) := hf.2 5 (by kernel_rfl)
              exact wp_value (.pointer (some ⟨w.heap.size + 1, 0, none⟩)) (by unfold execOp; go_simp) ⟨rfl, Below.refl _ _⟩
            | 16, ho =>
              obtain rfl := Option.some.inj ho
              have e79 : a.tmps[79]?.getD undef = .pointer (some ⟨w.heap.size + 1, 0, none⟩) := hf.1 ⟨15, .data⟩ (by simp) rfl _ 79 rfl rfl
              have hc1 : w2.cell? ⟨w.heap.size + 1, 0, none⟩ = some (.int .i64 (r2 : Int)) := (cells3 HI2.n).1
              exact wp_value (.int .i64 (r2 : Int)) (by unfold execOp; go_simp) ⟨rfl, Below.refl _ _⟩
            | 17, ho =>
              obtain rfl := Option.some.inj ho
              have e78 : a.tmps[78]?.getD undef = .int .i64 (k : Int) := hf.1 ⟨14, .data⟩ (by simp) rfl _ 78 rfl rfl
              have e80 : a.tmps[80]?.getD undef = .int .i64 (r2 : Int) := hf.1 ⟨16, .data⟩ (by simp) rfl _ 80 rfl rfl
              have hn := N1.out
              have hq := M1.out
              exact wp_value (.int .i64 (p2 : Int)) (by unfold execOp; go_simp) ⟨rfl, Below.refl _ _⟩
            | 18, ho =>
              obtain rfl := Option.some.inj ho
              have b10 : a.tmps[10]?.getD undef = .int .i64 (j : Int) := hf.2 10 (by kernel_rfl)
              exact wp_value (.int .i64 (j : Int)) (by unfold execOp; go_simp) ⟨rfl, Below.refl _ _⟩
            | 19, ho =>
              obtain rfl := Option.some.inj ho
              have b5 : a.tmps[5]?.getD undef = .pointer (some ⟨w.heap.size + 1, 0, none⟩) := hf.2 5 (by kernel_rfl)
              exact wp_value (.pointer (some ⟨w.heap.size + 1, 1, none⟩)) (by unfold execOp; go_simp) ⟨rfl, Below.refl _ _⟩
            | 20, ho =>
              obtain rfl := Option.some.inj ho
              have e83 : a.tmps[83]?.getD undef = .pointer (some ⟨w.heap.size + 1, 1, none⟩) := hf.1 ⟨19, .data⟩ (by simp) rfl _ 83 rfl rfl
              have hc1 : w2.cell? ⟨w.heap.size + 1, 1, none⟩ = some (.int .i64 (c2 : Int)) := (cells3 HI2.n).2.1
              exact wp_value (.int .i64 (c2 : Int)) (by unfold execOp; go_simp) ⟨rfl, Below.refl _ _⟩
            | 21, ho =>
              obtain rfl := Option.some.inj ho
              have e82 : a.tmps[82]?.getD undef = .int .i64 (j : Int) := hf.1 ⟨18, .data⟩ (by simp) rfl _ 82 rfl rfl
              have e84 : a.tmps[84]?.getD undef = .int .i64 (c2 : Int) := hf.1 ⟨20, .data⟩ (by simp) rfl _ 84 rfl rfl
              have hn := N2.out
              have hq := M2.out
              exact wp_value (.int .i64 (q2 : Int)) (by unfold execOp; go_simp) ⟨rfl, Below.refl _ _⟩
            | 22, ho =>
              obtain rfl := Option.some.inj ho
              have e77 : a.tmps[77]?.getD undef = mat r2 c2 s2 := hf.1 ⟨13, .data⟩ (by simp) rfl _ 77 rfl rfl
              have e81 : a.tmps[81]?.getD undef = .int .i64 (p2 : Int) := hf.1 ⟨17, .data⟩ (by simp) rfl _ 81 rfl rfl
              have e85 : a.tmps[85]?.getD undef = .int .i64 (q2 : Int) := hf.1 ⟨21, .data⟩ (by simp) rfl _ 85 rfl rfl
              exact wp_enter 105 #[mat r2 c2 s2, .int .i64 (p2 : Int), .int .i64 (q2 : Int)] (.bool a2) _ (by unfold execOp; go_simp) (HA2.out w2) (fun w' h => ⟨rfl, h⟩)
            | 23, ho =>
              obtain rfl := Option.some.inj ho
              have e66 : a.tmps[66]?.getD undef = .string op := hf.1 ⟨2, .data⟩ (by simp) rfl _ 66 rfl rfl
              have e76 : a.tmps[76]?.getD undef = .bool a1 := hf.1 ⟨12, .data⟩ (by simp) rfl _ 76 rfl rfl
              have e86 : a.tmps[86]?.getD undef = .bool a2 := hf.1 ⟨22, .data⟩ (by simp) rfl _ 86 rfl rfl
              exact wp_enter 102 #[.string op, .bool a1, .bool a2] (.bool (opB op a1 a2)) _ (by unfold execOp; go_simp) (HOP.out w2) (fun w' h => ⟨rfl, h⟩)
            | 24, ho =>
              obtain rfl := Option.some.inj ho
              have e87 : a.tmps[87]?.getD undef = .bool (opB op a1 a2) := hf.1 ⟨23, .data⟩ (by simp) rfl _ 87 rfl rfl
              exact wp_enter 97 #[.bool (opB op a1 a2)] (.string ⟨#[dig (opB op a1 a2)]⟩) _ (by unfold execOp; go_simp) (HBT.out w2) (fun w' h => ⟨rfl, h⟩)
            | 25, ho =>
              obtain rfl := Option.some.inj ho
              have e65 : a.tmps[65]?.getD undef = .string t := hf.1 ⟨1, .data⟩ (by simp) rfl _ 65 rfl rfl
              have e88 : a.tmps[88]?.getD undef = .string ⟨#[dig (opB op a1 a2)]⟩ := hf.1 ⟨24, .data⟩ (by simp) rfl _ 88 rfl rfl
              have hcat := HCAT.out
              exact wp_value (.string (t ++ ⟨#[dig (opB op a1 a2)]⟩)) (by unfold execOp; go_simp) ⟨rfl, Below.refl _ _⟩
            | 26, ho =>
              obtain rfl := Option.some.inj ho
              have b8 : a.tmps[8]?.getD undef = .pointer (some ⟨g, 0, none⟩) := hf.2 8 (by kernel_rfl)
              exact wp_value (.pointer (some ⟨g, 2, none⟩)) (by unfold execOp; go_simp) ⟨rfl, Below.refl _ _⟩
            | q + 27, ho => exact absurd hi (by omega)
          case st =>
            intro a w2 hb2 hf
            have HI2 := HI.out.later hb2
            have e90 : a.tmps[90]?.getD undef = .pointer (some ⟨g, 2, none⟩) := hf.1 ⟨26, .data⟩ (by simp) rfl _ 90 rfl rfl
            have e89 : a.tmps[89]?.getD undef = .string (t ++ ⟨#[dig (opB op a1 a2)]⟩) := hf.1 ⟨25, .data⟩ (by simp) rfl _ 89 rfl rfl
            have hc : w2.cell? ⟨g, 2, none⟩ = some (.string t) := (cells3 HI2.q).2.2
            have hfz : w2.frozen? ⟨g, 2, none⟩ = false := (free3 HI2.q).2.2
            exact wp_skip (by unfold execOp; go_simp) ⟨rfl, rfl⟩
          case en =>
            intro w2 hb2
            have HI3 := Lib.hid ((HI.out.later hb2).set_ (t ++ ⟨#[dig (opB op a1 a2)]⟩))
            clear hb2
            generalize w2.setCell ⟨g, 2, none⟩ (.string (t ++ ⟨#[dig (opB op a1 a2)]⟩)) = w3 at *
            simp only [fill, Act.put]
            go_simp
            go_wp2_with fail
            go_roundw
            case rel => exact ⟨j + 1, _, by omega, by go_num, HNT, HI3.out⟩
            case measure => simp [intOf]; omega
        · obtain rfl : j = C := by omega
          go_wp2_with fail
          go_roundw
          case rel => exact ⟨k + 1, t, by omega, by go_num, by rw [Nat.succ_mul]; exact ht, HI.out⟩
          case measure => simp [intOf]; omega
    · obtain rfl : k = R := by omega
      have HT : Hid (t = str (rowsB (pairE op E G r2 c2) k C)) := by
        have h2 := ht.out
        rw [List.take_of_length_le (by rw [rowsB_length]; exact Nat.le_refl _)] at h2
        exact h2
      obtain ⟨d0, d1, d2⟩ := cells3 hinv.o
      obtain ⟨x0, x1, x2⟩ := free3 hinv.o
      have hfar := hinv.far
      have HB := Lib.hid hinv.below
      clear hinv hlt
      go_wp2_with fail
      refine bodyPost_ret (v := .tuple #[mat k C t, .bool true]) (by simp [results, Tryd.results49, go_sem, d0, d1, d2]) rfl ⟨by rw [HT.out], ?_⟩
      exact ((HB.out.setCell (by simp; omega) _).setCell (by simp; omega) _).setCell (by simp; omega) _
end Go.Proofs.YtalechngagkklaaDoor.PairS
