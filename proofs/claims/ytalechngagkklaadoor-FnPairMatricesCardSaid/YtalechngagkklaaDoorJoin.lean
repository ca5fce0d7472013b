/-
  The reference's JoinMatrices.
-/
import Derived.Test.YtalechngagkklaaDoorJoinB
import Derived.Test.YtalechngagkklaaDoorOps
import Derived.StillTailTactics
namespace Go.Proofs.YtalechngagkklaaDoor.Join
open Go.RowKit Go.Proofs.YtalechngagkklaaDoor.Plain Go.Proofs.YtalechngagkklaaDoor.Base Go.Proofs.YtalechngagkklaaDoor.Valid Go.Proofs.YtalechngagkklaaDoor.Law Go.Proofs.YtalechngagkklaaDoor.GridPlain Go.Proofs.YtalechngagkklaaDoor.Grid Go.Proofs.YtalechngagkklaaDoor.Entry Go.Proofs.YtalechngagkklaaDoor.From Go.Proofs.YtalechngagkklaaDoor.JoinB Go.Proofs.YtalechngagkklaaDoor.Ops
set_option linter.unusedVariables false

/-- both boxes, the result's block, out's block -/
def JInv (w wr : World) (g : Nat) (r c r2 c2 : Int) (s1 s2 t : ByteArray) : Prop :=
  wr.heap[w.heap.size]? = some (.cells #[.int .i64 r, .int .i64 c, .string s1] 24 (0, 0)) ∧ wr.heap[w.heap.size + 1]? = some (.cells #[.int .i64 r2, .int .i64 c2, .string s2] 24 (0, 0)) ∧
    wr.heap[w.heap.size + 1 + 1]? = some (.cells #[.int .i64 0, .int .i64 0, .string ⟨#[]⟩] 24 (0, 0)) ∧ wr.heap[g]? = some (.cells #[.int .i64 r, .int .i64 c, .string t] 24 (0, 0)) ∧
    Below w.heap.size w wr ∧ w.heap.size + 3 ≤ g ∧ g < wr.heap.size
theorem JInv.drew {w wr : World} {g : Nat} {r c r2 c2 : Int} {s1 s2 t : ByteArray} (h : JInv w wr g r c r2 c2 s1 s2 t) : JInv w wr.drew g r c r2 c2 s1 s2 t :=
  ⟨h.1, h.2.1, h.2.2.1, h.2.2.2.1, ⟨h.2.2.2.2.1.os, h.2.2.2.2.1.tape, h.2.2.2.2.1.output, h.2.2.2.2.1.size, h.2.2.2.2.1.block⟩, h.2.2.2.2.2⟩
theorem JInv.set_ {w wr : World} {g : Nat} {r c r2 c2 : Int} {s1 s2 t : ByteArray} (h : JInv w wr g r c r2 c2 s1 s2 t) (u : ByteArray) : JInv w (wr.setCell ⟨g, 2, none⟩ (.string u)) g r c r2 c2 s1 s2 u := by
  obtain ⟨h0, h1, h2, h3, h4, h5, h6⟩ := h
  exact ⟨(heap_setCell_other _ _ _ _ (by simp; omega)).trans h0, (heap_setCell_other _ _ _ _ (by simp; omega)).trans h1, (heap_setCell_other _ _ _ _ (by simp; omega)).trans h2, (heap_setCell_same _ _ _ _ _ _ h3).trans rfl, h4.setCell (by simp; omega) _, h5, by simpa using h6⟩

theorem boxes3 {w w1 : World} {o1 o2 o3 : Obj} (hb : Below (((w.alloc o1).alloc o2).alloc o3).heap.size (((w.alloc o1).alloc o2).alloc o3) w1) :
    w1.heap[w.heap.size]? = some o1 ∧ w1.heap[w.heap.size + 1]? = some o2 ∧ w1.heap[w.heap.size + 1 + 1]? = some o3 ∧ Below w.heap.size w w1 ∧ w.heap.size + 3 ≤ w1.heap.size := by
  have hs : (((w.alloc o1).alloc o2).alloc o3).heap.size = w.heap.size + 3 := by simp
  have h3 : (((w.alloc o1).alloc o2).alloc o3).heap[w.heap.size + 1 + 1]? = some o3 := by
    have := heap_alloc_new ((w.alloc o1).alloc o2) o3
    rwa [World.size_alloc, World.size_alloc] at this
  have h2 : (((w.alloc o1).alloc o2).alloc o3).heap[w.heap.size + 1]? = some o2 := by
    have := heap_alloc_new (w.alloc o1) o2
    rw [World.size_alloc] at this
    exact (Below.heap_alloc _ _ _ (by simp)).trans this
  have h1 : (((w.alloc o1).alloc o2).alloc o3).heap[w.heap.size]? = some o1 := (Below.heap_alloc _ _ _ (by simp; omega)).trans ((Below.heap_alloc _ _ _ (by simp)).trans (heap_alloc_new w o1))
  refine ⟨(hb.block _ (by omega)).trans h1, (hb.block _ (by omega)).trans h2, (hb.block _ (by omega)).trans h3, ?_, by have := hb.size; omega⟩
  exact ((((Below.refl w.heap.size w).alloc (Nat.le_refl _) _).alloc (by simp) _).alloc (by simp; omega) _).trans (hb.mono (by omega))

/-- joined entries -/
def joinE (op : ByteArray) (E F : Nat → Nat → Bool) : Nat → Nat → Bool := fun x y => opB op (E x y) (F x y)

set_option maxHeartbeats 2000000 in
set_option maxRecDepth 100000 in
theorem join_spec (op : ByteArray) (hk : opKnown op = true) (E F : Nat → Nat → Bool) (r c : Nat) (hr8 : r ≤ 8) (hc : 1 ≤ c) (hc8 : c ≤ 8) (hv1 : validB r c (str (rowsB E r c)) = true) (hv2 : validB r c (str (rowsB F r c)) = true)
    (hs1 : (str (rowsB E r c)).size ≤ maxLen) (hs2 : (str (rowsB F r c)).size ≤ maxLen) (w : World) :
    Calls Tryd.prog 45 #[.string op, mat r c (str (rowsB E r c)), mat r c (str (rowsB F r c))] w fun e w' => e = .returned (.tuple #[mat r c (str (rowsB (joinE op E F) r c)), .bool true]) ∧ Below w.heap.size w w' := by
  obtain ⟨s1, h1⟩ : ∃ s, str (rowsB E r c) = s := ⟨_, rfl⟩
  obtain ⟨s2, h2⟩ : ∃ s, str (rowsB F r c) = s := ⟨_, rfl⟩
  rw [h1] at hv1 hs1 ⊢
  rw [h2] at hv2 hs2 ⊢
  have HE := Lib.hid h1
  have HF := Lib.hid h2
  have hz1 : s1.size = r * c := by rw [← h1, str_size, rowsB_length]
  have hz2 : s2.size = r * c := by rw [← h2, str_size, rowsB_length]
  have hsz : s1.size ≤ 64 := by rw [hz1]; exact prod_le hr8 hc8
  have h12 : s2.size = s1.size := hz2.trans hz1.symm
  have HZ := Lib.hid hz1
  have HV1 := Lib.hid hv1
  have HV2 := Lib.hid hv2
  have HK := Lib.hid hk
  clear h1 h2 hz1 hz2 hv1 hv2 hk
  go_enter Tryd.func45, Tryd.ntmps45
  go_wp2_with fail
  refine (known_any op _).mono ?_
  rintro e w' ⟨rfl, rfl⟩
  rw [HK.out]
  go_wp2_with fail
  refine (spec_valid _ _ s1 hs1 _).mono ?_
  rintro e w1 ⟨rfl, hb1⟩
  rw [HV1.out]
  obtain ⟨b0, b1, b2, hbel, hz⟩ := boxes3 hb1
  obtain ⟨m0, m1, m2⟩ := cells3 b0
  obtain ⟨n0, n1, n2⟩ := cells3 b1
  have HB := Lib.hid hbel
  have B0 := Lib.hid b0
  have B1 := Lib.hid b1
  have B2 := Lib.hid b2
  clear hb1 b0 b1 b2 hbel
  go_wp2_with fail
  refine (spec_valid _ _ s2 hs2 _).mono ?_
  rintro e w2 ⟨rfl, hb2⟩
  rw [HV2.out]
  have hz2 := hb2.size
  have B0 := Lib.hid ((hb2.block _ (by omega)).trans B0.out)
  have B1 := Lib.hid ((hb2.block _ (by omega)).trans B1.out)
  have B2 := Lib.hid ((hb2.block _ (by omega)).trans B2.out)
  have HB := Lib.hid (bstep HB.out hb2)
  obtain ⟨m0, m1, m2⟩ := cells3 B0.out
  obtain ⟨n0, n1, n2⟩ := cells3 B1.out
  clear hb2
  go_wp2_with fail
  have HI : Hid (JInv w (w2.alloc (.cells #[.int .i64 (r : Int), .int .i64 (c : Int), .string ⟨#[]⟩] 24)) w2.heap.size r c r c s1 s2 ⟨#[]⟩) :=
    ⟨(Below.heap_alloc _ _ _ (by omega)).trans B0.out, (Below.heap_alloc _ _ _ (by omega)).trans B1.out, (Below.heap_alloc _ _ _ (by omega)).trans B2.out, heap_alloc_new _ _, bstepA HB.out _, by omega, by simp⟩
  clear B0 B1 B2 HB m0 m1 m2 n0 n1 n2
  have hg3 : w.heap.size + 3 ≤ w2.heap.size := by omega
  go_loopw [9] (fun i wr => ∃ (k : Nat) (t : ByteArray), k ≤ s1.size ∧ i = .int .i64 (k : Int) ∧ Hid (t = str ((rowsB (joinE op E F) r c).take k)) ∧ JInv w wr w2.heap.size r c r c s1 s2 t) (fun i _ => s1.size - (intOf i).toNat)
  case atStart => exact ⟨0, _, Nat.zero_le _, rfl, rfl, HI.out⟩
  case round =>
    obtain ⟨k, t, hk, rfl, ht, hinv⟩ := hrel
    clear HI
    have HI := Lib.hid hinv
    obtain ⟨_, _, m2⟩ := cells3 hinv.1
    obtain ⟨_, _, n2⟩ := cells3 hinv.2.1
    obtain ⟨o0, o1, o2⟩ := cells3 hinv.2.2.2.1
    obtain ⟨_, _, f2⟩ := free3 hinv.2.2.2.1
    clear hinv
    by_cases hlt : k < s1.size
    · have hlt2 : k < s2.size := by omega
      have hkr : k < r * c := by rw [← HZ.out]; exact hlt
      have hby1 := Grid.byte_at E r c k s1 HE.out.symm hkr hlt
      have hby2 := Grid.byte_at F r c k s2 HF.out.symm hkr hlt2
      have HN : Hid ((rowsB (joinE op E F) r c)[k]? = some (dig (opB op (E (k / c) (k % c)) (F (k / c) (k % c))))) := rowsB_get _ r c k hkr
      have hB1 : ((s1[k].toNat : Int) == 49) = E (k / c) (k % c) := by rw [hby1]; cases E (k / c) (k % c) <;> rfl
      have hB2 : ((s2[k].toNat : Int) == 49) = F (k / c) (k % c) := by rw [hby2]; cases F (k / c) (k % c) <;> rfl
      rw [← hB1, ← hB2] at HN
      clear hby1 hby2 hkr hB1 hB2
      have htz : t.size + 1 ≤ 9223372036854775807 := by
        rw [ht.out, str_size, List.length_take]
        omega
      go_wp2_with fail
      have hcat := fun W => run_string_add_sum (P := Tryd.prog) (w := W) t ⟨#[dig (opB op ((s1[k].toNat : Int) == 49) ((s2[k].toNat : Int) == 49))]⟩ htz
      clear htz
      refine wp_region_still_tail 17 (by kernel_rfl) (by kernel_rfl) ?_
      simp only [List.take_succ_cons, List.take_zero, List.drop_succ_cons, List.drop_zero]
      repeat still_step
      still_call ((op_any op _ _ _).mono fun e w' h => ⟨h.1, h.2.symm⟩)
      repeat still_step
      still_call ((l1Bit_any _ _).mono fun e w' h => ⟨h.1, h.2.symm⟩)
      repeat still_step
      refine wpStill_nil ?_
      change wpList _ _ _ _ _ wr.drew
      go_wp2_with fail
      go_roundw
      case rel => exact ⟨k + 1, _, by omega, by go_num, by rw [ht.out]; exact take_next _ k _ HN.out, HI.out.drew.set_ _⟩
      case measure => simp [intOf]; omega
    · obtain rfl : k = s1.size := by omega
      have HT : Hid (t = str (rowsB (joinE op E F) r c)) := by
        have h2 := ht.out
        rw [List.take_of_length_le (by rw [rowsB_length, HZ.out]; exact Nat.le_refl _)] at h2
        exact h2
      obtain ⟨d0, d1, d2⟩ := cells3 HI.out.2.2.1
      obtain ⟨g0, g1, g2⟩ := free3 HI.out.2.2.1
      clear hlt
      go_wp2_with fail
      refine bodyPost_ret (v := .tuple #[mat r c t, .bool true]) (by simp [results, Tryd.results45, go_sem, d0, d1, d2]) rfl ⟨by rw [HT.out], ?_⟩
      exact ((HI.out.2.2.2.2.1.setCell (by simp; omega) _).setCell (by simp; omega) _).setCell (by simp; omega) _
end Go.Proofs.YtalechngagkklaaDoor.Join
