/-
  The specification's l3Apart at a valid matrix.
-/
import Derived.Test.YtgmhddceeomjbaaDoorEntry
import Derived.Test.YtgmhddceeomjbaaDoorCountWalk
import Derived.Test.YtgmhddceeomjbaaDoorKept
namespace Go.Proofs.YtgmhddceeomjbaaDoor.ApartS
open Go.RowKit Go.Proofs.YtgmhddceeomjbaaDoor.Plain Go.Proofs.YtgmhddceeomjbaaDoor.Base Go.Proofs.YtgmhddceeomjbaaDoor.Valid Go.Proofs.YtgmhddceeomjbaaDoor.Law Go.Proofs.YtgmhddceeomjbaaDoor.Entry Go.Proofs.YtgmhddceeomjbaaDoor.fnExactCountOnes
open Go.Proofs.YtgmhddceeomjbaaDoor.Kept (region_kept wq_step wq_nil Kp)
set_option linter.unusedVariables false

theorem drawn_at (w : World) (n : Nat) : Below w.heap.size w { w with drawn := w.drawn + n } := ⟨rfl, rfl, rfl, Nat.le_refl _, fun _ _ => rfl⟩
theorem cells3 {w : World} {g : Nat} {T : TypeId} {a b c : Value} (h : w.heap[g]? = some (.cells #[a, b, c] T (0, 0))) : w.cell? ⟨g, 0, none⟩ = some a ∧ w.cell? ⟨g, 1, none⟩ = some b ∧ w.cell? ⟨g, 2, none⟩ = some c :=
  ⟨cell_of_row _ _ 0 _ _ _ h, cell_of_row _ _ 1 _ _ _ h, cell_of_row _ _ 2 _ _ _ h⟩
theorem quo_in (p c : Nat) (hp : p < 64) : IntKind.i64.wrap ((p : Int) / (c : Int)) = ((p / c : Nat) : Int) := by
  have h : p / c < 64 := Nat.lt_of_le_of_lt (Nat.div_le_self _ _) hp
  rw [← Int.natCast_ediv]
  generalize p / c = z at h ⊢
  exact IntWalk.i64_in _ ⟨by omega, by omega⟩

set_option maxHeartbeats 4000000 in
set_option maxRecDepth 100000 in
theorem apart_spec (R C : Nat) (s : ByteArray) (bit : Int) (p q : Nat) (hC : 1 ≤ C) (hp : p < 64) (hq : q < 64) (b1 b2 : Bool)
    (h1 : ∀ W : World, Calls Tryd.prog 78 #[mat R C s, .int .i64 ((p / C : Nat) : Int), .int .i64 ((q % C : Nat) : Int)] W fun e w' => e = .returned (.bool b1) ∧ Below W.heap.size W w')
    (h2 : ∀ W : World, Calls Tryd.prog 78 #[mat R C s, .int .i64 ((q / C : Nat) : Int), .int .i64 ((p % C : Nat) : Int)] W fun e w' => e = .returned (.bool b2) ∧ Below W.heap.size W w') (w : World) :
    Calls Tryd.prog 58 #[mat R C s, .int .i64 bit, .int .i64 (p : Int), .int .i64 (q : Int)] w fun e w' => e = .returned (.bool (decide (bitI b1 ≠ bit) || decide (bitI b2 ≠ bit))) ∧ Below w.heap.size w w' := by
  obtain ⟨W1, hW1⟩ : ∃ W1, W1 = w.alloc (.cells #[.int .i64 (R : Int), .int .i64 (C : Int), .string s] 27) := ⟨_, rfl⟩
  have HW1 := Lib.hid hW1
  have HW : Hid (Below w.heap.size w W1) := by unfold Hid; rw [hW1]; exact (Below.refl w.heap.size w).alloc (Nat.le_refl _) _
  have HM0 : Hid (∀ wx : World, Below W1.heap.size W1 wx → wx.heap[w.heap.size]? = some (.cells #[.int .i64 (R : Int), .int .i64 (C : Int), .string s] 27 (0, 0))) := fun wx h => by
    have h0 : W1.heap[w.heap.size]? = some (.cells #[.int .i64 (R : Int), .int .i64 (C : Int), .string s] 27 (0, 0)) := by rw [hW1]; exact heap_alloc_new w _
    exact (h.block _ (Array.getElem?_eq_some_iff.1 h0).1).trans h0
  have HD1 : Hid (IntKind.i64.wrap ((p : Int) / (C : Int)) = ((p / C : Nat) : Int)) := quo_in p C hp
  have HD2 : Hid (IntKind.i64.wrap ((q : Int) / (C : Int)) = ((q / C : Nat) : Int)) := quo_in q C hq
  have HR1 : Hid ((q : Int).tmod (C : Int) = ((q % C : Nat) : Int)) := Lib.hid rfl
  have HR2 : Hid ((p : Int).tmod (C : Int) = ((p % C : Nat) : Int)) := Lib.hid rfl
  have HZ : Hid (¬ C = 0) := Lib.hid (by omega)
  have HA1 := Lib.hid h1
  have HA2 := Lib.hid h2
  clear h1 h2 hW1 hC
  generalize p / C = a1 at *
  generalize q / C = a2 at *
  generalize q % C = c1 at *
  generalize p % C = c2 at *
  go_enter Tryd.func58, Tryd.ntmps58
  go_wp2_with fail
  rw [← HW1.out]
  refine region_kept (C := fun wx => Below W1.heap.size W1 wx) (drawn_at W1 1) (by kernel_rfl) (by kernel_rfl) ?_
  repeat
    (refine wq_step (fun K hK => ?_)
     go_simp
     first
       | (refine hK _ ?_; clear hK K)
       | (apply Exists.intro
          refine ⟨fun wx hC => ?_, hK _ ?_⟩
          · first
            | with_reducible rfl
            | with_reducible exact ((HA1.out wx).mono fun e w' h => ⟨h.1, hC.trans (h.2.mono hC.size)⟩)
            | with_reducible exact ((l1Int_any _ wx).mono fun e w' h => ⟨h.1, h.2 ▸ hC⟩)
            | (obtain ⟨d0, d1, d2⟩ := cells3 (HM0.out wx hC); have j1 := HD1.out; have j2 := HR1.out; have j3 := HZ.out; go_simp; first | done | rfl)
          clear hK K))
  refine wq_nil ?_
  intro w21 hC
  have HC1 := Lib.hid hC
  clear hC
  go_simp
  go_wp2_with fail
  refine region_kept (C := fun wx => Below W1.heap.size W1 wx) (HC1.out.trans ((drawn_at w21 1).mono HC1.out.size)) (by kernel_rfl) (by kernel_rfl) ?_
  repeat
    (refine wq_step (fun K hK => ?_)
     go_simp
     first
       | (refine hK _ ?_; clear hK K)
       | (apply Exists.intro
          refine ⟨fun wx hC => ?_, hK _ ?_⟩
          · first
            | with_reducible rfl
            | with_reducible exact ((HA2.out wx).mono fun e w' h => ⟨h.1, hC.trans (h.2.mono hC.size)⟩)
            | with_reducible exact ((l1Int_any _ wx).mono fun e w' h => ⟨h.1, h.2 ▸ hC⟩)
            | (obtain ⟨d0, d1, d2⟩ := cells3 (HM0.out wx hC); have j1 := HD2.out; have j2 := HR2.out; have j3 := HZ.out; go_simp; first | done | rfl)
          clear hK K))
  refine wq_nil ?_
  intro w22 hC
  have HC2 := Lib.hid hC
  clear hC
  go_simp
  obtain ⟨n1, hn1⟩ : ∃ n, bitI b1 = n := ⟨_, rfl⟩
  obtain ⟨n2, hn2⟩ : ∃ n, bitI b2 = n := ⟨_, rfl⟩
  rw [hn1, hn2]
  have HN1 := Lib.hid hn1
  have HN2 := Lib.hid hn2
  clear hn1 hn2
  have HF : Hid (Below w.heap.size w w22) := HW.out.trans (HC2.out.mono HW.out.size)
  by_cases e1 : n1 = bit <;> by_cases e2 : n2 = bit
  all_goals
    go_wp2_with fail
    go_ret
    exact ⟨by simp [HN1.out, HN2.out, e1, e2], HF.out⟩
end Go.Proofs.YtgmhddceeomjbaaDoor.ApartS
