/-
  A slice of numbers as an argument: opened, and read again.
-/
import Derived.Test.YtgmhddceeomjbaaDoorDoor
import Derived.Test.YtgmhddceeomjbaaDoorInts
import Derived.Carry
import Derived.WideKeyArgs
import Derived.ChangeSlices
namespace Go.Proofs.YtgmhddceeomjbaaDoor.DoorL
open Go.ChangeShapes Go.WideShapes Go.ChangeAt Go.RowKit Go.Joins Go.Proofs.YtgmhddceeomjbaaDoor.Plain Go.Proofs.YtgmhddceeomjbaaDoor.Base Go.Proofs.YtgmhddceeomjbaaDoor.Ints
set_option linter.unusedVariables false
set_option maxRecDepth 100000

theorem laidOut : laidOutB Tryd.prog = true := by kernel_rfl
theorem cellsI : Tryd.prog.cellsOf 3 = 1 := by kernel_rfl

section
variable {H : Type} {enc : TypeId × Value → H}
theorem slice_at {W : World} {base : Nat} {a : Addr} {len cap : Nat} (hv : Value.okWide Tryd.prog W .any base 24 (.slice (some a) len cap)) : a.spot = none ∧ a.block < W.heap.size := by
  simp only [Value.okWide, Tryd.underlying24, Cell.okWide, Cell.ok] at hv
  obtain ⟨_, _, _, hs, row, cells, hsh, _⟩ := hv
  refine ⟨hs, ?_⟩
  unfold World.shape? at hsh
  by_cases h : a.block < W.heap.size
  · exact h
  · rw [Array.getElem?_eq_none (by omega)] at hsh
    simp at hsh

/-- opened -/
theorem opened {W : World} {base : Nat} {v : Value} {d : DataW H} {p : List MemPlace} (hv : Value.okWide Tryd.prog W .any base 24 v)
    (h0 : DataW.Trod enc Tryd.prog W 0 (fun _ => true) true 24 v d p) : ∃ xs : List Int, IV W W.heap.size v xs := by
  obtain ⟨a0, len, cap, rfl⟩ := okWide_slice Tryd.underlying24 hv
  obtain ⟨fuel, hf⟩ := h0
  rcases open_ints Tryd.underlying24 Tryd.underlying3 cellsI hf with ⟨hcs, hx⟩ | ⟨a, len', cap', zs, hcs, _, hl, hm, hz, hx, hcell, hwz⟩
  · simp [Value.cells] at hcs
    obtain ⟨rfl, rfl, rfl⟩ := hcs
    exact ⟨[], by simp, .inl ⟨rfl, rfl⟩⟩
  · simp [Value.cells] at hcs
    obtain ⟨rfl, rfl, rfl⟩ := hcs
    simp only [if_true] at hz
    obtain ⟨hs, hb⟩ := slice_at hv
    obtain ⟨b, off, spot⟩ := a
    obtain rfl : spot = none := hs
    have hln : (zs.take len).length = len := by simp; omega
    refine ⟨zs.take len, by rw [hln]; unfold maxLen at hm; omega, .inr ⟨b, off, cap, by rw [hln], hb, fun j hj => ?_⟩⟩
    have hj' : j < len := by rw [hln] at hj; exact hj
    have := hcell j (by omega)
    rw [add_plain] at this
    rw [this]
    simp [List.getD, show j < zs.length by omega]

/-- read again, in whatever world that only made memory -/
theorem again {W W' : World} {v : Value} {d : DataW H} {p before : List MemPlace} (h0 : DataW.Trod enc Tryd.prog W 0 (fun _ => true) true 24 v d p) (hb : Below W.heap.size W W')
    (hlt : ∀ x ∈ before, x.block < W.heap.size) (hin : ∀ x ∈ p, x ∈ before) (sp : Nat → Bool) (hp : ∀ x ∈ before, sp x.block = true) : DataW.Trod enc Tryd.prog W' 0 sp true 24 v d p :=
  WideElems.Trod_stays laidOut (by kernel_rfl) (of_decide_eq_true (by kernel_rfl)) h0 (fun x hx => hb.same (hlt x (hin x hx))) (fun x hx => hp x (hin x hx))
end
end Go.Proofs.YtgmhddceeomjbaaDoor.DoorL
