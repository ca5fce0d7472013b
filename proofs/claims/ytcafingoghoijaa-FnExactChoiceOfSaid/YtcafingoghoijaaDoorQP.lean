/-
  A slice of rectangles as an argument: opened, and read again.
-/
import Derived.Test.YtcafingoghoijaaRDoor
import Derived.Test.YtcafingoghoijaaRectsP
import Derived.Carry
import Derived.WideKeyArgs
import Derived.ChangeSlices
import Derived.Deep.Slices
import Derived.ChangeSame
namespace Go.Proofs.Ytcafingoghoijaa.DoorQ
open Go.ChangeShapes Go.WideShapes Go.ChangeAt Go.RowKit Go.Joins Go.Deep Go.Proofs.Ytcafingoghoijaa.Plain Go.Proofs.Ytcafingoghoijaa.RDoor Go.Proofs.Ytcafingoghoijaa.Rects
set_option linter.unusedVariables false
set_option maxRecDepth 100000

theorem laidOut : laidOutB Try.prog = true := by kernel_rfl
theorem cells1 : Try.prog.cellsOf 3 = 1 := by kernel_rfl

section
variable {H : Type} {enc : TypeId × Value → H}
theorem slice_at {W : World} {base : Nat} {a : Addr} {len cap : Nat} (hv : Value.okWide Try.prog W .any base 22 (.slice (some a) len cap)) : a.spot = none ∧ a.block < W.heap.size := by
  simp only [Value.okWide, Try.underlying22, Cell.okWide, Cell.ok] at hv
  obtain ⟨_, _, _, hs, row, cells, hsh, _⟩ := hv
  refine ⟨hs, ?_⟩
  unfold World.shape? at hsh
  by_cases h : a.block < W.heap.size
  · exact h
  · rw [Array.getElem?_eq_none (by omega)] at hsh
    simp at hsh

/-- two cells that are read as a rectangle -/
theorem two_ints {W : World} {base n : Nat} {sp : Nat → Bool} {hd : Bool} {cs : List Value} {x : DataW H × List MemPlace} (h : DataW.trod enc Try.prog W base sp hd n 31 cs = some x) (hl : cs.length = 2) : ∃ r c : Int, cs = [.int .i64 r, .int .i64 c] := by
  match cs, hl with
  | [u, v], _ =>
    obtain ⟨y0, y1, m, _, _, z0, z1⟩ := trod_struct2 Try.underlying31 h
    rw [cells1] at z0 z1
    obtain ⟨r, e0, _, _⟩ := DataW.trod_int Try.underlying3 z0
    obtain ⟨c, e1, _, _⟩ := DataW.trod_int Try.underlying3 z1
    refine ⟨r, c, ?_⟩
    simp at e0 e1
    rw [e0, e1]

/-- opened -/
theorem opened {W : World} {base : Nat} {v : Value} {d : DataW H} {p : List MemPlace} (hv : Value.okWide Try.prog W .any base 22 v)
    (h0 : DataW.Trod enc Try.prog W 0 (fun _ => true) true 22 v d p) : ∃ xs : List (Int × Int), RV W W.heap.size v xs := by
  obtain ⟨a0, len, cap, rfl⟩ := okWide_slice Try.underlying22 hv
  obtain ⟨fuel, hf⟩ := h0
  rcases open_slice Try.underlying22 hf with ⟨hcs, hx⟩ | ⟨a, len', cap', m, n, D, Pl, hcs, _, hl, hm, hmm, hx, hi⟩
  · simp [Value.cells] at hcs
    obtain ⟨rfl, rfl, rfl⟩ := hcs
    exact ⟨[], by simp, .inl ⟨rfl, rfl⟩⟩
  · simp [Value.cells] at hcs
    obtain ⟨rfl, rfl, rfl⟩ := hcs
    simp only [if_true] at hmm
    subst hmm
    obtain ⟨hs, hb⟩ := slice_at hv
    obtain ⟨b, off, spot⟩ := a
    obtain rfl : spot = none := hs
    have hex : ∀ i, i < len → ∃ q : Int × Int, W.cell? ⟨b, off + i * 2, none⟩ = some (.int .i64 q.1) ∧ W.cell? ⟨b, off + i * 2 + 1, none⟩ = some (.int .i64 q.2) := fun i hil => by
      obtain ⟨cs', hc, ht⟩ := hi i (by omega)
      rw [cellsR] at hc
      obtain ⟨_, hcl, hat⟩ := World.cells?_some hc
      obtain ⟨r, c, rfl⟩ := two_ints ht hcl
      have h1 := hat 0 (by omega)
      have h2 := hat 1 (by omega)
      rw [Addr.add_mid, Addr.add_mid] at h1 h2
      exact ⟨(r, c), h1, h2⟩
    obtain ⟨f, hfq⟩ := choose_lt hex
    refine ⟨(List.range len).map f, by simp; unfold maxLen at hm; omega, .inr ⟨b, off, m, by simp, hb, fun j hj => ?_⟩⟩
    have hj' : j < len := by simpa using hj
    simpa using hfq j hj'

/-- read again, in whatever world that only made memory -/
theorem again {W W' : World} {v : Value} {d : DataW H} {p before : List MemPlace} (h0 : DataW.Trod enc Try.prog W 0 (fun _ => true) true 22 v d p) (hb : Below W.heap.size W W')
    (hlt : ∀ x ∈ before, x.block < W.heap.size) (hin : ∀ x ∈ p, x ∈ before) (sp : Nat → Bool) (hp : ∀ x ∈ before, sp x.block = true) : DataW.Trod enc Try.prog W' 0 sp true 22 v d p :=
  WideElems.Trod_stays laidOut (by kernel_rfl) (of_decide_eq_true (by kernel_rfl)) h0 (fun x hx => hb.same (hlt x (hin x hx))) (fun x hx => hp x (hin x hx))
end
end Go.Proofs.Ytcafingoghoijaa.DoorQ
