/-
  A row of bytes in memory, told byte by byte: what is read, written and turned into a string.
-/
import Derived.Test.YtbhkfibbepocfaaDoorFmB
import Derived.Below
import Derived.Laws.IdiomStrings
namespace Go.Proofs.YtbhkfibbepocfaaDoor.FmRow
open Go.RowKit Go.Proofs.YtbhkfibbepocfaaDoor.Plain Go.Proofs.YtbhkfibbepocfaaDoor.Fm
set_option linter.unusedVariables false

def upd (g : Nat → UInt8) (i : Nat) (u : UInt8) : Nat → UInt8 := fun j => if j = i then u else g j
/-- the block B begins with n bytes, told by g, and none of them is shared by a string -/
def Rw (w : World) (B n : Nat) (g : Nat → UInt8) : Prop :=
  ∃ cs T lo hi, w.heap[B]? = some (.cells cs T (lo, hi)) ∧ (n ≤ lo ∨ hi = 0) ∧ ∀ j, j < n → cs[j]? = some (.int .u8 ((g j).toNat : Int))
theorem Rw.lt {w : World} {B n : Nat} {g : Nat → UInt8} (h : Rw w B n g) : B < w.heap.size := by
  obtain ⟨cs, T, lo, hi, h1, _⟩ := h
  exact (Array.getElem?_eq_some_iff.1 h1).1
theorem Rw.cell {w : World} {B n : Nat} {g : Nat → UInt8} (h : Rw w B n g) (j : Nat) (hj : j < n) : w.cell? ⟨B, j, none⟩ = some (.int .u8 ((g j).toNat : Int)) := by
  obtain ⟨cs, T, lo, hi, h1, _, h3⟩ := h
  rw [cell_of_row w B j cs T (lo, hi) h1]
  exact h3 j hj
theorem Rw.free {w : World} {B n : Nat} {g : Nat → UInt8} (h : Rw w B n g) (j : Nat) (hj : j < n) : w.frozen? ⟨B, j, none⟩ = false := by
  obtain ⟨cs, T, lo, hi, h1, h2, h3⟩ := h
  simp only [World.frozen?, h1]
  rcases h2 with h2 | rfl
  · simp; omega
  · simp
theorem Rw.set {w : World} {B n : Nat} {g : Nat → UInt8} (h : Rw w B n g) (i : Nat) (hi : i < n) (u : UInt8) : Rw (w.setCell ⟨B, i, none⟩ (.int .u8 (u.toNat : Int))) B n (upd g i u) := by
  obtain ⟨cs, T, lo, hh, h1, h2, h3⟩ := h
  refine ⟨cs.setIfInBounds i (.int .u8 (u.toNat : Int)), T, lo, hh, by simp [World.setCell, Array.getElem?_modify, h1], h2, fun j hj => ?_⟩
  have hsz : i < cs.size := (Array.getElem?_eq_some_iff.1 (h3 i hi)).1
  rw [Array.getElem?_setIfInBounds]
  unfold upd
  by_cases e : i = j
  · subst e; rw [if_pos rfl, if_pos hsz, if_pos rfl]
  · rw [if_neg e, if_neg (Ne.symm e)]; exact h3 j hj
theorem Rw.later {w w' : World} {B n : Nat} {g : Nat → UInt8} (h : Rw w B n g) (hb : Below w.heap.size w w') : Rw w' B n g := by
  obtain ⟨cs, T, lo, hi, h1, h2⟩ := h
  exact ⟨cs, T, lo, hi, (hb.block _ (Array.getElem?_eq_some_iff.1 h1).1).trans h1, h2⟩
theorem Rw.same {w : World} {B n : Nat} {g g' : Nat → UInt8} (h : Rw w B n g) (e : ∀ j, j < n → g j = g' j) : Rw w B n g' := by
  obtain ⟨cs, T, lo, hi, h1, h2, h3⟩ := h
  exact ⟨cs, T, lo, hi, h1, h2, fun j hj => by rw [h3 j hj, e j hj]⟩
/-- the row as a string -/
theorem Rw.conv {w : World} {B n cap : Nat} {g : Nat → UInt8} (h : Rw w B n g) :
    (convert 22 9 (.slice (some ⟨B, 0, none⟩) n cap)).run Tryd.prog w = .ok (.string (str ((List.range n).map g))) w := by
  have h2 := run_convert_bytes_back (P := Tryd.prog) w 22 9 5 ⟨B, 0, none⟩ cap ((List.range n).map g) Tryd.underlying22 Tryd.underlying5 Tryd.underlying9 (fun j hj => by
    have hj' : j < n := by simpa using hj
    have e : ((⟨B, 0, none⟩ : Addr).add j) = ⟨B, j, none⟩ := by
      simp [Addr.add]
      try exact fun h => h.symm
    rw [e, h.cell j hj']
    simp)
  rw [show ((List.range n).map g).length = n by simp] at h2
  exact h2
/-- a new row of zeros -/
theorem Rw.zeros (w : World) (cs : Array Value) (T : TypeId) (n : Nat) (h : ∀ j, j < n → cs[j]? = some (.int .u8 0)) : Rw (w.alloc (.cells cs T)) w.heap.size n (fun _ => 0) :=
  ⟨cs, T, 0, 0, heap_alloc_new w _, .inr rfl, h⟩
/-- the bytes of a string as a new row -/
theorem Rw.bytes (w : World) (s : ByteArray) (cap : Nat) (T : TypeId) (hc : s.size ≤ cap) : Rw (w.drew.alloc (.cells (bytesRow s cap) T ((bytesRow s cap).size, (bytesRow s cap).size + 1))) w.heap.size s.size (fun j => s.data.toList.getD j 0) := by
  refine ⟨bytesRow s cap, T, _, _, heap_alloc_new w.drew _, .inl ?_, fun j hj => ?_⟩
  · have hz : s.data.size = s.size := rfl
    simp [bytesRow]
  · have hz : s.data.size = s.size := rfl
    rw [bytesRow_at s cap j (by omega)]
    congr 3
    have hj' : j < s.data.toList.length := by simpa using hj
    simp only [List.getD_eq_getElem?_getD, List.getElem?_eq_getElem hj']
    simp
end Go.Proofs.YtbhkfibbepocfaaDoor.FmRow
