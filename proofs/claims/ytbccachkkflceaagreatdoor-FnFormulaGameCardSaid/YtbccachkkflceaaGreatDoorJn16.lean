/-
  Texts of one seat, joined: FmText, FmRow.
-/
import Derived.Test.YtbccachkkflceaaGreatDoorJn1
import Derived.Test.YtbccachkkflceaaGreatDoorJn15
import Derived.Laws.IdiomStrings
import Derived.Test.YtbccachkkflceaaGreatDoorJn7
import Derived.Below
/-
  The text of the program's formula.
-/
namespace Go.Proofs.YtbccachkkflceaaGreatDoor.FmText
open Go.RowKit Go.Shelf Go.Proofs.YtbccachkkflceaaGreatDoor.Plain Go.Proofs.YtbccachkkflceaaGreatDoor.Fm Go.Proofs.YtbccachkkflceaaGreatDoor.FmRead Go.Proofs.YtbccachkkflceaaGreatDoor.App Go.Proofs.YtbccachkkflceaaGreatDoor.FmApp
set_option linter.unusedVariables false
set_option linter.unusedSimpArgs false

theorem conv_text {w0 w : World} {p : Option Addr} {n c : Nat} {l : List UInt8} (h : Own w0 w 5 1 (.slice p n c) n (cellsU l)) (hl : l.length = n) (hn : 0 < n) :
    (convert 22 9 (.slice p n c)).run Tryz.prog w = .ok (.string (str l)) w := by
  obtain ⟨g, rfl, hg1, hg2, hc0⟩ := h.cell 0 (by omega)
  have h2 := run_convert_bytes_back (P := Tryz.prog) w 22 9 5 ⟨g, 0, none⟩ c l Tryz.underlying22 Tryz.underlying5 Tryz.underlying9 (fun j hj => by
    obtain ⟨g', hg', _, _, hc⟩ := h.cell j (by omega)
    simp only [Option.some.injEq, Addr.mk.injEq, and_true] at hg'
    subst hg'
    have e : ((⟨g, 0, none⟩ : Addr).add j) = ⟨g, j, none⟩ := by
      simp [Addr.add]
      try exact fun h => h.symm
    rw [e, hc, cellsU, List.getElem?_map, List.getElem?_eq_getElem hj]
    simp)
  rw [hl] at h2
  exact h2

set_option maxHeartbeats 1000000 in
set_option maxRecDepth 100000 in
theorem text_of (t : F) (hw : wf 3 t) (hl : (text t).length ≤ 8000000) (w : World) :
    Calls Tryz.prog 27 #[tree t] w fun e w' => e = .returned (.string (str (text t))) ∧ Below w.heap.size w w' := by
  have hA := app_to t hw
  have hp := text_pos t
  have hO0 := Lib.hid (Own.none w 5 1)
  rcases hA with ⟨V, ev, hv⟩ | ⟨V, ev, hv⟩
  all_goals
    rw [ev]
    have HC := Lib.hid (hv w w (.slice none 0 0) 0 [] hO0.out (by omega))
    clear ev hv
    go_enter Tryz.func27, Tryz.ntmps27
    go_wp2_with fail
    refine HC.out.mono ?_
    rintro e w1 ⟨v', rfl, hO, _⟩
    rw [Nat.zero_add, List.nil_append] at hO
    obtain ⟨p, c, rfl⟩ := hO.slice
    have hcv := conv_text hO rfl hp
    have HB := Lib.hid hO.below
    obtain ⟨q, hq⟩ : ∃ q, str (text t) = q := ⟨_, rfl⟩
    rw [hq] at hcv
    have HQ := Lib.hid hq
    clear hq
    generalize (text t).length = n at *
    clear hO
    go_wp2_with fail
    go_returns
    exact ⟨by rw [HQ.out]; rfl, HB.out⟩
end Go.Proofs.YtbccachkkflceaaGreatDoor.FmText

/-
  A row of bytes in memory, told byte by byte: what is read, written and turned into a string.
-/
namespace Go.Proofs.YtbccachkkflceaaGreatDoor.FmRow
open Go.RowKit Go.Proofs.YtbccachkkflceaaGreatDoor.Plain Go.Proofs.YtbccachkkflceaaGreatDoor.Fm
set_option linter.unusedVariables false

def upd (g : Nat → UInt8) (i : Nat) (u : UInt8) : Nat → UInt8 := fun j => if j = i then u else g j
/-- the block B begins with n bytes, told by g, and none of them is shared by a string -/
def Rw (w : World) (B n : Nat) (g : Nat → UInt8) : Prop :=
  ∃ cs T lo hi, w.heap[B]? = some (.cells cs T (lo, hi)) ∧ (n ≤ lo ∨ hi = 0) ∧ ∀ j, j < n → cs[j]? = some (.int .u8 ((g j).toNat : Int))
theorem Rw.lt {w : World} {B n : Nat} {g : Nat → UInt8} (h : Rw w B n g) : B < w.heap.size := by
  obtain ⟨cs, T, lo, hi, h1, _⟩ := h
  exact (Array.getElem?_eq_some_iff.1 h1).1
theorem Rw.cell {w : World} {B n : Nat} {g : Nat → UInt8} (h : Rw w B n g) (j : Nat) (hj : j < n) : w.cell? ⟨B, j, none⟩ = some (.int .u8 ((g j).toNat : Int)) := by
  obtain ⟨cs, T, lo, hi, h1, _, h3⟩ := h
  rw [cell_of_row w B j cs T (lo, hi) h1]
  exact h3 j hj
theorem Rw.free {w : World} {B n : Nat} {g : Nat → UInt8} (h : Rw w B n g) (j : Nat) (hj : j < n) : w.frozen? ⟨B, j, none⟩ = false := by
  obtain ⟨cs, T, lo, hi, h1, h2, h3⟩ := h
  simp only [World.frozen?, h1]
  rcases h2 with h2 | rfl
  · simp; omega
  · simp
theorem Rw.set {w : World} {B n : Nat} {g : Nat → UInt8} (h : Rw w B n g) (i : Nat) (hi : i < n) (u : UInt8) : Rw (w.setCell ⟨B, i, none⟩ (.int .u8 (u.toNat : Int))) B n (upd g i u) := by
  obtain ⟨cs, T, lo, hh, h1, h2, h3⟩ := h
  refine ⟨cs.setIfInBounds i (.int .u8 (u.toNat : Int)), T, lo, hh, by simp [World.setCell, Array.getElem?_modify, h1], h2, fun j hj => ?_⟩
  have hsz : i < cs.size := (Array.getElem?_eq_some_iff.1 (h3 i hi)).1
  rw [Array.getElem?_setIfInBounds]
  unfold upd
  by_cases e : i = j
  · subst e; rw [if_pos rfl, if_pos hsz, if_pos rfl]
  · rw [if_neg e, if_neg (Ne.symm e)]; exact h3 j hj
theorem Rw.later {w w' : World} {B n : Nat} {g : Nat → UInt8} (h : Rw w B n g) (hb : Below w.heap.size w w') : Rw w' B n g := by
  obtain ⟨cs, T, lo, hi, h1, h2⟩ := h
  exact ⟨cs, T, lo, hi, (hb.block _ (Array.getElem?_eq_some_iff.1 h1).1).trans h1, h2⟩
theorem Rw.same {w : World} {B n : Nat} {g g' : Nat → UInt8} (h : Rw w B n g) (e : ∀ j, j < n → g j = g' j) : Rw w B n g' := by
  obtain ⟨cs, T, lo, hi, h1, h2, h3⟩ := h
  exact ⟨cs, T, lo, hi, h1, h2, fun j hj => by rw [h3 j hj, e j hj]⟩
/-- the row as a string -/
theorem Rw.conv {w : World} {B n cap : Nat} {g : Nat → UInt8} (h : Rw w B n g) :
    (convert 22 9 (.slice (some ⟨B, 0, none⟩) n cap)).run Tryz.prog w = .ok (.string (str ((List.range n).map g))) w := by
  have h2 := run_convert_bytes_back (P := Tryz.prog) w 22 9 5 ⟨B, 0, none⟩ cap ((List.range n).map g) Tryz.underlying22 Tryz.underlying5 Tryz.underlying9 (fun j hj => by
    have hj' : j < n := by simpa using hj
    have e : ((⟨B, 0, none⟩ : Addr).add j) = ⟨B, j, none⟩ := by
      simp [Addr.add]
      try exact fun h => h.symm
    rw [e, h.cell j hj']
    simp)
  rw [show ((List.range n).map g).length = n by simp] at h2
  exact h2
/-- a new row of zeros -/
theorem Rw.zeros (w : World) (cs : Array Value) (T : TypeId) (n : Nat) (h : ∀ j, j < n → cs[j]? = some (.int .u8 0)) : Rw (w.alloc (.cells cs T)) w.heap.size n (fun _ => 0) :=
  ⟨cs, T, 0, 0, heap_alloc_new w _, .inr rfl, h⟩
/-- the bytes of a string as a new row -/
theorem Rw.bytes (w : World) (s : ByteArray) (cap : Nat) (T : TypeId) (hc : s.size ≤ cap) : Rw (w.drew.alloc (.cells (bytesRow s cap) T ((bytesRow s cap).size, (bytesRow s cap).size + 1))) w.heap.size s.size (fun j => s.data.toList.getD j 0) := by
  refine ⟨bytesRow s cap, T, _, _, heap_alloc_new w.drew _, .inl ?_, fun j hj => ?_⟩
  · have hz : s.data.size = s.size := rfl
    simp [bytesRow]
  · have hz : s.data.size = s.size := rfl
    rw [bytesRow_at s cap j (by omega)]
    congr 3
    have hj' : j < s.data.toList.length := by simpa using hj
    simp only [List.getD_eq_getElem?_getD, List.getElem?_eq_getElem hj']
    simp
end Go.Proofs.YtbccachkkflceaaGreatDoor.FmRow

