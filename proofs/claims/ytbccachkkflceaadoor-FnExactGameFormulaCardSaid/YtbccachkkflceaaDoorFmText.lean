/-
  The text of the program's formula.
-/
import Derived.Test.YtbccachkkflceaaDoorFmApp
import Derived.Laws.IdiomStrings
namespace Go.Proofs.YtbccachkkflceaaDoor.FmText
open Go.RowKit Go.Shelf Go.Proofs.YtbccachkkflceaaDoor.Plain Go.Proofs.YtbccachkkflceaaDoor.Fm Go.Proofs.YtbccachkkflceaaDoor.FmRead Go.Proofs.YtbccachkkflceaaDoor.App Go.Proofs.YtbccachkkflceaaDoor.FmApp
set_option linter.unusedVariables false
set_option linter.unusedSimpArgs false

theorem conv_text {w0 w : World} {p : Option Addr} {n c : Nat} {l : List UInt8} (h : Own w0 w 5 1 (.slice p n c) n (cellsU l)) (hl : l.length = n) (hn : 0 < n) :
    (convert 73 9 (.slice p n c)).run Tryd.prog w = .ok (.string (str l)) w := by
  obtain ⟨g, rfl, hg1, hg2, hc0⟩ := h.cell 0 (by omega)
  have h2 := run_convert_bytes_back (P := Tryd.prog) w 73 9 5 ⟨g, 0, none⟩ c l Tryd.underlying73 Tryd.underlying5 Tryd.underlying9 (fun j hj => by
    obtain ⟨g', hg', _, _, hc⟩ := h.cell j (by omega)
    simp only [Option.some.injEq, Addr.mk.injEq, and_true] at hg'
    subst hg'
    have e : ((⟨g, 0, none⟩ : Addr).add j) = ⟨g, j, none⟩ := by
      simp [Addr.add]
      try exact fun h => h.symm
    rw [e, hc, cellsU, List.getElem?_map, List.getElem?_eq_getElem hj]
    simp)
  rw [hl] at h2
  exact h2

set_option maxHeartbeats 1000000 in
set_option maxRecDepth 100000 in
theorem text_of (t : F) (hw : wf 3 t) (hl : (text t).length ≤ 8000000) (w : World) :
    Calls Tryd.prog 29 #[tree t] w fun e w' => e = .returned (.string (str (text t))) ∧ Below w.heap.size w w' := by
  have hA := app_to t hw
  have hp := text_pos t
  have hO0 := Lib.hid (Own.none w 5 1)
  rcases hA with ⟨V, ev, hv⟩ | ⟨V, ev, hv⟩
  all_goals
    rw [ev]
    have HC := Lib.hid (hv w w (.slice none 0 0) 0 [] hO0.out (by omega))
    clear ev hv
    go_enter Tryd.func29, Tryd.ntmps29
    go_wp2_with fail
    refine HC.out.mono ?_
    rintro e w1 ⟨v', rfl, hO, _⟩
    rw [Nat.zero_add, List.nil_append] at hO
    obtain ⟨p, c, rfl⟩ := hO.slice
    have hcv := conv_text hO rfl hp
    have HB := Lib.hid hO.below
    obtain ⟨q, hq⟩ : ∃ q, str (text t) = q := ⟨_, rfl⟩
    rw [hq] at hcv
    have HQ := Lib.hid hq
    clear hq
    generalize (text t).length = n at *
    clear hO
    go_wp2_with fail
    go_returns
    exact ⟨by rw [HQ.out]; rfl, HB.out⟩
end Go.Proofs.YtbccachkkflceaaDoor.FmText
