/-
  The walk of the law on ParseMatrix.
-/
import Derived.Test.YtalechngagkklaaDoorPMatI
namespace Go.Proofs.YtalechngagkklaaDoor.fnExactParseMatrix
open Go.RowKit Go.Proofs.YtalechngagkklaaDoor.Plain Go.Proofs.YtalechngagkklaaDoor.Base Go.Proofs.YtalechngagkklaaDoor.Valid Go.Proofs.YtalechngagkklaaDoor.Law Go.Proofs.YtalechngagkklaaDoor.Entry Go.Proofs.YtalechngagkklaaDoor.Fmt Go.Proofs.YtalechngagkklaaDoor.App Go.Proofs.YtalechngagkklaaDoor.Cut Go.Proofs.YtalechngagkklaaDoor.Rect Go.Proofs.YtalechngagkklaaDoor.PMat Go.Proofs.YtalechngagkklaaDoor.PMatI
set_option linter.unusedVariables false

/-- both have one text of a valid matrix -/
theorem text_of (r c : Int) (s : ByteArray) (hs : s.size ≤ maxLen) (hv : validB r c s = true) : ∃ f : ByteArray,
    (∀ W : World, Calls Tryd.prog 29 #[mat r c s] W fun e w' => e = .returned (.string f) ∧ Below W.heap.size W w') ∧
    (∀ W : World, Calls Tryd.prog 28 #[mat r c s] W fun e w' => e = .returned (.string f) ∧ Below W.heap.size W w') := by
  obtain ⟨R, C, E, rfl, rfl, h1, h2, h3, h4, rfl⟩ := valid_form hv
  exact ⟨_, fun W => fmt_spec E R C h1 h2 h3 h4 hs hv W, fun W => fmt_impl E R C h1 h2 h3 h4 hs hv W⟩

/-- both find one matrix -/
theorem both (s : ByteArray) (hs : s.size ≤ 1048576) : ∃ (r c : Int) (u : ByteArray) (t : Bool),
    (∀ w, Calls Tryd.prog 33 #[.string s] w fun e w' => e = .returned (.tuple #[mat r c u, .bool t]) ∧ Below w.heap.size w w') ∧
    (∀ w, MaxAt w → Calls Tryd.prog 31 #[.string s] w fun e w' => e = .returned (.tuple #[mat r c u, .bool t]) ∧ Below w.heap.size w w') := by
  have hne := cutL_ne s.data.toList
  have hflat := flat_len s.data.toList
  have hlen : s.data.toList.length = s.size := by simp
  obtain ⟨O, hO⟩ : ∃ O, cutL s.data.toList = O := ⟨_, rfl⟩
  rw [hO] at hne hflat
  have hpos : 0 < O.length := List.length_pos_iff.2 hne
  have hx0 : O[0]? = some (str O[0]).data.toList := by
    rw [List.getElem?_eq_getElem hpos]
    simp [str]
  have hbits : (str O.flatten).size ≤ maxLen := by rw [str_size]; unfold maxLen; omega
  obtain ⟨bv, hbv⟩ : ∃ bv, validB O.length (str O[0]).size (str O.flatten) = bv := ⟨_, rfl⟩
  cases bv
  · exact ⟨0, 0, str [], false, fun w => spec_pm s hs O hO _ hx0 false hbv ⟨#[]⟩ (fun h => by cases h) false rfl w, fun w hw => impl_pm s hs O hO _ hx0 false hbv ⟨#[]⟩ (fun h => by cases h) false rfl w hw⟩
  · obtain ⟨f, hsp, him⟩ := text_of _ _ _ hbits hbv
    obtain ⟨t, ht⟩ : ∃ t, (f.toList == s.toList) = t := ⟨_, rfl⟩
    cases t
    · exact ⟨0, 0, str [], false, fun w => spec_pm s hs O hO _ hx0 true hbv f (fun _ => hsp) false (by rw [ht]; rfl) w, fun w hw => impl_pm s hs O hO _ hx0 true hbv f (fun _ => him) false (by rw [ht]; rfl) w hw⟩
    · exact ⟨_, _, _, true, fun w => spec_pm s hs O hO _ hx0 true hbv f (fun _ => hsp) true (by rw [ht]; rfl) w, fun w hw => impl_pm s hs O hO _ hx0 true hbv f (fun _ => him) true (by rw [ht]; rfl) w hw⟩

theorem alloc_on {w1 w2 : World} {o : Obj} (hb : Below (w1.alloc o).heap.size (w1.alloc o) w2) : w2.heap[w1.heap.size]? = some o := (hb.block _ (by simp)).trans (heap_alloc_new w1 o)

end Go.Proofs.YtalechngagkklaaDoor.fnExactParseMatrix
