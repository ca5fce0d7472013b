/-
  The walk of the law on ParseRect.
-/
import Derived.Test.YtalechngagkklaaPRect
import Derived.Shelf.Vars
namespace Go.Proofs.Ytalechngagkklaa.fnExactParseRect
open Go.RowKit Go.Proofs.Ytalechngagkklaa.Plain Go.Proofs.Ytalechngagkklaa.Pat Go.Proofs.Ytalechngagkklaa.Rect Go.Proofs.Ytalechngagkklaa.Base Go.Proofs.Ytalechngagkklaa.Where Go.Proofs.Ytalechngagkklaa.Format Go.Proofs.Ytalechngagkklaa.Parse Go.Proofs.Ytalechngagkklaa.PRect
set_option linter.unusedVariables false

/-- the library's variable of lengths holds some number -/
def MaxAt (w : World) : Prop := 0 < w.heap.size ∧ ∃ m, w.cell? ⟨0, 0, none⟩ = some (.int .i64 m)
theorem MaxAt.on {w w1 : World} (h : MaxAt w) (hb : Below w.heap.size w w1) : MaxAt w1 := by
  obtain ⟨hl, m, hm⟩ := h
  exact ⟨Nat.lt_of_lt_of_le hl hb.size, m, (hb.cell (p := ⟨0, 0, none⟩) hl).trans hm⟩
theorem max_at {W : World} (h : W.ShapedOpen Try.prog) : MaxAt W := by
  obtain ⟨m, hm⟩ := cell_of_shapedOpen_int (g := 0) (t := 3) (zero := #[.int .i64 0]) (k := .i64) h (by decide +kernel) (by kernel_rfl) rfl (by kernel_rfl) (by kernel_rfl) Try.underlying3
  exact ⟨World.block_lt_of_cell? W _ hm, m, hm⟩

theorem drewN_below (w : World) (n : Nat) : Below w.heap.size w (w.drewN n) :=
  let h := Below.refl w.heap.size w
  ⟨h.os, h.tape, h.output, h.size, h.block⟩
theorem cut_any (s : ByteArray) (hs : s.size ≤ 1048576) (W : World) (hm : MaxAt W) :
    Calls Try.prog 17 #[.string s, .string ⟨#[58]⟩] W fun e w' => e = .returned (.tuple #[.string ⟨(Lib.cut s.data.toList [58]).1.toArray⟩, .string ⟨(Lib.cut s.data.toList [58]).2.1.toArray⟩, .bool (Lib.cut s.data.toList [58]).2.2]) ∧ Below W.heap.size W w' := by
  obtain ⟨_, m, hm⟩ := hm
  refine (Any.strings_Cut Try.lays145 s ⟨#[58]⟩ m W (by omega) hm).mono ?_
  rintro e w' ⟨rfl, n, rfl⟩
  exact ⟨rfl, drewN_below W n⟩

theorem toList_str2 (l : List UInt8) : (⟨l.toArray⟩ : ByteArray).data.toList = l := by simp
/-- both find one rectangle -/
theorem both (s : ByteArray) (hs : s.size ≤ 1048576) : ∃ (x y : Int) (t : Bool),
    (∀ w, Calls Try.prog 10 #[.string s] w fun e w' => e = .returned (.tuple #[rect x y, .bool t]) ∧ Below w.heap.size w w') ∧
    (∀ w, MaxAt w → Calls Try.prog 7 #[.string s] w fun e w' => e = .returned (.tuple #[rect x y, .bool t]) ∧ Below w.heap.size w w') := by
  have hm : s.size ≤ maxLen := by unfold maxLen; omega
  have hlen : s.data.toList.length = s.size := by simp
  have hge := Lib.indexByte_ge s.data.toList 58
  have hlt := idx_lt s.data.toList 58
  rw [hlen] at hlt
  have hcut : ∀ w, MaxAt w → ∀ W, Below w.heap.size w W → Calls Try.prog 17 #[.string s, .string ⟨#[58]⟩] W fun e w' => e = .returned (.tuple #[.string ⟨(Lib.cut s.data.toList [58]).1.toArray⟩, .string ⟨(Lib.cut s.data.toList [58]).2.1.toArray⟩, .bool (Lib.cut s.data.toList [58]).2.2]) ∧ Below W.heap.size W w' :=
    fun w hw W hb => cut_any s hs W (hw.on hb)
  unfold Lib.cut at hcut
  rw [idx_index] at hcut
  by_cases hneg : Lib.indexByte s.data.toList 58 < 0
  · refine ⟨0, 0, false, fun w => spec_no s hm _ rfl hneg w, fun w hw => ?_⟩
    have h := hcut w hw
    rw [if_neg (by omega)] at h
    have hno : someB ((dset s.data.toList : Nat) : Int) ((0 : Nat) : Int) = false := by
      unfold someB
      rw [decide_eq_false (show ¬ (1 ≤ ((0 : Nat) : Int) ∧ ((0 : Nat) : Int) ≤ 255) by omega), Bool.and_false]
    have := impl_any s ⟨s.data.toList.toArray⟩ ⟨#[]⟩ false (dset s.data.toList) 0 (by rw [toList_str2]) rfl w h ⟨#[]⟩ (fun e => by rw [hno] at e; cases e) false (by rw [hno]; rfl)
    exact this
  · obtain ⟨k, hk⟩ : ∃ k : Nat, Lib.indexByte s.data.toList 58 = (k : Int) := ⟨(Lib.indexByte s.data.toList 58).toNat, by omega⟩
    rw [hk] at hlt
    have hks : k < s.size := by omega
    have eA : (s.extract 0 k).data.toList = s.data.toList.take k := by
      simp [ByteArray.data_extract, List.extract_eq_take_drop]
    have eB : (s.extract (k + 1) s.size).data.toList = s.data.toList.drop (k + 1) := by
      have h2 : s.data.toList.drop (k + 1) = (s.data.toList.drop (k + 1)).take (s.size - (k + 1)) := by rw [List.take_of_length_le]; simp
      rw [h2]
      simp [ByteArray.data_extract, List.extract_eq_take_drop]
    obtain ⟨RS, hRS⟩ : ∃ RS, dset (s.data.toList.take k) = RS := ⟨_, rfl⟩
    obtain ⟨CS, hCS⟩ : ∃ CS, dset (s.data.toList.drop (k + 1)) = CS := ⟨_, rfl⟩
    have hR8 : RS < 256 := by rw [← hRS]; exact dset_lt _
    have hC8 : CS < 256 := by rw [← hCS]; exact dset_lt _
    have hA8 : (s.extract 0 k).size ≤ maxLen := by unfold maxLen; simp [ByteArray.size_extract]; omega
    have hB8 : (s.extract (k + 1) s.size).size ≤ maxLen := by unfold maxLen; simp [ByteArray.size_extract]; omega
    have himp : ∀ w, MaxAt w → ∀ W, Below w.heap.size w W → Calls Try.prog 17 #[.string s, .string ⟨#[58]⟩] W fun e w' => e = .returned (.tuple #[.string ⟨(s.data.toList.take k).toArray⟩, .string ⟨(s.data.toList.drop (k + 1)).toArray⟩, .bool true]) ∧ Below W.heap.size W w' := by
      intro w hw
      have h := hcut w hw
      rw [hk, if_pos (by omega)] at h
      exact h
    by_cases hsome : someB (RS : Int) (CS : Int) = true
    · have hb := (someB_iff _ _).1 hsome
      have hf := fun W => spec_fmt RS CS (by omega) hR8 (by omega) hC8 W
      have hi := fun W => impl_fmt RS CS (by omega) hR8 (by omega) hC8 W
      obtain ⟨t, ht⟩ : ∃ t, ((rtext RS CS).toList == s.toList) = t := ⟨_, rfl⟩
      refine ⟨if t then RS else 0, if t then CS else 0, t, fun w => ?_, fun w hw => ?_⟩
      · have h := spec_yes s hm k hk hks _ _ rfl rfl RS CS hA8 hB8 (by rw [eA]; exact hRS) (by rw [eB]; exact hCS) _ hf t ht w
        cases t
        · exact h
        · exact h
      · have h := impl_any s _ _ true RS CS (by rw [toList_str2]; exact hRS) (by rw [toList_str2]; exact hCS) w (himp w hw) _ (fun _ => hi) t (by rw [hsome, Bool.true_and]; exact ht)
        cases t
        · exact h
        · exact h
    · rw [Bool.not_eq_true] at hsome
      have hf := fun W => spec_fmt_no RS CS hsome W
      refine ⟨0, 0, false, fun w => ?_, fun w hw => ?_⟩
      · have hne : ((⟨#[]⟩ : ByteArray).toList == s.toList) = false := by
          apply beq_false_of_ne
          intro e
          have h2 : s.toList.length = s.size := by rw [ByteArray.toList_eq]; simp
          rw [← e] at h2
          have h3 : (⟨#[]⟩ : ByteArray).toList.length = 0 := by rw [ByteArray.toList_eq]; rfl
          omega
        exact spec_yes s hm k hk hks _ _ rfl rfl RS CS hA8 hB8 (by rw [eA]; exact hRS) (by rw [eB]; exact hCS) _ hf false hne w
      · exact impl_any s _ _ true RS CS (by rw [toList_str2]; exact hRS) (by rw [toList_str2]; exact hCS) w (himp w hw) ⟨#[]⟩ (fun e => by rw [hsome] at e; cases e) false (by rw [hsome]; rfl)

end Go.Proofs.Ytalechngagkklaa.fnExactParseRect
