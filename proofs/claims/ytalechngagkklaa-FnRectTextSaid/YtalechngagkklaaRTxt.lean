/-
  A rectangle's text, parsed again.
-/
import Derived.Test.YtalechngagkklaaParseRectWalk
namespace Go.Proofs.Ytalechngagkklaa.RTxt
open Go.RowKit Go.Proofs.Ytalechngagkklaa.Plain Go.Proofs.Ytalechngagkklaa.Base Go.Proofs.Ytalechngagkklaa.Pat Go.Proofs.Ytalechngagkklaa.Rect Go.Proofs.Ytalechngagkklaa.Each Go.Proofs.Ytalechngagkklaa.Patch Go.Proofs.Ytalechngagkklaa.Format Go.Proofs.Ytalechngagkklaa.Parse Go.Proofs.Ytalechngagkklaa.PRect Go.Proofs.Ytalechngagkklaa.fnExactParseRect
set_option linter.unusedVariables false

theorem dset_digs (S : Nat) (h : S < 256) : dset (digs (upto S 8)) = S := by
  have h2 : ∀ k : Fin 256, dset (digs (upto k.val 8)) = k.val := by decide +kernel
  exact h2 ⟨S, h⟩
theorem digs_no (S : Nat) (h : S < 256) : (58 : UInt8) ∉ digs (upto S 8) := by
  have h2 : ∀ k : Fin 256, (58 : UInt8) ∉ digs (upto k.val 8) := by decide +kernel
  exact h2 ⟨S, h⟩
theorem idx_app : ∀ (l m : List UInt8) (c : UInt8), c ∉ l → Lib.indexByte (l ++ c :: m) c = (l.length : Int)
  | [], m, c, _ => idx_first ([] ++ c :: m) c 0 (by simp) (fun j _ hj => absurd hj (by omega)) rfl
  | b :: l, m, c, h => by
    refine idx_first _ c (b :: l).length (by simp) (fun j hj hl => ?_) (by simp)
    rw [List.getElem_append_left hl]
    exact fun e => h (e ▸ List.getElem_mem _)
theorem rtext_list (R C : Nat) : (rtext R C).data.toList = digs (upto R 8) ++ 58 :: digs (upto C 8) := by
  unfold rtext str
  simp
theorem rtext_size (R C : Nat) : (rtext R C).size ≤ 17 := by
  have h1 := upto_len R 8
  have h2 := upto_len C 8
  have e : (rtext R C).size = (rtext R C).data.toList.length := by simp
  rw [e, rtext_list]
  simp [digs_len]
  omega
theorem rtext_ne (R C : Nat) : 1 ≤ (rtext R C).size := by
  have e : (rtext R C).size = (rtext R C).data.toList.length := by simp
  rw [e, rtext_list]
  simp
  omega

/-- both find one rectangle, and it is that of the text -/
theorem told (s : ByteArray) (hs : s.size ≤ 1048576) : ∃ (x y : Int) (t : Bool),
    (∀ w, Calls Try.prog 10 #[.string s] w fun e w' => e = .returned (.tuple #[rect x y, .bool t]) ∧ Below w.heap.size w w') ∧
    (∀ w, MaxAt w → Calls Try.prog 7 #[.string s] w fun e w' => e = .returned (.tuple #[rect x y, .bool t]) ∧ Below w.heap.size w w') ∧
    (t = true → ∃ R C : Nat, x = R ∧ y = C ∧ 1 ≤ R ∧ R < 256 ∧ 1 ≤ C ∧ C < 256 ∧ rtext R C = s) ∧
    (∀ R C : Nat, 1 ≤ R → R < 256 → 1 ≤ C → C < 256 → s = rtext R C → t = true ∧ x = R ∧ y = C) := by
  have hm : s.size ≤ maxLen := by unfold maxLen; omega
  have hlen : s.data.toList.length = s.size := by simp
  have hge := Lib.indexByte_ge s.data.toList 58
  have hlt := idx_lt s.data.toList 58
  rw [hlen] at hlt
  have hcut : ∀ w, MaxAt w → ∀ W, Below w.heap.size w W → Calls Try.prog 17 #[.string s, .string ⟨#[58]⟩] W fun e w' => e = .returned (.tuple #[.string ⟨(Lib.cut s.data.toList [58]).1.toArray⟩, .string ⟨(Lib.cut s.data.toList [58]).2.1.toArray⟩, .bool (Lib.cut s.data.toList [58]).2.2]) ∧ Below W.heap.size W w' :=
    fun w hw W hb => cut_any s hs W (hw.on hb)
  unfold Lib.cut at hcut
  rw [idx_index] at hcut
  have htxt : ∀ R C : Nat, R < 256 → s = rtext R C → Lib.indexByte s.data.toList 58 = ((digs (upto R 8)).length : Int) ∧ s.data.toList = digs (upto R 8) ++ 58 :: digs (upto C 8) := by
    intro R C hR e
    have e2 : s.data.toList = digs (upto R 8) ++ 58 :: digs (upto C 8) := by rw [e, rtext_list]
    exact ⟨by rw [e2]; exact idx_app _ _ _ (digs_no R hR), e2⟩
  by_cases hneg : Lib.indexByte s.data.toList 58 < 0
  · refine ⟨0, 0, false, fun w => spec_no s hm _ rfl hneg w, fun w hw => ?_, (fun h => by cases h), fun R C _ hR _ _ e => ?_⟩
    · have h := hcut w hw
      rw [if_neg (by omega)] at h
      have hno : someB ((dset s.data.toList : Nat) : Int) ((0 : Nat) : Int) = false := by
        unfold someB
        rw [decide_eq_false (show ¬ (1 ≤ ((0 : Nat) : Int) ∧ ((0 : Nat) : Int) ≤ 255) by omega), Bool.and_false]
      have := impl_any s ⟨s.data.toList.toArray⟩ ⟨#[]⟩ false (dset s.data.toList) 0 (by rw [toList_str2]) rfl w h ⟨#[]⟩ (fun e => by rw [hno] at e; cases e) false (by rw [hno]; rfl)
      exact this
    · have := (htxt R C hR e).1
      omega
  · obtain ⟨k, hk⟩ : ∃ k : Nat, Lib.indexByte s.data.toList 58 = (k : Int) := ⟨(Lib.indexByte s.data.toList 58).toNat, by omega⟩
    rw [hk] at hlt
    have hks : k < s.size := by omega
    have eA : (s.extract 0 k).data.toList = s.data.toList.take k := by
      simp [ByteArray.data_extract, List.extract_eq_take_drop]
    have eB : (s.extract (k + 1) s.size).data.toList = s.data.toList.drop (k + 1) := by
      have h2 : s.data.toList.drop (k + 1) = (s.data.toList.drop (k + 1)).take (s.size - (k + 1)) := by rw [List.take_of_length_le]; simp
      rw [h2]
      simp [ByteArray.data_extract, List.extract_eq_take_drop]
    obtain ⟨RS, hRS⟩ : ∃ RS, dset (s.data.toList.take k) = RS := ⟨_, rfl⟩
    obtain ⟨CS, hCS⟩ : ∃ CS, dset (s.data.toList.drop (k + 1)) = CS := ⟨_, rfl⟩
    have htold : ∀ R C : Nat, R < 256 → C < 256 → s = rtext R C → RS = R ∧ CS = C := by
      intro R C hR hC e
      obtain ⟨e1, e2⟩ := htxt R C hR e
      have e3 : k = (digs (upto R 8)).length := by omega
      constructor
      · rw [← hRS, e2, e3, List.take_left', dset_digs R hR]
        rfl
      · rw [← hCS, e2, e3]
        have : (digs (upto R 8) ++ 58 :: digs (upto C 8)).drop ((digs (upto R 8)).length + 1) = digs (upto C 8) := by
          rw [List.drop_append]
          simp
        rw [this, dset_digs C hC]
    have hR8 : RS < 256 := by rw [← hRS]; exact dset_lt _
    have hC8 : CS < 256 := by rw [← hCS]; exact dset_lt _
    have hA8 : (s.extract 0 k).size ≤ maxLen := by unfold maxLen; simp [ByteArray.size_extract]; omega
    have hB8 : (s.extract (k + 1) s.size).size ≤ maxLen := by unfold maxLen; simp [ByteArray.size_extract]; omega
    have himp : ∀ w, MaxAt w → ∀ W, Below w.heap.size w W → Calls Try.prog 17 #[.string s, .string ⟨#[58]⟩] W fun e w' => e = .returned (.tuple #[.string ⟨(s.data.toList.take k).toArray⟩, .string ⟨(s.data.toList.drop (k + 1)).toArray⟩, .bool true]) ∧ Below W.heap.size W w' := by
      intro w hw
      have h := hcut w hw
      rw [hk, if_pos (by omega)] at h
      exact h
    by_cases hsome : someB (RS : Int) (CS : Int) = true
    · have hb := (someB_iff _ _).1 hsome
      have hf := fun W => spec_fmt RS CS (by omega) hR8 (by omega) hC8 W
      have hi := fun W => impl_fmt RS CS (by omega) hR8 (by omega) hC8 W
      obtain ⟨t, ht⟩ : ∃ t, ((rtext RS CS).toList == s.toList) = t := ⟨_, rfl⟩
      have hback : t = true → rtext RS CS = s := by
        intro h
        rw [h, beq_iff_eq, ByteArray.toList_eq, ByteArray.toList_eq] at ht
        exact ByteArray.ext (Array.toList_inj.1 ht)
      refine ⟨if t then RS else 0, if t then CS else 0, t, fun w => ?_, fun w hw => ?_, fun h => ?_, fun R C r1 r2 c1 c2 e => ?_⟩
      · have h := spec_yes s hm k hk hks _ _ rfl rfl RS CS hA8 hB8 (by rw [eA]; exact hRS) (by rw [eB]; exact hCS) _ hf t ht w
        cases t
        · exact h
        · exact h
      · have h := impl_any s _ _ true RS CS (by rw [toList_str2]; exact hRS) (by rw [toList_str2]; exact hCS) w (himp w hw) _ (fun _ => hi) t (by rw [hsome, Bool.true_and]; exact ht)
        cases t
        · exact h
        · exact h
      · subst h
        exact ⟨RS, CS, rfl, rfl, by omega, hR8, by omega, hC8, hback rfl⟩
      · obtain ⟨rfl, rfl⟩ := htold R C r2 c2 e
        have h1 : t = true := by rw [← ht, e]; exact beq_self_eq_true _
        subst h1
        exact ⟨rfl, rfl, rfl⟩
    · rw [Bool.not_eq_true] at hsome
      have hf := fun W => spec_fmt_no RS CS hsome W
      refine ⟨0, 0, false, fun w => ?_, fun w hw => ?_, (fun h => by cases h), fun R C r1 r2 c1 c2 e => ?_⟩
      · have hne : ((⟨#[]⟩ : ByteArray).toList == s.toList) = false := by
          apply beq_false_of_ne
          intro e
          have h2 : s.toList.length = s.size := by rw [ByteArray.toList_eq]; simp
          rw [← e] at h2
          have h3 : (⟨#[]⟩ : ByteArray).toList.length = 0 := by rw [ByteArray.toList_eq]; rfl
          omega
        exact spec_yes s hm k hk hks _ _ rfl rfl RS CS hA8 hB8 (by rw [eA]; exact hRS) (by rw [eB]; exact hCS) _ hf false hne w
      · exact impl_any s _ _ true RS CS (by rw [toList_str2]; exact hRS) (by rw [toList_str2]; exact hCS) w (himp w hw) ⟨#[]⟩ (fun e => by rw [hsome] at e; cases e) false (by rw [hsome]; rfl)
      · obtain ⟨rfl, rfl⟩ := htold R C r2 c2 e
        rw [(someB_iff _ _).2 (by omega)] at hsome
        cases hsome
end Go.Proofs.Ytalechngagkklaa.RTxt
