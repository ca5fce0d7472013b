/-
  A matrix' text, parsed again.
-/
import Derived.Test.YtalechngagkklaaDoorParseMatrixWalk
import Derived.Test.YtalechngagkklaaDoorRd6
namespace Go.Proofs.YtalechngagkklaaDoor.MTxt
open Go.RowKit Go.Proofs.YtalechngagkklaaDoor.Plain Go.Proofs.YtalechngagkklaaDoor.Base Go.Proofs.YtalechngagkklaaDoor.Valid Go.Proofs.YtalechngagkklaaDoor.Entry Go.Proofs.YtalechngagkklaaDoor.Fmt Go.Proofs.YtalechngagkklaaDoor.Cut Go.Proofs.YtalechngagkklaaDoor.PMat Go.Proofs.YtalechngagkklaaDoor.PMatI Go.Proofs.YtalechngagkklaaDoor.fnExactParseMatrix
set_option linter.unusedVariables false

theorem cut_no : ∀ x : List UInt8, (47 : UInt8) ∉ x → cutL x = [x]
  | [], _ => rfl
  | b :: x, h => by
    have hb : b ≠ 47 := fun e => h (by simp [e])
    have := cut_no x (fun hm => h (List.mem_cons_of_mem _ hm))
    rw [cutL, if_neg hb, this]
theorem cut_app (l : List UInt8) : ∀ x : List UInt8, (47 : UInt8) ∉ x → cutL (x ++ 47 :: l) = x :: cutL l
  | [], _ => by rw [List.nil_append, cutL, if_pos rfl]
  | b :: x, h => by
    have hb : b ≠ 47 := fun e => h (by simp [e])
    have := cut_app l x (fun hm => h (List.mem_cons_of_mem _ hm))
    rw [List.cons_append, cutL, if_neg hb, this]
theorem cut_tail : ∀ (l : List (List UInt8)) (x : List UInt8), (47 : UInt8) ∉ x → (∀ y ∈ l, (47 : UInt8) ∉ y) → cutL (x ++ Lib.joinTail [47] l) = x :: l
  | [], x, h, _ => by simpa [Lib.joinTail] using cut_no x h
  | y :: l, x, h, hl => by
    have e : Lib.joinTail [47] (y :: l) = 47 :: (y ++ Lib.joinTail [47] l) := by simp [Lib.joinTail]
    rw [e, cut_app _ x h, cut_tail l y (hl y (by simp)) (fun z hz => hl z (List.mem_cons_of_mem _ hz))]
theorem dig_no (E : Nat → Nat → Bool) (x c : Nat) : (47 : UInt8) ∉ rowB E x c := by
  intro h
  unfold rowB at h
  obtain ⟨y, _, hy⟩ := List.mem_map.1 h
  cases hb : E x y <;> rw [hb] at hy <;> simp [dig] at hy
theorem cut_text (E : Nat → Nat → Bool) (r c : Nat) (hr : 1 ≤ r) : cutL (text E r c) = rowsL E r c := by
  unfold text rowsL
  obtain ⟨k, rfl⟩ : ∃ k, r = k + 1 := ⟨r - 1, by omega⟩
  rw [List.range_succ_eq_map, List.map_cons, Lib.join_cons]
  refine cut_tail _ _ (dig_no E 0 c) fun y hy => ?_
  obtain ⟨z, _, rfl⟩ := List.mem_map.1 hy
  exact dig_no E z c
theorem rowsL_len (E : Nat → Nat → Bool) (r c : Nat) : (rowsL E r c).length = r := by simp [rowsL]
theorem rowsL_zero (E : Nat → Nat → Bool) (r c : Nat) (hr : 1 ≤ r) : (rowsL E r c)[0]? = some (rowB E 0 c) := by
  unfold rowsL
  rw [List.getElem?_map, List.getElem?_range (by omega)]
  rfl
theorem rowsL_flat (E : Nat → Nat → Bool) (r c : Nat) : (rowsL E r c).flatten = rowsB E r c := by
  unfold rowsL rowsB
  rw [List.flatMap_def]
theorem tail_len (c : Nat) : ∀ l : List (List UInt8), (∀ y ∈ l, y.length = c) → (Lib.joinTail [47] l).length = l.length * (c + 1)
  | [], _ => by simp [Lib.joinTail]
  | y :: l, h => by
    have e : Lib.joinTail [47] (y :: l) = 47 :: (y ++ Lib.joinTail [47] l) := by simp [Lib.joinTail]
    rw [e, List.length_cons, List.length_append, tail_len c l (fun z hz => h z (List.mem_cons_of_mem _ hz)), h y (by simp), List.length_cons, Nat.succ_mul]
    omega
theorem text_len (E : Nat → Nat → Bool) (r c : Nat) (hr : 1 ≤ r) (hr8 : r ≤ 8) (hc : 1 ≤ c) (hc8 : c ≤ 8) : 1 ≤ (str (text E r c)).size ∧ (str (text E r c)).size ≤ 80 := by
  rw [str_size]
  unfold text rowsL
  obtain ⟨k, rfl⟩ : ∃ k, r = k + 1 := ⟨r - 1, by omega⟩
  rw [List.range_succ_eq_map, List.map_cons, Lib.join_cons, List.length_append, rowB_length, tail_len c]
  · have h2 : ((List.range k).map Nat.succ).length ≤ 7 := by simp; omega
    rw [List.length_map]
    have := Nat.mul_le_mul h2 (show c + 1 ≤ 9 by omega)
    omega
  · intro y hy
    obtain ⟨z, _, rfl⟩ := List.mem_map.1 hy
    exact rowB_length E z c
theorem valid_rows (E : Nat → Nat → Bool) (R C : Nat) (h1 : 1 ≤ R) (h2 : R ≤ 8) (h3 : 1 ≤ C) (h4 : C ≤ 8) : validB R C (str (rowsB E R C)) = true := (Rd6.sz_rows E R C h1 h2 h3 h4).2

theorem both_at (E : Nat → Nat → Bool) (R C : Nat) (h1 : 1 ≤ R) (h2 : R ≤ 8) (h3 : 1 ≤ C) (h4 : C ≤ 8) :
    (∀ w, Calls Tryd.prog 33 #[.string (str (text E R C))] w fun e w' => e = .returned (.tuple #[mat R C (str (rowsB E R C)), .bool true]) ∧ Below w.heap.size w w') ∧
    (∀ w, MaxAt w → Calls Tryd.prog 31 #[.string (str (text E R C))] w fun e w' => e = .returned (.tuple #[mat R C (str (rowsB E R C)), .bool true]) ∧ Below w.heap.size w w') ∧
    (∀ w, Calls Tryd.prog 28 #[mat R C (str (rowsB E R C))] w fun e w' => e = .returned (.string (str (text E R C))) ∧ Below w.heap.size w w') := by
  have hs : (str (text E R C)).size ≤ 1048576 := by have := (text_len E R C h1 h2 h3 h4).2; omega
  have hv := valid_rows E R C h1 h2 h3 h4
  have hm : (str (rowsB E R C)).size ≤ maxLen := by have := (Rd6.sz_rows E R C h1 h2 h3 h4).1; unfold maxLen; omega
  have hO : cutL (str (text E R C)).data.toList = rowsL E R C := by rw [← cut_text E R C h1]; simp [str]
  have hx0 : (rowsL E R C)[0]? = some (str (rowB E 0 C)).data.toList := by rw [rowsL_zero E R C h1]; simp [str]
  have hsp := fun W => fmt_spec E R C h1 h2 h3 h4 hm hv W
  have him := fun W => fmt_impl E R C h1 h2 h3 h4 hm hv W
  have e1 := rowsL_len E R C
  have e2 : (str (rowB E 0 C)).size = C := by rw [str_size, rowB_length]
  have e3 := rowsL_flat E R C
  have hbv : validB (rowsL E R C).length (str (rowB E 0 C)).size (str (rowsL E R C).flatten) = true := by rw [e1, e2, e3]; exact hv
  have A := fun w => spec_pm (str (text E R C)) hs _ hO _ hx0 true hbv (str (text E R C)) (fun _ W => by rw [e1, e2, e3]; exact hsp W) true (by rw [Bool.true_and]; exact beq_self_eq_true _) w
  have B := fun w hw => impl_pm (str (text E R C)) hs _ hO _ hx0 true hbv (str (text E R C)) (fun _ W => by rw [e1, e2, e3]; exact him W) true (by rw [Bool.true_and]; exact beq_self_eq_true _) w hw
  rw [if_pos rfl, e1, e2, e3] at A B
  exact ⟨A, B, him⟩
theorem told_at (E : Nat → Nat → Bool) (R C : Nat) (h1 : 1 ≤ R) (h2 : R ≤ 8) (h3 : 1 ≤ C) (h4 : C ≤ 8) :
    (∀ w, MaxAt w → Calls Tryd.prog 31 #[.string (str (text E R C))] w fun e w' => e = .returned (.tuple #[mat R C (str (rowsB E R C)), .bool true]) ∧ Below w.heap.size w w') := (both_at E R C h1 h2 h3 h4).2.1

/-- a text is that of a matrix, which both find, or both find none -/
theorem told (s : ByteArray) (hs : s.size ≤ 1048576) :
    (∃ (R C : Nat) (E : Nat → Nat → Bool), (1 ≤ R ∧ R ≤ 8 ∧ 1 ≤ C ∧ C ≤ 8) ∧ s = str (text E R C) ∧
      (∀ w, Calls Tryd.prog 33 #[.string s] w fun e w' => e = .returned (.tuple #[mat R C (str (rowsB E R C)), .bool true]) ∧ Below w.heap.size w w') ∧
      (∀ w, MaxAt w → Calls Tryd.prog 31 #[.string s] w fun e w' => e = .returned (.tuple #[mat R C (str (rowsB E R C)), .bool true]) ∧ Below w.heap.size w w') ∧
      (∀ w, Calls Tryd.prog 28 #[mat R C (str (rowsB E R C))] w fun e w' => e = .returned (.string s) ∧ Below w.heap.size w w')) ∨
    ((∀ w, Calls Tryd.prog 33 #[.string s] w fun e w' => e = .returned (.tuple #[mat 0 0 (str []), .bool false]) ∧ Below w.heap.size w w') ∧
      (∀ w, MaxAt w → Calls Tryd.prog 31 #[.string s] w fun e w' => e = .returned (.tuple #[mat 0 0 (str []), .bool false]) ∧ Below w.heap.size w w') ∧
      ¬ ∃ (R C : Nat) (E : Nat → Nat → Bool), (1 ≤ R ∧ R ≤ 8 ∧ 1 ≤ C ∧ C ≤ 8) ∧ s = str (text E R C)) := by
  by_cases hex : ∃ (R C : Nat) (E : Nat → Nat → Bool), (1 ≤ R ∧ R ≤ 8 ∧ 1 ≤ C ∧ C ≤ 8) ∧ s = str (text E R C)
  · obtain ⟨R, C, E, ⟨h1, h2, h3, h4⟩, rfl⟩ := hex
    obtain ⟨A, B, him⟩ := both_at E R C h1 h2 h3 h4
    exact .inl ⟨R, C, E, ⟨h1, h2, h3, h4⟩, rfl, A, B, him⟩
  · refine .inr ?_
    have hne := cutL_ne s.data.toList
    have hflat := flat_len s.data.toList
    have hlen : s.data.toList.length = s.size := by simp
    obtain ⟨O, hO⟩ : ∃ O, cutL s.data.toList = O := ⟨_, rfl⟩
    rw [hO] at hne hflat
    have hpos : 0 < O.length := List.length_pos_iff.2 hne
    have hx0 : O[0]? = some (str O[0]).data.toList := by
      rw [List.getElem?_eq_getElem hpos]
      simp [str]
    have hbits : (str O.flatten).size ≤ maxLen := by rw [str_size]; unfold maxLen; omega
    obtain ⟨bv, hbv⟩ : ∃ bv, validB O.length (str O[0]).size (str O.flatten) = bv := ⟨_, rfl⟩
    cases bv
    · exact ⟨fun w => spec_pm s hs O hO _ hx0 false hbv ⟨#[]⟩ (fun h => by cases h) false rfl w, fun w hw => impl_pm s hs O hO _ hx0 false hbv ⟨#[]⟩ (fun h => by cases h) false rfl w hw, hex⟩
    · obtain ⟨R, C, E, r1, r2, h1, h2, h3, h4, r3⟩ := valid_form hbv
      rw [r3] at hbits
      have hv := hbv
      rw [r1, r2, r3] at hv
      have hsp := fun W => fmt_spec E R C h1 h2 h3 h4 hbits hv W
      have him := fun W => fmt_impl E R C h1 h2 h3 h4 hbits hv W
      have ht : ((str (text E R C)).toList == s.toList) = false := by
        apply beq_false_of_ne
        intro e
        rw [ByteArray.toList_eq, ByteArray.toList_eq] at e
        exact hex ⟨R, C, E, ⟨h1, h2, h3, h4⟩, (ByteArray.ext (Array.toList_inj.1 e)).symm⟩
      exact ⟨fun w => spec_pm s hs O hO _ hx0 true hbv (str (text E R C)) (fun _ W => by rw [r1, r2, r3]; exact hsp W) false (by rw [ht]; rfl) w, fun w hw => impl_pm s hs O hO _ hx0 true hbv (str (text E R C)) (fun _ W => by rw [r1, r2, r3]; exact him W) false (by rw [ht]; rfl) w hw, hex⟩

/-- the text of a drawn matrix -/
theorem fmt_draw (a b : Int) (t : ByteArray) (h : Rd6.Sz a b t) : ∃ s : ByteArray, 1 ≤ s.size ∧ s.size ≤ 80 ∧ (∀ w, Calls Tryd.prog 29 #[mat a b t] w fun e w' => e = .returned (.string s) ∧ Below w.heap.size w w') := by
  have hm : t.size ≤ maxLen := by have := h.1; unfold maxLen; omega
  obtain ⟨R, C, E, rfl, rfl, h1, h2, h3, h4, rfl⟩ := valid_form h.2
  obtain ⟨l1, l2⟩ := text_len E R C h1 h2 h3 h4
  exact ⟨_, l1, l2, fun w => fmt_spec E R C h1 h2 h3 h4 hm h.2 w⟩
end Go.Proofs.YtalechngagkklaaDoor.MTxt
