/-
  The reference's l14Cut at the byte 47: the pieces of a text.
-/
import Derived.Test.YtalechngagkklaaDoorApp
import Derived.Test.YtalechngagkklaaDoorLaw
import Derived.Lib.SplitLaws
namespace Go.Proofs.YtalechngagkklaaDoor.Cut
open Go.RowKit Go.Proofs.YtalechngagkklaaDoor.Plain Go.Proofs.YtalechngagkklaaDoor.Base Go.Proofs.YtalechngagkklaaDoor.Valid Go.Proofs.YtalechngagkklaaDoor.Law Go.Proofs.YtalechngagkklaaDoor.App
set_option linter.unusedVariables false

/-- the pieces between the bytes 47 -/
def cutL : List UInt8 → List (List UInt8)
  | [] => [[]]
  | b :: l => if b = 47 then [] :: cutL l else match cutL l with
    | h :: t => (b :: h) :: t
    | [] => [[b]]
theorem cutL_ne : ∀ l, cutL l ≠ []
  | [] => by simp [cutL]
  | b :: l => by
    rw [cutL]
    split
    · simp
    · split <;> simp
theorem cutL_sep : ∀ l : List UInt8, cutL (l ++ [47]) = cutL l ++ [[]]
  | [] => by simp [cutL]
  | b :: l => by
    rw [List.cons_append, cutL, cutL, cutL_sep l]
    split
    · simp
    · have := cutL_ne l
      cases h : cutL l with
      | nil => exact absurd h this
      | cons x t => simp
theorem cutL_other (b : UInt8) (hb : b ≠ 47) : ∀ (l : List UInt8) (O : List (List UInt8)) (c : List UInt8), cutL l = O ++ [c] → cutL (l ++ [b]) = O ++ [c ++ [b]]
  | [], O, c, h => by
    have h2 : O = [] ∧ c = [] := by
      rw [cutL] at h
      cases O with
      | nil => simp at h; exact ⟨rfl, h⟩
      | cons x t => simp at h
    obtain ⟨rfl, rfl⟩ := h2
    simp [cutL, hb]
  | d :: l, O, c, h => by
    rw [List.cons_append, cutL]
    rw [cutL] at h
    split
    · rename_i hd
      rw [if_pos hd] at h
      cases O with
      | nil =>
        have := cutL_ne l
        simp at h
        exact absurd h.2 this
      | cons x t =>
        simp at h
        rw [cutL_other b hb l t c h.2, ← h.1]
        simp
    · rename_i hd
      rw [if_neg hd] at h
      have hne := cutL_ne l
      cases hl : cutL l with
      | nil => exact absurd hl hne
      | cons x t =>
        rw [hl] at h
        simp only at h
        cases O with
        | nil =>
          simp at h
          obtain ⟨rfl, rfl⟩ := h
          rw [cutL_other b hb l [] x (by rw [hl]; rfl)]
          simp
        | cons y O =>
          simp at h
          obtain ⟨rfl, h2⟩ := h
          rw [cutL_other b hb l (x :: O) c (by rw [hl, h2]; rfl)]
          simp

theorem info9 : (Tryd.prog.info? 9).map (fun i => (i.zero, i.size, i.bytes)) = some (some (.string ⟨#[]⟩), 1, 16) := by kernel_rfl
theorem cell_one_new (w : World) (u : Value) (t : TypeId) (j : Nat) (v : Value) (h : [u][j]? = some v) : (w.alloc (.cells #[u] t)).cell? (Addr.add ⟨w.heap.size, 0, none⟩ j) = some v := by
  match j, h with
  | 0, h =>
    obtain rfl := Option.some.inj h
    simp [Addr.add]
  | j + 1, h => simp at h
/-- the pieces so far, as strings -/
def strs (O : List (List UInt8)) : List Value := O.map fun l => .string (str l)
theorem strs_next (O : List (List UInt8)) (c : List UInt8) : strs O ++ [.string (str c)] = strs (O ++ [c]) := by simp [strs]
theorem len_next {α : Type} {O : List α} {k : Nat} {c : α} (h : O.length ≤ k) : (O ++ [c]).length ≤ k + 1 := by
  rw [List.length_append]
  exact Nat.add_le_add_right h 1
theorem cur_str (s : ByteArray) (a k : Nat) (hk : k ≤ s.size) : s.extract a k = str ((s.data.toList.take k).drop a) := by
  apply ByteArray.ext
  apply Array.ext'
  simp [str, ByteArray.data_extract, List.extract_eq_take_drop]
  rw [List.drop_take]

set_option maxHeartbeats 2000000 in
set_option maxRecDepth 100000 in
theorem cut_any (s : ByteArray) (hs : s.size ≤ 1048576) (w : World) :
    Calls Tryd.prog 87 #[.string s, .int .u8 47] w fun e w' => ∃ v, e = .returned v ∧ Own w w' 9 1 v (cutL s.data.toList).length (strs (cutL s.data.toList)) := by
  obtain ⟨i0, hi, hz0, hz1, hz2⟩ := info_parts info9
  have hlen : s.data.toList.length = s.size := by simp
  go_enter Tryd.func87, Tryd.ntmps87
  go_wp2_with fail
  go_loopw [5, 6, 7] (fun v f i wr => ∃ (k a : Nat) (O : List (List UInt8)), k ≤ s.size + 1 ∧ i = .int .i64 (k : Int) ∧ f = .int .i64 (a : Int) ∧ O.length ≤ k ∧ Own w wr 9 1 v O.length (strs O) ∧ Hid ((k ≤ s.size ∧ a ≤ k ∧ cutL (s.data.toList.take k) = O ++ [(s.data.toList.take k).drop a]) ∨ (k = s.size + 1 ∧ cutL s.data.toList = O))) (fun _ _ i _ => s.size + 1 - (intOf i).toNat)
  case atStart => exact ⟨0, 0, [], by omega, rfl, rfl, Nat.le_refl _, Own.lit w _ _, .inl ⟨by omega, by omega, by simp [cutL]⟩⟩
  case round =>
    obtain ⟨k, a, O, hk, rfl, rfl, hol, hown, hcut⟩ := hrel
    have HO := Lib.hid hown
    by_cases hkl : k ≤ s.size
    · obtain ⟨hak, hc⟩ : a ≤ k ∧ cutL (s.data.toList.take k) = O ++ [(s.data.toList.take k).drop a] := by
        rcases hcut.out with ⟨_, h1, h2⟩ | ⟨h, _⟩
        · exact ⟨h1, h2⟩
        · omega
      have HCUT := Lib.hid hc
      have HSTR := Lib.hid (cur_str s a k hkl)
      clear hcut hc
      obtain ⟨p, cc, hv⟩ := hown.slice
      subst hv
      by_cases hend : k = s.size
      · subst hend
        have HDONE : Hid (cutL s.data.toList = O ++ [(s.data.toList.take s.size).drop a]) := by
          have h := HCUT.out
          rwa [List.take_of_length_le (by omega)] at h ⊢
        have hcur := HSTR.out
        generalize (s.data.toList.take s.size).drop a = c at *
        clear hown
        go_wp2_with (at_builtin; have HH := HO.out; refine wpList_append_own _ rfl (.tmp 26) (.tmp 31) 95 rfl w.heap.size 9 i0 (.string ⟨#[]⟩) 1 16 Tryd.underlying95 hi hz0 hz1 hz2 rfl (by decide) _ _ _ rfl (HH.row.alloc _) ⟨wr.heap.size, 0, none⟩ 1 1 [.string (str c)] rfl rfl ?c1 ?c2 ?c3 ?c4 ?c5 ?c6; go_must (case c1 => exact (cell_one_new _ _ _)); go_must (case c2 => simp [Value.oneCell']); go_must (case c3 => (unfold maxLen; omega)); go_must (case c4 => omega); go_must (case c5 => (have := HH.below.size; simp at this ⊢; omega)); go_must (clear HH; intro v3 w3 hown3 hgrow3 _; have H3 := Lib.hid (Own.next HO.out _ hown3 hgrow3); clear HO hown3 hgrow3))
        go_wp2_with fail
        go_roundw
        case rel => exact ⟨s.size + 1, s.size + 1, O ++ [c], by omega, by go_num, by go_num, len_next hol, by simpa [strs] using H3.out, .inr ⟨by omega, HDONE.out⟩⟩
        case measure => simp [intOf] <;> omega
      · have hkl2 : k < s.size := by omega
        have hne : ¬ ((k : Int) = (s.size : Int)) := by omega
        have hget : s.data.toList.take (k + 1) = s.data.toList.take k ++ [s[k]] := by
          rw [List.take_succ_eq_append_getElem (by omega)]; rfl
        by_cases hb : s[k] = 47
        · have HN : Hid (cutL (s.data.toList.take (k + 1)) = (O ++ [(s.data.toList.take k).drop a]) ++ [(s.data.toList.take (k + 1)).drop (k + 1)]) := by
            unfold Hid
            have hd : (s.data.toList.take (k + 1)).drop (k + 1) = [] := List.drop_of_length_le (by rw [List.length_take]; omega)
            rw [hd, hget, hb, cutL_sep, HCUT.out]
          have hby : (s[k].toNat : Int) = 47 := by rw [hb]; rfl
          have hcur := HSTR.out
          generalize (s.data.toList.take k).drop a = c at *
          clear hown hget
          go_wp2_with (at_builtin; have HH := HO.out; refine wpList_append_own _ rfl (.tmp 26) (.tmp 31) 95 rfl w.heap.size 9 i0 (.string ⟨#[]⟩) 1 16 Tryd.underlying95 hi hz0 hz1 hz2 rfl (by decide) _ _ _ rfl (HH.row.alloc _) ⟨wr.heap.size, 0, none⟩ 1 1 [.string (str c)] rfl rfl ?d1 ?d2 ?d3 ?d4 ?d5 ?d6; go_must (case d1 => exact (cell_one_new _ _ _)); go_must (case d2 => simp [Value.oneCell']); go_must (case d3 => (unfold maxLen; omega)); go_must (case d4 => omega); go_must (case d5 => (have := HH.below.size; simp at this ⊢; omega)); go_must (clear HH; intro v3 w3 hown3 hgrow3 _; have H3 := Lib.hid (Own.next HO.out _ hown3 hgrow3); clear HO hown3 hgrow3))
          go_wp2_with fail
          go_roundw
          case rel => exact ⟨k + 1, k + 1, O ++ [c], by omega, by go_num, by go_num, len_next hol, by simpa [strs] using H3.out, .inl ⟨by omega, by omega, HN.out⟩⟩
          case measure => simp [intOf] <;> omega
        · have hby2 : ((s[k].toNat : Int) == 47) = false := beq_false_of_ne fun e => hb (UInt8.toNat_inj.1 (by show s[k].toNat = 47; omega))
          have HN : Hid (cutL (s.data.toList.take (k + 1)) = O ++ [(s.data.toList.take (k + 1)).drop a]) := by
            unfold Hid
            rw [hget, cutL_other s[k] hb _ O _ HCUT.out, List.drop_append_of_le_length (by rw [List.length_take]; omega)]
          clear hown hget
          go_wp2_with fail
          go_roundw
          case rel => exact ⟨k + 1, a, O, by omega, by go_num, rfl, by omega, HO.out, .inl ⟨by omega, by omega, HN.out⟩⟩
          case measure => simp [intOf] <;> omega
    · have hdone : cutL s.data.toList = O := by
        rcases hcut.out with ⟨h, _⟩ | ⟨_, h⟩
        · omega
        · exact h
      subst hdone
      clear hown hcut
      go_wp2_with fail
      go_ret
      exact ⟨_, rfl, HO.out⟩
end Go.Proofs.YtalechngagkklaaDoor.Cut
