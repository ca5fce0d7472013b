/-
  FormatMatrix: the reference's and the program's text of a matrix.
-/
import Derived.Test.YtalechngagkklaaDoorEntry
import Derived.Lib.Join
import Derived.Test.YtalechngagkklaaDoorShelfB
import Derived.Shelf.Strings.OnBuilder
import Derived.Lib.Strings
namespace Go.Proofs.YtalechngagkklaaDoor.Fmt
open Go.RowKit Go.Proofs.YtalechngagkklaaDoor.Plain Go.Proofs.YtalechngagkklaaDoor.Base Go.Proofs.YtalechngagkklaaDoor.Valid Go.Proofs.YtalechngagkklaaDoor.Law Go.Proofs.YtalechngagkklaaDoor.GridPlain Go.Proofs.YtalechngagkklaaDoor.Entry
set_option linter.unusedVariables false

/-- so many rows -/
def rowsL (E : Nat → Nat → Bool) (k c : Nat) : List (List UInt8) := (List.range k).map fun x => rowB E x c
/-- their text -/
def text (E : Nat → Nat → Bool) (k c : Nat) : List UInt8 := Lib.join (rowsL E k c) [47]
theorem join_snoc (l : List (List UInt8)) (x sep : List UInt8) : Lib.join (l ++ [x]) sep = if l = [] then x else Lib.join l sep ++ sep ++ x := by
  cases l with
  | nil => simp [Lib.join_one]
  | cons a l =>
    rw [if_neg (by simp), List.cons_append, Lib.join_cons, Lib.join_cons]
    simp [Lib.joinTail]
theorem text_zero (E : Nat → Nat → Bool) (c : Nat) : text E 0 c = [] := rfl
theorem text_one (E : Nat → Nat → Bool) (c : Nat) : text E (0 + 1) c = rowB E 0 c := by
  unfold text rowsL
  rw [List.range_succ, List.map_append, List.map_cons, List.map_nil, join_snoc, if_pos (by rfl)]
theorem text_succ (E : Nat → Nat → Bool) (k c : Nat) (hk : 0 < k) : text E (k + 1) c = text E k c ++ [47] ++ rowB E k c := by
  unfold text rowsL
  rw [List.range_succ, List.map_append, List.map_cons, List.map_nil, join_snoc, if_neg]
  intro h
  have := congrArg List.length h
  simp at this
  omega
theorem text_le (E : Nat → Nat → Bool) (c : Nat) : ∀ k, (text E k c).length ≤ k * (c + 1) := by
  intro k
  induction k with
  | zero => simp [text_zero]
  | succ k ih =>
    by_cases h : 0 < k
    · rw [text_succ E k c h, List.length_append, List.length_append, rowB_length, Nat.succ_mul]
      simp only [List.length_cons, List.length_nil]
      omega
    · obtain rfl : k = 0 := by omega
      rw [text_one, rowB_length]
      omega
theorem text_72 (E : Nat → Nat → Bool) {c k : Nat} (hk : k ≤ 8) (hc : c ≤ 8) : (text E k c).length ≤ 72 := by
  have h1 := text_le E c k
  have h2 : k * (c + 1) ≤ 8 * 9 := Nat.mul_le_mul hk (by omega)
  omega
/-- a row cut out of the bytes -/
theorem drop_rows (E : Nat → Nat → Bool) (r c k : Nat) (hk : k < r) : ((rowsB E r c).drop (k * c)).take c = rowB E k c := by
  apply List.ext_getElem?
  intro j
  by_cases hj : j < c
  · rw [List.getElem?_take_of_lt hj, List.getElem?_drop, rowsB_get E r c _ (size_xy hk hj), rowB_get E k c j hj]
    rw [Nat.mul_comm, Nat.mul_add_div (by omega), Nat.div_eq_of_lt hj, Nat.mul_add_mod, Nat.mod_eq_of_lt hj, Nat.add_zero]
  · rw [List.getElem?_eq_none (by simp; omega), List.getElem?_eq_none (by rw [rowB_length]; omega)]
theorem cut_row (E : Nat → Nat → Bool) (r c k : Nat) (s : ByteArray) (hs : s = str (rowsB E r c)) (hk : k < r) : s.extract (k * c) ((k + 1) * c) = str (rowB E k c) := by
  subst hs
  apply ByteArray.ext
  apply Array.ext'
  have h := drop_rows E r c k hk
  have h2 : (k + 1) * c - k * c = c := by rw [Nat.succ_mul]; omega
  simp only [str, ByteArray.data_extract, Array.toList_extract, List.extract_eq_take_drop, h2]
  exact h

set_option maxHeartbeats 1000000 in
theorem fmt_spec (E : Nat → Nat → Bool) (r c : Nat) (hr : 1 ≤ r) (hr8 : r ≤ 8) (hc : 1 ≤ c) (hc8 : c ≤ 8) (hs : (str (rowsB E r c)).size ≤ maxLen) (hv : validB r c (str (rowsB E r c)) = true) (w : World) :
    Calls Tryd.prog 29 #[mat r c (str (rowsB E r c))] w fun e w' => e = .returned (.string (str (text E r c))) ∧ Below w.heap.size w w' := by
  obtain ⟨s, hs'⟩ : ∃ s, str (rowsB E r c) = s := ⟨_, rfl⟩
  rw [hs'] at hs hv ⊢
  have HE := Lib.hid hs'
  have HV := Lib.hid hv
  have hz : s.size = r * c := by rw [← hs', str_size, rowsB_length]
  have HZ := Lib.hid hz
  clear hs' hv hz
  go_enter Tryd.func29, Tryd.ntmps29
  go_wp2_with fail
  refine (spec_valid _ _ s hs _).mono ?_
  rintro e w1 ⟨rfl, hb1⟩
  rw [HV.out]
  obtain ⟨c0, c1, c2⟩ := three_of hb1
  have HB := Lib.hid (bstep ((Below.refl w.heap.size w).alloc (Nat.le_refl _) _) hb1)
  clear hb1
  go_wp2_with fail
  go_loop [3, 4] (fun t i => ∃ (k : Nat) (u : ByteArray), k ≤ r ∧ i = .int .i64 (k : Int) ∧ t = .string u ∧ Hid (u = str (text E k c))) (fun _ i => r - (intOf i).toNat)
  case atStart => exact ⟨0, _, Nat.zero_le _, rfl, rfl, rfl⟩
  case round =>
    obtain ⟨k, u, hk, rfl, rfl, hu⟩ := hrel
    by_cases hlt : k < r
    · have hsz : s.size ≤ 64 := by rw [HZ.out]; exact prod_le hr8 hc8
      obtain ⟨a, b, hmul, hmul2, hab, hbs, hcut⟩ : ∃ a b : Nat, wrap64 ((k : Int) * (c : Int)) = (a : Int) ∧ wrap64 (((k : Int) + 1) * (c : Int)) = (b : Int) ∧ a ≤ b ∧ b ≤ s.size ∧ s.extract a b = str (rowB E k c) :=
        ⟨k * c, (k + 1) * c, wrap_prod k c (by omega) hc8, wrap_prod (k + 1) c (by omega) hc8, Nat.mul_le_mul_right c (by omega), by rw [HZ.out]; exact Nat.mul_le_mul_right c hlt, cut_row E r c k s HE.out.symm hlt⟩
      have HC := Lib.hid hcut
      clear hcut
      have hu72 : u.size ≤ 72 := by rw [hu.out, str_size]; exact text_72 E (by omega) hc8
      by_cases h0 : 0 < k
      · go_wp2_with fail
        go_round
        case rel => exact ⟨k + 1, _, by omega, by go_num, rfl, by rw [hu.out, HC.out, str_one, str_append, str_append, ← text_succ E k c h0]; rfl⟩
        case measure => simp [intOf]; omega
      · have HK0 : Hid (k = 0) := by unfold Hid; omega
        go_wp2_with fail
        go_round
        case rel => exact ⟨k + 1, _, by omega, by go_num, rfl, by rw [hu.out, HC.out, HK0.out, str_append, text_zero, List.nil_append, text_one]; rfl⟩
        case measure => simp [intOf]; omega
    · obtain rfl : k = r := by omega
      go_wp2_with fail
      go_ret
      exact ⟨by rw [← hu.out]; rfl, HB.out⟩

set_option maxHeartbeats 1000000 in
theorem fmt_spec_no (r c : Int) (s : ByteArray) (hs : s.size ≤ maxLen) (hv : validB r c s = false) (w : World) :
    Calls Tryd.prog 29 #[mat r c s] w fun e w' => e = .returned (.string (str [])) ∧ Below w.heap.size w w' := by
  have HV := Lib.hid hv
  clear hv
  go_enter Tryd.func29, Tryd.ntmps29
  go_wp2_with fail
  refine (spec_valid _ _ s hs _).mono ?_
  rintro e w1 ⟨rfl, hb1⟩
  rw [HV.out]
  have HB := Lib.hid (bstep ((Below.refl w.heap.size w).alloc (Nat.le_refl _) _) hb1)
  clear hb1
  go_wp2_with fail
  go_ret
  exact ⟨rfl, HB.out⟩
theorem fmt_impl_no (r c : Int) (s : ByteArray) (hs : s.size ≤ maxLen) (hv : validB r c s = false) (w : World) :
    Calls Tryd.prog 28 #[mat r c s] w fun e w' => e = .returned (.string (str [])) ∧ Below w.heap.size w w' := by
  have HV := Lib.hid hv
  clear hv
  go_enter Tryd.func28, Tryd.ntmps28
  go_wp2_with fail
  refine (impl_valid _ _ s hs _).mono ?_
  rintro e w1 ⟨rfl, hb1⟩
  rw [HV.out]
  have HB := Lib.hid (bstep ((Below.refl w.heap.size w).alloc (Nat.le_refl _) _) hb1)
  clear hb1
  go_wp2_with fail
  go_ret
  exact ⟨rfl, HB.out⟩

theorem info9 : (Tryd.prog.info? 9).map (fun i => (i.zero, i.size, i.bytes)) = some (some (.string ⟨#[]⟩), 1, 16) := by kernel_rfl
/-- the rows as values, so many of them laid -/
def vs (E : Nat → Nat → Bool) (r c k : Nat) : List Value := (List.range r).map fun x => .string (if x < k then str (rowB E x c) else ⟨#[]⟩)
theorem vs_set (E : Nat → Nat → Bool) (r c k : Nat) (hk : k < r) : (vs E r c k).set k (.string (str (rowB E k c))) = vs E r c (k + 1) := by
  apply List.ext_getElem?
  intro i
  rw [List.getElem?_set]
  unfold vs
  by_cases hi : k = i
  · subst hi
    simp [hk]
  · rw [if_neg hi]
    by_cases h2 : i < r
    · simp only [List.getElem?_map, List.getElem?_range h2, Option.map_some]
      by_cases h3 : i < k
      · rw [if_pos h3, if_pos (by omega)]
      · rw [if_neg h3, if_neg (by omega)]
    · rw [List.getElem?_eq_none (by simp; omega), List.getElem?_eq_none (by simp; omega)]
theorem vs_get (E : Nat → Nat → Bool) (r c k : Nat) (hk : k < r) : (vs E r c k)[k]? = some (.string ⟨#[]⟩) := by
  unfold vs
  simp [hk]
theorem vs_zero (E : Nat → Nat → Bool) (r c : Nat) : (madeCells (Value.string ⟨#[]⟩).cells (r * 1)).toList = vs E r c 0 := by
  unfold madeCells vs
  simp [Value.cells]
  intro a ha
  rw [Nat.mod_one]
  rfl
theorem join_any (bk o k : Nat) (xs : List ByteArray) (w : World) (hcells : ∀ (j : Nat) x, xs[j]? = some x → w.cell? ⟨bk, o + j, none⟩ = some (.string x)) (hbk : bk < w.heap.size) (hN : xs.length ≤ 8) (hk : xs.length ≤ k)
    (hlen : (Lib.join (xs.map (·.data.toList)) [47]).length ≤ 72) :
    Calls Tryd.prog 80 #[.slice (some ⟨bk, o, none⟩) xs.length k, .string ⟨#[47]⟩] w fun e w' => e = .returned (.string (str (Lib.join (xs.map (·.data.toList)) [47]))) ∧ Below w.heap.size w w' :=
  Any.strings_Join Tryd.lays156 Tryd.Builder_Extra_156 bk o k xs ⟨#[47]⟩ w hcells hbk (by omega) hk (Nat.le_trans hlen (by omega))

theorem rows_text (E : Nat → Nat → Bool) (c k : Nat) : Lib.join (((List.range k).map fun x => str (rowB E x c)).map (·.data.toList)) [47] = text E k c := by
  unfold text rowsL
  rw [List.map_map]
  rfl
theorem fmt_join (E : Nat → Nat → Bool) (c k : Nat) (hk8 : k ≤ 8) (hc8 : c ≤ 8) (hk : 1 ≤ k) {wr : World} {g : Nat} (h : wr.ownsRow g 9 1 (.slice (some ⟨g, 0, none⟩) k k) k (vs E k c k)) :
    Calls Tryd.prog 80 #[.slice (some ⟨g, 0, none⟩) k k, .string ⟨#[47]⟩] wr fun e w' => e = .returned (.string (str (text E k c))) ∧ Below wr.heap.size wr w' := by
  have hl : ((List.range k).map fun x => str (rowB E x c)).length = k := by simp
  have hb : g < wr.heap.size := (h.lt g rfl).2
  have hj := join_any g 0 k ((List.range k).map fun x => str (rowB E x c)) wr (fun j x hx => by
    have hjk : j < k := by
      have := (List.getElem?_eq_some_iff.1 hx).1
      simpa using this
    rw [Nat.zero_add, h.cellAt j (by omega)]
    simp only [List.getElem?_map, List.getElem?_range hjk, Option.map_some, Option.some.injEq] at hx
    unfold vs
    simp only [List.getElem?_map, List.getElem?_range hjk, Option.map_some, if_pos hjk, hx]) hb (by omega) (by omega) (by rw [rows_text]; exact text_72 E hk8 hc8)
  rw [rows_text, hl] at hj
  exact hj

set_option maxHeartbeats 1000000 in
theorem fmt_impl (E : Nat → Nat → Bool) (r c : Nat) (hr : 1 ≤ r) (hr8 : r ≤ 8) (hc : 1 ≤ c) (hc8 : c ≤ 8) (hs : (str (rowsB E r c)).size ≤ maxLen) (hv : validB r c (str (rowsB E r c)) = true) (w : World) :
    Calls Tryd.prog 28 #[mat r c (str (rowsB E r c))] w fun e w' => e = .returned (.string (str (text E r c))) ∧ Below w.heap.size w w' := by
  obtain ⟨s, hs'⟩ : ∃ s, str (rowsB E r c) = s := ⟨_, rfl⟩
  rw [hs'] at hs hv ⊢
  have HE := Lib.hid hs'
  have HV := Lib.hid hv
  have hz : s.size = r * c := by rw [← hs', str_size, rowsB_length]
  have HZ := Lib.hid hz
  clear hs' hv hz
  obtain ⟨i0, hi, hz0, hz1, hz2⟩ := info_parts info9
  go_enter Tryd.func28, Tryd.ntmps28
  go_wp2_with fail
  refine (impl_valid _ _ s hs _).mono ?_
  rintro e w1 ⟨rfl, hb1⟩
  rw [HV.out]
  obtain ⟨c0, c1, c2⟩ := three_of hb1
  have hz := hb1.size
  simp only [World.size_alloc] at hz
  have HB := Lib.hid (bstep ((Below.refl w.heap.size w).alloc (Nat.le_refl _) _) hb1)
  clear hb1
  go_wp2_with (at_make; refine wpList_make_full _ rfl (.tmp 9) (.tmp 9) 95 rfl w1.heap.size 9 i0 (.string ⟨#[]⟩) 1 Tryd.underlying95 hi hz0 hz1 .i64 .i64 (r : Int) (r : Int) r rfl rfl rfl rfl ?b1 ?b2 ?b3 ?b4; go_must (case b1 => (rw [hz2]; omega)); go_must (case b2 => (unfold maxLen; omega)); go_must (case b3 => exact Nat.le_refl _); go_must (intro w2 hown hgrow; rw [vs_zero E r c] at hown; have HO := Lib.hid hown; have HG := Lib.hid hgrow; clear hown hgrow))
  go_loopw [13] (fun i wr => ∃ k : Nat, k ≤ r ∧ i = .int .i64 (k : Int) ∧ wr.ownsRow w1.heap.size 9 1 (.slice (some ⟨w1.heap.size, 0, none⟩) r r) r (vs E r c k) ∧ Below w1.heap.size w1 wr) (fun i _ => r - (intOf i).toNat)
  case atStart => exact ⟨0, Nat.zero_le _, rfl, HO.out, ⟨HG.out.os, HG.out.tape, HG.out.output, HG.out.size, fun i hi => HG.out.block i hi (by simp)⟩⟩
  case round =>
    obtain ⟨k, hk, rfl, hown, hbel⟩ := hrel
    clear HO HG
    have d0 : wr.cell? ⟨w.heap.size, 0, none⟩ = some (.int .i64 (r : Int)) := (hbel.cell (p := ⟨w.heap.size, 0, none⟩) (by show w.heap.size < _; omega)).trans c0
    have d1 : wr.cell? ⟨w.heap.size, 1, none⟩ = some (.int .i64 (c : Int)) := (hbel.cell (p := ⟨w.heap.size, 1, none⟩) (by show w.heap.size < _; omega)).trans c1
    have d2 : wr.cell? ⟨w.heap.size, 2, none⟩ = some (.string s) := (hbel.cell (p := ⟨w.heap.size, 2, none⟩) (by show w.heap.size < _; omega)).trans c2
    have HO := Lib.hid hown
    have HL := Lib.hid hbel
    by_cases hlt : k < r
    · have hsz : s.size ≤ 64 := by rw [HZ.out]; exact prod_le hr8 hc8
      obtain ⟨a, b, hmul, hmul2, hab, hbs, hcut⟩ : ∃ a b : Nat, wrap64 ((k : Int) * (c : Int)) = (a : Int) ∧ wrap64 (((k : Int) + 1) * (c : Int)) = (b : Int) ∧ a ≤ b ∧ b ≤ s.size ∧ s.extract a b = str (rowB E k c) :=
        ⟨k * c, (k + 1) * c, wrap_prod k c (by omega) hc8, wrap_prod (k + 1) c (by omega) hc8, Nat.mul_le_mul_right c (by omega), by rw [HZ.out]; exact Nat.mul_le_mul_right c hlt, cut_row E r c k s HE.out.symm hlt⟩
      have HC := Lib.hid hcut
      have hcell : wr.cell? ⟨w1.heap.size, k, none⟩ = some (.string ⟨#[]⟩) := (hown.cellAt k (by omega)).trans (vs_get E r c k hlt)
      have hfr : wr.frozen? ⟨w1.heap.size, k, none⟩ = false := hown.frozenAt k
      clear hcut hown hbel
      go_wp2_with fail
      go_roundw
      case rel => exact ⟨k + 1, by omega, by go_num, by rw [HC.out]; have h := (HO.out.stored k (.string (str (rowB E k c)))).1; rw [vs_set E r c k hlt] at h; exact h, HL.out.setCell (Nat.le_refl _) _⟩
      case measure => simp [intOf]; omega
    · clear hown hbel
      obtain rfl : k = r := by omega
      have HJ := Lib.hid (fmt_join E c k hr8 hc8 hr HO.out)
      go_wp2_with fail
      refine HJ.out.mono ?_
      rintro e w3 ⟨rfl, hb3⟩
      have HB3 := Lib.hid (bstep (HB.out.trans (HL.out.mono (by omega))) hb3)
      clear hb3
      go_wp2_with fail
      go_ret
      exact ⟨rfl, HB3.out⟩
end Go.Proofs.YtalechngagkklaaDoor.Fmt
