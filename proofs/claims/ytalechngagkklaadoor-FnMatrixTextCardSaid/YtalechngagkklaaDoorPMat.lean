/-
  ParseMatrix, of the reference and of the program.
-/
import Derived.Test.YtalechngagkklaaDoorCut
import Derived.Test.YtalechngagkklaaDoorFmt
import Derived.Test.YtalechngagkklaaDoorFreeL
import Derived.Test.YtalechngagkklaaDoorBoard
import Derived.Shelf.Strings.Split
import Derived.Shelf.Vars
namespace Go.Proofs.YtalechngagkklaaDoor.PMat
open Go.RowKit Go.Proofs.YtalechngagkklaaDoor.Plain Go.Proofs.YtalechngagkklaaDoor.Base Go.Proofs.YtalechngagkklaaDoor.Valid Go.Proofs.YtalechngagkklaaDoor.Law Go.Proofs.YtalechngagkklaaDoor.Entry Go.Proofs.YtalechngagkklaaDoor.Fmt Go.Proofs.YtalechngagkklaaDoor.App Go.Proofs.YtalechngagkklaaDoor.Cut Go.Proofs.YtalechngagkklaaDoor.Rect Go.Proofs.YtalechngagkklaaDoor.FreeL Go.Proofs.YtalechngagkklaaDoor.Board
open Go.Proofs.YtalechngagkklaaDoor.Free (fill wp_value wp_enter wp_load_row freeB wp_region_one get_of)
set_option linter.unusedVariables false

theorem wp_skip {P : Program} {o : Oper} {a : Act} {w w' : World} {K : Act → World → Prop} {Q : Exit → Act → World → Prop} (h : (execOp a.eval o).run P w = .ok .skip w') (hK : K (a.put o.dst undef) w') : o.wp P a w K Q := by
  unfold Oper.wp
  rw [h]
  exact hK
theorem minfo3 : (Tryd.prog.info? 24).map (·.size) = some 3 := by kernel_rfl

/-! ### the pieces of the library -/
theorem split_cut : ∀ l : List UInt8, Lib.splitK [47] 0 (Lib.count l [47]) l = cutL l
  | [] => rfl
  | b :: l => by
    have ih := split_cut l
    rw [cutL]
    by_cases h : b = 47
    · subst h
      have hix : Lib.index (47 :: l) [47] = 0 := by rw [Lib.index]; simp [List.isPrefixOf]
      rw [if_pos rfl, Lib.count_cons_eq, Nat.add_comm, Lib.splitK, hix, ← ih]
      simp
    · rw [if_neg h, Lib.count_cons_ne b 47 l h, ← ih]
      have hix : Lib.index (b :: l) [47] = if Lib.index l [47] == -1 then -1 else Lib.index l [47] + 1 := by
        have hp : ([47] : List UInt8).isPrefixOf (b :: l) = false := by simp [List.isPrefixOf, Ne.symm h]
        rw [Lib.index, hp]; simp
      have hge := Lib.index_ge l [47]
      cases hk : Lib.count l [47] with
      | zero => simp [Lib.splitK]
      | succ k =>
        by_cases hm : Lib.index l [47] = -1
        · rw [Lib.count_miss hm] at hk
          cases hk
        · obtain ⟨j, hj⟩ : ∃ j : Nat, Lib.index l [47] = (j : Int) := ⟨(Lib.index l [47]).toNat, by omega⟩
          have h1 : Lib.index (b :: l) [47] = ((j + 1 : Nat) : Int) := by rw [hix, if_neg (fun e => hm (beq_iff_eq.1 e)), hj]; omega
          have n1 : ¬ (((j + 1 : Nat) : Int) == -1) = true := fun e => by have := beq_iff_eq.1 e; omega
          have n2 : ¬ (((j : Nat) : Int) == -1) = true := fun e => by have := beq_iff_eq.1 e; omega
          rw [Lib.splitK, Lib.splitK, h1, hj, if_neg n1, if_neg n2]
          simp
theorem join_flat : ∀ xs : List (List UInt8), Lib.join xs [] = xs.flatten
  | [] => rfl
  | x :: r => by
    rw [Lib.join_cons]
    simp [Lib.joinTail]
theorem flat_len : ∀ l : List UInt8, (cutL l).flatten.length ≤ l.length
  | [] => by simp [cutL]
  | b :: l => by
    have ih := flat_len l
    rw [cutL]
    split
    · rw [List.flatten_cons, List.nil_append, List.length_cons]; omega
    · have := cutL_ne l
      cases h : cutL l with
      | nil => exact absurd h this
      | cons x t =>
        rw [h] at ih
        simp at ih ⊢
        omega
theorem cutL_len : ∀ l : List UInt8, (cutL l).length ≤ l.length + 1
  | [] => by simp [cutL]
  | b :: l => by
    have ih := cutL_len l
    rw [cutL]
    split
    · simp; omega
    · have := cutL_ne l
      cases h : cutL l with
      | nil => exact absurd h this
      | cons x t =>
        rw [h] at ih
        simp at ih ⊢
        omega

/-- the library's variable of lengths holds some number -/
def MaxAt (w : World) : Prop := 0 < w.heap.size ∧ ∃ m, w.cell? ⟨0, 0, none⟩ = some (.int .i64 m)
theorem MaxAt.on {w w1 : World} (h : MaxAt w) (hb : Below w.heap.size w w1) : MaxAt w1 := by
  obtain ⟨hl, m, hm⟩ := h
  exact ⟨Nat.lt_of_lt_of_le hl hb.size, m, (hb.cell (p := ⟨0, 0, none⟩) hl).trans hm⟩
theorem max_at {W : World} (h : W.ShapedOpen Tryd.prog) : MaxAt W := by
  obtain ⟨m, hm⟩ := cell_of_shapedOpen_int (g := 0) (t := 3) (zero := #[.int .i64 0]) (k := .i64) h (by decide +kernel) (by kernel_rfl) rfl (by kernel_rfl) (by kernel_rfl) Tryd.underlying3
  exact ⟨World.block_lt_of_cell? W _ hm, m, hm⟩
theorem strs_get (O : List (List UInt8)) (j : Nat) (hj : j < O.length) : (strs O)[j]? = some (.string (str O[j])) := by simp [strs, hj]

theorem split_any (s : ByteArray) (hs : s.size ≤ 1048576) (W : World) (hm : MaxAt W) :
    Calls Tryd.prog 83 #[.string s, .string ⟨#[47]⟩] W fun e w' => e = .returned (.slice (some ⟨W.heap.size, 0, none⟩) (cutL s.data.toList).length (cutL s.data.toList).length) ∧ w' = W.alloc (.cells (strs (cutL s.data.toList)).toArray 9) := by
  obtain ⟨_, m, hm⟩ := hm
  have h := Any.strings_Split Tryd.lays146 Go.Proofs.YtalechngagkklaaDoor.Cut.info9 s ⟨#[47]⟩ m W (by omega) hm (by decide)
  have e1 : (Lib.splitB ⟨#[47]⟩ 0 (Lib.countB s ⟨#[47]⟩) s).map (·.data.toList) = cutL s.data.toList := by
    rw [Lib.splitB_data]
    exact split_cut s.data.toList
  have e2 : (Lib.splitB ⟨#[47]⟩ 0 (Lib.countB s ⟨#[47]⟩) s).map Value.string = strs (cutL s.data.toList) := by
    rw [← e1]
    unfold strs
    rw [List.map_map]
    apply List.map_congr_left
    intro x _
    simp [str]
  have e3 : Lib.countB s ⟨#[47]⟩ + 1 = (cutL s.data.toList).length := by
    rw [← e1, List.length_map]
    exact (Lib.splitB_all ⟨#[47]⟩ (by decide) 0 _ s rfl).symm
  rw [e2, e3] at h
  exact h
theorem join_any0 (g cc : Nat) (O : List (List UInt8)) (w : World) (hcells : ∀ j (hj : j < O.length), w.cell? ⟨g, j, none⟩ = some (.string (str O[j]))) (hg : g < w.heap.size) (hn : O.length ≤ 1048577) (hcc : O.length ≤ cc) (hlen : O.flatten.length ≤ 1048576) :
    Calls Tryd.prog 80 #[.slice (some ⟨g, 0, none⟩) O.length cc, .string ⟨#[]⟩] w fun e w' => e = .returned (.string (str O.flatten)) ∧ Below w.heap.size w w' := by
  have e1 : (O.map str).map (·.data.toList) = O := by
    rw [List.map_map]
    conv => rhs; rw [← List.map_id O]
    apply List.map_congr_left
    intro x _
    simp [str]
  have h := Any.strings_Join Tryd.lays156 Tryd.Builder_Extra_156 g 0 cc (O.map str) ⟨#[]⟩ w (fun j x hx => by
      rw [List.getElem?_map, Option.map_eq_some_iff] at hx
      obtain ⟨y, hy, rfl⟩ := hx
      obtain ⟨hj, rfl⟩ := List.getElem?_eq_some_iff.1 hy
      rw [Nat.zero_add]
      exact hcells j hj) hg (by rw [List.length_map]; omega) (by rw [List.length_map]; exact hcc) (by rw [e1]; show (Lib.join O []).length ≤ _; rw [join_flat]; omega)
  rw [e1, List.length_map] at h
  have e2 : Lib.join O (⟨#[]⟩ : ByteArray).data.toList = O.flatten := join_flat O
  rw [e2] at h
  exact h

/-! ### what both do with the pieces -/
/-- the cells of the matrix, of the pieces, of the result -/
structure PI (w wr : World) (g b n : Nat) (c0 : Int) (t : ByteArray) (O : List (List UInt8)) : Prop where
  m0 : wr.cell? ⟨b, 0, none⟩ = some (.int .i64 (n : Int))
  m1 : wr.cell? ⟨b, 1, none⟩ = some (.int .i64 c0)
  m2 : wr.cell? ⟨b, 2, none⟩ = some (.string t)
  f2 : wr.frozen? ⟨b, 2, none⟩ = false
  r0 : wr.cell? ⟨w.heap.size, 0, none⟩ = some (.int .i64 0)
  r1 : wr.cell? ⟨w.heap.size, 1, none⟩ = some (.int .i64 0)
  r2 : wr.cell? ⟨w.heap.size, 2, none⟩ = some (.string ⟨#[]⟩)
  g0 : wr.frozen? ⟨w.heap.size, 0, none⟩ = false
  g1 : wr.frozen? ⟨w.heap.size, 1, none⟩ = false
  g2 : wr.frozen? ⟨w.heap.size, 2, none⟩ = false
  cells : ∀ j (hj : j < O.length), wr.cell? ⟨g, j, none⟩ = some (.string (str O[j]))
  below : Below w.heap.size w wr
  ne1 : g ≠ b
  ne2 : w.heap.size < b
  lt : b < wr.heap.size
  gl : g < wr.heap.size
theorem PI.later {w wr w2 : World} {g b n : Nat} {c0 : Int} {t : ByteArray} {O : List (List UInt8)} (h : PI w wr g b n c0 t O) (hb : Below wr.heap.size wr w2) : PI w w2 g b n c0 t O := by
  have hl := h.lt
  have hn := h.ne2
  have hwl : w.heap.size < wr.heap.size := by omega
  exact ⟨(hb.cell (p := ⟨b, 0, none⟩) hl).trans h.m0, (hb.cell (p := ⟨b, 1, none⟩) hl).trans h.m1, (hb.cell (p := ⟨b, 2, none⟩) hl).trans h.m2, (hb.frozen (p := ⟨b, 2, none⟩) hl).trans h.f2,
    (hb.cell (p := ⟨w.heap.size, 0, none⟩) hwl).trans h.r0, (hb.cell (p := ⟨w.heap.size, 1, none⟩) hwl).trans h.r1, (hb.cell (p := ⟨w.heap.size, 2, none⟩) hwl).trans h.r2,
    (hb.frozen (p := ⟨w.heap.size, 0, none⟩) hwl).trans h.g0, (hb.frozen (p := ⟨w.heap.size, 1, none⟩) hwl).trans h.g1, (hb.frozen (p := ⟨w.heap.size, 2, none⟩) hwl).trans h.g2,
    fun j hj => (hb.cell (p := ⟨g, j, none⟩) h.gl).trans (h.cells j hj), rstep h.below hb, h.ne1, h.ne2, Nat.lt_of_lt_of_le hl hb.size, Nat.lt_of_lt_of_le h.gl hb.size⟩
theorem PI.set_ {w wr : World} {g b n : Nat} {c0 : Int} {t : ByteArray} {O : List (List UInt8)} (h : PI w wr g b n c0 t O) (u : ByteArray) : PI w (wr.setCell ⟨b, 2, none⟩ (.string u)) g b n c0 u O := by
  have hn := h.ne2
  have hne : ∀ j : Nat, (⟨w.heap.size, j, none⟩ : Addr).block ≠ (⟨b, 2, none⟩ : Addr).block := fun j => by show w.heap.size ≠ b; omega
  exact ⟨(World.cell?_setCell_other _ _ _ _ (by simp)).trans h.m0, (World.cell?_setCell_other _ _ _ _ (by simp)).trans h.m1, World.cell?_setCell_same' wr _ _ (by rw [h.m2]; rfl), (World.frozen?_setCell wr _ _ _).trans h.f2,
    (World.cell?_setCell_other _ _ _ _ (by simp <;> omega)).trans h.r0, (World.cell?_setCell_other _ _ _ _ (by simp <;> omega)).trans h.r1, (World.cell?_setCell_other _ _ _ _ (by simp <;> omega)).trans h.r2,
    (World.frozen?_setCell wr _ _ _).trans h.g0, (World.frozen?_setCell wr _ _ _).trans h.g1, (World.frozen?_setCell wr _ _ _).trans h.g2,
    fun j hj => (World.cell?_setCell_other _ _ _ _ (fun e => h.ne1 (by injection e with e1; exact e1.symm))).trans (h.cells j hj), h.below.setCell (p := ⟨b, 2, none⟩) (by show w.heap.size ≤ b; omega) _, h.ne1, h.ne2, by simpa using h.lt, by simpa using h.gl⟩
theorem flat_next (O : List (List UInt8)) (k : Nat) (hk : k < O.length) : str ((O.take k).flatten) ++ str O[k] = str ((O.take (k + 1)).flatten) := by
  rw [str_append, List.take_succ_eq_append_getElem hk, List.flatten_append]
  simp
theorem flat_le (O : List (List UInt8)) : ∀ k, ((O.take k).flatten).length ≤ O.flatten.length := fun k => by
  conv => rhs; rw [← List.take_append_drop k O, List.flatten_append, List.length_append]
  omega

set_option maxHeartbeats 2000000 in
set_option maxRecDepth 100000 in
theorem spec_pm (s : ByteArray) (hs : s.size ≤ 1048576) (O : List (List UInt8)) (hO : cutL s.data.toList = O) (x0 : ByteArray) (hx0 : O[0]? = some x0.data.toList) (bv : Bool) (hbv : validB O.length x0.size (str O.flatten) = bv) (f : ByteArray)
    (hf : bv = true → ∀ W : World, Calls Tryd.prog 29 #[mat O.length x0.size (str O.flatten)] W fun e w' => e = .returned (.string f) ∧ Below W.heap.size W w') (tt : Bool) (ht : (bv && (f.toList == s.toList)) = tt) (w : World) :
    Calls Tryd.prog 33 #[.string s] w fun e w' => e = .returned (.tuple #[if tt then mat O.length x0.size (str O.flatten) else mat 0 0 (str []), .bool tt]) ∧ Below w.heap.size w w' := by
  have hlen := cutL_len s.data.toList
  have hflat := flat_len s.data.toList
  have hne := cutL_ne s.data.toList
  have HCUT := Lib.hid (fun W => cut_any s hs W)
  rw [hO] at hlen hflat hne HCUT
  have hsl : s.data.toList.length = s.size := by simp
  have hpos : 0 < O.length := List.length_pos_iff.2 hne
  have hbits : (str O.flatten).size ≤ maxLen := by rw [str_size]; unfold maxLen; omega
  have HV := Lib.hid (fun W => spec_valid O.length x0.size (str O.flatten) hbits W)
  rw [hbv] at HV
  have HF := Lib.hid hf
  have HT := Lib.hid ht
  have HX0 : Hid (str O[0] = x0) := by
    unfold Hid
    rw [List.getElem?_eq_getElem hpos] at hx0
    rw [Option.some.inj hx0]
    simp [str]
  clear hf ht hbv hx0 hO hne
  go_enter Tryd.func33, Tryd.ntmps33
  go_wp2_with fail
  refine (HCUT.out _).mono ?_
  rintro e w1 ⟨v, rfl, hown⟩
  obtain ⟨p, cc, rfl⟩ := hown.slice
  obtain ⟨g, hp, hgl, hgu, -⟩ := hown.cell 0 (by omega)
  subst hp
  have hcells : ∀ j (hj : j < O.length), w1.cell? ⟨g, j, none⟩ = some (.string (str O[j])) := fun j hj => by
    obtain ⟨g', hg', _, _, hc⟩ := hown.cell j (by omega)
    obtain rfl : g = g' := by injection hg' with h; injection h
    rw [hc, strs_get O j hj]
  have E0 : (w.alloc (.cells #[.int .i64 0, .int .i64 0, .string ⟨#[]⟩] 24)).heap[w.heap.size]? = some (.cells #[.int .i64 0, .int .i64 0, .string ⟨#[]⟩] 24 (0, 0)) := heap_alloc_new w _
  have E1 := (hown.below.block w.heap.size (by simp)).trans E0
  have hb1 : Below w.heap.size w w1 := ((Below.refl w.heap.size w).alloc (Nat.le_refl _) _).trans (hown.below.mono (by simp))
  have c0 := (hcells 0 hpos)
  rw [HX0.out] at c0
  have hsz1 : w.heap.size < w1.heap.size := by have := hown.below.size; simp at this; omega
  have HP : Hid (PI w (w1.alloc (.cells #[.int .i64 (O.length : Int), .int .i64 (x0.size : Int), .string ⟨#[]⟩] 24)) g w1.heap.size O.length x0.size ⟨#[]⟩ O) := by
    have hb2 : Below w1.heap.size w1 (w1.alloc (.cells #[.int .i64 (O.length : Int), .int .i64 (x0.size : Int), .string ⟨#[]⟩] 24)) := (Below.refl _ _).alloc (Nat.le_refl _) _
    have N : (w1.alloc (.cells #[.int .i64 (O.length : Int), .int .i64 (x0.size : Int), .string ⟨#[]⟩] 24)).heap[w1.heap.size]? = some (.cells #[.int .i64 (O.length : Int), .int .i64 (x0.size : Int), .string ⟨#[]⟩] 24 (0, 0)) := heap_alloc_new w1 _
    have R := (hb2.block w.heap.size hsz1).trans E1
    exact ⟨cell_of_row _ _ 0 _ _ _ N, cell_of_row _ _ 1 _ _ _ N, cell_of_row _ _ 2 _ _ _ N, frozen_of_row _ _ 2 _ _ N, cell_of_row _ _ 0 _ _ _ R, cell_of_row _ _ 1 _ _ _ R, cell_of_row _ _ 2 _ _ _ R, frozen_of_row _ _ 0 _ _ R, frozen_of_row _ _ 1 _ _ R, frozen_of_row _ _ 2 _ _ R,
      fun j hj => (hb2.cell (p := ⟨g, j, none⟩) hgu).trans (hcells j hj), rstep hb1 hb2, by omega, hsz1, by simp, by simp; omega⟩
  clear hown hcells E0 E1 hb1 HCUT
  go_wp2_with fail
  generalize w1.alloc (.cells #[.int .i64 (O.length : Int), .int .i64 (x0.size : Int), .string ⟨#[]⟩] 24) = W2 at *
  clear hgl hgu c0 hsz1
  generalize w1.heap.size = b at *
  obtain ⟨n, hn⟩ : ∃ n, O.length = n := ⟨_, rfl⟩
  have HN := Lib.hid hn
  rw [hn] at HP HV HF hlen hpos ⊢
  clear hn
  go_loopw [6] (fun i wr => ∃ (k : Nat) (u : ByteArray), k ≤ n ∧ i = .int .i64 (k : Int) ∧ Hid (u = str ((O.take k).flatten)) ∧ PI w wr g b n x0.size u O) (fun i _ => n - (intOf i).toNat)
  case atStart => exact ⟨0, _, Nat.zero_le _, rfl, rfl, HP.out⟩
  case round =>
    obtain ⟨k, t, hk, rfl, hu, hinv⟩ := hrel
    clear HP
    have HI := Lib.hid hinv
    by_cases hkn : k < n
    · have hkl : k < O.length := by rw [HN.out]; exact hkn
      obtain ⟨x, hx⟩ : ∃ x, str O[k] = x := ⟨_, rfl⟩
      have HX : Hid (some (Value.string (str O[k])) = some (Value.string x)) := by unfold Hid; rw [hx]
      obtain ⟨t2, ht2⟩ : ∃ t2, t ++ x = t2 := ⟨_, rfl⟩
      have HU : Hid (t2 = str ((O.take (k + 1)).flatten)) := by
        unfold Hid
        rw [← ht2, hu.out, ← hx, flat_next O k hkl]
      have hsz : t.size + x.size ≤ 9223372036854775807 := by
        have h1 := HU.out
        have h2 := flat_le O (k + 1)
        have h3 : t2.size = t.size + x.size := by rw [← ht2, ByteArray.size_append]
        rw [← h3, h1, str_size]
        omega
      have HCAT := Lib.hid (fun W => run_string_add_sum (P := Tryd.prog) (w := W) t x hsz)
      rw [ht2] at HCAT
      clear hinv hu hx ht2
      go_wp2_with fail
      refine wp_region_last (fun | 0 => .pointer (some ⟨b, 2, none⟩) | 1 => .string t | 2 => .slice (some ⟨g, 0, none⟩) n cc | 3 => .int .i64 (k : Int) | 4 => .pointer (some ⟨g, k, none⟩) | 5 => .string x | 6 => .string t2 | 7 => .pointer (some ⟨b, 2, none⟩) | _ => undef) 8 (fun w' => w'.setCell ⟨b, 2, none⟩ (.string t2)) _ (by kernel_rfl) (by kernel_rfl) rfl rfl rfl rfl (by kernel_rfl) ?con ?st ?en
      case con =>
        intro i o ho hi a w2 hb2 hf
        match i, ho with
        | 0, ho =>
          obtain rfl := Option.some.inj ho
          have b5 : a.tmps[5]?.getD undef = .pointer (some ⟨b, 0, none⟩) := hf.2 5 (by kernel_rfl)
          exact wp_value (.pointer (some ⟨b, 2, none⟩)) (by unfold execOp; go_simp) ⟨rfl, Below.refl _ _⟩
        | 1, ho =>
          obtain rfl := Option.some.inj ho
          have e22 : a.tmps[22]?.getD undef = .pointer (some ⟨b, 2, none⟩) := hf.1 ⟨0, .data⟩ (by simp) rfl _ 22 rfl rfl
          have m2 := (HI.out.later hb2).m2
          exact wp_value (.string t) (by unfold execOp; go_simp) ⟨rfl, Below.refl _ _⟩
        | 2, ho =>
          obtain rfl := Option.some.inj ho
          have b4 : a.tmps[4]?.getD undef = .slice (some ⟨g, 0, none⟩) n cc := hf.2 4 (by kernel_rfl)
          exact wp_value (.slice (some ⟨g, 0, none⟩) n cc) (by unfold execOp; go_simp) ⟨rfl, Below.refl _ _⟩
        | 3, ho =>
          obtain rfl := Option.some.inj ho
          have b6 : a.tmps[6]?.getD undef = .int .i64 (k : Int) := hf.2 6 (by kernel_rfl)
          exact wp_value (.int .i64 (k : Int)) (by unfold execOp; go_simp) ⟨rfl, Below.refl _ _⟩
        | 4, ho =>
          obtain rfl := Option.some.inj ho
          have e24 : a.tmps[24]?.getD undef = .slice (some ⟨g, 0, none⟩) n cc := hf.1 ⟨2, .data⟩ (by simp) rfl _ 24 rfl rfl
          have e25 : a.tmps[25]?.getD undef = .int .i64 (k : Int) := hf.1 ⟨3, .data⟩ (by simp) rfl _ 25 rfl rfl
          exact wp_value (.pointer (some ⟨g, k, none⟩)) (by unfold execOp; go_simp) ⟨rfl, Below.refl _ _⟩
        | 5, ho =>
          obtain rfl := Option.some.inj ho
          have e26 : a.tmps[26]?.getD undef = .pointer (some ⟨g, k, none⟩) := hf.1 ⟨4, .data⟩ (by simp) rfl _ 26 rfl rfl
          have hx := ((HI.out.later hb2).cells k hkl).trans HX.out
          exact wp_value (.string x) (by unfold execOp; go_simp) ⟨rfl, Below.refl _ _⟩
        | 6, ho =>
          obtain rfl := Option.some.inj ho
          have e23 : a.tmps[23]?.getD undef = .string t := hf.1 ⟨1, .data⟩ (by simp) rfl _ 23 rfl rfl
          have e27 : a.tmps[27]?.getD undef = .string x := hf.1 ⟨5, .data⟩ (by simp) rfl _ 27 rfl rfl
          have hcat := HCAT.out w2
          exact wp_value (.string t2) (by unfold execOp; go_simp) ⟨rfl, Below.refl _ _⟩
        | 7, ho =>
          obtain rfl := Option.some.inj ho
          have b5 : a.tmps[5]?.getD undef = .pointer (some ⟨b, 0, none⟩) := hf.2 5 (by kernel_rfl)
          exact wp_value (.pointer (some ⟨b, 2, none⟩)) (by unfold execOp; go_simp) ⟨rfl, Below.refl _ _⟩
        | q + 8, ho => exact absurd hi (by omega)
      case st =>
        intro a w2 hb2 hf
        have e28 : a.tmps[28]?.getD undef = .string t2 := hf.1 ⟨6, .data⟩ (by simp) rfl _ 28 rfl rfl
        have e29 : a.tmps[29]?.getD undef = .pointer (some ⟨b, 2, none⟩) := hf.1 ⟨7, .data⟩ (by simp) rfl _ 29 rfl rfl
        have m2 := (HI.out.later hb2).m2
        have f2 := (HI.out.later hb2).f2
        exact wp_skip (by unfold execOp; go_simp) ⟨rfl, rfl⟩
      case en =>
        intro w2 hb2
        have HI2 := Lib.hid ((HI.out.later hb2).set_ t2)
        clear hb2 HI
        simp only [fill, Act.put]
        go_simp
        go_wp2_with fail
        go_roundw
        case rel => exact ⟨k + 1, t2, by omega, by go_num, HU, HI2.out⟩
        case measure => simp [intOf]; omega
    · obtain rfl : k = n := by omega
      have HB : Hid (t = str O.flatten) := by
        unfold Hid
        rw [hu.out, List.take_of_length_le (by rw [HN.out]; exact Nat.le_refl _)]
      rw [← HB.out] at HV HF
      have HB2 := Lib.hid HB.out.symm
      obtain ⟨bits, hbits2⟩ : ∃ bits, str O.flatten = bits := ⟨_, rfl⟩
      obtain ⟨q0, q1, q2⟩ : wr.cell? ⟨b, 0, none⟩ = some (.int .i64 (k : Int)) ∧ wr.cell? ⟨b, 1, none⟩ = some (.int .i64 (x0.size : Int)) ∧ wr.cell? ⟨b, 2, none⟩ = some (.string t) := ⟨hinv.m0, hinv.m1, hinv.m2⟩
      clear hinv hu
      go_wp2_with fail
      refine (HV.out _).mono ?_
      rintro e w3 ⟨rfl, hb3⟩
      have HI3 := Lib.hid (HI.out.later hb3)
      clear hb3 HI q0 q1 q2 HV
      have HR : Hid (Below w.heap.size w w3 ∧ wr.heap.size ≤ wr.heap.size) := ⟨HI3.out.below, Nat.le_refl _⟩
      obtain ⟨r0, r1, r2⟩ : w3.cell? ⟨w.heap.size, 0, none⟩ = some (.int .i64 0) ∧ w3.cell? ⟨w.heap.size, 1, none⟩ = some (.int .i64 0) ∧ w3.cell? ⟨w.heap.size, 2, none⟩ = some (.string ⟨#[]⟩) := ⟨HI3.out.r0, HI3.out.r1, HI3.out.r2⟩
      obtain ⟨g0, g1, g2⟩ : w3.frozen? ⟨w.heap.size, 0, none⟩ = false ∧ w3.frozen? ⟨w.heap.size, 1, none⟩ = false ∧ w3.frozen? ⟨w.heap.size, 2, none⟩ = false := ⟨HI3.out.g0, HI3.out.g1, HI3.out.g2⟩
      clear HR
      cases bv
      · have ht := HT.out
        rw [Bool.false_and] at ht
        subst ht
        clear HF
        go_wp2_with fail
        refine bodyPost_ret (v := .tuple #[mat 0 0 (str []), .bool false]) (by simp [results, Tryd.results33, go_sem, r0, r1, r2, str]) rfl ⟨rfl, ?_⟩
        exact ((HI3.out.below.setCell (by simp) _).setCell (by simp) _).setCell (by simp) _
      · obtain ⟨q0, q1, q2⟩ : w3.cell? ⟨b, 0, none⟩ = some (.int .i64 (k : Int)) ∧ w3.cell? ⟨b, 1, none⟩ = some (.int .i64 (x0.size : Int)) ∧ w3.cell? ⟨b, 2, none⟩ = some (.string t) := ⟨HI3.out.m0, HI3.out.m1, HI3.out.m2⟩
        clear r0 r1 r2 g0 g1 g2
        go_wp2_with fail
        refine (HF.out (by trivial) _).mono ?_
        rintro e w4 ⟨rfl, hb4⟩
        have HI4 := Lib.hid (HI3.out.later hb4)
        clear hb4 HI3 q0 q1 q2 HF
        obtain ⟨q0, q1, q2⟩ : w4.cell? ⟨b, 0, none⟩ = some (.int .i64 (k : Int)) ∧ w4.cell? ⟨b, 1, none⟩ = some (.int .i64 (x0.size : Int)) ∧ w4.cell? ⟨b, 2, none⟩ = some (.string t) := ⟨HI4.out.m0, HI4.out.m1, HI4.out.m2⟩
        obtain ⟨r0, r1, r2⟩ : w4.cell? ⟨w.heap.size, 0, none⟩ = some (.int .i64 0) ∧ w4.cell? ⟨w.heap.size, 1, none⟩ = some (.int .i64 0) ∧ w4.cell? ⟨w.heap.size, 2, none⟩ = some (.string ⟨#[]⟩) := ⟨HI4.out.r0, HI4.out.r1, HI4.out.r2⟩
        obtain ⟨g0, g1, g2⟩ : w4.frozen? ⟨w.heap.size, 0, none⟩ = false ∧ w4.frozen? ⟨w.heap.size, 1, none⟩ = false ∧ w4.frozen? ⟨w.heap.size, 2, none⟩ = false := ⟨HI4.out.g0, HI4.out.g1, HI4.out.g2⟩
        have ht := HT.out
        rw [Bool.true_and] at ht
        have hbt := HB.out
        cases tt
        · clear q0 q1 q2 hbt
          go_wp2_with fail
          refine bodyPost_ret (v := .tuple #[mat 0 0 (str []), .bool false]) (by simp [results, Tryd.results33, go_sem, r0, r1, r2, str]) rfl ⟨rfl, ?_⟩
          exact ((HI4.out.below.setCell (by simp) _).setCell (by simp) _).setCell (by simp) _
        · clear hbt
          go_wp2_with fail
          refine bodyPost_ret (v := .tuple #[mat k x0.size t, .bool true]) (by simp [results, Tryd.results33, go_sem, r0, r1, r2]) rfl ⟨by rw [HN.out, ← hbits2, ← HB.out], ?_⟩
          exact ((HI4.out.below.setCell (by simp) _).setCell (by simp) _).setCell (by simp) _
end Go.Proofs.YtalechngagkklaaDoor.PMat
