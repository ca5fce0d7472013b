/-
  The walk of the law on PairMatrices.
-/
import Derived.Test.YtojmohdfpoimaabDoorPairN
import Derived.Test.YtojmohdfpoimaabDoorPairY
import Derived.Test.YtojmohdfpoimaabDoorPairS
namespace Go.Proofs.YtojmohdfpoimaabDoor.fnExactPairMatrices
open Go.RowKit Go.Proofs.YtojmohdfpoimaabDoor.Plain Go.Proofs.YtojmohdfpoimaabDoor.Base Go.Proofs.YtojmohdfpoimaabDoor.Valid Go.Proofs.YtojmohdfpoimaabDoor.Law Go.Proofs.YtojmohdfpoimaabDoor.GridPlain Go.Proofs.YtojmohdfpoimaabDoor.Grid Go.Proofs.YtojmohdfpoimaabDoor.Entry Go.Proofs.YtojmohdfpoimaabDoor.From Go.Proofs.YtojmohdfpoimaabDoor.JoinB Go.Proofs.YtojmohdfpoimaabDoor.Ops Go.Proofs.YtojmohdfpoimaabDoor.Join Go.Proofs.YtojmohdfpoimaabDoor.JoinI Go.Proofs.YtojmohdfpoimaabDoor.PairS
open Go.Proofs.YtojmohdfpoimaabDoor
open Go.Proofs.YtojmohdfpoimaabDoor.Free (fill wp_value wp_enter wp_load_row freeB wp_region_one get_of)
set_option linter.unusedVariables false

/-- a grid for each matrix -/
theorem grid_any (r c : Int) (s : ByteArray) (hs : s.size ≤ maxLen) : ∃ (R1 C1 : Int) (f1 : Nat → Int), ∀ W : World, Calls Tryd.prog 41 #[mat r c s] W fun e w' => e = .returned (gval R1 C1 f1) ∧ Below W.heap.size W w' := by
  by_cases hv : validB r c s = true
  · obtain ⟨R, C, E, rfl, rfl, h1, h2, h3, h4, rfl⟩ := valid_form hv
    have hsz : (str (rowsB E R C)).size ≤ 64 := by rw [str_size, rowsB_length]; exact prod_le h2 h4
    exact ⟨_, _, _, fun W => grid_yes E R C h1 h2 h3 h4 _ rfl hs hsz hv W⟩
  · rw [Bool.not_eq_true] at hv
    exact ⟨_, _, _, fun W => grid_no r c s hs hv W⟩
/-- both find one matrix -/
theorem both (op : ByteArray) (r c : Int) (s : ByteArray) (hs : s.size ≤ maxLen) (r2 c2 : Int) (s2 : ByteArray) (hs2 : s2.size ≤ maxLen) : ∃ (A B : Int) (u : ByteArray) (t : Bool),
    (∀ w, Calls Tryd.prog 19 #[.string op, mat r c s, mat r2 c2 s2] w fun e w' => e = .returned (.tuple #[mat A B u, .bool t]) ∧ Below w.heap.size w w') ∧
    (∀ w, Calls Tryd.prog 20 #[.string op, mat r c s, mat r2 c2 s2] w fun e w' => e = .returned (.tuple #[mat A B u, .bool t]) ∧ Below w.heap.size w w') := by
  by_cases hk : opKnown op = true
  · by_cases hv : validB r c s = true
    · by_cases hv2 : validB r2 c2 s2 = true
      · obtain ⟨R, C, E, rfl, rfl, h1, h2, h3, h4, rfl⟩ := valid_form hv
        obtain ⟨R2, C2, G, rfl, rfl, i1, i2, i3, i4, rfl⟩ := valid_form hv2
        have hsz : (str (rowsB E R C)).size ≤ 64 := by rw [str_size, rowsB_length]; exact prod_le h2 h4
        have hsz2 : (str (rowsB G R2 C2)).size ≤ 64 := by rw [str_size, rowsB_length]; exact prod_le i2 i4
        have hg1 := fun W => grid_yes E R C h1 h2 h3 h4 _ rfl hs hsz hv W
        have hg2 := fun W => grid_yes G R2 C2 i1 i2 i3 i4 _ rfl hs2 hsz2 hv2 W
        have hp : wrap64 ((R : Int) * (R2 : Int)) = ((R * R2 : Nat) : Int) := wrap_prod R R2 h2 i2
        have hq : wrap64 ((C : Int) * (C2 : Int)) = ((C * C2 : Nat) : Int) := wrap_prod C C2 h4 i4
        have hP1 : 1 ≤ R * R2 := Nat.mul_le_mul h1 i1
        have hQ1 : 1 ≤ C * C2 := Nat.mul_le_mul h3 i3
        by_cases e1 : R * R2 ≤ 8
        · by_cases e2 : C * C2 ≤ 8
          · exact ⟨_, _, _, _, fun w => pair_spec op hk E G R C R2 C2 h2 h4 i1 i2 i3 i4 _ _ rfl rfl e1 hQ1 e2 hv hv2 hs hs2 w, fun w => PairY.impl_yes op hk R C R2 C2 h1 h2 h3 h4 i1 i2 i3 i4 _ _ rfl rfl hP1 e1 hQ1 e2 E G _ _ hg1 hg2 w⟩
          · exact ⟨0, 0, str [], false, fun w => PairN.spec_great2 op hk _ _ _ _ _ _ hs hs2 hv hv2 _ _ hp hq (by omega) (by omega) w, fun w => PairI.impl_great op hk _ _ _ _ _ _ _ _ _ _ _ _ _ _ hp hq (by omega) hg1 hg2 w⟩
        · exact ⟨0, 0, str [], false, fun w => PairN.spec_great1 op hk _ _ _ _ _ _ hs hs2 hv hv2 _ _ hp hq (by omega) w, fun w => PairI.impl_great op hk _ _ _ _ _ _ _ _ _ _ _ _ _ _ hp hq (by omega) hg1 hg2 w⟩
      · rw [Bool.not_eq_true] at hv2
        obtain ⟨R, C, E, rfl, rfl, h1, h2, h3, h4, rfl⟩ := valid_form hv
        have hsz : (str (rowsB E R C)).size ≤ 64 := by rw [str_size, rowsB_length]; exact prod_le h2 h4
        have hg1 := fun W => grid_yes E R C h1 h2 h3 h4 _ rfl hs hsz hv W
        have hg2 := fun W => grid_no r2 c2 s2 hs2 hv2 W
        exact ⟨0, 0, str [], false, fun w => PairN.spec_bad2 op hk _ _ _ _ _ _ hs hs2 hv hv2 w, fun w => PairI.impl_great op hk _ _ _ _ _ _ _ _ _ _ _ _ 0 0 (by rw [Int.mul_zero]; first | decide | (unfold wrap64; omega)) (by rw [Int.mul_zero]; first | decide | (unfold wrap64; omega)) (.inl (.inl (by omega))) hg1 hg2 w⟩
    · rw [Bool.not_eq_true] at hv
      have hg1 := fun W => grid_no r c s hs hv W
      obtain ⟨R2, C2, f2, hg2⟩ := grid_any r2 c2 s2 hs2
      exact ⟨0, 0, str [], false, fun w => PairN.spec_bad1 op hk _ _ _ _ _ _ hs hs2 hv w, fun w => PairI.impl_great op hk _ _ _ _ _ _ _ _ _ _ _ _ 0 0 (by rw [Int.zero_mul]; first | decide | (unfold wrap64; omega)) (by rw [Int.zero_mul]; first | decide | (unfold wrap64; omega)) (.inl (.inl (by omega))) hg1 hg2 w⟩
  · rw [Bool.not_eq_true] at hk
    obtain ⟨R1, C1, f1, hg1⟩ := grid_any r c s hs
    obtain ⟨R2, C2, f2, hg2⟩ := grid_any r2 c2 s2 hs2
    exact ⟨0, 0, str [], false, fun w => PairN.spec_unknown op hk _ _ _ _ _ _ hs hs2 w, fun w => PairI.impl_unknown op hk _ _ _ _ _ _ _ _ _ _ _ _ hg1 hg2 w⟩

theorem linfo : (Tryd.prog.info? 28).map (·.size) = some 3 := by kernel_rfl
/-- the law's own boxes -/
def MBox (w : World) (b : Nat) (t : TypeId) (r c : Int) (s : ByteArray) : Prop := w.heap[b]? = some (.cells #[.int .i64 r, .int .i64 c, .string s] t (0, 0))
theorem MBox.on {w w1 : World} {b : Nat} {t : TypeId} {r c : Int} {s : ByteArray} (h : MBox w b t r c s) (hb : Below w.heap.size w w1) : MBox w1 b t r c s := (hb.block b (Array.getElem?_eq_some_iff.1 h).1).trans h
theorem MBox.c {w : World} {b : Nat} {t : TypeId} {r c : Int} {s : ByteArray} (h : MBox w b t r c s) : w.cell? ⟨b, 0, none⟩ = some (.int .i64 r) ∧ w.cell? ⟨b, 1, none⟩ = some (.int .i64 c) ∧ w.cell? ⟨b, 2, none⟩ = some (.string s) := cells3 h
theorem boxesM {w w1 : World} {r c x y : Int} {s t : ByteArray} {T U : TypeId} (hb : Below ((w.alloc (.cells #[.int .i64 r, .int .i64 c, .string s] T)).alloc (.cells #[.int .i64 x, .int .i64 y, .string t] U)).heap.size ((w.alloc (.cells #[.int .i64 r, .int .i64 c, .string s] T)).alloc (.cells #[.int .i64 x, .int .i64 y, .string t] U)) w1) :
    MBox w1 w.heap.size T r c s ∧ MBox w1 (w.heap.size + 1) U x y t ∧ Below w.heap.size w w1 := by
  have h1 : MBox ((w.alloc (.cells #[.int .i64 r, .int .i64 c, .string s] T)).alloc (.cells #[.int .i64 x, .int .i64 y, .string t] U)) w.heap.size T r c s := (Below.heap_alloc _ _ _ (by simp)).trans (heap_alloc_new w _)
  have h2 : MBox ((w.alloc (.cells #[.int .i64 r, .int .i64 c, .string s] T)).alloc (.cells #[.int .i64 x, .int .i64 y, .string t] U)) (w.heap.size + 1) U x y t := by
    have := heap_alloc_new (w.alloc (.cells #[.int .i64 r, .int .i64 c, .string s] T)) (.cells #[.int .i64 x, .int .i64 y, .string t] U)
    rwa [World.size_alloc] at this
  have h0 : Below w.heap.size w ((w.alloc (.cells #[.int .i64 r, .int .i64 c, .string s] T)).alloc (.cells #[.int .i64 x, .int .i64 y, .string t] U)) := ((Below.refl w.heap.size w).alloc (Nat.le_refl _) _).alloc (by simp) _
  exact ⟨h1.on hb, h2.on hb, bstep h0 hb⟩

set_option maxHeartbeats 1000000 in
set_option maxRecDepth 100000 in
theorem walk (op : ByteArray) (hop : op.size ≤ maxLen) (r c : Int) (s : ByteArray) (wr : (Lit.int .i64 r).wf = true) (wc : (Lit.int .i64 c).wf = true) (hs : s.size ≤ maxLen) (r2 c2 : Int) (s2 : ByteArray) (wr2 : (Lit.int .i64 r2).wf = true) (wc2 : (Lit.int .i64 c2).wf = true) (hs2 : s2.size ≤ maxLen) (w : World) :
    Calls Tryd.prog 6 #[.string op, mat r c s, mat r2 c2 s2] w fun e w' => e = .returned (.bool true) ∧ Below w.heap.size w w' := by
  obtain ⟨A, B, u, t, hspec, himpl⟩ := both op r c s hs r2 c2 s2 hs2
  have HS := Lib.hid hspec
  have HI := Lib.hid himpl
  clear hspec himpl
  have hop2 := hop
  have hs3 := hs
  have hs4 := hs2
  unfold maxLen at hop2 hs3 hs4
  by_cases hbo : 1048576 < op.size
  · go_enter Tryd.func6, Tryd.ntmps6
    go_wp2_with fail
    go_ret
    exact ⟨rfl, by go_grown⟩
  by_cases hbig : 1048576 < s.size
  · go_enter Tryd.func6, Tryd.ntmps6
    go_wp2_with fail
    refine (sz_over r c s _ (by omega) (by omega) hs _).mono ?_
    rintro e w1 ⟨rfl, hb1⟩
    obtain ⟨m0, t0, hbel⟩ := boxesM hb1
    have HB := Lib.hid hbel
    clear hb1 m0 t0 hbel
    go_wp2_with fail
    go_ret
    exact ⟨rfl, HB.out⟩
  by_cases hbig2 : 1048576 < s.size + s2.size
  · go_enter Tryd.func6, Tryd.ntmps6
    go_wp2_with fail
    refine (sz_fits r c s _ (by omega) (by omega) _).mono ?_
    rintro e W0 ⟨rfl, hb1⟩
    obtain ⟨m0, t0, hbel⟩ := boxesM hb1
    obtain ⟨q0, q1, q2⟩ := t0.c
    have HB0 := Lib.hid hbel
    clear hb1 m0 t0 hbel
    go_wp2_with fail
    refine (sz_over r2 c2 s2 _ (by omega) (by omega) hs2 _).mono ?_
    rintro e W1 ⟨rfl, hb2⟩
    have HB1 := Lib.hid (bstep HB0.out hb2)
    clear hb2 q0 q1 q2
    go_wp2_with fail
    go_ret
    exact ⟨rfl, HB1.out⟩
  · go_enter Tryd.func6, Tryd.ntmps6
    go_wp2_with fail
    refine (sz_fits r c s _ (by omega) (by omega) _).mono ?_
    rintro e W9 ⟨rfl, hb1⟩
    obtain ⟨m0, t0, hbel⟩ := boxesM hb1
    obtain ⟨q0, q1, q2⟩ := t0.c
    have M0 := Lib.hid m0
    have N0 := Lib.hid t0
    have HB9 := Lib.hid hbel
    clear hb1 m0 t0 hbel
    go_wp2_with fail
    refine (sz_fits r2 c2 s2 _ (by omega) (by omega) _).mono ?_
    rintro e W0 ⟨rfl, hb2⟩
    have T0 := M0.out.on hb2
    have T1 := N0.out.on hb2
    have HB0 := Lib.hid (bstep HB9.out hb2)
    clear hb2 q0 q1 q2 M0 N0 HB9
    go_wp2_with fail
    refine wp_region_one (fun | 0 => .string op | 1 => mat r c s | 2 => mat r c s | 3 => mat r2 c2 s2 | 4 => mat r2 c2 s2 | 5 => .tuple #[mat A B u, .bool t] | 6 => .tuple #[mat A B u, .bool t] | 7 => mat A B u | 8 => .bool t | 11 => .bool t | _ => undef) 9 10 8 23 #[.int .i64 0, .int .i64 0, .string ⟨#[]⟩] #[.int .i64 A, .int .i64 B, .string u] _ _
      (by kernel_rfl) (by kernel_rfl) rfl rfl rfl rfl rfl (by decide) ⟨_, List.mem_toArray.2 List.mem_cons_self, rfl, rfl⟩ rfl ?al ?st ?con ?en
    case al =>
      intro a w
      unfold execOp
      go_simp
    case st =>
      intro a w1 b old hf hp hg hsz
      refine wp_store_row 23 (.tmp 8) (.tmp 32) rfl b #[.int .i64 A, .int .i64 B, .string u] hp ?_ 23 old hg minfo hsz (by simp [Value.oneCell']) ⟨rfl, rfl⟩
      exact hf.1 ⟨7, .data⟩ (by simp) rfl _ 32 rfl rfl (by decide) (by decide)
    case con =>
      intro i o ho n1 n2 a w1 hb hf
      match i, ho with
      | 0, ho =>
        obtain rfl := Option.some.inj ho
        have b0 : a.tmps[0]?.getD undef = .string op := get_of (hf.2 0 (by kernel_rfl))
        exact wp_value (.string op) (by unfold execOp; go_simp) ⟨rfl, Below.refl _ _⟩
      | 1, ho =>
        obtain rfl := Option.some.inj ho
        exact wp_load_row 28 (.tmp 4) rfl w.heap.size (hf.2 4 (by kernel_rfl)) 28 _ (0, 0) _ (T0.on hb) Tryd.underlying28 rfl linfo ⟨rfl, Below.refl _ _⟩
      | 2, ho =>
        obtain rfl := Option.some.inj ho
        have e27 : a.tmps[27]?.getD undef = mat r c s := get_of (hf.1 ⟨1, .data⟩ (by simp) rfl _ 27 rfl rfl (by decide) (by decide))
        exact wp_enter 15 #[mat r c s] (mat r c s) _ (by unfold execOp; go_simp) (to_any r c s w1) (fun w' h => ⟨rfl, h⟩)
      | 3, ho =>
        obtain rfl := Option.some.inj ho
        exact wp_load_row 28 (.tmp 5) rfl (w.heap.size + 1) (hf.2 5 (by kernel_rfl)) 28 _ (0, 0) _ (T1.on hb) Tryd.underlying28 rfl linfo ⟨rfl, Below.refl _ _⟩
      | 4, ho =>
        obtain rfl := Option.some.inj ho
        have e29 : a.tmps[29]?.getD undef = mat r2 c2 s2 := get_of (hf.1 ⟨3, .data⟩ (by simp) rfl _ 29 rfl rfl (by decide) (by decide))
        exact wp_enter 15 #[mat r2 c2 s2] (mat r2 c2 s2) _ (by unfold execOp; go_simp) (to_any r2 c2 s2 w1) (fun w' h => ⟨rfl, h⟩)
      | 5, ho =>
        obtain rfl := Option.some.inj ho
        have e26 : a.tmps[26]?.getD undef = .string op := get_of (hf.1 ⟨0, .data⟩ (by simp) rfl _ 26 rfl rfl (by decide) (by decide))
        have e28 : a.tmps[28]?.getD undef = mat r c s := get_of (hf.1 ⟨2, .data⟩ (by simp) rfl _ 28 rfl rfl (by decide) (by decide))
        have e30 : a.tmps[30]?.getD undef = mat r2 c2 s2 := get_of (hf.1 ⟨4, .data⟩ (by simp) rfl _ 30 rfl rfl (by decide) (by decide))
        exact wp_enter 19 #[.string op, mat r c s, mat r2 c2 s2] (.tuple #[mat A B u, .bool t]) _ (by unfold execOp; go_simp) (HS.out w1) (fun w' h => ⟨rfl, h⟩)
      | 6, ho =>
        obtain rfl := Option.some.inj ho
        have e31 : a.tmps[31]?.getD undef = .tuple #[mat A B u, .bool t] := get_of (hf.1 ⟨5, .data⟩ (by simp) rfl _ 31 rfl rfl (by decide) (by decide))
        exact wp_value (.tuple #[mat A B u, .bool t]) (by unfold execOp; go_simp) ⟨rfl, Below.refl _ _⟩
      | 7, ho =>
        obtain rfl := Option.some.inj ho
        have e25 : a.tmps[25]?.getD undef = .tuple #[mat A B u, .bool t] := get_of (hf.1 ⟨6, .data⟩ (by simp) rfl _ 25 rfl rfl (by decide) (by decide))
        exact wp_value (mat A B u) (by unfold execOp; go_simp) ⟨rfl, Below.refl _ _⟩
      | 8, ho =>
        obtain rfl := Option.some.inj ho
        have e25 : a.tmps[25]?.getD undef = .tuple #[mat A B u, .bool t] := get_of (hf.1 ⟨6, .data⟩ (by simp) rfl _ 25 rfl rfl (by decide) (by decide))
        exact wp_value (.bool t) (by unfold execOp; go_simp) ⟨rfl, Below.refl _ _⟩
      | 9, ho => exact absurd rfl n1
      | 10, ho => exact absurd rfl n2
      | 11, ho =>
        obtain rfl := Option.some.inj ho
        have e33 : a.tmps[33]?.getD undef = .bool t := get_of (hf.1 ⟨8, .data⟩ (by simp) rfl _ 33 rfl rfl (by decide) (by decide))
        exact wp_value (.bool t) (by unfold execOp; go_simp) ⟨rfl, Below.refl _ _⟩
      | q + 12, ho => simp at ho
    case en =>
      intro b1 W1 hb hle hcell
      have T0 := T0.on hb
      have T1 := T1.on hb
      have HB1 := Lib.hid (bstep HB0.out hb)
      have C1 : MBox W1 b1 23 A B u := hcell
      clear hb hcell HB0
      simp only [fill, Act.put]
      go_simp
      go_wp2_with fail
      refine wp_region_one (fun | 0 => .string op | 1 => mat r c s | 2 => mat r c s | 3 => mat r2 c2 s2 | 4 => mat r2 c2 s2 | 5 => .tuple #[mat A B u, .bool t] | 6 => .tuple #[mat A B u, .bool t] | 7 => mat A B u | 8 => .bool t | 11 => .bool t | _ => undef) 9 10 10 23 #[.int .i64 0, .int .i64 0, .string ⟨#[]⟩] #[.int .i64 A, .int .i64 B, .string u] _ _
        (by kernel_rfl) (by kernel_rfl) rfl rfl rfl rfl rfl (by decide) ⟨_, List.mem_toArray.2 List.mem_cons_self, rfl, rfl⟩ rfl ?al2 ?st2 ?con2 ?en2
      case al2 =>
        intro a w
        unfold execOp
        go_simp
      case st2 =>
        intro a w1 b old hf hp hg hsz
        refine wp_store_row 23 (.tmp 10) (.tmp 41) rfl b #[.int .i64 A, .int .i64 B, .string u] hp ?_ 23 old hg minfo hsz (by simp [Value.oneCell']) ⟨rfl, rfl⟩
        exact hf.1 ⟨7, .data⟩ (by simp) rfl _ 41 rfl rfl (by decide) (by decide)
      case con2 =>
        intro i o ho n1 n2 a w1 hb hf
        match i, ho with
        | 0, ho =>
          obtain rfl := Option.some.inj ho
          have b0 : a.tmps[0]?.getD undef = .string op := get_of (hf.2 0 (by kernel_rfl))
          exact wp_value (.string op) (by unfold execOp; go_simp) ⟨rfl, Below.refl _ _⟩
        | 1, ho =>
          obtain rfl := Option.some.inj ho
          exact wp_load_row 28 (.tmp 4) rfl w.heap.size (hf.2 4 (by kernel_rfl)) 28 _ (0, 0) _ (T0.on hb) Tryd.underlying28 rfl linfo ⟨rfl, Below.refl _ _⟩
        | 2, ho =>
          obtain rfl := Option.some.inj ho
          have e36 : a.tmps[36]?.getD undef = mat r c s := get_of (hf.1 ⟨1, .data⟩ (by simp) rfl _ 36 rfl rfl (by decide) (by decide))
          exact wp_enter 15 #[mat r c s] (mat r c s) _ (by unfold execOp; go_simp) (to_any r c s w1) (fun w' h => ⟨rfl, h⟩)
        | 3, ho =>
          obtain rfl := Option.some.inj ho
          exact wp_load_row 28 (.tmp 5) rfl (w.heap.size + 1) (hf.2 5 (by kernel_rfl)) 28 _ (0, 0) _ (T1.on hb) Tryd.underlying28 rfl linfo ⟨rfl, Below.refl _ _⟩
        | 4, ho =>
          obtain rfl := Option.some.inj ho
          have e38 : a.tmps[38]?.getD undef = mat r2 c2 s2 := get_of (hf.1 ⟨3, .data⟩ (by simp) rfl _ 38 rfl rfl (by decide) (by decide))
          exact wp_enter 15 #[mat r2 c2 s2] (mat r2 c2 s2) _ (by unfold execOp; go_simp) (to_any r2 c2 s2 w1) (fun w' h => ⟨rfl, h⟩)
        | 5, ho =>
          obtain rfl := Option.some.inj ho
          have e35 : a.tmps[35]?.getD undef = .string op := get_of (hf.1 ⟨0, .data⟩ (by simp) rfl _ 35 rfl rfl (by decide) (by decide))
          have e37 : a.tmps[37]?.getD undef = mat r c s := get_of (hf.1 ⟨2, .data⟩ (by simp) rfl _ 37 rfl rfl (by decide) (by decide))
          have e39 : a.tmps[39]?.getD undef = mat r2 c2 s2 := get_of (hf.1 ⟨4, .data⟩ (by simp) rfl _ 39 rfl rfl (by decide) (by decide))
          exact wp_enter 20 #[.string op, mat r c s, mat r2 c2 s2] (.tuple #[mat A B u, .bool t]) _ (by unfold execOp; go_simp) (HI.out w1) (fun w' h => ⟨rfl, h⟩)
        | 6, ho =>
          obtain rfl := Option.some.inj ho
          have e40 : a.tmps[40]?.getD undef = .tuple #[mat A B u, .bool t] := get_of (hf.1 ⟨5, .data⟩ (by simp) rfl _ 40 rfl rfl (by decide) (by decide))
          exact wp_value (.tuple #[mat A B u, .bool t]) (by unfold execOp; go_simp) ⟨rfl, Below.refl _ _⟩
        | 7, ho =>
          obtain rfl := Option.some.inj ho
          have e34 : a.tmps[34]?.getD undef = .tuple #[mat A B u, .bool t] := get_of (hf.1 ⟨6, .data⟩ (by simp) rfl _ 34 rfl rfl (by decide) (by decide))
          exact wp_value (mat A B u) (by unfold execOp; go_simp) ⟨rfl, Below.refl _ _⟩
        | 8, ho =>
          obtain rfl := Option.some.inj ho
          have e34 : a.tmps[34]?.getD undef = .tuple #[mat A B u, .bool t] := get_of (hf.1 ⟨6, .data⟩ (by simp) rfl _ 34 rfl rfl (by decide) (by decide))
          exact wp_value (.bool t) (by unfold execOp; go_simp) ⟨rfl, Below.refl _ _⟩
        | 9, ho => exact absurd rfl n1
        | 10, ho => exact absurd rfl n2
        | 11, ho =>
          obtain rfl := Option.some.inj ho
          have e42 : a.tmps[42]?.getD undef = .bool t := get_of (hf.1 ⟨8, .data⟩ (by simp) rfl _ 42 rfl rfl (by decide) (by decide))
          exact wp_value (.bool t) (by unfold execOp; go_simp) ⟨rfl, Below.refl _ _⟩
        | q + 12, ho => simp at ho
      case en2 =>
        intro b2 W2 hb hle2 hcell
        have HB2 := Lib.hid (bstep HB1.out hb)
        obtain ⟨k0, k1, k2⟩ := (C1.on hb).c
        obtain ⟨j0, j1, j2⟩ := MBox.c (t := 23) hcell
        clear hb hcell HB1 T0 T1 C1
        simp only [fill, Act.put]
        go_simp
        go_wp2_with fail
        refine (eq_same _ _ _ _).mono ?_
        rintro e w6 ⟨rfl, hb6⟩
        have HB6 := Lib.hid (bstep HB2.out hb6)
        clear hb6 HB2
        cases t
        all_goals
          go_wp2_with fail
          go_ret
          exact ⟨rfl, HB6.out⟩
end Go.Proofs.YtojmohdfpoimaabDoor.fnExactPairMatrices
