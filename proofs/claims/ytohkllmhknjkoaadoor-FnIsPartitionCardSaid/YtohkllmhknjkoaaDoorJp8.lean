/-
  Texts of one seat, joined: Rd4, Rd5, Make.
-/
import Derived.Test.YtohkllmhknjkoaaDoorJp1
import Derived.Test.YtohkllmhknjkoaaDoorJp7
import Derived.Deep.RegionHeld3
/-
  The drawing function l2Bad.
-/
namespace Go.Proofs.YtohkllmhknjkoaaDoor.Rd4
open Go.RowKit Go.Proofs.YtohkllmhknjkoaaDoor.Plain Go.Proofs.YtohkllmhknjkoaaDoor.Rd Go.Proofs.YtohkllmhknjkoaaDoor.Rd2 Go.Proofs.YtohkllmhknjkoaaDoor.Rd3
set_option linter.unusedVariables false

/-- a number of 64 bits -/
def W64 (x : Int) : Prop := -9223372036854775808 ≤ x ∧ x ≤ 9223372036854775807
theorem cells2 {w : World} {g : Nat} {T : TypeId} {a b : Value} (h : w.heap[g]? = some (.cells #[a, b] T (0, 0))) : w.cell? ⟨g, 0, none⟩ = some a ∧ w.cell? ⟨g, 1, none⟩ = some b ∧ w.frozen? ⟨g, 0, none⟩ = false ∧ w.frozen? ⟨g, 1, none⟩ = false :=
  ⟨cell_of_row _ _ 0 _ _ _ h, cell_of_row _ _ 1 _ _ _ h, frozen_of_row _ _ 0 _ _ h, frozen_of_row _ _ 1 _ _ h⟩

set_option maxHeartbeats 2000000 in
theorem bad_rect {lo : Nat} (g p : Nat) (hp : p < 1048000) (x y : Int) (hx : W64 x) (hy : W64 y) (w : World) (h : Rdr lo w g p) :
    Calls Tryd.prog 62 #[.pointer (some ⟨g, 0, none⟩), .agg #[.int .i64 x, .int .i64 y]] w fun e w' => ∃ (a b : Int) (p' : Nat), e = .returned (.agg #[.int .i64 a, .int .i64 b]) ∧ W64 a ∧ W64 b ∧ p ≤ p' ∧ p' ≤ p + 2 ∧ Rdr lo w' g p' ∧ Apt g w w' := by
  have hg := h.lt
  have h0 := h.later (two_start_below w (.cells #[.int .i64 x, .int .i64 y] 39) (.cells #[.int .i64 0, .int .i64 0] 39))
  have hT := Two.start g w 39 39 #[.int .i64 x, .int .i64 y] #[.int .i64 0, .int .i64 0]
  have HP := Lib.hid (pick_r g p (by omega) 30 _ h0)
  clear h0
  go_enter Tryd.func62, Tryd.ntmps62
  go_wp2_with fail
  refine HP.out.mono ?_
  rintro e w1 ⟨k, rfl, ⟨hk0, -⟩, -, hr, ha⟩
  have hT1 := hT.later hg ha
  clear hT HP
  by_cases hk : k = 0
  · subst hk
    have hr2 := hr.later ((Below.refl w1.heap.size w1).alloc (Nat.le_refl _) (.cells ([0, -1, 256, 255, 9223372036854775807].map fun x : Int => Value.int .i64 x).toArray 3))
    have HN := Lib.hid (num_any g (p + 1) (by omega) [0, -1, 256, 255, 9223372036854775807] (by decide) (by decide) w1.heap.size 5 (by have := hr.lt; omega) _ hr2 (by simp) (fun j hj => cells_lit w1 3 [0, -1, 256, 255, 9223372036854775807] j hj))
    have HT1 := Lib.hid hT1
    clear hr hr2 ha hk0 hT1
    go_wp2_with fail
    refine HN.out.mono ?_
    rintro e w2 ⟨y2, rfl, hm, hr3, ha3⟩
    have hT2 := HT1.out.later hg ((Apt.of_below ((Below.refl w1.heap.size w1).alloc (Nat.le_refl _) _)).trans ha3)
    obtain ⟨q0, q1, r0, r1⟩ := cells2 hT2.one
    obtain ⟨o0, o1, f0, f1⟩ := cells2 hT2.two
    have HR := Lib.hid hr3
    have HA := Lib.hid hT2.apt
    have hb : W64 y2 := by
      unfold W64
      simp at hm
      omega
    clear hr3 ha3 HN hT2 HT1 hm
    go_wp2_with fail
    refine bodyPost_ret (v := .agg #[.int .i64 y2, .int .i64 y]) (by simp [results, Tryd.results62, go_sem, o0, o1]) rfl ⟨y2, y, p + 2, rfl, hb, hy, by omega, by omega, ?_, ?_⟩
    · exact rdr_set (rdr_set (rdr_set HR.out _ _ _ (by omega)) _ _ _ (by omega)) _ _ _ (by omega)
    · exact apt_set (apt_set (apt_set HA.out _ _ (by omega) _) _ _ (by omega) _) _ _ (by omega) _
  by_cases hk1 : k = 1
  · subst hk1
    have hr2 := hr.later ((Below.refl w1.heap.size w1).alloc (Nat.le_refl _) (.cells ([0, -1, 256, 255].map fun x : Int => Value.int .i64 x).toArray 3))
    have HN := Lib.hid (num_any g (p + 1) (by omega) [0, -1, 256, 255] (by decide) (by decide) w1.heap.size 4 (by have := hr.lt; omega) _ hr2 (by simp) (fun j hj => cells_lit w1 3 [0, -1, 256, 255] j hj))
    have HT1 := Lib.hid hT1
    clear hr hr2 ha hk0 hT1
    go_wp2_with fail
    refine HN.out.mono ?_
    rintro e w2 ⟨y2, rfl, hm, hr3, ha3⟩
    have hT2 := HT1.out.later hg ((Apt.of_below ((Below.refl w1.heap.size w1).alloc (Nat.le_refl _) _)).trans ha3)
    obtain ⟨q0, q1, r0, r1⟩ := cells2 hT2.one
    obtain ⟨o0, o1, f0, f1⟩ := cells2 hT2.two
    have HR := Lib.hid hr3
    have HA := Lib.hid hT2.apt
    have hb : W64 y2 := by
      unfold W64
      simp at hm
      omega
    clear hr3 ha3 HN hT2 HT1 hm
    go_wp2_with fail
    refine bodyPost_ret (v := .agg #[.int .i64 x, .int .i64 y2]) (by simp [results, Tryd.results62, go_sem, o0, o1]) rfl ⟨x, y2, p + 2, rfl, hx, hb, by omega, by omega, ?_, ?_⟩
    · exact rdr_set (rdr_set (rdr_set HR.out _ _ _ (by omega)) _ _ _ (by omega)) _ _ _ (by omega)
    · exact apt_set (apt_set (apt_set HA.out _ _ (by omega) _) _ _ (by omega) _) _ _ (by omega) _
  obtain ⟨q0, q1, r0, r1⟩ := cells2 hT1.one
  obtain ⟨o0, o1, f0, f1⟩ := cells2 hT1.two
  have HR := Lib.hid hr
  have HA := Lib.hid hT1.apt
  clear hr ha hT1 hk0
  go_wp2_with fail
  refine bodyPost_ret (v := .agg #[.int .i64 x, .int .i64 y]) (by simp [results, Tryd.results62, go_sem, o0, o1]) rfl ⟨x, y, p + 1, rfl, hx, hy, by omega, by omega, ?_, ?_⟩
  · exact rdr_set (rdr_set HR.out _ _ _ (by omega)) _ _ _ (by omega)
  · exact apt_set (apt_set HA.out _ _ (by omega) _) _ _ (by omega) _
end Go.Proofs.YtohkllmhknjkoaaDoor.Rd4

/-
  The drawing function l1Bad.
-/
namespace Go.Proofs.YtohkllmhknjkoaaDoor.Rd5
open Go.RowKit Go.Proofs.YtohkllmhknjkoaaDoor.Plain Go.Proofs.YtohkllmhknjkoaaDoor.Rd Go.Proofs.YtohkllmhknjkoaaDoor.Rd2 Go.Proofs.YtohkllmhknjkoaaDoor.Rd3 Go.Proofs.YtohkllmhknjkoaaDoor.Rd4
set_option linter.unusedVariables false

theorem cells3 {w : World} {g : Nat} {T : TypeId} {a b c : Value} (h : w.heap[g]? = some (.cells #[a, b, c] T (0, 0))) : w.cell? ⟨g, 0, none⟩ = some a ∧ w.cell? ⟨g, 1, none⟩ = some b ∧ w.cell? ⟨g, 2, none⟩ = some c ∧ w.frozen? ⟨g, 0, none⟩ = false ∧ w.frozen? ⟨g, 1, none⟩ = false ∧ w.frozen? ⟨g, 2, none⟩ = false :=
  ⟨cell_of_row _ _ 0 _ _ _ h, cell_of_row _ _ 1 _ _ _ h, cell_of_row _ _ 2 _ _ _ h, frozen_of_row _ _ 0 _ _ h, frozen_of_row _ _ 1 _ _ h, frozen_of_row _ _ 2 _ _ h⟩
/-- a drawn matrix -/
abbrev mtx (r c : Int) (s : ByteArray) : Value := .agg #[.int .i64 r, .int .i64 c, .string s]

set_option maxHeartbeats 2000000 in
theorem bad_mat {lo : Nat} (g p : Nat) (hp : p < 1048000) (r c : Int) (s : ByteArray) (hr1 : 1 ≤ r) (hr8 : r ≤ 8) (hc : W64 c) (hs1 : 1 ≤ s.size) (hs : s.size ≤ 64) (w : World) (h : Rdr lo w g p) :
    Calls Tryd.prog 57 #[.pointer (some ⟨g, 0, none⟩), mtx r c s] w fun e w' => ∃ (a b : Int) (t : ByteArray) (p' : Nat), e = .returned (mtx a b t) ∧ W64 a ∧ W64 b ∧ t.size ≤ 100 ∧ p ≤ p' ∧ p' ≤ p + 2 ∧ Rdr lo w' g p' ∧ Apt g w w' := by
  have hg := h.lt
  have h0 := h.later (two_start_below w (.cells #[.int .i64 r, .int .i64 c, .string s] 26) (.cells #[.int .i64 0, .int .i64 0, .string ⟨#[]⟩] 26))
  have hT := Two.start g w 26 26 #[.int .i64 r, .int .i64 c, .string s] #[.int .i64 0, .int .i64 0, .string ⟨#[]⟩]
  have HP := Lib.hid (pick_r g p (by omega) 40 _ h0)
  have hr : W64 r := ⟨by omega, by omega⟩
  clear h0
  go_enter Tryd.func57, Tryd.ntmps57
  go_wp2_with fail
  refine HP.out.mono ?_
  rintro e w1 ⟨k, rfl, ⟨hk0, -⟩, -, hrd, ha⟩
  have hT1 := hT.later hg ha
  clear hT HP
  by_cases hk : k = 0
  · subst hk
    obtain ⟨q0, q1, q2, r0, r1, r2⟩ := cells3 hT1.one
    have hr2 := hrd.later ((Below.refl w1.heap.size w1).alloc (Nat.le_refl _) (.cells ([0, -1, 9, r + 1, 9223372036854775807].map fun x : Int => Value.int .i64 x).toArray 3))
    have HN := Lib.hid (num_any g (p + 1) (by omega) [0, -1, 9, r + 1, 9223372036854775807] (by simp) (by simp) w1.heap.size 5 (by have := hrd.lt; omega) _ hr2 (by simp) (fun j hj => cells_lit w1 3 [0, -1, 9, r + 1, 9223372036854775807] j hj))
    have HT1 := Lib.hid hT1
    clear hrd hr2 ha hk0 hT1
    go_wp2_with fail
    refine HN.out.mono ?_
    rintro e w2 ⟨y2, rfl, hm, hr3, ha3⟩
    have hT2 := HT1.out.later hg ((Apt.of_below ((Below.refl w1.heap.size w1).alloc (Nat.le_refl _) _)).trans ha3)
    clear q0 q1 q2 r0 r1 r2
    obtain ⟨q0, q1, q2, r0, r1, r2⟩ := cells3 hT2.one
    obtain ⟨o0, o1, o2, f0, f1, f2⟩ := cells3 hT2.two
    have HR := Lib.hid hr3
    have HA := Lib.hid hT2.apt
    have hb : W64 y2 := by
      unfold W64
      simp at hm
      omega
    clear hr3 ha3 HN hT2 HT1 hm
    go_wp2_with fail
    refine bodyPost_ret (v := mtx (y2) (c) (s)) (by simp [results, Tryd.results57, go_sem, o0, o1, o2]) rfl ⟨y2, c, s, p + 2, rfl, hb, hc, by omega, by omega, by omega, ?_, ?_⟩
    · exact rdr_set (rdr_set (rdr_set (rdr_set (HR.out) _ _ _ (by omega)) _ _ _ (by omega)) _ _ _ (by omega)) _ _ _ (by omega)
    · exact apt_set (apt_set (apt_set (apt_set (HA.out) _ _ (by omega) _) _ _ (by omega) _) _ _ (by omega) _) _ _ (by omega) _
  obtain ⟨q0, q1, q2, r0, r1, r2⟩ := cells3 hT1.one
  obtain ⟨o0, o1, o2, f0, f1, f2⟩ := cells3 hT1.two
  have HR := Lib.hid hrd
  have HA := Lib.hid hT1.apt
  clear hrd ha hT1
  by_cases hk1 : k = 1
  · subst hk1
    have hcat := fun W => run_string_add_sum (P := Tryd.prog) (w := W) s ⟨#[48]⟩ (by show s.size + 1 ≤ 9223372036854775807; omega)
    go_wp2_with fail
    refine bodyPost_ret (v := mtx (r) (c) (s ++ ⟨#[48]⟩)) (by simp [results, Tryd.results57, go_sem, o0, o1, o2]) rfl ⟨r, c, s ++ ⟨#[48]⟩, p + 1, rfl, hr, hc, by rw [ByteArray.size_append]; show s.size + 1 ≤ 100; omega, by omega, by omega, ?_, ?_⟩
    · exact rdr_set (rdr_set (rdr_set (rdr_set (HR.out) _ _ _ (by omega)) _ _ _ (by omega)) _ _ _ (by omega)) _ _ _ (by omega)
    · exact apt_set (apt_set (apt_set (apt_set (HA.out) _ _ (by omega) _) _ _ (by omega) _) _ _ (by omega) _) _ _ (by omega) _
  by_cases hk2 : k = 2
  · subst hk2
    have hcat := fun W => run_string_add_sum (P := Tryd.prog) (w := W) ⟨#[50]⟩ (s.extract 1 s.size) (by show 1 + (s.extract 1 s.size).size ≤ 9223372036854775807; rw [ByteArray.size_extract]; omega)
    have hsl : (1 : Int) ≤ (s.size : Int) := by omega
    go_wp2_with fail
    refine bodyPost_ret (v := mtx (r) (c) (⟨#[50]⟩ ++ s.extract 1 s.size)) (by simp [results, Tryd.results57, go_sem, o0, o1, o2]) rfl ⟨r, c, ⟨#[50]⟩ ++ s.extract 1 s.size, p + 1, rfl, hr, hc, by rw [ByteArray.size_append, ByteArray.size_extract]; show 1 + _ ≤ 100; omega, by omega, by omega, ?_, ?_⟩
    · exact rdr_set (rdr_set (rdr_set (rdr_set (HR.out) _ _ _ (by omega)) _ _ _ (by omega)) _ _ _ (by omega)) _ _ _ (by omega)
    · exact apt_set (apt_set (apt_set (apt_set (HA.out) _ _ (by omega) _) _ _ (by omega) _) _ _ (by omega) _) _ _ (by omega) _
  by_cases hk3 : k = 3
  · subst hk3
    go_wp2_with fail
    refine bodyPost_ret (v := mtx (1) (9) (⟨#[48, 48, 48, 48, 48, 48, 48, 48, 48]⟩)) (by simp [results, Tryd.results57, go_sem, o0, o1, o2]) rfl ⟨1, 9, ⟨#[48, 48, 48, 48, 48, 48, 48, 48, 48]⟩, p + 1, rfl, ⟨by omega, by omega⟩, ⟨by omega, by omega⟩, by show 9 ≤ 100; omega, by omega, by omega, ?_, ?_⟩
    · exact rdr_set (rdr_set (rdr_set (HR.out) _ _ _ (by omega)) _ _ _ (by omega)) _ _ _ (by omega)
    · exact apt_set (apt_set (apt_set (HA.out) _ _ (by omega) _) _ _ (by omega) _) _ _ (by omega) _
  go_wp2_with fail
  refine bodyPost_ret (v := mtx (r) (c) (s)) (by simp [results, Tryd.results57, go_sem, o0, o1, o2]) rfl ⟨r, c, s, p + 1, rfl, hr, hc, by omega, by omega, by omega, ?_, ?_⟩
  · exact rdr_set (rdr_set (rdr_set (HR.out) _ _ _ (by omega)) _ _ _ (by omega)) _ _ _ (by omega)
  · exact apt_set (apt_set (apt_set (HA.out) _ _ (by omega) _) _ _ (by omega) _) _ _ (by omega) _
end Go.Proofs.YtohkllmhknjkoaaDoor.Rd5

/-
  The contract of spec.l1Make, kind by kind.
-/
namespace Go.Proofs.YtohkllmhknjkoaaDoor.Make
open Go.RowKit Go.Proofs.YtohkllmhknjkoaaDoor.Plain Go.Proofs.YtohkllmhknjkoaaDoor.Base

/-- the world in l1Make: the result's block and out's block -/
abbrev mw (w : World) (r c : Nat) (s : ByteArray) : World :=
  (w.alloc (.cells #[.int .i64 0, .int .i64 0, .string ⟨#[]⟩] 26)).alloc (.cells #[.int .i64 (r : Int), .int .i64 (c : Int), .string s] 26)
theorem mw_set (w : World) (r c q : Nat) (s t : ByteArray) : ((mw w r c s).drewN q).setCell ⟨w.heap.size + 1, 2, none⟩ (.string t) = (mw w r c t).drewN q := by
  have h : (w.alloc (.cells #[.int .i64 0, .int .i64 0, .string ⟨#[]⟩] 26)).heap.size = w.heap.size + 1 := by simp
  show ((mw w r c s).setCell ⟨w.heap.size + 1, 2, none⟩ (.string t)).drewN q = _
  unfold mw
  rw [World.setCell_alloc_at _ _ _ _ _ h.symm]
  rfl
theorem mw_below (w : World) (r c q : Nat) (s : ByteArray) (a b d : Value) : Below w.heap.size w (((((mw w r c s).drewN q).setCell ⟨w.heap.size, 0, none⟩ a).setCell ⟨w.heap.size, 1, none⟩ b).setCell ⟨w.heap.size, 2, none⟩ d) := by
  have h : Below w.heap.size w (mw w r c s) := ((Below.refl _ _).alloc (Nat.le_refl _) _).alloc (by simp) _
  have h2 : Below w.heap.size w ((mw w r c s).drewN q) := ⟨h.os, h.tape, h.output, h.size, h.block⟩
  exact ((h2.setCell (Nat.le_refl _) _).setCell (Nat.le_refl _) _).setCell (Nat.le_refl _) _

theorem b0 (k j : Nat) : ((k : Int) == (j : Int)) = decide (k = j) := by
  rw [Bool.eq_iff_iff]; simp [Int.ofNat_inj]
theorem b2 (k j : Nat) : (((k &&& j : Nat) : Int) == 0) = decide (k &&& j = 0) := by
  rw [Bool.eq_iff_iff]; simp
theorem b3 (k j : Nat) : (((ones (k &&& j) : Nat) : Int) % 2 == 1) = decide (ones (k &&& j) % 2 = 1) := by
  rw [Bool.eq_iff_iff]; simp only [beq_iff_eq, decide_eq_true_eq]; omega
theorem b4 (k j : Nat) (hk : k < 8) (hj : j < 8) : (bits BinOp.and IntKind.i64 ((k : Int) / 2 ^ j) 1 == 1) = decide ((k >>> j) % 2 = 1) := by
  have h : ∀ k : Fin 8, ∀ j : Fin 8, (bits BinOp.and IntKind.i64 (((k.val : Nat) : Int) / 2 ^ j.val) 1 == 1) = decide ((k.val >>> j.val) % 2 = 1) := by decide +kernel
  exact h ⟨k, hk⟩ ⟨j, hj⟩
theorem and_nat : ∀ k j : Nat, k < 8 → j < 8 → bits .and .i64 (k : Int) (j : Int) = ((k &&& j : Nat) : Int) := by
  have h : ∀ k : Fin 8, ∀ j : Fin 8, bits .and .i64 ((k.val : Nat) : Int) ((j.val : Nat) : Int) = ((k.val &&& j.val : Nat) : Int) := by decide +kernel
  intro k j hk hj
  exact h ⟨k, hk⟩ ⟨j, hj⟩

set_option maxHeartbeats 2000000 in
theorem make0 (r c : Nat) (hr : r ≤ 8) (hc : c ≤ 8) (w : World) :
    Calls Tryd.prog 110 #[.int .i64 0, .int .i64 (r : Int), .int .i64 (c : Int)] w fun e w' => e = .returned (mat r c (str (rowsB (fun x y => decide (x = y)) r c))) ∧ Below w.heap.size w w' := by
  go_enter Tryd.func110, Tryd.ntmps110
  go_wp2_with fail
  go_loopw [8] (fun x wr => ∃ (k : Nat) (q : Nat) (s : ByteArray), k ≤ r ∧ x = .int .i64 (k : Int) ∧ Hid (s = str (rowsB (fun x y => decide (x = y)) k c)) ∧ wr = (mw w r c s).drewN q) (fun x _ => r - (intOf x).toNat)
  case atStart => exact ⟨0, 0, _, Nat.zero_le _, rfl, rfl, rfl⟩
  case round =>
    obtain ⟨k, q, s, hk, rfl, hs, rfl⟩ := hrel
    by_cases hlt : k < r
    · go_wp2_with fail
      go_loopw [9] (fun y wr => ∃ (j : Nat) (q : Nat) (s : ByteArray), j ≤ c ∧ y = .int .i64 (j : Int) ∧ Hid (s = str (rowsB (fun x y => decide (x = y)) k c ++ rowB (fun x y => decide (x = y)) k j)) ∧ wr = (mw w r c s).drewN q) (fun y _ => c - (intOf y).toNat)
      case atStart => exact ⟨0, q, _, Nat.zero_le _, rfl, by rw [hs.out]; exact part_start _ _ _, rfl⟩
      case round =>
        obtain ⟨j, q', s', hj, rfl, hs', rfl⟩ := hrel
        by_cases hlt' : j < c
        · skip
          go_wp2_with fail
          obtain ⟨b, hb⟩ : ∃ b : Bool, ((k : Int) == (j : Int)) = b := ⟨_, rfl⟩
          rw [hb]
          have HB := Lib.hid hb
          clear hb
          have hsz : s'.size + 1 ≤ 9223372036854775807 := by
            have := part_size (fun x y => decide (x = y)) hr hc hlt hlt'
            rw [hs'.out]
            omega
          have hcat := fun W => run_string_add_sum (P := Tryd.prog) (w := W) s' ⟨#[dig b]⟩ hsz
          clear hsz
          go_region_with (go_at_call 111; refine (l1Bit_any b _).mono ?_; rintro e w' ⟨rfl, rfl⟩)
          all_goals go_wp2_with fail
          all_goals
            go_roundw
            case rel => exact ⟨j + 1, q' + 1, _, by omega, by go_num, by rw [hs'.out]; exact (congrArg (fun d => str (rowsB (fun x y => decide (x = y)) k c ++ rowB (fun x y => decide (x = y)) k j) ++ ⟨#[d]⟩) (congrArg dig (HB.out.symm.trans (b0 k j)))).trans (part_next _ _ _ _), mw_set _ _ _ _ _ _⟩
            case measure => simp [intOf]; omega
        · go_wp2_with fail
          obtain rfl : j = c := by omega
          go_roundw
          case rel => exact ⟨k + 1, q', _, by omega, by go_num, by rw [hs'.out]; exact part_done _ _ _, rfl⟩
          case measure => simp [intOf]; omega
    · go_wp2_with fail
      obtain rfl : k = r := by omega
      exact bodyPost_ret (v := mat k c s) (by simp [results, Tryd.results110, go_sem]) rfl ⟨by rw [hs.out], mw_below _ _ _ _ _ _ _ _⟩

set_option maxHeartbeats 2000000 in
theorem make1 (r c : Nat) (hr : r ≤ 8) (hc : c ≤ 8) (w : World) :
    Calls Tryd.prog 110 #[.int .i64 1, .int .i64 (r : Int), .int .i64 (c : Int)] w fun e w' => e = .returned (mat r c (str (rowsB (fun x y => decide (y < x)) r c))) ∧ Below w.heap.size w w' := by
  go_enter Tryd.func110, Tryd.ntmps110
  go_wp2_with fail
  go_loopw [8] (fun x wr => ∃ (k : Nat) (q : Nat) (s : ByteArray), k ≤ r ∧ x = .int .i64 (k : Int) ∧ Hid (s = str (rowsB (fun x y => decide (y < x)) k c)) ∧ wr = (mw w r c s).drewN q) (fun x _ => r - (intOf x).toNat)
  case atStart => exact ⟨0, 0, _, Nat.zero_le _, rfl, rfl, rfl⟩
  case round =>
    obtain ⟨k, q, s, hk, rfl, hs, rfl⟩ := hrel
    by_cases hlt : k < r
    · go_wp2_with fail
      go_loopw [9] (fun y wr => ∃ (j : Nat) (q : Nat) (s : ByteArray), j ≤ c ∧ y = .int .i64 (j : Int) ∧ Hid (s = str (rowsB (fun x y => decide (y < x)) k c ++ rowB (fun x y => decide (y < x)) k j)) ∧ wr = (mw w r c s).drewN q) (fun y _ => c - (intOf y).toNat)
      case atStart => exact ⟨0, q, _, Nat.zero_le _, rfl, by rw [hs.out]; exact part_start _ _ _, rfl⟩
      case round =>
        obtain ⟨j, q', s', hj, rfl, hs', rfl⟩ := hrel
        by_cases hlt' : j < c
        · skip
          go_wp2_with fail
          obtain ⟨b, hb⟩ : ∃ b : Bool, decide (j < k) = b := ⟨_, rfl⟩
          rw [hb]
          have HB := Lib.hid hb
          clear hb
          have hsz : s'.size + 1 ≤ 9223372036854775807 := by
            have := part_size (fun x y => decide (y < x)) hr hc hlt hlt'
            rw [hs'.out]
            omega
          have hcat := fun W => run_string_add_sum (P := Tryd.prog) (w := W) s' ⟨#[dig b]⟩ hsz
          clear hsz
          go_region_with (go_at_call 111; refine (l1Bit_any b _).mono ?_; rintro e w' ⟨rfl, rfl⟩)
          all_goals go_wp2_with fail
          all_goals
            go_roundw
            case rel => exact ⟨j + 1, q' + 1, _, by omega, by go_num, by rw [hs'.out]; exact (congrArg (fun d => str (rowsB (fun x y => decide (y < x)) k c ++ rowB (fun x y => decide (y < x)) k j) ++ ⟨#[d]⟩) (congrArg dig (HB.out.symm.trans (rfl)))).trans (part_next _ _ _ _), mw_set _ _ _ _ _ _⟩
            case measure => simp [intOf]; omega
        · go_wp2_with fail
          obtain rfl : j = c := by omega
          go_roundw
          case rel => exact ⟨k + 1, q', _, by omega, by go_num, by rw [hs'.out]; exact part_done _ _ _, rfl⟩
          case measure => simp [intOf]; omega
    · go_wp2_with fail
      obtain rfl : k = r := by omega
      exact bodyPost_ret (v := mat k c s) (by simp [results, Tryd.results110, go_sem]) rfl ⟨by rw [hs.out], mw_below _ _ _ _ _ _ _ _⟩

set_option maxHeartbeats 2000000 in
theorem make2 (r c : Nat) (hr : r ≤ 8) (hc : c ≤ 8) (w : World) :
    Calls Tryd.prog 110 #[.int .i64 2, .int .i64 (r : Int), .int .i64 (c : Int)] w fun e w' => e = .returned (mat r c (str (rowsB (fun x y => decide (x &&& y = 0)) r c))) ∧ Below w.heap.size w w' := by
  go_enter Tryd.func110, Tryd.ntmps110
  go_wp2_with fail
  go_loopw [8] (fun x wr => ∃ (k : Nat) (q : Nat) (s : ByteArray), k ≤ r ∧ x = .int .i64 (k : Int) ∧ Hid (s = str (rowsB (fun x y => decide (x &&& y = 0)) k c)) ∧ wr = (mw w r c s).drewN q) (fun x _ => r - (intOf x).toNat)
  case atStart => exact ⟨0, 0, _, Nat.zero_le _, rfl, rfl, rfl⟩
  case round =>
    obtain ⟨k, q, s, hk, rfl, hs, rfl⟩ := hrel
    by_cases hlt : k < r
    · go_wp2_with fail
      go_loopw [9] (fun y wr => ∃ (j : Nat) (q : Nat) (s : ByteArray), j ≤ c ∧ y = .int .i64 (j : Int) ∧ Hid (s = str (rowsB (fun x y => decide (x &&& y = 0)) k c ++ rowB (fun x y => decide (x &&& y = 0)) k j)) ∧ wr = (mw w r c s).drewN q) (fun y _ => c - (intOf y).toNat)
      case atStart => exact ⟨0, q, _, Nat.zero_le _, rfl, by rw [hs.out]; exact part_start _ _ _, rfl⟩
      case round =>
        obtain ⟨j, q', s', hj, rfl, hs', rfl⟩ := hrel
        by_cases hlt' : j < c
        · have hbit := and_nat k j (by omega) (by omega)
          go_wp2_with fail
          obtain ⟨b, hb⟩ : ∃ b : Bool, (((k &&& j : Nat) : Int) == 0) = b := ⟨_, rfl⟩
          rw [hb]
          have HB := Lib.hid hb
          clear hb
          have hsz : s'.size + 1 ≤ 9223372036854775807 := by
            have := part_size (fun x y => decide (x &&& y = 0)) hr hc hlt hlt'
            rw [hs'.out]
            omega
          have hcat := fun W => run_string_add_sum (P := Tryd.prog) (w := W) s' ⟨#[dig b]⟩ hsz
          clear hsz
          go_region_with (go_at_call 111; refine (l1Bit_any b _).mono ?_; rintro e w' ⟨rfl, rfl⟩)
          all_goals go_wp2_with fail
          all_goals
            go_roundw
            case rel => exact ⟨j + 1, q' + 1, _, by omega, by go_num, by rw [hs'.out]; exact (congrArg (fun d => str (rowsB (fun x y => decide (x &&& y = 0)) k c ++ rowB (fun x y => decide (x &&& y = 0)) k j) ++ ⟨#[d]⟩) (congrArg dig (HB.out.symm.trans (b2 k j)))).trans (part_next _ _ _ _), mw_set _ _ _ _ _ _⟩
            case measure => simp [intOf]; omega
        · go_wp2_with fail
          obtain rfl : j = c := by omega
          go_roundw
          case rel => exact ⟨k + 1, q', _, by omega, by go_num, by rw [hs'.out]; exact part_done _ _ _, rfl⟩
          case measure => simp [intOf]; omega
    · go_wp2_with fail
      obtain rfl : k = r := by omega
      exact bodyPost_ret (v := mat k c s) (by simp [results, Tryd.results110, go_sem]) rfl ⟨by rw [hs.out], mw_below _ _ _ _ _ _ _ _⟩

set_option maxHeartbeats 2000000 in
theorem make3 (r c : Nat) (hr : r ≤ 8) (hc : c ≤ 8) (w : World) :
    Calls Tryd.prog 110 #[.int .i64 3, .int .i64 (r : Int), .int .i64 (c : Int)] w fun e w' => e = .returned (mat r c (str (rowsB (fun x y => decide (ones (x &&& y) % 2 = 1)) r c))) ∧ Below w.heap.size w w' := by
  go_enter Tryd.func110, Tryd.ntmps110
  go_wp2_with fail
  go_loopw [8] (fun x wr => ∃ (k : Nat) (q : Nat) (s : ByteArray), k ≤ r ∧ x = .int .i64 (k : Int) ∧ Hid (s = str (rowsB (fun x y => decide (ones (x &&& y) % 2 = 1)) k c)) ∧ wr = (mw w r c s).drewN q) (fun x _ => r - (intOf x).toNat)
  case atStart => exact ⟨0, 0, _, Nat.zero_le _, rfl, rfl, rfl⟩
  case round =>
    obtain ⟨k, q, s, hk, rfl, hs, rfl⟩ := hrel
    by_cases hlt : k < r
    · go_wp2_with fail
      go_loopw [9] (fun y wr => ∃ (j : Nat) (q : Nat) (s : ByteArray), j ≤ c ∧ y = .int .i64 (j : Int) ∧ Hid (s = str (rowsB (fun x y => decide (ones (x &&& y) % 2 = 1)) k c ++ rowB (fun x y => decide (ones (x &&& y) % 2 = 1)) k j)) ∧ wr = (mw w r c s).drewN q) (fun y _ => c - (intOf y).toNat)
      case atStart => exact ⟨0, q, _, Nat.zero_le _, rfl, by rw [hs.out]; exact part_start _ _ _, rfl⟩
      case round =>
        obtain ⟨j, q', s', hj, rfl, hs', rfl⟩ := hrel
        by_cases hlt' : j < c
        · have hbit := and_nat k j (by omega) (by omega)
          have hand : k &&& j < 8 := Nat.lt_of_le_of_lt Nat.and_le_left (by omega)
          go_wp2_with (go_at_call 127; refine (ones_any (k &&& j) hand _).mono ?_; rintro e w' ⟨rfl, rfl⟩)
          obtain ⟨b, hb⟩ : ∃ b : Bool, (((ones (k &&& j) : Nat) : Int) % 2 == 1) = b := ⟨_, rfl⟩
          rw [hb]
          have HB := Lib.hid hb
          clear hb
          have hsz : s'.size + 1 ≤ 9223372036854775807 := by
            have := part_size (fun x y => decide (ones (x &&& y) % 2 = 1)) hr hc hlt hlt'
            rw [hs'.out]
            omega
          have hcat := fun W => run_string_add_sum (P := Tryd.prog) (w := W) s' ⟨#[dig b]⟩ hsz
          clear hsz
          go_region_with (go_at_call 111; refine (l1Bit_any b _).mono ?_; rintro e w' ⟨rfl, rfl⟩)
          all_goals go_wp2_with fail
          all_goals
            go_roundw
            case rel => exact ⟨j + 1, q' + 1, _, by omega, by go_num, by rw [hs'.out]; exact (congrArg (fun d => str (rowsB (fun x y => decide (ones (x &&& y) % 2 = 1)) k c ++ rowB (fun x y => decide (ones (x &&& y) % 2 = 1)) k j) ++ ⟨#[d]⟩) (congrArg dig (HB.out.symm.trans (b3 k j)))).trans (part_next _ _ _ _), mw_set _ _ _ _ _ _⟩
            case measure => simp [intOf]; omega
        · go_wp2_with fail
          obtain rfl : j = c := by omega
          go_roundw
          case rel => exact ⟨k + 1, q', _, by omega, by go_num, by rw [hs'.out]; exact part_done _ _ _, rfl⟩
          case measure => simp [intOf]; omega
    · go_wp2_with fail
      obtain rfl : k = r := by omega
      exact bodyPost_ret (v := mat k c s) (by simp [results, Tryd.results110, go_sem]) rfl ⟨by rw [hs.out], mw_below _ _ _ _ _ _ _ _⟩

set_option maxHeartbeats 2000000 in
theorem make4 (r c : Nat) (hr : r ≤ 8) (hc : c ≤ 8) (w : World) :
    Calls Tryd.prog 110 #[.int .i64 4, .int .i64 (r : Int), .int .i64 (c : Int)] w fun e w' => e = .returned (mat r c (str (rowsB (fun x y => decide ((x >>> y) % 2 = 1)) r c))) ∧ Below w.heap.size w w' := by
  go_enter Tryd.func110, Tryd.ntmps110
  go_wp2_with fail
  go_loopw [8] (fun x wr => ∃ (k : Nat) (q : Nat) (s : ByteArray), k ≤ r ∧ x = .int .i64 (k : Int) ∧ Hid (s = str (rowsB (fun x y => decide ((x >>> y) % 2 = 1)) k c)) ∧ wr = (mw w r c s).drewN q) (fun x _ => r - (intOf x).toNat)
  case atStart => exact ⟨0, 0, _, Nat.zero_le _, rfl, rfl, rfl⟩
  case round =>
    obtain ⟨k, q, s, hk, rfl, hs, rfl⟩ := hrel
    by_cases hlt : k < r
    · go_wp2_with fail
      go_loopw [9] (fun y wr => ∃ (j : Nat) (q : Nat) (s : ByteArray), j ≤ c ∧ y = .int .i64 (j : Int) ∧ Hid (s = str (rowsB (fun x y => decide ((x >>> y) % 2 = 1)) k c ++ rowB (fun x y => decide ((x >>> y) % 2 = 1)) k j)) ∧ wr = (mw w r c s).drewN q) (fun y _ => c - (intOf y).toNat)
      case atStart => exact ⟨0, q, _, Nat.zero_le _, rfl, by rw [hs.out]; exact part_start _ _ _, rfl⟩
      case round =>
        obtain ⟨j, q', s', hj, rfl, hs', rfl⟩ := hrel
        by_cases hlt' : j < c
        · skip
          go_wp2_with fail
          obtain ⟨b, hb⟩ : ∃ b : Bool, (bits BinOp.and IntKind.i64 ((k : Int) / 2 ^ j) 1 == 1) = b := ⟨_, rfl⟩
          rw [hb]
          have HB := Lib.hid hb
          clear hb
          have hsz : s'.size + 1 ≤ 9223372036854775807 := by
            have := part_size (fun x y => decide ((x >>> y) % 2 = 1)) hr hc hlt hlt'
            rw [hs'.out]
            omega
          have hcat := fun W => run_string_add_sum (P := Tryd.prog) (w := W) s' ⟨#[dig b]⟩ hsz
          clear hsz
          go_region_with (go_at_call 111; refine (l1Bit_any b _).mono ?_; rintro e w' ⟨rfl, rfl⟩)
          all_goals go_wp2_with fail
          all_goals
            go_roundw
            case rel => exact ⟨j + 1, q' + 1, _, by omega, by go_num, by rw [hs'.out]; exact (congrArg (fun d => str (rowsB (fun x y => decide ((x >>> y) % 2 = 1)) k c ++ rowB (fun x y => decide ((x >>> y) % 2 = 1)) k j) ++ ⟨#[d]⟩) (congrArg dig (HB.out.symm.trans (b4 k j (by omega) (by omega))))).trans (part_next _ _ _ _), mw_set _ _ _ _ _ _⟩
            case measure => simp [intOf]; omega
        · go_wp2_with fail
          obtain rfl : j = c := by omega
          go_roundw
          case rel => exact ⟨k + 1, q', _, by omega, by go_num, by rw [hs'.out]; exact part_done _ _ _, rfl⟩
          case measure => simp [intOf]; omega
    · go_wp2_with fail
      obtain rfl : k = r := by omega
      exact bodyPost_ret (v := mat k c s) (by simp [results, Tryd.results110, go_sem]) rfl ⟨by rw [hs.out], mw_below _ _ _ _ _ _ _ _⟩

end Go.Proofs.YtohkllmhknjkoaaDoor.Make

