/-
  Texts of one seat, joined: GParts, GSetW.
-/
import Derived.Test.YtbccachkkflceaaGreatDoorJn1
import Derived.Test.YtbccachkkflceaaGreatDoorJn20
import Derived.Deep.QuietTactic
import Derived.BigQuiet
import Derived.Test.YtbccachkkflceaaGreatDoorJn9
import Derived.Laws.Concat
/-
  The reference on a protocol's text: whether it is an end, its parts, the greatest number of bits, the number of ends.
-/
namespace Go.Proofs.YtbccachkkflceaaGreatDoor.Parts
open Go.RowKit Go.Shelf Go.Proofs.YtbccachkkflceaaGreatDoor.Plain Go.Proofs.YtbccachkkflceaaGreatDoor.Tree Go.Proofs.YtbccachkkflceaaGreatDoor.Hex Go.Proofs.YtbccachkkflceaaGreatDoor.Read
set_option linter.unusedVariables false
set_option linter.unusedSimpArgs false

theorem str_data (l : List UInt8) : (str l).data.toList = l := by simp [str]
theorem leaf_yes (s : ByteArray) (h : s.size = 1) (w : World) :
    Calls Tryz.prog 70 #[.string s] w fun e w' => e = .returned (.bool true) ∧ w = w' := by
  go_enter Tryz.func70, Tryz.ntmps70
  go_wp2_with fail
  go_ret
  exact ⟨rfl, rfl⟩
theorem leaf_no (s : ByteArray) (h : 2 ≤ s.size) (w : World) :
    Calls Tryz.prog 70 #[.string s] w fun e w' => e = .returned (.bool false) ∧ w = w' := by
  have h2 : ((s.size : Int) == 1) = false := beq_false_of_ne (by omega)
  go_enter Tryz.func70, Tryz.ntmps70
  go_wp2_with fail
  go_ret
  exact ⟨by simp [h2], rfl⟩

set_option maxHeartbeats 1000000 in
/-- both protocols behind a first bit -/
theorem parts_w (a : Bool) (v : Nat) (z o : T) (hz : wf z) (s : ByteArray) (h : s.data.toList = text (.say a v z o)) (hs : s.size ≤ 1048576) (w : World) :
    Calls Tryz.prog 71 #[.string s] w fun e w' => e = .returned (.tuple #[.string (str (text z)), .string (str (text o))]) ∧ Below w.heap.size w w' := by
  have h3 : s.data.toList.drop 3 = text z ++ text o := by rw [h]; rfl
  have hl : 3 + (text z).length + (text o).length = s.size := by
    have := congrArg List.length h
    simp [text] at this
    omega
  have HE : Hid (∀ W, Calls Tryz.prog 65 #[.string s, .int .i64 3] W fun e w' => e = .returned (.int .i64 ((3 + (text z).length : Nat) : Int)) ∧ W = w') := fun W => end_yes s hs z hz 3 (by omega) (text o) h3 W
  have hA : s.extract 3 (3 + (text z).length) = str (text z) := by
    apply eq_str
    rw [data_extract, h3, show 3 + (text z).length - 3 = (text z).length by omega, List.take_left]
  have hB : s.extract (3 + (text z).length) s.size = str (text o) := by
    apply extract_rest
    rw [← List.drop_drop, h3, List.drop_left]
  generalize str (text z) = A at *
  generalize str (text o) = B at *
  obtain ⟨k, hk⟩ : ∃ k, 3 + (text z).length = k := ⟨_, rfl⟩
  rw [hk] at HE hA hB hl
  have hk3 : 3 ≤ k := by omega
  have hks : k ≤ s.size := by omega
  have HA := Lib.hid hA
  have HB := Lib.hid hB
  clear h h3 hl hk hA hB
  go_enter Tryz.func71, Tryz.ntmps71
  go_wp2_with fail
  refine (HE.out _).mono ?_
  rintro e w' ⟨rfl, rfl⟩
  go_wp2_with fail
  go_quiet (fail)
  go_wp2_with fail
  go_returns
  exact ⟨by rw [← HA.out, ← HB.out]; rfl, drawn_at _ _⟩

end Go.Proofs.YtbccachkkflceaaGreatDoor.Parts

/-
  The reference's set of a bit, and the text of a protocol that begins with a bit.
-/
namespace Go.Proofs.YtbccachkkflceaaGreatDoor.SetW
open Go.RowKit Go.Shelf Go.Proofs.YtbccachkkflceaaGreatDoor.Plain Go.Proofs.YtbccachkkflceaaGreatDoor.Tree Go.Proofs.YtbccachkkflceaaGreatDoor.Hex Go.Proofs.YtbccachkkflceaaGreatDoor.Read Go.Proofs.YtbccachkkflceaaGreatDoor.Parts
open Go.Proofs.YtbccachkkflceaaGreatDoor.Wq (WQ wq_step wq_nil region_kept drew_at)
set_option linter.unusedVariables false
set_option linter.unusedSimpArgs false

set_option maxHeartbeats 2000000 in
set_option maxRecDepth 100000 in
/-- the set of a bit -/
theorem set_said (a : Bool) (v : Nat) (z o : T) (hv : v < 256) (s : ByteArray) (h : s.data.toList = text (.say a v z o)) (hs : s.size ≤ 1048576) (w : World) :
    Calls Tryz.prog 99 #[.string s] w fun e w' => e = .returned (.int .i64 (v : Int)) ∧ Below w.heap.size w w' := by
  have h1 : s.data.toList.drop 1 = hexD (v / 16) :: (hexD (v % 16) :: (text z ++ text o)) := by rw [h]; rfl
  have h2 : s.data.toList.drop 2 = hexD (v % 16) :: (text z ++ text o) := by rw [h]; rfl
  obtain ⟨hk1, hx1⟩ := at_drop h1
  obtain ⟨hk2, hx2⟩ := at_drop h2
  have e1 := hexV_D (v / 16) (by omega)
  have e2 := hexV_D (v % 16) (by omega)
  obtain ⟨d1, hd1⟩ : ∃ d, v / 16 = d := ⟨_, rfl⟩
  obtain ⟨d2, hd2⟩ : ∃ d, v % 16 = d := ⟨_, rfl⟩
  have g1 : d1 < 16 := by omega
  have g2 : d2 < 16 := by omega
  have HWR : Hid (IntKind.i64.wrap (IntKind.i64.wrap (16 * (d1 : Int)) + (d2 : Int)) = (v : Int)) := by show _ = _; simp only [IntKind.wrap_i64]; omega
  rw [hd1] at e1 hx1
  rw [hd2] at e2 hx2
  have H1 : Hid (∀ W, Calls Tryz.prog 96 #[.int .u8 ((s[1]'hk1).toNat : Int)] W fun e w' => e = .returned (.int .i64 (d1 : Int)) ∧ W = w') := fun W => by rw [← e1, ← hx1]; exact hex_w _ W
  have H2 : Hid (∀ W, Calls Tryz.prog 96 #[.int .u8 ((s[2]'hk2).toNat : Int)] W fun e w' => e = .returned (.int .i64 (d2 : Int)) ∧ W = w') := fun W => by rw [← e2, ← hx2]; exact hex_w _ W
  have i1 : (1 : Int) < (s.size : Int) := by omega
  have i2 : (2 : Int) < (s.size : Int) := by omega
  clear h h1 h2 hx1 hx2 e1 e2 hd1 hd2 hv
  go_enter Tryz.func99, Tryz.ntmps99
  go_wp2_with fail
  refine region_kept (C := fun wx => Below w.heap.size w wx) (drew_at w) (by kernel_rfl) (by kernel_rfl) ?_
  repeat
    (refine wq_step (fun K hK => ?_)
     go_simp
     first
       | (refine hK _ ?_; clear hK K)
       | (apply Exists.intro
          refine ⟨fun wx hC => ?_, hK _ ?_⟩
          · first
            | with_reducible rfl
            | with_reducible exact ((H1.out wx).mono fun e w' h => ⟨h.1, h.2 ▸ hC⟩)
            | with_reducible exact ((H2.out wx).mono fun e w' h => ⟨h.1, h.2 ▸ hC⟩)
            | (rw [if_pos i1]; exact ⟨rfl, rfl⟩)
            | (rw [if_pos i2]; exact ⟨rfl, rfl⟩)
            | (go_simp; first | done | rfl)
          clear hK K))
  refine wq_nil ?_
  intro w9 hC
  have HB := Lib.hid hC
  clear hC
  go_simp
  go_wp2_with fail
  go_ret
  exact ⟨by rw [← HWR.out]; rfl, HB.out⟩

theorem hexS_part (d : Nat) (h : d < 16) : (⟨#[48, 49, 50, 51, 52, 53, 54, 55, 56, 57, 97, 98, 99, 100, 101, 102]⟩ : ByteArray).extract d (d + 1) = str [hexD d] := by
  have e : ∀ k : Fin 16, ((⟨#[48, 49, 50, 51, 52, 53, 54, 55, 56, 57, 97, 98, 99, 100, 101, 102]⟩ : ByteArray).extract k.1 (k.1 + 1)).data.toList = [hexD k.1] := by
    intro k
    rw [data_extract]
    revert k
    decide
  exact eq_str (e ⟨d, h⟩)

set_option maxHeartbeats 4000000 in
set_option maxRecDepth 100000 in
/-- the text of a protocol that begins with a bit -/
theorem node_said (q0 q1 q2 : ByteArray) (v : Nat) (hv : v < 256) (h0 : q0.size ≤ 2000) (h1 : q1.size ≤ 8000000) (h2 : q2.size ≤ 8000000) (w : World) :
    Calls Tryz.prog 51 #[.string q0, .int .i64 (v : Int), .string q1, .string q2] w fun e w' => e = .returned (.string (q0 ++ str [hexD (v / 16)] ++ str [hexD (v % 16)] ++ q1 ++ q2)) ∧ Below w.heap.size w w' := by
  obtain ⟨d1, hd1⟩ : ∃ d, v / 16 = d := ⟨_, rfl⟩
  obtain ⟨d2, hd2⟩ : ∃ d, v % 16 = d := ⟨_, rfl⟩
  rw [hd1, hd2]
  have g1 : d1 < 16 := by omega
  have g2 : d2 < 16 := by omega
  have hq : IntKind.i64.wrap ((v : Int) / 16) = (d1 : Int) := by simp only [IntKind.wrap_i64]; omega
  have hm : (v : Int).tmod 16 = (d2 : Int) := by rw [Int.tmod_eq_emod_of_nonneg (by omega)]; omega
  have x1 := hexS_part d1 g1
  have x2 := hexS_part d2 g2
  have z1 : (str [hexD d1]).size = 1 := by rw [str_size]; rfl
  have z2 : (str [hexD d2]).size = 1 := by rw [str_size]; rfl
  generalize str [hexD d1] = y1 at *
  generalize str [hexD d2] = y2 at *
  have q1' := fun W => run_string_add_sum (P := Tryz.prog) (w := W) q0 y1 (by omega)
  have q2' := fun W => run_string_add_sum (P := Tryz.prog) (w := W) (q0 ++ y1) y2 (by rw [ByteArray.size_append]; omega)
  have q3' := fun W => run_string_add_sum (P := Tryz.prog) (w := W) (q0 ++ y1 ++ y2) q1 (by rw [ByteArray.size_append, ByteArray.size_append]; omega)
  have q4' := fun W => run_string_add_sum (P := Tryz.prog) (w := W) (q0 ++ y1 ++ y2 ++ q1) q2 (by rw [ByteArray.size_append, ByteArray.size_append, ByteArray.size_append]; omega)
  clear hd1 hd2 z1 z2 h0 h1 h2
  go_enter Tryz.func51, Tryz.ntmps51
  go_wp2_with fail
  go_quiet (fail)
  go_wp2_with fail
  go_ret
  exact ⟨rfl, drawn_at _ _⟩
end Go.Proofs.YtbccachkkflceaaGreatDoor.SetW

