/-
  The reference's set of a bit, and the text of a protocol that begins with a bit.
-/
import Derived.Test.YtbccachkkflceaaGParts
import Derived.Test.YtbccachkkflceaaWq
import Derived.Laws.Concat
namespace Go.Proofs.Ytbccachkkflceaa.SetW
open Go.RowKit Go.Shelf Go.Proofs.Ytbccachkkflceaa.Plain Go.Proofs.Ytbccachkkflceaa.Tree Go.Proofs.Ytbccachkkflceaa.Hex Go.Proofs.Ytbccachkkflceaa.Read Go.Proofs.Ytbccachkkflceaa.Parts
open Go.Proofs.Ytbccachkkflceaa.Wq (WQ wq_step wq_nil region_kept drew_at)
set_option linter.unusedVariables false
set_option linter.unusedSimpArgs false

theorem hexS_part (d : Nat) (h : d < 16) : (⟨#[48, 49, 50, 51, 52, 53, 54, 55, 56, 57, 97, 98, 99, 100, 101, 102]⟩ : ByteArray).extract d (d + 1) = str [hexD d] := by
  have e : ∀ k : Fin 16, ((⟨#[48, 49, 50, 51, 52, 53, 54, 55, 56, 57, 97, 98, 99, 100, 101, 102]⟩ : ByteArray).extract k.1 (k.1 + 1)).data.toList = [hexD k.1] := by
    intro k
    rw [data_extract]
    revert k
    decide
  exact eq_str (e ⟨d, h⟩)

set_option maxHeartbeats 4000000 in
set_option maxRecDepth 100000 in
/-- the text of a protocol that begins with a bit -/
theorem node_said (q0 q1 q2 : ByteArray) (v : Nat) (hv : v < 256) (h0 : q0.size ≤ 2000) (h1 : q1.size ≤ 8000000) (h2 : q2.size ≤ 8000000) (w : World) :
    Calls Try.prog 37 #[.string q0, .int .i64 (v : Int), .string q1, .string q2] w fun e w' => e = .returned (.string (q0 ++ str [hexD (v / 16)] ++ str [hexD (v % 16)] ++ q1 ++ q2)) ∧ Below w.heap.size w w' := by
  obtain ⟨d1, hd1⟩ : ∃ d, v / 16 = d := ⟨_, rfl⟩
  obtain ⟨d2, hd2⟩ : ∃ d, v % 16 = d := ⟨_, rfl⟩
  rw [hd1, hd2]
  have g1 : d1 < 16 := by omega
  have g2 : d2 < 16 := by omega
  have hq : IntKind.i64.wrap ((v : Int) / 16) = (d1 : Int) := by simp only [IntKind.wrap_i64]; omega
  have hm : (v : Int).tmod 16 = (d2 : Int) := by rw [Int.tmod_eq_emod_of_nonneg (by omega)]; omega
  have x1 := hexS_part d1 g1
  have x2 := hexS_part d2 g2
  have z1 : (str [hexD d1]).size = 1 := by rw [str_size]; rfl
  have z2 : (str [hexD d2]).size = 1 := by rw [str_size]; rfl
  generalize str [hexD d1] = y1 at *
  generalize str [hexD d2] = y2 at *
  have q1' := fun W => run_string_add_sum (P := Try.prog) (w := W) q0 y1 (by omega)
  have q2' := fun W => run_string_add_sum (P := Try.prog) (w := W) (q0 ++ y1) y2 (by rw [ByteArray.size_append]; omega)
  have q3' := fun W => run_string_add_sum (P := Try.prog) (w := W) (q0 ++ y1 ++ y2) q1 (by rw [ByteArray.size_append, ByteArray.size_append]; omega)
  have q4' := fun W => run_string_add_sum (P := Try.prog) (w := W) (q0 ++ y1 ++ y2 ++ q1) q2 (by rw [ByteArray.size_append, ByteArray.size_append, ByteArray.size_append]; omega)
  clear hd1 hd2 z1 z2 h0 h1 h2
  go_enter Try.func37, Try.ntmps37
  go_wp2_with fail
  go_quiet (fail)
  go_wp2_with fail
  go_ret
  exact ⟨rfl, drawn_at _ _⟩
end Go.Proofs.Ytbccachkkflceaa.SetW
