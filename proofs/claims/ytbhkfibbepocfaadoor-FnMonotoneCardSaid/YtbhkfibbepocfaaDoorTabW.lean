/-
  The table of a formula is a table of its width.
-/
import Derived.Test.YtbhkfibbepocfaaDoorFmTab
import Derived.Test.YtbhkfibbepocfaaDoorWid
namespace Go.Proofs.YtbhkfibbepocfaaDoor.TabW
open Go.RowKit Go.Proofs.YtbhkfibbepocfaaDoor.Plain Go.Proofs.YtbhkfibbepocfaaDoor.Fm Go.Proofs.YtbhkfibbepocfaaDoor.FmTab Go.Proofs.YtbhkfibbepocfaaDoor.Valid Go.Proofs.YtbhkfibbepocfaaDoor.Wid
set_option linter.unusedVariables false

theorem tab_ok (f : F) (N : Nat) : okB (str (tabL f N)) = true := by
  unfold okB
  rw [List.all_eq_true]
  intro c hc
  have h2 : c ∈ tabL f N := by simpa [str] using hc
  unfold tabL at h2
  obtain ⟨n, _, rfl⟩ := List.mem_map.1 h2
  cases val f n <;> rfl
theorem tab_size (f : F) (N : Nat) : (str (tabL f N)).size = N := by rw [str_size, tabL_length]
theorem tab_width (f : F) (n : Nat) (h1 : 1 ≤ n) (h3 : n ≤ 3) : widthV (str (tabL f (2 ^ n))) = (n : Int) := by
  have h : n = 1 ∨ n = 2 ∨ n = 3 := by omega
  rcases h with rfl | rfl | rfl
  · exact width1 (tab_ok _ _) (tab_size _ _)
  · exact width2 (tab_ok _ _) (tab_size _ _)
  · exact width3 (tab_ok _ _) (tab_size _ _)
theorem tab_get (f : F) (N k : Nat) (hk : k < N) : (str (tabL f N)).data.toList.getD k 0 = dig (val f k) := by
  simp [str, tabL, List.getD_eq_getElem?_getD, hk]
theorem tab_byte (f : F) (N k : Nat) (hk : k < N) (h : k < (str (tabL f N)).size) : ((((str (tabL f N))[k]'h).toNat : Int) == 49) = val f k := by
  have hk' : k < (str (tabL f N)).data.toList.length := by simpa using h
  have e : (str (tabL f N))[k]'h = dig (val f k) := by
    rw [← tab_get f N k hk]
    simp only [List.getD_eq_getElem?_getD, List.getElem?_eq_getElem hk']
    simp
    rfl
  rw [e]
  cases val f k <;> rfl
end Go.Proofs.YtbhkfibbepocfaaDoor.TabW
