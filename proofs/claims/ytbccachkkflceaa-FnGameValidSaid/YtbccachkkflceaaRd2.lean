/-
  The drawing functions: l14Open, num, l1Side, l2Bad, l2Draw.
-/
import Derived.Test.YtbccachkkflceaaRd
namespace Go.Proofs.Ytbccachkkflceaa.Rd2
open Go.RowKit Go.Proofs.Ytbccachkkflceaa.Plain Go.Proofs.Ytbccachkkflceaa.Rd
set_option linter.unusedVariables false

/-- its bytes lie below lo -/
def LoB (lo : Nat) (v : Value) (n : Nat) : Prop := n = 0 ∨ ∀ (b off : Nat) (k c : Nat), v = .slice (some ⟨b, off, none⟩) k c → b < lo
/-- a reader that has given so many numbers, whatever its bytes, which lie below lo -/
def Rdr (lo : Nat) (w : World) (g p : Nat) : Prop := ∃ v n, RdAt w g v n p ∧ LoB lo v n
theorem Rdr.later {lo : Nat} {w w' : World} {g p : Nat} (h : Rdr lo w g p) (hb : Below w.heap.size w w') : Rdr lo w' g p := by
  obtain ⟨v, n, h, hl⟩ := h
  exact ⟨v, n, h.later hb, hl⟩
theorem Rdr.lt {lo : Nat} {w : World} {g p : Nat} (h : Rdr lo w g p) : g < w.heap.size := by
  obtain ⟨v, n, h, hl⟩ := h
  exact h.lt
theorem pick_r {lo : Nat} (g p : Nat) (hp : p < 1048576) (m : Int) (w : World) (h : Rdr lo w g p) :
    Calls Try.prog 43 #[.pointer (some ⟨g, 0, none⟩), .int .i64 m] w fun e w' => ∃ x : Int, e = .returned (.int .i64 x) ∧ (0 ≤ x ∧ x < 4611686018427387904) ∧ (x < m ∨ x = 0) ∧ Rdr lo w' g (p + 1) ∧ Apt g w w' := by
  obtain ⟨v, n, h, hl⟩ := h
  exact (pick_any g v n p hp m w h).mono fun e w' h => by
    obtain ⟨x, h1, h2, h3, h4, h5⟩ := h
    exact ⟨x, h1, h2, h3, ⟨v, n, h4, hl⟩, h5⟩

set_option maxHeartbeats 1000000 in
theorem open_lo {lo : Nat} (v : Value) (n : Nat) (w : World) (h : ByteArg w v n) (hlo : LoB lo v n) :
    Calls Try.prog 27 #[v] w fun e w' => ∃ g, e = .returned (.pointer (some ⟨g, 0, none⟩)) ∧ Rdr lo w' g 0 ∧ Below w.heap.size w w' ∧ w.heap.size ≤ g := by
  obtain ⟨hn, a, c, rfl, hc, hb⟩ := h
  have HLO : Hid (∀ k c', k ≤ n → LoB lo (.slice a k c') k) := fun k c' hk => by
    rcases hlo with h | h
    · exact .inl (by omega)
    · refine .inr fun b off k2 c2 e => ?_
      injection e with e1 _ _
      subst e1
      exact h b off n c rfl
  clear hlo
  have HB : Hid (n = 0 ∨ ∃ b off, a = some ⟨b, off, none⟩ ∧ b < w.heap.size ∧ ∀ j, j < n → ∃ x : Int, 0 ≤ x ∧ x < 256 ∧ w.cell? ⟨b, off + j, none⟩ = some (.int .u8 x)) := hb
  clear hb
  have bytes : ∀ k, k ≤ n → k ≤ 2000 → ∀ c', Bytes (w.alloc (.cells #[.slice a k c', .int .i64 0] 78)) w.heap.size (.slice a k c') k := fun k hk h2 c' => by
    refine ⟨h2, a, c', rfl, ?_⟩
    rcases HB.out with h | ⟨b, off, h1, h3, h4⟩
    · exact .inl (by omega)
    · refine .inr ⟨b, off, h1, by omega, by simp; omega, fun j hj => ?_⟩
      obtain ⟨x, hx0, hx1, hx⟩ := h4 j (by omega)
      exact ⟨x, hx0, hx1, ((((Below.refl w.heap.size w).alloc (Nat.le_refl _) (.cells #[.slice a k c', .int .i64 0] 78))).cell (p := ⟨b, off + j, none⟩) h3).trans hx⟩
  have HY := Lib.hid bytes
  clear bytes
  by_cases hbig : 2000 < n
  · have h2 : (2000 : Int) < (n : Int) := by omega
    have h3 : (2000 : Int) ≤ (c : Int) := by omega
    go_enter Try.func27, Try.ntmps27
    go_wp2_with fail
    go_ret
    exact ⟨w.heap.size, rfl, ⟨_, _, ⟨heap_alloc_new w _, HY.out 2000 (by omega) (by omega) c⟩, HLO.out 2000 c (by omega)⟩, (Below.refl _ _).alloc (Nat.le_refl _) _, Nat.le_refl _⟩
  · go_enter Try.func27, Try.ntmps27
    go_wp2_with fail
    go_ret
    exact ⟨w.heap.size, rfl, ⟨_, _, ⟨heap_alloc_new w _, HY.out n (by omega) (by omega) c⟩, HLO.out n c (Nat.le_refl _)⟩, (Below.refl _ _).alloc (Nat.le_refl _) _, Nat.le_refl _⟩

theorem lo_of {w : World} {v : Value} {n : Nat} (h : ByteArg w v n) : LoB w.heap.size v n := by
  obtain ⟨hn, a, c, rfl, hc, hb⟩ := h
  rcases hb with h | ⟨b, off, rfl, h2, _⟩
  · exact .inl h
  · refine .inr fun b2 off2 k c2 e => ?_
    injection e with e1 _ _
    injection e1 with e1
    injection e1 with e1 _ _
    omega
theorem open_any (v : Value) (n : Nat) (w : World) (h : ByteArg w v n) :
    Calls Try.prog 27 #[v] w fun e w' => ∃ g, e = .returned (.pointer (some ⟨g, 0, none⟩)) ∧ Rdr w.heap.size w' g 0 ∧ Below w.heap.size w w' ∧ w.heap.size ≤ g := open_lo v n w h (lo_of h)

theorem cells_lit (w : World) (T : TypeId) (xs : List Int) (j : Nat) (hj : j < xs.length) : (w.alloc (.cells (xs.map fun x : Int => Value.int .i64 x).toArray T)).cell? ⟨w.heap.size, j, none⟩ = some (.int .i64 xs[j]) :=
  (cell_of_row _ _ j _ _ _ (heap_alloc_new w _)).trans (by simp [hj])

end Go.Proofs.Ytbccachkkflceaa.Rd2
