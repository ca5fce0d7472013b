/-
  Texts of one seat, joined: Rd2, Rd3.
-/
import Derived.Test.YtbccachkkflceaaGreatDoorJn1
/-
  The drawing functions: l14Open, num, l1Side, l2Bad, l2Draw.
-/
namespace Go.Proofs.YtbccachkkflceaaGreatDoor.Rd2
open Go.RowKit Go.Proofs.YtbccachkkflceaaGreatDoor.Plain Go.Proofs.YtbccachkkflceaaGreatDoor.Rd
set_option linter.unusedVariables false

/-- its bytes lie below lo -/
def LoB (lo : Nat) (v : Value) (n : Nat) : Prop := n = 0 ∨ ∀ (b off : Nat) (k c : Nat), v = .slice (some ⟨b, off, none⟩) k c → b < lo
/-- a reader that has given so many numbers, whatever its bytes, which lie below lo -/
def Rdr (lo : Nat) (w : World) (g p : Nat) : Prop := ∃ v n, RdAt w g v n p ∧ LoB lo v n
theorem Rdr.later {lo : Nat} {w w' : World} {g p : Nat} (h : Rdr lo w g p) (hb : Below w.heap.size w w') : Rdr lo w' g p := by
  obtain ⟨v, n, h, hl⟩ := h
  exact ⟨v, n, h.later hb, hl⟩
theorem Rdr.lt {lo : Nat} {w : World} {g p : Nat} (h : Rdr lo w g p) : g < w.heap.size := by
  obtain ⟨v, n, h, hl⟩ := h
  exact h.lt
theorem pick_r {lo : Nat} (g p : Nat) (hp : p < 1048576) (m : Int) (w : World) (h : Rdr lo w g p) :
    Calls Tryz.prog 57 #[.pointer (some ⟨g, 0, none⟩), .int .i64 m] w fun e w' => ∃ x : Int, e = .returned (.int .i64 x) ∧ (0 ≤ x ∧ x < 4611686018427387904) ∧ (x < m ∨ x = 0) ∧ Rdr lo w' g (p + 1) ∧ Apt g w w' := by
  obtain ⟨v, n, h, hl⟩ := h
  exact (pick_any g v n p hp m w h).mono fun e w' h => by
    obtain ⟨x, h1, h2, h3, h4, h5⟩ := h
    exact ⟨x, h1, h2, h3, ⟨v, n, h4, hl⟩, h5⟩

set_option maxHeartbeats 1000000 in
theorem open_lo {lo : Nat} (v : Value) (n : Nat) (w : World) (h : ByteArg w v n) (hlo : LoB lo v n) :
    Calls Tryz.prog 43 #[v] w fun e w' => ∃ g, e = .returned (.pointer (some ⟨g, 0, none⟩)) ∧ Rdr lo w' g 0 ∧ Below w.heap.size w w' ∧ w.heap.size ≤ g := by
  obtain ⟨hn, a, c, rfl, hc, hb⟩ := h
  have HLO : Hid (∀ k c', k ≤ n → LoB lo (.slice a k c') k) := fun k c' hk => by
    rcases hlo with h | h
    · exact .inl (by omega)
    · refine .inr fun b off k2 c2 e => ?_
      injection e with e1 _ _
      subst e1
      exact h b off n c rfl
  clear hlo
  have HB : Hid (n = 0 ∨ ∃ b off, a = some ⟨b, off, none⟩ ∧ b < w.heap.size ∧ ∀ j, j < n → ∃ x : Int, 0 ≤ x ∧ x < 256 ∧ w.cell? ⟨b, off + j, none⟩ = some (.int .u8 x)) := hb
  clear hb
  have bytes : ∀ k, k ≤ n → k ≤ 2000 → ∀ c', Bytes (w.alloc (.cells #[.slice a k c', .int .i64 0] 117)) w.heap.size (.slice a k c') k := fun k hk h2 c' => by
    refine ⟨h2, a, c', rfl, ?_⟩
    rcases HB.out with h | ⟨b, off, h1, h3, h4⟩
    · exact .inl (by omega)
    · refine .inr ⟨b, off, h1, by omega, by simp; omega, fun j hj => ?_⟩
      obtain ⟨x, hx0, hx1, hx⟩ := h4 j (by omega)
      exact ⟨x, hx0, hx1, ((((Below.refl w.heap.size w).alloc (Nat.le_refl _) (.cells #[.slice a k c', .int .i64 0] 117))).cell (p := ⟨b, off + j, none⟩) h3).trans hx⟩
  have HY := Lib.hid bytes
  clear bytes
  by_cases hbig : 2000 < n
  · have h2 : (2000 : Int) < (n : Int) := by omega
    have h3 : (2000 : Int) ≤ (c : Int) := by omega
    go_enter Tryz.func43, Tryz.ntmps43
    go_wp2_with fail
    go_ret
    exact ⟨w.heap.size, rfl, ⟨_, _, ⟨heap_alloc_new w _, HY.out 2000 (by omega) (by omega) c⟩, HLO.out 2000 c (by omega)⟩, (Below.refl _ _).alloc (Nat.le_refl _) _, Nat.le_refl _⟩
  · go_enter Tryz.func43, Tryz.ntmps43
    go_wp2_with fail
    go_ret
    exact ⟨w.heap.size, rfl, ⟨_, _, ⟨heap_alloc_new w _, HY.out n (by omega) (by omega) c⟩, HLO.out n c (Nat.le_refl _)⟩, (Below.refl _ _).alloc (Nat.le_refl _) _, Nat.le_refl _⟩

theorem lo_of {w : World} {v : Value} {n : Nat} (h : ByteArg w v n) : LoB w.heap.size v n := by
  obtain ⟨hn, a, c, rfl, hc, hb⟩ := h
  rcases hb with h | ⟨b, off, rfl, h2, _⟩
  · exact .inl h
  · refine .inr fun b2 off2 k c2 e => ?_
    injection e with e1 _ _
    injection e1 with e1
    injection e1 with e1 _ _
    omega
theorem open_any (v : Value) (n : Nat) (w : World) (h : ByteArg w v n) :
    Calls Tryz.prog 43 #[v] w fun e w' => ∃ g, e = .returned (.pointer (some ⟨g, 0, none⟩)) ∧ Rdr w.heap.size w' g 0 ∧ Below w.heap.size w w' ∧ w.heap.size ≤ g := open_lo v n w h (lo_of h)

set_option maxHeartbeats 1000000 in
theorem num_any {lo : Nat} (g p : Nat) (hp : p < 1048576) (xs : List Int) (h1 : 1 ≤ xs.length) (h8 : xs.length ≤ 1000) (b c : Nat) (hbg : b ≠ g) (w : World) (h : Rdr lo w g p) (hbl : b < w.heap.size)
    (hc : ∀ j (hj : j < xs.length), w.cell? ⟨b, j, none⟩ = some (.int .i64 xs[j])) :
    Calls Tryz.prog 81 #[.pointer (some ⟨g, 0, none⟩), .slice (some ⟨b, 0, none⟩) xs.length c] w fun e w' => ∃ x : Int, e = .returned (.int .i64 x) ∧ x ∈ xs ∧ Rdr lo w' g (p + 1) ∧ Apt g w w' := by
  have HC := Lib.hid hc
  have HP := Lib.hid (pick_r g p hp (xs.length : Int) w h)
  clear hc h
  go_enter Tryz.func81, Tryz.ntmps81
  go_wp2_with fail
  refine HP.out.mono ?_
  rintro e w1 ⟨x, rfl, ⟨hx0, hxm⟩, hx1, hr, ha⟩
  obtain ⟨k, rfl⟩ := Int.eq_ofNat_of_zero_le hx0
  have hk : k < xs.length := by omega
  have hkl : (k : Int) < (xs.length : Int) := by omega
  have hcell : w1.cell? ⟨b, k, none⟩ = some (.int .i64 xs[k]) := (ha.cell (p := ⟨b, k, none⟩) hbl hbg).trans (HC.out k hk)
  have HM : Hid (xs[k] ∈ xs) := List.getElem_mem hk
  have HR := Lib.hid hr
  have HA := Lib.hid ha
  generalize xs[k] = y at hcell HM
  clear hr ha hx1
  go_wp2_with fail
  go_ret
  exact ⟨y, rfl, HM.out, HR.out, HA.out⟩

theorem cells_lit (w : World) (T : TypeId) (xs : List Int) (j : Nat) (hj : j < xs.length) : (w.alloc (.cells (xs.map fun x : Int => Value.int .i64 x).toArray T)).cell? ⟨w.heap.size, j, none⟩ = some (.int .i64 xs[j]) :=
  (cell_of_row _ _ j _ _ _ (heap_alloc_new w _)).trans (by simp [hj])

end Go.Proofs.YtbccachkkflceaaGreatDoor.Rd2

/-
  The drawing functions of rectangles: l2Draw, l2Bad.
-/
namespace Go.Proofs.YtbccachkkflceaaGreatDoor.Rd3
open Go.RowKit Go.Proofs.YtbccachkkflceaaGreatDoor.Plain Go.Proofs.YtbccachkkflceaaGreatDoor.Rd Go.Proofs.YtbccachkkflceaaGreatDoor.Rd2
set_option linter.unusedVariables false

/-- what is known of two new blocks while a reader in an older one is read -/
structure Two (g : Nat) (w wr : World) (T1 T2 : TypeId) (c1 c2 : Array Value) : Prop where
  one : wr.heap[w.heap.size]? = some (.cells c1 T1 (0, 0))
  two : wr.heap[w.heap.size + 1]? = some (.cells c2 T2 (0, 0))
  apt : Apt g w wr
  size : w.heap.size + 2 ≤ wr.heap.size
theorem Two.start (g : Nat) (w : World) (T1 T2 : TypeId) (c1 c2 : Array Value) : Two g w ((w.alloc (.cells c1 T1)).alloc (.cells c2 T2)) T1 T2 c1 c2 := by
  have h2 : ((w.alloc (.cells c1 T1)).alloc (.cells c2 T2)).heap[w.heap.size + 1]? = some (.cells c2 T2 (0, 0)) := by
    have := heap_alloc_new (w.alloc (.cells c1 T1)) (.cells c2 T2)
    rwa [World.size_alloc] at this
  exact ⟨(Below.heap_alloc _ _ _ (by simp)).trans (heap_alloc_new w _), h2, Apt.of_below (((Below.refl w.heap.size w).alloc (Nat.le_refl _) _).alloc (by simp) _), by simp⟩
theorem Two.later {g : Nat} {w wr w2 : World} {T1 T2 : TypeId} {c1 c2 : Array Value} (h : Two g w wr T1 T2 c1 c2) (hg : g < w.heap.size) (ha : Apt g wr w2) : Two g w w2 T1 T2 c1 c2 :=
  ⟨(ha.block _ (by have := h.size; omega) (by omega)).trans h.one, (ha.block _ (by have := h.size; omega) (by omega)).trans h.two, h.apt.trans ha, Nat.le_trans h.size ha.size⟩
theorem two_start_below (w : World) (o1 o2 : Obj) : Below w.heap.size w ((w.alloc o1).alloc o2) := ((Below.refl w.heap.size w).alloc (Nat.le_refl _) _).alloc (by simp) _
theorem apt_set {g : Nat} {w wr : World} (h : Apt g w wr) (b i : Nat) (hb : w.heap.size ≤ b) (x : Value) : Apt g w (wr.setCell ⟨b, i, none⟩ x) :=
  ⟨h.os, h.tape, h.output, by simpa using h.size, fun k hk hg => (heap_setCell_other _ _ _ _ (by simp; omega)).trans (h.block k hk hg)⟩
/-- a store into a block that is neither the reader nor its bytes' -/
theorem rdr_put {lo : Nat} {g p : Nat} {w : World} (h : Rdr lo w g p) (b i : Nat) (x : Value) (hbg : b ≠ g) (hlo : g < b ∨ lo ≤ b) : Rdr lo (w.setCell ⟨b, i, none⟩ x) g p := by
  obtain ⟨v, n, h, hl⟩ := h
  obtain ⟨h0, a, c, hv, h1⟩ := h.bytes
  refine ⟨v, n, ⟨(heap_setCell_other _ _ _ _ (by simp; omega)).trans h.cells, h0, a, c, hv, ?_⟩, hl⟩
  rcases h1 with h1 | ⟨b', off, h1, h2, h3, h4⟩
  · exact .inl h1
  · by_cases hn : n = 0
    · exact .inl hn
    have hbb : b' ≠ b := by
      rcases hlo with h5 | h5
      · omega
      · rcases hl with h6 | h6
        · exact absurd h6 hn
        · have := h6 b' off n c (by rw [hv, h1])
          omega
    refine .inr ⟨b', off, h1, h2, by simpa using h3, fun j hj => ?_⟩
    obtain ⟨y, hy0, hy1, hy⟩ := h4 j hj
    have e := heap_setCell_other w ⟨b, i, none⟩ b' x (by simpa using hbb)
    refine ⟨y, hy0, hy1, ?_⟩
    simp only [World.cell?, e] at hy ⊢
    exact hy
theorem rdr_set {lo : Nat} {g p : Nat} {w : World} (h : Rdr lo w g p) (b i : Nat) (x : Value) (hb : g < b) : Rdr lo (w.setCell ⟨b, i, none⟩ x) g p := rdr_put h b i x (by omega) (.inl hb)

end Go.Proofs.YtbccachkkflceaaGreatDoor.Rd3

