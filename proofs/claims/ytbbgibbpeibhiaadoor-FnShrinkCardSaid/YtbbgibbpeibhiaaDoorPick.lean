/-
  The reference's l1Pick: rows and columns of a matrix by two lists of numbers.
-/
import Derived.Test.YtbbgibbpeibhiaaDoorInts
import Derived.Deep.RegionWith
namespace Go.Proofs.YtbbgibbpeibhiaaDoor.Pick
open Go.RowKit Go.Proofs.YtbbgibbpeibhiaaDoor.Plain Go.Proofs.YtbbgibbpeibhiaaDoor.Base Go.Proofs.YtbbgibbpeibhiaaDoor.Valid Go.Proofs.YtbbgibbpeibhiaaDoor.Law Go.Proofs.YtbbgibbpeibhiaaDoor.GridPlain Go.Proofs.YtbbgibbpeibhiaaDoor.Grid Go.Proofs.YtbbgibbpeibhiaaDoor.Entry Go.Proofs.YtbbgibbpeibhiaaDoor.Ints
set_option linter.unusedVariables false

/-- the entries that are picked -/
def pickE (E : Nat → Nat → Bool) (xs ys : List Int) : Nat → Nat → Bool := fun x y => E (xs.getD x 0).toNat (ys.getD y 0).toNat

theorem cells3 {w : World} {g : Nat} {T : TypeId} {a b c : Value} (h : w.heap[g]? = some (.cells #[a, b, c] T (0, 0))) :
    w.cell? ⟨g, 0, none⟩ = some a ∧ w.cell? ⟨g, 1, none⟩ = some b ∧ w.cell? ⟨g, 2, none⟩ = some c :=
  ⟨cell_of_row _ _ 0 _ _ _ h, cell_of_row _ _ 1 _ _ _ h, cell_of_row _ _ 2 _ _ _ h⟩
theorem free3 {w : World} {g : Nat} {T : TypeId} {a b c : Value} (h : w.heap[g]? = some (.cells #[a, b, c] T (0, 0))) :
    w.frozen? ⟨g, 0, none⟩ = false ∧ w.frozen? ⟨g, 1, none⟩ = false ∧ w.frozen? ⟨g, 2, none⟩ = false :=
  ⟨frozen_of_row _ _ 0 _ _ h, frozen_of_row _ _ 1 _ _ h, frozen_of_row _ _ 2 _ _ h⟩

/-- what holds while l1Pick runs: out has these bytes -/
def PInv (w wr : World) (r c n m : Int) (s t : ByteArray) : Prop :=
  wr.heap[w.heap.size]? = some (.cells #[.int .i64 r, .int .i64 c, .string s] 24 (0, 0)) ∧ wr.heap[w.heap.size + 1]? = some (.cells #[.int .i64 0, .int .i64 0, .string ⟨#[]⟩] 24 (0, 0)) ∧
    wr.heap[w.heap.size + 1 + 1]? = some (.cells #[.int .i64 n, .int .i64 m, .string t] 24 (0, 0)) ∧ Below w.heap.size w wr ∧ w.heap.size + 3 ≤ wr.heap.size
theorem PInv.later {w wr w2 : World} {r c n m : Int} {s t : ByteArray} (h : PInv w wr r c n m s t) (hb : Below wr.heap.size wr w2) : PInv w w2 r c n m s t := by
  obtain ⟨h0, h1, h2, h3, h4⟩ := h
  exact ⟨(hb.block _ (by omega)).trans h0, (hb.block _ (by omega)).trans h1, (hb.block _ (by omega)).trans h2, bstep h3 hb, Nat.le_trans h4 hb.size⟩
theorem PInv.drew {w wr : World} {r c n m : Int} {s t : ByteArray} (h : PInv w wr r c n m s t) (q : Nat) : PInv w (wr.drewN q) r c n m s t :=
  ⟨h.1, h.2.1, h.2.2.1, ⟨h.2.2.2.1.os, h.2.2.2.1.tape, h.2.2.2.1.output, h.2.2.2.1.size, h.2.2.2.1.block⟩, h.2.2.2.2⟩
theorem PInv.set_ {w wr : World} {r c n m : Int} {s t : ByteArray} (h : PInv w wr r c n m s t) (u : ByteArray) : PInv w (wr.setCell ⟨w.heap.size + 1 + 1, 2, none⟩ (.string u)) r c n m s u := by
  obtain ⟨h0, h1, h2, h3, h4⟩ := h
  exact ⟨(heap_setCell_other _ _ _ _ (by simp; omega)).trans h0, (heap_setCell_other _ _ _ _ (by simp)).trans h1, (heap_setCell_same _ _ _ _ _ _ h2).trans rfl, h3.setCell (by simp; omega) _, by simpa using h4⟩

set_option maxHeartbeats 40000000 in
theorem pick_spec1 (E : Nat → Nat → Bool) (r c : Nat) (hr8 : r ≤ 8) (hc8 : c ≤ 8) (xs ys : List Int) (v u : Value) (okx : okI xs r = true) (oky : okI ys c = true) (hx1 : 1 ≤ xs.length) (hx8 : xs.length ≤ 8) (hy1 : 1 ≤ ys.length) (hy8 : ys.length ≤ 8)
    (w : World) (hv : IV w w.heap.size v xs) (hu : IV w w.heap.size u ys) :
    Calls Tryd.prog 32 #[mat r c (str (rowsB E r c)), v, u] w fun e w' => e = .returned (mat xs.length ys.length (str (rowsB (pickE E xs ys) xs.length ys.length))) ∧ Below w.heap.size w w' := by
  have HAT : Hid (∀ a b : Int, 0 ≤ a → a < (r : Int) → 0 ≤ b → b < (c : Int) → ∀ W : World, Calls Tryd.prog 58 #[mat r c (str (rowsB E r c)), .int .i64 a, .int .i64 b] W fun e w' => e = .returned (.bool (E a.toNat b.toNat)) ∧ Below W.heap.size W w') :=
    fun a b ha har hb hbc W => by
      obtain ⟨x, rfl⟩ := Int.eq_ofNat_of_zero_le ha
      obtain ⟨y, rfl⟩ := Int.eq_ofNat_of_zero_le hb
      exact at_any E r c hr8 hc8 x y (by omega) (by omega) W
  generalize str (rowsB E r c) = s at *
  obtain ⟨bx, ox, cx, rfl, hbx, hcx⟩ := hv.2.resolve_left fun h => by rw [h.2] at hx1; simp at hx1
  obtain ⟨bY, oy, cy, rfl, hby, hcy⟩ := hu.2.resolve_left fun h => by rw [h.2] at hy1; simp at hy1
  have HX : Hid (∀ j (hj : j < xs.length), w.cell? ⟨bx, ox + j, none⟩ = some (.int .i64 xs[j])) := hcx
  have HY : Hid (∀ j (hj : j < ys.length), w.cell? ⟨bY, oy + j, none⟩ = some (.int .i64 ys[j])) := hcy
  have OX := Lib.hid okx
  have OY := Lib.hid oky
  clear hcx hcy hv hu okx oky
  go_enter Tryd.func32, Tryd.ntmps32
  go_wp2_with fail
  have HI : Hid (PInv w (((w.alloc (.cells #[.int .i64 (r : Int), .int .i64 (c : Int), .string s] 24)).alloc (.cells #[.int .i64 0, .int .i64 0, .string ⟨#[]⟩] 24)).alloc (.cells #[.int .i64 (xs.length : Int), .int .i64 (ys.length : Int), .string ⟨#[]⟩] 24)) r c xs.length ys.length s ⟨#[]⟩) :=
    blocks3 (Below.refl _ _)
  go_loopw [8] (fun x wr => ∃ (k : Nat) (t : ByteArray), k ≤ xs.length ∧ x = .int .i64 (k : Int) ∧ Hid (t = str (rowsB (pickE E xs ys) k ys.length)) ∧ PInv w wr r c xs.length ys.length s t) (fun x _ => xs.length - (intOf x).toNat)
  case atStart => exact ⟨0, _, Nat.zero_le _, rfl, rfl, HI.out⟩
  case round =>
    obtain ⟨k, t, hk, rfl, ht, hinv⟩ := hrel
    clear HI
    have HI := Lib.hid hinv
    obtain ⟨e0, e1, e2⟩ := cells3 hinv.2.1
    obtain ⟨g0, g1, g2⟩ := free3 hinv.2.1
    obtain ⟨o0, o1, o2⟩ := cells3 hinv.2.2.1
    clear hinv
    by_cases hlt : k < xs.length
    · clear e0 e1 e2 g0 g1 g2 o0 o1 o2
      go_wp2_with fail
      go_loopw [9] (fun y wr => ∃ (j : Nat) (t : ByteArray), j ≤ ys.length ∧ y = .int .i64 (j : Int) ∧ Hid (t = str (rowsB (pickE E xs ys) k ys.length ++ rowB (pickE E xs ys) k j)) ∧ PInv w wr r c xs.length ys.length s t) (fun y _ => ys.length - (intOf y).toNat)
      case atStart => exact ⟨0, _, Nat.zero_le _, rfl, by rw [ht.out]; exact part_start _ _ _, HI.out⟩
      case round =>
        clear HI
        obtain ⟨j, t', hj, rfl, ht', hinv⟩ := hrel
        have HI := Lib.hid hinv
        obtain ⟨m0, m1, m2⟩ := cells3 hinv.1
        obtain ⟨o0, o1, o2⟩ := cells3 hinv.2.2.1
        obtain ⟨_, _, fo⟩ := free3 hinv.2.2.1
        have hz := hinv.2.2.2.2
        have hB := hinv.2.2.2.1
        by_cases hlt' : j < ys.length
        · have hcx := (hB.cell (p := ⟨bx, ox + k, none⟩) hbx).trans (HX.out k hlt)
          have hcy := (hB.cell (p := ⟨bY, oy + j, none⟩) hby).trans (HY.out j hlt')
          have ax := okI_get OX.out k hlt
          have ay := okI_get OY.out j hlt'
          have HE : Hid (pickE E xs ys k j = E (xs[k]).toNat (ys[j]).toNat) := by
            unfold Hid pickE
            simp [hlt, hlt']
          have HC := Lib.hid (HAT.out _ _ ax.1 ax.2 ay.1 ay.2)
          generalize xs[k] = a at hcx HE HC
          generalize ys[j] = b at hcy HE HC
          clear ax ay hinv hB
          have htz : t'.size + 1 ≤ 9223372036854775807 := by
            have := part_size (pickE E xs ys) hx8 hy8 hlt hlt'
            rw [ht'.out]
            omega
          obtain ⟨d, hd⟩ : ∃ d : Bool, E a.toNat b.toNat = d := ⟨_, rfl⟩
          have hcat := fun W => run_string_add_sum (P := Tryd.prog) (w := W) t' ⟨#[dig d]⟩ htz
          rw [hd] at HE HC
          clear hd htz
          have nx : ¬ bx = w.heap.size + 1 + 1 := by omega
          have ny : ¬ bY = w.heap.size + 1 + 1 := by omega
          have k0 : (0 : Int) ≤ (k : Int) := Int.natCast_nonneg k
          have k1 : (k : Int) < (xs.length : Int) := by omega
          have j0 : (0 : Int) ≤ (j : Int) := Int.natCast_nonneg j
          have j1 : (j : Int) < (ys.length : Int) := by omega
          go_wp2_with fail
          go_region_with (first | (go_at_call 58; refine (HC.out _).mono ?_; rintro e w2 ⟨rfl, hb2⟩; have HI2 := Lib.hid ((HI.out.drew 1).later hb2); obtain ⟨n0, n1, n2⟩ := cells3 HI2.out.1; obtain ⟨p0, p1, p2⟩ := cells3 HI2.out.2.2.1; obtain ⟨_, _, fp⟩ := free3 HI2.out.2.2.1; clear hb2) | (go_at_call 57; refine (l1Bit_any d _).mono ?_; rintro e w' ⟨rfl, rfl⟩))
          all_goals go_wp2_with fail
          all_goals
            go_roundw
            case rel => exact ⟨j + 1, _, by omega, by go_num, by rw [ht'.out, ← HE.out]; exact part_next (pickE E xs ys) k j ys.length, HI2.out.set_ _⟩
            case measure => simp [intOf]; omega
        · obtain rfl : j = ys.length := by omega
          go_wp2_with fail
          go_roundw
          case rel => exact ⟨k + 1, t', by omega, by go_num, by rw [ht'.out]; exact part_done _ _ _, HI.out⟩
          case measure => simp [intOf]; omega
    · obtain rfl : k = xs.length := by omega
      go_wp2_with fail
      refine bodyPost_ret (v := mat xs.length ys.length t) (by simp [results, Tryd.results32, go_sem, e0, e1, e2]) rfl ⟨by rw [ht.out], ?_⟩
      exact ((HI.out.2.2.2.1.setCell (by simp) _).setCell (by simp) _).setCell (by simp) _
end Go.Proofs.YtbbgibbpeibhiaaDoor.Pick
