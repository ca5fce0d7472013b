/-
  LiveRects: both sides' lists.
-/
import Derived.Test.YtcafingoghoijaaLiveI
namespace Go.Proofs.Ytcafingoghoijaa.Live
open Go.RowKit Go.Proofs.Ytcafingoghoijaa.Plain Go.Proofs.Ytcafingoghoijaa.Rect Go.Proofs.Ytcafingoghoijaa.FreeL Go.Proofs.Ytcafingoghoijaa.GuessM Go.Proofs.Ytcafingoghoijaa.GuessI Go.Proofs.Ytcafingoghoijaa.GuessT Go.Proofs.Ytcafingoghoijaa.Rects Go.Proofs.Ytcafingoghoijaa.Things Go.Proofs.Ytcafingoghoijaa.Accept Go.Proofs.Ytcafingoghoijaa.LiveI
open Go.Proofs.Ytcafingoghoijaa.Free (fill wp_value wp_enter wp_load_row freeB)
open Go.Proofs.Ytcafingoghoijaa.Marks (flat encR)
set_option linter.unusedVariables false

/-- whether the j-th has something in common with a side -/
def meetsAt (xs : List (Int × Int)) (s : Int) (cols : Bool) (j : Nat) : Bool := mt (side (xs.getD j (0, 0)) cols) s
theorem meetsAt_at (xs : List (Int × Int)) (s : Int) (cols : Bool) (j : Nat) (hj : j < xs.length) : meetsAt xs s cols j = mt (side xs[j] cols) s := by simp [meetsAt, List.getD, hj]
/-- those that live -/
def live (xs : List (Int × Int)) (q : Int × Int) (cols : Bool) : List (Int × Int) := kept xs (meetsAt xs (side q cols) cols)

set_option maxRecDepth 100000 in
set_option maxHeartbeats 2000000 in
theorem right_live (xs : List (Int × Int)) (s : Int) (cols : Bool) (Bc Bi : Nat) (w : World) (hc : w.cell? ⟨Bc, 0, none⟩ = some (.bool cols)) (hi : w.cell? ⟨Bi, 0, none⟩ = some (.int .i64 s)) (hcl : Bc < w.heap.size) (hil : Bi < w.heap.size) :
    Right 52 #[.pointer (some ⟨Bc, 0, none⟩), .pointer (some ⟨Bi, 0, none⟩)] xs (meetsAt xs s cols) w := by
  intro j hj W hb
  have c0 := (hb.cell (p := ⟨Bc, 0, none⟩) hcl).trans hc
  have c1 := (hb.cell (p := ⟨Bi, 0, none⟩) hil).trans hi
  have hsz := hb.size
  have hbc : Bc < W.heap.size := by omega
  have hbi : Bi < W.heap.size := by omega
  rw [meetsAt_at xs s cols j hj]
  obtain ⟨x, hx⟩ : ∃ a, xs[j].1 = a := ⟨_, rfl⟩
  obtain ⟨y, hy⟩ : ∃ b, xs[j].2 = b := ⟨_, rfl⟩
  rw [show xs[j] = (x, y) from Prod.ext hx hy]
  have HI := Lib.hid (fun W => inputs_any x y cols W)
  obtain ⟨a, ha⟩ : ∃ a, side (x, y) cols = a := ⟨_, rfl⟩
  rw [ha] at HI ⊢
  have HW : Hid ((W.alloc (.cells #[.int .i64 x, .int .i64 y] 33)).heap[W.heap.size]? = some (.cells #[.int .i64 x, .int .i64 y] 33 (0, 0))) := heap_alloc_new W _
  have HB0 : Hid (Below W.heap.size W (W.alloc (.cells #[.int .i64 x, .int .i64 y] 33))) := (Below.refl _ _).alloc (Nat.le_refl _) _
  have H0 : Hid ((W.alloc (.cells #[.int .i64 x, .int .i64 y] 33)).cell? ⟨Bc, 0, none⟩ = some (.bool cols)) := (HB0.out.cell (p := ⟨Bc, 0, none⟩) hbc).trans c0
  have H1 : Hid ((W.alloc (.cells #[.int .i64 x, .int .i64 y] 33)).cell? ⟨Bi, 0, none⟩ = some (.int .i64 s)) := (HB0.out.cell (p := ⟨Bi, 0, none⟩) hbi).trans c1
  have HM : Hid (mt a s = (Go.bits .and .i64 a s != 0)) := rfl
  obtain ⟨r, hr⟩ : ∃ r, mt a s = r := ⟨_, rfl⟩
  rw [hr] at HM ⊢
  clear hc hi hb hx hy ha c0 c1 hr
  show Calls Try.prog 52 #[rect x y, .pointer (some ⟨Bc, 0, none⟩), .pointer (some ⟨Bi, 0, none⟩)] W _
  go_enter Try.func52, Try.ntmps52
  go_wp2_with fail
  obtain ⟨W0, hW0⟩ : ∃ W0, W.alloc (.cells #[.int .i64 x, .int .i64 y] 33) = W0 := ⟨_, rfl⟩
  have hs0 : W0.heap.size = W.heap.size + 1 := by rw [← hW0]; simp
  rw [hW0] at HW HB0 H0 H1
  first | rw [hW0] | skip
  refine wp_region_below (fun | 0 => rect x y | 1 => .bool cols | 2 => .int .i64 a | 3 => .int .i64 s | 4 => .int .i64 (Go.bits .and .i64 a s) | 5 => .bool r | 6 => .bool r | _ => undef) (by kernel_rfl) (by kernel_rfl) rfl ?con ?en
  case con =>
    intro i o ho a' w2 hb2 hf
    match i, ho with
    | 0, ho =>
      obtain rfl := Option.some.inj ho
      have b3 : a'.tmps[3]?.getD undef = .pointer (some ⟨W.heap.size, 0, none⟩) := hf.2 3 (by kernel_rfl)
      exact wp_load_row 33 (.tmp 3) rfl W.heap.size (eval_get b3 trivial) 33 _ (0, 0) _ ((hb2.block _ (by omega)).trans HW.out) Try.underlying33 rfl rinfo2 ⟨rfl, Below.refl _ _⟩
    | 1, ho =>
      obtain rfl := Option.some.inj ho
      have b1 : a'.tmps[1]?.getD undef = .pointer (some ⟨Bc, 0, none⟩) := hf.2 1 (by kernel_rfl)
      have c0 : w2.cell? ⟨Bc, 0, none⟩ = some (.bool cols) := (hb2.cell (p := ⟨Bc, 0, none⟩) (by show Bc < _; omega)).trans H0.out
      exact wp_value (.bool cols) (by unfold execOp; go_simp) ⟨rfl, Below.refl _ _⟩
    | 2, ho =>
      obtain rfl := Option.some.inj ho
      have e5 : a'.tmps[5]?.getD undef = rect x y := hf.1 ⟨0, .data⟩ (by simp) rfl _ 5 rfl rfl
      have e6 : a'.tmps[6]?.getD undef = .bool cols := hf.1 ⟨1, .data⟩ (by simp) rfl _ 6 rfl rfl
      exact wp_enter 51 #[rect x y, .bool cols] (.int .i64 a) _ (by unfold execOp; go_simp) (HI.out w2) (fun w' h => ⟨rfl, h⟩)
    | 3, ho =>
      obtain rfl := Option.some.inj ho
      have b2 : a'.tmps[2]?.getD undef = .pointer (some ⟨Bi, 0, none⟩) := hf.2 2 (by kernel_rfl)
      have c1 : w2.cell? ⟨Bi, 0, none⟩ = some (.int .i64 s) := (hb2.cell (p := ⟨Bi, 0, none⟩) (by show Bi < _; omega)).trans H1.out
      exact wp_value (.int .i64 s) (by unfold execOp; go_simp) ⟨rfl, Below.refl _ _⟩
    | 4, ho =>
      obtain rfl := Option.some.inj ho
      have e7 : a'.tmps[7]?.getD undef = .int .i64 a := hf.1 ⟨2, .data⟩ (by simp) rfl _ 7 rfl rfl
      have e8 : a'.tmps[8]?.getD undef = .int .i64 s := hf.1 ⟨3, .data⟩ (by simp) rfl _ 8 rfl rfl
      exact wp_value (.int .i64 (Go.bits .and .i64 a s)) (by unfold execOp; go_simp) ⟨rfl, Below.refl _ _⟩
    | 5, ho =>
      obtain rfl := Option.some.inj ho
      have e9 : a'.tmps[9]?.getD undef = .int .i64 (Go.bits .and .i64 a s) := hf.1 ⟨4, .data⟩ (by simp) rfl _ 9 rfl rfl
      exact wp_value (.bool r) (by unfold execOp; go_simp; exact HM.out.symm) ⟨rfl, Below.refl _ _⟩
    | 6, ho =>
      obtain rfl := Option.some.inj ho
      have e10 : a'.tmps[10]?.getD undef = .bool r := hf.1 ⟨5, .data⟩ (by simp) rfl _ 10 rfl rfl
      exact wp_value (.bool r) (by unfold execOp; go_simp) ⟨rfl, Below.refl _ _⟩
    | q + 7, ho => simp at ho
  case en =>
    intro w2 hb2
    have HB2 := Lib.hid (HB0.out.trans (hb2.mono (by omega)))
    clear hb2 HB0
    simp only [fill, Act.put]
    go_simp
    go_wp2_with fail
    go_ret
    exact ⟨rfl, HB2.out⟩

set_option maxHeartbeats 2000000 in
/-- the program's answer, where all are rectangles -/
theorem impl_yes (xs : List (Int × Int)) (hlen : xs.length ≤ 1048576) (v : Value) (x y : Int) (cols : Bool) (h1 : someB x y = true) (h2 : allR xs = true) (w : World) (hv : RV w w.heap.size v xs) :
    Calls Try.prog 24 #[v, rect x y, .bool cols] w fun e w' => ∃ v', e = .returned v' ∧ w'.ownsRow w.heap.size 33 2 v' (live xs (x, y) cols).length (flat (live xs (x, y) cols)) ∧ Below w.heap.size w w' := by
  have H1 := Lib.hid h1
  have HV := Lib.hid hv
  have HA := Lib.hid (fun v w hv => (are_rects xs hlen v w hv).mono (fun e w' h => by rw [h2] at h; exact h))
  have HG := Lib.hid (fun Bc Bi v W (hv : RV W W.heap.size v xs) hc hi hcl hil => guess_any 52 #[.pointer (some ⟨Bc, 0, none⟩), .pointer (some ⟨Bi, 0, none⟩)] (enters_of Try.func52 (by kernel_rfl) rfl) xs hlen v (meetsAt xs (side (x, y) cols) cols) W hv (right_live xs (side (x, y) cols) cols Bc Bi W hc hi hcl hil))
  have HT := Lib.hid (fun v' B W hg => things xs (meetsAt xs (side (x, y) cols) cols) v' B W hg)
  have HI := Lib.hid (fun W => inputs_any x y cols W)
  have HLE : Hid (live xs (x, y) cols = kept xs (meetsAt xs (side (x, y) cols) cols)) := rfl
  obtain ⟨ts, hts⟩ : ∃ ts, live xs (x, y) cols = ts := ⟨_, rfl⟩
  rw [hts] at HLE ⊢
  rw [← HLE.out] at HT
  obtain ⟨s, hs⟩ : ∃ s, side (x, y) cols = s := ⟨_, rfl⟩
  rw [hs] at HG HT HI
  clear h1 h2 hv hts hs HLE
  go_enter Try.func24, Try.ntmps24
  go_wp2_with fail
  refine (rect_any _ _ _).mono ?_
  rintro e w1 ⟨rfl, hb1⟩
  rw [H1.out]
  have hk0 : w1.heap[w.heap.size]? = some (.cells #[.int .i64 x, .int .i64 y] 33 (0, 0)) := (hb1.block _ (by simp; omega)).trans ((Below.heap_alloc _ _ _ (by simp)).trans (heap_alloc_new w _))
  have hk1 : w1.heap[w.heap.size + 1]? = some (.cells #[.bool cols] 4 (0, 0)) := (hb1.block _ (by simp)).trans (by have := heap_alloc_new (w.alloc (.cells #[.int .i64 x, .int .i64 y] 33)) (.cells #[.bool cols] 4); rwa [World.size_alloc] at this)
  have hsz1 : w.heap.size + 2 ≤ w1.heap.size := by have := hb1.size; simp at this; omega
  have HB1 := Lib.hid ((((Below.refl w.heap.size w).alloc (Nat.le_refl _) _).alloc (by simp) _).trans (hb1.mono (by simp; omega)))
  have HK := Lib.hid (And.intro hk0 hk1)
  clear hb1 hk0 hk1
  go_wp2_with fail
  refine (HA.out _ _ ((HV.out.later (Nat.le_refl _) HB1.out).mono HB1.out.size)).mono ?_
  rintro e w2 ⟨rfl, hb2⟩
  have hsz2 : w1.heap.size ≤ w2.heap.size := hb2.size
  have HB2 := Lib.hid (HB1.out.trans (hb2.mono HB1.out.size))
  have HK2 := Lib.hid (And.intro ((hb2.block _ (by omega)).trans HK.out.1) ((hb2.block _ (by omega)).trans HK.out.2))
  have c0 : w2.cell? ⟨w.heap.size, 0, none⟩ = some (.int .i64 x) := cell_of_row _ _ 0 _ _ _ HK2.out.1
  have c1 : w2.cell? ⟨w.heap.size, 1, none⟩ = some (.int .i64 y) := cell_of_row _ _ 1 _ _ _ HK2.out.1
  have c2 : w2.cell? ⟨w.heap.size + 1, 0, none⟩ = some (.bool cols) := cell_of_row _ _ 0 _ _ _ HK2.out.2
  clear hb2 HB1 HK
  go_wp2_with fail
  refine (HI.out _).mono ?_
  rintro e w3 ⟨rfl, hb3⟩
  have hsz3 : w2.heap.size ≤ w3.heap.size := hb3.size
  have HB3 := Lib.hid (HB2.out.trans (hb3.mono HB2.out.size))
  have HC3 : Hid (w3.cell? ⟨w.heap.size + 1, 0, none⟩ = some (.bool cols)) := (hb3.cell (p := ⟨w.heap.size + 1, 0, none⟩) (by show w.heap.size + 1 < _; omega)).trans c2
  clear hb3 HB2 HK2 c0 c1 c2
  go_wp2_with fail
  have hbi : Below w3.heap.size w3 (w3.alloc (.cells #[.int .i64 s] 3)) := (Below.refl _ _).alloc (Nat.le_refl _) _
  refine (HG.out (w.heap.size + 1) w3.heap.size _ (w3.alloc (.cells #[.int .i64 s] 3)) ((HV.out.later (Nat.le_refl _) (HB3.out.trans (hbi.mono HB3.out.size))).mono (Nat.le_trans HB3.out.size hbi.size)) ((hbi.cell (p := ⟨w.heap.size + 1, 0, none⟩) (by show w.heap.size + 1 < _; omega)).trans HC3.out) (by simp) (by simp; omega) (by simp)).mono ?_
  rintro e w4 ⟨v4, rfl, hg, hb4⟩
  have HG4 := Lib.hid hg
  have HB4 := Lib.hid (HB3.out.trans ((hbi.trans (hb4.mono hbi.size)).mono HB3.out.size))
  clear hg hb4 hbi HB3 HC3 HG
  go_wp2_with fail
  refine (HT.out _ _ _ HG4.out).mono ?_
  rintro e w5 ⟨v5, rfl, hrow, hb5⟩
  have HR5 := Lib.hid (own_lower (B' := w.heap.size) hrow HB4.out.size)
  have HB5 := Lib.hid (HB4.out.trans (hb5.mono HB4.out.size))
  clear hrow hb5 HB4 HG4 HT
  go_wp2_with fail
  go_ret
  exact ⟨_, rfl, HR5.out, HB5.out⟩

set_option maxHeartbeats 2000000 in
/-- the program's answer, where one is none: nil -/
theorem impl_no (xs : List (Int × Int)) (hlen : xs.length ≤ 1048576) (v : Value) (x y : Int) (cols : Bool) (h : (someB x y && allR xs) = false) (w : World) (hv : RV w w.heap.size v xs) :
    Calls Try.prog 24 #[v, rect x y, .bool cols] w fun e w' => e = .returned (.slice none 0 0) ∧ Below w.heap.size w w' := by
  have HA := Lib.hid (fun v w hv => are_rects xs hlen v w hv)
  have HV := Lib.hid hv
  cases h1 : someB x y with
  | false =>
    have H1 := Lib.hid h1
    clear h h1 hv
    go_enter Try.func24, Try.ntmps24
    go_wp2_with fail
    refine (rect_any _ _ _).mono ?_
    rintro e w1 ⟨rfl, hb1⟩
    rw [H1.out]
    have HB1 := Lib.hid ((((Below.refl w.heap.size w).alloc (Nat.le_refl _) _).alloc (by simp) _).trans (hb1.mono (by simp; omega)))
    clear hb1
    go_wp2_with fail
    go_ret
    exact ⟨rfl, HB1.out⟩
  | true =>
    have H1 := Lib.hid h1
    have h2 : allR xs = false := by rw [h1, Bool.true_and] at h; exact h
    rw [h2] at HA
    clear h h1 h2 hv
    go_enter Try.func24, Try.ntmps24
    go_wp2_with fail
    refine (rect_any _ _ _).mono ?_
    rintro e w1 ⟨rfl, hb1⟩
    rw [H1.out]
    have HB1 := Lib.hid ((((Below.refl w.heap.size w).alloc (Nat.le_refl _) _).alloc (by simp) _).trans (hb1.mono (by simp; omega)))
    clear hb1
    go_wp2_with fail
    refine (HA.out _ _ ((HV.out.later (Nat.le_refl _) HB1.out).mono HB1.out.size)).mono ?_
    rintro e w2 ⟨rfl, hb2⟩
    have HB2 := Lib.hid (HB1.out.trans (hb2.mono HB1.out.size))
    clear hb2 HB1
    go_wp2_with fail
    go_ret
    exact ⟨rfl, HB2.out⟩
end Go.Proofs.Ytcafingoghoijaa.Live
