/-
  Texts of one seat, joined: LiveI, Live, LiveS.
-/
import Derived.Test.YtcafingoghoijaaJo1
import Derived.Test.YtcafingoghoijaaJo15
import Derived.Test.YtcafingoghoijaaThings
import Derived.Test.YtcafingoghoijaaJo9
/-
  areRects, LiveRects of the program; l8Rects, l8Meets, l8Live, LiveRects of the reference.
-/
namespace Go.Proofs.Ytcafingoghoijaa.LiveI
open Go.RowKit Go.Proofs.Ytcafingoghoijaa.Plain Go.Proofs.Ytcafingoghoijaa.Rect Go.Proofs.Ytcafingoghoijaa.FreeL Go.Proofs.Ytcafingoghoijaa.GuessM Go.Proofs.Ytcafingoghoijaa.GuessI Go.Proofs.Ytcafingoghoijaa.GuessT Go.Proofs.Ytcafingoghoijaa.Rects Go.Proofs.Ytcafingoghoijaa.Things Go.Proofs.Ytcafingoghoijaa.Accept
open Go.Proofs.Ytcafingoghoijaa.Free (fill wp_value wp_enter wp_load_row freeB)
open Go.Proofs.Ytcafingoghoijaa.Marks (flat encR)
open Go.Proofs.Ytcafingoghoijaa.Proof (leastK_found leastK_none)
set_option linter.unusedVariables false

/-- whether two sides have something in common -/
def mt (a b : Int) : Bool := Go.bits .and .i64 a b != 0
/-- whether all are rectangles -/
def allR (xs : List (Int × Int)) : Bool := xs.all fun q => someB q.1 q.2
theorem allR_at {xs : List (Int × Int)} (h : allR xs = true) (j : Nat) (hj : j < xs.length) : someB xs[j].1 xs[j].2 = true := List.all_eq_true.1 h _ (List.getElem_mem hj)
theorem allR_no {xs : List (Int × Int)} (h : allR xs = false) : ∃ j, ∃ hj : j < xs.length, someB xs[j].1 xs[j].2 = false ∧ ∀ t (ht : t < j), someB (xs[t]'(by omega)).1 (xs[t]'(by omega)).2 = true := by
  induction xs with
  | nil => simp [allR] at h
  | cons a l ih =>
    cases ha : someB a.1 a.2 with
    | false => exact ⟨0, by simp, ha, fun t ht => absurd ht (Nat.not_lt_zero t)⟩
    | true =>
      have h2 : allR l = false := by unfold allR at h ⊢; rw [List.all_cons, ha, Bool.true_and] at h; exact h
      obtain ⟨j, hj, h3, h4⟩ := ih h2
      refine ⟨j + 1, by simpa using hj, by simpa using h3, fun t ht => ?_⟩
      cases t with
      | zero => simpa using ha
      | succ t => simpa using h4 t (by omega)

set_option maxHeartbeats 1000000 in
/-- slices.IndexFunc, whatever the predicate -/
theorem index_fn (g : Nat) (lb : Array Value) (eg : ∀ args W, (callFunc g args).run Try.prog W = .ok (.enter g args) W) (xs : List (Int × Int)) (hlen : xs.length ≤ 1048576) (v : Value) (pr : Nat → Bool) (w : World)
    (hv : RV w w.heap.size v xs) (hR : Right g lb xs pr w) :
    Calls Try.prog 91 #[v, .func (.func g) #[] lb] w fun e w' => e = .returned (.int .i64 (leastK pr xs.length)) ∧ Below w.heap.size w w' := by
  have HC : Hid (∀ W, Below w.heap.size w W → ∀ j (hj : j < xs.length), ∃ b off c, v = .slice (some ⟨b, off, none⟩) xs.length c ∧ W.cell? ⟨b, off + j * 2, none⟩ = some (.int .i64 xs[j].1) ∧ W.cell? ⟨b, off + j * 2 + 1, none⟩ = some (.int .i64 xs[j].2)) := fun W hb j hj => by
    rcases (hv.later (Nat.le_refl _) hb).2 with ⟨_, rfl⟩ | ⟨b, off, c, rfl, hlt, hc⟩
    · cases hj
    · exact ⟨b, off, c, rfl, hc j hj⟩
  have HF := Lib.hid (fun j hj h hb => leastK_found (f := pr) (n := xs.length) (j := j) hj h hb)
  have HN := Lib.hid (fun hb => leastK_none (f := pr) (n := xs.length) hb)
  obtain ⟨r, hr⟩ : ∃ r, leastK pr xs.length = r := ⟨_, rfl⟩
  rw [hr] at HF HN ⊢
  obtain ⟨p, k, rfl⟩ := hv.slice
  have HR := Lib.hid hR
  clear hv hr hR
  go_enter Try.func91, Try.ntmps91
  go_wp2_with fail
  go_loopw [8] (fun i wr => ∃ j : Nat, j ≤ xs.length ∧ i = .int .i64 (j : Int) ∧ (∀ t, t < j → pr t = false) ∧ Below w.heap.size w wr) (fun i _ => xs.length - (intOf i).toNat)
  case atStart => exact ⟨0, Nat.zero_le _, rfl, fun t h => absurd h (Nat.not_lt_zero t), Below.refl _ _⟩
  case round =>
    obtain ⟨j, hj, rfl, hno, hbr⟩ := hrel
    have HNO := Lib.hid hno
    have HBR := Lib.hid hbr
    clear hno hbr
    by_cases hlt : j < xs.length
    · obtain ⟨b, off, c, he, c0, c1⟩ := HC.out wr HBR.out j hlt
      injection he with he1 he2 he3
      subst he1 he3
      have hcall := HR.out j hlt
      obtain ⟨v, hv⟩ : ∃ v, pr j = v := ⟨_, rfl⟩
      rw [hv] at hcall
      obtain ⟨q0, hq0⟩ : ∃ a, xs[j].1 = a := ⟨_, rfl⟩
      obtain ⟨q1, hq1⟩ : ∃ b, xs[j].2 = b := ⟨_, rfl⟩
      rw [hq0, hq1] at hcall
      rw [hq0] at c0
      rw [hq1] at c1
      have HCALL := Lib.hid hcall
      have HAT := Lib.hid hv
      clear hcall hv hq0 hq1
      go_wp2_with fail
      refine (HCALL.out _ HBR.out).mono ?_
      rintro e w1 ⟨rfl, hb1⟩
      have HB1 := Lib.hid (HBR.out.trans (hb1.mono HBR.out.size))
      clear hb1 c0 c1 HCALL HBR
      cases v with
      | false =>
        go_wp2_with fail
        go_roundw
        case rel =>
          refine ⟨j + 1, by omega, by go_num, fun t ht => ?_, HB1.out⟩
          by_cases e : t = j
          · rw [e]; exact HAT.out
          · exact HNO.out t (by omega)
        case measure => simp [intOf]; omega
      | true =>
        obtain rfl := HF.out j hlt HAT.out HNO.out
        go_wp2_with fail
        go_ret
        exact ⟨rfl, HB1.out⟩
    · obtain rfl : j = xs.length := by omega
      obtain rfl := HN.out HNO.out
      go_wp2_with fail
      go_ret
      exact ⟨rfl, HBR.out⟩

theorem leastK_or (f : Nat → Bool) (n : Nat) : leastK f n = -1 ∨ ∃ j : Nat, leastK f n = (j : Int) := by
  unfold leastK
  cases keep f n with
  | nil => exact .inl rfl
  | cons a t => exact .inr ⟨a, rfl⟩

set_option maxHeartbeats 1000000 in
theorem contains_fn (g : Nat) (lb : Array Value) (eg : ∀ args W, (callFunc g args).run Try.prog W = .ok (.enter g args) W) (xs : List (Int × Int)) (hlen : xs.length ≤ 1048576) (v : Value) (pr : Nat → Bool) (w : World)
    (hv : RV w w.heap.size v xs) (hR : Right g lb xs pr w) :
    Calls Try.prog 79 #[v, .func (.func g) #[] lb] w fun e w' => e = .returned (.bool (decide (0 ≤ leastK pr xs.length))) ∧ Below w.heap.size w w' := by
  have HI := Lib.hid (index_fn g lb eg xs hlen v pr w hv hR)
  rcases leastK_or pr xs.length with h | ⟨j, h⟩
  · rw [h] at HI ⊢
    clear h hv hR eg
    go_enter Try.func79, Try.ntmps79
    go_wp2_with fail
    refine HI.out.mono ?_
    rintro e w1 ⟨rfl, hb1⟩
    have HB := Lib.hid hb1
    clear hb1 HI
    go_wp2_with fail
    go_ret
    exact ⟨rfl, HB.out⟩
  · rw [h] at HI ⊢
    have h0 : (0 : Int) ≤ (j : Int) := by omega
    rw [decide_eq_true h0]
    clear h hv hR eg
    go_enter Try.func79, Try.ntmps79
    go_wp2_with fail
    refine HI.out.mono ?_
    rintro e w1 ⟨rfl, hb1⟩
    have HB := Lib.hid hb1
    clear hb1 HI
    go_wp2_with fail
    go_ret
    exact ⟨rfl, HB.out⟩

/-- whether the j-th is none -/
def noRect (xs : List (Int × Int)) (j : Nat) : Bool := !someB (xs.getD j (0, 0)).1 (xs.getD j (0, 0)).2
theorem noRect_at (xs : List (Int × Int)) (j : Nat) (hj : j < xs.length) : noRect xs j = !someB xs[j].1 xs[j].2 := by simp [noRect, List.getD, hj]

set_option maxHeartbeats 1000000 in
theorem right_none (xs : List (Int × Int)) (w : World) : Right 80 #[] xs (noRect xs) w := by
  intro j hj W hb
  rw [noRect_at xs j hj]
  have HI := Lib.hid (fun W => rect_any xs[j].1 xs[j].2 W)
  obtain ⟨v, hv⟩ : ∃ v, someB xs[j].1 xs[j].2 = v := ⟨_, rfl⟩
  rw [hv] at HI ⊢
  obtain ⟨a, ha⟩ : ∃ a, xs[j].1 = a := ⟨_, rfl⟩
  obtain ⟨b, hb2⟩ : ∃ b, xs[j].2 = b := ⟨_, rfl⟩
  rw [ha, hb2] at HI ⊢
  clear hb hv ha hb2
  show Calls Try.prog 80 #[rect a b] W _
  go_enter Try.func80, Try.ntmps80
  go_wp2_with fail
  refine (HI.out _).mono ?_
  rintro e w1 ⟨rfl, hb1⟩
  have HB := Lib.hid (((Below.refl W.heap.size W).alloc (Nat.le_refl _) _).trans (hb1.mono (by simp)))
  clear hb1
  go_wp2_with fail
  go_ret
  exact ⟨rfl, HB.out⟩

set_option maxHeartbeats 1000000 in
theorem are_rects (xs : List (Int × Int)) (hlen : xs.length ≤ 1048576) (v : Value) (w : World) (hv : RV w w.heap.size v xs) :
    Calls Try.prog 50 #[v] w fun e w' => e = .returned (.bool (allR xs)) ∧ Below w.heap.size w w' := by
  have hcon := contains_fn 80 #[] (enters_of Try.func80 (by kernel_rfl) rfl) xs hlen v (noRect xs) w hv (right_none xs w)
  have he : decide (0 ≤ leastK (noRect xs) xs.length) = !allR xs := by
    cases ha : allR xs with
    | true => rw [leastK_none (fun t ht => by rw [noRect_at xs t ht, allR_at ha t ht]; rfl)]; rfl
    | false =>
      obtain ⟨j, hj, h1, h2⟩ := allR_no ha
      rw [leastK_found hj (by rw [noRect_at xs j hj, h1]; rfl) (fun t ht => by rw [noRect_at xs t (by omega), h2 t ht]; rfl), decide_eq_true (by omega)]
      rfl
  rw [he] at hcon
  have HI := Lib.hid hcon
  obtain ⟨a, ha⟩ : ∃ a, allR xs = a := ⟨_, rfl⟩
  rw [ha] at HI ⊢
  clear hcon he hv ha
  go_enter Try.func50, Try.ntmps50
  go_wp2_with fail
  refine HI.out.mono ?_
  rintro e w1 ⟨rfl, hb1⟩
  have HB := Lib.hid hb1
  clear hb1 HI
  cases a
  all_goals
    go_wp2_with fail
    go_ret
    exact ⟨rfl, HB.out⟩

set_option maxHeartbeats 1000000 in
theorem spec_rects (xs : List (Int × Int)) (hlen : xs.length ≤ 1048576) (v : Value) (w : World) (hv : RV w w.heap.size v xs) :
    Calls Try.prog 46 #[v] w fun e w' => e = .returned (.bool (allR xs)) ∧ Below w.heap.size w w' := by
  have HC : Hid (∀ W, Below w.heap.size w W → ∀ j (hj : j < xs.length), ∃ b off c, v = .slice (some ⟨b, off, none⟩) xs.length c ∧ W.cell? ⟨b, off + j * 2, none⟩ = some (.int .i64 xs[j].1) ∧ W.cell? ⟨b, off + j * 2 + 1, none⟩ = some (.int .i64 xs[j].2)) := fun W hb j hj => by
    rcases (hv.later (Nat.le_refl _) hb).2 with ⟨_, rfl⟩ | ⟨b, off, c, rfl, hlt, hc⟩
    · cases hj
    · exact ⟨b, off, c, rfl, hc j hj⟩
  have HF : Hid (∀ j (hj : j < xs.length), someB xs[j].1 xs[j].2 = false → allR xs = false) := fun j hj h => by
    cases ha : allR xs with
    | false => rfl
    | true => rw [allR_at ha j hj] at h; cases h
  have HN : Hid ((∀ j (hj : j < xs.length), someB xs[j].1 xs[j].2 = true) → allR xs = true) := fun h => by
    refine List.all_eq_true.2 fun q hq => ?_
    obtain ⟨j, hj, rfl⟩ := List.getElem_of_mem hq
    exact h j hj
  obtain ⟨a, ha⟩ : ∃ a, allR xs = a := ⟨_, rfl⟩
  rw [ha] at HF HN ⊢
  obtain ⟨p, k, rfl⟩ := hv.slice
  clear hv ha
  go_enter Try.func46, Try.ntmps46
  go_wp2_with fail
  go_loopw [3] (fun i wr => ∃ j : Nat, j ≤ xs.length ∧ i = .int .i64 (j : Int) ∧ (∀ t (ht : t < xs.length), t < j → someB xs[t].1 xs[t].2 = true) ∧ Below w.heap.size w wr) (fun i _ => xs.length - (intOf i).toNat)
  case atStart => exact ⟨0, Nat.zero_le _, rfl, fun t _ h => absurd h (Nat.not_lt_zero t), Below.refl _ _⟩
  case round =>
    obtain ⟨j, hj, rfl, hno, hbr⟩ := hrel
    have HNO := Lib.hid hno
    have HBR := Lib.hid hbr
    clear hno hbr
    by_cases hlt : j < xs.length
    · obtain ⟨b, off, c, he, c0, c1⟩ := HC.out wr HBR.out j hlt
      injection he with he1 he2 he3
      subst he1 he3
      have HI := Lib.hid (fun W => some_any xs[j].1 xs[j].2 W)
      obtain ⟨v, hv⟩ : ∃ v, someB xs[j].1 xs[j].2 = v := ⟨_, rfl⟩
      have HAT := Lib.hid hv
      rw [hv] at HI
      obtain ⟨q0, hq0⟩ : ∃ a, xs[j].1 = a := ⟨_, rfl⟩
      obtain ⟨q1, hq1⟩ : ∃ b, xs[j].2 = b := ⟨_, rfl⟩
      rw [hq0, hq1] at HI
      rw [hq0] at c0
      rw [hq1] at c1
      clear hv hq0 hq1
      go_wp2_with fail
      refine (HI.out _).mono ?_
      rintro e w1 ⟨rfl, hb1⟩
      have HB1 := Lib.hid (HBR.out.trans (hb1.mono HBR.out.size))
      clear hb1 c0 c1 HI HBR
      cases v with
      | true =>
        go_wp2_with fail
        go_roundw
        case rel =>
          refine ⟨j + 1, by omega, by go_num, fun t ht0 ht => ?_, HB1.out⟩
          by_cases e : t = j
          · subst e; exact HAT.out
          · exact HNO.out t ht0 (by omega)
        case measure => simp [intOf]; omega
      | false =>
        obtain rfl := HF.out j hlt HAT.out
        go_wp2_with fail
        go_ret
        exact ⟨rfl, HB1.out⟩
    · obtain rfl : j = xs.length := by omega
      obtain rfl := HN.out (fun j hj => HNO.out j hj hj)
      go_wp2_with fail
      go_ret
      exact ⟨rfl, HBR.out⟩

set_option maxHeartbeats 1000000 in
theorem meets (x y r0 r1 : Int) (cols : Bool) (w : World) :
    Calls Try.prog 77 #[rect x y, rect r0 r1, .bool cols] w fun e w' => e = .returned (.bool (mt (side (x, y) cols) (side (r0, r1) cols))) ∧ Below w.heap.size w w' := by
  cases cols
  all_goals
    go_enter Try.func77, Try.ntmps77
    go_wp2_with fail
    go_ret
    exact ⟨rfl, by go_grown⟩
end Go.Proofs.Ytcafingoghoijaa.LiveI

/-
  LiveRects: both sides' lists.
-/
namespace Go.Proofs.Ytcafingoghoijaa.Live
open Go.RowKit Go.Proofs.Ytcafingoghoijaa.Plain Go.Proofs.Ytcafingoghoijaa.Rect Go.Proofs.Ytcafingoghoijaa.FreeL Go.Proofs.Ytcafingoghoijaa.GuessM Go.Proofs.Ytcafingoghoijaa.GuessI Go.Proofs.Ytcafingoghoijaa.GuessT Go.Proofs.Ytcafingoghoijaa.Rects Go.Proofs.Ytcafingoghoijaa.Things Go.Proofs.Ytcafingoghoijaa.Accept Go.Proofs.Ytcafingoghoijaa.LiveI
open Go.Proofs.Ytcafingoghoijaa.Free (fill wp_value wp_enter wp_load_row freeB)
open Go.Proofs.Ytcafingoghoijaa.Marks (flat encR)
set_option linter.unusedVariables false

/-- whether the j-th has something in common with a side -/
def meetsAt (xs : List (Int × Int)) (s : Int) (cols : Bool) (j : Nat) : Bool := mt (side (xs.getD j (0, 0)) cols) s
theorem meetsAt_at (xs : List (Int × Int)) (s : Int) (cols : Bool) (j : Nat) (hj : j < xs.length) : meetsAt xs s cols j = mt (side xs[j] cols) s := by simp [meetsAt, List.getD, hj]
/-- those that live -/
def live (xs : List (Int × Int)) (q : Int × Int) (cols : Bool) : List (Int × Int) := kept xs (meetsAt xs (side q cols) cols)

set_option maxRecDepth 100000 in
set_option maxHeartbeats 2000000 in
theorem right_live (xs : List (Int × Int)) (s : Int) (cols : Bool) (Bc Bi : Nat) (w : World) (hc : w.cell? ⟨Bc, 0, none⟩ = some (.bool cols)) (hi : w.cell? ⟨Bi, 0, none⟩ = some (.int .i64 s)) (hcl : Bc < w.heap.size) (hil : Bi < w.heap.size) :
    Right 52 #[.pointer (some ⟨Bc, 0, none⟩), .pointer (some ⟨Bi, 0, none⟩)] xs (meetsAt xs s cols) w := by
  intro j hj W hb
  have c0 := (hb.cell (p := ⟨Bc, 0, none⟩) hcl).trans hc
  have c1 := (hb.cell (p := ⟨Bi, 0, none⟩) hil).trans hi
  have hsz := hb.size
  have hbc : Bc < W.heap.size := by omega
  have hbi : Bi < W.heap.size := by omega
  rw [meetsAt_at xs s cols j hj]
  obtain ⟨x, hx⟩ : ∃ a, xs[j].1 = a := ⟨_, rfl⟩
  obtain ⟨y, hy⟩ : ∃ b, xs[j].2 = b := ⟨_, rfl⟩
  rw [show xs[j] = (x, y) from Prod.ext hx hy]
  have HI := Lib.hid (fun W => inputs_any x y cols W)
  obtain ⟨a, ha⟩ : ∃ a, side (x, y) cols = a := ⟨_, rfl⟩
  rw [ha] at HI ⊢
  have HW : Hid ((W.alloc (.cells #[.int .i64 x, .int .i64 y] 33)).heap[W.heap.size]? = some (.cells #[.int .i64 x, .int .i64 y] 33 (0, 0))) := heap_alloc_new W _
  have HB0 : Hid (Below W.heap.size W (W.alloc (.cells #[.int .i64 x, .int .i64 y] 33))) := (Below.refl _ _).alloc (Nat.le_refl _) _
  have H0 : Hid ((W.alloc (.cells #[.int .i64 x, .int .i64 y] 33)).cell? ⟨Bc, 0, none⟩ = some (.bool cols)) := (HB0.out.cell (p := ⟨Bc, 0, none⟩) hbc).trans c0
  have H1 : Hid ((W.alloc (.cells #[.int .i64 x, .int .i64 y] 33)).cell? ⟨Bi, 0, none⟩ = some (.int .i64 s)) := (HB0.out.cell (p := ⟨Bi, 0, none⟩) hbi).trans c1
  have HM : Hid (mt a s = (Go.bits .and .i64 a s != 0)) := rfl
  obtain ⟨r, hr⟩ : ∃ r, mt a s = r := ⟨_, rfl⟩
  rw [hr] at HM ⊢
  clear hc hi hb hx hy ha c0 c1 hr
  show Calls Try.prog 52 #[rect x y, .pointer (some ⟨Bc, 0, none⟩), .pointer (some ⟨Bi, 0, none⟩)] W _
  go_enter Try.func52, Try.ntmps52
  go_wp2_with fail
  obtain ⟨W0, hW0⟩ : ∃ W0, W.alloc (.cells #[.int .i64 x, .int .i64 y] 33) = W0 := ⟨_, rfl⟩
  have hs0 : W0.heap.size = W.heap.size + 1 := by rw [← hW0]; simp
  rw [hW0] at HW HB0 H0 H1
  first | rw [hW0] | skip
  refine wp_region_below (fun | 0 => rect x y | 1 => .bool cols | 2 => .int .i64 a | 3 => .int .i64 s | 4 => .int .i64 (Go.bits .and .i64 a s) | 5 => .bool r | 6 => .bool r | _ => undef) (by kernel_rfl) (by kernel_rfl) rfl ?con ?en
  case con =>
    intro i o ho a' w2 hb2 hf
    match i, ho with
    | 0, ho =>
      obtain rfl := Option.some.inj ho
      have b3 : a'.tmps[3]?.getD undef = .pointer (some ⟨W.heap.size, 0, none⟩) := hf.2 3 (by kernel_rfl)
      exact wp_load_row 33 (.tmp 3) rfl W.heap.size (eval_get b3 trivial) 33 _ (0, 0) _ ((hb2.block _ (by omega)).trans HW.out) Try.underlying33 rfl rinfo2 ⟨rfl, Below.refl _ _⟩
    | 1, ho =>
      obtain rfl := Option.some.inj ho
      have b1 : a'.tmps[1]?.getD undef = .pointer (some ⟨Bc, 0, none⟩) := hf.2 1 (by kernel_rfl)
      have c0 : w2.cell? ⟨Bc, 0, none⟩ = some (.bool cols) := (hb2.cell (p := ⟨Bc, 0, none⟩) (by show Bc < _; omega)).trans H0.out
      exact wp_value (.bool cols) (by unfold execOp; go_simp) ⟨rfl, Below.refl _ _⟩
    | 2, ho =>
      obtain rfl := Option.some.inj ho
      have e5 : a'.tmps[5]?.getD undef = rect x y := hf.1 ⟨0, .data⟩ (by simp) rfl _ 5 rfl rfl
      have e6 : a'.tmps[6]?.getD undef = .bool cols := hf.1 ⟨1, .data⟩ (by simp) rfl _ 6 rfl rfl
      exact wp_enter 51 #[rect x y, .bool cols] (.int .i64 a) _ (by unfold execOp; go_simp) (HI.out w2) (fun w' h => ⟨rfl, h⟩)
    | 3, ho =>
      obtain rfl := Option.some.inj ho
      have b2 : a'.tmps[2]?.getD undef = .pointer (some ⟨Bi, 0, none⟩) := hf.2 2 (by kernel_rfl)
      have c1 : w2.cell? ⟨Bi, 0, none⟩ = some (.int .i64 s) := (hb2.cell (p := ⟨Bi, 0, none⟩) (by show Bi < _; omega)).trans H1.out
      exact wp_value (.int .i64 s) (by unfold execOp; go_simp) ⟨rfl, Below.refl _ _⟩
    | 4, ho =>
      obtain rfl := Option.some.inj ho
      have e7 : a'.tmps[7]?.getD undef = .int .i64 a := hf.1 ⟨2, .data⟩ (by simp) rfl _ 7 rfl rfl
      have e8 : a'.tmps[8]?.getD undef = .int .i64 s := hf.1 ⟨3, .data⟩ (by simp) rfl _ 8 rfl rfl
      exact wp_value (.int .i64 (Go.bits .and .i64 a s)) (by unfold execOp; go_simp) ⟨rfl, Below.refl _ _⟩
    | 5, ho =>
      obtain rfl := Option.some.inj ho
      have e9 : a'.tmps[9]?.getD undef = .int .i64 (Go.bits .and .i64 a s) := hf.1 ⟨4, .data⟩ (by simp) rfl _ 9 rfl rfl
      exact wp_value (.bool r) (by unfold execOp; go_simp; exact HM.out.symm) ⟨rfl, Below.refl _ _⟩
    | 6, ho =>
      obtain rfl := Option.some.inj ho
      have e10 : a'.tmps[10]?.getD undef = .bool r := hf.1 ⟨5, .data⟩ (by simp) rfl _ 10 rfl rfl
      exact wp_value (.bool r) (by unfold execOp; go_simp) ⟨rfl, Below.refl _ _⟩
    | q + 7, ho => simp at ho
  case en =>
    intro w2 hb2
    have HB2 := Lib.hid (HB0.out.trans (hb2.mono (by omega)))
    clear hb2 HB0
    simp only [fill, Act.put]
    go_simp
    go_wp2_with fail
    go_ret
    exact ⟨rfl, HB2.out⟩

set_option maxHeartbeats 2000000 in
/-- the program's answer, where all are rectangles -/
theorem impl_yes (xs : List (Int × Int)) (hlen : xs.length ≤ 1048576) (v : Value) (x y : Int) (cols : Bool) (h1 : someB x y = true) (h2 : allR xs = true) (w : World) (hv : RV w w.heap.size v xs) :
    Calls Try.prog 24 #[v, rect x y, .bool cols] w fun e w' => ∃ v', e = .returned v' ∧ w'.ownsRow w.heap.size 33 2 v' (live xs (x, y) cols).length (flat (live xs (x, y) cols)) ∧ Below w.heap.size w w' := by
  have H1 := Lib.hid h1
  have HV := Lib.hid hv
  have HA := Lib.hid (fun v w hv => (are_rects xs hlen v w hv).mono (fun e w' h => by rw [h2] at h; exact h))
  have HG := Lib.hid (fun Bc Bi v W (hv : RV W W.heap.size v xs) hc hi hcl hil => guess_any 52 #[.pointer (some ⟨Bc, 0, none⟩), .pointer (some ⟨Bi, 0, none⟩)] (enters_of Try.func52 (by kernel_rfl) rfl) xs hlen v (meetsAt xs (side (x, y) cols) cols) W hv (right_live xs (side (x, y) cols) cols Bc Bi W hc hi hcl hil))
  have HT := Lib.hid (fun v' B W hg => things xs (meetsAt xs (side (x, y) cols) cols) v' B W hg)
  have HI := Lib.hid (fun W => inputs_any x y cols W)
  have HLE : Hid (live xs (x, y) cols = kept xs (meetsAt xs (side (x, y) cols) cols)) := rfl
  obtain ⟨ts, hts⟩ : ∃ ts, live xs (x, y) cols = ts := ⟨_, rfl⟩
  rw [hts] at HLE ⊢
  rw [← HLE.out] at HT
  obtain ⟨s, hs⟩ : ∃ s, side (x, y) cols = s := ⟨_, rfl⟩
  rw [hs] at HG HT HI
  clear h1 h2 hv hts hs HLE
  go_enter Try.func24, Try.ntmps24
  go_wp2_with fail
  refine (rect_any _ _ _).mono ?_
  rintro e w1 ⟨rfl, hb1⟩
  rw [H1.out]
  have hk0 : w1.heap[w.heap.size]? = some (.cells #[.int .i64 x, .int .i64 y] 33 (0, 0)) := (hb1.block _ (by simp; omega)).trans ((Below.heap_alloc _ _ _ (by simp)).trans (heap_alloc_new w _))
  have hk1 : w1.heap[w.heap.size + 1]? = some (.cells #[.bool cols] 4 (0, 0)) := (hb1.block _ (by simp)).trans (by have := heap_alloc_new (w.alloc (.cells #[.int .i64 x, .int .i64 y] 33)) (.cells #[.bool cols] 4); rwa [World.size_alloc] at this)
  have hsz1 : w.heap.size + 2 ≤ w1.heap.size := by have := hb1.size; simp at this; omega
  have HB1 := Lib.hid ((((Below.refl w.heap.size w).alloc (Nat.le_refl _) _).alloc (by simp) _).trans (hb1.mono (by simp; omega)))
  have HK := Lib.hid (And.intro hk0 hk1)
  clear hb1 hk0 hk1
  go_wp2_with fail
  refine (HA.out _ _ ((HV.out.later (Nat.le_refl _) HB1.out).mono HB1.out.size)).mono ?_
  rintro e w2 ⟨rfl, hb2⟩
  have hsz2 : w1.heap.size ≤ w2.heap.size := hb2.size
  have HB2 := Lib.hid (HB1.out.trans (hb2.mono HB1.out.size))
  have HK2 := Lib.hid (And.intro ((hb2.block _ (by omega)).trans HK.out.1) ((hb2.block _ (by omega)).trans HK.out.2))
  have c0 : w2.cell? ⟨w.heap.size, 0, none⟩ = some (.int .i64 x) := cell_of_row _ _ 0 _ _ _ HK2.out.1
  have c1 : w2.cell? ⟨w.heap.size, 1, none⟩ = some (.int .i64 y) := cell_of_row _ _ 1 _ _ _ HK2.out.1
  have c2 : w2.cell? ⟨w.heap.size + 1, 0, none⟩ = some (.bool cols) := cell_of_row _ _ 0 _ _ _ HK2.out.2
  clear hb2 HB1 HK
  go_wp2_with fail
  refine (HI.out _).mono ?_
  rintro e w3 ⟨rfl, hb3⟩
  have hsz3 : w2.heap.size ≤ w3.heap.size := hb3.size
  have HB3 := Lib.hid (HB2.out.trans (hb3.mono HB2.out.size))
  have HC3 : Hid (w3.cell? ⟨w.heap.size + 1, 0, none⟩ = some (.bool cols)) := (hb3.cell (p := ⟨w.heap.size + 1, 0, none⟩) (by show w.heap.size + 1 < _; omega)).trans c2
  clear hb3 HB2 HK2 c0 c1 c2
  go_wp2_with fail
  have hbi : Below w3.heap.size w3 (w3.alloc (.cells #[.int .i64 s] 3)) := (Below.refl _ _).alloc (Nat.le_refl _) _
  refine (HG.out (w.heap.size + 1) w3.heap.size _ (w3.alloc (.cells #[.int .i64 s] 3)) ((HV.out.later (Nat.le_refl _) (HB3.out.trans (hbi.mono HB3.out.size))).mono (Nat.le_trans HB3.out.size hbi.size)) ((hbi.cell (p := ⟨w.heap.size + 1, 0, none⟩) (by show w.heap.size + 1 < _; omega)).trans HC3.out) (by simp) (by simp; omega) (by simp)).mono ?_
  rintro e w4 ⟨v4, rfl, hg, hb4⟩
  have HG4 := Lib.hid hg
  have HB4 := Lib.hid (HB3.out.trans ((hbi.trans (hb4.mono hbi.size)).mono HB3.out.size))
  clear hg hb4 hbi HB3 HC3 HG
  go_wp2_with fail
  refine (HT.out _ _ _ HG4.out).mono ?_
  rintro e w5 ⟨v5, rfl, hrow, hb5⟩
  have HR5 := Lib.hid (own_lower (B' := w.heap.size) hrow HB4.out.size)
  have HB5 := Lib.hid (HB4.out.trans (hb5.mono HB4.out.size))
  clear hrow hb5 HB4 HG4 HT
  go_wp2_with fail
  go_ret
  exact ⟨_, rfl, HR5.out, HB5.out⟩

set_option maxHeartbeats 2000000 in
/-- the program's answer, where one is none: nil -/
theorem impl_no (xs : List (Int × Int)) (hlen : xs.length ≤ 1048576) (v : Value) (x y : Int) (cols : Bool) (h : (someB x y && allR xs) = false) (w : World) (hv : RV w w.heap.size v xs) :
    Calls Try.prog 24 #[v, rect x y, .bool cols] w fun e w' => e = .returned (.slice none 0 0) ∧ Below w.heap.size w w' := by
  have HA := Lib.hid (fun v w hv => are_rects xs hlen v w hv)
  have HV := Lib.hid hv
  cases h1 : someB x y with
  | false =>
    have H1 := Lib.hid h1
    clear h h1 hv
    go_enter Try.func24, Try.ntmps24
    go_wp2_with fail
    refine (rect_any _ _ _).mono ?_
    rintro e w1 ⟨rfl, hb1⟩
    rw [H1.out]
    have HB1 := Lib.hid ((((Below.refl w.heap.size w).alloc (Nat.le_refl _) _).alloc (by simp) _).trans (hb1.mono (by simp; omega)))
    clear hb1
    go_wp2_with fail
    go_ret
    exact ⟨rfl, HB1.out⟩
  | true =>
    have H1 := Lib.hid h1
    have h2 : allR xs = false := by rw [h1, Bool.true_and] at h; exact h
    rw [h2] at HA
    clear h h1 h2 hv
    go_enter Try.func24, Try.ntmps24
    go_wp2_with fail
    refine (rect_any _ _ _).mono ?_
    rintro e w1 ⟨rfl, hb1⟩
    rw [H1.out]
    have HB1 := Lib.hid ((((Below.refl w.heap.size w).alloc (Nat.le_refl _) _).alloc (by simp) _).trans (hb1.mono (by simp; omega)))
    clear hb1
    go_wp2_with fail
    refine (HA.out _ _ ((HV.out.later (Nat.le_refl _) HB1.out).mono HB1.out.size)).mono ?_
    rintro e w2 ⟨rfl, hb2⟩
    have HB2 := Lib.hid (HB1.out.trans (hb2.mono HB1.out.size))
    clear hb2 HB1
    go_wp2_with fail
    go_ret
    exact ⟨rfl, HB2.out⟩
end Go.Proofs.Ytcafingoghoijaa.Live

/-
  l8Live and LiveRects of the reference.
-/
namespace Go.Proofs.Ytcafingoghoijaa.LiveS
open Go.RowKit Go.Proofs.Ytcafingoghoijaa.Plain Go.Proofs.Ytcafingoghoijaa.Rect Go.Proofs.Ytcafingoghoijaa.FreeL Go.Proofs.Ytcafingoghoijaa.GuessM Go.Proofs.Ytcafingoghoijaa.GuessI Go.Proofs.Ytcafingoghoijaa.Rects Go.Proofs.Ytcafingoghoijaa.Things Go.Proofs.Ytcafingoghoijaa.Accept Go.Proofs.Ytcafingoghoijaa.LiveI Go.Proofs.Ytcafingoghoijaa.Live
open Go.Proofs.Ytcafingoghoijaa.Free (fill wp_value wp_enter wp_load_row freeB)
open Go.Proofs.Ytcafingoghoijaa.Marks (flat encR)
set_option linter.unusedVariables false

theorem own_lit (W : World) (B : Nat) (hB : B ≤ W.heap.size) : (W.alloc (.cells #[] 33)).ownsRow B 33 2 (.slice (some ⟨W.heap.size, 0, none⟩) 0 0) 0 (flat []) :=
  ⟨rfl, .inr ⟨W.heap.size, 0, #[], rfl, hB, heap_alloc_new W _, Nat.le_refl _, Nat.zero_le _, rfl, rfl⟩⟩
theorem own_below {w w' : World} {base e size n : Nat} {v : Value} {xs : List Value} (h : w.ownsRow base e size v n xs) (hb : Below w.heap.size w w') : w'.ownsRow base e size v n xs := by
  have hg : w.grownBy w' none := ⟨hb.os, hb.tape, hb.output, hb.size, fun i hi _ => hb.block i hi⟩
  refine h.kept hg ?_
  cases v.ownBlock <;> simp
/-- the things that f keeps of the first j -/
def keptTo (xs : List (Int × Int)) (f : Nat → Bool) (j : Nat) : List (Int × Int) := (keep f j).map fun i => xs.getD i (0, 0)
theorem keptTo_next (xs : List (Int × Int)) (f : Nat → Bool) (j : Nat) : keptTo xs f (j + 1) = keptTo xs f j ++ (if f j then [xs.getD j (0, 0)] else []) := by
  unfold keptTo
  rw [keep, List.map_append]
  cases f j <;> rfl
theorem keptTo_len (xs : List (Int × Int)) (f : Nat → Bool) (j : Nat) : (keptTo xs f j).length ≤ j := by
  unfold keptTo
  rw [List.length_map]
  exact keep_len f j

set_option maxRecDepth 100000 in
set_option maxHeartbeats 4000000 in
theorem live_spec (xs : List (Int × Int)) (hlen : xs.length ≤ 1048576) (v : Value) (r0 r1 : Int) (cols : Bool) (w : World) (hv : RV w w.heap.size v xs) :
    Calls Try.prog 48 #[v, rect r0 r1, .bool cols] w fun e w' => ∃ v', e = .returned v' ∧ w'.ownsRow w.heap.size 33 2 v' (live xs (r0, r1) cols).length (flat (live xs (r0, r1) cols)) ∧ Below w.heap.size w w' := by
  obtain ⟨i0, hi, hz0, hz1, hz2⟩ := info_parts infoK
  have HC : Hid (∀ W, Below w.heap.size w W → ∀ j (hj : j < xs.length), ∃ b off c, v = .slice (some ⟨b, off, none⟩) xs.length c ∧ b < w.heap.size ∧ W.cell? ⟨b, off + j * 2, none⟩ = some (.int .i64 xs[j].1) ∧ W.cell? ⟨b, off + j * 2 + 1, none⟩ = some (.int .i64 xs[j].2)) := fun W hb j hj => by
    rcases (hv.later (Nat.le_refl _) hb).2 with ⟨_, rfl⟩ | ⟨b, off, c, rfl, hlt, hc⟩
    · cases hj
    · exact ⟨b, off, c, rfl, hlt, hc j hj⟩
  obtain ⟨s, hs⟩ : ∃ s, side (r0, r1) cols = s := ⟨_, rfl⟩
  have HM := Lib.hid (fun x y W => (meets x y r0 r1 cols W))
  have HLE : Hid (live xs (r0, r1) cols = keptTo xs (meetsAt xs s cols) xs.length) := by rw [← hs]; exact rfl
  rw [hs] at HM
  rw [HLE.out]
  have HA := Lib.hid (fun j hj => meetsAt_at xs s cols j hj)
  obtain ⟨f, hf⟩ : ∃ f, meetsAt xs s cols = f := ⟨_, rfl⟩
  rw [hf] at HA ⊢
  obtain ⟨p, kp, rfl⟩ := hv.slice
  have HNX := Lib.hid (fun j => keptTo_next xs f j)
  have HLN := Lib.hid (fun j => keptTo_len xs f j)
  clear hv hs hf HLE
  go_enter Try.func48, Try.ntmps48
  go_wp2_with fail
  have HBX : Hid (∃ W1, Below w.heap.size w W1 ∧ W1.heap.size = w.heap.size + 1 ∧ W1.heap[w.heap.size]? = some (.cells #[.int .i64 r0, .int .i64 r1] 33 (0, 0)) ∧ w.alloc (.cells #[.int .i64 r0, .int .i64 r1] 33) = W1) := ⟨_, (Below.refl _ _).alloc (Nat.le_refl _) _, by simp, heap_alloc_new w _, rfl⟩
  obtain ⟨W1, hb1, hs1, hk1, he1⟩ := HBX.out
  first | rw [he1] | skip
  have hown : (W1.alloc (.cells #[] 33)).ownsRow W1.heap.size 33 2 (.slice (some ⟨w.heap.size + 1, 0, none⟩) 0 0) 0 (flat []) := by
    have h := own_lit W1 W1.heap.size (Nat.le_refl _)
    rw [show (⟨W1.heap.size, 0, none⟩ : Addr) = ⟨w.heap.size + 1, 0, none⟩ by rw [hs1]] at h
    exact h
  have hb0 : Below W1.heap.size W1 (W1.alloc (.cells #[] 33)) := (Below.refl _ _).alloc (Nat.le_refl _) _
  have HO := Lib.hid (And.intro hown hb0)
  have HB1 := Lib.hid hb1
  have HK1 := Lib.hid hk1
  clear hown hb0 hb1 hk1 he1 HBX
  go_loopw [7, 8] (fun acc i wr => ∃ j : Nat, j ≤ xs.length ∧ i = .int .i64 (j : Int) ∧ wr.ownsRow W1.heap.size 33 2 acc (keptTo xs f j).length (flat (keptTo xs f j)) ∧ Below W1.heap.size W1 wr) (fun _ i _ => xs.length - (intOf i).toNat)
  case atStart => exact ⟨0, Nat.zero_le _, rfl, HO.out.1, HO.out.2⟩
  case round =>
    obtain ⟨j, hj, rfl, hrow, hbr⟩ := hrel
    have HBW := Lib.hid (HB1.out.trans (hbr.mono (by omega)))
    have hws := hbr.size
    by_cases hlt : j < xs.length
    · obtain ⟨b, off, c, he, hbl, d0, d1⟩ := HC.out wr HBW.out j hlt
      injection he with he1 he2 he3
      subst he1 he3
      have hat := HA.out j hlt
      have hget : xs.getD j (0, 0) = xs[j] := by simp [List.getD, hlt]
      obtain ⟨x, hx⟩ : ∃ a, xs[j].1 = a := ⟨_, rfl⟩
      obtain ⟨y, hy⟩ : ∃ b, xs[j].2 = b := ⟨_, rfl⟩
      have hxy : xs[j] = (x, y) := Prod.ext hx hy
      rw [hxy] at hat hget
      rw [hx] at d0
      rw [hy] at d1
      have HMX := Lib.hid (fun W => HM.out x y W)
      obtain ⟨bt, hbt⟩ : ∃ bt, mt (side (x, y) cols) s = bt := ⟨_, rfl⟩
      rw [hbt] at HMX hat
      have HX := Lib.hid (And.intro hat hget)
      have R1 : Hid (wr.rangeAt b (off + j * 2) [.int .i64 x, .int .i64 y]) := range_two d0 d1
      have HKR : Hid (wr.heap[w.heap.size]? = some (.cells #[.int .i64 r0, .int .i64 r1] 33 (0, 0))) := (hbr.block _ (by omega)).trans HK1.out
      have HROW := Lib.hid hrow
      have HBR := Lib.hid hbr
      clear hat hget hx hy hxy hbt d0 d1 hrow hbr
      go_wp2_with fail
      refine wp_region_below (fun | 0 => .slice (some ⟨b, off, none⟩) xs.length kp | 1 => .int .i64 (j : Int) | 2 => .pointer (some ⟨b, off + j * 2, none⟩) | 3 => rect x y | 4 => rect r0 r1 | 5 => .bool cols | 6 => .bool bt | _ => undef) (by kernel_rfl) (by kernel_rfl) rfl ?con ?en
      case con =>
        intro i o ho a w2 hb2 hf
        match i, ho with
        | 0, ho =>
          obtain rfl := Option.some.inj ho
          have b0 : a.tmps[0]?.getD undef = .slice (some ⟨b, off, none⟩) xs.length kp := hf.2 0 (by kernel_rfl)
          exact wp_value (.slice (some ⟨b, off, none⟩) xs.length kp) (by unfold execOp; go_simp) ⟨rfl, Below.refl _ _⟩
        | 1, ho =>
          obtain rfl := Option.some.inj ho
          have b8 : a.tmps[8]?.getD undef = .int .i64 (j : Int) := hf.2 8 (by kernel_rfl)
          exact wp_value (.int .i64 (j : Int)) (by unfold execOp; go_simp) ⟨rfl, Below.refl _ _⟩
        | 2, ho =>
          obtain rfl := Option.some.inj ho
          have e16 : a.tmps[16]?.getD undef = .slice (some ⟨b, off, none⟩) xs.length kp := hf.1 ⟨0, .data⟩ (by simp) rfl _ 16 rfl rfl
          have e17 : a.tmps[17]?.getD undef = .int .i64 (j : Int) := hf.1 ⟨1, .data⟩ (by simp) rfl _ 17 rfl rfl
          exact wp_value (.pointer (some ⟨b, off + j * 2, none⟩)) (by unfold execOp; go_simp) ⟨rfl, Below.refl _ _⟩
        | 3, ho =>
          obtain rfl := Option.some.inj ho
          have e18 : a.tmps[18]?.getD undef = .pointer (some ⟨b, off + j * 2, none⟩) := hf.1 ⟨2, .data⟩ (by simp) rfl _ 18 rfl rfl
          exact wp_load_mid 33 (.tmp 18) rfl b (off + j * 2) (eval_get e18 trivial) [.int .i64 x, .int .i64 y] _ (range_on R1.out hb2) Try.underlying33 rfl rinfo2 ⟨rfl, Below.refl _ _⟩
        | 4, ho =>
          obtain rfl := Option.some.inj ho
          have b4 : a.tmps[4]?.getD undef = .pointer (some ⟨w.heap.size, 0, none⟩) := hf.2 4 (by kernel_rfl)
          exact wp_load_row 33 (.tmp 4) rfl w.heap.size (eval_get b4 trivial) 33 _ (0, 0) _ ((hb2.block _ (by omega)).trans HKR.out) Try.underlying33 rfl rinfo2 ⟨rfl, Below.refl _ _⟩
        | 5, ho =>
          obtain rfl := Option.some.inj ho
          have b2 : a.tmps[2]?.getD undef = .bool cols := hf.2 2 (by kernel_rfl)
          exact wp_value (.bool cols) (by unfold execOp; go_simp) ⟨rfl, Below.refl _ _⟩
        | 6, ho =>
          obtain rfl := Option.some.inj ho
          have e19 : a.tmps[19]?.getD undef = rect x y := hf.1 ⟨3, .data⟩ (by simp) rfl _ 19 rfl rfl
          have e20 : a.tmps[20]?.getD undef = rect r0 r1 := hf.1 ⟨4, .data⟩ (by simp) rfl _ 20 rfl rfl
          have e21 : a.tmps[21]?.getD undef = .bool cols := hf.1 ⟨5, .data⟩ (by simp) rfl _ 21 rfl rfl
          exact wp_enter 77 #[rect x y, rect r0 r1, .bool cols] (.bool bt) _ (by unfold execOp; go_simp) (HMX.out w2) (fun w' h => ⟨rfl, h⟩)
        | q + 7, ho => simp at ho
      case en =>
        intro w2 hb2
        have hw2 := hb2.size
        have HROW2 : Hid (w2.ownsRow W1.heap.size 33 2 u7 (keptTo xs f j).length (flat (keptTo xs f j))) := own_below HROW.out hb2
        have HBR2 := Lib.hid (HBR.out.trans (hb2.mono hws))
        have HBW2 := Lib.hid (HBW.out.trans (hb2.mono HBW.out.size))
        have R2 := Lib.hid (range_on R1.out hb2)
        clear hb2 HKR HROW HBR HBW R1 HMX
        simp only [fill, Act.put]
        go_simp
        cases bt with
        | false =>
          have hE : keptTo xs f (j + 1) = keptTo xs f j := by
            have := HNX.out j
            rw [HX.out.1] at this
            simpa using this
          have HE := Lib.hid hE
          clear hE
          go_wp2_with fail
          go_roundw
          case rel => exact ⟨j + 1, by omega, by go_num, by rw [HE.out]; exact HROW2.out, HBR2.out⟩
          case measure => simp [intOf]; omega
        | true =>
          have hE : keptTo xs f (j + 1) = keptTo xs f j ++ [(x, y)] := by
            have := HNX.out j
            rw [HX.out.1, HX.out.2] at this
            simpa using this
          have HE := Lib.hid hE
          clear hE
          have d0 : w2.cell? ⟨b, off + j * 2, none⟩ = some (.int .i64 x) := by have := R2.out 0 _ rfl; simpa using this
          have d1 : w2.cell? ⟨b, off + j * 2 + 1, none⟩ = some (.int .i64 y) := R2.out 1 _ rfl
          have hl0 : (keptTo xs f j).length ≤ 1048576 := Nat.le_trans (HLN.out j) (by omega)
          go_wp2_with (at_builtin; have HH := HROW2.out; refine wpList_append_own _ rfl (.tmp 23) (.tmp 28) 25 rfl W1.heap.size 33 i0 (.agg #[.int .i64 0, .int .i64 0]) 2 16 Try.underlying25 hi hz0 hz1 hz2 rfl (by decide) _ _ _ rfl (HH.alloc _) ⟨w2.heap.size, 0, none⟩ 1 1 [.int .i64 x, .int .i64 y] rfl rfl ?c1 ?c2 ?c3 ?c4 ?c5 ?c6; go_must (case c1 => exact (two_new _ _ _ _)); go_must (case c2 => simp [Value.oneCell']); go_must (case c3 => unfold maxLen; omega); go_must (case c4 => omega); go_must (case c5 => simp; omega); go_must (clear HH; intro v' w3 hown3 hgrow3 hnil3; have HO3 := Lib.hid hown3; have HG3 := Lib.hid hgrow3; clear hown3 hgrow3 hnil3))
          have HB3 : Hid (Below W1.heap.size W1 w3) := (HBR2.out.alloc (by omega) _).grown HG3.out (by simp; omega) (fun k hk => (HROW2.out.lt k hk).1)
          go_roundw
          case rel => exact ⟨j + 1, by omega, by go_num, by rw [HE.out, List.length_append, flat_next]; exact HO3.out, HB3.out⟩
          case measure => simp [intOf]; omega
    · obtain rfl : j = xs.length := by omega
      have HROW := Lib.hid hrow
      have HBR := Lib.hid hbr
      clear hrow hbr
      go_wp2_with fail
      go_ret
      exact ⟨_, rfl, own_lower HROW.out (by omega), HBW.out⟩

set_option maxHeartbeats 2000000 in
theorem spec_yes (xs : List (Int × Int)) (hlen : xs.length ≤ 1048576) (v : Value) (x y : Int) (cols : Bool) (h1 : someB x y = true) (h2 : allR xs = true) (w : World) (hv : RV w w.heap.size v xs) :
    Calls Try.prog 22 #[v, rect x y, .bool cols] w fun e w' => ∃ v', e = .returned v' ∧ w'.ownsRow w.heap.size 33 2 v' (live xs (x, y) cols).length (flat (live xs (x, y) cols)) ∧ Below w.heap.size w w' := by
  have H1 := Lib.hid h1
  have HV := Lib.hid hv
  have HA := Lib.hid (fun v w hv => (spec_rects xs hlen v w hv).mono (fun e w' h => by rw [h2] at h; exact h))
  have HL := Lib.hid (fun v W hv => live_spec xs hlen v x y cols W hv)
  generalize live xs (x, y) cols = ts at *
  clear h1 h2 hv
  have hba : Below w.heap.size w (w.alloc (.cells #[.int .i64 x, .int .i64 y] 33)) := (Below.refl _ _).alloc (Nat.le_refl _) _
  have HVA := Lib.hid ((HV.out.later (Nat.le_refl _) hba).mono hba.size)
  have HBA := Lib.hid hba
  clear hba
  go_enter Try.func22, Try.ntmps22
  go_wp2_with fail
  refine (HA.out _ _ HVA.out).mono ?_
  rintro e w1 ⟨rfl, hb1⟩
  obtain ⟨c0, c1, hz, HB⟩ := box2 hb1
  have HB1 := Lib.hid (HBA.out.trans (hb1.mono HBA.out.size))
  clear hb1 HBA HVA
  go_wp2_with fail
  refine (some_any _ _ _).mono ?_
  rintro e w2 ⟨rfl, hb2⟩
  rw [H1.out]
  obtain ⟨k0, k1⟩ := two_on hb2 hz c0 c1
  have HB2 := Lib.hid (HB1.out.trans (hb2.mono HB1.out.size))
  clear hb2 c0 c1 HB1 HB
  go_wp2_with fail
  refine (HL.out _ _ ((HV.out.later (Nat.le_refl _) HB2.out).mono HB2.out.size)).mono ?_
  rintro e w3 ⟨v3, rfl, hrow, hb3⟩
  have HR := Lib.hid (own_lower (B' := w.heap.size) hrow HB2.out.size)
  have HB3 := Lib.hid (HB2.out.trans (hb3.mono HB2.out.size))
  clear hrow hb3 k0 k1 HB2
  go_wp2_with fail
  go_ret
  exact ⟨_, rfl, HR.out, HB3.out⟩

set_option maxHeartbeats 2000000 in
theorem spec_no (xs : List (Int × Int)) (hlen : xs.length ≤ 1048576) (v : Value) (x y : Int) (cols : Bool) (h : (someB x y && allR xs) = false) (w : World) (hv : RV w w.heap.size v xs) :
    Calls Try.prog 22 #[v, rect x y, .bool cols] w fun e w' => ∃ v', e = .returned v' ∧ w'.ownsRow w.heap.size 33 2 v' 0 (flat []) ∧ Below w.heap.size w w' := by
  have HA := Lib.hid (fun v w hv => spec_rects xs hlen v w hv)
  have hba : Below w.heap.size w (w.alloc (.cells #[.int .i64 x, .int .i64 y] 33)) := (Below.refl _ _).alloc (Nat.le_refl _) _
  have HVA := Lib.hid ((hv.later (Nat.le_refl _) hba).mono hba.size)
  have HBA := Lib.hid hba
  clear hba hv
  cases h2 : allR xs with
  | false =>
    rw [h2] at HA
    clear h h2
    go_enter Try.func22, Try.ntmps22
    go_wp2_with fail
    refine (HA.out _ _ HVA.out).mono ?_
    rintro e w1 ⟨rfl, hb1⟩
    have HB1 := Lib.hid (HBA.out.trans (hb1.mono HBA.out.size))
    clear hb1 HBA HVA
    go_wp2_with fail
    go_ret
    exact ⟨_, rfl, own_lit w1 _ HB1.out.size, HB1.out.alloc HB1.out.size _⟩
  | true =>
    have h1 : someB x y = false := by rw [h2, Bool.and_true] at h; exact h
    have H1 := Lib.hid h1
    rw [h2] at HA
    clear h h1 h2
    go_enter Try.func22, Try.ntmps22
    go_wp2_with fail
    refine (HA.out _ _ HVA.out).mono ?_
    rintro e w1 ⟨rfl, hb1⟩
    obtain ⟨c0, c1, hz, HB⟩ := box2 hb1
    have HB1 := Lib.hid (HBA.out.trans (hb1.mono HBA.out.size))
    clear hb1 HBA HVA
    go_wp2_with fail
    refine (some_any _ _ _).mono ?_
    rintro e w2 ⟨rfl, hb2⟩
    rw [H1.out]
    have HB2 := Lib.hid (HB1.out.trans (hb2.mono HB1.out.size))
    clear hb2 c0 c1 HB1 HB
    go_wp2_with fail
    go_ret
    exact ⟨_, rfl, own_lit w2 _ HB2.out.size, HB2.out.alloc HB2.out.size _⟩
end Go.Proofs.Ytcafingoghoijaa.LiveS

