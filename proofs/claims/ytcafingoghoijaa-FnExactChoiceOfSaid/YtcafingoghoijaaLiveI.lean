/-
  areRects, LiveRects of the program; l8Rects, l8Meets, l8Live, LiveRects of the reference.
-/
import Derived.Test.YtcafingoghoijaaGuessT
import Derived.Test.YtcafingoghoijaaThings
import Derived.Test.YtcafingoghoijaaAccept
import Derived.Test.YtcafingoghoijaaProof
namespace Go.Proofs.Ytcafingoghoijaa.LiveI
open Go.RowKit Go.Proofs.Ytcafingoghoijaa.Plain Go.Proofs.Ytcafingoghoijaa.Rect Go.Proofs.Ytcafingoghoijaa.FreeL Go.Proofs.Ytcafingoghoijaa.GuessM Go.Proofs.Ytcafingoghoijaa.GuessI Go.Proofs.Ytcafingoghoijaa.GuessT Go.Proofs.Ytcafingoghoijaa.Rects Go.Proofs.Ytcafingoghoijaa.Things Go.Proofs.Ytcafingoghoijaa.Accept
open Go.Proofs.Ytcafingoghoijaa.Free (fill wp_value wp_enter wp_load_row freeB)
open Go.Proofs.Ytcafingoghoijaa.Marks (flat encR)
open Go.Proofs.Ytcafingoghoijaa.Proof (leastK_found leastK_none)
set_option linter.unusedVariables false

/-- whether two sides have something in common -/
def mt (a b : Int) : Bool := Go.bits .and .i64 a b != 0
/-- whether all are rectangles -/
def allR (xs : List (Int × Int)) : Bool := xs.all fun q => someB q.1 q.2
theorem allR_at {xs : List (Int × Int)} (h : allR xs = true) (j : Nat) (hj : j < xs.length) : someB xs[j].1 xs[j].2 = true := List.all_eq_true.1 h _ (List.getElem_mem hj)
theorem allR_no {xs : List (Int × Int)} (h : allR xs = false) : ∃ j, ∃ hj : j < xs.length, someB xs[j].1 xs[j].2 = false ∧ ∀ t (ht : t < j), someB (xs[t]'(by omega)).1 (xs[t]'(by omega)).2 = true := by
  induction xs with
  | nil => simp [allR] at h
  | cons a l ih =>
    cases ha : someB a.1 a.2 with
    | false => exact ⟨0, by simp, ha, fun t ht => absurd ht (Nat.not_lt_zero t)⟩
    | true =>
      have h2 : allR l = false := by unfold allR at h ⊢; rw [List.all_cons, ha, Bool.true_and] at h; exact h
      obtain ⟨j, hj, h3, h4⟩ := ih h2
      refine ⟨j + 1, by simpa using hj, by simpa using h3, fun t ht => ?_⟩
      cases t with
      | zero => simpa using ha
      | succ t => simpa using h4 t (by omega)

set_option maxHeartbeats 1000000 in
/-- slices.IndexFunc, whatever the predicate -/
theorem index_fn (g : Nat) (lb : Array Value) (eg : ∀ args W, (callFunc g args).run Try.prog W = .ok (.enter g args) W) (xs : List (Int × Int)) (hlen : xs.length ≤ 1048576) (v : Value) (pr : Nat → Bool) (w : World)
    (hv : RV w w.heap.size v xs) (hR : Right g lb xs pr w) :
    Calls Try.prog 91 #[v, .func (.func g) #[] lb] w fun e w' => e = .returned (.int .i64 (leastK pr xs.length)) ∧ Below w.heap.size w w' := by
  have HC : Hid (∀ W, Below w.heap.size w W → ∀ j (hj : j < xs.length), ∃ b off c, v = .slice (some ⟨b, off, none⟩) xs.length c ∧ W.cell? ⟨b, off + j * 2, none⟩ = some (.int .i64 xs[j].1) ∧ W.cell? ⟨b, off + j * 2 + 1, none⟩ = some (.int .i64 xs[j].2)) := fun W hb j hj => by
    rcases (hv.later (Nat.le_refl _) hb).2 with ⟨_, rfl⟩ | ⟨b, off, c, rfl, hlt, hc⟩
    · cases hj
    · exact ⟨b, off, c, rfl, hc j hj⟩
  have HF := Lib.hid (fun j hj h hb => leastK_found (f := pr) (n := xs.length) (j := j) hj h hb)
  have HN := Lib.hid (fun hb => leastK_none (f := pr) (n := xs.length) hb)
  obtain ⟨r, hr⟩ : ∃ r, leastK pr xs.length = r := ⟨_, rfl⟩
  rw [hr] at HF HN ⊢
  obtain ⟨p, k, rfl⟩ := hv.slice
  have HR := Lib.hid hR
  clear hv hr hR
  go_enter Try.func91, Try.ntmps91
  go_wp2_with fail
  go_loopw [8] (fun i wr => ∃ j : Nat, j ≤ xs.length ∧ i = .int .i64 (j : Int) ∧ (∀ t, t < j → pr t = false) ∧ Below w.heap.size w wr) (fun i _ => xs.length - (intOf i).toNat)
  case atStart => exact ⟨0, Nat.zero_le _, rfl, fun t h => absurd h (Nat.not_lt_zero t), Below.refl _ _⟩
  case round =>
    obtain ⟨j, hj, rfl, hno, hbr⟩ := hrel
    have HNO := Lib.hid hno
    have HBR := Lib.hid hbr
    clear hno hbr
    by_cases hlt : j < xs.length
    · obtain ⟨b, off, c, he, c0, c1⟩ := HC.out wr HBR.out j hlt
      injection he with he1 he2 he3
      subst he1 he3
      have hcall := HR.out j hlt
      obtain ⟨v, hv⟩ : ∃ v, pr j = v := ⟨_, rfl⟩
      rw [hv] at hcall
      obtain ⟨q0, hq0⟩ : ∃ a, xs[j].1 = a := ⟨_, rfl⟩
      obtain ⟨q1, hq1⟩ : ∃ b, xs[j].2 = b := ⟨_, rfl⟩
      rw [hq0, hq1] at hcall
      rw [hq0] at c0
      rw [hq1] at c1
      have HCALL := Lib.hid hcall
      have HAT := Lib.hid hv
      clear hcall hv hq0 hq1
      go_wp2_with fail
      refine (HCALL.out _ HBR.out).mono ?_
      rintro e w1 ⟨rfl, hb1⟩
      have HB1 := Lib.hid (HBR.out.trans (hb1.mono HBR.out.size))
      clear hb1 c0 c1 HCALL HBR
      cases v with
      | false =>
        go_wp2_with fail
        go_roundw
        case rel =>
          refine ⟨j + 1, by omega, by go_num, fun t ht => ?_, HB1.out⟩
          by_cases e : t = j
          · rw [e]; exact HAT.out
          · exact HNO.out t (by omega)
        case measure => simp [intOf]; omega
      | true =>
        obtain rfl := HF.out j hlt HAT.out HNO.out
        go_wp2_with fail
        go_ret
        exact ⟨rfl, HB1.out⟩
    · obtain rfl : j = xs.length := by omega
      obtain rfl := HN.out HNO.out
      go_wp2_with fail
      go_ret
      exact ⟨rfl, HBR.out⟩

theorem leastK_or (f : Nat → Bool) (n : Nat) : leastK f n = -1 ∨ ∃ j : Nat, leastK f n = (j : Int) := by
  unfold leastK
  cases keep f n with
  | nil => exact .inl rfl
  | cons a t => exact .inr ⟨a, rfl⟩

set_option maxHeartbeats 1000000 in
theorem contains_fn (g : Nat) (lb : Array Value) (eg : ∀ args W, (callFunc g args).run Try.prog W = .ok (.enter g args) W) (xs : List (Int × Int)) (hlen : xs.length ≤ 1048576) (v : Value) (pr : Nat → Bool) (w : World)
    (hv : RV w w.heap.size v xs) (hR : Right g lb xs pr w) :
    Calls Try.prog 79 #[v, .func (.func g) #[] lb] w fun e w' => e = .returned (.bool (decide (0 ≤ leastK pr xs.length))) ∧ Below w.heap.size w w' := by
  have HI := Lib.hid (index_fn g lb eg xs hlen v pr w hv hR)
  rcases leastK_or pr xs.length with h | ⟨j, h⟩
  · rw [h] at HI ⊢
    clear h hv hR eg
    go_enter Try.func79, Try.ntmps79
    go_wp2_with fail
    refine HI.out.mono ?_
    rintro e w1 ⟨rfl, hb1⟩
    have HB := Lib.hid hb1
    clear hb1 HI
    go_wp2_with fail
    go_ret
    exact ⟨rfl, HB.out⟩
  · rw [h] at HI ⊢
    have h0 : (0 : Int) ≤ (j : Int) := by omega
    rw [decide_eq_true h0]
    clear h hv hR eg
    go_enter Try.func79, Try.ntmps79
    go_wp2_with fail
    refine HI.out.mono ?_
    rintro e w1 ⟨rfl, hb1⟩
    have HB := Lib.hid hb1
    clear hb1 HI
    go_wp2_with fail
    go_ret
    exact ⟨rfl, HB.out⟩

/-- whether the j-th is none -/
def noRect (xs : List (Int × Int)) (j : Nat) : Bool := !someB (xs.getD j (0, 0)).1 (xs.getD j (0, 0)).2
theorem noRect_at (xs : List (Int × Int)) (j : Nat) (hj : j < xs.length) : noRect xs j = !someB xs[j].1 xs[j].2 := by simp [noRect, List.getD, hj]

set_option maxHeartbeats 1000000 in
theorem right_none (xs : List (Int × Int)) (w : World) : Right 80 #[] xs (noRect xs) w := by
  intro j hj W hb
  rw [noRect_at xs j hj]
  have HI := Lib.hid (fun W => rect_any xs[j].1 xs[j].2 W)
  obtain ⟨v, hv⟩ : ∃ v, someB xs[j].1 xs[j].2 = v := ⟨_, rfl⟩
  rw [hv] at HI ⊢
  obtain ⟨a, ha⟩ : ∃ a, xs[j].1 = a := ⟨_, rfl⟩
  obtain ⟨b, hb2⟩ : ∃ b, xs[j].2 = b := ⟨_, rfl⟩
  rw [ha, hb2] at HI ⊢
  clear hb hv ha hb2
  show Calls Try.prog 80 #[rect a b] W _
  go_enter Try.func80, Try.ntmps80
  go_wp2_with fail
  refine (HI.out _).mono ?_
  rintro e w1 ⟨rfl, hb1⟩
  have HB := Lib.hid (((Below.refl W.heap.size W).alloc (Nat.le_refl _) _).trans (hb1.mono (by simp)))
  clear hb1
  go_wp2_with fail
  go_ret
  exact ⟨rfl, HB.out⟩

set_option maxHeartbeats 1000000 in
theorem are_rects (xs : List (Int × Int)) (hlen : xs.length ≤ 1048576) (v : Value) (w : World) (hv : RV w w.heap.size v xs) :
    Calls Try.prog 50 #[v] w fun e w' => e = .returned (.bool (allR xs)) ∧ Below w.heap.size w w' := by
  have hcon := contains_fn 80 #[] (enters_of Try.func80 (by kernel_rfl) rfl) xs hlen v (noRect xs) w hv (right_none xs w)
  have he : decide (0 ≤ leastK (noRect xs) xs.length) = !allR xs := by
    cases ha : allR xs with
    | true => rw [leastK_none (fun t ht => by rw [noRect_at xs t ht, allR_at ha t ht]; rfl)]; rfl
    | false =>
      obtain ⟨j, hj, h1, h2⟩ := allR_no ha
      rw [leastK_found hj (by rw [noRect_at xs j hj, h1]; rfl) (fun t ht => by rw [noRect_at xs t (by omega), h2 t ht]; rfl), decide_eq_true (by omega)]
      rfl
  rw [he] at hcon
  have HI := Lib.hid hcon
  obtain ⟨a, ha⟩ : ∃ a, allR xs = a := ⟨_, rfl⟩
  rw [ha] at HI ⊢
  clear hcon he hv ha
  go_enter Try.func50, Try.ntmps50
  go_wp2_with fail
  refine HI.out.mono ?_
  rintro e w1 ⟨rfl, hb1⟩
  have HB := Lib.hid hb1
  clear hb1 HI
  cases a
  all_goals
    go_wp2_with fail
    go_ret
    exact ⟨rfl, HB.out⟩

set_option maxHeartbeats 1000000 in
theorem spec_rects (xs : List (Int × Int)) (hlen : xs.length ≤ 1048576) (v : Value) (w : World) (hv : RV w w.heap.size v xs) :
    Calls Try.prog 46 #[v] w fun e w' => e = .returned (.bool (allR xs)) ∧ Below w.heap.size w w' := by
  have HC : Hid (∀ W, Below w.heap.size w W → ∀ j (hj : j < xs.length), ∃ b off c, v = .slice (some ⟨b, off, none⟩) xs.length c ∧ W.cell? ⟨b, off + j * 2, none⟩ = some (.int .i64 xs[j].1) ∧ W.cell? ⟨b, off + j * 2 + 1, none⟩ = some (.int .i64 xs[j].2)) := fun W hb j hj => by
    rcases (hv.later (Nat.le_refl _) hb).2 with ⟨_, rfl⟩ | ⟨b, off, c, rfl, hlt, hc⟩
    · cases hj
    · exact ⟨b, off, c, rfl, hc j hj⟩
  have HF : Hid (∀ j (hj : j < xs.length), someB xs[j].1 xs[j].2 = false → allR xs = false) := fun j hj h => by
    cases ha : allR xs with
    | false => rfl
    | true => rw [allR_at ha j hj] at h; cases h
  have HN : Hid ((∀ j (hj : j < xs.length), someB xs[j].1 xs[j].2 = true) → allR xs = true) := fun h => by
    refine List.all_eq_true.2 fun q hq => ?_
    obtain ⟨j, hj, rfl⟩ := List.getElem_of_mem hq
    exact h j hj
  obtain ⟨a, ha⟩ : ∃ a, allR xs = a := ⟨_, rfl⟩
  rw [ha] at HF HN ⊢
  obtain ⟨p, k, rfl⟩ := hv.slice
  clear hv ha
  go_enter Try.func46, Try.ntmps46
  go_wp2_with fail
  go_loopw [3] (fun i wr => ∃ j : Nat, j ≤ xs.length ∧ i = .int .i64 (j : Int) ∧ (∀ t (ht : t < xs.length), t < j → someB xs[t].1 xs[t].2 = true) ∧ Below w.heap.size w wr) (fun i _ => xs.length - (intOf i).toNat)
  case atStart => exact ⟨0, Nat.zero_le _, rfl, fun t _ h => absurd h (Nat.not_lt_zero t), Below.refl _ _⟩
  case round =>
    obtain ⟨j, hj, rfl, hno, hbr⟩ := hrel
    have HNO := Lib.hid hno
    have HBR := Lib.hid hbr
    clear hno hbr
    by_cases hlt : j < xs.length
    · obtain ⟨b, off, c, he, c0, c1⟩ := HC.out wr HBR.out j hlt
      injection he with he1 he2 he3
      subst he1 he3
      have HI := Lib.hid (fun W => some_any xs[j].1 xs[j].2 W)
      obtain ⟨v, hv⟩ : ∃ v, someB xs[j].1 xs[j].2 = v := ⟨_, rfl⟩
      have HAT := Lib.hid hv
      rw [hv] at HI
      obtain ⟨q0, hq0⟩ : ∃ a, xs[j].1 = a := ⟨_, rfl⟩
      obtain ⟨q1, hq1⟩ : ∃ b, xs[j].2 = b := ⟨_, rfl⟩
      rw [hq0, hq1] at HI
      rw [hq0] at c0
      rw [hq1] at c1
      clear hv hq0 hq1
      go_wp2_with fail
      refine (HI.out _).mono ?_
      rintro e w1 ⟨rfl, hb1⟩
      have HB1 := Lib.hid (HBR.out.trans (hb1.mono HBR.out.size))
      clear hb1 c0 c1 HI HBR
      cases v with
      | true =>
        go_wp2_with fail
        go_roundw
        case rel =>
          refine ⟨j + 1, by omega, by go_num, fun t ht0 ht => ?_, HB1.out⟩
          by_cases e : t = j
          · subst e; exact HAT.out
          · exact HNO.out t ht0 (by omega)
        case measure => simp [intOf]; omega
      | false =>
        obtain rfl := HF.out j hlt HAT.out
        go_wp2_with fail
        go_ret
        exact ⟨rfl, HB1.out⟩
    · obtain rfl : j = xs.length := by omega
      obtain rfl := HN.out (fun j hj => HNO.out j hj hj)
      go_wp2_with fail
      go_ret
      exact ⟨rfl, HBR.out⟩

set_option maxHeartbeats 1000000 in
theorem meets (x y r0 r1 : Int) (cols : Bool) (w : World) :
    Calls Try.prog 77 #[rect x y, rect r0 r1, .bool cols] w fun e w' => e = .returned (.bool (mt (side (x, y) cols) (side (r0, r1) cols))) ∧ Below w.heap.size w w' := by
  cases cols
  all_goals
    go_enter Try.func77, Try.ntmps77
    go_wp2_with fail
    go_ret
    exact ⟨rfl, by go_grown⟩
end Go.Proofs.Ytcafingoghoijaa.LiveI
