/-
  ProofOf: the first rectangle of a list that has an entry; both sides.
-/
import Derived.Test.YtcafingoghoijaaGuessT
import Derived.Test.YtcafingoghoijaaInRectWalk
namespace Go.Proofs.Ytcafingoghoijaa.Proof
open Go.RowKit Go.Proofs.Ytcafingoghoijaa.Plain Go.Proofs.Ytcafingoghoijaa.Rect Go.Proofs.Ytcafingoghoijaa.GuessM Go.Proofs.Ytcafingoghoijaa.GuessI Go.Proofs.Ytcafingoghoijaa.GuessT Go.Proofs.Ytcafingoghoijaa.Rects
set_option linter.unusedVariables false

/-- whether an entry is in a rectangle -/
noncomputable def inR (q : Int × Int) (x y : Int) : Bool := Classical.choose (fnExactInRect.both q.1 q.2 x y)
theorem inR_spec (q : Int × Int) (x y : Int) (w : World) : Calls Try.prog 38 #[rect q.1 q.2, .int .i64 x, .int .i64 y] w fun e w' => e = .returned (.bool (inR q x y)) ∧ Below w.heap.size w w' :=
  (Classical.choose_spec (fnExactInRect.both q.1 q.2 x y)).1 w
theorem inR_impl (q : Int × Int) (x y : Int) (w : World) : Calls Try.prog 32 #[rect q.1 q.2, .int .i64 x, .int .i64 y] w fun e w' => e = .returned (.bool (inR q x y)) ∧ Below w.heap.size w w' :=
  (Classical.choose_spec (fnExactInRect.both q.1 q.2 x y)).2 w

theorem leastK_found {f : Nat → Bool} {n j : Nat} (hj : j < n) (h : f j = true) (hb : ∀ t, t < j → f t = false) : leastK f n = (j : Int) := by
  have hm : j ∈ keep f n := (mem_keep f j n).2 ⟨hj, h⟩
  have hr := keep_rises f n
  unfold leastK
  cases hk : keep f n with
  | nil => rw [hk] at hm; cases hm
  | cons a t =>
    rw [hk] at hm hr
    have ha := (mem_keep f a n).1 (by rw [hk]; exact List.mem_cons_self)
    rcases List.mem_cons.1 hm with rfl | h2
    · rfl
    · have h3 := (List.pairwise_cons.1 hr).1 j h2
      have := hb a h3
      rw [ha.2] at this; cases this
theorem leastK_none {f : Nat → Bool} {n : Nat} (hb : ∀ t, t < n → f t = false) : leastK f n = -1 := by
  unfold leastK
  cases hk : keep f n with
  | nil => rfl
  | cons a t =>
    have ha := (mem_keep f a n).1 (by rw [hk]; exact List.mem_cons_self)
    have := hb a ha.1
    rw [ha.2] at this; cases this

/-- whether the j-th rectangle has the entry -/
noncomputable def has (xs : List (Int × Int)) (x y : Int) (j : Nat) : Bool := inR (xs.getD j (0, 0)) x y
theorem has_at (xs : List (Int × Int)) (x y : Int) (j : Nat) (hj : j < xs.length) : has xs x y j = inR xs[j] x y := by simp [has, List.getD, hj]

set_option maxHeartbeats 1000000 in
theorem right (xs : List (Int × Int)) (x y : Int) (Bx By : Nat) (w : World) (hx : w.cell? ⟨Bx, 0, none⟩ = some (.int .i64 x)) (hy : w.cell? ⟨By, 0, none⟩ = some (.int .i64 y)) (hxl : Bx < w.heap.size) (hyl : By < w.heap.size) :
    Right 40 #[.pointer (some ⟨Bx, 0, none⟩), .pointer (some ⟨By, 0, none⟩)] xs (has xs x y) w := by
  intro j hj W hb
  have c0 := (hb.cell (p := ⟨Bx, 0, none⟩) hxl).trans hx
  have c1 := (hb.cell (p := ⟨By, 0, none⟩) hyl).trans hy
  have hsz := hb.size
  have hbx : Bx < W.heap.size := by omega
  have hby : By < W.heap.size := by omega
  have HI := Lib.hid (fun W => inR_impl xs[j] x y W)
  rw [has_at xs x y j hj]
  obtain ⟨v, hv⟩ : ∃ v, inR xs[j] x y = v := ⟨_, rfl⟩
  rw [hv] at HI ⊢
  obtain ⟨a, ha⟩ : ∃ a, xs[j].1 = a := ⟨_, rfl⟩
  obtain ⟨b, hb2⟩ : ∃ b, xs[j].2 = b := ⟨_, rfl⟩
  rw [ha, hb2] at HI ⊢
  clear hx hy hb hv ha hb2
  show Calls Try.prog 40 #[rect a b, .pointer (some ⟨Bx, 0, none⟩), .pointer (some ⟨By, 0, none⟩)] W _
  go_enter Try.func40, Try.ntmps40
  go_wp2_with fail
  refine (HI.out _).mono ?_
  rintro e w1 ⟨rfl, hb1⟩
  have HB := Lib.hid (((Below.refl W.heap.size W).alloc (Nat.le_refl _) _).trans (hb1.mono (by simp)))
  clear hb1 c0 c1
  go_wp2_with fail
  go_ret
  exact ⟨rfl, HB.out⟩

set_option maxHeartbeats 1000000 in
theorem impl_any (xs : List (Int × Int)) (hlen : xs.length ≤ 1048576) (v : Value) (x y : Int) (w : World) (hv : RV w w.heap.size v xs) :
    Calls Try.prog 16 #[v, .int .i64 x, .int .i64 y] w fun e w' => e = .returned (.int .i64 (leastK (has xs x y) xs.length)) ∧ Below w.heap.size w w' := by
  have hb2 : Below w.heap.size w ((w.alloc (.cells #[.int .i64 x] 3)).alloc (.cells #[.int .i64 y] 3)) := ((Below.refl w.heap.size w).alloc (Nat.le_refl _) _).alloc (by simp) _
  have hbx : ((w.alloc (.cells #[.int .i64 x] 3)).alloc (.cells #[.int .i64 y] 3)).cell? ⟨w.heap.size, 0, none⟩ = some (.int .i64 x) := by simp
  have hby : ((w.alloc (.cells #[.int .i64 x] 3)).alloc (.cells #[.int .i64 y] 3)).cell? ⟨w.heap.size + 1, 0, none⟩ = some (.int .i64 y) := by simp
  have HG := Lib.hid (guess_any 40 #[.pointer (some ⟨w.heap.size, 0, none⟩), .pointer (some ⟨w.heap.size + 1, 0, none⟩)] (enters_of Try.func40 (by kernel_rfl) rfl) xs hlen v (has xs x y) _
    ((hv.later (Nat.le_refl _) hb2).mono hb2.size) (right xs x y w.heap.size (w.heap.size + 1) _ hbx hby (by simp; omega) (by simp)))
  have HB := Lib.hid hb2
  obtain ⟨r, hr⟩ : ∃ r, leastK (has xs x y) xs.length = r := ⟨_, rfl⟩
  have HL := Lib.hid (fun v' B W hg => least xs (has xs x y) v' B W hg)
  rw [hr] at HL ⊢
  clear hv hb2 hbx hby hr
  go_enter Try.func16, Try.ntmps16
  go_wp2_with fail
  refine HG.out.mono ?_
  rintro e w1 ⟨v', rfl, hg, hb1⟩
  have HG1 := Lib.hid hg
  have HB1 := Lib.hid hb1
  clear hg hb1 HG
  go_wp2_with fail
  refine (HL.out _ _ _ HG1.out).mono ?_
  rintro e w2 ⟨rfl, hb3⟩
  have HB3 := Lib.hid (HB.out.trans ((HB1.out.mono HB.out.size).trans (hb3.mono (Nat.le_trans HB.out.size HB1.out.size))))
  clear hb3 HL HG1 HB1 HB
  go_wp2_with fail
  go_ret
  exact ⟨rfl, HB3.out⟩

set_option maxHeartbeats 1000000 in
theorem spec_any (xs : List (Int × Int)) (hlen : xs.length ≤ 1048576) (v : Value) (x y : Int) (w : World) (hv : RV w w.heap.size v xs) :
    Calls Try.prog 14 #[v, .int .i64 x, .int .i64 y] w fun e w' => e = .returned (.int .i64 (leastK (has xs x y) xs.length)) ∧ Below w.heap.size w w' := by
  have HC : Hid (∀ W, Below w.heap.size w W → ∀ j (hj : j < xs.length), ∃ b off c, v = .slice (some ⟨b, off, none⟩) xs.length c ∧ W.cell? ⟨b, off + j * 2, none⟩ = some (.int .i64 xs[j].1) ∧ W.cell? ⟨b, off + j * 2 + 1, none⟩ = some (.int .i64 xs[j].2)) := fun W hb j hj => by
    rcases (hv.later (Nat.le_refl _) hb).2 with ⟨_, rfl⟩ | ⟨b, off, c, rfl, hlt, hc⟩
    · cases hj
    · exact ⟨b, off, c, rfl, hc j hj⟩
  have HF := Lib.hid (fun j hj h hb => leastK_found (f := has xs x y) (n := xs.length) (j := j) hj h hb)
  have HN := Lib.hid (fun hb => leastK_none (f := has xs x y) (n := xs.length) hb)
  obtain ⟨r, hr⟩ : ∃ r, leastK (has xs x y) xs.length = r := ⟨_, rfl⟩
  rw [hr] at HF HN ⊢
  obtain ⟨p, k, rfl⟩ := hv.slice
  clear hv hr
  go_enter Try.func14, Try.ntmps14
  go_wp2_with fail
  go_loopw [7] (fun i wr => ∃ j : Nat, j ≤ xs.length ∧ i = .int .i64 (j : Int) ∧ (∀ t, t < j → has xs x y t = false) ∧ Below w.heap.size w wr) (fun i _ => xs.length - (intOf i).toNat)
  case atStart => exact ⟨0, Nat.zero_le _, rfl, fun t h => absurd h (Nat.not_lt_zero t), Below.refl _ _⟩
  case round =>
    obtain ⟨j, hj, rfl, hno, hbr⟩ := hrel
    have HNO := Lib.hid hno
    have HBR := Lib.hid hbr
    clear hno hbr
    by_cases hlt : j < xs.length
    · obtain ⟨b, off, c, he, c0, c1⟩ := HC.out wr HBR.out j hlt
      injection he with he1 he2 he3
      subst he1 he3
      have HI := Lib.hid (fun W => inR_spec xs[j] x y W)
      have hat := has_at xs x y j hlt
      obtain ⟨v, hv⟩ : ∃ v, inR xs[j] x y = v := ⟨_, rfl⟩
      rw [hv] at HI hat
      obtain ⟨q0, hq0⟩ : ∃ a, xs[j].1 = a := ⟨_, rfl⟩
      obtain ⟨q1, hq1⟩ : ∃ b, xs[j].2 = b := ⟨_, rfl⟩
      rw [hq0, hq1] at HI
      rw [hq0] at c0
      rw [hq1] at c1
      have HAT := Lib.hid hat
      clear hat hv hq0 hq1
      go_wp2_with fail
      refine (HI.out _).mono ?_
      rintro e w1 ⟨rfl, hb1⟩
      have HB1 := Lib.hid (HBR.out.trans (hb1.mono HBR.out.size))
      clear hb1 c0 c1 HI HBR
      cases v with
      | false =>
        go_wp2_with fail
        go_roundw
        case rel =>
          refine ⟨j + 1, by omega, by go_num, fun t ht => ?_, HB1.out⟩
          by_cases e : t = j
          · rw [e]; exact HAT.out
          · exact HNO.out t (by omega)
        case measure => simp [intOf]; omega
      | true =>
        obtain rfl := HF.out j hlt HAT.out HNO.out
        go_wp2_with fail
        go_ret
        exact ⟨rfl, HB1.out⟩
    · obtain rfl : j = xs.length := by omega
      obtain rfl := HN.out HNO.out
      go_wp2_with fail
      go_ret
      exact ⟨rfl, HBR.out⟩
end Go.Proofs.Ytcafingoghoijaa.Proof
