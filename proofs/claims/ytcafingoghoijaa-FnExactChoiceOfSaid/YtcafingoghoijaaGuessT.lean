/-
  maps.Collect of a list; guess; the things that are guessed.
-/
import Derived.Test.YtcafingoghoijaaGuessC
import Derived.Test.YtcafingoghoijaaMarksQ
import Derived.OwnWalk
namespace Go.Proofs.Ytcafingoghoijaa.GuessT
open Go.RowKit Go.Maps Go.Shelf Go.Proofs.Ytcafingoghoijaa.Plain Go.Proofs.Ytcafingoghoijaa.Rect Go.Proofs.Ytcafingoghoijaa.GuessM Go.Proofs.Ytcafingoghoijaa.GuessI Go.Proofs.Ytcafingoghoijaa.Range Go.Proofs.Ytcafingoghoijaa.Rects Go.Proofs.Ytcafingoghoijaa.Guess Go.Proofs.Ytcafingoghoijaa.GuessC
open Go.Proofs.Ytcafingoghoijaa.Marks (flat encR)
set_option linter.unusedVariables false

set_option maxHeartbeats 1000000 in
theorem collect (xs : List (Int × Int)) (hlen : xs.length ≤ 1048576) (p : Option Addr) (k : Nat) (Bs B : Nat) (w : World) (hb : w.heap[Bs]? = some (.cells #[.slice p xs.length k] 25 (0, 0)))
    (hv : RV w B (.slice p xs.length k) xs) (hB : B ≤ w.heap.size) :
    Calls Try.prog 74 #[.func (.func 88) #[] #[.pointer (some ⟨Bs, 0, none⟩)]] w
      fun e w' => e = .returned (.map (some w.heap.size)) ∧ (∃ D, w'.ownsMap Try.prog 3 rectElem w.heap.size xs.length D ∧ GuessM.Guess D xs (fun _ => true)) ∧ Below w.heap.size w w' := by
  have hBs : Bs < w.heap.size := (Array.getElem?_eq_some_iff.1 hb).1
  have hb1 : Below w.heap.size w (w.alloc (.map #[] 0)) := (Below.refl _ _).alloc (Nat.le_refl _) _
  have HI := Lib.hid (callsIn_wide.1 (insert xs hlen p k Bs B w.heap.size (w.alloc (.map #[] 0)) ((hb1.block Bs hBs).trans hb) (hv.later hB hb1) (by simp; omega) hB (by omega) (World.ownsMap_made w _ _ _)))
  have HB := Lib.hid hb1
  clear hb hv hb1
  go_enter Try.func74, Try.ntmps74
  have hmm := @run_makeMap Try.prog
  go_wp2_with fail
  refine HI.out.mono ?_
  rintro e w1 ⟨⟨v, rfl⟩, hD, hb⟩
  have HD := Lib.hid hD
  have HB2 := Lib.hid hb
  clear hD hb HI hmm
  go_wp2_with fail
  go_ret
  exact ⟨rfl, HD.out, HB.out.trans HB2.out⟩

/-- a function value answers so for each of a list -/
def Right (g : Nat) (lb : Array Value) (xs : List (Int × Int)) (pr : Nat → Bool) (w : World) : Prop :=
  ∀ j (hj : j < xs.length) W, Below w.heap.size w W → Calls Try.prog g (#[rect xs[j].1 xs[j].2] ++ lb) W fun e w' => e = .returned (.bool (pr j)) ∧ Below W.heap.size W w'

set_option maxRecDepth 100000 in
set_option maxHeartbeats 4000000 in
theorem guess_any (g : Nat) (lb : Array Value) (eg : ∀ args W, (callFunc g args).run Try.prog W = .ok (.enter g args) W) (xs : List (Int × Int)) (hlen : xs.length ≤ 1048576) (v : Value) (pr : Nat → Bool) (w : World)
    (hv : RV w w.heap.size v xs) (hR : Right g lb xs pr w) :
    Calls Try.prog 39 #[v, .func (.func g) #[] lb] w fun e w' => ∃ v', e = .returned v' ∧ IsG w.heap.size w' v' xs pr ∧ Below w.heap.size w w' := by
  obtain ⟨p, k, rfl⟩ := hv.slice
  have hb1 : Below w.heap.size w (w.alloc (.cells #[.slice p xs.length k] 25)) := (Below.refl _ _).alloc (Nat.le_refl _) _
  have HC := Lib.hid (collect xs hlen p k w.heap.size w.heap.size (w.alloc (.cells #[.slice p xs.length k] 25)) (heap_alloc_new w _) (hv.later (Nat.le_refl _) hb1) (by simp))
  have HR := Lib.hid hR
  have HV := Lib.hid hv
  have HB := Lib.hid hb1
  clear hv hR hb1
  go_enter Try.func39, Try.ntmps39
  go_wp2_with (first
    | (go_at_call 75; refine (all_call _ _ _ _).mono ?_; rintro e w' ⟨rfl, rfl⟩)
    | (go_at_call 74; refine HC.out.mono ?_; rintro e w1 ⟨rfl, hD, hb⟩; have HD := Lib.hid hD; have HB2 := Lib.hid (HB.out.trans (hb.mono (by simp))); clear hD hb))
  obtain ⟨mb, hmb⟩ : ∃ mb, (w.alloc (.cells #[.slice p xs.length k] 25)).heap.size = mb := ⟨_, rfl⟩
  have hmw : w.heap.size ≤ mb := by rw [← hmb]; simp
  simp only [World.size_alloc] at hmb
  simp only [World.size_alloc] at HD ⊢
  rw [hmb] at HD ⊢
  clear HC HB
  go_loopw [12] (fun i wr => ∃ j : Nat, j ≤ xs.length ∧ i = .int .i64 (j : Int) ∧ (∃ D, wr.ownsMap Try.prog 3 rectElem mb xs.length D ∧ GuessM.Guess D xs (fun t => if t < j then pr t else true)) ∧ Below w.heap.size w wr) (fun i _ => xs.length - (intOf i).toNat)
  case atStart =>
    obtain ⟨D, h1, h2⟩ := HD.out
    exact ⟨0, Nat.zero_le _, rfl, ⟨D, h1, h2.congr (fun t _ => by rw [if_neg (Nat.not_lt_zero t)])⟩, HB2.out⟩
  case round =>
    obtain ⟨j, hj, rfl, ⟨D, hown, hG⟩, hbr⟩ := hrel
    clear HD HB2
    by_cases hlt : j < xs.length
    · obtain ⟨x, hx⟩ : ∃ x, xs[j].1 = x := ⟨_, rfl⟩
      obtain ⟨y, hy⟩ : ∃ y, xs[j].2 = y := ⟨_, rfl⟩
      have hvr := HV.out.later (Nat.le_refl _) hbr
      have hsz := hbr.size
      rcases hvr.2 with ⟨_, h2⟩ | ⟨b, off, c, he, hbB, hc⟩
      · rw [h2] at hlt; simp at hlt
      · injection he with he1 he2 he3
        subst he1 he3
        have c0 := (hc j hlt).1
        have c1 := (hc j hlt).2
        rw [hx] at c0
        rw [hy] at c1
        have hcall := HR.out j hlt
        rw [hx, hy] at hcall
        have HCALL := Lib.hid hcall
        have HBR := Lib.hid hbr
        have HOWN := Lib.hid hown
        have HG := Lib.hid hG
        clear hcall hbr hown hG hc hvr hx hy
        go_wp2_with fail
        refine (HCALL.out _ HBR.out).mono ?_
        rintro e w2 ⟨rfl, hb2⟩
        have hown2 := HOWN.out.kept (grown_of_below hb2) (by simp)
        have HB3 := Lib.hid (HBR.out.trans (hb2.mono hsz))
        clear c0 c1 hb2 HBR HCALL HOWN
        cases hp : pr j with
        | true =>
          have HP := Lib.hid hp
          have HO2 := Lib.hid hown2
          clear hp hown2
          go_wp2_with fail
          go_roundw
          case rel =>
            refine ⟨j + 1, by omega, by go_num, ⟨D, HO2.out, HG.out.congr (fun t ht => ?_)⟩, HB3.out⟩
            by_cases e1 : t < j
            · rw [if_pos e1, if_pos (by omega)]
            · rw [if_neg e1]
              by_cases e2 : t < j + 1
              · obtain rfl : t = j := by omega
                rw [if_pos e2, HP.out]
              · rw [if_neg e2]
          case measure => simp [intOf]; omega
        | false =>
          have HP := Lib.hid hp
          clear hp
          have hkl : keyOf Try.prog 3 (.int .i64 (j : Int)) = some (.int .i64 (j : Int)) := keyOf_int_mk Try.underlying3 (by simp [Lit.wf, IntKind.min, IntKind.max, IntKind.bits, IntKind.signed]; omega)
          go_wp2_with (first
            | (at_delete; refine wpList_delete_own _ rfl _ _ 54 3 rfl 33 keyI Try.underlying54 _ mb xs.length D rfl hown2 _ (.int .i64 (j : Int)) rfl hkl ?_; intro w3 hown3 hturn3; have HO3 := Lib.hid hown3; have HT3 := Lib.hid hturn3; clear hown3 hturn3))
          go_roundw
          case rel =>
            refine ⟨j + 1, by omega, by go_num, ⟨_, HO3.out, (HG.out.del j).congr (fun t ht => ?_)⟩, below_row (by have := HB3.out.size; omega) HB3.out HT3.out.grown (fun r e => by cases e; exact hmw)⟩
            by_cases e1 : t < j
            · have e3 : (t != j) = true := by simp; omega
              rw [if_pos e1, if_pos (by omega), e3, Bool.and_true]
            · rw [if_neg e1]
              by_cases e2 : t < j + 1
              · obtain rfl : t = j := by omega
                rw [if_pos e2, HP.out]; simp
              · have e3 : (t != j) = true := by simp; omega
                rw [if_neg e2, e3]; rfl
          case measure => simp [intOf]; omega
    · obtain rfl : j = xs.length := by omega
      have HO := Lib.hid hown
      have HG := Lib.hid hG
      have HB3 := Lib.hid hbr
      clear hown hG hbr
      go_wp2_with fail
      go_ret
      exact ⟨_, rfl, ⟨hlen, mb, xs.length, D, rfl, hmw, hlen, HO.out, HG.out.congr (fun t ht => by rw [if_pos ht])⟩, HB3.out⟩
end Go.Proofs.Ytcafingoghoijaa.GuessT
