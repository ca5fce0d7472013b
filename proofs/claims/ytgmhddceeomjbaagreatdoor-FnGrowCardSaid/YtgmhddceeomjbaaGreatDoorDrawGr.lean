/-
  The drawing function DrawGrowRect.
-/
import Derived.Test.YtgmhddceeomjbaaGreatDoorRd9
import Derived.Test.YtgmhddceeomjbaaGreatDoorKeptR
import Derived.Test.YtgmhddceeomjbaaGreatDoorFreeQ
import Derived.Test.YtgmhddceeomjbaaGreatDoorFreeP
import Derived.Test.YtgmhddceeomjbaaGreatDoorJ14
namespace Go.Proofs.YtgmhddceeomjbaaGreatDoor.DrawGr
open Go Go.RowKit Go.Proofs.YtgmhddceeomjbaaGreatDoor.Plain Go.Proofs.YtgmhddceeomjbaaGreatDoor.Base Go.Proofs.YtgmhddceeomjbaaGreatDoor.Rd Go.Proofs.YtgmhddceeomjbaaGreatDoor.Rd2 Go.Proofs.YtgmhddceeomjbaaGreatDoor.Rd3 Go.Proofs.YtgmhddceeomjbaaGreatDoor.Rd4 Go.Proofs.YtgmhddceeomjbaaGreatDoor.Rd5 Go.Proofs.YtgmhddceeomjbaaGreatDoor.Rd6 Go.Proofs.YtgmhddceeomjbaaGreatDoor.Rd7 Go.Proofs.YtgmhddceeomjbaaGreatDoor.Rd9 Go.Proofs.YtgmhddceeomjbaaGreatDoor.KeptR Go.Proofs.YtgmhddceeomjbaaGreatDoor.FreeQ
open Go.Proofs.YtgmhddceeomjbaaGreatDoor.FreeP (wp_enterP)
open Go.Proofs.YtgmhddceeomjbaaGreatDoor.FreeD (FactsV)
open Go.Proofs.YtgmhddceeomjbaaGreatDoor.Free (fill wp_value wp_enter wp_load_row freeB)
open Go.Proofs.YtgmhddceeomjbaaGreatDoor.BoardM (rinfo)
set_option linter.unusedVariables false

abbrev M (a b : Int) (t : ByteArray) : Obj := .cells #[.int .i64 a, .int .i64 b, .string t] 27 (0, 0)
theorem rinfo2 : (Tryz.prog.info? 34).map (·.size) = some 2 := rinfo
/-- what is known in the midst of the return -/
structure GT (g q : Nat) (w : World) (B : Nat) (a b : Int) (t : ByteArray) (b4 b5 b6 b7 : Bool) (wx : World) : Prop where
  loc : wx.heap[B]? = some (M a b t)
  one : wx.heap[w.heap.size]? = some (if b6 then M a b t else M 0 0 ⟨#[]⟩)
  two : ∃ x y : Int, wx.heap[w.heap.size + 1]? = some (.cells #[.int .i64 x, .int .i64 y] 34 (0, 0))
  below : Below w.heap.size w wx
  lo : w.heap.size + 2 ≤ g
  hB : g < B
  rd : b5 = false → ∃ p, Rdr w.heap.size wx g p ∧ p ≤ q + (bif b4 then 400 else 0)
theorem GT.move {g q : Nat} {w : World} {B : Nat} {a b : Int} {t : ByteArray} {b4 b5 b6 b7 c4 c5 : Bool} {wx w2 : World} (h : GT g q w B a b t b4 b5 b6 b7 wx) (ha : Apt g wx w2)
    (hr : c5 = false → ∃ p, Rdr w.heap.size w2 g p ∧ p ≤ q + (bif c4 then 400 else 0)) : GT g q w B a b t c4 c5 b6 b7 w2 := by
  obtain ⟨x, y, h3⟩ := h.two
  have h4 := h.lo
  have h5 := h.hB
  exact ⟨(ha.block _ (Array.getElem?_eq_some_iff.1 h.loc).1 (by omega)).trans h.loc, (ha.block _ (Array.getElem?_eq_some_iff.1 h.one).1 (by omega)).trans h.one,
    ⟨x, y, (ha.block _ (Array.getElem?_eq_some_iff.1 h3).1 (by omega)).trans h3⟩, ha.below h.below (by omega), h.lo, h.hB, hr⟩
/-- what is handed back -/
def Done (w : World) (e : Ending) (w' : World) : Prop := ∃ (a b : Int) (t : ByteArray) (x y : Int), e = .returned (.tuple #[mtx a b t, .agg #[.int .i64 x, .int .i64 y]]) ∧ t.size ≤ 100 ∧ Below w.heap.size w w'

set_option maxHeartbeats 8000000 in
set_option maxRecDepth 100000 in
theorem draw_any (v : Value) (n : Nat) (w : World) (h : ByteArg w v n) : Calls Tryz.prog 14 #[v] w (Done w) := by
  have hst := two_start_below w (.cells #[.int .i64 0, .int .i64 0, .string ⟨#[]⟩] 27) (.cells #[.int .i64 0, .int .i64 0] 34)
  have h1 := h.later hst
  have HO := Lib.hid (open_lo v n _ h1 (lo_of h))
  have HST := Lib.hid hst
  clear h h1 hst
  go_enter Tryz.func14, Tryz.ntmps14
  go_wp2_with fail
  refine HO.out.mono ?_
  rintro e w1 ⟨g, rfl, hr, hb, hg⟩
  have hs2 : w.heap.size + 2 ≤ g := by simp at hg; omega
  have r1 : w1.heap[w.heap.size]? = some (M 0 0 ⟨#[]⟩) := (hb.block _ (by simp; omega)).trans ((Below.heap_alloc _ _ _ (by simp)).trans (heap_alloc_new w _))
  have r2 : w1.heap[w.heap.size + 1]? = some (.cells #[.int .i64 0, .int .i64 0] 34 (0, 0)) := (hb.block _ (by simp)).trans (by have := heap_alloc_new (w.alloc (.cells #[.int .i64 0, .int .i64 0, .string ⟨#[]⟩] 27)) (.cells #[.int .i64 0, .int .i64 0] 34); rwa [World.size_alloc] at this)
  have HK1 : Hid (Kr g w w1 [(w.heap.size + 1, .cells #[.int .i64 0, .int .i64 0] 34 (0, 0)), (w.heap.size, M 0 0 ⟨#[]⟩)]) := by
    refine ⟨fun p hp => ?_, HST.out.trans (hb.mono (by simp; omega)), by omega⟩
    simp only [List.mem_cons, List.not_mem_nil, or_false] at hp
    rcases hp with rfl | rfl
    · exact ⟨by simp only; omega, r2⟩
    · exact ⟨by simp only; omega, r1⟩
  have HT := Lib.hid (open_mat g 0 (by omega) w1 hr)
  clear hr hb hg r1 r2 HO HST
  go_wp2_with fail
  refine HT.out.mono ?_
  rintro e w2 ⟨a, b, t, p, rfl, wa, wb, ht, hp1, hp2, hr, ha⟩
  obtain ⟨B, hB⟩ : ∃ x, w2.heap.size = x := ⟨_, rfl⟩
  have hgB : g < B := by have := hr.lt; omega
  have HK2 : Hid (Kr g w (w2.alloc (.cells #[.int .i64 a, .int .i64 b, .string t] 27)) [(B, M a b t), (w.heap.size + 1, .cells #[.int .i64 0, .int .i64 0] 34 (0, 0)), (w.heap.size, M 0 0 ⟨#[]⟩)]) := (HK1.out.later ha).put _ hB (by omega)
  have hr2 := hr.later ((Below.refl w2.heap.size w2).alloc (Nat.le_refl _) (.cells #[.int .i64 a, .int .i64 b, .string t] 27))
  have HP := Lib.hid (pick_r g p (by omega) 5 _ hr2)
  clear hr hr2 ha HT HK1
  go_wp2_with fail
  rw [hB] at *
  refine HP.out.mono ?_
  rintro e w3 ⟨k, rfl, -, -, hr, ha⟩
  have HK3 := Lib.hid (HK2.out.later ha)
  obtain ⟨q, hq⟩ : ∃ q, p + 1 = q := ⟨_, rfl⟩
  rw [hq] at hr
  have hq5 : q ≤ 1000 := by omega
  have HGT : Hid (GT g q w B a b t false false false false w3.drew) :=
    ⟨HK3.out.drew.at 0 rfl, HK3.out.drew.at 2 rfl, ⟨0, 0, HK3.out.drew.at 1 rfl⟩, HK3.out.drew.below, hs2, hgB, fun _ => ⟨q, hr.later (drawn_at w3 1), by simp⟩⟩
  clear hr ha HP HK2 HK3 hB hq hp1 hp2 wa wb
  by_cases hk : k = 0
  · subst hk
    go_wp2_with fail
    refine wp_region_family (fun | 0 => fun v => v = mtx a b t | 1 => fun v => v = .pointer (some ⟨g, 0, none⟩) | 2 => fun v => v = .pointer (some ⟨g, 0, none⟩) | 3 => fun v => v = mtx a b t | 4 => fun v => ∃ x y : Int, v = .agg #[.int .i64 x, .int .i64 y] ∧ W64 x ∧ W64 y | 5 => fun v => ∃ x y : Int, v = .agg #[.int .i64 x, .int .i64 y] | _ => fun _ => True)
      (fun l wx => GT g q w B a b t (l 4) (l 5) (l 6) (l 7) wx) (by kernel_rfl) (by kernel_rfl) rfl HGT.out ?conA ?enA
    case conA =>
      intro i o ho a' wx l hT hl hcl hf
      match i, ho with
      | 0, ho =>
        obtain rfl := Option.some.inj ho
        have b5 : a'.tmps[5]?.getD undef = .pointer (some ⟨B, 0, none⟩) := hf.2 5 (by kernel_rfl)
        exact wp_load_row 27 (.tmp 5) rfl B (eget b5) 27 _ (0, 0) _ hT.loc Tryz.underlying27 rfl minfo3 ⟨_, rfl, rfl, hT⟩
      | 1, ho =>
        obtain rfl := Option.some.inj ho
        have b4 : a'.tmps[4]?.getD undef = .pointer (some ⟨g, 0, none⟩) := hf.2 4 (by kernel_rfl)
        exact wp_value (.pointer (some ⟨g, 0, none⟩)) (by unfold execOp; go_simp) ⟨_, rfl, rfl, hT⟩
      | 2, ho =>
        obtain rfl := Option.some.inj ho
        have b4 : a'.tmps[4]?.getD undef = .pointer (some ⟨g, 0, none⟩) := hf.2 4 (by kernel_rfl)
        exact wp_value (.pointer (some ⟨g, 0, none⟩)) (by unfold execOp; go_simp) ⟨_, rfl, rfl, hT⟩
      | 3, ho =>
        obtain rfl := Option.some.inj ho
        have b5 : a'.tmps[5]?.getD undef = .pointer (some ⟨B, 0, none⟩) := hf.2 5 (by kernel_rfl)
        exact wp_load_row 27 (.tmp 5) rfl B (eget b5) 27 _ (0, 0) _ hT.loc Tryz.underlying27 rfl minfo3 ⟨_, rfl, rfl, hT⟩
      | 4, ho =>
        obtain rfl := Option.some.inj ho
        have h5 : l 5 = false := by
          cases h : l 5 with
          | false => rfl
          | true => have := hcl 5 _ rfl h ⟨4, .data⟩ (by simp) rfl; rw [hl] at this; cases this
        obtain ⟨p, hr, hp⟩ := hT.rd h5
        rw [hl] at hp
        have hp6 : p ≤ 5000 := by simp only [cond_false] at hp; omega
        have e2 : a'.tmps[15]?.getD undef = .pointer (some ⟨g, 0, none⟩) := hf.1 ⟨2, .data⟩ (by simp) rfl _ 15 rfl rfl
        have e3 : a'.tmps[16]?.getD undef = mtx a b t := hf.1 ⟨3, .data⟩ (by simp) rfl _ 16 rfl rfl
        refine wp_enterP 47 #[.pointer (some ⟨g, 0, none⟩), mtx a b t] (fun v w' => (∃ x y : Int, v = .agg #[.int .i64 x, .int .i64 y] ∧ W64 x ∧ W64 y) ∧ (∃ p', p' ≤ p + 100 ∧ Rdr w.heap.size w' g p') ∧ Apt g wx w') (by unfold execOp; go_simp)
          ((draw_rect g p (by omega) a b t wx hr).mono fun e w' h => by obtain ⟨x, y, he, hx, hy, hr, ha⟩ := h; exact ⟨_, he, ⟨x, y, rfl, ⟨by omega, by omega⟩, ⟨by omega, by omega⟩⟩, ⟨_, by omega, hr⟩, ha⟩) (fun v w' h => ⟨v, rfl, h.1, ?_⟩)
        show GT g q w B a b t true (l 5) (l 6) (l 7) w'
        obtain ⟨p', hp7, hr7⟩ := h.2.1
        rw [h5] at hT ⊢
        exact hT.move h.2.2 (fun _ => ⟨p', hr7, by simp only [cond_true, cond_false] at hp ⊢; omega⟩)
      | 5, ho =>
        obtain rfl := Option.some.inj ho
        obtain ⟨p, hr, hp⟩ := hT.rd hl
        have hc4 : (bif l 4 then 400 else 0) ≤ 400 := by cases l 4 <;> decide
        have hp6 : p ≤ 5000 := by omega
        have e1 : a'.tmps[14]?.getD undef = .pointer (some ⟨g, 0, none⟩) := hf.1 ⟨1, .data⟩ (by simp) rfl _ 14 rfl rfl
        obtain ⟨x, y, e4, hx, hy⟩ : ∃ x y : Int, a'.tmps[17]?.getD undef = .agg #[.int .i64 x, .int .i64 y] ∧ W64 x ∧ W64 y := hf.1 ⟨4, .data⟩ (by simp) rfl _ 17 rfl rfl
        refine wp_enterP 46 #[.pointer (some ⟨g, 0, none⟩), .agg #[.int .i64 x, .int .i64 y]] (fun v w' => (∃ x y : Int, v = .agg #[.int .i64 x, .int .i64 y]) ∧ Apt g wx w') (by unfold execOp; go_simp)
          ((bad_rect g p (by omega) x y hx hy wx hr).mono fun e w' h => by obtain ⟨x2, y2, p', he, _, _, _, _, _, ha⟩ := h; exact ⟨_, he, ⟨x2, y2, rfl⟩, ha⟩) (fun v w' h => ⟨v, rfl, h.1, ?_⟩)
        show GT g q w B a b t (l 4) true (l 6) (l 7) w'
        exact hT.move h.2 (fun h => by cases h)
      | 6, ho =>
        obtain rfl := Option.some.inj ho
        have b2 : a'.tmps[2]?.getD undef = .pointer (some ⟨w.heap.size, 0, none⟩) := hf.2 2 (by kernel_rfl)
        have e0 : a'.tmps[13]?.getD undef = mtx a b t := hf.1 ⟨0, .data⟩ (by simp) rfl _ 13 rfl rfl
        have hrow : wx.heap[w.heap.size]? = some (M 0 0 ⟨#[]⟩) := by have := hT.one; rw [hl] at this; exact this
        refine wp_store_row 27 (.tmp 2) (.tmp 13) rfl w.heap.size #[.int .i64 a, .int .i64 b, .string t] (eget b2) (eget e0) 27 _ hrow minfo3 rfl (by simp [Value.oneCell']) ⟨undef, rfl, trivial, ?_⟩
        show GT g q w B a b t (l 4) (l 5) true (l 7) _
        obtain ⟨x2, y2, u3⟩ := hT.two
        have h4 := hT.lo
        have h5 := hT.hB
        exact ⟨(Go.Proofs.YtgmhddceeomjbaaGreatDoor.Free.setRow_other (by omega) _).trans hT.loc, Go.Proofs.YtgmhddceeomjbaaGreatDoor.Free.setRow_kept hrow _, ⟨x2, y2, (Go.Proofs.YtgmhddceeomjbaaGreatDoor.Free.setRow_other (by omega) _).trans u3⟩, Go.Proofs.YtgmhddceeomjbaaGreatDoor.Free.setRow_below hT.below (Nat.le_refl _) _, hT.lo, hT.hB, fun h => (by obtain ⟨p, hr, hp⟩ := hT.rd h; exact ⟨p, rdr_putRow hr _ _ (by omega) (.inr (Nat.le_refl _)), hp⟩)⟩
      | 7, ho =>
        obtain rfl := Option.some.inj ho
        have b3 : a'.tmps[3]?.getD undef = .pointer (some ⟨w.heap.size + 1, 0, none⟩) := hf.2 3 (by kernel_rfl)
        obtain ⟨x, y, e5⟩ : ∃ x y : Int, a'.tmps[18]?.getD undef = .agg #[.int .i64 x, .int .i64 y] := hf.1 ⟨5, .data⟩ (by simp) rfl _ 18 rfl rfl
        obtain ⟨x2, y2, u3⟩ := hT.two
        refine wp_store_row 34 (.tmp 3) (.tmp 18) rfl (w.heap.size + 1) #[.int .i64 x, .int .i64 y] (eget b3) (eget e5) 34 _ u3 rinfo2 rfl (by simp [Value.oneCell']) ⟨undef, rfl, trivial, ?_⟩
        show GT g q w B a b t (l 4) (l 5) (l 6) true _
        have h4 := hT.lo
        have h5 := hT.hB
        exact ⟨(Go.Proofs.YtgmhddceeomjbaaGreatDoor.Free.setRow_other (by omega) _).trans hT.loc, (Go.Proofs.YtgmhddceeomjbaaGreatDoor.Free.setRow_other (by omega) _).trans hT.one, ⟨x, y, Go.Proofs.YtgmhddceeomjbaaGreatDoor.Free.setRow_kept u3 _⟩, Go.Proofs.YtgmhddceeomjbaaGreatDoor.Free.setRow_below hT.below (by omega) _, hT.lo, hT.hB, fun h => (by obtain ⟨p, hr, hp⟩ := hT.rd h; exact ⟨p, rdr_putRow hr _ _ (by omega) (.inr (by omega)), hp⟩)⟩
      | k + 8, ho => simp at ho
    case enA =>
      intro vs wx hT hall
      have hT2 : GT g q w B a b t true true true true wx := hT
      obtain ⟨x, y, u3⟩ := hT2.two
      obtain ⟨o0, o1, o2, -, -, -⟩ := cells3 hT2.one
      obtain ⟨q0, q1, -, -⟩ := cells2 u3
      have HB := Lib.hid hT2.below
      clear hT hT2 hall u3 HGT
      simp only [fill, Act.put]
      go_simp
      go_wp2_with fail
      exact bodyPost_ret (v := .tuple #[mtx a b t, .agg #[.int .i64 x, .int .i64 y]]) (by simp [results, Tryz.results14, go_sem, o0, o1, o2, q0, q1]) rfl ⟨a, b, t, x, y, rfl, ht, HB.out⟩
  · go_wp2_with fail
    refine wp_region_family (fun | 0 => fun v => v = mtx a b t | 1 => fun v => v = .pointer (some ⟨g, 0, none⟩) | 2 => fun v => v = .pointer (some ⟨g, 0, none⟩) | 3 => fun v => v = mtx a b t | 4 => fun v => ∃ x y : Int, v = .agg #[.int .i64 x, .int .i64 y] ∧ W64 x ∧ W64 y | 5 => fun v => ∃ x y : Int, v = .agg #[.int .i64 x, .int .i64 y] | _ => fun _ => True)
      (fun l wx => GT g q w B a b t (l 4) (l 5) (l 6) (l 7) wx) (by kernel_rfl) (by kernel_rfl) rfl HGT.out ?conB ?enB
    case conB =>
      intro i o ho a' wx l hT hl hcl hf
      match i, ho with
      | 0, ho =>
        obtain rfl := Option.some.inj ho
        have b5 : a'.tmps[5]?.getD undef = .pointer (some ⟨B, 0, none⟩) := hf.2 5 (by kernel_rfl)
        exact wp_load_row 27 (.tmp 5) rfl B (eget b5) 27 _ (0, 0) _ hT.loc Tryz.underlying27 rfl minfo3 ⟨_, rfl, rfl, hT⟩
      | 1, ho =>
        obtain rfl := Option.some.inj ho
        have b4 : a'.tmps[4]?.getD undef = .pointer (some ⟨g, 0, none⟩) := hf.2 4 (by kernel_rfl)
        exact wp_value (.pointer (some ⟨g, 0, none⟩)) (by unfold execOp; go_simp) ⟨_, rfl, rfl, hT⟩
      | 2, ho =>
        obtain rfl := Option.some.inj ho
        have b4 : a'.tmps[4]?.getD undef = .pointer (some ⟨g, 0, none⟩) := hf.2 4 (by kernel_rfl)
        exact wp_value (.pointer (some ⟨g, 0, none⟩)) (by unfold execOp; go_simp) ⟨_, rfl, rfl, hT⟩
      | 3, ho =>
        obtain rfl := Option.some.inj ho
        have b5 : a'.tmps[5]?.getD undef = .pointer (some ⟨B, 0, none⟩) := hf.2 5 (by kernel_rfl)
        exact wp_load_row 27 (.tmp 5) rfl B (eget b5) 27 _ (0, 0) _ hT.loc Tryz.underlying27 rfl minfo3 ⟨_, rfl, rfl, hT⟩
      | 4, ho =>
        obtain rfl := Option.some.inj ho
        have h5 : l 5 = false := by
          cases h : l 5 with
          | false => rfl
          | true => have := hcl 5 _ rfl h ⟨4, .data⟩ (by simp) rfl; rw [hl] at this; cases this
        obtain ⟨p, hr, hp⟩ := hT.rd h5
        rw [hl] at hp
        have hp6 : p ≤ 5000 := by simp only [cond_false] at hp; omega
        have e2 : a'.tmps[21]?.getD undef = .pointer (some ⟨g, 0, none⟩) := hf.1 ⟨2, .data⟩ (by simp) rfl _ 21 rfl rfl
        have e3 : a'.tmps[22]?.getD undef = mtx a b t := hf.1 ⟨3, .data⟩ (by simp) rfl _ 22 rfl rfl
        refine wp_enterP 48 #[.pointer (some ⟨g, 0, none⟩), mtx a b t] (fun v w' => (∃ x y : Int, v = .agg #[.int .i64 x, .int .i64 y] ∧ W64 x ∧ W64 y) ∧ (∃ p', p' ≤ p + 100 ∧ Rdr w.heap.size w' g p') ∧ Apt g wx w') (by unfold execOp; go_simp)
          ((mono_rect g p (by omega) a b t ht wx hr).mono fun e w' h => by obtain ⟨x, y, p', he, hx, hy, _, hp, hr, ha⟩ := h; exact ⟨_, he, ⟨x, y, rfl, hx, hy⟩, ⟨_, by omega, hr⟩, ha⟩) (fun v w' h => ⟨v, rfl, h.1, ?_⟩)
        show GT g q w B a b t true (l 5) (l 6) (l 7) w'
        obtain ⟨p', hp7, hr7⟩ := h.2.1
        rw [h5] at hT ⊢
        exact hT.move h.2.2 (fun _ => ⟨p', hr7, by simp only [cond_true, cond_false] at hp ⊢; omega⟩)
      | 5, ho =>
        obtain rfl := Option.some.inj ho
        obtain ⟨p, hr, hp⟩ := hT.rd hl
        have hc4 : (bif l 4 then 400 else 0) ≤ 400 := by cases l 4 <;> decide
        have hp6 : p ≤ 5000 := by omega
        have e1 : a'.tmps[20]?.getD undef = .pointer (some ⟨g, 0, none⟩) := hf.1 ⟨1, .data⟩ (by simp) rfl _ 20 rfl rfl
        obtain ⟨x, y, e4, hx, hy⟩ : ∃ x y : Int, a'.tmps[23]?.getD undef = .agg #[.int .i64 x, .int .i64 y] ∧ W64 x ∧ W64 y := hf.1 ⟨4, .data⟩ (by simp) rfl _ 23 rfl rfl
        refine wp_enterP 46 #[.pointer (some ⟨g, 0, none⟩), .agg #[.int .i64 x, .int .i64 y]] (fun v w' => (∃ x y : Int, v = .agg #[.int .i64 x, .int .i64 y]) ∧ Apt g wx w') (by unfold execOp; go_simp)
          ((bad_rect g p (by omega) x y hx hy wx hr).mono fun e w' h => by obtain ⟨x2, y2, p', he, _, _, _, _, _, ha⟩ := h; exact ⟨_, he, ⟨x2, y2, rfl⟩, ha⟩) (fun v w' h => ⟨v, rfl, h.1, ?_⟩)
        show GT g q w B a b t (l 4) true (l 6) (l 7) w'
        exact hT.move h.2 (fun h => by cases h)
      | 6, ho =>
        obtain rfl := Option.some.inj ho
        have b2 : a'.tmps[2]?.getD undef = .pointer (some ⟨w.heap.size, 0, none⟩) := hf.2 2 (by kernel_rfl)
        have e0 : a'.tmps[19]?.getD undef = mtx a b t := hf.1 ⟨0, .data⟩ (by simp) rfl _ 19 rfl rfl
        have hrow : wx.heap[w.heap.size]? = some (M 0 0 ⟨#[]⟩) := by have := hT.one; rw [hl] at this; exact this
        refine wp_store_row 27 (.tmp 2) (.tmp 19) rfl w.heap.size #[.int .i64 a, .int .i64 b, .string t] (eget b2) (eget e0) 27 _ hrow minfo3 rfl (by simp [Value.oneCell']) ⟨undef, rfl, trivial, ?_⟩
        show GT g q w B a b t (l 4) (l 5) true (l 7) _
        obtain ⟨x2, y2, u3⟩ := hT.two
        have h4 := hT.lo
        have h5 := hT.hB
        exact ⟨(Go.Proofs.YtgmhddceeomjbaaGreatDoor.Free.setRow_other (by omega) _).trans hT.loc, Go.Proofs.YtgmhddceeomjbaaGreatDoor.Free.setRow_kept hrow _, ⟨x2, y2, (Go.Proofs.YtgmhddceeomjbaaGreatDoor.Free.setRow_other (by omega) _).trans u3⟩, Go.Proofs.YtgmhddceeomjbaaGreatDoor.Free.setRow_below hT.below (Nat.le_refl _) _, hT.lo, hT.hB, fun h => (by obtain ⟨p, hr, hp⟩ := hT.rd h; exact ⟨p, rdr_putRow hr _ _ (by omega) (.inr (Nat.le_refl _)), hp⟩)⟩
      | 7, ho =>
        obtain rfl := Option.some.inj ho
        have b3 : a'.tmps[3]?.getD undef = .pointer (some ⟨w.heap.size + 1, 0, none⟩) := hf.2 3 (by kernel_rfl)
        obtain ⟨x, y, e5⟩ : ∃ x y : Int, a'.tmps[24]?.getD undef = .agg #[.int .i64 x, .int .i64 y] := hf.1 ⟨5, .data⟩ (by simp) rfl _ 24 rfl rfl
        obtain ⟨x2, y2, u3⟩ := hT.two
        refine wp_store_row 34 (.tmp 3) (.tmp 24) rfl (w.heap.size + 1) #[.int .i64 x, .int .i64 y] (eget b3) (eget e5) 34 _ u3 rinfo2 rfl (by simp [Value.oneCell']) ⟨undef, rfl, trivial, ?_⟩
        show GT g q w B a b t (l 4) (l 5) (l 6) true _
        have h4 := hT.lo
        have h5 := hT.hB
        exact ⟨(Go.Proofs.YtgmhddceeomjbaaGreatDoor.Free.setRow_other (by omega) _).trans hT.loc, (Go.Proofs.YtgmhddceeomjbaaGreatDoor.Free.setRow_other (by omega) _).trans hT.one, ⟨x, y, Go.Proofs.YtgmhddceeomjbaaGreatDoor.Free.setRow_kept u3 _⟩, Go.Proofs.YtgmhddceeomjbaaGreatDoor.Free.setRow_below hT.below (by omega) _, hT.lo, hT.hB, fun h => (by obtain ⟨p, hr, hp⟩ := hT.rd h; exact ⟨p, rdr_putRow hr _ _ (by omega) (.inr (by omega)), hp⟩)⟩
      | k + 8, ho => simp at ho
    case enB =>
      intro vs wx hT hall
      have hT2 : GT g q w B a b t true true true true wx := hT
      obtain ⟨x, y, u3⟩ := hT2.two
      obtain ⟨o0, o1, o2, -, -, -⟩ := cells3 hT2.one
      obtain ⟨q0, q1, -, -⟩ := cells2 u3
      have HB := Lib.hid hT2.below
      clear hT hT2 hall u3 HGT
      simp only [fill, Act.put]
      go_simp
      go_wp2_with fail
      exact bodyPost_ret (v := .tuple #[mtx a b t, .agg #[.int .i64 x, .int .i64 y]]) (by simp [results, Tryz.results14, go_sem, o0, o1, o2, q0, q1]) rfl ⟨a, b, t, x, y, rfl, ht, HB.out⟩
end Go.Proofs.YtgmhddceeomjbaaGreatDoor.DrawGr
