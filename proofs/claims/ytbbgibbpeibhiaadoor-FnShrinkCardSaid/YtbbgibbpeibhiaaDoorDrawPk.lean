/-
  The drawing function DrawPickMatrix.
-/
import Derived.Test.YtbbgibbpeibhiaaDoorLists
import Derived.Test.YtbbgibbpeibhiaaDoorFreeG
import Derived.Test.YtbbgibbpeibhiaaDoorFreeP
namespace Go.Proofs.YtbbgibbpeibhiaaDoor.DrawPk
open Go Go.RowKit Go.Proofs.YtbbgibbpeibhiaaDoor.Plain Go.Proofs.YtbbgibbpeibhiaaDoor.Base Go.Proofs.YtbbgibbpeibhiaaDoor.Rd Go.Proofs.YtbbgibbpeibhiaaDoor.Rd2 Go.Proofs.YtbbgibbpeibhiaaDoor.Rd3 Go.Proofs.YtbbgibbpeibhiaaDoor.Rd4 Go.Proofs.YtbbgibbpeibhiaaDoor.Rd5 Go.Proofs.YtbbgibbpeibhiaaDoor.Rd6 Go.Proofs.YtbbgibbpeibhiaaDoor.Rd7 Go.Proofs.YtbbgibbpeibhiaaDoor.KeptR Go.Proofs.YtbbgibbpeibhiaaDoor.Lists Go.Proofs.YtbbgibbpeibhiaaDoor.FreeG Go.Proofs.YtbbgibbpeibhiaaDoor.Ints
open Go.Proofs.YtbbgibbpeibhiaaDoor.FreeP (wp_enterP)
open Go.Proofs.YtbbgibbpeibhiaaDoor.FreeD (FactsV)
open Go.Proofs.YtbbgibbpeibhiaaDoor.Free (fill wp_value wp_enter wp_load_row freeB setRow_kept setRow_below)
set_option linter.unusedVariables false

abbrev M (a b : Int) (t : ByteArray) : Obj := .cells #[.int .i64 a, .int .i64 b, .string t] 24 (0, 0)
/-- a slice of at most nine numbers, in a block that is neither the reader's nor the results' -/
def SL (g b : Nat) (w : World) (v : Value) (l : List Int) : Prop :=
  l.length ≤ 9 ∧ ((v = .slice none 0 0 ∧ l = []) ∨ ∃ q c, v = .slice (some ⟨q, 0, none⟩) l.length c ∧ q ≠ g ∧ q ≠ b ∧ q < w.heap.size ∧ ∀ j (hj : j < l.length), w.cell? ⟨q, j, none⟩ = some (.int .i64 l[j]))
theorem SL.later {g b : Nat} {w w' : World} {v : Value} {l : List Int} (h : SL g b w v l) (ha : Apt g w w') : SL g b w' v l := by
  refine ⟨h.1, ?_⟩
  rcases h.2 with h1 | ⟨q, c, h1, h2, h3, h4, h5⟩
  · exact .inl h1
  · exact .inr ⟨q, c, h1, h2, h3, Nat.lt_of_lt_of_le h4 ha.size, fun j hj => (ha.cell (p := ⟨q, j, none⟩) h4 h2).trans (h5 j hj)⟩
theorem SL.off {g b : Nat} {w w' : World} {v : Value} {l : List Int} (h : SL g b w v l) (ho : Off g b w w') : SL g b w' v l := by
  refine ⟨h.1, ?_⟩
  rcases h.2 with h1 | ⟨q, c, h1, h2, h3, h4, h5⟩
  · exact .inl h1
  · exact .inr ⟨q, c, h1, h2, h3, Nat.lt_of_lt_of_le h4 ho.size, fun j hj => (by simp only [World.cell?, ho.block q h4 h2 h3] : w'.cell? ⟨q, j, none⟩ = w.cell? ⟨q, j, none⟩).trans (h5 j hj)⟩
theorem off_apt {g b : Nat} {w w' : World} (h : Apt g w w') : Off g b w w' := ⟨h.size, fun k hk hg _ => h.block k hk hg⟩
theorem SL.row {g b : Nat} {w : World} {v : Value} {l : List Int} (h : SL g b w v l) (cs : Array Value) : SL g b (w.setRow b cs) v l := by
  refine ⟨h.1, ?_⟩
  rcases h.2 with h1 | ⟨q, c, h1, h2, h3, h4, h5⟩
  · exact .inl h1
  · refine .inr ⟨q, c, h1, h2, h3, by simpa using h4, fun j hj => ?_⟩
    have hk := h5 j hj
    have e := Go.Proofs.YtbbgibbpeibhiaaDoor.Free.setRow_other (w := w) (g := b) (k := q) h3 cs
    simp only [World.cell?, e] at hk ⊢
    exact hk
theorem SL.iv {g b : Nat} {w : World} {v : Value} {l : List Int} (h : SL g b w v l) : IV w w.heap.size v l := by
  have hl := h.1
  refine ⟨by omega, ?_⟩
  rcases h.2 with h1 | ⟨q, c, h1, h2, h3, h4, h5⟩
  · exact .inl h1
  · exact .inr ⟨q, 0, c, h1, h4, fun j hj => by rw [Nat.zero_add]; exact h5 j hj⟩
theorem sl_of {lo g b : Nat} {w wr : World} {p : Nat} {v : Value} {l : List Int} (h : LI lo g w wr p v l) (hl : l.length ≤ 9) (hb : b < w.heap.size) : SL g b wr v l := by
  refine ⟨hl, ?_⟩
  have hg := h.hg
  rcases h.row.2 with ⟨rfl, e⟩ | ⟨q, cap, cur, rfl, h2, h3, h4⟩
  · exact .inl ⟨rfl, List.length_eq_zero_iff.1 e⟩
  · refine .inr ⟨q, cap, rfl, by omega, by omega, (Array.getElem?_eq_some_iff.1 h3).1, fun j hj => ?_⟩
    exact (World.ownsRow.cellAt (cap := cap) h.row j (by omega)).trans (by simp [ivl, hj])

/-- what is known in the midst of the return -/
structure PT (g q : Nat) (w : World) (B : Nat) (a b : Int) (t : ByteArray) (b5 b6 : Bool) (wx : World) : Prop where
  loc : wx.heap[B]? = some (M a b t)
  one : wx.heap[w.heap.size]? = some (if b6 then M a b t else M 0 0 ⟨#[]⟩)
  below : Below w.heap.size w wx
  lo : w.heap.size + 1 ≤ g
  hB : g < B
  rd : b5 = false → Rdr w.heap.size wx g q
/-- what is handed back -/
def Done (w : World) (e : Ending) (w' : World) : Prop := ∃ (a b : Int) (t : ByteArray) (v1 v2 : Value) (l1 l2 : List Int), e = .returned (.tuple #[mtx a b t, v1, v2]) ∧ t.size ≤ 100 ∧ l1.length ≤ 9 ∧ l2.length ≤ 9 ∧ IV w' w'.heap.size v1 l1 ∧ IV w' w'.heap.size v2 l2 ∧ Below w.heap.size w w'

set_option maxHeartbeats 8000000 in
set_option maxRecDepth 100000 in
theorem draw_any (v : Value) (n : Nat) (w : World) (h : ByteArg w v n) :
    Calls Tryd.prog 24 #[v] w (Done w) := by
  have hst := (Below.refl w.heap.size w).alloc (Nat.le_refl _) (.cells #[.int .i64 0, .int .i64 0, .string ⟨#[]⟩] 24)
  have h1 := h.later hst
  have HO := Lib.hid (open_lo v n _ h1 (lo_of h))
  have HST := Lib.hid hst
  clear h h1 hst
  go_enter Tryd.func24, Tryd.ntmps24
  go_wp2_with fail
  refine HO.out.mono ?_
  rintro e w1 ⟨g, rfl, hr, hb, hg⟩
  have hs2 : w.heap.size + 1 ≤ g := by simp at hg; omega
  have r1 : w1.heap[w.heap.size]? = some (M 0 0 ⟨#[]⟩) := (hb.block _ (by simp)).trans (heap_alloc_new w _)
  have HK1 : Hid (Kr g w w1 [(w.heap.size, M 0 0 ⟨#[]⟩)]) := by
    refine ⟨fun p hp => ?_, HST.out.trans (hb.mono (by simp)), by omega⟩
    simp only [List.mem_cons, List.not_mem_nil, or_false] at hp
    subst hp
    exact ⟨by simp only; omega, r1⟩
  have HT := Lib.hid (open_mat g 0 (by omega) w1 hr)
  clear hr hb hg r1 HO HST
  go_wp2_with fail
  refine HT.out.mono ?_
  rintro e w2 ⟨a, b, t, p, rfl, wa, wb, ht, hp1, hp2, hr, ha⟩
  obtain ⟨B, hB⟩ : ∃ x, w2.heap.size = x := ⟨_, rfl⟩
  have hgB : g < B := by have := hr.lt; omega
  have HK2 : Hid (Kr g w (w2.alloc (.cells #[.int .i64 a, .int .i64 b, .string t] 24)) [(B, M a b t), (w.heap.size, M 0 0 ⟨#[]⟩)]) := (HK1.out.later ha).put _ hB (by omega)
  have hr2 := hr.later ((Below.refl w2.heap.size w2).alloc (Nat.le_refl _) (.cells #[.int .i64 a, .int .i64 b, .string t] 24))
  have HLI := Lib.hid (list_any g p (by omega) a wa _ hr2)
  have HW := Lib.hid (And.intro wb ht)
  clear hr hr2 ha wa wb ht HT HK1
  go_wp2_with (fail)
  refine HLI.out.mono ?_
  rintro e w3 ⟨v1, l1, p3, rfl, hl1, hp3, hp4, hli⟩
  have hz : w.heap.size < (w2.alloc (.cells #[.int .i64 a, .int .i64 b, .string t] 24)).heap.size := by simp; omega
  have HS1 := Lib.hid (sl_of hli hl1 hz)
  have HK3 := Lib.hid (HK2.out.later hli.apt)
  have HR3 := Lib.hid hli.rd
  clear hli hz HLI HK2 hB
  have HPT : Hid (PT g p3 w B a b t false false w3.drew) :=
    ⟨HK3.out.drew.at 0 rfl, HK3.out.drew.at 1 rfl, HK3.out.drew.below, hs2, hgB, fun _ => HR3.out.later (drawn_at w3 1)⟩
  have hp5 : p3 ≤ 1000 := by omega
  have HS1 := Lib.hid (HS1.out.later (Apt.of_below (drawn_at w3 1)))
  clear HK3 HR3
  go_wp2_with fail
  refine wp_region_famrel (fun | 0 => fun v _ => v = mtx a b t | 1 => fun v _ => v = v1 | 2 => fun v _ => v = .pointer (some ⟨g, 0, none⟩) | 3 => fun v _ => v = .pointer (some ⟨B, 1, none⟩) | 4 => fun v _ => v = .int .i64 b | 5 => fun v wx => ∃ l2, SL g w.heap.size wx v l2 | 7 => fun v _ => v = v1 | 8 => fun v wx => ∃ l2, SL g w.heap.size wx v l2 | _ => fun _ _ => True)
    (fun l wx => PT g p3 w B a b t (l 5) (l 6) wx ∧ SL g w.heap.size wx v1 l1) (Off g w.heap.size) ?hR (by kernel_rfl) (by kernel_rfl) rfl ⟨HPT.out, HS1.out⟩ ?con ?en
  case hR =>
    intro i v wa wb ho h
    match i, h with
    | 0, h => exact h
    | 1, h => exact h
    | 2, h => exact h
    | 3, h => exact h
    | 4, h => exact h
    | 5, h => obtain ⟨l2, h⟩ := h; exact ⟨l2, h.off ho⟩
    | 6, h => exact h
    | 7, h => exact h
    | 8, h => obtain ⟨l2, h⟩ := h; exact ⟨l2, h.off ho⟩
    | k + 9, h => exact h
  case con =>
    intro i o ho a' wx l hT hl hcl hf
    match i, ho with
    | 0, ho =>
      obtain rfl := Option.some.inj ho
      have b6 : a'.tmps[6]?.getD undef = .pointer (some ⟨B, 0, none⟩) := hf.2 6 (by kernel_rfl)
      exact wp_load_row 24 (.tmp 6) rfl B (eget b6) 24 _ (0, 0) _ hT.1.loc Tryd.underlying24 rfl minfo3 ⟨_, rfl, rfl, hT, Off.refl _ _ _⟩
    | 1, ho =>
      obtain rfl := Option.some.inj ho
      have b7 : a'.tmps[7]?.getD undef = v1 := hf.2 7 (by kernel_rfl)
      exact wp_value (v1) (by unfold execOp; go_simp) ⟨_, rfl, rfl, hT, Off.refl _ _ _⟩
    | 2, ho =>
      obtain rfl := Option.some.inj ho
      have b5 : a'.tmps[5]?.getD undef = .pointer (some ⟨g, 0, none⟩) := hf.2 5 (by kernel_rfl)
      exact wp_value (.pointer (some ⟨g, 0, none⟩)) (by unfold execOp; go_simp) ⟨_, rfl, rfl, hT, Off.refl _ _ _⟩
    | 3, ho =>
      obtain rfl := Option.some.inj ho
      have b6 : a'.tmps[6]?.getD undef = .pointer (some ⟨B, 0, none⟩) := hf.2 6 (by kernel_rfl)
      exact wp_value (.pointer (some ⟨B, 1, none⟩)) (by unfold execOp; go_simp) ⟨_, rfl, rfl, hT, Off.refl _ _ _⟩
    | 4, ho =>
      obtain rfl := Option.some.inj ho
      have e3 : a'.tmps[19]?.getD undef = .pointer (some ⟨B, 1, none⟩) := hf.1 ⟨3, .data⟩ (by simp) rfl _ 19 rfl rfl
      obtain ⟨o0, o1, o2, -, -, -⟩ := cells3 hT.1.loc
      exact wp_value (.int .i64 b) (by unfold execOp; go_simp) ⟨_, rfl, rfl, hT, Off.refl _ _ _⟩
    | 5, ho =>
      obtain rfl := Option.some.inj ho
      have e2 : a'.tmps[18]?.getD undef = .pointer (some ⟨g, 0, none⟩) := hf.1 ⟨2, .data⟩ (by simp) rfl _ 18 rfl rfl
      have e4 : a'.tmps[20]?.getD undef = .int .i64 b := hf.1 ⟨4, .data⟩ (by simp) rfl _ 20 rfl rfl
      have hr := hT.1.rd hl
      have hz : w.heap.size < wx.heap.size := (Array.getElem?_eq_some_iff.1 hT.1.one).1
      refine wp_enterP 50 #[.pointer (some ⟨g, 0, none⟩), .int .i64 b] (fun v w' => (∃ l2, SL g w.heap.size w' v l2) ∧ Apt g wx w') (by unfold execOp; go_simp)
        ((list_any g p3 (by omega) b HW.out.1 wx hr).mono fun e w' h => by obtain ⟨v, l2, p', he, hl2, _, _, hli⟩ := h; exact ⟨_, he, ⟨l2, sl_of hli hl2 hz⟩, hli.apt⟩) (fun v w' h => ⟨v, rfl, h.1, ⟨?_, hT.2.later h.2⟩, off_apt h.2⟩)
      have h4 := hT.1.lo
      have h5 := hT.1.hB
      exact ⟨(h.2.block _ (Array.getElem?_eq_some_iff.1 hT.1.loc).1 (by omega)).trans hT.1.loc, (h.2.block _ hz (by omega)).trans hT.1.one, h.2.below hT.1.below (by omega), hT.1.lo, hT.1.hB, fun h => (by cases h)⟩
    | 6, ho =>
      obtain rfl := Option.some.inj ho
      have b2 : a'.tmps[2]?.getD undef = .pointer (some ⟨w.heap.size, 0, none⟩) := hf.2 2 (by kernel_rfl)
      have e0 : a'.tmps[16]?.getD undef = mtx a b t := hf.1 ⟨0, .data⟩ (by simp) rfl _ 16 rfl rfl
      have hrow : wx.heap[w.heap.size]? = some (M 0 0 ⟨#[]⟩) := by have := hT.1.one; rw [hl] at this; exact this
      refine wp_store_row 24 (.tmp 2) (.tmp 16) rfl w.heap.size #[.int .i64 a, .int .i64 b, .string t] (eget b2) (eget e0) 24 _ hrow minfo3 rfl (by simp [Value.oneCell']) ⟨undef, rfl, trivial, ⟨?_, hT.2.row _⟩, Off.row _ _ _ _⟩
      have h4 := hT.1.lo
      have h5 := hT.1.hB
      exact ⟨(Go.Proofs.YtbbgibbpeibhiaaDoor.Free.setRow_other (by omega) _).trans hT.1.loc, Go.Proofs.YtbbgibbpeibhiaaDoor.Free.setRow_kept hrow _, Go.Proofs.YtbbgibbpeibhiaaDoor.Free.setRow_below hT.1.below (Nat.le_refl _) _, hT.1.lo, hT.1.hB, fun h => rdr_putRow (hT.1.rd h) _ _ (by omega) (.inr (Nat.le_refl _))⟩
    | 7, ho =>
      obtain rfl := Option.some.inj ho
      have e1 : a'.tmps[17]?.getD undef = v1 := hf.1 ⟨1, .data⟩ (by simp) rfl _ 17 rfl rfl
      exact wp_value v1 (by unfold execOp; go_simp) ⟨_, rfl, rfl, hT, Off.refl _ _ _⟩
    | 8, ho =>
      obtain rfl := Option.some.inj ho
      obtain ⟨l2, e5⟩ : ∃ l2, SL g w.heap.size wx (a'.tmps[21]?.getD undef) l2 := hf.1 ⟨5, .data⟩ (by simp) rfl _ 21 rfl rfl
      exact wp_value (a'.tmps[21]?.getD undef) (by unfold execOp; go_simp) ⟨_, rfl, ⟨l2, e5⟩, hT, Off.refl _ _ _⟩
    | q + 9, ho => simp at ho
  case en =>
    intro vs wx hT hall
    have h7 : vs 7 = v1 := hall 7 _ rfl
    obtain ⟨l2, h8⟩ : ∃ l2, SL g w.heap.size wx (vs 8) l2 := hall 8 _ rfl
    obtain ⟨v2, hv2⟩ : ∃ x, vs 8 = x := ⟨_, rfl⟩
    rw [hv2] at h8
    have hT2 : PT g p3 w B a b t true true wx := hT.1
    have HI1 := Lib.hid hT.2.iv
    have HI2 := Lib.hid h8.iv
    have hl2 := h8.1
    obtain ⟨o0, o1, o2, -, -, -⟩ := cells3 hT2.one
    have HB := Lib.hid hT2.below
    clear hT hT2 hall h8 HPT HS1
    simp only [fill, Act.put, h7, hv2]
    go_simp
    go_wp2_with fail
    exact bodyPost_ret (v := .tuple #[mtx a b t, v1, v2]) (by simp [results, Tryd.results24, go_sem, o0, o1, o2]) rfl ⟨a, b, t, v1, v2, l1, l2, rfl, HW.out.2, hl1, hl2, HI1.out, HI2.out, HB.out⟩
end Go.Proofs.YtbbgibbpeibhiaaDoor.DrawPk
