/-
  Texts of one seat, joined: Rd6, Rd7, Pat.
-/
import Derived.Test.YtemmagkkigdhjaaGreatDoorJn1
import Derived.Test.YtemmagkkigdhjaaGreatDoorJn2
import Derived.Test.YtemmagkkigdhjaaGreatDoorJn3
import Derived.Test.YtemmagkkigdhjaaGreatDoorJn4
import Derived.Laws.BitsAllLaws
/-
  The drawing function l1Draw.
-/
namespace Go.Proofs.YtemmagkkigdhjaaGreatDoor.Rd6
open Go.RowKit Go.Proofs.YtemmagkkigdhjaaGreatDoor.Plain Go.Proofs.YtemmagkkigdhjaaGreatDoor.Base Go.Proofs.YtemmagkkigdhjaaGreatDoor.Rd Go.Proofs.YtemmagkkigdhjaaGreatDoor.Rd2 Go.Proofs.YtemmagkkigdhjaaGreatDoor.Rd3 Go.Proofs.YtemmagkkigdhjaaGreatDoor.Rd4 Go.Proofs.YtemmagkkigdhjaaGreatDoor.Rd5 Go.Proofs.YtemmagkkigdhjaaGreatDoor.FreeD
open Go.Proofs.YtemmagkkigdhjaaGreatDoor.Valid (okB okB_true validB validB_in)
open Go.Proofs.YtemmagkkigdhjaaGreatDoor.Free (fill wp_value wp_enter wp_load_row freeB setRow_kept)
set_option linter.unusedVariables false

theorem wp_skip {P : Program} {o : Oper} {a : Act} {w w' : World} {K : Act → World → Prop} {Q : Exit → Act → World → Prop} (h : (execOp a.eval o).run P w = .ok .skip w') (hK : K (a.put o.dst undef) w') : o.wp P a w K Q := by
  unfold Oper.wp
  rw [h]
  exact hK
theorem wp_enterE {P : Program} {o : Oper} {a : Act} {w : World} {K : Act → World → Prop} {Q : Exit → Act → World → Prop} (f : FuncId) (args : Array Value) (R : Value → World → Prop) (h : (execOp a.eval o).run P w = .ok (.enter f args) w)
    (hc : Calls P f args w fun e w' => ∃ v, e = .returned v ∧ R v w') (hK : ∀ v w', R v w' → K (a.put o.dst v) w') : o.wp P a w K Q := by
  unfold Oper.wp
  rw [h]
  refine Calls.mono hc ?_
  rintro e w' ⟨v, rfl, hR⟩
  exact hK v w' hR
theorem minfo3 : (Tryz.prog.info? 24).map (·.size) = some 3 := by kernel_rfl
theorem eget {a : Act} {d : Tmp} {v : Value} (h : a.tmps[d]?.getD undef = v) : a.eval (.tmp d) = v := by
  simpa [Act.eval] using h
theorem apt_setRow {g : Nat} {w wr : World} (h : Apt g w wr) (b : Nat) (hb : w.heap.size ≤ b) (cs : Array Value) : Apt g w (wr.setRow b cs) :=
  ⟨h.os, h.tape, h.output, by simpa [World.setRow] using h.size, fun k hk hg => (Go.Proofs.YtemmagkkigdhjaaGreatDoor.Free.setRow_other (by omega) cs).trans (h.block k hk hg)⟩
theorem rdr_putRow {lo : Nat} {g p : Nat} {w : World} (h : Rdr lo w g p) (b : Nat) (cs : Array Value) (hbg : b ≠ g) (hlo : g < b ∨ lo ≤ b) : Rdr lo (w.setRow b cs) g p := by
  obtain ⟨v, n, h, hl⟩ := h
  obtain ⟨h0, a, c, hv, h1⟩ := h.bytes
  refine ⟨v, n, ⟨(Go.Proofs.YtemmagkkigdhjaaGreatDoor.Free.setRow_other (by omega) cs).trans h.cells, h0, a, c, hv, ?_⟩, hl⟩
  rcases h1 with h1 | ⟨b', off, h1, h2, h3, h4⟩
  · exact .inl h1
  · by_cases hn : n = 0
    · exact .inl hn
    have hbb : b' ≠ b := by
      rcases hlo with h5 | h5
      · omega
      · rcases hl with h6 | h6
        · exact absurd h6 hn
        · have := h6 b' off n c (by rw [hv, h1])
          omega
    refine .inr ⟨b', off, h1, h2, by simpa [World.setRow] using h3, fun j hj => ?_⟩
    obtain ⟨y, hy0, hy1, hy⟩ := h4 j hj
    have e := Go.Proofs.YtemmagkkigdhjaaGreatDoor.Free.setRow_other (w := w) (g := b) (k := b') hbb cs
    refine ⟨y, hy0, hy1, ?_⟩
    simp only [World.cell?, e] at hy ⊢
    exact hy
theorem rdr_setRow {lo : Nat} {g p : Nat} {w : World} (h : Rdr lo w g p) (b : Nat) (cs : Array Value) (hb : g < b) : Rdr lo (w.setRow b cs) g p := rdr_putRow h b cs (by omega) (.inl hb)

/-- the text of a valid matrix -/
def Sz (r c : Int) (s : ByteArray) : Prop := (1 ≤ s.size ∧ s.size ≤ 64) ∧ validB r c s = true
theorem ok_digs (l : List UInt8) (h : ∀ b ∈ l, b = 48 ∨ b = 49) : okB (str l) = true := by
  unfold okB str
  rw [List.all_eq_true]
  intro b hb
  rcases h b (by simpa using hb) with rfl | rfl <;> rfl
theorem ok_next (t : ByteArray) (b : Bool) (h : okB t = true) : okB (t ++ ⟨#[dig b]⟩) = true := by
  unfold okB at h ⊢
  rw [ByteArray.data_append, Array.toList_append, List.all_append, h, Bool.true_and]
  cases b <;> rfl
theorem sz_of (R C : Nat) (h1 : 1 ≤ R) (h2 : R ≤ 8) (h3 : 1 ≤ C) (h4 : C ≤ 8) (s : ByteArray) (hs : s.size = R * C) (ho : okB s = true) : Sz R C s := by
  refine ⟨by rw [hs]; exact ⟨Nat.mul_pos (by omega) (by omega), Nat.mul_le_mul h2 h4⟩, ?_⟩
  rw [validB_in (by omega) (by omega) (by omega) (by omega), ho, Bool.true_and, hs]
  simp
theorem sz_rows (E : Nat → Nat → Bool) (R C : Nat) (h1 : 1 ≤ R) (h2 : R ≤ 8) (h3 : 1 ≤ C) (h4 : C ≤ 8) : Sz R C (str (rowsB E R C)) := by
  refine sz_of R C h1 h2 h3 h4 _ (by rw [str_size, rowsB_length]) (ok_digs _ fun b hb => ?_)
  unfold rowsB rowB at hb
  obtain ⟨x, _, hx⟩ := List.mem_flatMap.1 hb
  obtain ⟨y, _, rfl⟩ := List.mem_map.1 hx
  cases E x y
  · exact .inl rfl
  · exact .inr rfl
theorem make_any (k : Int) (hk : 0 ≤ k ∧ k ≤ 4) (r c : Int) (hr : 1 ≤ r ∧ r ≤ 8) (hc : 1 ≤ c ∧ c ≤ 8) (w : World) :
    Calls Tryz.prog 72 #[.int .i64 k, .int .i64 r, .int .i64 c] w fun e w' => ∃ s, e = .returned (mtx r c s) ∧ Sz r c s ∧ Below w.heap.size w w' := by
  obtain ⟨R, rfl⟩ := Int.eq_ofNat_of_zero_le (show 0 ≤ r by omega)
  obtain ⟨C, rfl⟩ := Int.eq_ofNat_of_zero_le (show 0 ≤ c by omega)
  have hR : R ≤ 8 := by omega
  have hC : C ≤ 8 := by omega
  have size : ∀ E, Sz R C (str (rowsB E R C)) := fun E => sz_rows E R C (by omega) hR (by omega) hC
  have hk5 : k = 0 ∨ k = 1 ∨ k = 2 ∨ k = 3 ∨ k = 4 := by omega
  rcases hk5 with rfl | rfl | rfl | rfl | rfl
  · exact (Make.make0 R C hR hC w).mono fun e w' h => ⟨_, h.1, size _, h.2⟩
  · exact (Make.make1 R C hR hC w).mono fun e w' h => ⟨_, h.1, size _, h.2⟩
  · exact (Make.make2 R C hR hC w).mono fun e w' h => ⟨_, h.1, size _, h.2⟩
  · exact (Make.make3 R C hR hC w).mono fun e w' h => ⟨_, h.1, size _, h.2⟩
  · exact (Make.make4 R C hR hC w).mono fun e w' h => ⟨_, h.1, size _, h.2⟩

/-- what is known in the midst of l1Draw -/
structure DI (g : Nat) (w wr : World) (b : Nat) (r c : Int) (t : ByteArray) : Prop where
  res : wr.heap[w.heap.size]? = some (.cells #[.int .i64 0, .int .i64 0, .string ⟨#[]⟩] 24 (0, 0))
  loc : wr.heap[b]? = some (.cells #[.int .i64 r, .int .i64 c, .string t] 24 (0, 0))
  apt : Apt g w wr
  lo : w.heap.size < b
  hg : g < w.heap.size
theorem DI.lt {g : Nat} {w wr : World} {b : Nat} {r c : Int} {t : ByteArray} (h : DI g w wr b r c t) : b < wr.heap.size := (Array.getElem?_eq_some_iff.1 h.loc).1
theorem DI.later {g : Nat} {w wr w2 : World} {b : Nat} {r c : Int} {t : ByteArray} (h : DI g w wr b r c t) (ha : Apt g wr w2) : DI g w w2 b r c t :=
  ⟨(ha.block _ (Array.getElem?_eq_some_iff.1 h.res).1 (by have := h.hg; omega)).trans h.res, (ha.block _ h.lt (by have := h.hg; have := h.lo; omega)).trans h.loc, h.apt.trans ha, h.lo, h.hg⟩
theorem DI.set_ {g : Nat} {w wr : World} {b : Nat} {r c : Int} {t : ByteArray} (h : DI g w wr b r c t) (u : ByteArray) : DI g w (wr.setCell ⟨b, 2, none⟩ (.string u)) b r c u :=
  ⟨(heap_setCell_other _ _ _ _ (by simp; have := h.lo; omega)).trans h.res, (heap_setCell_same _ _ _ _ _ _ h.loc).trans rfl, apt_set h.apt _ _ (by have := h.lo; omega) _, h.lo, h.hg⟩

set_option maxHeartbeats 4000000 in
set_option maxRecDepth 100000 in
theorem draw_matV {lo : Nat} (g p : Nat) (hp : p < 1040000) (most : Int) (hm1 : 1 ≤ most) (hm8 : most ≤ 8) (w : World) (h : Rdr lo w g p) :
    Calls Tryz.prog 45 #[.pointer (some ⟨g, 0, none⟩), .int .i64 most] w fun e w' => ∃ (a b : Int) (t : ByteArray) (p' : Nat), e = .returned (mtx a b t) ∧ (1 ≤ a ∧ a ≤ 8) ∧ (1 ≤ b ∧ b ≤ 8) ∧ Sz a b t ∧ p ≤ p' ∧ p' ≤ p + 100 ∧ Rdr lo w' g p' ∧ Apt g w w' := by
  have hg := h.lt
  have h0 := h.later ((Below.refl w.heap.size w).alloc (Nat.le_refl _) (.cells #[.int .i64 0, .int .i64 0, .string ⟨#[]⟩] 24))
  have HP := Lib.hid (fun m => pick_r g p (by omega) m _ h0)
  clear h h0
  go_enter Tryz.func45, Tryz.ntmps45
  go_wp2_with fail
  refine (HP.out _).mono ?_
  rintro e w1 ⟨x, rfl, ⟨hx0, -⟩, hxm, hr1, ha1⟩
  have HQ := Lib.hid (fun m => pick_r g (p + 1) (by omega) m _ hr1)
  clear hr1 HP
  go_wp2_with fail
  refine (HQ.out _).mono ?_
  rintro e w2 ⟨y, rfl, ⟨hy0, -⟩, hym, hr2, ha2⟩
  obtain ⟨r, hr⟩ : ∃ r, 1 + x = r := ⟨_, rfl⟩
  obtain ⟨c, hc⟩ : ∃ c, 1 + y = c := ⟨_, rfl⟩
  have hrr : 1 ≤ r ∧ r ≤ 8 := by omega
  have hcc : 1 ≤ c ∧ c ≤ 8 := by omega
  clear hx0 hy0 hxm hym HQ
  have hr3 := hr2.later ((Below.refl w2.heap.size w2).alloc (Nat.le_refl _) (.cells #[.int .i64 r, .int .i64 c, .string ⟨#[]⟩] 24))
  have hres : w2.heap[w.heap.size]? = some (.cells #[.int .i64 0, .int .i64 0, .string ⟨#[]⟩] 24 (0, 0)) := by
    rw [(ha1.trans ha2).block _ (by simp) (by omega)]
    exact heap_alloc_new w _
  have hlt2 : w.heap.size < w2.heap.size := (Array.getElem?_eq_some_iff.1 hres).1
  have hi3 : DI g w (w2.alloc (.cells #[.int .i64 r, .int .i64 c, .string ⟨#[]⟩] 24)) w2.heap.size r c ⟨#[]⟩ :=
    ⟨(Below.heap_alloc _ _ _ hlt2).trans hres, heap_alloc_new w2 _, (Apt.of_below ((Below.refl w.heap.size w).alloc (Nat.le_refl _) _)).trans ((ha1.trans ha2).trans (Apt.of_below ((Below.refl w2.heap.size w2).alloc (Nat.le_refl _) _))), hlt2, hg⟩
  have HP3 := Lib.hid (fun m => pick_r g (p + 2) (by omega) m _ hr3)
  have HI3 := Lib.hid hi3
  clear hr2 hr3 hi3 hres ha1 ha2
  go_wp2_with fail
  clear hr hc
  refine (HP3.out _).mono ?_
  rintro e w4 ⟨k, rfl, ⟨hk0, -⟩, hk8, hr3, ha3⟩
  have HI := Lib.hid (HI3.out.later ha3)
  obtain ⟨m0, m1, m2, m3, m4, m5⟩ := cells3 HI.out.loc
  clear HP3 HI3 ha3
  by_cases hA : k = 0
  · subst hA
    have HRD := Lib.hid hr3
    clear hr3 m0 m1 m2 m3 m4 m5
    go_wp2_with fail
    refine wp_region_dr g (p + 3) (fun | 0 => fun v => v = .pointer (some ⟨g, 0, none⟩) | 1 => fun v => ∃ x : Int, v = .int .i64 x ∧ 0 ≤ x ∧ (x < 2 ∨ x = 0) | 2 => fun v => v = .pointer (some ⟨w2.heap.size, 0, none⟩) | 3 => fun v => v = .int .i64 r | 4 => fun v => v = .pointer (some ⟨w2.heap.size, 0, none⟩) | 5 => fun v => v = .int .i64 r | 6 => fun v => ∃ s, v = mtx r r s ∧ Sz r r s | _ => fun _ => True) 1 7 (fun wa wb => ∃ s : ByteArray, Sz r r s ∧ wb = wa.setRow w.heap.size #[.int .i64 r, .int .i64 r, .string s]) _ (by kernel_rfl) (by kernel_rfl) rfl rfl rfl rfl (by omega) (by kernel_rfl) HRD.out ?con ?dr ?st ?en
    case con =>
      intro i o ho hi hid a wx hax hf
      obtain ⟨m0, m1, m2, m3, m4, m5⟩ := cells3 (HI.out.later hax).loc
      match i, ho with
      | 0, ho =>
        obtain rfl := Option.some.inj ho
        have b0 : a.tmps[0]?.getD undef = .pointer (some ⟨g, 0, none⟩) := hf.2 0 (by kernel_rfl)
        exact wp_value (.pointer (some ⟨g, 0, none⟩)) (by unfold execOp; go_simp) ⟨_, rfl, rfl, Below.refl _ _⟩
      | 1, ho => exact absurd rfl hid
      | 2, ho =>
        obtain rfl := Option.some.inj ho
        have b5 : a.tmps[5]?.getD undef = .pointer (some ⟨w2.heap.size, 0, none⟩) := hf.2 5 (by kernel_rfl)
        exact wp_value (.pointer (some ⟨w2.heap.size, 0, none⟩)) (by unfold execOp; go_simp) ⟨_, rfl, rfl, Below.refl _ _⟩
      | 3, ho =>
        obtain rfl := Option.some.inj ho
        have e2 : a.tmps[23]?.getD undef = .pointer (some ⟨w2.heap.size, 0, none⟩) := hf.1 ⟨2, .data⟩ (by simp) rfl _ 23 rfl rfl
        exact wp_value (.int .i64 r) (by unfold execOp; go_simp) ⟨_, rfl, rfl, Below.refl _ _⟩
      | 4, ho =>
        obtain rfl := Option.some.inj ho
        have b5 : a.tmps[5]?.getD undef = .pointer (some ⟨w2.heap.size, 0, none⟩) := hf.2 5 (by kernel_rfl)
        exact wp_value (.pointer (some ⟨w2.heap.size, 0, none⟩)) (by unfold execOp; go_simp) ⟨_, rfl, rfl, Below.refl _ _⟩
      | 5, ho =>
        obtain rfl := Option.some.inj ho
        have e4 : a.tmps[25]?.getD undef = .pointer (some ⟨w2.heap.size, 0, none⟩) := hf.1 ⟨4, .data⟩ (by simp) rfl _ 25 rfl rfl
        exact wp_value (.int .i64 r) (by unfold execOp; go_simp) ⟨_, rfl, rfl, Below.refl _ _⟩
      | 6, ho =>
        obtain rfl := Option.some.inj ho
        obtain ⟨x, e1, hx0, hx1⟩ : ∃ x : Int, a.tmps[22]?.getD undef = .int .i64 x ∧ 0 ≤ x ∧ (x < 2 ∨ x = 0) := hf.1 ⟨1, .data⟩ (by simp) rfl _ 22 rfl rfl
        have e3 : a.tmps[24]?.getD undef = .int .i64 r := hf.1 ⟨3, .data⟩ (by simp) rfl _ 24 rfl rfl
        have e5 : a.tmps[26]?.getD undef = .int .i64 r := hf.1 ⟨5, .data⟩ (by simp) rfl _ 26 rfl rfl
        exact wp_enterE 72 #[.int .i64 x, .int .i64 r, .int .i64 r] (fun v w' => ∃ s', v = mtx r r s' ∧ Sz r r s' ∧ Below wx.heap.size wx w') (by unfold execOp; go_simp)
          ((make_any x ⟨by omega, by omega⟩ r r hrr hrr wx).mono fun e w' h => by obtain ⟨s, he, hs, hb⟩ := h; exact ⟨_, he, (⟨s, rfl, hs, hb⟩ : ∃ s', mtx r r s = mtx r r s' ∧ Sz r r s' ∧ Below wx.heap.size wx w')⟩)
          (fun v w' h => by obtain ⟨s, rfl, hs, hb⟩ := h; exact ⟨_, rfl, ⟨s, rfl, hs⟩, hb⟩)
      | q + 7, ho => exact absurd hi (by omega)
    case dr =>
      intro o ho a wx hax hrx hf
      obtain rfl := Option.some.inj ho
      have e0 : a.tmps[21]?.getD undef = .pointer (some ⟨g, 0, none⟩) := hf.1 ⟨0, .data⟩ (by simp) rfl _ 21 rfl rfl
      exact wp_enterE 71 #[.pointer (some ⟨g, 0, none⟩), .int .i64 2] (fun v w' => ∃ x' : Int, v = .int .i64 x' ∧ (0 ≤ x' ∧ x' < 4611686018427387904) ∧ (x' < 2 ∨ x' = 0) ∧ Rdr lo w' g (p + 3 + 1) ∧ Apt g wx w') (by unfold execOp; go_simp)
        ((pick_r g (p + 3) (by omega) 2 wx hrx).mono fun e w' h => by obtain ⟨x, he, hx0, hx1, hr, ha⟩ := h; exact ⟨_, he, (⟨x, rfl, hx0, hx1, hr, ha⟩ : ∃ x' : Int, Value.int .i64 x = .int .i64 x' ∧ (0 ≤ x' ∧ x' < 4611686018427387904) ∧ (x' < 2 ∨ x' = 0) ∧ Rdr lo w' g (p + 3 + 1) ∧ Apt g wx w')⟩)
        (fun v w' h => by obtain ⟨x, rfl, hx0, hx1, hr, ha⟩ := h; exact ⟨_, rfl, ⟨x, rfl, hx0.1, hx1⟩, ha, hr⟩)
    case st =>
      intro a wx hax hrx hf
      have b4 : a.tmps[4]?.getD undef = .pointer (some ⟨w.heap.size, 0, none⟩) := hf.2 4 (by kernel_rfl)
      obtain ⟨s, e6, hs⟩ : ∃ s, a.tmps[27]?.getD undef = mtx r r s ∧ Sz r r s := hf.1 ⟨6, .data⟩ (by simp) rfl _ 27 rfl rfl
      exact wp_store_row 24 (.tmp 4) (.tmp 27) rfl w.heap.size #[.int .i64 r, .int .i64 r, .string s] (eget b4) (eget e6) 24 _ (HI.out.later hax).res minfo3 rfl (by simp [Value.oneCell']) ⟨rfl, s, hs, rfl⟩
    case en =>
      rintro vs wa wb haw hrw ⟨s, hs, rfl⟩ -
      have hdi := HI.out.later haw
      have hrow := setRow_kept hdi.res #[.int .i64 r, .int .i64 r, .string s]
      have HA := Lib.hid (apt_setRow hdi.apt w.heap.size (Nat.le_refl _) #[.int .i64 r, .int .i64 r, .string s])
      have HR := Lib.hid (rdr_setRow hrw w.heap.size #[.int .i64 r, .int .i64 r, .string s] (by have := hdi.hg; omega))
      clear hdi haw hrw HI HRD
      generalize wa.setRow w.heap.size #[.int .i64 r, .int .i64 r, .string s] = wz at *
      obtain ⟨o0, o1, o2, f0, f1, f2⟩ := cells3 hrow
      clear hrow
      simp only [fill, Act.put]
      go_simp
      go_wp2_with fail
      exact bodyPost_ret (v := mtx r r s) (by simp [results, Tryz.results45, go_sem, o0, o1, o2]) rfl ⟨r, r, s, p + 4, rfl, hrr, hrr, hs, by omega, by omega, HR.out, HA.out⟩
  by_cases hB : k = 1 ∧ 4 ≤ most
  · obtain ⟨rfl, hm4⟩ := hB
    have HQ := Lib.hid (fun m => pick_r g (p + 3) (by omega) m _ hr3)
    clear hr3
    go_wp2_with fail
    refine (HQ.out _).mono ?_
    rintro e w5 ⟨x5, rfl, ⟨hx50, hx5m⟩, hx5l, hr5, ha5⟩
    have HI5 := Lib.hid (HI.out.later ha5)
    have HR5 := Lib.hid hr5
    clear hr5 ha5 HQ
    go_wp2_with fail
    refine (make_any _ ⟨by omega, by omega⟩ _ _ ⟨by omega, by omega⟩ ⟨by omega, by omega⟩ _).mono ?_
    rintro e w6 ⟨s6, rfl, hs6, hb6⟩
    have HI6 := Lib.hid (HI5.out.later (Apt.of_below hb6))
    have HR := Lib.hid (HR5.out.later hb6)
    obtain ⟨o0, o1, o2, f0, f1, f2⟩ := cells3 HI6.out.res
    have HA := Lib.hid HI6.out.apt
    clear hb6
    go_wp2_with fail
    refine bodyPost_ret (v := mtx (4) (4) (s6)) (by simp [results, Tryz.results45, go_sem, o0, o1, o2]) rfl ⟨4, 4, s6, p + 4, rfl, ⟨by omega, by omega⟩, ⟨by omega, by omega⟩, hs6, by omega, by omega, ?_, ?_⟩
    · exact rdr_set (rdr_set (rdr_set (HR.out) _ _ _ (by omega)) _ _ _ (by omega)) _ _ _ (by omega)
    · exact apt_set (apt_set (apt_set (HA.out) _ _ (by omega) _) _ _ (by omega) _) _ _ (by omega) _
  by_cases hC : k = 2
  · subst hC
    have HRD := Lib.hid hr3
    clear hr3 m0 m1 m2 m3 m4 m5
    go_wp2_with fail
    refine wp_region_dr g (p + 3) (fun | 0 => fun v => v = .pointer (some ⟨g, 0, none⟩) | 1 => fun v => ∃ x : Int, v = .int .i64 x ∧ 0 ≤ x ∧ (x < 5 ∨ x = 0) | 2 => fun v => v = .pointer (some ⟨w2.heap.size, 0, none⟩) | 3 => fun v => v = .int .i64 r | 4 => fun v => v = .pointer (some ⟨w2.heap.size, 1, none⟩) | 5 => fun v => v = .int .i64 c | 6 => fun v => ∃ s, v = mtx r c s ∧ Sz r c s | _ => fun _ => True) 1 7 (fun wa wb => ∃ s : ByteArray, Sz r c s ∧ wb = wa.setRow w.heap.size #[.int .i64 r, .int .i64 c, .string s]) _ (by kernel_rfl) (by kernel_rfl) rfl rfl rfl rfl (by omega) (by kernel_rfl) HRD.out ?con ?dr ?st ?en
    case con =>
      intro i o ho hi hid a wx hax hf
      obtain ⟨m0, m1, m2, m3, m4, m5⟩ := cells3 (HI.out.later hax).loc
      match i, ho with
      | 0, ho =>
        obtain rfl := Option.some.inj ho
        have b0 : a.tmps[0]?.getD undef = .pointer (some ⟨g, 0, none⟩) := hf.2 0 (by kernel_rfl)
        exact wp_value (.pointer (some ⟨g, 0, none⟩)) (by unfold execOp; go_simp) ⟨_, rfl, rfl, Below.refl _ _⟩
      | 1, ho => exact absurd rfl hid
      | 2, ho =>
        obtain rfl := Option.some.inj ho
        have b5 : a.tmps[5]?.getD undef = .pointer (some ⟨w2.heap.size, 0, none⟩) := hf.2 5 (by kernel_rfl)
        exact wp_value (.pointer (some ⟨w2.heap.size, 0, none⟩)) (by unfold execOp; go_simp) ⟨_, rfl, rfl, Below.refl _ _⟩
      | 3, ho =>
        obtain rfl := Option.some.inj ho
        have e2 : a.tmps[40]?.getD undef = .pointer (some ⟨w2.heap.size, 0, none⟩) := hf.1 ⟨2, .data⟩ (by simp) rfl _ 40 rfl rfl
        exact wp_value (.int .i64 r) (by unfold execOp; go_simp) ⟨_, rfl, rfl, Below.refl _ _⟩
      | 4, ho =>
        obtain rfl := Option.some.inj ho
        have b5 : a.tmps[5]?.getD undef = .pointer (some ⟨w2.heap.size, 0, none⟩) := hf.2 5 (by kernel_rfl)
        exact wp_value (.pointer (some ⟨w2.heap.size, 1, none⟩)) (by unfold execOp; go_simp) ⟨_, rfl, rfl, Below.refl _ _⟩
      | 5, ho =>
        obtain rfl := Option.some.inj ho
        have e4 : a.tmps[42]?.getD undef = .pointer (some ⟨w2.heap.size, 1, none⟩) := hf.1 ⟨4, .data⟩ (by simp) rfl _ 42 rfl rfl
        exact wp_value (.int .i64 c) (by unfold execOp; go_simp) ⟨_, rfl, rfl, Below.refl _ _⟩
      | 6, ho =>
        obtain rfl := Option.some.inj ho
        obtain ⟨x, e1, hx0, hx1⟩ : ∃ x : Int, a.tmps[39]?.getD undef = .int .i64 x ∧ 0 ≤ x ∧ (x < 5 ∨ x = 0) := hf.1 ⟨1, .data⟩ (by simp) rfl _ 39 rfl rfl
        have e3 : a.tmps[41]?.getD undef = .int .i64 r := hf.1 ⟨3, .data⟩ (by simp) rfl _ 41 rfl rfl
        have e5 : a.tmps[43]?.getD undef = .int .i64 c := hf.1 ⟨5, .data⟩ (by simp) rfl _ 43 rfl rfl
        exact wp_enterE 72 #[.int .i64 x, .int .i64 r, .int .i64 c] (fun v w' => ∃ s', v = mtx r c s' ∧ Sz r c s' ∧ Below wx.heap.size wx w') (by unfold execOp; go_simp)
          ((make_any x ⟨by omega, by omega⟩ r c hrr hcc wx).mono fun e w' h => by obtain ⟨s, he, hs, hb⟩ := h; exact ⟨_, he, (⟨s, rfl, hs, hb⟩ : ∃ s', mtx r c s = mtx r c s' ∧ Sz r c s' ∧ Below wx.heap.size wx w')⟩)
          (fun v w' h => by obtain ⟨s, rfl, hs, hb⟩ := h; exact ⟨_, rfl, ⟨s, rfl, hs⟩, hb⟩)
      | q + 7, ho => exact absurd hi (by omega)
    case dr =>
      intro o ho a wx hax hrx hf
      obtain rfl := Option.some.inj ho
      have e0 : a.tmps[38]?.getD undef = .pointer (some ⟨g, 0, none⟩) := hf.1 ⟨0, .data⟩ (by simp) rfl _ 38 rfl rfl
      exact wp_enterE 71 #[.pointer (some ⟨g, 0, none⟩), .int .i64 5] (fun v w' => ∃ x' : Int, v = .int .i64 x' ∧ (0 ≤ x' ∧ x' < 4611686018427387904) ∧ (x' < 5 ∨ x' = 0) ∧ Rdr lo w' g (p + 3 + 1) ∧ Apt g wx w') (by unfold execOp; go_simp)
        ((pick_r g (p + 3) (by omega) 5 wx hrx).mono fun e w' h => by obtain ⟨x, he, hx0, hx1, hr, ha⟩ := h; exact ⟨_, he, (⟨x, rfl, hx0, hx1, hr, ha⟩ : ∃ x' : Int, Value.int .i64 x = .int .i64 x' ∧ (0 ≤ x' ∧ x' < 4611686018427387904) ∧ (x' < 5 ∨ x' = 0) ∧ Rdr lo w' g (p + 3 + 1) ∧ Apt g wx w')⟩)
        (fun v w' h => by obtain ⟨x, rfl, hx0, hx1, hr, ha⟩ := h; exact ⟨_, rfl, ⟨x, rfl, hx0.1, hx1⟩, ha, hr⟩)
    case st =>
      intro a wx hax hrx hf
      have b4 : a.tmps[4]?.getD undef = .pointer (some ⟨w.heap.size, 0, none⟩) := hf.2 4 (by kernel_rfl)
      obtain ⟨s, e6, hs⟩ : ∃ s, a.tmps[44]?.getD undef = mtx r c s ∧ Sz r c s := hf.1 ⟨6, .data⟩ (by simp) rfl _ 44 rfl rfl
      exact wp_store_row 24 (.tmp 4) (.tmp 44) rfl w.heap.size #[.int .i64 r, .int .i64 c, .string s] (eget b4) (eget e6) 24 _ (HI.out.later hax).res minfo3 rfl (by simp [Value.oneCell']) ⟨rfl, s, hs, rfl⟩
    case en =>
      rintro vs wa wb haw hrw ⟨s, hs, rfl⟩ -
      have hdi := HI.out.later haw
      have hrow := setRow_kept hdi.res #[.int .i64 r, .int .i64 c, .string s]
      have HA := Lib.hid (apt_setRow hdi.apt w.heap.size (Nat.le_refl _) #[.int .i64 r, .int .i64 c, .string s])
      have HR := Lib.hid (rdr_setRow hrw w.heap.size #[.int .i64 r, .int .i64 c, .string s] (by have := hdi.hg; omega))
      clear hdi haw hrw HI HRD
      generalize wa.setRow w.heap.size #[.int .i64 r, .int .i64 c, .string s] = wz at *
      obtain ⟨o0, o1, o2, f0, f1, f2⟩ := cells3 hrow
      clear hrow
      simp only [fill, Act.put]
      go_simp
      go_wp2_with fail
      exact bodyPost_ret (v := mtx r c s) (by simp [results, Tryz.results45, go_sem, o0, o1, o2]) rfl ⟨r, c, s, p + 4, rfl, hrr, hcc, hs, by omega, by omega, HR.out, HA.out⟩
  obtain ⟨R, rfl⟩ := Int.eq_ofNat_of_zero_le (show 0 ≤ r by omega)
  obtain ⟨C, rfl⟩ := Int.eq_ofNat_of_zero_le (show 0 ≤ c by omega)
  have hmul := wrap_prod R C (by omega) (by omega)
  have HN1 := Lib.hid (show 1 ≤ R * C from Nat.mul_pos (by omega) (by omega))
  have HN64 := Lib.hid (show R * C ≤ 64 from Nat.mul_le_mul (show R ≤ 8 by omega) (show C ≤ 8 by omega))
  obtain ⟨N, hN⟩ : ∃ N, R * C = N := ⟨_, rfl⟩
  rw [hN] at hmul HN1 HN64
  have HNE := Lib.hid hN.symm
  clear hN
  have hN1 := HN1.out
  have hN64 := HN64.out
  have hD : (k = 1 ∧ most < 4) ∨ (k ≠ 1 ∧ k ≠ 2) := by omega
  have HQ := Lib.hid (fun m => pick_r g (p + 3) (by omega) m _ hr3)
  clear hr3 hB
  rcases hD with ⟨hk1, hm4⟩ | ⟨hk1, hk2⟩
  all_goals
    go_wp2_with fail
    refine (HQ.out _).mono ?_
    rintro e w5 ⟨x5, rfl, ⟨hx50, hx5m⟩, hx5l, hr5, ha5⟩
    have HI5 := Lib.hid (HI.out.later ha5)
    have HR5 := Lib.hid hr5
    have hx55 : x5 < 3 := by omega
    clear hr5 ha5 HQ HI m0 m1 m2 m3 m4 m5 hx5m hx5l
    go_wp2_with fail
    go_loopw [7] (fun i wr => ∃ (q p' : Nat) (t : ByteArray), q ≤ N ∧ i = .int .i64 (q : Int) ∧ Hid (t.size = q ∧ p + 4 ≤ p' ∧ p' ≤ p + 4 + q ∧ DI g w wr w2.heap.size R C t ∧ Rdr lo wr g p' ∧ okB t = true)) (fun i _ => N - (intOf i).toNat)
    case atStart => exact ⟨0, p + 4, _, by omega, rfl, ⟨rfl, by omega, by omega, HI5.out, HR5.out, rfl⟩⟩
    case round =>
      clear HI5 HR5
      obtain ⟨q, p', t, hq, rfl, HH⟩ := hrel
      have hpq : p' < 1048576 := by have := HH.out.2.2.1; omega
      have hts : t.size ≤ 64 := by have := HH.out.1; omega
      obtain ⟨m0, m1, m2, m3, m4, m5⟩ := cells3 HH.out.2.2.2.1.loc
      by_cases hlt : q < N
      · go_wp2_with fail
        clear m0 m1 m2 m3 m4 m5
        refine wp_region_dr g p' (fun | 0 => fun v => v = .pointer (some ⟨w2.heap.size, 2, none⟩) | 1 => fun v => v = .string t | 2 => fun v => v = .pointer (some ⟨g, 0, none⟩) | 3 => fun v => v = .int .i64 (1 + x5) | 4 => fun v => v = .int .i64 (1 + x5 + 1) | 5 => fun v => ∃ x : Int, v = .int .i64 x | 6 => fun v => ∃ b : Bool, v = .bool b | 7 => fun v => ∃ b : Bool, v = .string ⟨#[dig b]⟩ | 8 => fun v => ∃ b : Bool, v = .string (t ++ ⟨#[dig b]⟩) | 9 => fun v => v = .pointer (some ⟨w2.heap.size, 2, none⟩) | _ => fun _ => True) 5 10 (fun wa wb => ∃ b : Bool, wb = wa.setCell ⟨w2.heap.size, 2, none⟩ (.string (t ++ ⟨#[dig b]⟩))) _ (by kernel_rfl) (by kernel_rfl) rfl rfl rfl rfl (by omega) (by kernel_rfl) HH.out.2.2.2.2.1 ?con ?dr ?st ?en
        case con =>
          intro i o ho hi hid a wx hax hf
          obtain ⟨m0, m1, m2, m3, m4, m5⟩ := cells3 (HH.out.2.2.2.1.later hax).loc
          match i, ho with
          | 0, ho =>
            obtain rfl := Option.some.inj ho
            have b5 : a.tmps[5]?.getD undef = .pointer (some ⟨w2.heap.size, 0, none⟩) := hf.2 5 (by kernel_rfl)
            exact wp_value (.pointer (some ⟨w2.heap.size, 2, none⟩)) (by unfold execOp; go_simp) ⟨_, rfl, rfl, Below.refl _ _⟩
          | 1, ho =>
            obtain rfl := Option.some.inj ho
            have e0 : a.tmps[57]?.getD undef = .pointer (some ⟨w2.heap.size, 2, none⟩) := hf.1 ⟨0, .data⟩ (by simp) rfl _ 57 rfl rfl
            exact wp_value (.string t) (by unfold execOp; go_simp) ⟨_, rfl, rfl, Below.refl _ _⟩
          | 2, ho =>
            obtain rfl := Option.some.inj ho
            have b0 : a.tmps[0]?.getD undef = .pointer (some ⟨g, 0, none⟩) := hf.2 0 (by kernel_rfl)
            exact wp_value (.pointer (some ⟨g, 0, none⟩)) (by unfold execOp; go_simp) ⟨_, rfl, rfl, Below.refl _ _⟩
          | 3, ho =>
            obtain rfl := Option.some.inj ho
            have b6 : a.tmps[6]?.getD undef = .int .i64 (1 + x5) := hf.2 6 (by kernel_rfl)
            exact wp_value (.int .i64 (1 + x5)) (by unfold execOp; go_simp) ⟨_, rfl, rfl, Below.refl _ _⟩
          | 4, ho =>
            obtain rfl := Option.some.inj ho
            have e3 : a.tmps[60]?.getD undef = .int .i64 (1 + x5) := hf.1 ⟨3, .data⟩ (by simp) rfl _ 60 rfl rfl
            have hwr : IntKind.i64.wrap (1 + x5 + 1) = 1 + x5 + 1 := IntWalk.i64_in _ ⟨by omega, by omega⟩
            exact wp_value (.int .i64 (1 + x5 + 1)) (by unfold execOp; go_simp) ⟨_, rfl, rfl, Below.refl _ _⟩
          | 5, ho => exact absurd rfl hid
          | 6, ho =>
            obtain rfl := Option.some.inj ho
            obtain ⟨x, e5⟩ : ∃ x : Int, a.tmps[62]?.getD undef = .int .i64 x := hf.1 ⟨5, .data⟩ (by simp) rfl _ 62 rfl rfl
            exact wp_value (.bool (x == 0)) (by unfold execOp; go_simp) ⟨_, rfl, ⟨_, rfl⟩, Below.refl _ _⟩
          | 7, ho =>
            obtain rfl := Option.some.inj ho
            obtain ⟨b, e6⟩ : ∃ b : Bool, a.tmps[63]?.getD undef = .bool b := hf.1 ⟨6, .data⟩ (by simp) rfl _ 63 rfl rfl
            exact wp_enter 73 #[.bool b] (.string ⟨#[dig b]⟩) (fun w' => wx = w') (by unfold execOp; go_simp) (l1Bit_any b wx) (fun w' h => by subst h; exact ⟨_, rfl, ⟨b, rfl⟩, Below.refl _ _⟩)
          | 8, ho =>
            obtain rfl := Option.some.inj ho
            have e1 : a.tmps[58]?.getD undef = .string t := hf.1 ⟨1, .data⟩ (by simp) rfl _ 58 rfl rfl
            obtain ⟨b, e7⟩ : ∃ b : Bool, a.tmps[64]?.getD undef = .string ⟨#[dig b]⟩ := hf.1 ⟨7, .data⟩ (by simp) rfl _ 64 rfl rfl
            have hcat := run_string_add_sum (P := Tryz.prog) (w := wx) t ⟨#[dig b]⟩ (by show t.size + 1 ≤ 9223372036854775807; omega)
            exact wp_value (.string (t ++ ⟨#[dig b]⟩)) (by unfold execOp; go_simp) ⟨_, rfl, ⟨b, rfl⟩, Below.refl _ _⟩
          | 9, ho =>
            obtain rfl := Option.some.inj ho
            have b5 : a.tmps[5]?.getD undef = .pointer (some ⟨w2.heap.size, 0, none⟩) := hf.2 5 (by kernel_rfl)
            exact wp_value (.pointer (some ⟨w2.heap.size, 2, none⟩)) (by unfold execOp; go_simp) ⟨_, rfl, rfl, Below.refl _ _⟩
          | q + 10, ho => exact absurd hi (by omega)
        case dr =>
          intro o ho a wx hax hrx hf
          obtain rfl := Option.some.inj ho
          have e2 : a.tmps[59]?.getD undef = .pointer (some ⟨g, 0, none⟩) := hf.1 ⟨2, .data⟩ (by simp) rfl _ 59 rfl rfl
          have e4 : a.tmps[61]?.getD undef = .int .i64 (1 + x5 + 1) := hf.1 ⟨4, .data⟩ (by simp) rfl _ 61 rfl rfl
          exact wp_enterE 71 #[.pointer (some ⟨g, 0, none⟩), .int .i64 (1 + x5 + 1)] (fun v w' => ∃ x' : Int, v = .int .i64 x' ∧ Rdr lo w' g (p' + 1) ∧ Apt g wx w') (by unfold execOp; go_simp)
            ((pick_r g p' hpq (1 + x5 + 1) wx hrx).mono fun e w' h => by obtain ⟨x, he, hx0, hx1, hr, ha⟩ := h; exact ⟨_, he, (⟨x, rfl, hr, ha⟩ : ∃ x' : Int, Value.int .i64 x = .int .i64 x' ∧ Rdr lo w' g (p' + 1) ∧ Apt g wx w')⟩)
            (fun v w' h => by obtain ⟨x, rfl, hr, ha⟩ := h; exact ⟨_, rfl, ⟨x, rfl⟩, ha, hr⟩)
        case st =>
          intro a wx hax hrx hf
          obtain ⟨m0, m1, m2, m3, m4, m5⟩ := cells3 (HH.out.2.2.2.1.later hax).loc
          obtain ⟨b, e8⟩ : ∃ b : Bool, a.tmps[65]?.getD undef = .string (t ++ ⟨#[dig b]⟩) := hf.1 ⟨8, .data⟩ (by simp) rfl _ 65 rfl rfl
          have e9 : a.tmps[66]?.getD undef = .pointer (some ⟨w2.heap.size, 2, none⟩) := hf.1 ⟨9, .data⟩ (by simp) rfl _ 66 rfl rfl
          exact wp_skip (w' := wx.setCell ⟨w2.heap.size, 2, none⟩ (.string (t ++ ⟨#[dig b]⟩))) (by unfold execOp; go_simp) ⟨rfl, b, rfl⟩
        case en =>
          rintro vs wa wb haw hrw ⟨b, rfl⟩ -
          have HI6 := Lib.hid ((HH.out.2.2.2.1.later haw).set_ (t ++ ⟨#[dig b]⟩))
          have HR6 := Lib.hid (rdr_set hrw w2.heap.size 2 (.string (t ++ ⟨#[dig b]⟩)) (by have := hlt2; omega))
          have HTS : Hid ((t ++ ⟨#[dig b]⟩).size = q + 1) := by unfold Hid; rw [ByteArray.size_append, HH.out.1]; rfl
          have HOK : Hid (okB (t ++ ⟨#[dig b]⟩) = true) := ok_next t b HH.out.2.2.2.2.2
          have HPP := Lib.hid (And.intro HH.out.2.1 HH.out.2.2.1)
          clear haw hrw HH
          generalize t ++ ⟨#[dig b]⟩ = t' at *
          simp only [fill, Act.put]
          go_simp
          go_wp2_with fail
          go_roundw
          case rel => exact ⟨q + 1, p' + 1, t', by omega, by go_num, ⟨HTS.out, by have := HPP.out; omega, by have := HPP.out; omega, HI6.out, HR6.out, HOK.out⟩⟩
          case measure => simp [intOf]; omega
      · obtain rfl : q = N := by omega
        obtain ⟨o0, o1, o2, f0, f1, f2⟩ := cells3 HH.out.2.2.2.1.res
        go_wp2_with fail
        obtain ⟨h1, h2, h3, hdi, hrd, hok⟩ := HH.out
        refine bodyPost_ret (v := mtx (R) (C) (t)) (by simp [results, Tryz.results45, go_sem, o0, o1, o2]) rfl ⟨R, C, t, p', rfl, hrr, hcc, sz_of R C (by omega) (by omega) (by omega) (by omega) t (h1.trans HNE.out) hok, Nat.le_trans (Nat.le_add_right p 4) h2, ?_, ?_, ?_⟩
        · have := HN64.out
          clear hrr hcc HN1
          omega
        · exact rdr_set (rdr_set (rdr_set hrd _ _ _ (by have := hdi.hg; omega)) _ _ _ (by have := hdi.hg; omega)) _ _ _ (by have := hdi.hg; omega)
        · exact apt_set (apt_set (apt_set hdi.apt _ _ (Nat.le_refl _) _) _ _ (Nat.le_refl _) _) _ _ (Nat.le_refl _) _

theorem draw_mat {lo : Nat} (g p : Nat) (hp : p < 1040000) (most : Int) (hm1 : 1 ≤ most) (hm8 : most ≤ 8) (w : World) (h : Rdr lo w g p) :
    Calls Tryz.prog 45 #[.pointer (some ⟨g, 0, none⟩), .int .i64 most] w fun e w' => ∃ (a b : Int) (t : ByteArray) (p' : Nat), e = .returned (mtx a b t) ∧ (1 ≤ a ∧ a ≤ 8) ∧ (1 ≤ b ∧ b ≤ 8) ∧ (1 ≤ t.size ∧ t.size ≤ 64) ∧ p ≤ p' ∧ p' ≤ p + 100 ∧ Rdr lo w' g p' ∧ Apt g w w' :=
  (draw_matV g p hp most hm1 hm8 w h).mono fun e w' h => by
    obtain ⟨a, b, t, p', h1, h2, h3, h4, h5⟩ := h
    exact ⟨a, b, t, p', h1, h2, h3, h4.1, h5⟩
end Go.Proofs.YtemmagkkigdhjaaGreatDoor.Rd6

/-
  The drawing function l1Open.
-/
namespace Go.Proofs.YtemmagkkigdhjaaGreatDoor.Rd7
open Go.RowKit Go.Proofs.YtemmagkkigdhjaaGreatDoor.Plain Go.Proofs.YtemmagkkigdhjaaGreatDoor.Base Go.Proofs.YtemmagkkigdhjaaGreatDoor.Rd Go.Proofs.YtemmagkkigdhjaaGreatDoor.Rd2 Go.Proofs.YtemmagkkigdhjaaGreatDoor.Rd3 Go.Proofs.YtemmagkkigdhjaaGreatDoor.Rd4 Go.Proofs.YtemmagkkigdhjaaGreatDoor.Rd5 Go.Proofs.YtemmagkkigdhjaaGreatDoor.Rd6
set_option linter.unusedVariables false

/-- one new block while a reader in an older one is read -/
structure One (g : Nat) (w wr : World) (T : TypeId) (cs : Array Value) : Prop where
  one : wr.heap[w.heap.size]? = some (.cells cs T (0, 0))
  apt : Apt g w wr
theorem One.start (g : Nat) (w : World) (T : TypeId) (cs : Array Value) : One g w (w.alloc (.cells cs T)) T cs :=
  ⟨heap_alloc_new w _, Apt.of_below ((Below.refl w.heap.size w).alloc (Nat.le_refl _) _)⟩
theorem One.later {g : Nat} {w wr w2 : World} {T : TypeId} {cs : Array Value} (h : One g w wr T cs) (hg : g < w.heap.size) (ha : Apt g wr w2) : One g w w2 T cs :=
  ⟨(ha.block _ (Array.getElem?_eq_some_iff.1 h.one).1 (by omega)).trans h.one, h.apt.trans ha⟩

set_option maxHeartbeats 2000000 in
theorem open_mat {lo : Nat} (g p : Nat) (hp : p < 1000000) (w : World) (h : Rdr lo w g p) :
    Calls Tryz.prog 17 #[.pointer (some ⟨g, 0, none⟩)] w fun e w' => ∃ (a b : Int) (t : ByteArray) (p' : Nat), e = .returned (mtx a b t) ∧ W64 a ∧ W64 b ∧ t.size ≤ 100 ∧ p ≤ p' ∧ p' ≤ p + 200 ∧ Rdr lo w' g p' ∧ Apt g w w' := by
  have hg := h.lt
  have hT := One.start g w 24 #[.int .i64 0, .int .i64 0, .string ⟨#[]⟩]
  have h0 := h.later ((Below.refl w.heap.size w).alloc (Nat.le_refl _) (.cells #[.int .i64 0, .int .i64 0, .string ⟨#[]⟩] 24))
  have hr2 := h0.later ((Below.refl _ _).alloc (Nat.le_refl _) (.cells ([4, 5, 3, 8].map fun x : Int => Value.int .i64 x).toArray 3))
  have HN := Lib.hid (num_any g p (by omega) [4, 5, 3, 8] (by decide) (by decide) (w.heap.size + 1) 4 (by omega) _ hr2 (by simp) (fun j hj => by have := cells_lit (w.alloc (.cells #[.int .i64 0, .int .i64 0, .string ⟨#[]⟩] 24)) 3 [4, 5, 3, 8] j hj; rwa [World.size_alloc] at this))
  have HT := Lib.hid hT
  clear h h0 hr2 hT
  go_enter Tryz.func17, Tryz.ntmps17
  go_wp2_with fail
  refine HN.out.mono ?_
  rintro e w1 ⟨m, rfl, hm, hr3, ha3⟩
  have HT1 := Lib.hid (HT.out.later hg ((Apt.of_below ((Below.refl _ _).alloc (Nat.le_refl _) _)).trans ha3))
  have hm1 : 1 ≤ m ∧ m ≤ 8 := by
    simp at hm
    omega
  have HD := Lib.hid (draw_mat g (p + 1) (by omega) m hm1.1 hm1.2 w1 hr3)
  clear hm hr3 ha3 HN HT
  go_wp2_with fail
  refine HD.out.mono ?_
  rintro e w2 ⟨a, b, t, p2, rfl, ha, hb, ht, hp1, hp2, hr, hap⟩
  have HT2 := Lib.hid (HT1.out.later hg hap)
  have HB := Lib.hid (bad_mat g p2 (by omega) a b t ha.1 ha.2 ⟨by omega, by omega⟩ ht.1 ht.2 w2 hr)
  have HP := Lib.hid (And.intro hp1 hp2)
  clear ha hb ht hp1 hp2 hr hap HD HT1
  go_wp2_with fail
  refine HB.out.mono ?_
  rintro e w3 ⟨a2, b2, t2, p3, rfl, wa, wb, ht, hp3, hp4, hr, hap⟩
  have hT3 := HT2.out.later hg hap
  obtain ⟨o0, o1, o2, f0, f1, f2⟩ := cells3 hT3.one
  have HR := Lib.hid hr
  have HA := Lib.hid hT3.apt
  have HP2 := Lib.hid (And.intro hp3 hp4)
  clear hr hap hT3 HT2 HB hp3 hp4
  go_wp2_with fail
  refine bodyPost_ret (v := mtx a2 b2 t2) (by simp [results, Tryz.results17, go_sem, o0, o1, o2]) rfl ⟨a2, b2, t2, p3, rfl, wa, wb, ht, by have := HP.out; have := HP2.out; omega, by have := HP.out; have := HP2.out; omega, ?_, ?_⟩
  · exact rdr_set (rdr_set (rdr_set (HR.out) _ _ _ (by omega)) _ _ _ (by omega)) _ _ _ (by omega)
  · exact apt_set (apt_set (apt_set (HA.out) _ _ (by omega) _) _ _ (by omega) _) _ _ (by omega) _
end Go.Proofs.YtemmagkkigdhjaaGreatDoor.Rd7

/-
  Plain facts on sets of entries as numbers: eight bytes, one for each row. Nothing of the program.
-/
namespace Go.Proofs.YtemmagkkigdhjaaGreatDoor.Pat
open Go.RowKit Go.Proofs.YtemmagkkigdhjaaGreatDoor.Plain

/-- the number whose bytes are f 0, f 1 .. -/
def pat (f : Nat → Nat) : Nat → Nat
  | 0 => 0
  | k + 1 => pat (fun x => f (x + 1)) k * 256 + f 0

theorem pat_lt (k : Nat) : ∀ (f : Nat → Nat), (∀ x, f x < 256) → pat f k < 256 ^ k := by
  induction k with
  | zero => intro f _; simp [pat]
  | succ k ih =>
    intro f h
    have h1 := ih (fun x => f (x + 1)) (fun x => h _)
    have h0 := h 0
    rw [pat, Nat.pow_succ]
    omega
theorem pat_congr (k : Nat) : ∀ (f g : Nat → Nat), (∀ x, x < k → f x = g x) → pat f k = pat g k := by
  induction k with
  | zero => intro f g _; rfl
  | succ k ih =>
    intro f g h
    rw [pat, pat, ih (fun x => f (x + 1)) (fun x => g (x + 1)) (fun x hx => h _ (by omega)), h 0 (by omega)]

theorem pat_mono (k : Nat) : ∀ (f g : Nat → Nat), (∀ x, f x ≤ g x) → pat f k ≤ pat g k := by
  induction k with
  | zero => intro f g _; exact Nat.le_refl _
  | succ k ih =>
    intro f g h
    have h1 := ih (fun x => f (x + 1)) (fun x => g (x + 1)) (fun x => h _)
    have h0 := h 0
    rw [pat, pat]
    omega

theorem split_bit (a b j : Nat) (hb : b < 256) : (a * 256 + b).testBit j = if j < 8 then b.testBit j else a.testBit (j - 8) := by
  rw [show a * 256 = 2 ^ 8 * a by omega]
  exact Nat.testBit_two_pow_mul_add a hb j
theorem split_and (h l H L : Nat) (hl : l < 256) (hL : L < 256) : (h * 256 + l) &&& (H * 256 + L) = (h &&& H) * 256 + (l &&& L) := by
  apply Nat.eq_of_testBit_eq
  intro j
  have hlt : l &&& L < 256 := Nat.and_lt_two_pow (n := 8) l hL
  rw [Nat.testBit_and, split_bit _ _ _ hl, split_bit _ _ _ hL, split_bit _ _ _ hlt]
  split <;> rw [Nat.testBit_and]
theorem split_or (h l H L : Nat) (hl : l < 256) (hL : L < 256) : (h * 256 + l) ||| (H * 256 + L) = (h ||| H) * 256 + (l ||| L) := by
  apply Nat.eq_of_testBit_eq
  intro j
  have hlt : l ||| L < 256 := Nat.or_lt_two_pow (n := 8) hl hL
  rw [Nat.testBit_or, split_bit _ _ _ hl, split_bit _ _ _ hL, split_bit _ _ _ hlt]
  split <;> rw [Nat.testBit_or]
theorem pat_and (k : Nat) : ∀ (f g : Nat → Nat), (∀ x, f x < 256) → (∀ x, g x < 256) → pat f k &&& pat g k = pat (fun x => f x &&& g x) k := by
  induction k with
  | zero => intro f g _ _; simp [pat]
  | succ k ih =>
    intro f g hf hg
    rw [pat, pat, pat, split_and _ _ _ _ (hf 0) (hg 0), ih _ _ (fun x => hf _) (fun x => hg _)]
theorem pat_or (k : Nat) : ∀ (f g : Nat → Nat), (∀ x, f x < 256) → (∀ x, g x < 256) → pat f k ||| pat g k = pat (fun x => f x ||| g x) k := by
  induction k with
  | zero => intro f g _ _; simp [pat]
  | succ k ih =>
    intro f g hf hg
    rw [pat, pat, pat, split_or _ _ _ _ (hf 0) (hg 0), ih _ _ (fun x => hf _) (fun x => hg _)]
theorem pat_not (k : Nat) : ∀ (f : Nat → Nat), (∀ x, f x < 256) → 256 ^ k - 1 - pat f k = pat (fun x => 255 - f x) k := by
  induction k with
  | zero => intro f _; simp [pat]
  | succ k ih =>
    intro f hf
    have h := ih (fun x => f (x + 1)) (fun x => hf _)
    have hlt := pat_lt k (fun x => f (x + 1)) (fun x => hf _)
    have h0 := hf 0
    rw [pat, pat, ← h, Nat.pow_succ]
    omega
theorem pat_zero (k : Nat) : ∀ (f : Nat → Nat), pat f k = 0 ↔ ∀ x, x < k → f x = 0 := by
  induction k with
  | zero => intro f; simp [pat]
  | succ k ih =>
    intro f
    rw [pat]
    constructor
    · intro h x hx
      cases x with
      | zero => omega
      | succ x => exact (ih (fun x => f (x + 1))).1 (by omega) x (by omega)
    · intro h
      rw [(ih (fun x => f (x + 1))).2 (fun x hx => h _ (by omega)), h 0 (by omega)]
/-- one byte at its place -/
theorem pat_one (x c : Nat) (hx : x < 8) : pat (fun j => if j = x then c else 0) 8 = c * 2 ^ (x * 8) := by
  have h : x = 0 ∨ x = 1 ∨ x = 2 ∨ x = 3 ∨ x = 4 ∨ x = 5 ∨ x = 6 ∨ x = 7 := by omega
  rcases h with rfl | rfl | rfl | rfl | rfl | rfl | rfl | rfl <;> simp [pat] <;> omega
theorem pat_none (k : Nat) : pat (fun _ => 0) k = 0 := (pat_zero k _).2 fun _ _ => rfl
theorem pat64 (f : Nat → Nat) (h : ∀ x, f x < 256) : pat f 8 < 18446744073709551616 := pat_lt 8 f h

/-! ### the number of ones -/
theorem s1_low : ∀ b l : Nat, b < 2 → l < 256 → (b * 128 + l / 2) &&& 85 = (l / 2 &&& 85) := by
  have h : ∀ b : Fin 2, ∀ l : Fin 256, (b.val * 128 + l.val / 2) &&& 85 = (l.val / 2 &&& 85) := by decide +kernel
  intro b l hb hl
  exact h ⟨b, hb⟩ ⟨l, hl⟩
theorem s2_low : ∀ b l : Nat, b < 4 → l < 256 → (b * 64 + l / 4) &&& 51 = (l / 4 &&& 51) := by
  have h : ∀ b : Fin 4, ∀ l : Fin 256, (b.val * 64 + l.val / 4) &&& 51 = (l.val / 4 &&& 51) := by decide +kernel
  intro b l hb hl
  exact h ⟨b, hb⟩ ⟨l, hl⟩
def b1 (l : Nat) : Nat := (l / 2 &&& 85) + (l &&& 85)
def b2 (l : Nat) : Nat := (l / 4 &&& 51) + (l &&& 51)
def b3 (l : Nat) : Nat := (l / 16 + l) % 16
theorem s1 (k : Nat) : ∀ (f : Nat → Nat), (∀ x, f x < 256) → (pat f k / 2 &&& pat (fun _ => 85) k) + (pat f k &&& pat (fun _ => 85) k) = pat (fun x => b1 (f x)) k := by
  induction k with
  | zero => intro f _; simp [pat]
  | succ k ih =>
    intro f hf
    have h := ih (fun x => f (x + 1)) (fun x => hf _)
    have h0 := hf 0
    rw [pat, pat, pat]
    generalize pat (fun x => f (x + 1)) k = p at *
    generalize pat (fun _ => 85) k = m at *
    have e : (p * 256 + f 0) / 2 = (p / 2) * 256 + (p % 2 * 128 + f 0 / 2) := by omega
    rw [e, split_and _ _ _ _ (by omega) (by omega), split_and _ _ _ _ h0 (by omega), s1_low _ _ (by omega) h0, ← h]
    unfold b1
    omega
theorem s2 (k : Nat) : ∀ (f : Nat → Nat), (∀ x, f x < 256) → (pat f k / 4 &&& pat (fun _ => 51) k) + (pat f k &&& pat (fun _ => 51) k) = pat (fun x => b2 (f x)) k := by
  induction k with
  | zero => intro f _; simp [pat]
  | succ k ih =>
    intro f hf
    have h := ih (fun x => f (x + 1)) (fun x => hf _)
    have h0 := hf 0
    rw [pat, pat, pat]
    generalize pat (fun x => f (x + 1)) k = p at *
    generalize pat (fun _ => 51) k = m at *
    have e : (p * 256 + f 0) / 4 = (p / 4) * 256 + (p % 4 * 64 + f 0 / 4) := by omega
    rw [e, split_and _ _ _ _ (by omega) (by omega), split_and _ _ _ _ h0 (by omega), s2_low _ _ (by omega) h0, ← h]
    unfold b2
    omega
theorem low4 (k : Nat) (f : Nat → Nat) (h : ∀ x, f x % 16 ≤ 4) : pat f k % 16 ≤ 4 := by
  cases k with
  | zero => simp [pat]
  | succ k =>
    have := h 0
    rw [pat]
    omega
theorem s3 (k : Nat) : ∀ (f : Nat → Nat), (∀ x, f x % 16 ≤ 4 ∧ f x / 16 ≤ 4) → (pat f k / 16 + pat f k) &&& pat (fun _ => 15) k = pat (fun x => b3 (f x)) k := by
  induction k with
  | zero => intro f _; simp [pat]
  | succ k ih =>
    intro f hf
    have h := ih (fun x => f (x + 1)) (fun x => hf _)
    have h4 := low4 k (fun x => f (x + 1)) (fun x => (hf _).1)
    have h0 := hf 0
    rw [pat, pat, pat]
    generalize pat (fun x => f (x + 1)) k = p at *
    generalize pat (fun _ => 15) k = m at *
    have e : (p * 256 + f 0) / 16 + (p * 256 + f 0) = (p / 16 + p) * 256 + (p % 16 * 16 + (f 0 / 16 + f 0)) := by omega
    rw [e, split_and _ _ _ _ (by omega) (by omega), ← h]
    have e2 : (p % 16 * 16 + (f 0 / 16 + f 0)) &&& 15 = b3 (f 0) := by
      rw [nat_mask4]
      unfold b3
      omega
    rw [e2]
/-- the number of ones of a byte -/
def pop8 (l : Nat) : Nat := l % 2 + l / 2 % 2 + l / 4 % 2 + l / 8 % 2 + l / 16 % 2 + l / 32 % 2 + l / 64 % 2 + l / 128 % 2
theorem pop8_le (l : Nat) : pop8 l ≤ 8 := by unfold pop8; omega
theorem b_facts : ∀ l : Nat, l < 256 → b1 l < 256 ∧ b2 (b1 l) % 16 ≤ 4 ∧ b2 (b1 l) / 16 ≤ 4 ∧ b3 (b2 (b1 l)) = pop8 l := by
  have h : ∀ l : Fin 256, b1 l.val < 256 ∧ b2 (b1 l.val) % 16 ≤ 4 ∧ b2 (b1 l.val) / 16 ≤ 4 ∧ b3 (b2 (b1 l.val)) = pop8 l.val := by decide +kernel
  intro l hl
  exact h ⟨l, hl⟩
/-- what the first three steps make of a number -/
def m1 (x : Nat) : Nat := (x / 2 &&& 6148914691236517205) + (x &&& 6148914691236517205)
def m2 (x : Nat) : Nat := (x / 4 &&& 3689348814741910323) + (x &&& 3689348814741910323)
def m3 (x : Nat) : Nat := (x / 16 + x) &&& 1085102592571150095
theorem m1_pat (f : Nat → Nat) (hf : ∀ x, f x < 256) : m1 (pat f 8) = pat (fun x => b1 (f x)) 8 := s1 8 f hf
theorem m2_pat (f : Nat → Nat) (hf : ∀ x, f x < 256) : m2 (pat f 8) = pat (fun x => b2 (f x)) 8 := s2 8 f hf
theorem m3_pat (f : Nat → Nat) (hf : ∀ x, f x % 16 ≤ 4 ∧ f x / 16 ≤ 4) : m3 (pat f 8) = pat (fun x => b3 (f x)) 8 := s3 8 f hf
theorem m123_pat (f : Nat → Nat) (hf : ∀ x, f x < 256) : m3 (m2 (m1 (pat f 8))) = pat (fun x => pop8 (f x)) 8 := by
  rw [m1_pat f hf, m2_pat _ (fun x => (b_facts _ (hf x)).1), m3_pat _ (fun x => ⟨(b_facts _ (hf x)).2.1, (b_facts _ (hf x)).2.2.1⟩)]
  exact pat_congr 8 _ _ fun x _ => (b_facts _ (hf x)).2.2.2
/-- the sum of so many numbers -/
def sumN (f : Nat → Nat) : Nat → Nat
  | 0 => 0
  | k + 1 => sumN f k + f k
theorem sumN_le (f : Nat → Nat) (b : Nat) (h : ∀ x, f x ≤ b) : ∀ k, sumN f k ≤ k * b
  | 0 => by simp [sumN]
  | k + 1 => by
    have := sumN_le f b h k
    have := h k
    rw [sumN, Nat.succ_mul]
    omega
theorem sumN_congr (f g : Nat → Nat) : ∀ k, (∀ x, x < k → f x = g x) → sumN f k = sumN g k
  | 0, _ => rfl
  | k + 1, h => by rw [sumN, sumN, sumN_congr f g k (fun x hx => h x (by omega)), h k (by omega)]
/-- the last three steps -/
theorem fold_pat (f : Nat → Nat) (h : ∀ x, f x ≤ 8) :
    ∃ y1 y2 y3 : Nat, y1 = pat f 8 + pat f 8 / 256 ∧ y2 = y1 + y1 / 65536 ∧ y3 = y2 + y2 / 4294967296 ∧ y1 < 18446744073709551616 ∧ y2 < 18446744073709551616 ∧ y3 < 9223372036854775808 ∧ y3 % 128 = sumN f 8 := by
  have h0 := h 0
  have h1 := h 1
  have h2 := h 2
  have h3 := h 3
  have h4 := h 4
  have h5 := h 5
  have h6 := h 6
  have h7 := h 7
  refine ⟨_, _, _, rfl, rfl, rfl, ?_⟩
  simp only [pat, sumN, Nat.zero_add, Nat.zero_mul, Nat.reduceAdd]
  generalize f 0 = a0 at *
  generalize f 1 = a1 at *
  generalize f 2 = a2 at *
  generalize f 3 = a3 at *
  generalize f 4 = a4 at *
  generalize f 5 = a5 at *
  generalize f 6 = a6 at *
  generalize f 7 = a7 at *
  obtain ⟨x, hx⟩ : ∃ x, (((((((a7 * 256 + a6) * 256 + a5) * 256 + a4) * 256 + a3) * 256 + a2) * 256 + a1) * 256 + a0) = x := ⟨_, rfl⟩
  rw [hx]
  have q1 : x / 256 = ((((((a7 * 256 + a6) * 256 + a5) * 256 + a4) * 256 + a3) * 256 + a2) * 256 + a1) := by omega
  rw [q1]
  obtain ⟨y, hy⟩ : ∃ y, x + ((((((a7 * 256 + a6) * 256 + a5) * 256 + a4) * 256 + a3) * 256 + a2) * 256 + a1) = y := ⟨_, rfl⟩
  rw [hy]
  have q2 : y / 65536 = (((((a7 * 256 + (a6 + a7)) * 256 + (a5 + a6)) * 256 + (a4 + a5)) * 256 + (a3 + a4)) * 256 + (a2 + a3)) := by omega
  rw [q2]
  obtain ⟨z, hz⟩ : ∃ z, y + (((((a7 * 256 + (a6 + a7)) * 256 + (a5 + a6)) * 256 + (a4 + a5)) * 256 + (a3 + a4)) * 256 + (a2 + a3)) = z := ⟨_, rfl⟩
  rw [hz]
  have q3 : z / 4294967296 = (((a7 * 256 + (a6 + a7)) * 256 + (a5 + a6 + a7)) * 256 + (a4 + a5 + a6 + a7)) := by omega
  rw [q3]
  clear q1 q2 q3
  refine ⟨?_, ?_, ?_, ?_⟩ <;> omega

/-! ### sets as numbers -/
/-- the set of the numbers less than c for which P holds -/
def setB (P : Nat → Bool) : Nat → Nat
  | 0 => 0
  | c + 1 => setB P c + (if P c then 2 ^ c else 0)
theorem setB_lt (P : Nat → Bool) : ∀ c, setB P c < 2 ^ c
  | 0 => by simp [setB]
  | c + 1 => by
    have := setB_lt P c
    rw [setB, Nat.pow_succ]
    split <;> omega
theorem setB_lt8 (P : Nat → Bool) (c : Nat) (h : c ≤ 8) : setB P c < 256 :=
  Nat.lt_of_lt_of_le (setB_lt P c) (Nat.pow_le_pow_right (by decide) h)
theorem setB_or (P : Nat → Bool) (c : Nat) : setB P c ||| (if P c then 2 ^ c else 0) = setB P (c + 1) := by
  rw [setB]
  have := setB_lt P c
  split
  · rw [Nat.or_comm, Nat.add_comm]
    have h := Nat.two_pow_add_eq_or_of_lt this 1
    rw [Nat.mul_one] at h
    exact h.symm
  · simp
theorem setB_bit (P : Nat → Bool) (i : Nat) : ∀ c, (setB P c).testBit i = (decide (i < c) && P i)
  | 0 => by simp [setB]
  | c + 1 => by
    rw [← setB_or, Nat.testBit_or, setB_bit P i c]
    by_cases h : i = c
    · subst h
      cases hp : P i <;> simp
    · have h2 : (if P c then 2 ^ c else 0).testBit i = false := by
        split
        · rw [Nat.testBit_two_pow]; simp; omega
        · simp
      rw [h2, Bool.or_false]
      congr 1
      rw [decide_eq_decide]
      omega
theorem pop8_bits (n : Nat) (h : n < 256) : pop8 n = sumN (fun i => (n.testBit i).toNat) 8 := by
  have hh : ∀ l : Fin 256, pop8 l.val = sumN (fun i => (l.val.testBit i).toNat) 8 := by decide +kernel
  exact hh ⟨n, h⟩
theorem bit_high (n i : Nat) (h : n < 256) (hi : 8 ≤ i) : n.testBit i = false :=
  Nat.testBit_lt_two_pow (Nat.lt_of_lt_of_le h (Nat.pow_le_pow_right (n := 2) (by decide) hi))
theorem bit_beyond (n i c : Nat) (h : n < 2 ^ c) (hi : c ≤ i) : n.testBit i = false :=
  Nat.testBit_lt_two_pow (Nat.lt_of_lt_of_le h (Nat.pow_le_pow_right (n := 2) (by decide) hi))
end Go.Proofs.YtemmagkkigdhjaaGreatDoor.Pat

