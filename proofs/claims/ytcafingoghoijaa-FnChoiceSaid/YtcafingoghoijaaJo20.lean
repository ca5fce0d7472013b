/-
  Texts of one seat, joined: DrawCh, ChoiceC, Choice, ChLaw.
-/
import Derived.Test.YtcafingoghoijaaJo1
import Derived.Test.YtcafingoghoijaaJo14
import Derived.Test.YtcafingoghoijaaDrawAc
import Derived.Test.YtcafingoghoijaaJo17
import Derived.Test.YtcafingoghoijaaJo18
import Derived.Test.YtcafingoghoijaaAccV
import Derived.Test.YtcafingoghoijaaJo16
/-
  The drawing function DrawChoiceOf.
-/
namespace Go.Proofs.Ytcafingoghoijaa.DrawCh
open Go Go.RowKit Go.Proofs.Ytcafingoghoijaa.Plain Go.Proofs.Ytcafingoghoijaa.Base Go.Proofs.Ytcafingoghoijaa.Rd Go.Proofs.Ytcafingoghoijaa.Rd2 Go.Proofs.Ytcafingoghoijaa.Rd4 Go.Proofs.Ytcafingoghoijaa.Rd6 Go.Proofs.Ytcafingoghoijaa.DrawT Go.Proofs.Ytcafingoghoijaa.Entry Go.Proofs.Ytcafingoghoijaa.DrawQ
open Go.Proofs.Ytcafingoghoijaa.Rects (RV)
open Go.Proofs.Ytcafingoghoijaa.Marks (flat rv_own)
open Go.Proofs.Ytcafingoghoijaa.MaxM (mx mx_len)
open Go.Proofs.Ytcafingoghoijaa.KeysI (infoK two_new)
set_option linter.unusedVariables false

set_option maxRecDepth 100000 in
set_option maxHeartbeats 8000000 in
theorem draw_any (v : Value) (n : Nat) (w : World) (h : ByteArg w v n) :
    Calls Try.prog 37 #[v] w fun e w' => ∃ (vo vl : Value) (ones lv : List (Int × Int)) (x : Int) (cols : Bool), e = .returned (.tuple #[vo, vl, .int .i64 x, .bool cols]) ∧ ones.length ≤ 300 ∧ lv.length ≤ 300 ∧ RV w' w'.heap.size vo ones ∧ RV w' w'.heap.size vl lv ∧ Below w.heap.size w w' := by
  obtain ⟨i0, hi, hz0, hz1, hz2⟩ := info_parts infoK
  have HO := Lib.hid (open_any v n w h)
  clear h
  go_enter Try.func37, Try.ntmps37
  go_wp2_with fail
  refine HO.out.mono ?_
  rintro e w1 ⟨g, rfl, hr, hb, hg⟩
  have HM := Lib.hid (draw_matV g 0 (by omega) 4 (by omega) (by omega) w1 hr)
  have HB1 := Lib.hid (And.intro hb hg)
  have hg1 := hr.lt
  clear hr hb hg HO
  go_wp2_with fail
  refine HM.out.mono ?_
  rintro e w2 ⟨a, b, t, p1, rfl, ha, hb, hsz, hp1, hp2, hr2, ha2⟩
  obtain ⟨R, C, E, rfl, rfl, h1, h2, h3, h4, rfl⟩ := valid_form hsz.2
  have hts : (str (rowsB E R C)).size ≤ maxLen := by have := hsz.1.2; unfold maxLen; omega
  have HX := Lib.hid (fun bt W => Go.Proofs.Ytcafingoghoijaa.MaxS.spec_yes E R C h1 h2 h3 h4 hts hsz.2 bt W)
  have HXL : Hid (∀ bt, (mx E bt R C (2 ^ R - 1)).length ≤ 256) := fun bt => by
    have e1 := mx_len E bt R C (2 ^ R - 1)
    have e2 := Nat.pow_le_pow_right (n := 2) (by decide) h2
    omega
  have HX1 := Lib.hid (HX.out true)
  have HX0 := Lib.hid (HX.out false)
  have hl1 := HXL.out true
  have hl0 := HXL.out false
  rw [bitI_true] at HX1
  rw [bitI_false] at HX0
  generalize mx E true R C (2 ^ R - 1) = ones at *
  generalize mx E false R C (2 ^ R - 1) = lv at *
  generalize str (rowsB E R C) = t at *
  have hs2 := ha2.size
  have hbm : Below w2.heap.size w2 (w2.alloc (.cells #[.int .i64 (R : Int), .int .i64 (C : Int), .string t] 78)) := (Below.refl _ _).alloc (Nat.le_refl _) _
  have HR2 := Lib.hid (hr2.later hbm)
  have HA2 := Lib.hid (ha2.trans (Apt.of_below hbm))
  have HM2 : Hid ((w2.alloc (.cells #[.int .i64 (R : Int), .int .i64 (C : Int), .string t] 78)).heap[w2.heap.size]? = some (.cells #[.int .i64 (R : Int), .int .i64 (C : Int), .string t] 78 (0, 0))) := heap_alloc_new w2 _
  clear hsz hts hr2 ha2 hbm HM HX HXL
  go_wp2_with fail
  refine (HX1.out _).mono ?_
  rintro e w3 ⟨vo, rfl, hro, hb3⟩
  obtain ⟨W2, hW2⟩ : ∃ W2, w2.alloc (.cells #[.int .i64 (R : Int), .int .i64 (C : Int), .string t] 78) = W2 := ⟨_, rfl⟩
  have hsW : W2.heap.size = w2.heap.size + 1 := by rw [← hW2]; simp
  rw [hW2] at HR2 HA2 HM2 hro hb3
  have hs3 := hb3.size
  have HO3 : Hid (w3.ownsRow W2.heap.size 33 2 vo ones.length (flat ones)) := hro
  have HR3 := Lib.hid (HR2.out.later hb3)
  have HA3 := Lib.hid (HA2.out.trans (Apt.of_below hb3))
  have hm3 := (hb3.block _ (by omega)).trans HM2.out
  have HM3 := Lib.hid hm3
  have c0 : w3.cell? ⟨w2.heap.size, 0, none⟩ = some (.int .i64 (R : Int)) := cell_of_row _ _ 0 _ _ _ hm3
  have c1 : w3.cell? ⟨w2.heap.size, 1, none⟩ = some (.int .i64 (C : Int)) := cell_of_row _ _ 1 _ _ _ hm3
  have c2 : w3.cell? ⟨w2.heap.size, 2, none⟩ = some (.string t) := cell_of_row _ _ 2 _ _ _ hm3
  clear hro hb3 hm3 HX1 HR2 HA2 HM2 hW2
  go_wp2_with fail
  refine (HX0.out _).mono ?_
  rintro e w4 ⟨vl, rfl, hrl, hb4⟩
  have hs4 := hb4.size
  have HL4 : Hid (w4.ownsRow w3.heap.size 33 2 vl lv.length (flat lv)) := hrl
  have HO4 := Lib.hid (own_apt HO3.out (Apt.of_below (g := g) hb4) (by omega))
  have HN4 := Lib.hid (fun q hq => (HO3.out.lt q hq).2)
  have HR4 := Lib.hid (HR3.out.later hb4)
  have HA4 := Lib.hid (HA3.out.trans (Apt.of_below hb4))
  have HM4 := Lib.hid ((hb4.block _ (by omega)).trans HM3.out)
  have HP := Lib.hid (pick_r g p1 (by omega) 16 w4 HR4.out)
  clear hrl hb4 HX0 HO3 HR3 HA3 HM3 c0 c1 c2
  go_wp2_with fail
  refine HP.out.mono ?_
  rintro e w5 ⟨x, rfl, _, _, hr5, ha5⟩
  have hs5 := ha5.size
  have HL5 := Lib.hid (own_apt HL4.out ha5 (by omega))
  have HO5 := Lib.hid (own_apt HO4.out ha5 (by omega))
  have HA5 := Lib.hid (HA4.out.trans ha5)
  have HM5 := Lib.hid ((ha5.block _ (by omega) (by omega)).trans HM4.out)
  by_cases hx : x = 0
  · have hxb : (x == 0) = true := by rw [hx]; rfl
    have HD := Lib.hid (draw_rect8 g (p1 + 1) (by omega) R C ha.1 ha.2 hb.1 hb.2 t w5 hr5)
    have c0 : w5.cell? ⟨w2.heap.size, 0, none⟩ = some (.int .i64 (R : Int)) := cell_of_row _ _ 0 _ _ _ HM5.out
    have c1 : w5.cell? ⟨w2.heap.size, 1, none⟩ = some (.int .i64 (C : Int)) := cell_of_row _ _ 1 _ _ _ HM5.out
    have c2 : w5.cell? ⟨w2.heap.size, 2, none⟩ = some (.string t) := cell_of_row _ _ 2 _ _ _ HM5.out
    clear hr5 ha5 hx HP HL4 HO4 HR4 HA4 HM4
    go_wp2_with fail
    refine HD.out.mono ?_
    rintro e w6 ⟨u, v, rfl, hu, hv, hr6, ha6⟩
    have hs6 := ha6.size
    have HL6 := Lib.hid (own_apt HL5.out ha6 (by omega))
    have HO6 := Lib.hid (own_apt HO5.out ha6 (by omega))
    have HA6 := Lib.hid (HA5.out.trans ha6)
    have HB := Lib.hid (bad_rect g (p1 + 1 + 2) (by omega) u v ⟨by omega, by omega⟩ ⟨by omega, by omega⟩ w6 hr6)
    clear hr6 ha6 HD HL5 HO5 HA5 HM5 c0 c1 c2
    go_wp2_with fail
    refine HB.out.mono ?_
    rintro e w7 ⟨a', b', p7, rfl, _, _, hp7, hp8, hr7, ha7⟩
    have hs7 := ha7.size
    have HL7 := Lib.hid (own_apt HL6.out ha7 (by omega))
    have HO7 := Lib.hid (own_apt HO6.out ha7 (by omega))
    have HA7 := Lib.hid (HA6.out.trans ha7)
    have HR7 := Lib.hid hr7
    clear hr7 ha7 HB HL6 HO6 HA6
    go_wp2_with (at_builtin; have HH := HL7.out; refine wpList_append_own _ rfl (.tmp 22) (.tmp 28) 25 rfl w3.heap.size 33 i0 (.agg #[.int .i64 0, .int .i64 0]) 2 16 Try.underlying25 hi hz0 hz1 hz2 rfl (by decide) _ _ _ rfl (HH.alloc _) ⟨w7.heap.size, 0, none⟩ 1 1 [.int .i64 a', .int .i64 b'] rfl rfl ?c1 ?c2 ?c3 ?c4 ?c5 ?c6; go_must (case c1 => exact (two_new _ _ _ _)); go_must (case c2 => simp [Value.oneCell']); go_must (case c3 => unfold maxLen; omega); go_must (case c4 => omega); go_must (case c5 => simp; omega); go_must (clear HH; intro v' w8 hown8 hgrow8 hnil8; have HL8 := Lib.hid hown8; have HG8 := Lib.hid hgrow8; clear hown8 hgrow8 hnil8))
    all_goals
      have hbl : Below w7.heap.size w7 (w7.alloc (.cells #[.int .i64 a', .int .i64 b'] 33)) := (Below.refl _ _).alloc (Nat.le_refl _) _
      have HR8 := Lib.hid (rdr_grown (HR7.out.later hbl) HG8.out (fun q hq => by have := (HL7.out.lt q hq).1; omega))
      have HA8 := Lib.hid (apt_grown (HA7.out.trans (Apt.of_below hbl)) HG8.out (fun q hq => by have := (HL7.out.lt q hq).1; omega))
      have HO8 : Hid (w8.ownsRow W2.heap.size 33 2 vo ones.length (flat ones)) := (HO7.out.alloc _).kept HG8.out (by
        cases hvb : vo.ownBlock with
        | none => exact .inl rfl
        | some q => exact .inr (by intro e; have h1 := HN4.out q hvb; have h2 := (HL7.out.lt q e.symm).1; omega))
      have HS := Lib.hid (side_any g p7 (by omega) w8 HR8.out)
      clear hbl HL7 HO7 HR7 HA7 HG8 HN4
      first | (go_wp2_with fail) | skip
      refine HS.out.mono ?_
      rintro e w9 ⟨y, rfl, _, _, hr9, ha9⟩
      have HL9 := Lib.hid (own_apt HL8.out ha9 (by omega))
      have HO9 := Lib.hid (own_apt HO8.out ha9 (by omega))
      have HA9 := Lib.hid (HA8.out.trans ha9)
      have HK := Lib.hid (pick_r g (p7 + 2) (by omega) 2 w9 hr9)
      clear hr9 ha9 HS HL8 HO8 HA8 HR8
      go_wp2_with fail
      refine HK.out.mono ?_
      rintro e w10 ⟨z, rfl, _, _, hr10, ha10⟩
      have HL10 := Lib.hid (own_apt HL9.out ha10 (by omega))
      have HO10 := Lib.hid (own_apt HO9.out ha10 (by omega))
      have HA10 := Lib.hid (HA9.out.trans ha10)
      clear hr10 ha10 HK HL9 HO9 HA9
      go_wp2_with fail
      go_returns
      refine ⟨vo, _, ones, lv ++ [(a', b')], y, _, rfl, by omega, by simp; omega, rv_own HO10.out (by omega), ?_, HA10.out.below HB1.out.1 HB1.out.2⟩
      have h := HL10.out
      have hlen : (lv ++ [(a', b')]).length = lv.length + 1 := by simp
      rw [← hlen, ← flat_next] at h
      exact rv_own h (by simp; omega)
  · have hxb : (x == 0) = false := by rw [beq_eq_false_iff_ne]; exact hx
    have HS := Lib.hid (side_any g (p1 + 1) (by omega) w5 hr5)
    clear hr5 ha5 hx HP HL4 HO4 HR4 HA4 HM4 HM5
    go_wp2_with fail
    refine HS.out.mono ?_
    rintro e w9 ⟨y, rfl, _, _, hr9, ha9⟩
    have HL9 := Lib.hid (own_apt HL5.out ha9 (by omega))
    have HO9 := Lib.hid (own_apt HO5.out ha9 (by omega))
    have HA9 := Lib.hid (HA5.out.trans ha9)
    have HK := Lib.hid (pick_r g (p1 + 1 + 2) (by omega) 2 w9 hr9)
    clear hr9 ha9 HS HL5 HO5 HA5
    go_wp2_with fail
    refine HK.out.mono ?_
    rintro e w10 ⟨z, rfl, _, _, hr10, ha10⟩
    have HL10 := Lib.hid (own_apt HL9.out ha10 (by omega))
    have HO10 := Lib.hid (own_apt HO9.out ha10 (by omega))
    have HA10 := Lib.hid (HA9.out.trans ha10)
    clear hr10 ha10 HK HL9 HO9 HA9
    go_wp2_with fail
    go_returns
    exact ⟨vo, vl, ones, lv, y, _, rfl, by omega, by omega, rv_own HO10.out (by omega), rv_own HL10.out (by omega), HA10.out.below HB1.out.1 HB1.out.2⟩
end Go.Proofs.Ytcafingoghoijaa.DrawCh

/-
  ChoiceOf: the closure of the program, where its test of the side is told.
-/
namespace Go.Proofs.Ytcafingoghoijaa.ChoiceC
open Go.RowKit Go.Proofs.Ytcafingoghoijaa.Plain Go.Proofs.Ytcafingoghoijaa.Rect Go.Proofs.Ytcafingoghoijaa.FreeL Go.Proofs.Ytcafingoghoijaa.GuessM Go.Proofs.Ytcafingoghoijaa.GuessI Go.Proofs.Ytcafingoghoijaa.GuessT Go.Proofs.Ytcafingoghoijaa.Rects Go.Proofs.Ytcafingoghoijaa.Things Go.Proofs.Ytcafingoghoijaa.Accept Go.Proofs.Ytcafingoghoijaa.LiveI Go.Proofs.Ytcafingoghoijaa.Live
open Go.Proofs.Ytcafingoghoijaa.Free (fill wp_value wp_enter wp_load_row freeB)
open Go.Proofs.Ytcafingoghoijaa.FreeH (wp_region_relsH wp_enterE)
open Go.Proofs.Ytcafingoghoijaa.Wq (WQ wq_step wq_nil region_kept drew_at)
open Go.Proofs.Ytcafingoghoijaa.Marks (flat encR)
set_option linter.unusedVariables false
set_option linter.unusedSimpArgs false

theorem own_slice {w : World} {B n : Nat} {v : Value} {xs : List Value} (h : w.ownsRow B 33 2 v n xs) : ∃ p k, v = .slice p n k := by
  rcases h.2 with ⟨rfl, h0⟩ | ⟨g, cap, cur, rfl, _⟩
  · exact ⟨none, 0, by rw [h0]⟩
  · exact ⟨_, _, rfl⟩

/-- what the closure sees -/
structure Sees (W : World) (lv : List (Int × Int)) (p : Option Addr) (k : Nat) (x y input : Int) (cols : Bool) (Br Bl Bi Bc B : Nat) (wx : World) : Prop where
  rect : wx.heap[Br]? = some (.cells #[.int .i64 x, .int .i64 y] 33 (0, 0))
  live : wx.cell? ⟨Bl, 0, none⟩ = some (.slice p lv.length k)
  inp : wx.cell? ⟨Bi, 0, none⟩ = some (.int .i64 input)
  cls : wx.cell? ⟨Bc, 0, none⟩ = some (.bool cols)
  list : RV wx B (.slice p lv.length k) lv
  lts : Bl < wx.heap.size ∧ Bi < wx.heap.size ∧ Bc < wx.heap.size ∧ B ≤ wx.heap.size
theorem Sees.later {W : World} {lv : List (Int × Int)} {p : Option Addr} {k : Nat} {x y input : Int} {cols : Bool} {Br Bl Bi Bc B : Nat} {wx wy : World} (h : Sees W lv p k x y input cols Br Bl Bi Bc B wx) (hb : Below wx.heap.size wx wy) : Sees W lv p k x y input cols Br Bl Bi Bc B wy := by
  obtain ⟨l1, l2, l3, l4⟩ := h.lts
  have hs := hb.size
  exact ⟨(hb.block _ (Array.getElem?_eq_some_iff.1 h.rect).1).trans h.rect, (hb.cell (p := ⟨Bl, 0, none⟩) l1).trans h.live, (hb.cell (p := ⟨Bi, 0, none⟩) l2).trans h.inp, (hb.cell (p := ⟨Bc, 0, none⟩) l3).trans h.cls, h.list.later l4 hb, by omega⟩

set_option maxRecDepth 100000 in
set_option maxHeartbeats 4000000 in
/-- where the side has it: half of those that live -/
theorem clo_yes (lv : List (Int × Int)) (hlen : lv.length ≤ 1048576) (p : Option Addr) (k : Nat) (x y input : Int) (cols : Bool) (Bl Bi Bc B : Nat) (W : World)
    (h1 : W.cell? ⟨Bl, 0, none⟩ = some (.slice p lv.length k)) (h2 : W.cell? ⟨Bi, 0, none⟩ = some (.int .i64 input)) (h3 : W.cell? ⟨Bc, 0, none⟩ = some (.bool cols)) (hv : RV W B (.slice p lv.length k) lv) (hl : Bl < W.heap.size ∧ Bi < W.heap.size ∧ Bc < W.heap.size ∧ B ≤ W.heap.size)
    (hs1 : someB x y = true) (hs2 : allR lv = true)
    (ht : ∀ W : World, Calls Try.prog 57 #[.int .i64 (side (x, y) cols), .int .i64 input] W fun e w' => e = .returned (.bool true) ∧ W = w') :
    Calls Try.prog 56 #[rect x y, .pointer (some ⟨Bc, 0, none⟩), .pointer (some ⟨Bi, 0, none⟩), .pointer (some ⟨Bl, 0, none⟩)] W fun e w' => e = .returned (.bool (decide (2 * (live lv (x, y) cols).length ≤ lv.length))) ∧ Below W.heap.size W w' := by
  have HI := Lib.hid (fun wx => inputs_any x y cols wx)
  obtain ⟨s, hs⟩ : ∃ s, side (x, y) cols = s := ⟨_, rfl⟩
  rw [hs] at HI ht
  have HT := Lib.hid ht
  have HL : Hid (∀ wx : World, RV wx wx.heap.size (.slice p lv.length k) lv → Calls Try.prog 24 #[.slice p lv.length k, rect x y, .bool cols] wx fun e w' => ∃ v, e = .returned v ∧ (∃ p' k', v = .slice p' (live lv (x, y) cols).length k') ∧ Below wx.heap.size wx w') := fun wx hvx =>
    (impl_yes lv hlen _ x y cols hs1 hs2 wx hvx).mono (fun e w' h => by obtain ⟨v, h1, h2, h3⟩ := h; exact ⟨v, h1, own_slice h2, h3⟩)
  have hLn : (live lv (x, y) cols).length ≤ 1048576 := Nat.le_trans (kept_len lv _) hlen
  obtain ⟨L, hL⟩ : ∃ L, (live lv (x, y) cols).length = L := ⟨_, rfl⟩
  rw [hL] at HL hLn ⊢
  obtain ⟨d, hd⟩ : ∃ d, decide (2 * L ≤ lv.length) = d := ⟨_, rfl⟩
  have HD : Hid (decide (2 * (L : Int) ≤ (lv.length : Int)) = d) := by
    show _ = d
    rw [← hd]
    by_cases h : 2 * L ≤ lv.length
    · rw [decide_eq_true h, decide_eq_true (by omega)]
    · rw [decide_eq_false h, decide_eq_false (by omega)]
  rw [hd]
  have HW : Hid (Sees W lv p k x y input cols W.heap.size Bl Bi Bc B (W.alloc (.cells #[.int .i64 x, .int .i64 y] 33))) := by
    obtain ⟨l1, l2, l3, l4⟩ := hl
    have hb : Below W.heap.size W (W.alloc (.cells #[.int .i64 x, .int .i64 y] 33)) := (Below.refl _ _).alloc (Nat.le_refl _) _
    have hs := hb.size
    exact ⟨heap_alloc_new W _, (hb.cell (p := ⟨Bl, 0, none⟩) l1).trans h1, (hb.cell (p := ⟨Bi, 0, none⟩) l2).trans h2, (hb.cell (p := ⟨Bc, 0, none⟩) l3).trans h3, hv.later l4 hb, by omega⟩
  have HB0 : Hid (Below W.heap.size W (W.alloc (.cells #[.int .i64 x, .int .i64 y] 33))) := (Below.refl _ _).alloc (Nat.le_refl _) _
  clear h1 h2 h3 hv hl hs1 hs2 ht hs hL hd
  go_enter Try.func56, Try.ntmps56
  go_wp2_with fail
  obtain ⟨W0, hW0⟩ : ∃ W0, W.alloc (.cells #[.int .i64 x, .int .i64 y] 33) = W0 := ⟨_, rfl⟩
  rw [hW0] at HW HB0
  first | rw [hW0] | skip
  clear hW0
  refine wp_region_relsH (fun | 0 => fun v _ => v = rect x y | 1 => fun v _ => v = .bool cols | 2 => fun v _ => v = .int .i64 s | 3 => fun v _ => v = .int .i64 input | 4 => fun v _ => v = .bool true | 5 => fun v _ => v = .bool true | 6 => fun v _ => v = .slice p lv.length k | 7 => fun v _ => v = rect x y | 8 => fun v _ => v = .bool cols | 9 => fun v _ => ∃ p' k', v = .slice p' L k' | 10 => fun v _ => v = .int .i64 (L : Int) | 11 => fun v _ => v = .int .i64 (2 * (L : Int)) | 12 => fun v _ => v = .slice p lv.length k | 13 => fun v _ => v = .int .i64 (lv.length : Int) | 14 => fun v _ => v = .bool d | 15 => fun v _ => v = .bool d | 16 => fun v _ => v = .bool d | _ => fun _ _ => True) ?hR ?hG (by kernel_rfl) (by kernel_rfl) rfl ?con ?en
  case hR =>
    intro i v wa wb ho h
    match i, h with
    | 0, h => exact h
    | 1, h => exact h
    | 2, h => exact h
    | 3, h => exact h
    | 4, h => exact h
    | 5, h => exact h
    | 6, h => exact h
    | 7, h => exact h
    | 8, h => exact h
    | 9, h => exact h
    | 10, h => exact h
    | 11, h => exact h
    | 12, h => exact h
    | 13, h => exact h
    | 14, h => exact h
    | 15, h => exact h
    | 16, h => exact h
    | q + 17, h => trivial
  case hG =>
    intro i oo j b ho hg v wx h
    match i, ho with
    | 0, ho =>
      obtain rfl := Option.some.inj ho
      cases hg
    | 1, ho =>
      obtain rfl := Option.some.inj ho
      cases hg
    | 2, ho =>
      obtain rfl := Option.some.inj ho
      cases hg
    | 3, ho =>
      obtain rfl := Option.some.inj ho
      cases hg
    | 4, ho =>
      obtain rfl := Option.some.inj ho
      cases hg
    | 5, ho =>
      obtain rfl := Option.some.inj ho
      cases hg
    | 6, ho =>
      obtain rfl := Option.some.inj ho
      cases hg
      exact h
    | 7, ho =>
      obtain rfl := Option.some.inj ho
      cases hg
      exact h
    | 8, ho =>
      obtain rfl := Option.some.inj ho
      cases hg
      exact h
    | 9, ho =>
      obtain rfl := Option.some.inj ho
      cases hg
      exact h
    | 10, ho =>
      obtain rfl := Option.some.inj ho
      cases hg
      exact h
    | 11, ho =>
      obtain rfl := Option.some.inj ho
      cases hg
      exact h
    | 12, ho =>
      obtain rfl := Option.some.inj ho
      cases hg
      exact h
    | 13, ho =>
      obtain rfl := Option.some.inj ho
      cases hg
      exact h
    | 14, ho =>
      obtain rfl := Option.some.inj ho
      cases hg
      exact h
    | 15, ho =>
      obtain rfl := Option.some.inj ho
      cases hg
    | 16, ho =>
      obtain rfl := Option.some.inj ho
      cases hg
    | q + 17, ho => simp at ho
  case con =>
    intro i oo ho a wx hb2 hf
    have hS := HW.out.later hb2
    match i, ho with
    | 0, ho =>
      obtain rfl := Option.some.inj ho
      have b4 : a.tmps[4]?.getD undef = .pointer (some ⟨W.heap.size, 0, none⟩) := hf.2 4 (by kernel_rfl)
      exact wp_load_row 33 (.tmp 4) rfl W.heap.size (eval_get b4 trivial) 33 _ (0, 0) _ hS.rect Try.underlying33 rfl rinfo2 ⟨_, rfl, rfl, Below.refl _ _⟩
    | 1, ho =>
      obtain rfl := Option.some.inj ho
      have b1 : a.tmps[1]?.getD undef = .pointer (some ⟨Bc, 0, none⟩) := hf.2 1 (by kernel_rfl)
      have c1 := hS.cls
      exact wp_value (.bool cols) (by unfold execOp; go_simp) ⟨_, rfl, rfl, Below.refl _ _⟩
    | 2, ho =>
      obtain rfl := Option.some.inj ho
      have e6 : a.tmps[6]?.getD undef = rect x y := hf.1 ⟨0, .data⟩ (by simp) rfl _ 6 rfl rfl
      have e7 : a.tmps[7]?.getD undef = .bool cols := hf.1 ⟨1, .data⟩ (by simp) rfl _ 7 rfl rfl
      exact wp_enter 51 #[rect x y, .bool cols] (.int .i64 s) _ (by unfold execOp; go_simp) (HI.out wx) (fun w' h => ⟨_, rfl, rfl, h⟩)
    | 3, ho =>
      obtain rfl := Option.some.inj ho
      have b2 : a.tmps[2]?.getD undef = .pointer (some ⟨Bi, 0, none⟩) := hf.2 2 (by kernel_rfl)
      have c2 := hS.inp
      exact wp_value (.int .i64 input) (by unfold execOp; go_simp) ⟨_, rfl, rfl, Below.refl _ _⟩
    | 4, ho =>
      obtain rfl := Option.some.inj ho
      have e8 : a.tmps[8]?.getD undef = .int .i64 s := hf.1 ⟨2, .data⟩ (by simp) rfl _ 8 rfl rfl
      have e9 : a.tmps[9]?.getD undef = .int .i64 input := hf.1 ⟨3, .data⟩ (by simp) rfl _ 9 rfl rfl
      exact wp_enter 57 #[.int .i64 s, .int .i64 input] (.bool true) (fun w' => wx = w') (by unfold execOp; go_simp) (HT.out wx) (fun w' h => ⟨_, rfl, rfl, by rw [← h]; exact Below.refl _ _⟩)
    | 5, ho =>
      obtain rfl := Option.some.inj ho
      have e10 : a.tmps[10]?.getD undef = .bool true := hf.1 ⟨4, .data⟩ (by simp) rfl _ 10 rfl rfl
      exact wp_value (.bool true) (by unfold execOp; go_simp) ⟨_, rfl, rfl, Below.refl _ _⟩
    | 6, ho =>
      obtain rfl := Option.some.inj ho
      have b3 : a.tmps[3]?.getD undef = .pointer (some ⟨Bl, 0, none⟩) := hf.2 3 (by kernel_rfl)
      have c3 := hS.live
      exact wp_value (.slice p lv.length k) (by unfold execOp; go_simp) ⟨_, rfl, rfl, Below.refl _ _⟩
    | 7, ho =>
      obtain rfl := Option.some.inj ho
      have b4 : a.tmps[4]?.getD undef = .pointer (some ⟨W.heap.size, 0, none⟩) := hf.2 4 (by kernel_rfl)
      exact wp_load_row 33 (.tmp 4) rfl W.heap.size (eval_get b4 trivial) 33 _ (0, 0) _ hS.rect Try.underlying33 rfl rinfo2 ⟨_, rfl, rfl, Below.refl _ _⟩
    | 8, ho =>
      obtain rfl := Option.some.inj ho
      have b1 : a.tmps[1]?.getD undef = .pointer (some ⟨Bc, 0, none⟩) := hf.2 1 (by kernel_rfl)
      have c1 := hS.cls
      exact wp_value (.bool cols) (by unfold execOp; go_simp) ⟨_, rfl, rfl, Below.refl _ _⟩
    | 9, ho =>
      obtain rfl := Option.some.inj ho
      have e12 : a.tmps[12]?.getD undef = .slice p lv.length k := hf.1 ⟨6, .data⟩ (by simp) rfl _ 12 rfl rfl
      have e13 : a.tmps[13]?.getD undef = rect x y := hf.1 ⟨7, .data⟩ (by simp) rfl _ 13 rfl rfl
      have e14 : a.tmps[14]?.getD undef = .bool cols := hf.1 ⟨8, .data⟩ (by simp) rfl _ 14 rfl rfl
      exact wp_enterE 24 #[.slice p lv.length k, rect x y, .bool cols] (fun v w' => (∃ p' k', v = .slice p' L k') ∧ Below wx.heap.size wx w') (by unfold execOp; go_simp) (HL.out wx (hS.list.mono hS.lts.2.2.2)) (fun v w' h => ⟨_, rfl, h.1, h.2⟩)
    | 10, ho =>
      obtain rfl := Option.some.inj ho
      obtain ⟨p', k', e15⟩ : ∃ p' k', a.tmps[15]?.getD undef = .slice p' L k' := hf.1 ⟨9, .data⟩ (by simp) rfl _ 15 rfl rfl
      exact wp_value (.int .i64 (L : Int)) (by unfold execOp; go_simp) ⟨_, rfl, rfl, Below.refl _ _⟩
    | 11, ho =>
      obtain rfl := Option.some.inj ho
      have e16 : a.tmps[16]?.getD undef = .int .i64 (L : Int) := hf.1 ⟨10, .data⟩ (by simp) rfl _ 16 rfl rfl
      exact wp_value (.int .i64 (2 * (L : Int))) (by unfold execOp; go_simp; exact IntWalk.i64_in _ ⟨by omega, by omega⟩) ⟨_, rfl, rfl, Below.refl _ _⟩
    | 12, ho =>
      obtain rfl := Option.some.inj ho
      have b3 : a.tmps[3]?.getD undef = .pointer (some ⟨Bl, 0, none⟩) := hf.2 3 (by kernel_rfl)
      have c3 := hS.live
      exact wp_value (.slice p lv.length k) (by unfold execOp; go_simp) ⟨_, rfl, rfl, Below.refl _ _⟩
    | 13, ho =>
      obtain rfl := Option.some.inj ho
      have e18 : a.tmps[18]?.getD undef = .slice p lv.length k := hf.1 ⟨12, .data⟩ (by simp) rfl _ 18 rfl rfl
      exact wp_value (.int .i64 (lv.length : Int)) (by unfold execOp; go_simp) ⟨_, rfl, rfl, Below.refl _ _⟩
    | 14, ho =>
      obtain rfl := Option.some.inj ho
      have e17 : a.tmps[17]?.getD undef = .int .i64 (2 * (L : Int)) := hf.1 ⟨11, .data⟩ (by simp) rfl _ 17 rfl rfl
      have e19 : a.tmps[19]?.getD undef = .int .i64 (lv.length : Int) := hf.1 ⟨13, .data⟩ (by simp) rfl _ 19 rfl rfl
      exact wp_value (.bool d) (by unfold execOp; go_simp; exact HD.out) ⟨_, rfl, rfl, Below.refl _ _⟩
    | 15, ho =>
      obtain rfl := Option.some.inj ho
      have e11 : a.tmps[11]?.getD undef = .bool true := hf.1 ⟨5, .data⟩ (by simp) rfl _ 11 rfl rfl
      have e20 : a.tmps[20]?.getD undef = .bool d := hf.1 ⟨14, .data⟩ (by simp) rfl _ 20 rfl rfl
      exact wp_value (.bool d) (by unfold execOp; go_simp) ⟨_, rfl, rfl, Below.refl _ _⟩
    | 16, ho =>
      obtain rfl := Option.some.inj ho
      have e21 : a.tmps[21]?.getD undef = .bool d := hf.1 ⟨15, .data⟩ (by simp) rfl _ 21 rfl rfl
      exact wp_value (.bool d) (by unfold execOp; go_simp) ⟨_, rfl, rfl, Below.refl _ _⟩
    | q + 17, ho => simp at ho
  case en =>
    intro vs w2 hb2 hall
    have e16 : vs 16 = .bool d := hall 16 _ rfl
    have HB2 := Lib.hid (HB0.out.trans (hb2.mono HB0.out.size))
    simp only [fill, Act.put]
    rw [e16]
    clear hall hb2 e16
    go_simp
    go_wp2_with fail
    go_ret
    exact ⟨rfl, HB2.out⟩

set_option maxRecDepth 100000 in
set_option maxHeartbeats 4000000 in
/-- where the side has it not -/
theorem clo_no (lv : List (Int × Int)) (hlen : lv.length ≤ 1048576) (p : Option Addr) (k : Nat) (x y input : Int) (cols : Bool) (Bl Bi Bc B : Nat) (W : World)
    (h1 : W.cell? ⟨Bl, 0, none⟩ = some (.slice p lv.length k)) (h2 : W.cell? ⟨Bi, 0, none⟩ = some (.int .i64 input)) (h3 : W.cell? ⟨Bc, 0, none⟩ = some (.bool cols)) (hv : RV W B (.slice p lv.length k) lv) (hl : Bl < W.heap.size ∧ Bi < W.heap.size ∧ Bc < W.heap.size ∧ B ≤ W.heap.size)
    (ht : ∀ W : World, Calls Try.prog 57 #[.int .i64 (side (x, y) cols), .int .i64 input] W fun e w' => e = .returned (.bool false) ∧ W = w') :
    Calls Try.prog 56 #[rect x y, .pointer (some ⟨Bc, 0, none⟩), .pointer (some ⟨Bi, 0, none⟩), .pointer (some ⟨Bl, 0, none⟩)] W fun e w' => e = .returned (.bool false) ∧ Below W.heap.size W w' := by
  have HI := Lib.hid (fun wx => inputs_any x y cols wx)
  obtain ⟨s, hs⟩ : ∃ s, side (x, y) cols = s := ⟨_, rfl⟩
  rw [hs] at HI ht
  have HT := Lib.hid ht
  have HW : Hid (Sees W lv p k x y input cols W.heap.size Bl Bi Bc B (W.alloc (.cells #[.int .i64 x, .int .i64 y] 33))) := by
    obtain ⟨l1, l2, l3, l4⟩ := hl
    have hb : Below W.heap.size W (W.alloc (.cells #[.int .i64 x, .int .i64 y] 33)) := (Below.refl _ _).alloc (Nat.le_refl _) _
    have hs := hb.size
    exact ⟨heap_alloc_new W _, (hb.cell (p := ⟨Bl, 0, none⟩) l1).trans h1, (hb.cell (p := ⟨Bi, 0, none⟩) l2).trans h2, (hb.cell (p := ⟨Bc, 0, none⟩) l3).trans h3, hv.later l4 hb, by omega⟩
  have HB0 : Hid (Below W.heap.size W (W.alloc (.cells #[.int .i64 x, .int .i64 y] 33))) := (Below.refl _ _).alloc (Nat.le_refl _) _
  clear h1 h2 h3 hv hl ht hs
  go_enter Try.func56, Try.ntmps56
  go_wp2_with fail
  obtain ⟨W0, hW0⟩ : ∃ W0, W.alloc (.cells #[.int .i64 x, .int .i64 y] 33) = W0 := ⟨_, rfl⟩
  rw [hW0] at HW HB0
  first | rw [hW0] | skip
  clear hW0
  refine region_kept (C := fun wx => Below W0.heap.size W0 wx) (drew_at W0) (by kernel_rfl) (by kernel_rfl) ?_
  repeat
    (refine wq_step (fun K hK => ?_)
     go_simp
     first
       | (refine hK _ ?_; clear hK K)
       | (apply Exists.intro
          refine ⟨fun wx hC => ?_, hK _ ?_⟩
          · first
            | with_reducible rfl
            | (with_reducible exact ((HI.out wx).mono fun e w' h => ⟨h.1, hC.trans (h.2.mono hC.size)⟩))
            | (with_reducible exact ((HT.out wx).mono fun e w' h => ⟨h.1, by rw [← h.2]; exact hC⟩))
            | (have hS := HW.out.later hC; have c1 := hS.cls; have c2 := hS.inp; go_simp; first | done | rfl)
            | (have hS := HW.out.later hC; have c0 : wx.cell? ⟨W.heap.size, 0, none⟩ = some (.int .i64 x) := cell_of_row _ _ 0 _ _ _ hS.rect; have c9 : wx.cell? ⟨W.heap.size, 1, none⟩ = some (.int .i64 y) := cell_of_row _ _ 1 _ _ _ hS.rect; go_simp; first | done | rfl)
          clear hK K))
  refine wq_nil ?_
  intro w2 hC
  have HC := Lib.hid (HB0.out.trans (hC.mono HB0.out.size))
  clear hC
  go_simp
  go_wp2_with fail
  go_ret
  exact ⟨rfl, HC.out⟩
end Go.Proofs.Ytcafingoghoijaa.ChoiceC

/-
  ChoiceOf: both sides.
-/
namespace Go.Proofs.Ytcafingoghoijaa.Choice
open Go.RowKit Go.Proofs.Ytcafingoghoijaa.Plain Go.Proofs.Ytcafingoghoijaa.Rect Go.Proofs.Ytcafingoghoijaa.GuessM Go.Proofs.Ytcafingoghoijaa.GuessI Go.Proofs.Ytcafingoghoijaa.GuessT Go.Proofs.Ytcafingoghoijaa.Rects Go.Proofs.Ytcafingoghoijaa.Things Go.Proofs.Ytcafingoghoijaa.Accept Go.Proofs.Ytcafingoghoijaa.LiveI Go.Proofs.Ytcafingoghoijaa.Live Go.Proofs.Ytcafingoghoijaa.LiveS Go.Proofs.Ytcafingoghoijaa.ChoiceC
open Go.Proofs.Ytcafingoghoijaa.Proof (leastK_found leastK_none)
set_option linter.unusedVariables false
set_option linter.unusedSimpArgs false

/-- whether a side has an input -/
def tbit (s input : Int) : Bool := if 0 ≤ input ∧ input ≤ 7 then s.toNat.testBit input.toNat else false
/-- whether the j-th is a choice -/
def chAt (ones lv : List (Int × Int)) (input : Int) (cols : Bool) (j : Nat) : Bool := tbit (side (ones.getD j (0, 0)) cols) input && decide (2 * (live lv (ones.getD j (0, 0)) cols).length ≤ lv.length)
theorem chAt_at (ones lv : List (Int × Int)) (input : Int) (cols : Bool) (j : Nat) (hj : j < ones.length) : chAt ones lv input cols j = (tbit (side ones[j] cols) input && decide (2 * (live lv ones[j] cols).length ≤ lv.length)) := by simp [chAt, List.getD, hj]

theorem side_nat {q : Int × Int} (h : someB q.1 q.2 = true) (cols : Bool) : ∃ s : Nat, side q cols = (s : Int) ∧ s < 256 := by
  have hb := (someB_iff _ _).1 h
  refine ⟨(side q cols).toNat, ?_, ?_⟩ <;> cases cols <;> simp only [side, if_true, if_false, Bool.false_eq_true] <;> omega
theorem in_set {q : Int × Int} (h : someB q.1 q.2 = true) (cols : Bool) (input : Int) (W : World) : Calls Try.prog 57 #[.int .i64 (side q cols), .int .i64 input] W fun e w' => e = .returned (.bool (tbit (side q cols) input)) ∧ W = w' := by
  obtain ⟨s, hs, hl⟩ := side_nat h cols
  rw [hs]
  unfold tbit
  by_cases hi : 0 ≤ input ∧ input ≤ 7
  · rw [if_pos hi]
    obtain ⟨i, rfl⟩ := Int.eq_ofNat_of_zero_le hi.1
    exact inSet_yes s i hl (by omega) W
  · rw [if_neg hi]
    exact inSet_no s input (by omega) W
theorem l2_in {q : Int × Int} (h : someB q.1 q.2 = true) (cols : Bool) (input : Int) (hi : 0 ≤ input ∧ input ≤ 7) (W : World) : Calls Try.prog 73 #[.int .i64 (side q cols), .int .i64 input] W fun e w' => e = .returned (.bool (tbit (side q cols) input)) ∧ W = w' := by
  obtain ⟨s, hs, hl⟩ := side_nat h cols
  rw [hs]
  unfold tbit
  rw [if_pos hi]
  obtain ⟨i, rfl⟩ := Int.eq_ofNat_of_zero_le hi.1
  exact l2In_any s i hl (by omega) W

theorem right_choice (ones lv : List (Int × Int)) (hlen : lv.length ≤ 1048576) (h1 : allR ones = true) (h2 : allR lv = true) (input : Int) (cols : Bool) (p : Option Addr) (k : Nat) (Bl Bi Bc B : Nat) (w : World)
    (c1 : w.cell? ⟨Bl, 0, none⟩ = some (.slice p lv.length k)) (c2 : w.cell? ⟨Bi, 0, none⟩ = some (.int .i64 input)) (c3 : w.cell? ⟨Bc, 0, none⟩ = some (.bool cols)) (hv : RV w B (.slice p lv.length k) lv) (hl : Bl < w.heap.size ∧ Bi < w.heap.size ∧ Bc < w.heap.size ∧ B ≤ w.heap.size) :
    Right 56 #[.pointer (some ⟨Bc, 0, none⟩), .pointer (some ⟨Bi, 0, none⟩), .pointer (some ⟨Bl, 0, none⟩)] ones (chAt ones lv input cols) w := by
  intro j hj W hb
  obtain ⟨l1, l2, l3, l4⟩ := hl
  have hs := hb.size
  rw [chAt_at ones lv input cols j hj]
  have hr := allR_at h1 j hj
  have ht := fun W => in_set hr cols input W
  have d1 := (hb.cell (p := ⟨Bl, 0, none⟩) l1).trans c1
  have d2 := (hb.cell (p := ⟨Bi, 0, none⟩) l2).trans c2
  have d3 := (hb.cell (p := ⟨Bc, 0, none⟩) l3).trans c3
  have dv := hv.later l4 hb
  obtain ⟨q, hq⟩ : ∃ q, ones[j] = q := ⟨_, rfl⟩
  rw [hq] at hr ht ⊢
  obtain ⟨x, y⟩ := q
  cases htb : tbit (side (x, y) cols) input with
  | true =>
    rw [htb] at ht
    rw [Bool.true_and]
    exact clo_yes lv hlen p k x y input cols Bl Bi Bc B W d1 d2 d3 dv (by omega) hr h2 ht
  | false =>
    rw [htb] at ht
    rw [Bool.false_and]
    exact clo_no lv hlen p k x y input cols Bl Bi Bc B W d1 d2 d3 dv (by omega) ht

/-- the boxes of the closure -/
theorem three (w : World) (p : Option Addr) (n k : Nat) (input : Int) (cols : Bool) :
    let W0 := ((w.alloc (.cells #[.slice p n k] 25)).alloc (.cells #[.int .i64 input] 3)).alloc (.cells #[.bool cols] 4)
    W0.cell? ⟨w.heap.size, 0, none⟩ = some (.slice p n k) ∧ W0.cell? ⟨w.heap.size + 1, 0, none⟩ = some (.int .i64 input) ∧ W0.cell? ⟨w.heap.size + 1 + 1, 0, none⟩ = some (.bool cols) ∧ Below w.heap.size w W0 ∧ W0.heap.size = w.heap.size + 3 := by
  intro W0
  refine ⟨?_, ?_, ?_, (((Below.refl _ _).alloc (Nat.le_refl _) _).alloc (by simp) _).alloc (by simp; omega) _, by simp [W0]⟩
  · exact (World.cell?_of_block (a := ⟨w.heap.size, 0, none⟩) (Below.heap_alloc _ _ _ (by simp; omega))).trans ((World.cell?_of_block (a := ⟨w.heap.size, 0, none⟩) (Below.heap_alloc _ _ _ (by simp))).trans (cell_of_row _ _ 0 _ _ _ (heap_alloc_new w _)))
  · have h := heap_alloc_new (w.alloc (.cells #[.slice p n k] 25)) (.cells #[.int .i64 input] 3)
    rw [World.size_alloc] at h
    exact (World.cell?_of_block (a := ⟨w.heap.size + 1, 0, none⟩) (Below.heap_alloc _ _ _ (by simp))).trans (cell_of_row _ _ 0 _ _ _ h)
  · have h := heap_alloc_new ((w.alloc (.cells #[.slice p n k] 25)).alloc (.cells #[.int .i64 input] 3)) (.cells #[.bool cols] 4)
    rw [World.size_alloc, World.size_alloc] at h
    exact cell_of_row _ _ 0 _ _ _ h

set_option maxHeartbeats 4000000 in
theorem impl_yes (ones lv : List (Int × Int)) (hlo : ones.length ≤ 1048576) (hlen : lv.length ≤ 1048576) (h1 : allR ones = true) (h2 : allR lv = true) (vo vl : Value) (input : Int) (cols : Bool) (w : World) (hvo : RV w w.heap.size vo ones) (hvl : RV w w.heap.size vl lv) :
    Calls Try.prog 28 #[vo, vl, .int .i64 input, .bool cols] w fun e w' => e = .returned (.int .i64 (leastK (chAt ones lv input cols) ones.length)) ∧ Below w.heap.size w w' := by
  obtain ⟨p, k, rfl⟩ := hvl.slice
  obtain ⟨k1, k2, k3, hb3, hs3⟩ := three w p lv.length k input cols
  have HA := Lib.hid (fun v w hv => (are_rects ones hlo v w hv).mono (fun e w' h => by rw [h1] at h; exact h))
  have HAL := Lib.hid (fun v w hv => (are_rects lv hlen v w hv).mono (fun e w' h => by rw [h2] at h; exact h))
  have HG := Lib.hid (fun v W (hv : RV W W.heap.size v ones) c1 c2 c3 hl hll => guess_any 56 #[.pointer (some ⟨w.heap.size + 1 + 1, 0, none⟩), .pointer (some ⟨w.heap.size + 1, 0, none⟩), .pointer (some ⟨w.heap.size, 0, none⟩)] (enters_of Try.func56 (by kernel_rfl) rfl) ones hlo v (chAt ones lv input cols) W hv (right_choice ones lv hlen h1 h2 input cols p k w.heap.size (w.heap.size + 1) (w.heap.size + 1 + 1) w.heap.size W c1 c2 c3 hl hll))
  have HT := Lib.hid (fun v' B W hg => least ones (chAt ones lv input cols) v' B W hg)
  obtain ⟨r, hr⟩ : ∃ r, leastK (chAt ones lv input cols) ones.length = r := ⟨_, rfl⟩
  rw [hr] at HT ⊢
  have HK := Lib.hid (And.intro k1 (And.intro k2 k3))
  have HB3 := Lib.hid hb3
  have HVO := Lib.hid hvo
  have HVL := Lib.hid hvl
  clear h1 h2 hvo hvl hr k1 k2 k3 hb3
  go_enter Try.func28, Try.ntmps28
  go_wp2_with fail
  obtain ⟨W0, hW0⟩ : ∃ W0, ((w.alloc (.cells #[.slice p lv.length k] 25)).alloc (.cells #[.int .i64 input] 3)).alloc (.cells #[.bool cols] 4) = W0 := ⟨_, rfl⟩
  rw [hW0] at HK HB3 hs3
  first | rw [hW0] | skip
  clear hW0
  refine (HA.out _ _ ((HVO.out.later (Nat.le_refl _) HB3.out).mono HB3.out.size)).mono ?_
  rintro e w1 ⟨rfl, hb1⟩
  have hs1 := hb1.size
  have c1 : w1.cell? ⟨w.heap.size, 0, none⟩ = some (.slice p lv.length k) := (hb1.cell (p := ⟨w.heap.size, 0, none⟩) (by show w.heap.size < _; omega)).trans HK.out.1
  have HK1 := Lib.hid (And.intro c1 (And.intro ((hb1.cell (p := ⟨w.heap.size + 1, 0, none⟩) (by show w.heap.size + 1 < _; omega)).trans HK.out.2.1) ((hb1.cell (p := ⟨w.heap.size + 1 + 1, 0, none⟩) (by show w.heap.size + 1 + 1 < _; omega)).trans HK.out.2.2)))
  have HB1 := Lib.hid (HB3.out.trans (hb1.mono HB3.out.size))
  clear hb1 HK HB3
  go_wp2_with fail
  refine (HAL.out _ _ ((HVL.out.later (Nat.le_refl _) HB1.out).mono HB1.out.size)).mono ?_
  rintro e w2 ⟨rfl, hb2⟩
  have hs2 := hb2.size
  have HK2 := Lib.hid (And.intro ((hb2.cell (p := ⟨w.heap.size, 0, none⟩) (by show w.heap.size < _; omega)).trans HK1.out.1) (And.intro ((hb2.cell (p := ⟨w.heap.size + 1, 0, none⟩) (by show w.heap.size + 1 < _; omega)).trans HK1.out.2.1) ((hb2.cell (p := ⟨w.heap.size + 1 + 1, 0, none⟩) (by show w.heap.size + 1 + 1 < _; omega)).trans HK1.out.2.2)))
  have HB2 := Lib.hid (HB1.out.trans (hb2.mono HB1.out.size))
  clear hb2 c1 HK1 HB1
  go_wp2_with fail
  refine (HG.out _ _ ((HVO.out.later (Nat.le_refl _) HB2.out).mono HB2.out.size) HK2.out.1 HK2.out.2.1 HK2.out.2.2 (HVL.out.later (Nat.le_refl _) HB2.out) (by omega)).mono ?_
  rintro e w3 ⟨v3, rfl, hg, hb3⟩
  have HG3 := Lib.hid hg
  have HB3 := Lib.hid (HB2.out.trans (hb3.mono HB2.out.size))
  clear hg hb3 HG HK2 HB2
  go_wp2_with fail
  refine (HT.out _ _ _ HG3.out).mono ?_
  rintro e w4 ⟨rfl, hb4⟩
  have HB4 := Lib.hid (HB3.out.trans (hb4.mono HB3.out.size))
  clear hb4 HB3 HG3 HT
  go_wp2_with fail
  go_ret
  exact ⟨rfl, HB4.out⟩

set_option maxHeartbeats 4000000 in
theorem impl_no (ones lv : List (Int × Int)) (hlo : ones.length ≤ 1048576) (hlen : lv.length ≤ 1048576) (h : (allR ones && allR lv) = false) (vo vl : Value) (input : Int) (cols : Bool) (w : World) (hvo : RV w w.heap.size vo ones) (hvl : RV w w.heap.size vl lv) :
    Calls Try.prog 28 #[vo, vl, .int .i64 input, .bool cols] w fun e w' => e = .returned (.int .i64 (-1)) ∧ Below w.heap.size w w' := by
  obtain ⟨p, k, rfl⟩ := hvl.slice
  obtain ⟨k1, k2, k3, hb3, hs3⟩ := three w p lv.length k input cols
  have HA := Lib.hid (fun v w hv => are_rects ones hlo v w hv)
  have HAL := Lib.hid (fun v w hv => are_rects lv hlen v w hv)
  obtain ⟨a, ha⟩ : ∃ a, allR ones = a := ⟨_, rfl⟩
  obtain ⟨b, hb⟩ : ∃ b, allR lv = b := ⟨_, rfl⟩
  rw [ha] at HA h
  rw [hb] at HAL h
  have HK := Lib.hid k1
  have HB3 := Lib.hid hb3
  have HVO := Lib.hid hvo
  have HVL := Lib.hid hvl
  clear hvo hvl k1 k2 k3 hb3 ha hb
  go_enter Try.func28, Try.ntmps28
  go_wp2_with fail
  obtain ⟨W0, hW0⟩ : ∃ W0, ((w.alloc (.cells #[.slice p lv.length k] 25)).alloc (.cells #[.int .i64 input] 3)).alloc (.cells #[.bool cols] 4) = W0 := ⟨_, rfl⟩
  rw [hW0] at HK HB3 hs3
  first | rw [hW0] | skip
  clear hW0
  refine (HA.out _ _ ((HVO.out.later (Nat.le_refl _) HB3.out).mono HB3.out.size)).mono ?_
  rintro e w1 ⟨rfl, hb1⟩
  have hs1 := hb1.size
  have c1 : w1.cell? ⟨w.heap.size, 0, none⟩ = some (.slice p lv.length k) := (hb1.cell (p := ⟨w.heap.size, 0, none⟩) (by show w.heap.size < _; omega)).trans HK.out
  have HB1 := Lib.hid (HB3.out.trans (hb1.mono HB3.out.size))
  clear hb1 HK HB3
  cases a with
  | false =>
    go_wp2_with fail
    go_ret
    exact ⟨rfl, HB1.out⟩
  | true =>
    obtain rfl : b = false := by simpa using h
    go_wp2_with fail
    refine (HAL.out _ _ ((HVL.out.later (Nat.le_refl _) HB1.out).mono HB1.out.size)).mono ?_
    rintro e w2 ⟨rfl, hb2⟩
    have HB2 := Lib.hid (HB1.out.trans (hb2.mono HB1.out.size))
    clear hb2 c1 HB1
    go_wp2_with fail
    go_ret
    exact ⟨rfl, HB2.out⟩

set_option maxHeartbeats 4000000 in
theorem choice_spec (ones lv : List (Int × Int)) (hlo : ones.length ≤ 1048576) (hlen : lv.length ≤ 1048576) (h1 : allR ones = true) (vo vl : Value) (input : Int) (hi : 0 ≤ input ∧ input ≤ 7) (cols : Bool) (w : World) (hvo : RV w w.heap.size vo ones) (hvl : RV w w.heap.size vl lv) :
    Calls Try.prog 55 #[vo, vl, .int .i64 input, .bool cols] w fun e w' => e = .returned (.int .i64 (leastK (chAt ones lv input cols) ones.length)) ∧ Below w.heap.size w w' := by
  have HC : Hid (∀ W, Below w.heap.size w W → ∀ j (hj : j < ones.length), ∃ b off c, vo = .slice (some ⟨b, off, none⟩) ones.length c ∧ b < w.heap.size ∧ W.cell? ⟨b, off + j * 2, none⟩ = some (.int .i64 ones[j].1) ∧ W.cell? ⟨b, off + j * 2 + 1, none⟩ = some (.int .i64 ones[j].2)) := fun W hb j hj => by
    rcases (hvo.later (Nat.le_refl _) hb).2 with ⟨_, rfl⟩ | ⟨b, off, c, rfl, hlt, hc⟩
    · cases hj
    · exact ⟨b, off, c, rfl, hlt, hc j hj⟩
  have HF := Lib.hid (fun j hj h hb => leastK_found (f := chAt ones lv input cols) (n := ones.length) (j := j) hj h hb)
  have HN := Lib.hid (fun hb => leastK_none (f := chAt ones lv input cols) (n := ones.length) hb)
  have HAC := Lib.hid (fun j (hj : j < ones.length) W => spec_acc ones[j].1 ones[j].2 input cols _ (fun W => l2_in (allR_at h1 j hj) cols input hi W) W)
  have HLV := Lib.hid (fun j (hj : j < ones.length) W (hv : RV W W.heap.size vl lv) => (live_spec lv hlen vl ones[j].1 ones[j].2 cols W hv).mono (R' := fun e w' => ∃ v, e = .returned v ∧ (∃ p' k', v = .slice p' (live lv ones[j] cols).length k') ∧ Below W.heap.size W w') (fun e w' h => by obtain ⟨v, h1, h2, h3⟩ := h; exact ⟨v, h1, own_slice h2, h3⟩))
  have HAT := Lib.hid (fun j hj => chAt_at ones lv input cols j hj)
  have HLN := Lib.hid (fun q => Nat.le_trans (kept_len lv (meetsAt lv (side q cols) cols)) hlen)
  obtain ⟨f, hf⟩ : ∃ f, chAt ones lv input cols = f := ⟨_, rfl⟩
  rw [hf] at HF HN HAT ⊢
  obtain ⟨r, hr⟩ : ∃ r, leastK f ones.length = r := ⟨_, rfl⟩
  rw [hr] at HF HN ⊢
  obtain ⟨p, k, rfl⟩ := hvo.slice
  obtain ⟨pl, kl, rfl⟩ := hvl.slice
  have HVL := Lib.hid hvl
  clear hvo hvl h1 hf hr
  go_enter Try.func55, Try.ntmps55
  go_wp2_with fail
  go_loopw [9] (fun i wr => ∃ j : Nat, j ≤ ones.length ∧ i = .int .i64 (j : Int) ∧ (∀ t, t < j → f t = false) ∧ Below w.heap.size w wr) (fun i _ => ones.length - (intOf i).toNat)
  case atStart => exact ⟨0, Nat.zero_le _, rfl, fun t h => absurd h (Nat.not_lt_zero t), Below.refl _ _⟩
  case round =>
    obtain ⟨j, hj, rfl, hno, hbr⟩ := hrel
    have HNO := Lib.hid hno
    have HBR := Lib.hid hbr
    clear hno hbr
    by_cases hlt : j < ones.length
    · obtain ⟨b, off, c, he, hbl, c0, c1⟩ := HC.out wr HBR.out j hlt
      injection he with he1 he2 he3
      subst he1 he3
      have hat := HAT.out j hlt
      have HAJ := Lib.hid (fun W => HAC.out j hlt W)
      have HLJ := Lib.hid (fun W hv => HLV.out j hlt W hv)
      have hln : (live lv ones[j] cols).length ≤ 1048576 := HLN.out ones[j]
      have HSE : Hid (ones[j] = (ones[j].1, ones[j].2)) := rfl
      obtain ⟨L, hL⟩ : ∃ L, (live lv ones[j] cols).length = L := ⟨_, rfl⟩
      rw [hL] at HLJ hat hln
      obtain ⟨tb, htb⟩ : ∃ tb, tbit (side ones[j] cols) input = tb := ⟨_, rfl⟩
      have htb2 : tbit (side (ones[j].1, ones[j].2) cols) input = tb := htb
      rw [htb] at hat
      rw [htb2] at HAJ
      obtain ⟨x, hx⟩ : ∃ a, ones[j].1 = a := ⟨_, rfl⟩
      obtain ⟨y, hy⟩ : ∃ b, ones[j].2 = b := ⟨_, rfl⟩
      rw [hx, hy] at HAJ HLJ
      rw [hx] at c0
      rw [hy] at c1
      have HX := Lib.hid hat
      have hwr := HBR.out.size
      clear hat htb htb2 hL hx hy HSE
      go_wp2_with fail
      refine (HAJ.out _).mono ?_
      rintro e w1 ⟨rfl, hb1⟩
      have hs1 := hb1.size
      have HB1 := Lib.hid (HBR.out.trans (hb1.mono HBR.out.size))
      have c0 := (hb1.cell (p := ⟨b, off + j * 2, none⟩) (by show b < _; omega)).trans c0
      have c1 := (hb1.cell (p := ⟨b, off + j * 2 + 1, none⟩) (by show b < _; omega)).trans c1
      clear hb1 HAJ HBR
      cases tb with
      | false =>
        have HX2 : Hid (f j = false) := by show f j = false; rw [HX.out, Bool.false_and]
        go_wp2_with fail
        go_roundw
        case rel =>
          refine ⟨j + 1, by omega, by go_num, fun t ht => ?_, HB1.out⟩
          by_cases e : t = j
          · rw [e]; exact HX2.out
          · exact HNO.out t (by omega)
        case measure => simp [intOf]; omega
      | true =>
        go_wp2_with fail
        refine (HLJ.out _ ((HVL.out.later (Nat.le_refl _) HB1.out).mono HB1.out.size)).mono ?_
        rintro e w2 ⟨v2, rfl, ⟨p2, k2, rfl⟩, hb2⟩
        have HB2 := Lib.hid (HB1.out.trans (hb2.mono HB1.out.size))
        clear hb2 HB1 HLJ c0 c1
        have hwrap : IntKind.i64.wrap (2 * (L : Int)) = 2 * (L : Int) := IntWalk.i64_in _ ⟨by omega, by omega⟩
        by_cases hle : 2 * (L : Int) ≤ (lv.length : Int)
        · have HX2 : f j = true := by rw [HX.out, Bool.true_and]; exact decide_eq_true (by omega)
          obtain rfl := HF.out j hlt HX2 HNO.out
          clear HX2
          go_wp2_with fail
          go_ret
          exact ⟨rfl, HB2.out⟩
        · have HX2 : Hid (f j = false) := by show f j = false; rw [HX.out, Bool.true_and]; exact decide_eq_false (by omega)
          go_wp2_with fail
          go_roundw
          case rel =>
            refine ⟨j + 1, by omega, by go_num, fun t ht => ?_, HB2.out⟩
            by_cases e : t = j
            · rw [e]; exact HX2.out
            · exact HNO.out t (by omega)
          case measure => simp [intOf]; omega
    · obtain rfl : j = ones.length := by omega
      obtain rfl := HN.out HNO.out
      go_wp2_with fail
      go_ret
      exact ⟨rfl, HBR.out⟩

set_option maxHeartbeats 4000000 in
theorem spec_any (ones lv : List (Int × Int)) (hlo : ones.length ≤ 1048576) (hlen : lv.length ≤ 1048576) (vo vl : Value) (input : Int) (cols : Bool) (w : World) (hvo : RV w w.heap.size vo ones) (hvl : RV w w.heap.size vl lv) :
    Calls Try.prog 27 #[vo, vl, .int .i64 input, .bool cols] w fun e w' => e = .returned (.int .i64 (if allR ones = true ∧ allR lv = true ∧ (0 ≤ input ∧ input ≤ 7) then leastK (chAt ones lv input cols) ones.length else -1)) ∧ Below w.heap.size w w' := by
  have HA := Lib.hid (fun v w hv => spec_rects ones hlo v w hv)
  have HAL := Lib.hid (fun v w hv => spec_rects lv hlen v w hv)
  have HCS := Lib.hid (fun h1 hi w vo vl hvo hvl => choice_spec ones lv hlo hlen h1 vo vl input hi cols w hvo hvl)
  have HVO := Lib.hid hvo
  have HVL := Lib.hid hvl
  obtain ⟨r, hr⟩ : ∃ r, leastK (chAt ones lv input cols) ones.length = r := ⟨_, rfl⟩
  rw [hr] at HCS ⊢
  clear hvo hvl hr
  cases ha : allR ones with
  | false =>
    rw [if_neg (fun h => by cases h.1)]
    rw [ha] at HA
    clear ha HCS
    go_enter Try.func27, Try.ntmps27
    go_wp2_with fail
    refine (HA.out _ _ HVO.out).mono ?_
    rintro e w1 ⟨rfl, hb1⟩
    have HB1 := Lib.hid hb1
    clear hb1
    go_wp2_with fail
    go_ret
    exact ⟨rfl, HB1.out⟩
  | true =>
    cases hb : allR lv with
    | false =>
      rw [if_neg (fun h => by cases h.2.1)]
      rw [ha] at HA
      rw [hb] at HAL
      clear ha hb HCS
      go_enter Try.func27, Try.ntmps27
      go_wp2_with fail
      refine (HA.out _ _ HVO.out).mono ?_
      rintro e w1 ⟨rfl, hb1⟩
      have HB1 := Lib.hid hb1
      clear hb1
      go_wp2_with fail
      refine (HAL.out _ _ ((HVL.out.later (Nat.le_refl _) HB1.out).mono HB1.out.size)).mono ?_
      rintro e w2 ⟨rfl, hb2⟩
      have HB2 := Lib.hid (HB1.out.trans (hb2.mono HB1.out.size))
      clear hb2 HB1
      go_wp2_with fail
      go_ret
      exact ⟨rfl, HB2.out⟩
    | true =>
      by_cases hi : 0 ≤ input ∧ input ≤ 7
      · rw [if_pos ⟨rfl, rfl, hi⟩]
        have HCI := Lib.hid (HCS.out ha hi)
        have HD := Lib.hid (decide_eq_true hi)
        rw [ha] at HA
        rw [hb] at HAL
        clear ha hb HCS hi
        go_enter Try.func27, Try.ntmps27
        go_wp2_with fail
        refine (HA.out _ _ HVO.out).mono ?_
        rintro e w1 ⟨rfl, hb1⟩
        have HB1 := Lib.hid hb1
        clear hb1
        go_wp2_with fail
        refine (HAL.out _ _ ((HVL.out.later (Nat.le_refl _) HB1.out).mono HB1.out.size)).mono ?_
        rintro e w2 ⟨rfl, hb2⟩
        have HB2 := Lib.hid (HB1.out.trans (hb2.mono HB1.out.size))
        clear hb2 HB1
        go_wp2_with fail
        refine (in_any _ _ _ _).mono ?_
        rintro e w' ⟨rfl, rfl⟩
        rw [HD.out]
        go_wp2_with fail
        refine (HCI.out _ _ _ ((HVO.out.later (Nat.le_refl _) HB2.out).mono HB2.out.size) ((HVL.out.later (Nat.le_refl _) HB2.out).mono HB2.out.size)).mono ?_
        rintro e w3 ⟨rfl, hb3⟩
        have HB3 := Lib.hid (HB2.out.trans (hb3.mono HB2.out.size))
        clear hb3 HB2
        go_wp2_with fail
        go_ret
        exact ⟨rfl, HB3.out⟩
      · rw [if_neg (fun h => hi h.2.2)]
        have HD := Lib.hid (decide_eq_false hi)
        rw [ha] at HA
        rw [hb] at HAL
        clear ha hb HCS hi
        go_enter Try.func27, Try.ntmps27
        go_wp2_with fail
        refine (HA.out _ _ HVO.out).mono ?_
        rintro e w1 ⟨rfl, hb1⟩
        have HB1 := Lib.hid hb1
        clear hb1
        go_wp2_with fail
        refine (HAL.out _ _ ((HVL.out.later (Nat.le_refl _) HB1.out).mono HB1.out.size)).mono ?_
        rintro e w2 ⟨rfl, hb2⟩
        have HB2 := Lib.hid (HB1.out.trans (hb2.mono HB1.out.size))
        clear hb2 HB1
        go_wp2_with fail
        refine (in_any _ _ _ _).mono ?_
        rintro e w' ⟨rfl, rfl⟩
        rw [HD.out]
        go_wp2_with fail
        go_ret
        exact ⟨rfl, HB2.out⟩

/-- both answer alike -/
theorem both (ones lv : List (Int × Int)) (hlo : ones.length ≤ 1048576) (hlen : lv.length ≤ 1048576) (input : Int) (cols : Bool) : ∃ r : Int,
    (∀ w vo vl, RV w w.heap.size vo ones → RV w w.heap.size vl lv → Calls Try.prog 27 #[vo, vl, .int .i64 input, .bool cols] w fun e w' => e = .returned (.int .i64 r) ∧ Below w.heap.size w w') ∧
    (∀ w vo vl, RV w w.heap.size vo ones → RV w w.heap.size vl lv → Calls Try.prog 28 #[vo, vl, .int .i64 input, .bool cols] w fun e w' => e = .returned (.int .i64 r) ∧ Below w.heap.size w w') := by
  by_cases h : allR ones = true ∧ allR lv = true
  · by_cases hi : 0 ≤ input ∧ input ≤ 7
    · exact ⟨_, fun w vo vl h1 h2 => by have := spec_any ones lv hlo hlen vo vl input cols w h1 h2; rw [if_pos ⟨h.1, h.2, hi⟩] at this; exact this, fun w vo vl h1 h2 => impl_yes ones lv hlo hlen h.1 h.2 vo vl input cols w h1 h2⟩
    · refine ⟨-1, fun w vo vl h1 h2 => by have := spec_any ones lv hlo hlen vo vl input cols w h1 h2; rw [if_neg (fun h => hi h.2.2)] at this; exact this, fun w vo vl h1 h2 => ?_⟩
      have := impl_yes ones lv hlo hlen h.1 h.2 vo vl input cols w h1 h2
      rw [leastK_none (fun t ht => by simp [chAt, tbit, hi])] at this
      exact this
  · refine ⟨-1, fun w vo vl h1 h2 => by have := spec_any ones lv hlo hlen vo vl input cols w h1 h2; rw [if_neg (fun h2 => h ⟨h2.1, h2.2.1⟩)] at this; exact this, fun w vo vl h1 h2 => impl_no ones lv hlo hlen ?_ vo vl input cols w h1 h2⟩
    cases ha : allR ones <;> cases hb : allR lv <;> simp_all
end Go.Proofs.Ytcafingoghoijaa.Choice

/-
  The walk of the drawn law on ChoiceOf.
-/
namespace Go.Proofs.Ytcafingoghoijaa.fnChoice
open Go.RowKit Go.Proofs.Ytcafingoghoijaa.Plain Go.Proofs.Ytcafingoghoijaa.Rect Go.Proofs.Ytcafingoghoijaa.Rects Go.Proofs.Ytcafingoghoijaa.GuessM Go.Proofs.Ytcafingoghoijaa.GuessI Go.Proofs.Ytcafingoghoijaa.Proof Go.Proofs.Ytcafingoghoijaa.Accept Go.Proofs.Ytcafingoghoijaa.AccV Go.Proofs.Ytcafingoghoijaa.Things Go.Proofs.Ytcafingoghoijaa.LiveI Go.Proofs.Ytcafingoghoijaa.Live Go.Proofs.Ytcafingoghoijaa.ChoiceC Go.Proofs.Ytcafingoghoijaa.Choice Go.Proofs.Ytcafingoghoijaa.Rd
open Go.Proofs.Ytcafingoghoijaa.fnProofOf (least_is at_)
set_option linter.unusedVariables false

/-- both answer alike: none, or a choice -/
theorem told (ones lv : List (Int × Int)) (hlo : ones.length ≤ 1048576) (hlen : lv.length ≤ 1048576) (input : Int) (cols : Bool) : ∃ r : Int,
    (∀ w vo vl, RV w w.heap.size vo ones → RV w w.heap.size vl lv → Calls Try.prog 27 #[vo, vl, .int .i64 input, .bool cols] w fun e w' => e = .returned (.int .i64 r) ∧ Below w.heap.size w w') ∧
    (∀ w vo vl, RV w w.heap.size vo ones → RV w w.heap.size vl lv → Calls Try.prog 28 #[vo, vl, .int .i64 input, .bool cols] w fun e w' => e = .returned (.int .i64 r) ∧ Below w.heap.size w w') ∧
    (r = -1 ∨ ∃ j : Nat, ∃ hj : j < ones.length, r = (j : Int) ∧ acc ones[j] input cols = true ∧ 2 * (live lv ones[j] cols).length ≤ lv.length ∧ someB ones[j].1 ones[j].2 = true ∧ allR lv = true) := by
  by_cases h : allR ones = true ∧ allR lv = true
  · by_cases hi : 0 ≤ input ∧ input ≤ 7
    · refine ⟨_, fun w vo vl h1 h2 => by have := spec_any ones lv hlo hlen vo vl input cols w h1 h2; rw [if_pos ⟨h.1, h.2, hi⟩] at this; exact this, fun w vo vl h1 h2 => impl_yes ones lv hlo hlen h.1 h.2 vo vl input cols w h1 h2, ?_⟩
      rcases least_is (chAt ones lv input cols) ones.length with h0 | ⟨j, hj, hl, hc⟩
      · exact .inl h0
      · rw [chAt_at ones lv input cols j hl, Bool.and_eq_true] at hc
        have hr := allR_at h.1 j hl
        refine .inr ⟨j, hl, hj, ?_, of_decide_eq_true hc.2, hr, h.2⟩
        unfold acc
        rw [hr, Bool.true_and]
        exact hc.1
    · refine ⟨-1, fun w vo vl h1 h2 => by have := spec_any ones lv hlo hlen vo vl input cols w h1 h2; rw [if_neg (fun h => hi h.2.2)] at this; exact this, fun w vo vl h1 h2 => ?_, .inl rfl⟩
      have := impl_yes ones lv hlo hlen h.1 h.2 vo vl input cols w h1 h2
      rw [leastK_none (fun t ht => by simp [chAt, tbit, hi])] at this
      exact this
  · refine ⟨-1, fun w vo vl h1 h2 => by have := spec_any ones lv hlo hlen vo vl input cols w h1 h2; rw [if_neg (fun h2 => h ⟨h2.1, h2.2.1⟩)] at this; exact this, fun w vo vl h1 h2 => impl_no ones lv hlo hlen ?_ vo vl input cols w h1 h2, .inl rfl⟩
    cases ha : allR ones <;> cases hb : allR lv <;> simp_all

set_option maxHeartbeats 8000000 in
theorem walk (v : Value) (n : Nat) (w : World) (h : ByteArg w v n) :
    Calls Try.prog 12 #[v] w fun e w' => e = .returned (.bool true) ∧ Below w.heap.size w w' := by
  obtain ⟨hn0, a, c, rfl, hc, hb0⟩ := id h
  clear hb0
  have HD := Lib.hid (Go.Proofs.Ytcafingoghoijaa.DrawCh.draw_any _ n w h)
  clear h
  by_cases hbig : 1048576 < n
  · have hbi : (1048576 : Int) < (n : Int) := by omega
    go_enter Try.func12, Try.ntmps12
    go_wp2_with fail
    go_ret
    exact ⟨rfl, Below.refl _ _⟩
  · have hbi : ¬ (1048576 : Int) < (n : Int) := by omega
    go_enter Try.func12, Try.ntmps12
    go_wp2_with fail
    refine HD.out.mono ?_
    rintro e w1 ⟨vo, vl, ones, lv, x, cols, rfl, hlo0, hl0, hro, hrl, hb⟩
    obtain ⟨p, k, rfl⟩ := hro.slice
    obtain ⟨q, m, rfl⟩ := hrl.slice
    have hlo : ones.length ≤ 1048576 := by omega
    have hlen : lv.length ≤ 1048576 := by omega
    obtain ⟨r, hspec, himpl, hr⟩ := told ones lv hlo hlen x cols
    have HS := Lib.hid hspec
    have HI := Lib.hid himpl
    have HR := Lib.hid hr
    have HV1 := Lib.hid hro
    have HU1 := Lib.hid hrl
    have HB1 := Lib.hid hb
    clear hspec himpl hr hro hrl hb HD hbig hbi
    go_wp2_with fail
    refine (HI.out _ _ _ HV1.out HU1.out).mono ?_
    rintro e w2 ⟨rfl, hb2⟩
    have HV2 := Lib.hid (at_ HV1.out hb2)
    have HU2 := Lib.hid (at_ HU1.out hb2)
    have HB2 := Lib.hid (HB1.out.trans (hb2.mono HB1.out.size))
    clear hb2 HV1 HU1 HB1 HI
    go_wp2_with fail
    refine (HS.out _ _ _ HV2.out HU2.out).mono ?_
    rintro e w3 ⟨rfl, hb3⟩
    have HV3 := Lib.hid (at_ HV2.out hb3)
    have HU3 := Lib.hid (at_ HU2.out hb3)
    have HB3 := Lib.hid (HB2.out.trans (hb3.mono HB2.out.size))
    clear hb3 HV2 HU2 HB2
    rcases HR.out with rfl | ⟨j, hj, rfl, hac, hle, hsb, hal⟩
    · go_wp2_with fail
      refine (HS.out _ _ _ HV3.out HU3.out).mono ?_
      rintro e w4 ⟨rfl, hb4⟩
      have HB4 := Lib.hid (HB3.out.trans (hb4.mono HB3.out.size))
      clear hb4 HV3 HU3 HB3
      go_wp2_with fail
      go_ret
      exact ⟨rfl, HB4.out⟩
    · obtain ⟨b, off, cc, he, hbl, c0, c1⟩ := rv_at HV3.out j hj
      injection he with he1 he2 he3
      subst he1 he3
      have hneg : ¬ (j : Int) < 0 := by omega
      have hL : (live lv ones[j] cols).length ≤ 1048576 := Nat.le_trans (kept_len lv _) hlen
      have HA := Lib.hid (fun W hv => accRow ones (.slice (some ⟨b, off, none⟩) ones.length k) j hj x W hv)
      have HC := Lib.hid (fun W hv => accCol ones (.slice (some ⟨b, off, none⟩) ones.length k) j hj x W hv)
      have HL := Lib.hid (fun W v hv => (Go.Proofs.Ytcafingoghoijaa.Live.impl_yes lv hlen v ones[j].1 ones[j].2 cols hsb hal W hv).mono (R' := fun e w' => ∃ v, e = .returned v ∧ (∃ p' k', v = .slice p' (live lv ones[j] cols).length k') ∧ Below W.heap.size W w') (fun e w' h => by obtain ⟨v, h1, h2, h3⟩ := h; exact ⟨v, h1, own_slice h2, h3⟩))
      obtain ⟨L, hLL⟩ : ∃ L, (live lv ones[j] cols).length = L := ⟨_, rfl⟩
      rw [hLL] at HL hle hL
      have hle2 : 2 * (L : Int) ≤ (lv.length : Int) := by omega
      have hwrap : IntKind.i64.wrap (2 * (L : Int)) = 2 * (L : Int) := IntWalk.i64_in _ ⟨by omega, by omega⟩
      obtain ⟨x0, hx0⟩ : ∃ a, ones[j].1 = a := ⟨_, rfl⟩
      obtain ⟨y0, hy0⟩ : ∃ a, ones[j].2 = a := ⟨_, rfl⟩
      rw [hx0, hy0] at HL
      rw [hx0] at c0
      rw [hy0] at c1
      have HAC := Lib.hid hac
      obtain ⟨b1, h1⟩ : ∃ b, acc ones[j] x false = b := ⟨_, rfl⟩
      obtain ⟨b2, h2⟩ : ∃ b, acc ones[j] x true = b := ⟨_, rfl⟩
      rw [h1] at HA
      rw [h2] at HC
      have HE := Lib.hid (And.intro h1 h2)
      clear hac hle hsb hal hLL hx0 hy0 h1 h2 HS HR
      go_wp2_with fail
      refine (HA.out _ HV3.out).mono ?_
      rintro e w4 ⟨rfl, hb4⟩
      have c0 := (hb4.cell (p := ⟨b, off + j * 2, none⟩) hbl).trans c0
      have c1 := (hb4.cell (p := ⟨b, off + j * 2 + 1, none⟩) hbl).trans c1
      have hs4 := hb4.size
      have HV4 := Lib.hid (at_ HV3.out hb4)
      have HU4 := Lib.hid (at_ HU3.out hb4)
      have HB4 := Lib.hid (HB3.out.trans (hb4.mono HB3.out.size))
      clear hb4 HV3 HU3 HB3 HA
      cases cols with
      | false =>
        obtain rfl : b1 = true := by rw [← HE.out.1]; exact HAC.out
        clear HC
        go_wp2_with fail
        refine (HL.out _ _ HU4.out).mono ?_
        rintro e w5 ⟨v5, rfl, ⟨p5, k5, rfl⟩, hb5⟩
        have HB5 := Lib.hid (HB4.out.trans (hb5.mono HB4.out.size))
        clear hb5 HB4 HV4 HU4 HL c0 c1
        go_wp2_with fail
        go_ret
        exact ⟨rfl, HB5.out⟩
      | true =>
        obtain rfl : b2 = true := by rw [← HE.out.2]; exact HAC.out
        go_wp2_with fail
        refine (HC.out _ HV4.out).mono ?_
        rintro e w5 ⟨rfl, hb5⟩
        have c0 := (hb5.cell (p := ⟨b, off + j * 2, none⟩) (by show b < _; omega)).trans c0
        have c1 := (hb5.cell (p := ⟨b, off + j * 2 + 1, none⟩) (by show b < _; omega)).trans c1
        have HU5 := Lib.hid (at_ HU4.out hb5)
        have HB5 := Lib.hid (HB4.out.trans (hb5.mono HB4.out.size))
        clear hb5 HB4 HV4 HU4 HC
        go_wp2_with fail
        refine (HL.out _ _ HU5.out).mono ?_
        rintro e w6 ⟨v6, rfl, ⟨p6, k6, rfl⟩, hb6⟩
        have HB6 := Lib.hid (HB5.out.trans (hb6.mono HB5.out.size))
        clear hb6 HB5 HU5 HL c0 c1
        go_wp2_with fail
        go_ret
        exact ⟨rfl, HB6.out⟩
end Go.Proofs.Ytcafingoghoijaa.fnChoice

