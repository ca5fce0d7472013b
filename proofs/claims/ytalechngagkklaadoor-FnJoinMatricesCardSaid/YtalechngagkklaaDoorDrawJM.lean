/-
  The drawing function DrawJoinMatrices.
-/
import Derived.Test.YtalechngagkklaaDoorKeptR
import Derived.Test.YtalechngagkklaaDoorValid
import Derived.Deep.RegionWith
namespace Go.Proofs.YtalechngagkklaaDoor.DrawJM
open Go.RowKit Go.Proofs.YtalechngagkklaaDoor.Plain Go.Proofs.YtalechngagkklaaDoor.Base Go.Proofs.YtalechngagkklaaDoor.Valid Go.Proofs.YtalechngagkklaaDoor.Rd Go.Proofs.YtalechngagkklaaDoor.Rd2 Go.Proofs.YtalechngagkklaaDoor.Rd3 Go.Proofs.YtalechngagkklaaDoor.Rd5 Go.Proofs.YtalechngagkklaaDoor.Rd6 Go.Proofs.YtalechngagkklaaDoor.Rd7 Go.Proofs.YtalechngagkklaaDoor.FreeD Go.Proofs.YtalechngagkklaaDoor.KeptR
open Go.Proofs.YtalechngagkklaaDoor.Free (fill wp_value wp_enter)
set_option linter.unusedVariables false

abbrev M (a b : Int) (t : ByteArray) : Obj := .cells #[.int .i64 a, .int .i64 b, .string t] 24 (0, 0)
/-- the end: a name is drawn, and all is handed back -/
def Done (w : World) (e : Ending) (w' : World) : Prop := ∃ (op : ByteArray) (a b : Int) (t : ByteArray) (a2 b2 : Int) (t2 : ByteArray), e = .returned (.tuple #[.string op, mtx a b t, mtx a2 b2 t2]) ∧ op.size ≤ 3 ∧ t.size ≤ 100 ∧ t2.size ≤ 100 ∧ Below w.heap.size w w'

set_option maxHeartbeats 8000000 in
set_option maxRecDepth 100000 in
theorem draw_any (v : Value) (n : Nat) (w : World) (h : ByteArg w v n) :
    Calls Tryd.prog 43 #[v] w (Done w) := by
  have hst := two_start_below w (.cells #[.int .i64 0, .int .i64 0, .string ⟨#[]⟩] 24) (.cells #[.int .i64 0, .int .i64 0, .string ⟨#[]⟩] 24)
  have h1 := h.later hst
  have HO := Lib.hid (open_any v n _ h1)
  have HST := Lib.hid hst
  clear h h1 hst
  go_enter Tryd.func43, Tryd.ntmps43
  go_wp2_with fail
  refine HO.out.mono ?_
  rintro e w1 ⟨g, rfl, hr, hb, hg⟩
  have hs2 : w.heap.size + 2 ≤ g := by simp at hg; omega
  have r1 : w1.heap[w.heap.size]? = some (M 0 0 ⟨#[]⟩) := (hb.block _ (by simp; omega)).trans ((Below.heap_alloc _ _ _ (by simp)).trans (heap_alloc_new w _))
  have r2 : w1.heap[w.heap.size + 1]? = some (M 0 0 ⟨#[]⟩) := (hb.block _ (by simp)).trans (by have := heap_alloc_new (w.alloc (.cells #[.int .i64 0, .int .i64 0, .string ⟨#[]⟩] 24)) (.cells #[.int .i64 0, .int .i64 0, .string ⟨#[]⟩] 24); rwa [World.size_alloc] at this)
  have HK1 : Hid (Kr g w w1 [(w.heap.size + 1, M 0 0 ⟨#[]⟩), (w.heap.size, M 0 0 ⟨#[]⟩)]) := by
    refine ⟨fun p hp => ?_, HST.out.trans (hb.mono (by simp; omega)), by omega⟩
    simp only [List.mem_cons, List.not_mem_nil, or_false] at hp
    rcases hp with rfl | rfl
    · exact ⟨by simp only; omega, r2⟩
    · exact ⟨by simp only; omega, r1⟩
  have hgr := hr.lt
  have HT := Lib.hid (open_mat g 0 (by omega) w1 hr)
  clear hr hb hg r1 r2 HO HST
  go_wp2_with fail
  refine HT.out.mono ?_
  rintro e w2 ⟨a, b, t, p, rfl, wa, wb, ht, hp1, hp2, hr, ha⟩
  obtain ⟨B6, hB6⟩ : ∃ x, w2.heap.size = x := ⟨_, rfl⟩
  have hg2 : g < B6 := by have := hr.lt; omega
  have HK2 : Hid (Kr g w (w2.alloc (.cells #[.int .i64 a, .int .i64 b, .string t] 24)) [(B6, M a b t), (w.heap.size + 1, M 0 0 ⟨#[]⟩), (w.heap.size, M 0 0 ⟨#[]⟩)]) := (HK1.out.later ha).put _ hB6 (by omega)
  have hr2 := hr.later ((Below.refl w2.heap.size w2).alloc (Nat.le_refl _) (.cells #[.int .i64 a, .int .i64 b, .string t] 24))
  have HT2 := Lib.hid (open_mat g p (by omega) _ hr2)
  clear hr hr2 ha HT HK1
  go_wp2_with fail
  clear hB6
  refine HT2.out.mono ?_
  rintro e w3 ⟨a2, b2, t2, p2, rfl, wa2, wb2, ht2, hp3, hp4, hr, ha⟩
  obtain ⟨B7, hB7⟩ : ∃ x, w3.heap.size = x := ⟨_, rfl⟩
  have hk3 := HK2.out.later ha
  have h67 : B6 < B7 := by have := (Array.getElem?_eq_some_iff.1 (hk3.at 0 rfl)).1; simp only at this; omega
  have HK3 : Hid (Kr g w (w3.alloc (.cells #[.int .i64 a2, .int .i64 b2, .string t2] 24)) [(B7, M a2 b2 t2), (B6, M a b t), (w.heap.size + 1, M 0 0 ⟨#[]⟩), (w.heap.size, M 0 0 ⟨#[]⟩)]) := hk3.put _ hB7 (by have := hr.lt; omega)
  have hr3 := hr.later ((Below.refl w3.heap.size w3).alloc (Nat.le_refl _) (.cells #[.int .i64 a2, .int .i64 b2, .string t2] 24))
  have HP := Lib.hid (pick_r g p2 (by omega) 4 _ hr3)
  clear hr hr3 ha HT2 HK2 hk3 wa wb wa2 wb2
  go_wp2_with fail
  clear hB7
  refine HP.out.mono ?_
  rintro e w4 ⟨x, rfl, ⟨hx0, -⟩, hx4, hr, ha⟩
  have HK4 := Lib.hid (HK3.out.later ha)
  have HR4 := Lib.hid hr
  clear hr ha HP HK3
  by_cases hx : x = 0
  · subst hx
    have hlow : w.heap.size + 2 ≤ g ∧ g < B6 ∧ B6 < B7 := ⟨hs2, hg2, h67⟩
    have HM := Lib.hid (name_any g (p2 + 1) (by omega) w4.drew (HR4.out.later (drawn_at w4 1)))
    obtain ⟨n0, n1, n2, -, -, -⟩ := cells3 (HK4.out.at 0 rfl)
    obtain ⟨m0, m1, m2, -, -, -⟩ := cells3 (HK4.out.at 1 rfl)
    obtain ⟨p0, p1, p2', f0, f1, f2⟩ := cells3 (HK4.out.at 2 rfl)
    obtain ⟨o0, o1, o2, g0, g1, g2⟩ := cells3 (HK4.out.at 3 rfl)
    go_wp2_with fail
    go_region_with (first
      | (go_at_call 98; refine HM.out.mono ?_; rintro e w9 ⟨op, rfl, hop, hr9, ha9⟩; have HK9 := Lib.hid (HK4.out.drew.later ha9); have HOP := Lib.hid hop; obtain ⟨n0, n1, n2, -, -, -⟩ := cells3 (HK9.out.at 0 rfl); obtain ⟨m0, m1, m2, -, -, -⟩ := cells3 (HK9.out.at 1 rfl); obtain ⟨p0, p1, p2', f0, f1, f2⟩ := cells3 (HK9.out.at 2 rfl); obtain ⟨o0, o1, o2, g0, g1, g2⟩ := cells3 (HK9.out.at 3 rfl); clear hr9 ha9 hop))
    all_goals
      go_wp2_with fail
      refine bodyPost_ret (v := .tuple #[.string op, mtx a b t, mtx a2 b2 t2]) (by simp [results, Tryd.results43, go_sem, o0, o1, o2, p0, p1, p2']) rfl ⟨op, a, b, t, a2, b2, t2, rfl, HOP.out, ht, ht2, ?_⟩
      exact (((((HK9.out.below.setCell (by simp) _).setCell (by simp) _).setCell (by simp) _).setCell (by simp) _).setCell (by simp) _).setCell (by simp) _
  · have hxp : 0 < x := by omega
    have HV := Lib.hid (spec_valid a b t (by unfold maxLen; omega) w4)
    obtain ⟨bv, hbv⟩ : ∃ bv, validB a b t = bv := ⟨_, rfl⟩
    rw [hbv] at HV
    obtain ⟨m0, m1, m2, -, -, -⟩ := cells3 (HK4.out.at 1 rfl)
    go_wp2_with fail
    clear m0 m1 m2
    refine HV.out.mono ?_
    rintro e w5 ⟨rfl, hb5⟩
    have HK5 := Lib.hid (HK4.out.on hb5)
    have HR5 := Lib.hid (HR4.out.later hb5)
    clear hb5 HK4 HR4 HV
    cases bv
    · have hlow : w.heap.size + 2 ≤ g ∧ g < B6 ∧ B6 < B7 := ⟨hs2, hg2, h67⟩
      have HM := Lib.hid (name_any g (p2 + 1) (by omega) w5.drew (HR5.out.later (drawn_at w5 1)))
      obtain ⟨n0, n1, n2, -, -, -⟩ := cells3 (HK5.out.at 0 rfl)
      obtain ⟨m0, m1, m2, -, -, -⟩ := cells3 (HK5.out.at 1 rfl)
      obtain ⟨p0, p1, p2', f0, f1, f2⟩ := cells3 (HK5.out.at 2 rfl)
      obtain ⟨o0, o1, o2, g0, g1, g2⟩ := cells3 (HK5.out.at 3 rfl)
      go_wp2_with fail
      go_region_with (first
        | (go_at_call 98; refine HM.out.mono ?_; rintro e w9 ⟨op, rfl, hop, hr9, ha9⟩; have HK9 := Lib.hid (HK5.out.drew.later ha9); have HOP := Lib.hid hop; obtain ⟨n0, n1, n2, -, -, -⟩ := cells3 (HK9.out.at 0 rfl); obtain ⟨m0, m1, m2, -, -, -⟩ := cells3 (HK9.out.at 1 rfl); obtain ⟨p0, p1, p2', f0, f1, f2⟩ := cells3 (HK9.out.at 2 rfl); obtain ⟨o0, o1, o2, g0, g1, g2⟩ := cells3 (HK9.out.at 3 rfl); clear hr9 ha9 hop))
      all_goals
        go_wp2_with fail
        refine bodyPost_ret (v := .tuple #[.string op, mtx a b t, mtx a2 b2 t2]) (by simp [results, Tryd.results43, go_sem, o0, o1, o2, p0, p1, p2']) rfl ⟨op, a, b, t, a2, b2, t2, rfl, HOP.out, ht, ht2, ?_⟩
        exact (((((HK9.out.below.setCell (by simp) _).setCell (by simp) _).setCell (by simp) _).setCell (by simp) _).setCell (by simp) _).setCell (by simp) _
    · obtain ⟨n0, n1, n2, h0, h1', h2'⟩ := cells3 (HK5.out.at 0 rfl)
      obtain ⟨m0, m1, m2, -, -, -⟩ := cells3 (HK5.out.at 1 rfl)
      have hne : w.heap.size ≤ B7 := by omega
      go_wp2_with fail
      have HK6 := Lib.hid ((HK5.out).sets (v0 := .int .i64 a) (v1 := .int .i64 b) (v2 := .string ⟨#[]⟩) (fun p hp => by simp only [List.mem_cons, List.not_mem_nil, or_false] at hp; rcases hp with rfl | rfl | rfl <;> simp only <;> omega) (by omega))
      have HR6 := Lib.hid (rdr_set (rdr_set (rdr_set HR5.out B7 0 (.int .i64 a) (by omega)) B7 1 (.int .i64 b) (by omega)) B7 2 (.string ⟨#[]⟩) (by omega))
      clear n0 n1 n2 h0 h1' h2' m0 m1 m2 HK5 HR5
      generalize ((w5.setCell ⟨B7, 0, none⟩ (.int .i64 a)).setCell ⟨B7, 1, none⟩ (.int .i64 b)).setCell ⟨B7, 2, none⟩ (.string ⟨#[]⟩) = w6 at *
      go_loopw [8] (fun i wr => ∃ (q p' : Nat) (t' : ByteArray), q ≤ t.size ∧ i = .int .i64 (q : Int) ∧ Hid (t'.size = q ∧ p2 + 1 ≤ p' ∧ p' ≤ p2 + 1 + q ∧ Kr g w wr [(B7, M a b t'), (B6, M a b t), (w.heap.size + 1, M 0 0 ⟨#[]⟩), (w.heap.size, M 0 0 ⟨#[]⟩)] ∧ Rdr wr g p')) (fun i _ => t.size - (intOf i).toNat)
      case atStart => exact ⟨0, p2 + 1, _, by omega, rfl, ⟨rfl, by omega, by omega, HK6.out, HR6.out⟩⟩
      case round =>
        clear HK6 HR6
        obtain ⟨q, p', t', hq, rfl, HH⟩ := hrel
        have hpq : p' < 1000000 := by have := HH.out.2.2.1; omega
        have hts : t'.size ≤ 100 := by have := HH.out.1; omega
        obtain ⟨m0, m1, m2, -, -, -⟩ := cells3 (HH.out.2.2.2.1.at 1 rfl)
        by_cases hlt : q < t.size
        · go_wp2_with fail
          clear m0 m1 m2
          refine wp_region_dr g p' (fun | 0 => fun v => v = .pointer (some ⟨B7, 2, none⟩) | 1 => fun v => v = .string t' | 2 => fun v => v = .pointer (some ⟨g, 0, none⟩) | 3 => fun v => ∃ x : Int, v = .int .i64 x | 4 => fun v => ∃ b : Bool, v = .bool b | 5 => fun v => ∃ b : Bool, v = .string ⟨#[dig b]⟩ | 6 => fun v => ∃ b : Bool, v = .string (t' ++ ⟨#[dig b]⟩) | 7 => fun v => v = .pointer (some ⟨B7, 2, none⟩) | _ => fun _ => True) 3 8 (fun wa wb => ∃ b : Bool, wb = wa.setCell ⟨B7, 2, none⟩ (.string (t' ++ ⟨#[dig b]⟩))) _ (by kernel_rfl) (by kernel_rfl) rfl rfl rfl rfl (by omega) (by kernel_rfl) HH.out.2.2.2.2 ?con ?dr ?st ?en
          case con =>
            intro i o ho hi hid a wx hax hf
            obtain ⟨m0, m1, m2, m3, m4, m5⟩ := cells3 ((HH.out.2.2.2.1.later hax).at 0 rfl)
            match i, ho with
            | 0, ho =>
              obtain rfl := Option.some.inj ho
              have b7 : a.tmps[7]?.getD undef = .pointer (some ⟨B7, 0, none⟩) := hf.2 7 (by kernel_rfl)
              exact wp_value (.pointer (some ⟨B7, 2, none⟩)) (by unfold execOp; go_simp) ⟨_, rfl, rfl, Below.refl _ _⟩
            | 1, ho =>
              obtain rfl := Option.some.inj ho
              have e0 : a.tmps[34]?.getD undef = .pointer (some ⟨B7, 2, none⟩) := hf.1 ⟨0, .data⟩ (by simp) rfl _ 34 rfl rfl
              exact wp_value (.string t') (by unfold execOp; go_simp) ⟨_, rfl, rfl, Below.refl _ _⟩
            | 2, ho =>
              obtain rfl := Option.some.inj ho
              have b5 : a.tmps[5]?.getD undef = .pointer (some ⟨g, 0, none⟩) := hf.2 5 (by kernel_rfl)
              exact wp_value (.pointer (some ⟨g, 0, none⟩)) (by unfold execOp; go_simp) ⟨_, rfl, rfl, Below.refl _ _⟩
            | 3, ho => exact absurd rfl hid
            | 4, ho =>
              obtain rfl := Option.some.inj ho
              obtain ⟨x, e3⟩ : ∃ x : Int, a.tmps[37]?.getD undef = .int .i64 x := hf.1 ⟨3, .data⟩ (by simp) rfl _ 37 rfl rfl
              exact wp_value (.bool (x == 0)) (by unfold execOp; go_simp) ⟨_, rfl, ⟨_, rfl⟩, Below.refl _ _⟩
            | 5, ho =>
              obtain rfl := Option.some.inj ho
              obtain ⟨b, e4⟩ : ∃ b : Bool, a.tmps[38]?.getD undef = .bool b := hf.1 ⟨4, .data⟩ (by simp) rfl _ 38 rfl rfl
              exact wp_enter 97 #[.bool b] (.string ⟨#[dig b]⟩) (fun w' => wx = w') (by unfold execOp; go_simp) (l1Bit_any b wx) (fun w' h => by subst h; exact ⟨_, rfl, ⟨b, rfl⟩, Below.refl _ _⟩)
            | 6, ho =>
              obtain rfl := Option.some.inj ho
              have e1 : a.tmps[35]?.getD undef = .string t' := hf.1 ⟨1, .data⟩ (by simp) rfl _ 35 rfl rfl
              obtain ⟨b, e5⟩ : ∃ b : Bool, a.tmps[39]?.getD undef = .string ⟨#[dig b]⟩ := hf.1 ⟨5, .data⟩ (by simp) rfl _ 39 rfl rfl
              have hcat := run_string_add_sum (P := Tryd.prog) (w := wx) t' ⟨#[dig b]⟩ (by show t'.size + 1 ≤ 9223372036854775807; omega)
              exact wp_value (.string (t' ++ ⟨#[dig b]⟩)) (by unfold execOp; go_simp) ⟨_, rfl, ⟨b, rfl⟩, Below.refl _ _⟩
            | 7, ho =>
              obtain rfl := Option.some.inj ho
              have b7 : a.tmps[7]?.getD undef = .pointer (some ⟨B7, 0, none⟩) := hf.2 7 (by kernel_rfl)
              exact wp_value (.pointer (some ⟨B7, 2, none⟩)) (by unfold execOp; go_simp) ⟨_, rfl, rfl, Below.refl _ _⟩
            | q + 8, ho => exact absurd hi (by omega)
          case dr =>
            intro o ho a wx hax hrx hf
            obtain rfl := Option.some.inj ho
            have e2 : a.tmps[36]?.getD undef = .pointer (some ⟨g, 0, none⟩) := hf.1 ⟨2, .data⟩ (by simp) rfl _ 36 rfl rfl
            exact wp_enterE 85 #[.pointer (some ⟨g, 0, none⟩), .int .i64 2] (fun v w' => ∃ x' : Int, v = .int .i64 x' ∧ Rdr w' g (p' + 1) ∧ Apt g wx w') (by unfold execOp; go_simp)
              ((pick_r g p' (by omega) 2 wx hrx).mono fun e w' h => by obtain ⟨x, he, hx0, hx1, hr, ha⟩ := h; exact ⟨_, he, (⟨x, rfl, hr, ha⟩ : ∃ x' : Int, Value.int .i64 x = .int .i64 x' ∧ Rdr w' g (p' + 1) ∧ Apt g wx w')⟩)
              (fun v w' h => by obtain ⟨x, rfl, hr, ha⟩ := h; exact ⟨_, rfl, ⟨x, rfl⟩, ha, hr⟩)
          case st =>
            intro a wx hax hrx hf
            obtain ⟨m0, m1, m2, m3, m4, m5⟩ := cells3 ((HH.out.2.2.2.1.later hax).at 0 rfl)
            obtain ⟨b, e6⟩ : ∃ b : Bool, a.tmps[40]?.getD undef = .string (t' ++ ⟨#[dig b]⟩) := hf.1 ⟨6, .data⟩ (by simp) rfl _ 40 rfl rfl
            have e7 : a.tmps[41]?.getD undef = .pointer (some ⟨B7, 2, none⟩) := hf.1 ⟨7, .data⟩ (by simp) rfl _ 41 rfl rfl
            exact Go.Proofs.YtalechngagkklaaDoor.Rd6.wp_skip (w' := wx.setCell ⟨B7, 2, none⟩ (.string (t' ++ ⟨#[dig b]⟩))) (by unfold execOp; go_simp) ⟨rfl, b, rfl⟩
          case en =>
            rintro vs wa wb haw hrw ⟨bb, rfl⟩ -
            have HI6 := Lib.hid ((HH.out.2.2.2.1.later haw).set3 (v := .string (t' ++ ⟨#[dig bb]⟩)) (fun p hp => by simp only [List.mem_cons, List.not_mem_nil, or_false] at hp; rcases hp with rfl | rfl | rfl <;> simp only <;> omega) (by omega))
            have HR6 := Lib.hid (rdr_set hrw B7 2 (.string (t' ++ ⟨#[dig bb]⟩)) (by omega))
            have HTS : Hid ((t' ++ ⟨#[dig bb]⟩).size = q + 1) := by unfold Hid; rw [ByteArray.size_append, HH.out.1]; rfl
            have HPP := Lib.hid (And.intro HH.out.2.1 HH.out.2.2.1)
            clear haw hrw HH
            generalize t' ++ ⟨#[dig bb]⟩ = t'' at *
            simp only [fill, Act.put]
            go_simp
            go_wp2_with fail
            go_roundw
            case rel => exact ⟨q + 1, p' + 1, t'', by omega, by go_num, ⟨HTS.out, by have := HPP.out; omega, by have := HPP.out; omega, HI6.out, HR6.out⟩⟩
            case measure => simp [intOf]; omega
        · obtain rfl : q = t.size := by omega
          have HK7 := Lib.hid HH.out.2.2.2.1
          have HR7 := Lib.hid HH.out.2.2.2.2
          clear HH
          go_wp2_with fail
          clear m0 m1 m2
          have hlow : w.heap.size + 2 ≤ g ∧ g < B6 ∧ B6 < B7 := ⟨hs2, hg2, h67⟩
          have HM := Lib.hid (name_any g p' (by omega) wr.drew (HR7.out.later (drawn_at wr 1)))
          obtain ⟨n0, n1, n2, -, -, -⟩ := cells3 (HK7.out.at 0 rfl)
          obtain ⟨m0, m1, m2, -, -, -⟩ := cells3 (HK7.out.at 1 rfl)
          obtain ⟨p0, p1, p2', f0, f1, f2⟩ := cells3 (HK7.out.at 2 rfl)
          obtain ⟨o0, o1, o2, g0, g1, g2⟩ := cells3 (HK7.out.at 3 rfl)
          go_wp2_with fail
          go_region_with (first
            | (go_at_call 98; refine HM.out.mono ?_; rintro e w9 ⟨op, rfl, hop, hr9, ha9⟩; have HK9 := Lib.hid (HK7.out.drew.later ha9); have HOP := Lib.hid hop; obtain ⟨n0, n1, n2, -, -, -⟩ := cells3 (HK9.out.at 0 rfl); obtain ⟨m0, m1, m2, -, -, -⟩ := cells3 (HK9.out.at 1 rfl); obtain ⟨p0, p1, p2', f0, f1, f2⟩ := cells3 (HK9.out.at 2 rfl); obtain ⟨o0, o1, o2, g0, g1, g2⟩ := cells3 (HK9.out.at 3 rfl); clear hr9 ha9 hop))
          all_goals
            go_wp2_with fail
            refine bodyPost_ret (v := .tuple #[.string op, mtx a b t, mtx a b t']) (by simp [results, Tryd.results43, go_sem, o0, o1, o2, p0, p1, p2']) rfl ⟨op, a, b, t, a, b, t', rfl, HOP.out, ht, hts, ?_⟩
            exact (((((HK9.out.below.setCell (by simp) _).setCell (by simp) _).setCell (by simp) _).setCell (by simp) _).setCell (by simp) _).setCell (by simp) _
end Go.Proofs.YtalechngagkklaaDoor.DrawJM
