/-
  The drawing function l2Mono.
-/
import Derived.Test.YtgmhddceeomjbaaGreatDoorRd8
namespace Go.Proofs.YtgmhddceeomjbaaGreatDoor.Rd9
open Go.RowKit Go.Proofs.YtgmhddceeomjbaaGreatDoor.Plain Go.Proofs.YtgmhddceeomjbaaGreatDoor.Base Go.Proofs.YtgmhddceeomjbaaGreatDoor.Valid Go.Proofs.YtgmhddceeomjbaaGreatDoor.Pat Go.Proofs.YtgmhddceeomjbaaGreatDoor.Rect Go.Proofs.YtgmhddceeomjbaaGreatDoor.Rd Go.Proofs.YtgmhddceeomjbaaGreatDoor.Rd2 Go.Proofs.YtgmhddceeomjbaaGreatDoor.Rd3 Go.Proofs.YtgmhddceeomjbaaGreatDoor.Rd4 Go.Proofs.YtgmhddceeomjbaaGreatDoor.Rd5 Go.Proofs.YtgmhddceeomjbaaGreatDoor.Rd6 Go.Proofs.YtgmhddceeomjbaaGreatDoor.Rd7 Go.Proofs.YtgmhddceeomjbaaGreatDoor.Rd8 Go.Proofs.YtgmhddceeomjbaaGreatDoor.FreeD
open Go.Proofs.YtgmhddceeomjbaaGreatDoor.Free (fill wp_value wp_enter wp_load_row freeB setRow_kept)
set_option linter.unusedVariables false

theorem rinfoM : (Tryz.prog.info? 34).map (·.size) = some 2 := by kernel_rfl
/-- what is known in the midst of l2Mono: the matrix' box, the result's block, the local rectangle's block -/
structure MI (g : Nat) (w wr : World) (r c : Int) (s : ByteArray) (b : Nat) (x y : Int) : Prop where
  two : Two g w wr 27 34 #[.int .i64 r, .int .i64 c, .string s] #[.int .i64 0, .int .i64 0]
  loc : wr.heap[b]? = some (.cells #[.int .i64 x, .int .i64 y] 34 (0, 0))
  lo : w.heap.size + 2 ≤ b
  hg : g < w.heap.size
theorem MI.lt {g : Nat} {w wr : World} {r c : Int} {s : ByteArray} {b : Nat} {x y : Int} (h : MI g w wr r c s b x y) : b < wr.heap.size := (Array.getElem?_eq_some_iff.1 h.loc).1
theorem MI.later {g : Nat} {w wr w2 : World} {r c : Int} {s : ByteArray} {b : Nat} {x y : Int} (h : MI g w wr r c s b x y) (ha : Apt g wr w2) : MI g w w2 r c s b x y :=
  ⟨h.two.later h.hg ha, (ha.block _ h.lt (by have := h.hg; have := h.lo; omega)).trans h.loc, h.lo, h.hg⟩

set_option maxHeartbeats 4000000 in
set_option maxRecDepth 100000 in
theorem mono_rect {L0 : Nat} (g p : Nat) (hp : p < 1048000) (r c : Int) (s : ByteArray) (hs : s.size ≤ 100) (w : World) (h : Rdr L0 w g p) :
    Calls Tryz.prog 48 #[.pointer (some ⟨g, 0, none⟩), mtx r c s] w fun e w' => ∃ (x y : Int) (p' : Nat), e = .returned (.agg #[.int .i64 x, .int .i64 y]) ∧ W64 x ∧ W64 y ∧ p ≤ p' ∧ p' ≤ p + 10 ∧ Rdr L0 w' g p' ∧ Apt g w w' := by
  have hg := h.lt
  have h0 := h.later (two_start_below w (.cells #[.int .i64 r, .int .i64 c, .string s] 27) (.cells #[.int .i64 0, .int .i64 0] 34))
  have hT := Two.start g w 27 34 #[.int .i64 r, .int .i64 c, .string s] #[.int .i64 0, .int .i64 0]
  have HV := Lib.hid (fun W => spec_valid r c s (by unfold maxLen; omega) W)
  go_enter Tryz.func48, Tryz.ntmps48
  have HT0 := Lib.hid hT
  have HR0 := Lib.hid h0
  clear hT h0 h
  go_wp2_with fail
  refine (HV.out _).mono ?_
  rintro e w1 ⟨rfl, hb1⟩
  have HT := Lib.hid (HT0.out.later hg (Apt.of_below hb1))
  have HR := Lib.hid (HR0.out.later hb1)
  clear hb1 HT0 HR0
  obtain ⟨m0, m1, m2, -, -, -⟩ := cells3 HT.out.one
  obtain ⟨t, ht⟩ : ∃ t, validB r c s = t := ⟨_, rfl⟩
  rw [ht]
  cases t
  · clear ht
    have HD := Lib.hid (draw_rect g p hp r c s w1 HR.out)
    go_wp2_with fail
    refine HD.out.mono ?_
    rintro e w2 ⟨x, y, rfl, hx, hy, hr, ha⟩
    have hT2 := HT.out.later hg ha
    obtain ⟨o0, o1, f0, f1⟩ := cells2 hT2.two
    have HR2 := Lib.hid hr
    have HA := Lib.hid hT2.apt
    clear hr ha hT2 HT HR HD m0 m1 m2
    go_wp2_with fail
    refine bodyPost_ret (v := .agg #[.int .i64 x, .int .i64 y]) (by simp [results, Tryz.results48, go_sem, o0, o1]) rfl ⟨x, y, p + 2, rfl, ⟨by omega, by omega⟩, ⟨by omega, by omega⟩, by omega, by omega, ?_, ?_⟩
    · exact rdr_set (rdr_set HR2.out _ _ _ (by omega)) _ _ _ (by omega)
    · exact apt_set (apt_set HA.out _ _ (by omega) _) _ _ (by omega) _
  · have hv := ht
    unfold validB at hv
    simp only [Bool.and_eq_true, decide_eq_true_eq, beq_iff_eq] at hv
    obtain ⟨⟨h1, h2, h3, h4⟩, -, hsz⟩ := hv
    clear ht
    obtain ⟨R, rfl⟩ := Int.eq_ofNat_of_zero_le (show 0 ≤ r by omega)
    obtain ⟨C, rfl⟩ := Int.eq_ofNat_of_zero_le (show 0 ≤ c by omega)
    have hsz' : s.size = R * C := by
      have : ((s.size : Nat) : Int) = ((R * C : Nat) : Int) := by rw [hsz, Int.natCast_mul]
      omega
    have HAT := Lib.hid (fun x y hx hy W => at_w R C (by omega) (by omega) s hsz' x y hx hy W)
    have HCO := Lib.hid (fun S hS bi W => cols_w R C (by omega) (by omega) (by omega) (by omega) s hsz' S hS bi W)
    clear hsz hsz'
    have HQ := Lib.hid (pick_r g p (by omega) R w1 HR.out)
    go_wp2_with fail
    refine HQ.out.mono ?_
    rintro e w2 ⟨x, rfl, ⟨hx0, -⟩, hxm, hr, ha⟩
    have hT2 := HT.out.later hg ha
    have HT2 := Lib.hid hT2
    have HQ2 := Lib.hid (pick_r g (p + 1) (by omega) C w2 hr)
    clear m0 m1 m2 hr ha HT HR HQ
    obtain ⟨m0, m1, m2, -, -, -⟩ := cells3 hT2.one
    clear hT2
    go_wp2_with fail
    refine HQ2.out.mono ?_
    rintro e w3 ⟨y, rfl, ⟨hy0, -⟩, hym, hr, ha⟩
    have hT3 := HT2.out.later hg ha
    have HT3 := Lib.hid hT3
    have HR3 := Lib.hid hr
    clear m0 m1 m2 hr ha HT2 HQ2 hT3
    obtain ⟨X, rfl⟩ := Int.eq_ofNat_of_zero_le hx0
    obtain ⟨Y, rfl⟩ := Int.eq_ofNat_of_zero_le hy0
    have hX : X < R := by omega
    have hY : Y < C := by omega
    have hX8 : 2 ^ X < 256 := Nat.lt_of_lt_of_le (Nat.pow_lt_pow_right (by decide) (show X < 8 by omega)) (by decide)
    have hY8 : 2 ^ Y < 256 := Nat.lt_of_lt_of_le (Nat.pow_lt_pow_right (by decide) (show Y < 8 by omega)) (by decide)
    have hw1 : IntKind.i64.wrap (2 ^ X) = ((2 ^ X : Nat) : Int) := by rw [show ((2 : Int) ^ X) = ((2 ^ X : Nat) : Int) by simp]; exact wrapS _ (by omega)
    have hw2 : IntKind.i64.wrap (2 ^ Y) = ((2 ^ Y : Nat) : Int) := by rw [show ((2 : Int) ^ Y) = ((2 ^ Y : Nat) : Int) by simp]; exact wrapS _ (by omega)
    clear hx0 hy0 hxm hym
    generalize 2 ^ X = u at *
    generalize 2 ^ Y = v at *
    have hr4 := HR3.out.later ((Below.refl w3.heap.size w3).alloc (Nat.le_refl _) (.cells #[.int .i64 (u : Int), .int .i64 (v : Int)] 34))
    have HM4 : Hid (MI g w (w3.alloc (.cells #[.int .i64 (u : Int), .int .i64 (v : Int)] 34)) R C s w3.heap.size u v) :=
      ⟨HT3.out.later hg (Apt.of_below ((Below.refl w3.heap.size w3).alloc (Nat.le_refl _) _)), heap_alloc_new w3 _, HT3.out.size, hg⟩
    have HP4 := Lib.hid (pick_r g (p + 2) (by omega) 2 _ hr4)
    clear HT3 HR3 hr4
    go_wp2_with fail
    refine HP4.out.mono ?_
    rintro e w5 ⟨k, rfl, -, -, hr, ha⟩
    have HM5 := Lib.hid (HM4.out.later ha)
    have HR5 := Lib.hid hr
    clear hr ha HM4 HP4 hw1 hw2
    have hlo := HM5.out.lo
    by_cases hk : k = 0
    · subst hk
      go_wp2_with fail
      refine wp_region_val (fun | 0 => fun v => v = mat R C s | 1 => fun v => v = .pointer (some ⟨w3.heap.size, 0, none⟩) | 2 => fun v => v = .int .i64 (u : Int) | 3 => fun v => v = mat R C s | 4 => fun v => v = .int .i64 (X : Int) | 5 => fun v => v = .int .i64 (Y : Int) | 6 => fun v => ∃ b : Bool, v = .bool b | 7 => fun v => ∃ b : Int, v = .int .i64 b | 8 => fun v => ∃ q : Nat, q < 256 ∧ v = .int .i64 (q : Int) | 9 => fun v => v = .pointer (some ⟨w3.heap.size, 1, none⟩) | _ => fun _ => True) 10 (fun wa wb => ∃ q : Nat, q < 256 ∧ wb = wa.setCell ⟨w3.heap.size, 1, none⟩ (.int .i64 (q : Int))) _ (by kernel_rfl) (by kernel_rfl) rfl rfl rfl rfl (by kernel_rfl) ?con ?st ?en
      case con =>
        intro i o ho hi a wx hbx hf
        have hM := HM5.out.later (Apt.of_below hbx)
        obtain ⟨o0, o1, -, -⟩ := cells2 hM.loc
        match i, ho with
        | 0, ho =>
          obtain rfl := Option.some.inj ho
          have b3 : a.tmps[3]?.getD undef = .pointer (some ⟨w.heap.size, 0, none⟩) := hf.2 3 (by kernel_rfl)
          exact wp_load_row 27 (.tmp 3) rfl w.heap.size (eget b3) 27 _ (0, 0) _ hM.two.one Tryz.underlying27 rfl minfo3 ⟨_, rfl, rfl, Below.refl _ _⟩
        | 1, ho =>
          obtain rfl := Option.some.inj ho
          have b7 : a.tmps[7]?.getD undef = .pointer (some ⟨w3.heap.size, 0, none⟩) := hf.2 7 (by kernel_rfl)
          exact wp_value (.pointer (some ⟨w3.heap.size, 0, none⟩)) (by unfold execOp; go_simp) ⟨_, rfl, rfl, Below.refl _ _⟩
        | 2, ho =>
          obtain rfl := Option.some.inj ho
          have e1 : a.tmps[33]?.getD undef = .pointer (some ⟨w3.heap.size, 0, none⟩) := hf.1 ⟨1, .data⟩ (by simp) rfl _ 33 rfl rfl
          exact wp_value (.int .i64 (u : Int)) (by unfold execOp; go_simp) ⟨_, rfl, rfl, Below.refl _ _⟩
        | 3, ho =>
          obtain rfl := Option.some.inj ho
          have b3 : a.tmps[3]?.getD undef = .pointer (some ⟨w.heap.size, 0, none⟩) := hf.2 3 (by kernel_rfl)
          exact wp_load_row 27 (.tmp 3) rfl w.heap.size (eget b3) 27 _ (0, 0) _ hM.two.one Tryz.underlying27 rfl minfo3 ⟨_, rfl, rfl, Below.refl _ _⟩
        | 4, ho =>
          obtain rfl := Option.some.inj ho
          have b5 : a.tmps[5]?.getD undef = .int .i64 (X : Int) := hf.2 5 (by kernel_rfl)
          exact wp_value (.int .i64 (X : Int)) (by unfold execOp; go_simp) ⟨_, rfl, rfl, Below.refl _ _⟩
        | 5, ho =>
          obtain rfl := Option.some.inj ho
          have b6 : a.tmps[6]?.getD undef = .int .i64 (Y : Int) := hf.2 6 (by kernel_rfl)
          exact wp_value (.int .i64 (Y : Int)) (by unfold execOp; go_simp) ⟨_, rfl, rfl, Below.refl _ _⟩
        | 6, ho =>
          obtain rfl := Option.some.inj ho
          have e3 : a.tmps[35]?.getD undef = mat R C s := hf.1 ⟨3, .data⟩ (by simp) rfl _ 35 rfl rfl
          have e4 : a.tmps[36]?.getD undef = .int .i64 (X : Int) := hf.1 ⟨4, .data⟩ (by simp) rfl _ 36 rfl rfl
          have e5 : a.tmps[37]?.getD undef = .int .i64 (Y : Int) := hf.1 ⟨5, .data⟩ (by simp) rfl _ 37 rfl rfl
          exact wp_enterE 78 #[mat R C s, .int .i64 (X : Int), .int .i64 (Y : Int)] (fun v w' => ∃ b : Bool, v = .bool b ∧ Below wx.heap.size wx w') (by unfold execOp; go_simp)
            ((HAT.out X Y hX hY wx).mono fun e w' h => by obtain ⟨b, he, hb⟩ := h; exact ⟨_, he, b, rfl, hb⟩) (fun v w' h => by obtain ⟨b, rfl, hb⟩ := h; exact ⟨_, rfl, ⟨b, rfl⟩, hb⟩)
        | 7, ho =>
          obtain rfl := Option.some.inj ho
          obtain ⟨b, e6⟩ : ∃ b : Bool, a.tmps[38]?.getD undef = .bool b := hf.1 ⟨6, .data⟩ (by simp) rfl _ 38 rfl rfl
          exact wp_enter 77 #[.bool b] (.int .i64 (bitI b)) (fun w' => wx = w') (by unfold execOp; go_simp) (int_w b wx) (fun w' h => by subst h; exact ⟨_, rfl, ⟨_, rfl⟩, Below.refl _ _⟩)
        | 8, ho =>
          obtain rfl := Option.some.inj ho
          have e0 : a.tmps[32]?.getD undef = mat R C s := hf.1 ⟨0, .data⟩ (by simp) rfl _ 32 rfl rfl
          have e2 : a.tmps[34]?.getD undef = .int .i64 (u : Int) := hf.1 ⟨2, .data⟩ (by simp) rfl _ 34 rfl rfl
          obtain ⟨b, e7⟩ : ∃ b : Int, a.tmps[39]?.getD undef = .int .i64 b := hf.1 ⟨7, .data⟩ (by simp) rfl _ 39 rfl rfl
          exact wp_enterE 86 #[mat R C s, .int .i64 (u : Int), .int .i64 b] (fun v w' => ∃ q : Nat, q < 256 ∧ v = .int .i64 (q : Int) ∧ Below wx.heap.size wx w') (by unfold execOp; go_simp)
            ((HCO.out u hX8 b wx).mono fun e w' h => by obtain ⟨q, hq, he, hb⟩ := h; exact ⟨_, he, q, hq, rfl, hb⟩) (fun v w' h => by obtain ⟨q, hq, rfl, hb⟩ := h; exact ⟨_, rfl, ⟨q, hq, rfl⟩, hb⟩)
        | 9, ho =>
          obtain rfl := Option.some.inj ho
          have b7 : a.tmps[7]?.getD undef = .pointer (some ⟨w3.heap.size, 0, none⟩) := hf.2 7 (by kernel_rfl)
          exact wp_value (.pointer (some ⟨w3.heap.size, 1, none⟩)) (by unfold execOp; go_simp) ⟨_, rfl, rfl, Below.refl _ _⟩
        | q + 10, ho => exact absurd hi (by omega)
      case st =>
        intro a wx hbx hf
        have hM := HM5.out.later (Apt.of_below hbx)
        obtain ⟨o0, o1, f0, f1⟩ := cells2 hM.loc
        obtain ⟨q, hq, e8⟩ : ∃ q : Nat, q < 256 ∧ a.tmps[40]?.getD undef = .int .i64 (q : Int) := hf.1 ⟨8, .data⟩ (by simp) rfl _ 40 rfl rfl
        have e9 : a.tmps[41]?.getD undef = .pointer (some ⟨w3.heap.size, 1, none⟩) := hf.1 ⟨9, .data⟩ (by simp) rfl _ 41 rfl rfl
        exact Go.Proofs.YtgmhddceeomjbaaGreatDoor.Rd6.wp_skip (w' := wx.setCell ⟨w3.heap.size, 1, none⟩ (.int .i64 (q : Int))) (by unfold execOp; go_simp) ⟨rfl, q, hq, rfl⟩
      case en =>
        rintro vs wa wb hba ⟨q, hq, rfl⟩ -
        have hM := HM5.out.later (Apt.of_below hba)
        have hloc : (wa.setCell ⟨w3.heap.size, 1, none⟩ (.int .i64 (q : Int))).heap[w3.heap.size]? = some (.cells #[.int .i64 (u : Int), .int .i64 (q : Int)] 34 (0, 0)) := (heap_setCell_same _ _ _ _ _ _ hM.loc).trans (by simp)
        have hres : (wa.setCell ⟨w3.heap.size, 1, none⟩ (.int .i64 (q : Int))).heap[w.heap.size + 1]? = some (.cells #[.int .i64 0, .int .i64 0] 34 (0, 0)) := (heap_setCell_other _ _ _ _ (by simp; omega)).trans hM.two.two
        have HA := Lib.hid (apt_set hM.two.apt w3.heap.size 1 (by omega) (.int .i64 (q : Int)))
        have HR := Lib.hid (rdr_set (HR5.out.later hba) w3.heap.size 1 (.int .i64 (q : Int)) (by omega))
        clear hM hba HM5 HR5
        generalize wa.setCell ⟨w3.heap.size, 1, none⟩ (.int .i64 (q : Int)) = wz at *
        obtain ⟨l0, l1, -, -⟩ := cells2 hloc
        obtain ⟨o0, o1, f0, f1⟩ := cells2 hres
        clear hloc hres
        simp only [fill, Act.put]
        go_simp
        go_wp2_with fail
        refine bodyPost_ret (v := .agg #[.int .i64 (u : Int), .int .i64 (q : Int)]) (by simp [results, Tryz.results48, go_sem, o0, o1]) rfl ⟨_, _, p + 3, rfl, ⟨by omega, by omega⟩, ⟨by omega, by omega⟩, by omega, by omega, ?_, ?_⟩
        · exact rdr_set (rdr_set HR.out _ _ _ (by omega)) _ _ _ (by omega)
        · exact apt_set (apt_set HA.out _ _ (by omega) _) _ _ (by omega) _
    · obtain ⟨l0, l1, -, -⟩ := cells2 HM5.out.loc
      obtain ⟨o0, o1, f0, f1⟩ := cells2 HM5.out.two.two
      have HA := Lib.hid HM5.out.two.apt
      go_wp2_with fail
      refine bodyPost_ret (v := .agg #[.int .i64 (u : Int), .int .i64 (v : Int)]) (by simp [results, Tryz.results48, go_sem, o0, o1]) rfl ⟨_, _, p + 3, rfl, ⟨by omega, by omega⟩, ⟨by omega, by omega⟩, by omega, by omega, ?_, ?_⟩
      · exact rdr_set (rdr_set HR5.out _ _ _ (by omega)) _ _ _ (by omega)
      · exact apt_set (apt_set HA.out _ _ (by omega) _) _ _ (by omega) _
end Go.Proofs.YtgmhddceeomjbaaGreatDoor.Rd9
