/-
  Texts of one seat, joined: Rd8, Rd9, Rd10.
-/
import Derived.Test.YtohkllmhknjkoaaDoorJp1
import Derived.Test.YtohkllmhknjkoaaDoorJp9
import Derived.Test.YtohkllmhknjkoaaDoorJp2
import Derived.Test.YtohkllmhknjkoaaDoorJp4
import Derived.Test.YtohkllmhknjkoaaDoorJp5
import Derived.IntWalk
import Derived.Deep.RegionWith
/-
  The drawing function l2Mono: what it needs of l1At and l2Cols is little.
-/
namespace Go.Proofs.YtohkllmhknjkoaaDoor.Rd8
open Go.RowKit Go.Proofs.YtohkllmhknjkoaaDoor.Plain Go.Proofs.YtohkllmhknjkoaaDoor.Base Go.Proofs.YtohkllmhknjkoaaDoor.Valid Go.Proofs.YtohkllmhknjkoaaDoor.Pat Go.Proofs.YtohkllmhknjkoaaDoor.Rect Go.Proofs.YtohkllmhknjkoaaDoor.Rd Go.Proofs.YtohkllmhknjkoaaDoor.Rd2 Go.Proofs.YtohkllmhknjkoaaDoor.Rd3 Go.Proofs.YtohkllmhknjkoaaDoor.Rd4 Go.Proofs.YtohkllmhknjkoaaDoor.Rd5 Go.Proofs.YtohkllmhknjkoaaDoor.Rd6 Go.Proofs.YtohkllmhknjkoaaDoor.Rd7 Go.Proofs.YtohkllmhknjkoaaDoor.FreeL
open Go.Proofs.YtohkllmhknjkoaaDoor.Free (fill wp_value wp_enter wp_load_row freeB setRow_kept)
set_option linter.unusedVariables false

set_option maxHeartbeats 1000000 in
theorem at_w (R C : Nat) (hR : R ≤ 8) (hC : C ≤ 8) (s : ByteArray) (hs : s.size = R * C) (x y : Nat) (hx : x < R) (hy : y < C) (w : World) :
    Calls Tryd.prog 72 #[mat R C s, .int .i64 (x : Int), .int .i64 (y : Int)] w fun e w' => ∃ b, e = .returned (.bool b) ∧ Below w.heap.size w w' := by
  have hlt : x * C + y < s.size := by
    have : (x + 1) * C ≤ R * C := Nat.mul_le_mul_right C hx
    rw [Nat.succ_mul] at this
    omega
  have h64 : s.size ≤ 64 := by rw [hs]; exact prod_le hR hC
  have hmul := wrap_prod x C (by omega) hC
  have HM := Lib.hid hmul
  have hxc : x * C ≤ 64 := by omega
  clear hs hmul
  go_enter Tryd.func72, Tryd.ntmps72
  go_wp2_with fail
  go_ret
  exact ⟨_, rfl, by go_grown⟩

set_option maxHeartbeats 400000 in
theorem int_w (b : Bool) (w : World) :
    Calls Tryd.prog 71 #[.bool b] w fun e w' => e = .returned (.int .i64 (bitI b)) ∧ w = w' := by
  cases b
  all_goals
    go_enter Tryd.func71, Tryd.ntmps71
    go_wp2
    go_ret
    exact ⟨rfl, rfl⟩

/-- m's box is kept -/
structure DInv (w wr : World) (R C : Nat) (s : ByteArray) : Prop where
  m : wr.heap[w.heap.size]? = some (.cells #[.int .i64 (R : Int), .int .i64 (C : Int), .string s] 26 (0, 0))
  below : Below w.heap.size w wr
theorem DInv.later {w wr w2 : World} {R C : Nat} {s : ByteArray} (h : DInv w wr R C s) (hb : Below wr.heap.size wr w2) : DInv w w2 R C s := ⟨(hb.block _ (Array.getElem?_eq_some_iff.1 h.m).1).trans h.m, rstep h.below hb⟩
theorem wrapS (n : Nat) (h : n ≤ 256) : IntKind.i64.wrap (n : Int) = (n : Int) := by
  rw [IntKind.wrap_i64]
  omega
theorem orS (a b : Nat) (ha : a < 256) (hb : b < 256) : Go.bits .or .i64 (a : Int) (b : Int) = ((a ||| b : Nat) : Int) :=
  (bits_nat .i64 8 (by decide) (fun n h0 h1 => by rw [IntKind.wrap_i64]; omega) a b (by omega) (by omega)).2

set_option maxHeartbeats 4000000 in
theorem cols_w (R C : Nat) (hR1 : 1 ≤ R) (hR : R ≤ 8) (hC1 : 1 ≤ C) (hC : C ≤ 8) (s : ByteArray) (hs : s.size = R * C) (S : Nat) (hS : S < 256) (bi : Int) (w : World) :
    Calls Tryd.prog 82 #[mat R C s, .int .i64 (S : Int), .int .i64 bi] w fun e w' => ∃ u : Nat, u < 256 ∧ e = .returned (.int .i64 (u : Int)) ∧ Below w.heap.size w w' := by
  have HAT := Lib.hid (fun x y hx hy W => at_w R C hR hC s hs x y hx hy W)
  clear hs
  go_enter Tryd.func82, Tryd.ntmps82
  go_wp2_with fail
  have HI0 : Hid (DInv w (w.alloc (.cells #[.int .i64 (R : Int), .int .i64 (C : Int), .string s] 26)) R C s) := ⟨heap_alloc_new w _, (Below.refl w.heap.size w).alloc (Nat.le_refl _) _⟩
  generalize w.alloc (.cells #[.int .i64 (R : Int), .int .i64 (C : Int), .string s] 26) = W0 at *
  go_loopw [7, 8] (fun t i wr => ∃ (j u : Nat), j ≤ C ∧ t = .int .i64 (u : Int) ∧ u < 256 ∧ i = .int .i64 (j : Int) ∧ Hid (DInv w wr R C s)) (fun _ i _ => C - (intOf i).toNat)
  case atStart => exact ⟨0, 0, Nat.zero_le _, rfl, by omega, rfl, HI0⟩
  case round =>
    obtain ⟨j, u, hj, rfl, hu, rfl, HI⟩ := hrel
    clear HI0
    obtain ⟨q0, q1, q2, -, -, -⟩ := cells3 HI.out.m
    by_cases hlt : j < C
    · go_wp2_with fail
      go_loopw [9, 10] (fun a x wr => ∃ (k : Nat) (v : Bool), k ≤ R ∧ a = .bool v ∧ x = .int .i64 (k : Int) ∧ Hid (DInv w wr R C s)) (fun _ x _ => R - (intOf x).toNat)
      case atStart => exact ⟨0, true, Nat.zero_le _, rfl, rfl, HI⟩
      case round =>
        obtain ⟨k, v, hk, rfl, rfl, HI⟩ := hrel
        clear q0 q1 q2
        obtain ⟨q0, q1, q2, -, -, -⟩ := cells3 HI.out.m
        by_cases hlt' : k < R
        · have k8 : k < 8 := by omega
          have HK := Lib.hid (fun W => l2In_any S k hS k8 W)
          have HA := Lib.hid (fun W => HAT.out k j hlt' hlt W)
          obtain ⟨b1, h1⟩ : ∃ b, S.testBit k = b := ⟨_, rfl⟩
          rw [h1] at HK
          clear h1
          cases v
          · clear HK HA
            go_wp2_with fail
            go_roundw
            case rel => exact ⟨k + 1, false, by omega, rfl, by go_num, HI⟩
            case measure => simp [intOf]; omega
          · cases b1
            · go_wp2_with fail
              refine (HK.out _).mono ?_
              rintro e w' ⟨rfl, rfl⟩
              go_wp2_with fail
              go_roundw
              case rel => exact ⟨k + 1, true, by omega, rfl, by go_num, HI⟩
              case measure => simp [intOf]; omega
            · go_wp2_with fail
              refine (HK.out _).mono ?_
              rintro e w' ⟨rfl, rfl⟩
              go_wp2_with fail
              refine (HA.out _).mono ?_
              rintro e w2 ⟨b3, rfl, hb2⟩
              have HI2 := Lib.hid (HI.out.later hb2)
              clear hb2 q0 q1 q2
              go_wp2_with fail
              refine (int_w _ _).mono ?_
              rintro e w' ⟨rfl, rfl⟩
              obtain ⟨x, hx⟩ : ∃ x, bitI b3 = x := ⟨_, rfl⟩
              rw [hx]
              clear hx
              go_wp2_with fail
              go_roundw
              case rel => exact ⟨k + 1, _, by omega, rfl, by go_num, HI2⟩
              case measure => simp [intOf]; omega
        · obtain rfl : k = R := by omega
          have hX : 2 ^ j < 256 := Nat.lt_of_lt_of_le (Nat.pow_lt_pow_right (by decide) (show j < 8 by omega)) (by decide)
          have hw : IntKind.i64.wrap (2 ^ j) = ((2 ^ j : Nat) : Int) := by rw [show ((2 : Int) ^ j) = ((2 ^ j : Nat) : Int) by simp]; exact wrapS _ (by omega)
          have ho := orS u (2 ^ j) hu hX
          have HN := Lib.hid (show u ||| 2 ^ j < 256 from Nat.or_lt_two_pow (n := 8) hu hX)
          generalize 2 ^ j = X at *
          generalize u ||| X = y at *
          cases v
          · go_wp2_with fail
            go_roundw
            case rel => exact ⟨j + 1, u, by omega, rfl, hu, by go_num, HI⟩
            case measure => simp [intOf]; omega
          · go_wp2_with fail
            go_roundw
            case rel => exact ⟨j + 1, y, by omega, rfl, HN.out, by go_num, HI⟩
            case measure => simp [intOf]; omega
    · obtain rfl : j = C := by omega
      go_wp2_with fail
      go_ret
      exact ⟨u, hu, rfl, HI.out.below⟩
end Go.Proofs.YtohkllmhknjkoaaDoor.Rd8

/-
  The drawing function l2Mono.
-/
namespace Go.Proofs.YtohkllmhknjkoaaDoor.Rd9
open Go.RowKit Go.Proofs.YtohkllmhknjkoaaDoor.Plain Go.Proofs.YtohkllmhknjkoaaDoor.Base Go.Proofs.YtohkllmhknjkoaaDoor.Valid Go.Proofs.YtohkllmhknjkoaaDoor.Pat Go.Proofs.YtohkllmhknjkoaaDoor.Rect Go.Proofs.YtohkllmhknjkoaaDoor.Rd Go.Proofs.YtohkllmhknjkoaaDoor.Rd2 Go.Proofs.YtohkllmhknjkoaaDoor.Rd3 Go.Proofs.YtohkllmhknjkoaaDoor.Rd4 Go.Proofs.YtohkllmhknjkoaaDoor.Rd5 Go.Proofs.YtohkllmhknjkoaaDoor.Rd6 Go.Proofs.YtohkllmhknjkoaaDoor.Rd7 Go.Proofs.YtohkllmhknjkoaaDoor.Rd8 Go.Proofs.YtohkllmhknjkoaaDoor.FreeD
open Go.Proofs.YtohkllmhknjkoaaDoor.Free (fill wp_value wp_enter wp_load_row freeB setRow_kept)
set_option linter.unusedVariables false

theorem rinfoM : (Tryd.prog.info? 39).map (·.size) = some 2 := by kernel_rfl
/-- what is known in the midst of l2Mono: the matrix' box, the result's block, the local rectangle's block -/
structure MI (g : Nat) (w wr : World) (r c : Int) (s : ByteArray) (b : Nat) (x y : Int) : Prop where
  two : Two g w wr 26 39 #[.int .i64 r, .int .i64 c, .string s] #[.int .i64 0, .int .i64 0]
  loc : wr.heap[b]? = some (.cells #[.int .i64 x, .int .i64 y] 39 (0, 0))
  lo : w.heap.size + 2 ≤ b
  hg : g < w.heap.size
theorem MI.lt {g : Nat} {w wr : World} {r c : Int} {s : ByteArray} {b : Nat} {x y : Int} (h : MI g w wr r c s b x y) : b < wr.heap.size := (Array.getElem?_eq_some_iff.1 h.loc).1
theorem MI.later {g : Nat} {w wr w2 : World} {r c : Int} {s : ByteArray} {b : Nat} {x y : Int} (h : MI g w wr r c s b x y) (ha : Apt g wr w2) : MI g w w2 r c s b x y :=
  ⟨h.two.later h.hg ha, (ha.block _ h.lt (by have := h.hg; have := h.lo; omega)).trans h.loc, h.lo, h.hg⟩

set_option maxHeartbeats 4000000 in
set_option maxRecDepth 100000 in
theorem mono_rect {L0 : Nat} (g p : Nat) (hp : p < 1048000) (r c : Int) (s : ByteArray) (hs : s.size ≤ 100) (w : World) (h : Rdr L0 w g p) :
    Calls Tryd.prog 63 #[.pointer (some ⟨g, 0, none⟩), mtx r c s] w fun e w' => ∃ (x y : Int) (p' : Nat), e = .returned (.agg #[.int .i64 x, .int .i64 y]) ∧ W64 x ∧ W64 y ∧ p ≤ p' ∧ p' ≤ p + 10 ∧ Rdr L0 w' g p' ∧ Apt g w w' := by
  have hg := h.lt
  have h0 := h.later (two_start_below w (.cells #[.int .i64 r, .int .i64 c, .string s] 26) (.cells #[.int .i64 0, .int .i64 0] 39))
  have hT := Two.start g w 26 39 #[.int .i64 r, .int .i64 c, .string s] #[.int .i64 0, .int .i64 0]
  have HV := Lib.hid (fun W => spec_valid r c s (by unfold maxLen; omega) W)
  go_enter Tryd.func63, Tryd.ntmps63
  have HT0 := Lib.hid hT
  have HR0 := Lib.hid h0
  clear hT h0 h
  go_wp2_with fail
  refine (HV.out _).mono ?_
  rintro e w1 ⟨rfl, hb1⟩
  have HT := Lib.hid (HT0.out.later hg (Apt.of_below hb1))
  have HR := Lib.hid (HR0.out.later hb1)
  clear hb1 HT0 HR0
  obtain ⟨m0, m1, m2, -, -, -⟩ := cells3 HT.out.one
  obtain ⟨t, ht⟩ : ∃ t, validB r c s = t := ⟨_, rfl⟩
  rw [ht]
  cases t
  · clear ht
    have HD := Lib.hid (draw_rect g p hp r c s w1 HR.out)
    go_wp2_with fail
    refine HD.out.mono ?_
    rintro e w2 ⟨x, y, rfl, hx, hy, hr, ha⟩
    have hT2 := HT.out.later hg ha
    obtain ⟨o0, o1, f0, f1⟩ := cells2 hT2.two
    have HR2 := Lib.hid hr
    have HA := Lib.hid hT2.apt
    clear hr ha hT2 HT HR HD m0 m1 m2
    go_wp2_with fail
    refine bodyPost_ret (v := .agg #[.int .i64 x, .int .i64 y]) (by simp [results, Tryd.results63, go_sem, o0, o1]) rfl ⟨x, y, p + 2, rfl, ⟨by omega, by omega⟩, ⟨by omega, by omega⟩, by omega, by omega, ?_, ?_⟩
    · exact rdr_set (rdr_set HR2.out _ _ _ (by omega)) _ _ _ (by omega)
    · exact apt_set (apt_set HA.out _ _ (by omega) _) _ _ (by omega) _
  · have hv := ht
    unfold validB at hv
    simp only [Bool.and_eq_true, decide_eq_true_eq, beq_iff_eq] at hv
    obtain ⟨⟨h1, h2, h3, h4⟩, -, hsz⟩ := hv
    clear ht
    obtain ⟨R, rfl⟩ := Int.eq_ofNat_of_zero_le (show 0 ≤ r by omega)
    obtain ⟨C, rfl⟩ := Int.eq_ofNat_of_zero_le (show 0 ≤ c by omega)
    have hsz' : s.size = R * C := by
      have : ((s.size : Nat) : Int) = ((R * C : Nat) : Int) := by rw [hsz, Int.natCast_mul]
      omega
    have HAT := Lib.hid (fun x y hx hy W => at_w R C (by omega) (by omega) s hsz' x y hx hy W)
    have HCO := Lib.hid (fun S hS bi W => cols_w R C (by omega) (by omega) (by omega) (by omega) s hsz' S hS bi W)
    clear hsz hsz'
    have HQ := Lib.hid (pick_r g p (by omega) R w1 HR.out)
    go_wp2_with fail
    refine HQ.out.mono ?_
    rintro e w2 ⟨x, rfl, ⟨hx0, -⟩, hxm, hr, ha⟩
    have hT2 := HT.out.later hg ha
    have HT2 := Lib.hid hT2
    have HQ2 := Lib.hid (pick_r g (p + 1) (by omega) C w2 hr)
    clear m0 m1 m2 hr ha HT HR HQ
    obtain ⟨m0, m1, m2, -, -, -⟩ := cells3 hT2.one
    clear hT2
    go_wp2_with fail
    refine HQ2.out.mono ?_
    rintro e w3 ⟨y, rfl, ⟨hy0, -⟩, hym, hr, ha⟩
    have hT3 := HT2.out.later hg ha
    have HT3 := Lib.hid hT3
    have HR3 := Lib.hid hr
    clear m0 m1 m2 hr ha HT2 HQ2 hT3
    obtain ⟨X, rfl⟩ := Int.eq_ofNat_of_zero_le hx0
    obtain ⟨Y, rfl⟩ := Int.eq_ofNat_of_zero_le hy0
    have hX : X < R := by omega
    have hY : Y < C := by omega
    have hX8 : 2 ^ X < 256 := Nat.lt_of_lt_of_le (Nat.pow_lt_pow_right (by decide) (show X < 8 by omega)) (by decide)
    have hY8 : 2 ^ Y < 256 := Nat.lt_of_lt_of_le (Nat.pow_lt_pow_right (by decide) (show Y < 8 by omega)) (by decide)
    have hw1 : IntKind.i64.wrap (2 ^ X) = ((2 ^ X : Nat) : Int) := by rw [show ((2 : Int) ^ X) = ((2 ^ X : Nat) : Int) by simp]; exact wrapS _ (by omega)
    have hw2 : IntKind.i64.wrap (2 ^ Y) = ((2 ^ Y : Nat) : Int) := by rw [show ((2 : Int) ^ Y) = ((2 ^ Y : Nat) : Int) by simp]; exact wrapS _ (by omega)
    clear hx0 hy0 hxm hym
    generalize 2 ^ X = u at *
    generalize 2 ^ Y = v at *
    have hr4 := HR3.out.later ((Below.refl w3.heap.size w3).alloc (Nat.le_refl _) (.cells #[.int .i64 (u : Int), .int .i64 (v : Int)] 39))
    have HM4 : Hid (MI g w (w3.alloc (.cells #[.int .i64 (u : Int), .int .i64 (v : Int)] 39)) R C s w3.heap.size u v) :=
      ⟨HT3.out.later hg (Apt.of_below ((Below.refl w3.heap.size w3).alloc (Nat.le_refl _) _)), heap_alloc_new w3 _, HT3.out.size, hg⟩
    have HP4 := Lib.hid (pick_r g (p + 2) (by omega) 2 _ hr4)
    clear HT3 HR3 hr4
    go_wp2_with fail
    refine HP4.out.mono ?_
    rintro e w5 ⟨k, rfl, -, -, hr, ha⟩
    have HM5 := Lib.hid (HM4.out.later ha)
    have HR5 := Lib.hid hr
    clear hr ha HM4 HP4 hw1 hw2
    have hlo := HM5.out.lo
    by_cases hk : k = 0
    · subst hk
      go_wp2_with fail
      refine wp_region_val (fun | 0 => fun v => v = mat R C s | 1 => fun v => v = .pointer (some ⟨w3.heap.size, 0, none⟩) | 2 => fun v => v = .int .i64 (u : Int) | 3 => fun v => v = mat R C s | 4 => fun v => v = .int .i64 (X : Int) | 5 => fun v => v = .int .i64 (Y : Int) | 6 => fun v => ∃ b : Bool, v = .bool b | 7 => fun v => ∃ b : Int, v = .int .i64 b | 8 => fun v => ∃ q : Nat, q < 256 ∧ v = .int .i64 (q : Int) | 9 => fun v => v = .pointer (some ⟨w3.heap.size, 1, none⟩) | _ => fun _ => True) 10 (fun wa wb => ∃ q : Nat, q < 256 ∧ wb = wa.setCell ⟨w3.heap.size, 1, none⟩ (.int .i64 (q : Int))) _ (by kernel_rfl) (by kernel_rfl) rfl rfl rfl rfl (by kernel_rfl) ?con ?st ?en
      case con =>
        intro i o ho hi a wx hbx hf
        have hM := HM5.out.later (Apt.of_below hbx)
        obtain ⟨o0, o1, -, -⟩ := cells2 hM.loc
        match i, ho with
        | 0, ho =>
          obtain rfl := Option.some.inj ho
          have b3 : a.tmps[3]?.getD undef = .pointer (some ⟨w.heap.size, 0, none⟩) := hf.2 3 (by kernel_rfl)
          exact wp_load_row 26 (.tmp 3) rfl w.heap.size (eget b3) 26 _ (0, 0) _ hM.two.one Tryd.underlying26 rfl minfo3 ⟨_, rfl, rfl, Below.refl _ _⟩
        | 1, ho =>
          obtain rfl := Option.some.inj ho
          have b7 : a.tmps[7]?.getD undef = .pointer (some ⟨w3.heap.size, 0, none⟩) := hf.2 7 (by kernel_rfl)
          exact wp_value (.pointer (some ⟨w3.heap.size, 0, none⟩)) (by unfold execOp; go_simp) ⟨_, rfl, rfl, Below.refl _ _⟩
        | 2, ho =>
          obtain rfl := Option.some.inj ho
          have e1 : a.tmps[33]?.getD undef = .pointer (some ⟨w3.heap.size, 0, none⟩) := hf.1 ⟨1, .data⟩ (by simp) rfl _ 33 rfl rfl
          exact wp_value (.int .i64 (u : Int)) (by unfold execOp; go_simp) ⟨_, rfl, rfl, Below.refl _ _⟩
        | 3, ho =>
          obtain rfl := Option.some.inj ho
          have b3 : a.tmps[3]?.getD undef = .pointer (some ⟨w.heap.size, 0, none⟩) := hf.2 3 (by kernel_rfl)
          exact wp_load_row 26 (.tmp 3) rfl w.heap.size (eget b3) 26 _ (0, 0) _ hM.two.one Tryd.underlying26 rfl minfo3 ⟨_, rfl, rfl, Below.refl _ _⟩
        | 4, ho =>
          obtain rfl := Option.some.inj ho
          have b5 : a.tmps[5]?.getD undef = .int .i64 (X : Int) := hf.2 5 (by kernel_rfl)
          exact wp_value (.int .i64 (X : Int)) (by unfold execOp; go_simp) ⟨_, rfl, rfl, Below.refl _ _⟩
        | 5, ho =>
          obtain rfl := Option.some.inj ho
          have b6 : a.tmps[6]?.getD undef = .int .i64 (Y : Int) := hf.2 6 (by kernel_rfl)
          exact wp_value (.int .i64 (Y : Int)) (by unfold execOp; go_simp) ⟨_, rfl, rfl, Below.refl _ _⟩
        | 6, ho =>
          obtain rfl := Option.some.inj ho
          have e3 : a.tmps[35]?.getD undef = mat R C s := hf.1 ⟨3, .data⟩ (by simp) rfl _ 35 rfl rfl
          have e4 : a.tmps[36]?.getD undef = .int .i64 (X : Int) := hf.1 ⟨4, .data⟩ (by simp) rfl _ 36 rfl rfl
          have e5 : a.tmps[37]?.getD undef = .int .i64 (Y : Int) := hf.1 ⟨5, .data⟩ (by simp) rfl _ 37 rfl rfl
          exact wp_enterE 72 #[mat R C s, .int .i64 (X : Int), .int .i64 (Y : Int)] (fun v w' => ∃ b : Bool, v = .bool b ∧ Below wx.heap.size wx w') (by unfold execOp; go_simp)
            ((HAT.out X Y hX hY wx).mono fun e w' h => by obtain ⟨b, he, hb⟩ := h; exact ⟨_, he, b, rfl, hb⟩) (fun v w' h => by obtain ⟨b, rfl, hb⟩ := h; exact ⟨_, rfl, ⟨b, rfl⟩, hb⟩)
        | 7, ho =>
          obtain rfl := Option.some.inj ho
          obtain ⟨b, e6⟩ : ∃ b : Bool, a.tmps[38]?.getD undef = .bool b := hf.1 ⟨6, .data⟩ (by simp) rfl _ 38 rfl rfl
          exact wp_enter 71 #[.bool b] (.int .i64 (bitI b)) (fun w' => wx = w') (by unfold execOp; go_simp) (int_w b wx) (fun w' h => by subst h; exact ⟨_, rfl, ⟨_, rfl⟩, Below.refl _ _⟩)
        | 8, ho =>
          obtain rfl := Option.some.inj ho
          have e0 : a.tmps[32]?.getD undef = mat R C s := hf.1 ⟨0, .data⟩ (by simp) rfl _ 32 rfl rfl
          have e2 : a.tmps[34]?.getD undef = .int .i64 (u : Int) := hf.1 ⟨2, .data⟩ (by simp) rfl _ 34 rfl rfl
          obtain ⟨b, e7⟩ : ∃ b : Int, a.tmps[39]?.getD undef = .int .i64 b := hf.1 ⟨7, .data⟩ (by simp) rfl _ 39 rfl rfl
          exact wp_enterE 82 #[mat R C s, .int .i64 (u : Int), .int .i64 b] (fun v w' => ∃ q : Nat, q < 256 ∧ v = .int .i64 (q : Int) ∧ Below wx.heap.size wx w') (by unfold execOp; go_simp)
            ((HCO.out u hX8 b wx).mono fun e w' h => by obtain ⟨q, hq, he, hb⟩ := h; exact ⟨_, he, q, hq, rfl, hb⟩) (fun v w' h => by obtain ⟨q, hq, rfl, hb⟩ := h; exact ⟨_, rfl, ⟨q, hq, rfl⟩, hb⟩)
        | 9, ho =>
          obtain rfl := Option.some.inj ho
          have b7 : a.tmps[7]?.getD undef = .pointer (some ⟨w3.heap.size, 0, none⟩) := hf.2 7 (by kernel_rfl)
          exact wp_value (.pointer (some ⟨w3.heap.size, 1, none⟩)) (by unfold execOp; go_simp) ⟨_, rfl, rfl, Below.refl _ _⟩
        | q + 10, ho => exact absurd hi (by omega)
      case st =>
        intro a wx hbx hf
        have hM := HM5.out.later (Apt.of_below hbx)
        obtain ⟨o0, o1, f0, f1⟩ := cells2 hM.loc
        obtain ⟨q, hq, e8⟩ : ∃ q : Nat, q < 256 ∧ a.tmps[40]?.getD undef = .int .i64 (q : Int) := hf.1 ⟨8, .data⟩ (by simp) rfl _ 40 rfl rfl
        have e9 : a.tmps[41]?.getD undef = .pointer (some ⟨w3.heap.size, 1, none⟩) := hf.1 ⟨9, .data⟩ (by simp) rfl _ 41 rfl rfl
        exact Go.Proofs.YtohkllmhknjkoaaDoor.Rd6.wp_skip (w' := wx.setCell ⟨w3.heap.size, 1, none⟩ (.int .i64 (q : Int))) (by unfold execOp; go_simp) ⟨rfl, q, hq, rfl⟩
      case en =>
        rintro vs wa wb hba ⟨q, hq, rfl⟩ -
        have hM := HM5.out.later (Apt.of_below hba)
        have hloc : (wa.setCell ⟨w3.heap.size, 1, none⟩ (.int .i64 (q : Int))).heap[w3.heap.size]? = some (.cells #[.int .i64 (u : Int), .int .i64 (q : Int)] 39 (0, 0)) := (heap_setCell_same _ _ _ _ _ _ hM.loc).trans (by simp)
        have hres : (wa.setCell ⟨w3.heap.size, 1, none⟩ (.int .i64 (q : Int))).heap[w.heap.size + 1]? = some (.cells #[.int .i64 0, .int .i64 0] 39 (0, 0)) := (heap_setCell_other _ _ _ _ (by simp; omega)).trans hM.two.two
        have HA := Lib.hid (apt_set hM.two.apt w3.heap.size 1 (by omega) (.int .i64 (q : Int)))
        have HR := Lib.hid (rdr_set (HR5.out.later hba) w3.heap.size 1 (.int .i64 (q : Int)) (by omega))
        clear hM hba HM5 HR5
        generalize wa.setCell ⟨w3.heap.size, 1, none⟩ (.int .i64 (q : Int)) = wz at *
        obtain ⟨l0, l1, -, -⟩ := cells2 hloc
        obtain ⟨o0, o1, f0, f1⟩ := cells2 hres
        clear hloc hres
        simp only [fill, Act.put]
        go_simp
        go_wp2_with fail
        refine bodyPost_ret (v := .agg #[.int .i64 (u : Int), .int .i64 (q : Int)]) (by simp [results, Tryd.results63, go_sem, o0, o1]) rfl ⟨_, _, p + 3, rfl, ⟨by omega, by omega⟩, ⟨by omega, by omega⟩, by omega, by omega, ?_, ?_⟩
        · exact rdr_set (rdr_set HR.out _ _ _ (by omega)) _ _ _ (by omega)
        · exact apt_set (apt_set HA.out _ _ (by omega) _) _ _ (by omega) _
    · obtain ⟨l0, l1, -, -⟩ := cells2 HM5.out.loc
      obtain ⟨o0, o1, f0, f1⟩ := cells2 HM5.out.two.two
      have HA := Lib.hid HM5.out.two.apt
      go_wp2_with fail
      refine bodyPost_ret (v := .agg #[.int .i64 (u : Int), .int .i64 (v : Int)]) (by simp [results, Tryd.results63, go_sem, o0, o1]) rfl ⟨_, _, p + 3, rfl, ⟨by omega, by omega⟩, ⟨by omega, by omega⟩, by omega, by omega, ?_, ?_⟩
      · exact rdr_set (rdr_set HR5.out _ _ _ (by omega)) _ _ _ (by omega)
      · exact apt_set (apt_set HA.out _ _ (by omega) _) _ _ (by omega) _
end Go.Proofs.YtohkllmhknjkoaaDoor.Rd9

/-
  The drawing function l2Open.
-/
namespace Go.Proofs.YtohkllmhknjkoaaDoor.Rd10
open Go.RowKit Go.Proofs.YtohkllmhknjkoaaDoor.Plain Go.Proofs.YtohkllmhknjkoaaDoor.Base Go.Proofs.YtohkllmhknjkoaaDoor.Valid Go.Proofs.YtohkllmhknjkoaaDoor.Pat Go.Proofs.YtohkllmhknjkoaaDoor.Rect Go.Proofs.YtohkllmhknjkoaaDoor.Rd Go.Proofs.YtohkllmhknjkoaaDoor.Rd2 Go.Proofs.YtohkllmhknjkoaaDoor.Rd3 Go.Proofs.YtohkllmhknjkoaaDoor.Rd4 Go.Proofs.YtohkllmhknjkoaaDoor.Rd5 Go.Proofs.YtohkllmhknjkoaaDoor.Rd6 Go.Proofs.YtohkllmhknjkoaaDoor.Rd7 Go.Proofs.YtohkllmhknjkoaaDoor.Rd8 Go.Proofs.YtohkllmhknjkoaaDoor.Rd9
set_option linter.unusedVariables false

/-- what is known in the midst of l2Open: the two results' blocks, the local matrix' block, the reader -/
structure OI (L0 g : Nat) (w wr : World) (b : Nat) (r c : Int) (s : ByteArray) (p : Nat) : Prop where
  two : Two g w wr 26 39 #[.int .i64 0, .int .i64 0, .string ⟨#[]⟩] #[.int .i64 0, .int .i64 0]
  loc : wr.heap[b]? = some (.cells #[.int .i64 r, .int .i64 c, .string s] 26 (0, 0))
  lo : w.heap.size + 2 ≤ b
  hg : g < w.heap.size
  rd : Rdr L0 wr g p
theorem OI.lt {L0 : Nat} {g : Nat} {w wr : World} {b : Nat} {r c : Int} {s : ByteArray} {p : Nat} (h : OI L0 g w wr b r c s p) : b < wr.heap.size := (Array.getElem?_eq_some_iff.1 h.loc).1
theorem OI.later {L0 : Nat} {g : Nat} {w wr w2 : World} {b : Nat} {r c : Int} {s : ByteArray} {p q : Nat} (h : OI L0 g w wr b r c s p) (ha : Apt g wr w2) (hr : Rdr L0 w2 g q) : OI L0 g w w2 b r c s q :=
  ⟨h.two.later h.hg ha, (ha.block _ h.lt (by have := h.hg; have := h.lo; omega)).trans h.loc, h.lo, h.hg, hr⟩
theorem OI.drew {L0 : Nat} {g : Nat} {w wr : World} {b : Nat} {r c : Int} {s : ByteArray} {p : Nat} (h : OI L0 g w wr b r c s p) : OI L0 g w wr.drew b r c s p := h.later (Apt.of_below (drawn_at wr 1)) (h.rd.later (drawn_at wr 1))
theorem OI.cells {L0 : Nat} {g : Nat} {w wr : World} {b : Nat} {r c : Int} {s : ByteArray} {p : Nat} (h : OI L0 g w wr b r c s p) :
    (wr.cell? ⟨b, 0, none⟩ = some (.int .i64 r) ∧ wr.cell? ⟨b, 1, none⟩ = some (.int .i64 c) ∧ wr.cell? ⟨b, 2, none⟩ = some (.string s)) ∧
    (wr.cell? ⟨w.heap.size, 0, none⟩ = some (.int .i64 0) ∧ wr.cell? ⟨w.heap.size, 1, none⟩ = some (.int .i64 0) ∧ wr.cell? ⟨w.heap.size, 2, none⟩ = some (.string ⟨#[]⟩) ∧ wr.frozen? ⟨w.heap.size, 0, none⟩ = false ∧ wr.frozen? ⟨w.heap.size, 1, none⟩ = false ∧ wr.frozen? ⟨w.heap.size, 2, none⟩ = false) ∧
    (wr.cell? ⟨w.heap.size + 1, 0, none⟩ = some (.int .i64 0) ∧ wr.cell? ⟨w.heap.size + 1, 1, none⟩ = some (.int .i64 0) ∧ wr.frozen? ⟨w.heap.size + 1, 0, none⟩ = false ∧ wr.frozen? ⟨w.heap.size + 1, 1, none⟩ = false) := by
  obtain ⟨a, b', c', _, _, _⟩ := cells3 h.loc
  exact ⟨⟨a, b', c'⟩, cells3 h.two.one, cells2 h.two.two⟩

theorem ord3 {p p1 p2 p3 : Nat} (h1 : p ≤ p1 ∧ p1 ≤ p + 200) (h2 : p1 + 1 ≤ p2 ∧ p2 ≤ p1 + 1 + 10) (h3 : p2 ≤ p3 ∧ p3 ≤ p2 + 2) : p ≤ p3 ∧ p3 ≤ p + 300 := by omega
theorem ord2 {p p1 p3 : Nat} (h1 : p ≤ p1 ∧ p1 ≤ p + 200) (h3 : p1 + 1 + 2 ≤ p3 ∧ p3 ≤ p1 + 1 + 2 + 2) : p ≤ p3 ∧ p3 ≤ p + 300 := by omega

end Go.Proofs.YtohkllmhknjkoaaDoor.Rd10

