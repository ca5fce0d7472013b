/-
  The text of a set and of a rectangle, of the reference and of the program.
-/
import Derived.Test.YtalechngagkklaaPatch
import Derived.Test.YtalechngagkklaaFreeL
import Derived.Maps.AppendAt
import Derived.RangeFuncBox
import Derived.Laws.IdiomStrings
namespace Go.Proofs.Ytalechngagkklaa.Format
open Go.RowKit Go.Shelf Go.Proofs.Ytalechngagkklaa.Plain Go.Proofs.Ytalechngagkklaa.Pat Go.Proofs.Ytalechngagkklaa.Rect Go.Proofs.Ytalechngagkklaa.Each Go.Proofs.Ytalechngagkklaa.Patch Go.Proofs.Ytalechngagkklaa.FreeL
open Go.Proofs.Ytalechngagkklaa.Free (fill wp_value wp_enter wp_load_row freeB)
set_option linter.unusedVariables false
attribute [local go_sem] Oper.semAt_some

/-- a member's digit -/
def digF (x : Fin 8) : UInt8 := UInt8.ofNat (48 + x.val)
def digs (l : List (Fin 8)) : List UInt8 := l.map digF
theorem digs_len (l : List (Fin 8)) : (digs l).length = l.length := by simp [digs]
theorem digs_size (S : Nat) (k : Nat) : (str (digs (upto S k))).size ≤ k := by
  rw [str_size, digs_len]
  exact upto_len S k
theorem upto_some (S : Nat) (h1 : 1 ≤ S) (h2 : S < 256) : 1 ≤ (upto S 8).length := by
  have h : ∀ k : Fin 256, 1 ≤ k.val → 1 ≤ (upto k.val 8).length := by decide +kernel
  exact h ⟨S, h2⟩ h1

theorem conv_one (w : World) (d : UInt8) (v : Int) (hv : v = (d.toNat : Int)) :
    (convert 22 9 (.slice (some ⟨w.heap.size, 0, none⟩) 1 1)).run Try.prog (w.alloc (.cells #[.int .u8 v] 5)) = .ok (.string ⟨#[d]⟩) (w.alloc (.cells #[.int .u8 v] 5)) := by
  have h := run_convert_bytes_back (P := Try.prog) (w.alloc (.cells #[.int .u8 v] 5)) 22 9 5 ⟨w.heap.size, 0, none⟩ 1 [d] Try.underlying22 Try.underlying5 Try.underlying9 (fun j hj => by
    obtain rfl : j = 0 := by simpa using hj
    rw [hv]
    exact cell_of_row _ _ 0 _ _ _ (heap_alloc_new w _))
  exact h
set_option maxHeartbeats 400000 in
theorem dec_any (k : Nat) (hk : k < 8) (w : World) :
    Calls Try.prog 35 #[.int .i64 (k : Int)] w fun e w' => e = .returned (.string (str [digF ⟨k, hk⟩])) ∧ Below w.heap.size w w' := by
  obtain rfl | rfl | rfl | rfl | rfl | rfl | rfl | rfl : k = 0 ∨ k = 1 ∨ k = 2 ∨ k = 3 ∨ k = 4 ∨ k = 5 ∨ k = 6 ∨ k = 7 := by omega
  · have hcv := conv_one w 48 48 (by decide)
    go_enter Try.func35, Try.ntmps35
    go_wp2_with fail
    go_loop [0, 3] (fun m t => m = .int .i64 0 ∧ t = .string ⟨#[]⟩) (fun _ _ => 0)
    case atStart => exact ⟨rfl, rfl⟩
    case round =>
      obtain ⟨rfl, rfl⟩ := hrel
      go_wp2_with fail
      go_ret
      exact ⟨rfl, by go_grown⟩
  · have hcv := conv_one w 49 49 (by decide)
    go_enter Try.func35, Try.ntmps35
    go_wp2_with fail
    go_loop [0, 3] (fun m t => m = .int .i64 1 ∧ t = .string ⟨#[]⟩) (fun _ _ => 0)
    case atStart => exact ⟨rfl, rfl⟩
    case round =>
      obtain ⟨rfl, rfl⟩ := hrel
      go_wp2_with fail
      go_ret
      exact ⟨rfl, by go_grown⟩
  · have hcv := conv_one w 50 50 (by decide)
    go_enter Try.func35, Try.ntmps35
    go_wp2_with fail
    go_loop [0, 3] (fun m t => m = .int .i64 2 ∧ t = .string ⟨#[]⟩) (fun _ _ => 0)
    case atStart => exact ⟨rfl, rfl⟩
    case round =>
      obtain ⟨rfl, rfl⟩ := hrel
      go_wp2_with fail
      go_ret
      exact ⟨rfl, by go_grown⟩
  · have hcv := conv_one w 51 51 (by decide)
    go_enter Try.func35, Try.ntmps35
    go_wp2_with fail
    go_loop [0, 3] (fun m t => m = .int .i64 3 ∧ t = .string ⟨#[]⟩) (fun _ _ => 0)
    case atStart => exact ⟨rfl, rfl⟩
    case round =>
      obtain ⟨rfl, rfl⟩ := hrel
      go_wp2_with fail
      go_ret
      exact ⟨rfl, by go_grown⟩
  · have hcv := conv_one w 52 52 (by decide)
    go_enter Try.func35, Try.ntmps35
    go_wp2_with fail
    go_loop [0, 3] (fun m t => m = .int .i64 4 ∧ t = .string ⟨#[]⟩) (fun _ _ => 0)
    case atStart => exact ⟨rfl, rfl⟩
    case round =>
      obtain ⟨rfl, rfl⟩ := hrel
      go_wp2_with fail
      go_ret
      exact ⟨rfl, by go_grown⟩
  · have hcv := conv_one w 53 53 (by decide)
    go_enter Try.func35, Try.ntmps35
    go_wp2_with fail
    go_loop [0, 3] (fun m t => m = .int .i64 5 ∧ t = .string ⟨#[]⟩) (fun _ _ => 0)
    case atStart => exact ⟨rfl, rfl⟩
    case round =>
      obtain ⟨rfl, rfl⟩ := hrel
      go_wp2_with fail
      go_ret
      exact ⟨rfl, by go_grown⟩
  · have hcv := conv_one w 54 54 (by decide)
    go_enter Try.func35, Try.ntmps35
    go_wp2_with fail
    go_loop [0, 3] (fun m t => m = .int .i64 6 ∧ t = .string ⟨#[]⟩) (fun _ _ => 0)
    case atStart => exact ⟨rfl, rfl⟩
    case round =>
      obtain ⟨rfl, rfl⟩ := hrel
      go_wp2_with fail
      go_ret
      exact ⟨rfl, by go_grown⟩
  · have hcv := conv_one w 55 55 (by decide)
    go_enter Try.func35, Try.ntmps35
    go_wp2_with fail
    go_loop [0, 3] (fun m t => m = .int .i64 7 ∧ t = .string ⟨#[]⟩) (fun _ _ => 0)
    case atStart => exact ⟨rfl, rfl⟩
    case round =>
      obtain ⟨rfl, rfl⟩ := hrel
      go_wp2_with fail
      go_ret
      exact ⟨rfl, by go_grown⟩

set_option maxHeartbeats 1000000 in
theorem spec_digits (S : Nat) (hS : S < 256) (w : World) :
    Calls Try.prog 16 #[.int .i64 (S : Int)] w fun e w' => e = .returned (.string (str (digs (upto S 8)))) ∧ Below w.heap.size w w' := by
  go_enter Try.func16, Try.ntmps16
  go_wp2_with fail
  go_loopw [3, 4] (fun t i wr => ∃ (k : Nat) (s : ByteArray), k ≤ 8 ∧ t = .string s ∧ Hid (s = str (digs (upto S k))) ∧ i = .int .i64 (k : Int) ∧ Below w.heap.size w wr) (fun _ i _ => 8 - (intOf i).toNat)
  case atStart => exact ⟨0, _, by omega, rfl, rfl, rfl, Below.refl _ _⟩
  case round =>
    obtain ⟨k, s, hk, rfl, hs, rfl, hb⟩ := hrel
    have HB := Lib.hid hb
    clear hb
    by_cases hlt : k < 8
    · have HI := Lib.hid (fun W => l2In_any S k hS hlt W)
      obtain ⟨b, hbit⟩ : ∃ b, S.testBit k = b := ⟨_, rfl⟩
      rw [hbit] at HI
      cases b
      · have HN : Hid (s = str (digs (upto S (k + 1)))) := by unfold Hid; rw [upto_no S k hbit]; exact hs.out
        clear hs hbit
        go_wp2_with fail
        refine (HI.out _).mono ?_
        rintro e w' ⟨rfl, rfl⟩
        go_wp2_with fail
        go_roundw
        case rel => exact ⟨k + 1, s, by omega, rfl, HN, by go_num, HB.out⟩
        case measure => simp [intOf]; omega
      · have hsz : s.size + (str [digF ⟨k, hlt⟩]).size ≤ 9223372036854775807 := by
          have := digs_size S k
          rw [hs.out, str_size [digF ⟨k, hlt⟩]]
          simp
          omega
        have hcat := fun W => run_string_add_sum (P := Try.prog) (w := W) s (str [digF ⟨k, hlt⟩]) hsz
        have HN : Hid (s ++ str [digF ⟨k, hlt⟩] = str (digs (upto S (k + 1)))) := by
          unfold Hid
          rw [upto_yes S k hlt hbit, hs.out, str_append]
          simp [digs]
        have HD := Lib.hid (fun W => dec_any k hlt W)
        generalize str [digF ⟨k, hlt⟩] = d at *
        clear hs hbit hsz
        go_wp2_with fail
        refine (HI.out _).mono ?_
        rintro e w' ⟨rfl, rfl⟩
        go_wp2_with fail
        refine (HD.out _).mono ?_
        rintro e w2 ⟨rfl, hb2⟩
        have HB2 := Lib.hid (rstep HB.out hb2)
        clear hb2
        go_wp2_with fail
        go_roundw
        case rel => exact ⟨k + 1, _, by omega, rfl, HN, by go_num, HB2.out⟩
        case measure => simp [intOf]; omega
    · obtain rfl : k = 8 := by omega
      go_wp2_with fail
      go_ret
      exact ⟨by rw [← hs.out]; rfl, HB.out⟩

theorem info8 : (Try.prog.info? 5).map (fun i => (i.zero, i.size, i.bytes)) = some (some (.int .u8 0), 1, 1) := by kernel_rfl
/-- the bytes as values -/
def vals (l : List UInt8) : List Value := l.map fun u => .int .u8 (u.toNat : Int)
theorem conv_own {w : World} {base : Nat} {v : Value} {l : List UInt8} (h : w.ownsRow base 5 1 v l.length (vals l)) (hl : 1 ≤ l.length) :
    (convert 22 9 v).run Try.prog w = .ok (.string (str l)) w := by
  rcases h.2 with ⟨_, h0⟩ | ⟨g, cap, cur, rfl, _⟩
  · omega
  · refine run_convert_bytes_back w 22 9 5 ⟨g, 0, none⟩ cap l Try.underlying22 Try.underlying5 Try.underlying9 fun j hj => ?_
    exact h.cells rfl j _ (by simp [vals, List.getElem?_map, List.getElem?_eq_getElem hj])

set_option maxRecDepth 100000 in
set_option maxHeartbeats 4000000 in
theorem set_in (n : Nat) (hn : 3 ≤ n) (S : Nat) (h1 : 1 ≤ S) (hS : S < 256) (w : World) :
    CallsIn Fence.wide n Try.prog 14 #[.int .i64 (S : Int)] w fun e W' => e = .returned (.string (str (digs (upto S 8)))) ∧ Below w.heap.size w W' := by
  have hn1 : 1 ≤ n := by omega
  obtain ⟨i0, hi, hz0, hz1, hz2⟩ := info_parts info8
  refine callsIn_of_wp_marks Try.func14 rfl trivial ?_ rfl
  simp only [Try.ntmps14, List.size_toArray, List.length_cons, List.length_nil, Nat.reduceAdd, Nat.reduceSub, Array.replicate_succ, Array.replicate_zero, List.push_toArray, List.append_toArray, List.nil_append, List.cons_append]
  gi_wp2_with (refine ⟨trivial, ?_⟩; gi_at_call 32; refine (callsIn_wide.2 (each_any _ _)).mono ?_; rintro e w' ⟨rfl, rfl⟩)
  have bO := Boxed.new w 22 (.slice none 0 0)
  have bN := Boxed.new (w.alloc (.cells #[.slice none 0 0] 22)) 3 (.int .i64 (S : Int))
  rw [World.size_alloc] at bN
  have bO2 := bO.alloc (.cells #[.int .i64 (S : Int)] 3)
  have hB0 : Below w.heap.size w ((w.alloc (.cells #[.slice none 0 0] 22)).alloc (.cells #[.int .i64 (S : Int)] 3)) := ((Below.refl _ w).alloc (Nat.le_refl _) _).alloc (by simp) _
  have hsz : ((w.alloc (.cells #[.slice none 0 0] 22)).alloc (.cells #[.int .i64 (S : Int)] 3)).heap.size = w.heap.size + 2 := by simp
  generalize (w.alloc (.cells #[.slice none 0 0] 22)).alloc (.cells #[.int .i64 (S : Int)] 3) = W0 at *
  refine wpIn_rangeFunc_ownG rfl hn1 (gf := 49) (lb := #[.pointer (some ⟨w.heap.size + 1, 0, none⟩)]) rfl trivial (enters_of Try.func49 (by kernel_rfl) rfl)
    (mem_stops (n - 1) (by omega) (w.heap.size + 1) S hS W0 (by omega) bN.cell) keepC_t keepC_b (Below.refl _ _) (fun _ => rfl)
    (fun pre W => ((∃ v, Boxed W w.heap.size 22 v ∧ W.ownsRow w.heap.size 5 1 v (digs pre).length (vals (digs pre)) ∧ True) ∧ Boxed W (w.heap.size + 1) 3 (.int .i64 (S : Int))) ∧ Below w.heap.size w W)
    (fun _ _ _ => False)
    (OwnFrom.and (OwnFrom.and (Own.from (holdsRow_own w.heap.size w.heap.size 22 5 1 (fun pre => (digs pre).length) (fun pre => vals (digs pre)) (fun _ _ => True)) _) (Own.from (boxed_own _ _ _) _)) (ownFrom_below (Nat.le_refl _) (by omega)))
    (fun _ _ _ _ _ hs _ _ => hs)
    ⟨⟨⟨_, bO2, World.ownsRow_nil _ _ _ _, trivial⟩, bN⟩, hB0⟩
    (fun x => { tmps := #[.int .i64 (S : Int), undef, .string ⟨#[]⟩, .pointer (some ⟨w.heap.size, 0, none⟩), .int .i64 (x.val : Int), .int .i64 (S : Int), .func (.func 49) #[] #[.pointer (some ⟨w.heap.size + 1, 0, none⟩)], .int .i64 (x.val : Int), undef, undef, undef, undef, undef, undef, undef, undef], defers := [] }) ?assign ?body ?done ?stop
  case assign =>
    intro l x W K hK
    gi_wp2
    exact hK
  case body =>
    rintro l pre x W ⟨⟨⟨v, hv, hrow, _⟩, hbx⟩, hB⟩ hlt
    have hc := hv.cell
    have hpl : (digs pre).length < 8 := by rw [digs_len]; exact hlt
    have hx8 := x.isLt
    have hdig : IntKind.u8.wrap (48 + (x.val : Int)) = ((digF x).toNat : Int) := by
      have h : ∀ y : Fin 8, IntKind.u8.wrap (48 + (y.val : Int)) = ((digF y).toNat : Int) := by decide +kernel
      exact h x
    have hw8 : IntKind.u8.wrap (x.val : Int) = (x.val : Int) := by rw [IntKind.wrap_u8]; omega
    have hle : w.heap.size ≤ W.heap.size := hB.size
    gi_wp2_with (gi_at_builtin; refine wpListIn_append_own _ rfl _ _ 22 rfl w.heap.size 5 i0 (.int .u8 0) 1 1 Try.underlying22 hi hz0 hz1 hz2 rfl (by decide) _ _ _ rfl (hrow.alloc _) ⟨W.heap.size, 0, none⟩ 1 1 [.int .u8 ((digF x).toNat : Int)] rfl rfl (cell_one_new _ _ _) (by simp [Value.oneCell']) (by unfold maxLen; omega) (by omega) (by have := hB.size; simp; omega) ?_; intro v' w1 hown' hgrow _; obtain ⟨g', cap', rfl⟩ := ownsRow_succ hown'; obtain ⟨hv1, hv2, hr2, hk2, hb2⟩ := hv.appended (by decide) hrow hB.size (Nat.le_refl _) hown' hgrow; have hc1 := hv1.cell; have hf1 := hv1.frozen)
    have hbx1 : Boxed w1 (w.heap.size + 1) 3 (.int .i64 (S : Int)) := (hbx.alloc _).kept hgrow (hbx.not_row (by decide) hrow)
    have hbx2 : Boxed (w1.setCell ⟨w.heap.size, 0, none⟩ (.slice (some ⟨g', 0, none⟩) ((digs pre).length + 1) cap')) (w.heap.size + 1) 3 (.int .i64 (S : Int)) := hbx1.kept (grownBy_setCell' w1 w.heap.size _) (by simp)
    exact ⟨hk2.from _, fun u hu => (by rw [hbx.cell] at hu; cases hu; exact hbx2.cell), ⟨⟨_, hv2, by simpa [digs, vals] using hr2, trivial⟩, hbx2⟩, hB.trans hb2⟩
  case done =>
    rintro D ys W hD rfl ⟨⟨⟨v, hv, hrow, _⟩, _⟩, hB⟩ hK
    have hc := hv.cell
    have hcv := conv_own hrow (by rw [digs_len]; exact upto_some S h1 hS)
    gi_wp2
    refine ⟨by simp, .inl ⟨_, _, rfl, run_takeDeferred hK, ?_⟩⟩
    exact ⟨_, results_tmp rfl _ _ _, rfl, hB.trans (belowK_b (w := w) (Nat.le_refl _) W D _ _ (by omega) hK rfl rfl)⟩
  case stop =>
    rintro D c pre W _ _ h _
    exact h.elim
theorem set_any (S : Nat) (h1 : 1 ≤ S) (hS : S < 256) (w : World) :
    Calls Try.prog 14 #[.int .i64 (S : Int)] w fun e W' => e = .returned (.string (str (digs (upto S 8)))) ∧ Below w.heap.size w W' :=
  callsIn_wide.1 (set_in 3 (by omega) S h1 hS w)

/-- block b holds two numbers -/
def TwoH (w : World) (b : Nat) (t : TypeId) (r c : Int) : Prop := w.heap[b]? = some (.cells #[.int .i64 r, .int .i64 c] t (0, 0))
theorem tw_on {w w1 : World} {b : Nat} {t : TypeId} {r c : Int} (h : TwoH w b t r c) (hb : Below w.heap.size w w1) : TwoH w1 b t r c := (hb.block b (Array.getElem?_eq_some_iff.1 h).1).trans h
theorem tw_c {w : World} {b : Nat} {t : TypeId} {r c : Int} (h : TwoH w b t r c) : w.cell? ⟨b, 0, none⟩ = some (.int .i64 r) ∧ w.cell? ⟨b, 1, none⟩ = some (.int .i64 c) := ⟨cell_of_row _ _ 0 _ _ _ h, cell_of_row _ _ 1 _ _ _ h⟩
/-- the text of a rectangle -/
def rtext (R C : Nat) : ByteArray := (str (digs (upto R 8)) ++ ⟨#[58]⟩) ++ str (digs (upto C 8))

set_option maxHeartbeats 1000000 in
set_option maxRecDepth 100000 in
theorem spec_fmt (R C : Nat) (hR1 : 1 ≤ R) (hR : R < 256) (hC1 : 1 ≤ C) (hC : C < 256) (w : World) :
    Calls Try.prog 6 #[rect R C] w fun e w' => e = .returned (.string (rtext R C)) ∧ Below w.heap.size w w' := by
  have HS := Lib.hid (show someB R C = true by rw [someB_iff]; omega)
  have HR := Lib.hid (fun W => spec_digits R hR W)
  have HC := Lib.hid (fun W => spec_digits C hC W)
  have z1 := digs_size R 8
  have z3 := digs_size C 8
  have hcat1 := Lib.hid (fun W => run_string_add_sum (P := Try.prog) (w := W) (str (digs (upto R 8))) ⟨#[58]⟩ (by show _ + 1 ≤ _; omega))
  have hcat2 := Lib.hid (fun W => run_string_add_sum (P := Try.prog) (w := W) (str (digs (upto R 8)) ++ ⟨#[58]⟩) (str (digs (upto C 8))) (by rw [ByteArray.size_append]; show (_ + 1) + _ ≤ _; omega))
  unfold rtext
  generalize str (digs (upto C 8)) = a3 at *
  generalize str (digs (upto R 8)) = a1 at *
  generalize a1 ++ ⟨#[58]⟩ = a2 at *
  generalize a2 ++ a3 = a4 at *
  go_enter Try.func6, Try.ntmps6
  go_wp2_with fail
  refine (some_any _ _ _).mono ?_
  rintro e W0 ⟨rfl, hb0⟩
  rw [HS.out]
  have TH : Hid (TwoH W0 w.heap.size 24 R C) := tw_on (heap_alloc_new w _) hb0
  have HB0 : Hid (Below w.heap.size w W0) := ((Below.refl w.heap.size w).alloc (Nat.le_refl _) _).trans (hb0.mono (by simp))
  clear hb0
  go_wp2_with fail
  refine wp_region_below (fun | 0 => .pointer (some ⟨w.heap.size, 0, none⟩) | 1 => .int .i64 (R : Int) | 2 => .string a1 | 3 => .string a2 | 4 => .pointer (some ⟨w.heap.size, 1, none⟩) | 5 => .int .i64 (C : Int) | 6 => .string a3 | 7 => .string a4 | 8 => .string a4 | _ => undef) (by kernel_rfl) (by kernel_rfl) rfl ?con ?en
  case con =>
    intro i o ho a w2 hb2 hf
    match i, ho with
    | 0, ho =>
      obtain rfl := Option.some.inj ho
      have b1 : a.tmps[1]?.getD undef = .pointer (some ⟨w.heap.size, 0, none⟩) := hf.2 1 (by kernel_rfl)
      exact wp_value (.pointer (some ⟨w.heap.size, 0, none⟩)) (by unfold execOp; go_simp) ⟨rfl, Below.refl _ _⟩
    | 1, ho =>
      obtain rfl := Option.some.inj ho
      have e6 : a.tmps[6]?.getD undef = .pointer (some ⟨w.heap.size, 0, none⟩) := hf.1 ⟨0, .data⟩ (by simp) rfl _ 6 rfl rfl
      obtain ⟨q0, q1⟩ := tw_c (tw_on TH.out hb2)
      exact wp_value (.int .i64 (R : Int)) (by unfold execOp; go_simp) ⟨rfl, Below.refl _ _⟩
    | 2, ho =>
      obtain rfl := Option.some.inj ho
      have e7 : a.tmps[7]?.getD undef = .int .i64 (R : Int) := hf.1 ⟨1, .data⟩ (by simp) rfl _ 7 rfl rfl
      exact wp_enter 16 #[.int .i64 (R : Int)] (.string a1) _ (by unfold execOp; go_simp) (HR.out w2) (fun w' h => ⟨rfl, h⟩)
    | 3, ho =>
      obtain rfl := Option.some.inj ho
      have e8 : a.tmps[8]?.getD undef = .string a1 := hf.1 ⟨2, .data⟩ (by simp) rfl _ 8 rfl rfl
      have hcat := hcat1.out w2
      exact wp_value (.string a2) (by unfold execOp; go_simp) ⟨rfl, Below.refl _ _⟩
    | 4, ho =>
      obtain rfl := Option.some.inj ho
      have b1 : a.tmps[1]?.getD undef = .pointer (some ⟨w.heap.size, 0, none⟩) := hf.2 1 (by kernel_rfl)
      exact wp_value (.pointer (some ⟨w.heap.size, 1, none⟩)) (by unfold execOp; go_simp) ⟨rfl, Below.refl _ _⟩
    | 5, ho =>
      obtain rfl := Option.some.inj ho
      have e10 : a.tmps[10]?.getD undef = .pointer (some ⟨w.heap.size, 1, none⟩) := hf.1 ⟨4, .data⟩ (by simp) rfl _ 10 rfl rfl
      obtain ⟨q0, q1⟩ := tw_c (tw_on TH.out hb2)
      exact wp_value (.int .i64 (C : Int)) (by unfold execOp; go_simp) ⟨rfl, Below.refl _ _⟩
    | 6, ho =>
      obtain rfl := Option.some.inj ho
      have e11 : a.tmps[11]?.getD undef = .int .i64 (C : Int) := hf.1 ⟨5, .data⟩ (by simp) rfl _ 11 rfl rfl
      exact wp_enter 16 #[.int .i64 (C : Int)] (.string a3) _ (by unfold execOp; go_simp) (HC.out w2) (fun w' h => ⟨rfl, h⟩)
    | 7, ho =>
      obtain rfl := Option.some.inj ho
      have e9 : a.tmps[9]?.getD undef = .string a2 := hf.1 ⟨3, .data⟩ (by simp) rfl _ 9 rfl rfl
      have e12 : a.tmps[12]?.getD undef = .string a3 := hf.1 ⟨6, .data⟩ (by simp) rfl _ 12 rfl rfl
      have hcat := hcat2.out w2
      exact wp_value (.string a4) (by unfold execOp; go_simp) ⟨rfl, Below.refl _ _⟩
    | 8, ho =>
      obtain rfl := Option.some.inj ho
      have e13 : a.tmps[13]?.getD undef = .string a4 := hf.1 ⟨7, .data⟩ (by simp) rfl _ 13 rfl rfl
      exact wp_value (.string a4) (by unfold execOp; go_simp) ⟨rfl, Below.refl _ _⟩
    | q + 9, ho => simp at ho
  case en =>
    intro w2 hb2
    have HB2 := Lib.hid (rstep HB0.out hb2)
    clear hb2
    simp only [fill, Act.put]
    go_simp
    go_wp2_with fail
    go_ret
    exact ⟨rfl, HB2.out⟩
set_option maxHeartbeats 1000000 in
theorem spec_fmt_no (r c : Int) (h : someB r c = false) (w : World) :
    Calls Try.prog 6 #[rect r c] w fun e w' => e = .returned (.string ⟨#[]⟩) ∧ Below w.heap.size w w' := by
  have HS := Lib.hid h
  clear h
  go_enter Try.func6, Try.ntmps6
  go_wp2_with fail
  refine (some_any _ _ _).mono ?_
  rintro e w1 ⟨rfl, hb1⟩
  rw [HS.out]
  obtain ⟨c0, c1, hz, HB⟩ := box2 hb1
  clear hb1
  go_wp2_with fail
  go_ret
  exact ⟨rfl, HB.out⟩

set_option maxHeartbeats 1000000 in
set_option maxRecDepth 100000 in
theorem impl_fmt (R C : Nat) (hR1 : 1 ≤ R) (hR : R < 256) (hC1 : 1 ≤ C) (hC : C < 256) (w : World) :
    Calls Try.prog 5 #[rect R C] w fun e w' => e = .returned (.string (rtext R C)) ∧ Below w.heap.size w w' := by
  have HS := Lib.hid (show someB R C = true by rw [someB_iff]; omega)
  have HR := Lib.hid (fun W => set_any R hR1 hR W)
  have HC := Lib.hid (fun W => set_any C hC1 hC W)
  have z1 := digs_size R 8
  have z3 := digs_size C 8
  have hcat1 := Lib.hid (fun W => run_string_add_sum (P := Try.prog) (w := W) (str (digs (upto R 8))) ⟨#[58]⟩ (by show _ + 1 ≤ _; omega))
  have hcat2 := Lib.hid (fun W => run_string_add_sum (P := Try.prog) (w := W) (str (digs (upto R 8)) ++ ⟨#[58]⟩) (str (digs (upto C 8))) (by rw [ByteArray.size_append]; show (_ + 1) + _ ≤ _; omega))
  unfold rtext
  generalize str (digs (upto C 8)) = a3 at *
  generalize str (digs (upto R 8)) = a1 at *
  generalize a1 ++ ⟨#[58]⟩ = a2 at *
  generalize a2 ++ a3 = a4 at *
  go_enter Try.func5, Try.ntmps5
  go_wp2_with fail
  refine (rect_any _ _ _).mono ?_
  rintro e W0 ⟨rfl, hb0⟩
  rw [HS.out]
  have TH : Hid (TwoH W0 w.heap.size 24 R C) := tw_on (heap_alloc_new w _) hb0
  have HB0 : Hid (Below w.heap.size w W0) := ((Below.refl w.heap.size w).alloc (Nat.le_refl _) _).trans (hb0.mono (by simp))
  clear hb0
  go_wp2_with fail
  refine wp_region_below (fun | 0 => .pointer (some ⟨w.heap.size, 0, none⟩) | 1 => .int .i64 (R : Int) | 2 => .string a1 | 3 => .string a2 | 4 => .pointer (some ⟨w.heap.size, 1, none⟩) | 5 => .int .i64 (C : Int) | 6 => .string a3 | 7 => .string a4 | 8 => .string a4 | _ => undef) (by kernel_rfl) (by kernel_rfl) rfl ?con ?en
  case con =>
    intro i o ho a w2 hb2 hf
    match i, ho with
    | 0, ho =>
      obtain rfl := Option.some.inj ho
      have b1 : a.tmps[1]?.getD undef = .pointer (some ⟨w.heap.size, 0, none⟩) := hf.2 1 (by kernel_rfl)
      exact wp_value (.pointer (some ⟨w.heap.size, 0, none⟩)) (by unfold execOp; go_simp) ⟨rfl, Below.refl _ _⟩
    | 1, ho =>
      obtain rfl := Option.some.inj ho
      have e6 : a.tmps[6]?.getD undef = .pointer (some ⟨w.heap.size, 0, none⟩) := hf.1 ⟨0, .data⟩ (by simp) rfl _ 6 rfl rfl
      obtain ⟨q0, q1⟩ := tw_c (tw_on TH.out hb2)
      exact wp_value (.int .i64 (R : Int)) (by unfold execOp; go_simp) ⟨rfl, Below.refl _ _⟩
    | 2, ho =>
      obtain rfl := Option.some.inj ho
      have e7 : a.tmps[7]?.getD undef = .int .i64 (R : Int) := hf.1 ⟨1, .data⟩ (by simp) rfl _ 7 rfl rfl
      exact wp_enter 14 #[.int .i64 (R : Int)] (.string a1) _ (by unfold execOp; go_simp) (HR.out w2) (fun w' h => ⟨rfl, h⟩)
    | 3, ho =>
      obtain rfl := Option.some.inj ho
      have e8 : a.tmps[8]?.getD undef = .string a1 := hf.1 ⟨2, .data⟩ (by simp) rfl _ 8 rfl rfl
      have hcat := hcat1.out w2
      exact wp_value (.string a2) (by unfold execOp; go_simp) ⟨rfl, Below.refl _ _⟩
    | 4, ho =>
      obtain rfl := Option.some.inj ho
      have b1 : a.tmps[1]?.getD undef = .pointer (some ⟨w.heap.size, 0, none⟩) := hf.2 1 (by kernel_rfl)
      exact wp_value (.pointer (some ⟨w.heap.size, 1, none⟩)) (by unfold execOp; go_simp) ⟨rfl, Below.refl _ _⟩
    | 5, ho =>
      obtain rfl := Option.some.inj ho
      have e10 : a.tmps[10]?.getD undef = .pointer (some ⟨w.heap.size, 1, none⟩) := hf.1 ⟨4, .data⟩ (by simp) rfl _ 10 rfl rfl
      obtain ⟨q0, q1⟩ := tw_c (tw_on TH.out hb2)
      exact wp_value (.int .i64 (C : Int)) (by unfold execOp; go_simp) ⟨rfl, Below.refl _ _⟩
    | 6, ho =>
      obtain rfl := Option.some.inj ho
      have e11 : a.tmps[11]?.getD undef = .int .i64 (C : Int) := hf.1 ⟨5, .data⟩ (by simp) rfl _ 11 rfl rfl
      exact wp_enter 14 #[.int .i64 (C : Int)] (.string a3) _ (by unfold execOp; go_simp) (HC.out w2) (fun w' h => ⟨rfl, h⟩)
    | 7, ho =>
      obtain rfl := Option.some.inj ho
      have e9 : a.tmps[9]?.getD undef = .string a2 := hf.1 ⟨3, .data⟩ (by simp) rfl _ 9 rfl rfl
      have e12 : a.tmps[12]?.getD undef = .string a3 := hf.1 ⟨6, .data⟩ (by simp) rfl _ 12 rfl rfl
      have hcat := hcat2.out w2
      exact wp_value (.string a4) (by unfold execOp; go_simp) ⟨rfl, Below.refl _ _⟩
    | 8, ho =>
      obtain rfl := Option.some.inj ho
      have e13 : a.tmps[13]?.getD undef = .string a4 := hf.1 ⟨7, .data⟩ (by simp) rfl _ 13 rfl rfl
      exact wp_value (.string a4) (by unfold execOp; go_simp) ⟨rfl, Below.refl _ _⟩
    | q + 9, ho => simp at ho
  case en =>
    intro w2 hb2
    have HB2 := Lib.hid (rstep HB0.out hb2)
    clear hb2
    simp only [fill, Act.put]
    go_simp
    go_wp2_with fail
    go_ret
    exact ⟨rfl, HB2.out⟩
set_option maxHeartbeats 1000000 in
theorem impl_fmt_no (r c : Int) (h : someB r c = false) (w : World) :
    Calls Try.prog 5 #[rect r c] w fun e w' => e = .returned (.string ⟨#[]⟩) ∧ Below w.heap.size w w' := by
  have HS := Lib.hid h
  clear h
  go_enter Try.func5, Try.ntmps5
  go_wp2_with fail
  refine (rect_any _ _ _).mono ?_
  rintro e w1 ⟨rfl, hb1⟩
  rw [HS.out]
  obtain ⟨c0, c1, hz, HB⟩ := box2 hb1
  clear hb1
  go_wp2_with fail
  go_ret
  exact ⟨rfl, HB.out⟩

theorem both (r c : Int) : ∃ v : ByteArray,
    (∀ w, Calls Try.prog 6 #[rect r c] w fun e w' => e = .returned (.string v) ∧ Below w.heap.size w w') ∧
    (∀ w, Calls Try.prog 5 #[rect r c] w fun e w' => e = .returned (.string v) ∧ Below w.heap.size w w') := by
  by_cases h : someB r c = true
  · have hh := (someB_iff r c).1 h
    obtain ⟨R, rfl⟩ := Int.eq_ofNat_of_zero_le (show 0 ≤ r by omega)
    obtain ⟨C, rfl⟩ := Int.eq_ofNat_of_zero_le (show 0 ≤ c by omega)
    exact ⟨_, fun w => spec_fmt R C (by omega) (by omega) (by omega) (by omega) w, fun w => impl_fmt R C (by omega) (by omega) (by omega) (by omega) w⟩
  · have h' : someB r c = false := by simpa using h
    exact ⟨_, fun w => spec_fmt_no r c h' w, fun w => impl_fmt_no r c h' w⟩
end Go.Proofs.Ytalechngagkklaa.Format
