/-
  Texts of one seat, joined: SaidCut, SaidTrim, SaidBal, DrawP5.
-/
import Derived.Test.YtbbgibbpeibhiaaGreatDoorJn6
import Derived.Test.YtbbgibbpeibhiaaGreatDoorJn5
import Derived.Test.YtbbgibbpeibhiaaGreatDoorJn2
import Derived.Test.YtbbgibbpeibhiaaGreatDoorJn4
/-
  Where the reference cuts a protocol.
-/
namespace Go.Proofs.YtbbgibbpeibhiaaGreatDoor.SaidCut
open Go.RowKit Go.Shelf Go.Proofs.YtbbgibbpeibhiaaGreatDoor.Plain Go.Proofs.YtbbgibbpeibhiaaGreatDoor.Tree Go.Proofs.YtbbgibbpeibhiaaGreatDoor.Read Go.Proofs.YtbbgibbpeibhiaaGreatDoor.Parts Go.Proofs.YtbbgibbpeibhiaaGreatDoor.TrimT Go.Proofs.YtbbgibbpeibhiaaGreatDoor.Rect Go.Proofs.YtbbgibbpeibhiaaGreatDoor.Split Go.Proofs.YtbbgibbpeibhiaaGreatDoor.CutT
set_option linter.unusedVariables false
set_option linter.unusedSimpArgs false

theorem text_say_le (a : Bool) (s : Nat) (z o : T) : (text (.say a s z o)).length = (text z).length + (text o).length + 3 := by simp [text]
theorem cut_len (n : Nat) (t : T) (R C : Nat) (h : (text t).length ≤ 2000) : (text (cutT n t R C).part).length ≤ 2010 ∧ (text (cutT n t R C).rest).length ≤ 2010 := by
  have h1 := cut_ends n t R C
  have h2 := text_ends t
  have h3 := text_ends (cutT n t R C).part
  have h4 := text_ends (cutT n t R C).rest
  have h5 := ends_pos (cutT n t R C).part
  have h6 := ends_pos (cutT n t R C).rest
  omega
theorem head3 (a : Bool) (s : Nat) (z o : T) : (str (text (.say a s z o))).extract 0 3 = str [whoB a, hexD (s / 16), hexD (s % 16)] := by
  refine eq_str ?_
  rw [data_extract, str_data]
  rfl

/-- the blocks of a call: the rectangle, the result -/
structure Bc (w wr : World) (B R C : Nat) : Prop where
  arg : wr.heap[B]? = some (.cells #[.int .i64 (R : Int), .int .i64 (C : Int)] 45 (0, 0))
  res : wr.heap[B + 1]? = some (.cells #[.int .i64 0, .int .i64 0] 45 (0, 0))
  below : Below w.heap.size w wr
  size : w.heap.size = B
theorem Bc.later {w wr w2 : World} {B R C : Nat} (h : Bc w wr B R C) (hb : Below wr.heap.size wr w2) : Bc w w2 B R C :=
  have k : ∀ {g : Nat} {o : Obj}, wr.heap[g]? = some o → w2.heap[g]? = some o := fun e => (hb.block _ (Array.getElem?_eq_some_iff.1 e).1).trans e
  ⟨k h.arg, k h.res, h.below.trans (hb.mono h.below.size), h.size⟩
theorem Bc.start (w : World) (B R C : Nat) (hB : w.heap.size = B) : Bc w ((w.alloc (.cells #[.int .i64 (R : Int), .int .i64 (C : Int)] 45)).alloc (.cells #[.int .i64 0, .int .i64 0] 45)) B R C := by
  subst hB
  have n0 := heap_alloc_new w (.cells #[.int .i64 (R : Int), .int .i64 (C : Int)] 45)
  have b0 := (Below.refl w.heap.size w).alloc (Nat.le_refl _) (.cells #[.int .i64 (R : Int), .int .i64 (C : Int)] 45)
  have s1 : (w.alloc (.cells #[.int .i64 (R : Int), .int .i64 (C : Int)] 45)).heap.size = w.heap.size + 1 := by simp
  generalize w.alloc (.cells #[.int .i64 (R : Int), .int .i64 (C : Int)] 45) = wa at *
  have n1 := heap_alloc_new wa (.cells #[.int .i64 0, .int .i64 0] 45)
  rw [s1] at n1
  exact ⟨(heap_alloc_old wa _ (Array.getElem?_eq_some_iff.1 n0).1).trans n0, n1, b0.alloc b0.size _, rfl⟩
theorem Bc.done {w w1 : World} {B R C : Nat} (h : Bc w w1 B R C) (x y : Nat) : Below w.heap.size w (((w1.setCell ⟨B + 1, 0, none⟩ (.int .i64 (x : Int))).setCell ⟨B + 1, 1, none⟩ (.int .i64 (y : Int))).drew) ∧
    (((w1.setCell ⟨B + 1, 0, none⟩ (.int .i64 (x : Int))).setCell ⟨B + 1, 1, none⟩ (.int .i64 (y : Int))).drew).heap[B + 1]? = some (.cells #[.int .i64 (x : Int), .int .i64 (y : Int)] 45 (0, 0)) := by
  have hs := h.size
  exact ⟨Below.drew (set_below (set_below h.below (by omega)) (by omega)), set_row 1 (set_row 0 h.res)⟩

/-- two rectangles side by side -/
structure Rc (w wr : World) (D x1 x2 y1 y2 : Nat) : Prop where
  one : wr.heap[D]? = some (.cells #[.int .i64 (x1 : Int), .int .i64 (x2 : Int)] 45 (0, 0))
  two : wr.heap[D + 1]? = some (.cells #[.int .i64 (y1 : Int), .int .i64 (y2 : Int)] 45 (0, 0))
  below : Below w.heap.size w wr
theorem Rc.later {w wr w2 : World} {D x1 x2 y1 y2 : Nat} (h : Rc w wr D x1 x2 y1 y2) (hb : Below wr.heap.size wr w2) : Rc w w2 D x1 x2 y1 y2 :=
  have k : ∀ {g : Nat} {o : Obj}, wr.heap[g]? = some o → w2.heap[g]? = some o := fun e => (hb.block _ (Array.getElem?_eq_some_iff.1 e).1).trans e
  ⟨k h.one, k h.two, h.below.trans (hb.mono h.below.size)⟩
theorem Rc.start (w : World) (D x1 x2 y1 y2 : Nat) (hB : w.heap.size = D) : Rc w ((w.alloc (.cells #[.int .i64 (x1 : Int), .int .i64 (x2 : Int)] 45)).alloc (.cells #[.int .i64 (y1 : Int), .int .i64 (y2 : Int)] 45)) D x1 x2 y1 y2 := by
  subst hB
  have n0 := heap_alloc_new w (.cells #[.int .i64 (x1 : Int), .int .i64 (x2 : Int)] 45)
  have b0 := (Below.refl w.heap.size w).alloc (Nat.le_refl _) (.cells #[.int .i64 (x1 : Int), .int .i64 (x2 : Int)] 45)
  have s1 : (w.alloc (.cells #[.int .i64 (x1 : Int), .int .i64 (x2 : Int)] 45)).heap.size = w.heap.size + 1 := by simp
  generalize w.alloc (.cells #[.int .i64 (x1 : Int), .int .i64 (x2 : Int)] 45) = wa at *
  have n1 := heap_alloc_new wa (.cells #[.int .i64 (y1 : Int), .int .i64 (y2 : Int)] 45)
  rw [s1] at n1
  exact ⟨(heap_alloc_old wa _ (Array.getElem?_eq_some_iff.1 n0).1).trans n0, n1, b0.alloc b0.size _⟩

set_option maxHeartbeats 8000000 in
set_option maxRecDepth 100000 in
theorem said_cut (n : Nat) (hn : 2 ≤ n) (hn2 : n ≤ 8000000) (t : T) : wf t → (text t).length ≤ 2000 → ∀ (R C : Nat) (w : World), R < 256 → C < 256 →
    Calls Tryz.prog 42 #[.string (str (text t)), rect R C, .int .i64 (n : Int), .string (str (text (.leaf false)))] w fun e w' => e = .returned (.tuple #[.string (str (text (cutT n t R C).part)), rect (cutT n t R C).rows (cutT n t R C).cols, .string (str (text (cutT n t R C).rest))]) ∧ Below w.heap.size w w' := by
  have m2 : IntKind.i64.wrap (2 * (n : Int)) = 2 * (n : Int) := by simp only [IntKind.wrap_i64]; omega
  induction t with
  | leaf b =>
    intro hw hl R C w hR hC
    have HL := Lib.hid (said_ends (.leaf b) hw hl)
    have hnb : (3 : Int) ≤ 2 * (n : Int) := by omega
    have HP := Lib.hid (rfl : str (text (.leaf b)) = str (text (.leaf b)))
    show Calls _ _ _ _ fun e w' => e = .returned (.tuple #[.string (str (text (.leaf b))), rect R C, .string (str (text (.leaf false)))]) ∧ _
    replace HL : Hid (∀ w : World, Calls Tryz.prog 22 #[.string (str (text (.leaf b)))] w fun e w' => e = .returned (.int .i64 1) ∧ Below w.heap.size w w') := HL
    generalize str (text (.leaf b)) = q at *
    generalize str (text (.leaf false)) = p0 at *
    obtain ⟨B, hB⟩ : ∃ B, w.heap.size = B := ⟨_, rfl⟩
    have H0 := Lib.hid (Bc.start w B R C hB)
    clear HP hw hl
    go_enter Tryz.func42, Tryz.ntmps42
    go_wp2_with fail
    refine (HL.out _).mono ?_
    rintro e w1 ⟨rfl, hb1⟩
    have HBC := Lib.hid (H0.out.later hb1)
    clear hb1 hB H0 HL
    obtain ⟨r0, r1, r2, r3⟩ := cells2 HBC.out.arg
    obtain ⟨q0, q1, q2, q3⟩ := cells2 HBC.out.res
    go_wp2_with fail
    go_region
    obtain ⟨hb9, hc9⟩ := HBC.out.done R C
    generalize (((w1.setCell ⟨B + 1, 0, none⟩ (.int .i64 (R : Int))).setCell ⟨B + 1, 1, none⟩ (.int .i64 (C : Int))).drew) = w9 at *
    obtain ⟨k0, k1, k2, k3⟩ := cells2 hc9
    have HB9 := Lib.hid hb9
    clear hb9 hc9 r0 r1 r2 r3 q0 q1 q2 q3
    go_wp2_with fail
    refine bodyPost_ret (v := .tuple #[.string q, rect R C, .string p0]) (by simp [results, Tryz.results42, go_sem, k0, k1]) rfl ⟨?_, HB9.out⟩
    rfl
  | say a s z o ihz iho =>
    intro hw hl R C w hR hC
    have hlz := text_say_le a s z o
    obtain ⟨p1, p2, p3, p4⟩ := parts_lt a s hR hC
    have HL := Lib.hid (said_ends (.say a s z o) hw hl)
    have HLZ := Lib.hid (said_ends z hw.2.1 (by omega))
    have HLO := Lib.hid (said_ends o hw.2.2 (by omega))
    have HP := Lib.hid (parts_w a s z o hw.2.1 (str (text (.say a s z o))) (str_data _) (by rw [str_size]; omega))
    have HSp := Lib.hid fun W => split_said a s z o hw.1 (str (text (.say a s z o))) (str_data _) (by rw [str_size]; omega) R C hR hC W
    have HZ := Lib.hid fun W => ihz hw.2.1 (by omega) (outR a s R) (outC a s C) W p1 p2
    have HO := Lib.hid fun W => iho hw.2.2 (by omega) (inR a s R) (inC a s C) W p3 p4
    have lz := cut_len n z (outR a s R) (outC a s C) (by omega)
    have lo := cut_len n o (inR a s R) (inC a s C) (by omega)
    have h3 := head3 a s z o
    have h3i : (3 : Int) ≤ ((str (text (.say a s z o))).size : Int) := by rw [str_size]; omega
    have HT : cutT n (.say a s z o) R C = if 3 * (ends z + ends o) ≤ 2 * n then ⟨.say a s z o, R, C, .leaf false⟩
      else if ends z < ends o then
        ⟨(cutT n o (inR a s R) (inC a s C)).part, (cutT n o (inR a s R) (inC a s C)).rows, (cutT n o (inR a s R) (inC a s C)).cols, .say a s z (cutT n o (inR a s R) (inC a s C)).rest⟩
      else ⟨(cutT n z (outR a s R) (outC a s C)).part, (cutT n z (outR a s R) (outC a s C)).rows, (cutT n z (outR a s R) (outC a s C)).cols, .say a s (cutT n z (outR a s R) (outC a s C)).rest o⟩ := rfl
    rw [HT]
    generalize cutT n o (inR a s R) (inC a s C) = cO at *
    generalize cutT n z (outR a s R) (outC a s C) = cZ at *
    obtain ⟨po, ro, co, xo⟩ := cO
    obtain ⟨pz, rz, cz, xz⟩ := cZ
    simp only at HZ HO lz lo
    have hez := ends_le z
    have heo := ends_le o
    replace HL : Hid (∀ w : World, Calls Tryz.prog 22 #[.string (str (text (.say a s z o)))] w fun e w' => e = .returned (.int .i64 ((ends z + ends o : Nat) : Int)) ∧ Below w.heap.size w w') := HL
    have tz : str (text (.say a s xz o)) = str [whoB a, hexD (s / 16), hexD (s % 16)] ++ str (text xz) ++ str (text o) := by rw [str_append, str_append]; rfl
    have to : str (text (.say a s z xo)) = str [whoB a, hexD (s / 16), hexD (s % 16)] ++ str (text z) ++ str (text xo) := by rw [str_append, str_append]; rfl
    have HTZ := Lib.hid tz
    have HTO := Lib.hid to
    have hx3 : (str [whoB a, hexD (s / 16), hexD (s % 16)]).size = 3 := by rw [str_size]; rfl
    have l1 : (str (text z)).size ≤ 2010 := by rw [str_size]; omega
    have l2 : (str (text o)).size ≤ 2010 := by rw [str_size]; omega
    have l3 : (str (text xz)).size ≤ 2010 := by rw [str_size]; omega
    have l4 : (str (text xo)).size ≤ 2010 := by rw [str_size]; omega
    generalize str [whoB a, hexD (s / 16), hexD (s % 16)] = hx at *
    obtain ⟨E1, hE1⟩ : ∃ x, ends z = x := ⟨_, rfl⟩
    obtain ⟨E2, hE2⟩ : ∃ x, ends o = x := ⟨_, rfl⟩
    rw [hE1] at HL HLZ hez ⊢
    rw [hE2] at HL HLO heo ⊢
    obtain ⟨E, hE⟩ : ∃ E : Nat, E1 + E2 = E := ⟨_, rfl⟩
    rw [hE] at HL ⊢
    have bE : E ≤ 16000000 := by omega
    have m1 : IntKind.i64.wrap (3 * (E : Int)) = 3 * (E : Int) := by simp only [IntKind.wrap_i64]; omega
    obtain ⟨B, hB⟩ : ∃ B, w.heap.size = B := ⟨_, rfl⟩
    have H0 := Lib.hid (Bc.start w B R C hB)
    have HSS := Lib.hid (rfl : str (text (.say a s z o)) = str (text (.say a s z o)))
    clear hw hl hlz p1 p2 p3 p4 ihz iho lz lo tz to HT
    by_cases hb : 3 * E ≤ 2 * n
    · rw [if_pos hb]
      have hbi : 3 * (E : Int) ≤ 2 * (n : Int) := by omega
      show Calls _ _ _ _ fun e w' => e = .returned (.tuple #[.string (str (text (.say a s z o))), rect R C, .string (str (text (.leaf false)))]) ∧ _
      generalize str (text (.say a s z o)) = q at *
      generalize str (text (.leaf false)) = p0 at *
      clear HP HSp HZ HO HLZ HLO HTZ HTO hx3 l1 l2 l3 l4 h3 h3i HSS
      go_enter Tryz.func42, Tryz.ntmps42
      go_wp2_with fail
      refine (HL.out _).mono ?_
      rintro e w1 ⟨rfl, hb1⟩
      have HBC := Lib.hid (H0.out.later hb1)
      clear hb1 hB H0 HL
      obtain ⟨r0, r1, r2, r3⟩ := cells2 HBC.out.arg
      obtain ⟨q0, q1, q2, q3⟩ := cells2 HBC.out.res
      go_wp2_with fail
      go_region
      obtain ⟨hb9, hc9⟩ := HBC.out.done R C
      generalize (((w1.setCell ⟨B + 1, 0, none⟩ (.int .i64 (R : Int))).setCell ⟨B + 1, 1, none⟩ (.int .i64 (C : Int))).drew) = w9 at *
      obtain ⟨k0, k1, k2, k3⟩ := cells2 hc9
      have HB9 := Lib.hid hb9
      clear hb9 hc9 r0 r1 r2 r3 q0 q1 q2 q3
      go_wp2_with fail
      refine bodyPost_ret (v := .tuple #[.string q, rect R C, .string p0]) (by simp [results, Tryz.results42, go_sem, k0, k1]) rfl ⟨?_, HB9.out⟩
      rfl
    rw [if_neg hb]
    have hbi : ¬ 3 * (E : Int) ≤ 2 * (n : Int) := by omega
    obtain ⟨oR, hoR⟩ : ∃ x, outR a s R = x := ⟨_, rfl⟩
    obtain ⟨oC, hoC⟩ : ∃ x, outC a s C = x := ⟨_, rfl⟩
    obtain ⟨iR, hiR⟩ : ∃ x, inR a s R = x := ⟨_, rfl⟩
    obtain ⟨iC, hiC⟩ : ∃ x, inC a s C = x := ⟨_, rfl⟩
    rw [hoR, hoC] at HZ HSp
    rw [hiR, hiC] at HO HSp
    clear hoR hoC hiR hiC
    by_cases hm : E1 < E2
    · rw [if_pos hm]
      have hmi : ¬ (E2 : Int) ≤ (E1 : Int) := by omega
      show Calls _ _ _ _ fun e w' => e = .returned (.tuple #[.string (str (text po)), rect ro co, .string (str (text (.say a s z xo)))]) ∧ _
      rw [HTO.out]
      generalize str (text (.say a s z o)) = q at *
      generalize str (text (.leaf false)) = p0 at *
      generalize str (text z) = sz at *
      generalize str (text o) = so at *
      generalize str (text xz) = sxz at *
      generalize str (text xo) = sxo at *
      generalize str (text po) = sp at *
      have u1 := fun W => run_string_add_sum (P := Tryz.prog) (w := W) hx sz (by omega)
      have u2 := fun W => run_string_add_sum (P := Tryz.prog) (w := W) (hx ++ sz) sxo (by rw [ByteArray.size_append]; omega)
      clear HTZ HTO hx3 l1 l2 l3 l4 HSS hm hE
      go_enter Tryz.func42, Tryz.ntmps42
      go_wp2_with fail
      refine (HL.out _).mono ?_
      rintro e w1 ⟨rfl, hb1⟩
      have HB1 := Lib.hid (H0.out.later hb1)
      clear hb1 hB H0 HL
      go_wp2_with fail
      refine (HP.out _).mono ?_
      rintro e w2 ⟨rfl, hb2⟩
      have HB2 := Lib.hid (HB1.out.later hb2)
      clear hb2 HB1 HP
      obtain ⟨r0, r1, r2, r3⟩ := cells2 HB2.out.arg
      go_wp2_with fail
      refine (HSp.out _).mono ?_
      rintro e w3 ⟨rfl, hb3⟩
      have HB3 := Lib.hid (HB2.out.later hb3)
      obtain ⟨D, hD⟩ : ∃ D, w3.heap.size = D := ⟨_, rfl⟩
      have H3 := Lib.hid (Rc.start w3 D oR oC iR iC hD)
      have HB4 := Lib.hid (HB3.out.later H3.out.below)
      clear hb3 HB2 HSp r0 r1 r2 r3 HB3
      go_wp2_with fail
      refine (HLZ.out _).mono ?_
      rintro e w4 ⟨rfl, hb4⟩
      have H4 := Lib.hid (H3.out.later hb4)
      have HB5 := Lib.hid (HB4.out.later hb4)
      clear hb4 H3 HB4 HLZ
      go_wp2_with fail
      refine (HLO.out _).mono ?_
      rintro e w5 ⟨rfl, hb5⟩
      have H5 := Lib.hid (H4.out.later hb5)
      have HB6 := Lib.hid (HB5.out.later hb5)
      clear hb5 H4 HB5 HLO
      obtain ⟨r0, r1, r2, r3⟩ := cells2 H5.out.two
      go_wp2_with fail
      refine (HO.out _).mono ?_
      rintro e w6 ⟨rfl, hb6⟩
      have HB7 := Lib.hid (HB6.out.later hb6)
      clear hb6 HB6 r0 r1 r2 r3 H5
      obtain ⟨F, hF⟩ : ∃ F, w6.heap.size = F := ⟨_, rfl⟩
      have n0 := heap_alloc_new w6 (.cells #[.int .i64 (ro : Int), .int .i64 (co : Int)] 45)
      have HBC : Hid (Bc w (w6.alloc (.cells #[.int .i64 (ro : Int), .int .i64 (co : Int)] 45)) B R C) := HB7.out.later ((Below.refl _ _).alloc (Nat.le_refl _) _)
      have hlt : B + 1 < w6.heap.size := (Array.getElem?_eq_some_iff.1 HB7.out.res).1
      rw [hF] at n0 hlt
      have n2 : B + 1 ≠ F := by omega
      have n3 : F ≠ B + 1 := by omega
      have HN0 := Lib.hid n0
      clear HB7 HZ HO hlt n0
      go_wp2_with fail
      generalize w6.alloc (.cells #[.int .i64 (ro : Int), .int .i64 (co : Int)] 45) = w7 at *
      obtain ⟨r0, r1, r2, r3⟩ := cells2 HN0.out
      obtain ⟨q0, q1, q2, q3⟩ := cells2 HBC.out.res
      clear hF
      go_region
      obtain ⟨hb9, hc9⟩ := HBC.out.done ro co
      generalize (((w7.setCell ⟨B + 1, 0, none⟩ (.int .i64 (ro : Int))).setCell ⟨B + 1, 1, none⟩ (.int .i64 (co : Int))).drew) = w9 at *
      obtain ⟨k0, k1, k2, k3⟩ := cells2 hc9
      have HB9 := Lib.hid hb9
      clear hb9 hc9 r0 r1 r2 r3 q0 q1 q2 q3
      go_wp2_with fail
      refine bodyPost_ret (v := .tuple #[.string sp, rect ro co, .string (hx ++ sz ++ sxo)]) (by simp [results, Tryz.results42, go_sem, k0, k1]) rfl ⟨?_, HB9.out⟩
      rfl
    · rw [if_neg hm]
      have hmi : (E2 : Int) ≤ (E1 : Int) := by omega
      show Calls _ _ _ _ fun e w' => e = .returned (.tuple #[.string (str (text pz)), rect rz cz, .string (str (text (.say a s xz o)))]) ∧ _
      rw [HTZ.out]
      generalize str (text (.say a s z o)) = q at *
      generalize str (text (.leaf false)) = p0 at *
      generalize str (text z) = sz at *
      generalize str (text o) = so at *
      generalize str (text xz) = sxz at *
      generalize str (text xo) = sxo at *
      generalize str (text pz) = sp at *
      have u1 := fun W => run_string_add_sum (P := Tryz.prog) (w := W) hx sxz (by omega)
      have u2 := fun W => run_string_add_sum (P := Tryz.prog) (w := W) (hx ++ sxz) so (by rw [ByteArray.size_append]; omega)
      clear HTZ HTO hx3 l1 l2 l3 l4 HSS hm hE
      go_enter Tryz.func42, Tryz.ntmps42
      go_wp2_with fail
      refine (HL.out _).mono ?_
      rintro e w1 ⟨rfl, hb1⟩
      have HB1 := Lib.hid (H0.out.later hb1)
      clear hb1 hB H0 HL
      go_wp2_with fail
      refine (HP.out _).mono ?_
      rintro e w2 ⟨rfl, hb2⟩
      have HB2 := Lib.hid (HB1.out.later hb2)
      clear hb2 HB1 HP
      obtain ⟨r0, r1, r2, r3⟩ := cells2 HB2.out.arg
      go_wp2_with fail
      refine (HSp.out _).mono ?_
      rintro e w3 ⟨rfl, hb3⟩
      have HB3 := Lib.hid (HB2.out.later hb3)
      obtain ⟨D, hD⟩ : ∃ D, w3.heap.size = D := ⟨_, rfl⟩
      have H3 := Lib.hid (Rc.start w3 D oR oC iR iC hD)
      have HB4 := Lib.hid (HB3.out.later H3.out.below)
      clear hb3 HB2 HSp r0 r1 r2 r3 HB3
      go_wp2_with fail
      refine (HLZ.out _).mono ?_
      rintro e w4 ⟨rfl, hb4⟩
      have H4 := Lib.hid (H3.out.later hb4)
      have HB5 := Lib.hid (HB4.out.later hb4)
      clear hb4 H3 HB4 HLZ
      go_wp2_with fail
      refine (HLO.out _).mono ?_
      rintro e w5 ⟨rfl, hb5⟩
      have H5 := Lib.hid (H4.out.later hb5)
      have HB6 := Lib.hid (HB5.out.later hb5)
      clear hb5 H4 HB5 HLO
      obtain ⟨r0, r1, r2, r3⟩ := cells2 H5.out.one
      go_wp2_with fail
      refine (HZ.out _).mono ?_
      rintro e w6 ⟨rfl, hb6⟩
      have HB7 := Lib.hid (HB6.out.later hb6)
      clear hb6 HB6 r0 r1 r2 r3 H5
      obtain ⟨F, hF⟩ : ∃ F, w6.heap.size = F := ⟨_, rfl⟩
      have n0 := heap_alloc_new w6 (.cells #[.int .i64 (rz : Int), .int .i64 (cz : Int)] 45)
      have HBC : Hid (Bc w (w6.alloc (.cells #[.int .i64 (rz : Int), .int .i64 (cz : Int)] 45)) B R C) := HB7.out.later ((Below.refl _ _).alloc (Nat.le_refl _) _)
      have hlt : B + 1 < w6.heap.size := (Array.getElem?_eq_some_iff.1 HB7.out.res).1
      rw [hF] at n0 hlt
      have n2 : B + 1 ≠ F := by omega
      have n3 : F ≠ B + 1 := by omega
      have HN0 := Lib.hid n0
      clear HB7 HZ HO hlt n0
      go_wp2_with fail
      generalize w6.alloc (.cells #[.int .i64 (rz : Int), .int .i64 (cz : Int)] 45) = w7 at *
      obtain ⟨r0, r1, r2, r3⟩ := cells2 HN0.out
      obtain ⟨q0, q1, q2, q3⟩ := cells2 HBC.out.res
      clear hF
      go_region
      obtain ⟨hb9, hc9⟩ := HBC.out.done rz cz
      generalize (((w7.setCell ⟨B + 1, 0, none⟩ (.int .i64 (rz : Int))).setCell ⟨B + 1, 1, none⟩ (.int .i64 (cz : Int))).drew) = w9 at *
      obtain ⟨k0, k1, k2, k3⟩ := cells2 hc9
      have HB9 := Lib.hid hb9
      clear hb9 hc9 r0 r1 r2 r3 q0 q1 q2 q3
      go_wp2_with fail
      refine bodyPost_ret (v := .tuple #[.string sp, rect rz cz, .string (hx ++ sxz ++ so)]) (by simp [results, Tryz.results42, go_sem, k0, k1]) rfl ⟨?_, HB9.out⟩
      rfl
end Go.Proofs.YtbbgibbpeibhiaaGreatDoor.SaidCut

/-
  The reference's protocol without what is never said.
-/
namespace Go.Proofs.YtbbgibbpeibhiaaGreatDoor.SaidTrim
open Go.RowKit Go.Shelf Go.Proofs.YtbbgibbpeibhiaaGreatDoor.Plain Go.Proofs.YtbbgibbpeibhiaaGreatDoor.Tree Go.Proofs.YtbbgibbpeibhiaaGreatDoor.Hex Go.Proofs.YtbbgibbpeibhiaaGreatDoor.Read Go.Proofs.YtbbgibbpeibhiaaGreatDoor.Parts Go.Proofs.YtbbgibbpeibhiaaGreatDoor.SetW Go.Proofs.YtbbgibbpeibhiaaGreatDoor.TrimT Go.Proofs.YtbbgibbpeibhiaaGreatDoor.Rect Go.Proofs.YtbbgibbpeibhiaaGreatDoor.Split
open Go.Proofs.YtbbgibbpeibhiaaGreatDoor.Wq (WQ wq_step wq_nil region_kept drew_at)
set_option linter.unusedVariables false
set_option linter.unusedSimpArgs false

theorem eq0 {n : Nat} (h : n = 0) : ((n : Int) == 0) = true := by subst h; rfl
theorem ne0 {n : Nat} (h : n ≠ 0) : ((n : Int) == 0) = false := beq_false_of_ne (by omega)

set_option maxHeartbeats 8000000 in
set_option maxRecDepth 100000 in
theorem said_trim (t : T) : wf t → (text t).length ≤ 2000 → ∀ (R C : Nat) (w : World), R < 256 → C < 256 → 1 ≤ R → 1 ≤ C →
    Calls Tryz.prog 23 #[.string (str (text t)), rect R C] w fun e w' => e = .returned (.string (str (text (trimT t R C)))) ∧ Below w.heap.size w w' := by
  induction t with
  | leaf b =>
    intro _ _ R C w _ _ _ _
    have HL : Hid (∀ W, Calls Tryz.prog 39 #[.string (str (text (.leaf b)))] W fun e w' => e = .returned (.bool true) ∧ W = w') := leaf_yes _ (by rw [str_size]; rfl)
    show Calls _ _ _ _ fun e w' => e = .returned (.string (str (text (.leaf b)))) ∧ _
    generalize str (text (.leaf b)) = s at *
    go_enter Tryz.func23, Tryz.ntmps23
    go_wp2_with fail
    refine (HL.out _).mono ?_
    rintro e w' ⟨rfl, rfl⟩
    go_wp2_with fail
    go_ret
    exact ⟨rfl, by go_grown⟩
  | say a v z o ihz iho =>
    intro hw hl R C w hR hC hR1 hC1
    have hlz : (text (.say a v z o)).length = (text z).length + (text o).length + 3 := by simp [text]
    obtain ⟨h1, h2, h3, h4⟩ := parts_lt a v hR hC
    have hnb := not_both a v hR hC hR1 hC1
    have ihz' := ihz hw.2.1 (by omega)
    have iho' := iho hw.2.2 (by omega)
    have HL : Hid (∀ W, Calls Tryz.prog 39 #[.string (str (text (.say a v z o)))] W fun e w' => e = .returned (.bool false) ∧ W = w') := leaf_no _ (by rw [str_size]; omega)
    have HP := Lib.hid (parts_w a v z o hw.2.1 (str (text (.say a v z o))) (str_data _) (by rw [str_size]; omega))
    have HSp := Lib.hid (split_said a v z o hw.1 (str (text (.say a v z o))) (str_data _) (by rw [str_size]; omega) R C hR hC)
    have hx : (str (text (.say a v z o))).extract 0 1 = str [whoB a] := by
      apply eq_str
      rw [data_extract, str_data]
      rfl
    obtain ⟨hk, hx0⟩ := at_drop (s := str (text (.say a v z o))) (k := 0) (c := whoB a) (r := hexD (v / 16) :: hexD (v % 16) :: (text z ++ text o)) (by rw [str_data]; rfl)
    have hn : ((str (text (.say a v z o)))[0]'hk).toNat = (whoB a).toNat := by rw [hx0]
    have HT : trimT (.say a v z o) R C = if inR a v R = 0 ∨ inC a v C = 0 then trimT z (outR a v R) (outC a v C)
      else if outR a v R = 0 ∨ outC a v C = 0 then trimT o (inR a v R) (inC a v C)
      else .say a (if a then inR a v R else inC a v C) (trimT z (outR a v R) (outC a v C)) (trimT o (inR a v R) (inC a v C)) := rfl
    rw [HT]
    clear HT
    have lz : (text (trimT z (outR a v R) (outC a v C))).length ≤ 2000 := Nat.le_trans (trim_length z _ _) (by omega)
    have lo : (text (trimT o (inR a v R) (inC a v C))).length ≤ 2000 := Nat.le_trans (trim_length o _ _) (by omega)
    obtain ⟨oR, hoR⟩ : ∃ x, outR a v R = x := ⟨_, rfl⟩
    obtain ⟨oC, hoC⟩ : ∃ x, outC a v C = x := ⟨_, rfl⟩
    obtain ⟨iR, hiR⟩ : ∃ x, inR a v R = x := ⟨_, rfl⟩
    obtain ⟨iC, hiC⟩ : ∃ x, inC a v C = x := ⟨_, rfl⟩
    rw [hoR, hoC, hiR, hiC] at HSp hnb ⊢
    rw [hoR, hoC] at lz
    rw [hiR, hiC] at lo
    rw [hoR] at h1
    rw [hoC] at h2
    rw [hiR] at h3
    rw [hiC] at h4
    clear hoR hoC hiR hiC
    obtain ⟨res, hres⟩ : ∃ res, str (text (if iR = 0 ∨ iC = 0 then trimT z oR oC else if oR = 0 ∨ oC = 0 then trimT o iR iC else .say a (if a then iR else iC) (trimT z oR oC) (trimT o iR iC))) = res := ⟨_, rfl⟩
    rw [hres]
    have HRS := Lib.hid hres
    clear hres
    have hs1 : (1 : Int) ≤ ((str (text (.say a v z o))).size : Int) := by rw [str_size]; omega
    generalize str (text (.say a v z o)) = st at *
    generalize str (text z) = sz at *
    generalize str (text o) = so at *
    have HN := Lib.hid hn
    clear hl hlz hw ihz iho hx0 hn
    have ez := fun W => ihz' oR oC W h1 h2
    have eo := fun W => iho' iR iC W h3 h4
    clear ihz' iho'
    by_cases hin : iR = 0 ∨ iC = 0
    · obtain ⟨q1, q2⟩ := hnb hin
      have HZ := Lib.hid (fun W => ez W q1 q2)
      have HR1 : Hid (str (text (trimT z oR oC)) = res) := by have h := HRS.out; rw [if_pos hin] at h; exact h
      have n1 := ne0 (n := oR) (by omega)
      have n2 := ne0 (n := oC) (by omega)
      clear ez eo HRS hnb
      by_cases hi0 : iR = 0
      · have n3 := eq0 hi0
        clear hin hi0
        go_enter Tryz.func23, Tryz.ntmps23
        go_wp2_with fail
        refine (HL.out _).mono ?_
        rintro e w' ⟨rfl, rfl⟩
        go_wp2_with fail
        refine (HP.out _).mono ?_
        rintro e w1 ⟨rfl, hb1⟩
        have g0 : (w.alloc (.cells #[.int .i64 (R : Int), .int .i64 (C : Int)] 45)).heap[w.heap.size]? = some (.cells #[.int .i64 (R : Int), .int .i64 (C : Int)] 45 (0, 0)) := heap_alloc_new w _
        have g1 : w1.heap[w.heap.size]? = some (.cells #[.int .i64 (R : Int), .int .i64 (C : Int)] 45 (0, 0)) := (hb1.block _ (Array.getElem?_eq_some_iff.1 g0).1).trans g0
        obtain ⟨c0, c1, _, _⟩ := cells2 g1
        have HB1 : Hid (Below w.heap.size w w1) := by
          have b0 := (Below.refl w.heap.size w).alloc (Nat.le_refl _) (.cells #[.int .i64 (R : Int), .int .i64 (C : Int)] 45)
          exact b0.trans (hb1.mono b0.size)
        clear hb1 g0 g1
        go_wp2_with fail
        refine (HSp.out _).mono ?_
        rintro e w2 ⟨rfl, hb2⟩
        have HB2 := Lib.hid (HB1.out.trans (hb2.mono HB1.out.size))
        clear hb2 HB1 c0 c1
        have HB3 := Lib.hid ((HB2.out.alloc HB2.out.size (.cells #[.int .i64 (oR : Int), .int .i64 (oC : Int)] 45)).alloc (HB2.out.alloc HB2.out.size (.cells #[.int .i64 (oR : Int), .int .i64 (oC : Int)] 45)).size (.cells #[.int .i64 (iR : Int), .int .i64 (iC : Int)] 45))
        go_wp2_with fail
        refine (HZ.out _).mono ?_
        rintro e w4 ⟨rfl, hb4⟩
        have HB4 := Lib.hid (HB3.out.trans (hb4.mono HB3.out.size))
        clear hb4
        go_wp2_with fail
        go_ret
        exact ⟨by rw [← HR1.out]; rfl, HB4.out⟩
      · have n3 := ne0 hi0
        have n4 := eq0 (n := iC) (by omega)
        clear hin hi0
        go_enter Tryz.func23, Tryz.ntmps23
        go_wp2_with fail
        refine (HL.out _).mono ?_
        rintro e w' ⟨rfl, rfl⟩
        go_wp2_with fail
        refine (HP.out _).mono ?_
        rintro e w1 ⟨rfl, hb1⟩
        have g0 : (w.alloc (.cells #[.int .i64 (R : Int), .int .i64 (C : Int)] 45)).heap[w.heap.size]? = some (.cells #[.int .i64 (R : Int), .int .i64 (C : Int)] 45 (0, 0)) := heap_alloc_new w _
        have g1 : w1.heap[w.heap.size]? = some (.cells #[.int .i64 (R : Int), .int .i64 (C : Int)] 45 (0, 0)) := (hb1.block _ (Array.getElem?_eq_some_iff.1 g0).1).trans g0
        obtain ⟨c0, c1, _, _⟩ := cells2 g1
        have HB1 : Hid (Below w.heap.size w w1) := by
          have b0 := (Below.refl w.heap.size w).alloc (Nat.le_refl _) (.cells #[.int .i64 (R : Int), .int .i64 (C : Int)] 45)
          exact b0.trans (hb1.mono b0.size)
        clear hb1 g0 g1
        go_wp2_with fail
        refine (HSp.out _).mono ?_
        rintro e w2 ⟨rfl, hb2⟩
        have HB2 := Lib.hid (HB1.out.trans (hb2.mono HB1.out.size))
        clear hb2 HB1 c0 c1
        have HB3 := Lib.hid ((HB2.out.alloc HB2.out.size (.cells #[.int .i64 (oR : Int), .int .i64 (oC : Int)] 45)).alloc (HB2.out.alloc HB2.out.size (.cells #[.int .i64 (oR : Int), .int .i64 (oC : Int)] 45)).size (.cells #[.int .i64 (iR : Int), .int .i64 (iC : Int)] 45))
        go_wp2_with fail
        refine (HZ.out _).mono ?_
        rintro e w4 ⟨rfl, hb4⟩
        have HB4 := Lib.hid (HB3.out.trans (hb4.mono HB3.out.size))
        clear hb4
        go_wp2_with fail
        go_ret
        exact ⟨by rw [← HR1.out]; rfl, HB4.out⟩
    have i1 : 1 ≤ iR := by omega
    have i2 : 1 ≤ iC := by omega
    have n3 := ne0 (n := iR) (by omega)
    have n4 := ne0 (n := iC) (by omega)
    have HO := Lib.hid (fun W => eo W i1 i2)
    have HRS2 : Hid (str (text (if oR = 0 ∨ oC = 0 then trimT o iR iC else .say a (if a then iR else iC) (trimT z oR oC) (trimT o iR iC))) = res) := by have h := HRS.out; rw [if_neg hin] at h; exact h
    clear HRS hnb hin eo
    by_cases hou : oR = 0 ∨ oC = 0
    · have HR1 : Hid (str (text (trimT o iR iC)) = res) := by have h := HRS2.out; rw [if_pos hou] at h; exact h
      clear ez HRS2
      by_cases ho0 : oR = 0
      · have n1 := eq0 ho0
        clear hou ho0
        go_enter Tryz.func23, Tryz.ntmps23
        go_wp2_with fail
        refine (HL.out _).mono ?_
        rintro e w' ⟨rfl, rfl⟩
        go_wp2_with fail
        refine (HP.out _).mono ?_
        rintro e w1 ⟨rfl, hb1⟩
        have g0 : (w.alloc (.cells #[.int .i64 (R : Int), .int .i64 (C : Int)] 45)).heap[w.heap.size]? = some (.cells #[.int .i64 (R : Int), .int .i64 (C : Int)] 45 (0, 0)) := heap_alloc_new w _
        have g1 : w1.heap[w.heap.size]? = some (.cells #[.int .i64 (R : Int), .int .i64 (C : Int)] 45 (0, 0)) := (hb1.block _ (Array.getElem?_eq_some_iff.1 g0).1).trans g0
        obtain ⟨c0, c1, _, _⟩ := cells2 g1
        have HB1 : Hid (Below w.heap.size w w1) := by
          have b0 := (Below.refl w.heap.size w).alloc (Nat.le_refl _) (.cells #[.int .i64 (R : Int), .int .i64 (C : Int)] 45)
          exact b0.trans (hb1.mono b0.size)
        clear hb1 g0 g1
        go_wp2_with fail
        refine (HSp.out _).mono ?_
        rintro e w2 ⟨rfl, hb2⟩
        have HB2 := Lib.hid (HB1.out.trans (hb2.mono HB1.out.size))
        clear hb2 HB1 c0 c1
        have HB3 := Lib.hid ((HB2.out.alloc HB2.out.size (.cells #[.int .i64 (oR : Int), .int .i64 (oC : Int)] 45)).alloc (HB2.out.alloc HB2.out.size (.cells #[.int .i64 (oR : Int), .int .i64 (oC : Int)] 45)).size (.cells #[.int .i64 (iR : Int), .int .i64 (iC : Int)] 45))
        go_wp2_with fail
        refine (HO.out _).mono ?_
        rintro e w4 ⟨rfl, hb4⟩
        have HB4 := Lib.hid (HB3.out.trans (hb4.mono HB3.out.size))
        clear hb4
        go_wp2_with fail
        go_ret
        exact ⟨by rw [← HR1.out]; rfl, HB4.out⟩
      · have n1 := ne0 ho0
        have n2 := eq0 (n := oC) (by omega)
        clear hou ho0
        go_enter Tryz.func23, Tryz.ntmps23
        go_wp2_with fail
        refine (HL.out _).mono ?_
        rintro e w' ⟨rfl, rfl⟩
        go_wp2_with fail
        refine (HP.out _).mono ?_
        rintro e w1 ⟨rfl, hb1⟩
        have g0 : (w.alloc (.cells #[.int .i64 (R : Int), .int .i64 (C : Int)] 45)).heap[w.heap.size]? = some (.cells #[.int .i64 (R : Int), .int .i64 (C : Int)] 45 (0, 0)) := heap_alloc_new w _
        have g1 : w1.heap[w.heap.size]? = some (.cells #[.int .i64 (R : Int), .int .i64 (C : Int)] 45 (0, 0)) := (hb1.block _ (Array.getElem?_eq_some_iff.1 g0).1).trans g0
        obtain ⟨c0, c1, _, _⟩ := cells2 g1
        have HB1 : Hid (Below w.heap.size w w1) := by
          have b0 := (Below.refl w.heap.size w).alloc (Nat.le_refl _) (.cells #[.int .i64 (R : Int), .int .i64 (C : Int)] 45)
          exact b0.trans (hb1.mono b0.size)
        clear hb1 g0 g1
        go_wp2_with fail
        refine (HSp.out _).mono ?_
        rintro e w2 ⟨rfl, hb2⟩
        have HB2 := Lib.hid (HB1.out.trans (hb2.mono HB1.out.size))
        clear hb2 HB1 c0 c1
        have HB3 := Lib.hid ((HB2.out.alloc HB2.out.size (.cells #[.int .i64 (oR : Int), .int .i64 (oC : Int)] 45)).alloc (HB2.out.alloc HB2.out.size (.cells #[.int .i64 (oR : Int), .int .i64 (oC : Int)] 45)).size (.cells #[.int .i64 (iR : Int), .int .i64 (iC : Int)] 45))
        go_wp2_with fail
        refine (HO.out _).mono ?_
        rintro e w4 ⟨rfl, hb4⟩
        have HB4 := Lib.hid (HB3.out.trans (hb4.mono HB3.out.size))
        clear hb4
        go_wp2_with fail
        go_ret
        exact ⟨by rw [← HR1.out]; rfl, HB4.out⟩
    have o1 : 1 ≤ oR := by omega
    have o2 : 1 ≤ oC := by omega
    have n1 := ne0 (n := oR) (by omega)
    have n2 := ne0 (n := oC) (by omega)
    have HZ := Lib.hid (fun W => ez W o1 o2)
    have HRS3 : Hid (str (text (.say a (if a then iR else iC) (trimT z oR oC) (trimT o iR iC))) = res) := by have h := HRS2.out; rw [if_neg hou] at h; exact h
    obtain ⟨S, hS⟩ : ∃ S : Nat, (if a then iR else iC) = S := ⟨_, rfl⟩
    have hS8 : S < 256 := by rw [← hS]; split <;> assumption
    have HS := Lib.hid hS
    rw [hS] at HRS3
    have s1 : (str (text (trimT z oR oC))).size ≤ 8000000 := by rw [str_size]; omega
    have s2 : (str (text (trimT o iR iC))).size ≤ 8000000 := by rw [str_size]; omega
    have HNo := Lib.hid fun W => node_said (str [whoB a]) (str (text (trimT z oR oC))) (str (text (trimT o iR iC))) S hS8 (by rw [str_size]; show 1 ≤ 2000; omega) s1 s2 W
    have HRes : Hid (res = str [whoB a] ++ str [hexD (S / 16)] ++ str [hexD (S % 16)] ++ str (text (trimT z oR oC)) ++ str (text (trimT o iR iC))) := by
      show _ = _
      rw [← HRS3.out, str_append, str_append, str_append, str_append]
      rfl
    generalize str [whoB a] ++ str [hexD (S / 16)] ++ str [hexD (S % 16)] ++ str (text (trimT z oR oC)) ++ str (text (trimT o iR iC)) = res2 at *
    generalize str (text (trimT z oR oC)) = rz at *
    generalize str (text (trimT o iR iC)) = ro at *
    generalize str [whoB a] = q0 at *
    clear HRS2 HRS3 hou hS s1 s2 ez
    cases a
    · have hn : (st[0]'hk).toNat = 66 := HN.out
      have hSi : iC = S := HS.out
      subst hSi
      go_enter Tryz.func23, Tryz.ntmps23
      go_wp2_with fail
      refine (HL.out _).mono ?_
      rintro e w' ⟨rfl, rfl⟩
      go_wp2_with fail
      refine (HP.out _).mono ?_
      rintro e w1 ⟨rfl, hb1⟩
      have g0 : (w.alloc (.cells #[.int .i64 (R : Int), .int .i64 (C : Int)] 45)).heap[w.heap.size]? = some (.cells #[.int .i64 (R : Int), .int .i64 (C : Int)] 45 (0, 0)) := heap_alloc_new w _
      have g1 : w1.heap[w.heap.size]? = some (.cells #[.int .i64 (R : Int), .int .i64 (C : Int)] 45 (0, 0)) := (hb1.block _ (Array.getElem?_eq_some_iff.1 g0).1).trans g0
      obtain ⟨c0, c1, _, _⟩ := cells2 g1
      have HB1 : Hid (Below w.heap.size w w1) := by
        have b0 := (Below.refl w.heap.size w).alloc (Nat.le_refl _) (.cells #[.int .i64 (R : Int), .int .i64 (C : Int)] 45)
        exact b0.trans (hb1.mono b0.size)
      clear hb1 g0 g1
      go_wp2_with fail
      refine (HSp.out _).mono ?_
      rintro e w2 ⟨rfl, hb2⟩
      have HB2 := Lib.hid (HB1.out.trans (hb2.mono HB1.out.size))
      clear hb2 HB1 c0 c1
      obtain ⟨W3, hW3⟩ : ∃ W3, ((w2.alloc (.cells #[.int .i64 (oR : Int), .int .i64 (oC : Int)] 45)).alloc (.cells #[.int .i64 (iR : Int), .int .i64 (iC : Int)] 45)) = W3 := ⟨_, rfl⟩
      have HB3 : Hid (Below w.heap.size w W3) := by
        show Below _ _ _
        rw [← hW3]
        have b1 := HB2.out.alloc HB2.out.size (.cells #[.int .i64 (oR : Int), .int .i64 (oC : Int)] 45)
        exact b1.alloc b1.size _
      have HM1 : Hid (∀ wx : World, Below W3.heap.size W3 wx → wx.heap[w2.heap.size]? = some (.cells #[.int .i64 (oR : Int), .int .i64 (oC : Int)] 45 (0, 0))) := fun wx h => by
        have g0 := heap_alloc_new w2 (.cells #[.int .i64 (oR : Int), .int .i64 (oC : Int)] 45)
        have g1 := (heap_alloc_old (w2.alloc (.cells #[.int .i64 (oR : Int), .int .i64 (oC : Int)] 45)) (.cells #[.int .i64 (iR : Int), .int .i64 (iC : Int)] 45) (Array.getElem?_eq_some_iff.1 g0).1).trans g0
        rw [hW3] at g1
        exact (h.block _ (Array.getElem?_eq_some_iff.1 g1).1).trans g1
      have HM2 : Hid (∀ wx : World, Below W3.heap.size W3 wx → wx.heap[w2.heap.size + 1]? = some (.cells #[.int .i64 (iR : Int), .int .i64 (iC : Int)] 45 (0, 0))) := fun wx h => by
        have g1 := heap_alloc_new (w2.alloc (.cells #[.int .i64 (oR : Int), .int .i64 (oC : Int)] 45)) (.cells #[.int .i64 (iR : Int), .int .i64 (iC : Int)] 45)
        rw [show (w2.alloc (.cells #[.int .i64 (oR : Int), .int .i64 (oC : Int)] 45)).heap.size = w2.heap.size + 1 by simp] at g1
        rw [hW3] at g1
        exact (h.block _ (Array.getElem?_eq_some_iff.1 g1).1).trans g1
      have HW3 := Lib.hid hW3
      clear hW3
      go_wp2_with fail
      rw [HW3.out]
      clear HW3
      refine region_kept (C := fun wx => Below W3.heap.size W3 wx) (drew_at W3) (by kernel_rfl) (by kernel_rfl) ?_
      repeat
        (refine wq_step (fun K hK => ?_)
         go_simp
         first
           | (refine hK _ ?_; clear hK K)
           | (apply Exists.intro
              refine ⟨fun wx hC => ?_, hK _ ?_⟩
              · first
                | with_reducible rfl
                | with_reducible exact ((HZ.out wx).mono fun e w' h => ⟨h.1, hC.trans (h.2.mono hC.size)⟩)
                | with_reducible exact ((HO.out wx).mono fun e w' h => ⟨h.1, hC.trans (h.2.mono hC.size)⟩)
                | with_reducible exact ((HNo.out wx).mono fun e w' h => ⟨h.1, hC.trans (h.2.mono hC.size)⟩)
                | (rw [if_pos hs1]; exact ⟨rfl, rfl⟩)
                | (obtain ⟨d0, d1, _, _⟩ := cells2 (HM1.out wx hC); obtain ⟨f0, f1, _, _⟩ := cells2 (HM2.out wx hC); go_simp; first | done | rfl)
              clear hK K))
      refine wq_nil ?_
      intro w9 hC
      have HB9 := Lib.hid (HB3.out.trans (hC.mono HB3.out.size))
      clear hC
      go_simp
      go_wp2_with fail
      go_ret
      exact ⟨by rw [HRes.out]; rfl, HB9.out⟩
    · have hn : (st[0]'hk).toNat = 65 := HN.out
      have hSi : iR = S := HS.out
      subst hSi
      go_enter Tryz.func23, Tryz.ntmps23
      go_wp2_with fail
      refine (HL.out _).mono ?_
      rintro e w' ⟨rfl, rfl⟩
      go_wp2_with fail
      refine (HP.out _).mono ?_
      rintro e w1 ⟨rfl, hb1⟩
      have g0 : (w.alloc (.cells #[.int .i64 (R : Int), .int .i64 (C : Int)] 45)).heap[w.heap.size]? = some (.cells #[.int .i64 (R : Int), .int .i64 (C : Int)] 45 (0, 0)) := heap_alloc_new w _
      have g1 : w1.heap[w.heap.size]? = some (.cells #[.int .i64 (R : Int), .int .i64 (C : Int)] 45 (0, 0)) := (hb1.block _ (Array.getElem?_eq_some_iff.1 g0).1).trans g0
      obtain ⟨c0, c1, _, _⟩ := cells2 g1
      have HB1 : Hid (Below w.heap.size w w1) := by
        have b0 := (Below.refl w.heap.size w).alloc (Nat.le_refl _) (.cells #[.int .i64 (R : Int), .int .i64 (C : Int)] 45)
        exact b0.trans (hb1.mono b0.size)
      clear hb1 g0 g1
      go_wp2_with fail
      refine (HSp.out _).mono ?_
      rintro e w2 ⟨rfl, hb2⟩
      have HB2 := Lib.hid (HB1.out.trans (hb2.mono HB1.out.size))
      clear hb2 HB1 c0 c1
      obtain ⟨W3, hW3⟩ : ∃ W3, ((w2.alloc (.cells #[.int .i64 (oR : Int), .int .i64 (oC : Int)] 45)).alloc (.cells #[.int .i64 (iR : Int), .int .i64 (iC : Int)] 45)) = W3 := ⟨_, rfl⟩
      have HB3 : Hid (Below w.heap.size w W3) := by
        show Below _ _ _
        rw [← hW3]
        have b1 := HB2.out.alloc HB2.out.size (.cells #[.int .i64 (oR : Int), .int .i64 (oC : Int)] 45)
        exact b1.alloc b1.size _
      have HM1 : Hid (∀ wx : World, Below W3.heap.size W3 wx → wx.heap[w2.heap.size]? = some (.cells #[.int .i64 (oR : Int), .int .i64 (oC : Int)] 45 (0, 0))) := fun wx h => by
        have g0 := heap_alloc_new w2 (.cells #[.int .i64 (oR : Int), .int .i64 (oC : Int)] 45)
        have g1 := (heap_alloc_old (w2.alloc (.cells #[.int .i64 (oR : Int), .int .i64 (oC : Int)] 45)) (.cells #[.int .i64 (iR : Int), .int .i64 (iC : Int)] 45) (Array.getElem?_eq_some_iff.1 g0).1).trans g0
        rw [hW3] at g1
        exact (h.block _ (Array.getElem?_eq_some_iff.1 g1).1).trans g1
      have HM2 : Hid (∀ wx : World, Below W3.heap.size W3 wx → wx.heap[w2.heap.size + 1]? = some (.cells #[.int .i64 (iR : Int), .int .i64 (iC : Int)] 45 (0, 0))) := fun wx h => by
        have g1 := heap_alloc_new (w2.alloc (.cells #[.int .i64 (oR : Int), .int .i64 (oC : Int)] 45)) (.cells #[.int .i64 (iR : Int), .int .i64 (iC : Int)] 45)
        rw [show (w2.alloc (.cells #[.int .i64 (oR : Int), .int .i64 (oC : Int)] 45)).heap.size = w2.heap.size + 1 by simp] at g1
        rw [hW3] at g1
        exact (h.block _ (Array.getElem?_eq_some_iff.1 g1).1).trans g1
      have HW3 := Lib.hid hW3
      clear hW3
      go_wp2_with fail
      rw [HW3.out]
      clear HW3
      refine region_kept (C := fun wx => Below W3.heap.size W3 wx) (drew_at W3) (by kernel_rfl) (by kernel_rfl) ?_
      repeat
        (refine wq_step (fun K hK => ?_)
         go_simp
         first
           | (refine hK _ ?_; clear hK K)
           | (apply Exists.intro
              refine ⟨fun wx hC => ?_, hK _ ?_⟩
              · first
                | with_reducible rfl
                | with_reducible exact ((HZ.out wx).mono fun e w' h => ⟨h.1, hC.trans (h.2.mono hC.size)⟩)
                | with_reducible exact ((HO.out wx).mono fun e w' h => ⟨h.1, hC.trans (h.2.mono hC.size)⟩)
                | with_reducible exact ((HNo.out wx).mono fun e w' h => ⟨h.1, hC.trans (h.2.mono hC.size)⟩)
                | (rw [if_pos hs1]; exact ⟨rfl, rfl⟩)
                | (obtain ⟨d0, d1, _, _⟩ := cells2 (HM1.out wx hC); obtain ⟨f0, f1, _, _⟩ := cells2 (HM2.out wx hC); go_simp; first | done | rfl)
              clear hK K))
      refine wq_nil ?_
      intro w9 hC
      have HB9 := Lib.hid (HB3.out.trans (hC.mono HB3.out.size))
      clear hC
      go_simp
      go_wp2_with fail
      go_ret
      exact ⟨by rw [HRes.out]; rfl, HB9.out⟩
end Go.Proofs.YtbbgibbpeibhiaaGreatDoor.SaidTrim

/-
  What comes of balancing a protocol, in the reference.
-/
namespace Go.Proofs.YtbbgibbpeibhiaaGreatDoor.SaidBal
open Go.RowKit Go.Shelf Go.Proofs.YtbbgibbpeibhiaaGreatDoor.Plain Go.Proofs.YtbbgibbpeibhiaaGreatDoor.Tree Go.Proofs.YtbbgibbpeibhiaaGreatDoor.Read Go.Proofs.YtbbgibbpeibhiaaGreatDoor.Parts Go.Proofs.YtbbgibbpeibhiaaGreatDoor.SetW Go.Proofs.YtbbgibbpeibhiaaGreatDoor.TrimT Go.Proofs.YtbbgibbpeibhiaaGreatDoor.Rect Go.Proofs.YtbbgibbpeibhiaaGreatDoor.FreeL Go.Proofs.YtbbgibbpeibhiaaGreatDoor.CutT Go.Proofs.YtbbgibbpeibhiaaGreatDoor.SaidCut Go.Proofs.YtbbgibbpeibhiaaGreatDoor.SaidTrim
open Go.Proofs.YtbbgibbpeibhiaaGreatDoor.Split (cells2 info_rect eval_get)
open Go.Proofs.YtbbgibbpeibhiaaGreatDoor.Free (fill wp_value wp_enter wp_load_row freeB)
set_option linter.unusedVariables false
set_option linter.unusedSimpArgs false

theorem node_text (a : Bool) (S : Nat) (X Y : T) : str [whoB a] ++ str [hexD (S / 16)] ++ str [hexD (S % 16)] ++ str (text X) ++ str (text Y) = str (text (.say a S X Y)) := by
  rw [str_append, str_append, str_append, str_append]
  rfl
/-- a protocol's text that begins with a bit -/
theorem said_node (a : Bool) (S : Nat) (hS : S < 256) (X Y : T) (hX : (text X).length ≤ 8000000) (hY : (text Y).length ≤ 8000000) (w : World) :
    Calls Tryz.prog 16 #[.string (str [whoB a]), .int .i64 (S : Int), .string (str (text X)), .string (str (text Y))] w fun e w' => e = .returned (.string (str (text (.say a S X Y)))) ∧ Below w.heap.size w w' := by
  rw [← node_text]
  exact node_said (str [whoB a]) (str (text X)) (str (text Y)) S hS (by rw [str_size]; show 1 ≤ 2000; omega) (by rw [str_size]; omega) (by rw [str_size]; omega) w
/-- the blocks of a call: the rectangle and the part's -/
structure Sb (w wr : World) (B D R C x y : Nat) : Prop where
  rect : wr.heap[B]? = some (.cells #[.int .i64 (R : Int), .int .i64 (C : Int)] 45 (0, 0))
  part : wr.heap[D]? = some (.cells #[.int .i64 (x : Int), .int .i64 (y : Int)] 45 (0, 0))
  below : Below w.heap.size w wr
theorem Sb.later {w wr w2 : World} {B D R C x y : Nat} (h : Sb w wr B D R C x y) (hb : Below wr.heap.size wr w2) : Sb w w2 B D R C x y :=
  have k : ∀ {g : Nat} {o : Obj}, wr.heap[g]? = some o → w2.heap[g]? = some o := fun e => (hb.block _ (Array.getElem?_eq_some_iff.1 e).1).trans e
  ⟨k h.rect, k h.part, h.below.trans (hb.mono h.below.size)⟩
theorem eqn {a b : Nat} (h : a = b) : ((a : Int) == (b : Int)) = true := by subst h; simp
theorem nen {a b : Nat} (h : a ≠ b) : ((a : Int) == (b : Int)) = false := beq_false_of_ne (by omega)

set_option maxHeartbeats 8000000 in
set_option maxRecDepth 100000 in
theorem said_bal : ∀ (k : Nat) (t : T), wf t → (text t).length ≤ 2000 → ∀ (R C : Nat) (w : World), R < 256 → C < 256 → 1 ≤ R → 1 ≤ C → ends (trimT t R C) ≤ k → ends (trimT t R C) ≤ 16 →
    Calls Tryz.prog 25 #[.string (str (text t)), rect R C] w fun e w' => e = .returned (.string (str (text (balS k (trimT t R C) R C)))) ∧ Below w.heap.size w w' := by
  intro k
  induction k with
  | zero =>
    intro t hw hl R C w hR hC hR1 hC1 hk
    have := ends_pos (trimT t R C)
    omega
  | succ k ih =>
    intro t hw hl R C w hR hC hR1 hC1 hk h16
    have HTr := Lib.hid fun W => said_trim t hw hl R C W hR hC hR1 hC1
    have hwu := trim_wf t R C hR hC hw
    have hlu := trim_length t R C
    have htu := trim_tight t R C hR hC hR1 hC1
    obtain ⟨st, hst⟩ : ∃ q, str (text t) = q := ⟨_, rfl⟩
    rw [hst] at HTr ⊢
    generalize trimT t R C = u at *
    have HL := Lib.hid (said_ends u hwu (by omega))
    have hle := text_ends u
    have hep := ends_pos u
    have e1 := cut_ends (ends u) u R C
    obtain ⟨w1, w2⟩ := cut_wf (ends u) u R C hwu
    obtain ⟨g1, g2, g3, g4, g5, g6, g7, g8⟩ := cut_rect (ends u) u R C hR hC hR1 hC1 htu
    have hC0 : 3 ≤ ends u → ∀ W : World, Calls Tryz.prog 42 #[.string (str (text u)), rect R C, .int .i64 (ends u : Int), .string ⟨#[48]⟩] W fun e w' => e = .returned (.tuple #[.string (str (text (cutT (ends u) u R C).part)), rect (cutT (ends u) u R C).rows (cutT (ends u) u R C).cols, .string (str (text (cutT (ends u) u R C).rest))]) ∧ Below W.heap.size W w' :=
      fun h3 W => said_cut (ends u) (by omega) (by omega) u hwu (by omega) R C W hR hC
    have hX : 3 ≤ ends u → (∀ W : World, Calls Tryz.prog 25 #[.string (str (text (cutT (ends u) u R C).part)), rect (cutT (ends u) u R C).rows (cutT (ends u) u R C).cols] W fun e w' => e = .returned (.string (str (text (balS k (cutT (ends u) u R C).part (cutT (ends u) u R C).rows (cutT (ends u) u R C).cols)))) ∧ Below W.heap.size W w') ∧
        (∀ W : World, Calls Tryz.prog 25 #[.string (str (text (cutT (ends u) u R C).rest)), rect R C] W fun e w' => e = .returned (.string (str (text (balS k (cutT (ends u) u R C).rest R C)))) ∧ Below W.heap.size W w') ∧
        ends (cutT (ends u) u R C).part ≤ 16 ∧ ends (cutT (ends u) u R C).rest ≤ 16 := by
      intro h3
      have e2 := cut_most (ends u) (by omega) u R C
      have e3 := cut_least (ends u) u R C (by omega)
      have l1 := text_ends (cutT (ends u) u R C).part
      have l2 := text_ends (cutT (ends u) u R C).rest
      have y1 := tight_trim _ _ _ g7
      have y2 := tight_trim _ _ _ g8
      refine ⟨fun W => ?_, fun W => ?_, by omega, by omega⟩
      · have h := ih (cutT (ends u) u R C).part w1 (by omega) (cutT (ends u) u R C).rows (cutT (ends u) u R C).cols W g1 g2 g3 g4 (by rw [y1]; omega) (by rw [y1]; omega)
        rw [y1] at h
        exact h
      · have h := ih (cutT (ends u) u R C).rest w2 (by omega) R C W hR hC hR1 hC1 (by rw [y2]; omega) (by rw [y2]; omega)
        rw [y2] at h
        exact h
    have sX := fun h => balS_ends k (cutT (ends u) u R C).rest R C h
    have sY := fun h => balS_ends k (cutT (ends u) u R C).part (cutT (ends u) u R C).rows (cutT (ends u) u R C).cols h
    have HRS : Hid (balS (k + 1) u R C = if ends u ≤ 2 then u else
      if (cutT (ends u) u R C).cols = C then
        .say true (cutT (ends u) u R C).rows (balS k (cutT (ends u) u R C).rest R C) (balS k (cutT (ends u) u R C).part (cutT (ends u) u R C).rows (cutT (ends u) u R C).cols)
      else if (cutT (ends u) u R C).rows = R then
        .say false (cutT (ends u) u R C).cols (balS k (cutT (ends u) u R C).rest R C) (balS k (cutT (ends u) u R C).part (cutT (ends u) u R C).rows (cutT (ends u) u R C).cols)
      else
        .say true (cutT (ends u) u R C).rows (balS k (cutT (ends u) u R C).rest R C)
          (.say false (cutT (ends u) u R C).cols (balS k (cutT (ends u) u R C).rest R C) (balS k (cutT (ends u) u R C).part (cutT (ends u) u R C).rows (cutT (ends u) u R C).cols))) := rfl
    obtain ⟨res, hres⟩ : ∃ res, balS (k + 1) u R C = res := ⟨_, rfl⟩
    rw [hres] at HRS ⊢
    clear hres
    generalize balS k (cutT (ends u) u R C).rest R C = X at *
    generalize balS k (cutT (ends u) u R C).part (cutT (ends u) u R C).rows (cutT (ends u) u R C).cols = Y at *
    generalize cutT (ends u) u R C = cu at *
    obtain ⟨pa, ra, ca, xa⟩ := cu
    simp only at hC0 hX e1 HRS g1 g2 sX sY
    have HNX := fun (h3 : 3 ≤ ends u) => (show (text X).length ≤ 2000 ∧ (text Y).length ≤ 2000 from by
      obtain ⟨_, _, a1, a2⟩ := hX h3
      have m1 := sX a2
      have m2 := sY a1
      have m3 := most_le ⟨ends xa, by omega⟩
      have m4 := most_le ⟨ends pa, by omega⟩
      have l1 := text_ends X
      have l2 := text_ends Y
      simp only at m3 m4
      omega)
    obtain ⟨E, hEE⟩ : ∃ E, ends u = E := ⟨_, rfl⟩
    rw [hEE] at HL hC0 hX h16 HRS HNX
    obtain ⟨B, hB⟩ : ∃ B, w.heap.size = B := ⟨_, rfl⟩
    clear ih hk hw hl hst hwu hlu htu hep hle e1 w1 w2 g3 g4 g5 g6 g7 g8 sX sY hR hC hR1 hC1 hEE
    by_cases h2 : E ≤ 2
    · have HR1 : Hid (res = u) := by have h := HRS.out; rw [if_pos h2] at h; exact h
      have h2i : (E : Int) ≤ 2 := by omega
      rw [HR1.out]
      clear HRS hC0 hX HNX HR1
      generalize str (text u) = su at *
      go_enter Tryz.func25, Tryz.ntmps25
      go_wp2_with fail
      refine (HTr.out _).mono ?_
      rintro e w1 ⟨rfl, hb1⟩
      have HB1 := Lib.hid (((Below.refl w.heap.size w).alloc (Nat.le_refl _) (.cells #[.int .i64 (R : Int), .int .i64 (C : Int)] 45)).trans (hb1.mono (by simp)))
      clear hb1
      go_wp2_with fail
      refine (HL.out _).mono ?_
      rintro e w2 ⟨rfl, hb2⟩
      have HB2 := Lib.hid (HB1.out.trans (hb2.mono HB1.out.size))
      clear hb2 HB1
      go_wp2_with fail
      go_ret
      exact ⟨rfl, HB2.out⟩
    have h2i : ¬ (E : Int) ≤ 2 := by omega
    have HRS2 : Hid (res = if ca = C then .say true ra X Y else if ra = R then .say false ca X Y else .say true ra X (.say false ca X Y)) := by have h := HRS.out; rw [if_neg h2] at h; exact h
    obtain ⟨lX, lY⟩ := HNX (by omega)
    obtain ⟨hy, hx, _, _⟩ := hX (by omega)
    have HC := Lib.hid (hC0 (by omega))
    have HX := Lib.hid hx
    have HY := Lib.hid hy
    have hlZ : (text (.say false ca X Y)).length ≤ 8000000 := by simp only [text, List.length_cons, List.length_append]; omega
    have HN1 : Hid (∀ W : World, Calls Tryz.prog 16 #[.string ⟨#[65]⟩, .int .i64 (ra : Int), .string (str (text X)), .string (str (text Y))] W fun e w' => e = .returned (.string (str (text (.say true ra X Y)))) ∧ Below W.heap.size W w') := fun W => said_node true ra g1 X Y (by omega) (by omega) W
    have HN2 : Hid (∀ W : World, Calls Tryz.prog 16 #[.string ⟨#[66]⟩, .int .i64 (ca : Int), .string (str (text X)), .string (str (text Y))] W fun e w' => e = .returned (.string (str (text (.say false ca X Y)))) ∧ Below W.heap.size W w') := fun W => said_node false ca g2 X Y (by omega) (by omega) W
    have HN3 : Hid (∀ W : World, Calls Tryz.prog 16 #[.string ⟨#[65]⟩, .int .i64 (ra : Int), .string (str (text X)), .string (str (text (.say false ca X Y)))] W fun e w' => e = .returned (.string (str (text (.say true ra X (.say false ca X Y))))) ∧ Below W.heap.size W w') := fun W => said_node true ra g1 X _ (by omega) hlZ W
    clear HRS hC0 hX HNX hx hy lX lY hlZ
    have HRW : Hid (∃ sr, str (text res) = sr) := ⟨_, rfl⟩
    generalize str (text u) = su at *
    generalize str (text pa) = sp at *
    generalize str (text xa) = sx at *
    go_enter Tryz.func25, Tryz.ntmps25
    go_wp2_with fail
    refine (HTr.out _).mono ?_
    rintro e w1 ⟨rfl, hb1⟩
    have n0 := heap_alloc_new w (.cells #[.int .i64 (R : Int), .int .i64 (C : Int)] 45)
    have k0 := (hb1.block _ (Array.getElem?_eq_some_iff.1 n0).1).trans n0
    have HB1 := Lib.hid (((Below.refl w.heap.size w).alloc (Nat.le_refl _) (.cells #[.int .i64 (R : Int), .int .i64 (C : Int)] 45)).trans (hb1.mono (by simp)))
    rw [hB] at k0
    have HK0 := Lib.hid k0
    clear hb1 n0 k0 HTr hB
    go_wp2_with fail
    refine (HL.out _).mono ?_
    rintro e w2 ⟨rfl, hb2⟩
    have HK1 := Lib.hid ((hb2.block _ (Array.getElem?_eq_some_iff.1 HK0.out).1).trans HK0.out)
    have HB2 := Lib.hid (HB1.out.trans (hb2.mono HB1.out.size))
    clear hb2 HK0 HB1 HL
    obtain ⟨r0, r1, _, _⟩ := cells2 HK1.out
    go_wp2_with fail
    refine (HC.out _).mono ?_
    rintro e w3 ⟨rfl, hb3⟩
    obtain ⟨D, hD⟩ : ∃ D, w3.heap.size = D := ⟨_, rfl⟩
    have k1 := (hb3.block _ (Array.getElem?_eq_some_iff.1 HK1.out).1).trans HK1.out
    have n1 := heap_alloc_new w3 (.cells #[.int .i64 (ra : Int), .int .i64 (ca : Int)] 45)
    rw [hD] at n1
    have HB3 := Lib.hid (HB2.out.trans (hb3.mono HB2.out.size))
    have HS := Lib.hid (Sb.mk ((heap_alloc_old w3 _ (Array.getElem?_eq_some_iff.1 k1).1).trans k1) n1 (HB3.out.alloc HB3.out.size _) : Sb w (w3.alloc (.cells #[.int .i64 (ra : Int), .int .i64 (ca : Int)] 45)) B D R C ra ca)
    clear hb3 k1 n1 HB3 HB2 HK1 HC r0 r1
    go_wp2_with fail
    generalize w3.alloc (.cells #[.int .i64 (ra : Int), .int .i64 (ca : Int)] 45) = w4 at *
    refine (HY.out _).mono ?_
    rintro e w5 ⟨rfl, hb5⟩
    have HS5 := Lib.hid (HS.out.later hb5)
    clear hb5 HS HY hD
    obtain ⟨r0, r1, _, _⟩ := cells2 HS5.out.rect
    go_wp2_with fail
    refine (HX.out _).mono ?_
    rintro e w6 ⟨rfl, hb6⟩
    have HS6 := Lib.hid (HS5.out.later hb6)
    clear hb6 HS5 HX r0 r1
    obtain ⟨r0, r1, _, _⟩ := cells2 HS6.out.rect
    obtain ⟨d0, d1, _, _⟩ := cells2 HS6.out.part
    by_cases hc : ca = C
    · have hc2 := eqn hc
      have HR1 : Hid (res = .say true ra X Y) := by have h := HRS2.out; rw [if_pos hc] at h; exact h
      clear HRS2 hc HN2 HN3
      go_wp2_with fail
      refine (HN1.out _).mono ?_
      rintro e w7 ⟨rfl, hb7⟩
      have HB := Lib.hid (HS6.out.below.trans (hb7.mono HS6.out.below.size))
      clear hb7
      go_wp2_with fail
      go_ret
      exact ⟨by rw [HR1.out]; rfl, HB.out⟩
    have hc2 := nen hc
    by_cases hr : ra = R
    · have hr2 := eqn hr
      have HR1 : Hid (res = .say false ca X Y) := by have h := HRS2.out; rw [if_neg hc, if_pos hr] at h; exact h
      clear HRS2 hc hr HN1 HN3
      go_wp2_with fail
      refine (HN2.out _).mono ?_
      rintro e w7 ⟨rfl, hb7⟩
      have HB := Lib.hid (HS6.out.below.trans (hb7.mono HS6.out.below.size))
      clear hb7
      go_wp2_with fail
      go_ret
      exact ⟨by rw [HR1.out]; rfl, HB.out⟩
    have hr2 := nen hr
    have HR1 : Hid (res = .say true ra X (.say false ca X Y)) := by have h := HRS2.out; rw [if_neg hc, if_neg hr] at h; exact h
    obtain ⟨s3, hs3⟩ : ∃ q, str (text (.say true ra X (.say false ca X Y))) = q := ⟨_, rfl⟩
    have HQ : Hid (str (text res) = s3) := by show _ = _; rw [HR1.out]; exact hs3
    rw [hs3] at HN3
    clear HRS2 HR1 hc hr HN1 hs3
    generalize str (text (.say false ca X Y)) = s2 at *
    generalize str (text X) = sX at *
    generalize str (text Y) = sY at *
    go_wp2_with fail
    refine wp_region_below (fun | 0 => .pointer (some ⟨D, 0, none⟩) | 1 => .int .i64 (ra : Int) | 2 => .string sX | 3 => .pointer (some ⟨D, 1, none⟩) | 4 => .int .i64 (ca : Int) | 5 => .string sX | 6 => .string sY | 7 => .string s2 | 8 => .string s3 | 9 => .string s3 | _ => undef) (by kernel_rfl) (by kernel_rfl) rfl ?conZ ?enZ
    case conZ =>
      intro i o ho a wx hb hf
      match i, ho with
      | 0, ho =>
        obtain rfl := Option.some.inj ho
        have b8 : a.tmps[8]?.getD undef = .pointer (some ⟨D, 0, none⟩) := hf.2 8 (by kernel_rfl)
        exact wp_value (.pointer (some ⟨D, 0, none⟩)) (by unfold execOp; go_simp) ⟨rfl, Below.refl _ _⟩
      | 1, ho =>
        obtain rfl := Option.some.inj ho
        have e54 : a.tmps[54]?.getD undef = .pointer (some ⟨D, 0, none⟩) := hf.1 ⟨0, .data⟩ (by simp) rfl _ 54 rfl rfl
        obtain ⟨c0, c1, _, _⟩ := cells2 ((HS6.out.later hb).part)
        exact wp_value (.int .i64 (ra : Int)) (by unfold execOp; go_simp) ⟨rfl, Below.refl _ _⟩
      | 2, ho =>
        obtain rfl := Option.some.inj ho
        have b11 : a.tmps[11]?.getD undef = .string sX := hf.2 11 (by kernel_rfl)
        exact wp_value (.string sX) (by unfold execOp; go_simp) ⟨rfl, Below.refl _ _⟩
      | 3, ho =>
        obtain rfl := Option.some.inj ho
        have b8 : a.tmps[8]?.getD undef = .pointer (some ⟨D, 0, none⟩) := hf.2 8 (by kernel_rfl)
        exact wp_value (.pointer (some ⟨D, 1, none⟩)) (by unfold execOp; go_simp) ⟨rfl, Below.refl _ _⟩
      | 4, ho =>
        obtain rfl := Option.some.inj ho
        have e57 : a.tmps[57]?.getD undef = .pointer (some ⟨D, 1, none⟩) := hf.1 ⟨3, .data⟩ (by simp) rfl _ 57 rfl rfl
        obtain ⟨c0, c1, _, _⟩ := cells2 ((HS6.out.later hb).part)
        exact wp_value (.int .i64 (ca : Int)) (by unfold execOp; go_simp) ⟨rfl, Below.refl _ _⟩
      | 5, ho =>
        obtain rfl := Option.some.inj ho
        have b11 : a.tmps[11]?.getD undef = .string sX := hf.2 11 (by kernel_rfl)
        exact wp_value (.string sX) (by unfold execOp; go_simp) ⟨rfl, Below.refl _ _⟩
      | 6, ho =>
        obtain rfl := Option.some.inj ho
        have b10 : a.tmps[10]?.getD undef = .string sY := hf.2 10 (by kernel_rfl)
        exact wp_value (.string sY) (by unfold execOp; go_simp) ⟨rfl, Below.refl _ _⟩
      | 7, ho =>
        obtain rfl := Option.some.inj ho
        have e58 : a.tmps[58]?.getD undef = .int .i64 (ca : Int) := hf.1 ⟨4, .data⟩ (by simp) rfl _ 58 rfl rfl
        have e59 : a.tmps[59]?.getD undef = .string sX := hf.1 ⟨5, .data⟩ (by simp) rfl _ 59 rfl rfl
        have e60 : a.tmps[60]?.getD undef = .string sY := hf.1 ⟨6, .data⟩ (by simp) rfl _ 60 rfl rfl
        exact wp_enter 16 #[.string ⟨#[66]⟩, .int .i64 (ca : Int), .string sX, .string sY] (.string s2) _ (by unfold execOp; go_simp) (HN2.out wx) (fun w' h => ⟨rfl, h⟩)
      | 8, ho =>
        obtain rfl := Option.some.inj ho
        have e55 : a.tmps[55]?.getD undef = .int .i64 (ra : Int) := hf.1 ⟨1, .data⟩ (by simp) rfl _ 55 rfl rfl
        have e56 : a.tmps[56]?.getD undef = .string sX := hf.1 ⟨2, .data⟩ (by simp) rfl _ 56 rfl rfl
        have e61 : a.tmps[61]?.getD undef = .string s2 := hf.1 ⟨7, .data⟩ (by simp) rfl _ 61 rfl rfl
        exact wp_enter 16 #[.string ⟨#[65]⟩, .int .i64 (ra : Int), .string sX, .string s2] (.string s3) _ (by unfold execOp; go_simp) (HN3.out wx) (fun w' h => ⟨rfl, h⟩)
      | 9, ho =>
        obtain rfl := Option.some.inj ho
        have e62 : a.tmps[62]?.getD undef = .string s3 := hf.1 ⟨8, .data⟩ (by simp) rfl _ 62 rfl rfl
        exact wp_value (.string s3) (by unfold execOp; go_simp) ⟨rfl, Below.refl _ _⟩
      | q + 10, ho => simp at ho
    case enZ =>
      intro w7 hb7
      have HB := Lib.hid (HS6.out.below.trans (hb7.mono HS6.out.below.size))
      clear hb7
      simp only [fill, Act.put]
      go_simp
      go_wp2_with fail
      go_ret
      exact ⟨by rw [HQ.out]; rfl, HB.out⟩
end Go.Proofs.YtbbgibbpeibhiaaGreatDoor.SaidBal

/-
  Protocols that are drawn: l5Draw, l5Some, l5Bad, l5Open, l5Side.
-/
namespace Go.Proofs.YtbbgibbpeibhiaaGreatDoor.DrawP5
open Go.RowKit Go.Shelf Go.Proofs.YtbbgibbpeibhiaaGreatDoor.Plain Go.Proofs.YtbbgibbpeibhiaaGreatDoor.Tree Go.Proofs.YtbbgibbpeibhiaaGreatDoor.Read Go.Proofs.YtbbgibbpeibhiaaGreatDoor.Parts Go.Proofs.YtbbgibbpeibhiaaGreatDoor.SetW Go.Proofs.YtbbgibbpeibhiaaGreatDoor.Rd Go.Proofs.YtbbgibbpeibhiaaGreatDoor.Rd2 Go.Proofs.YtbbgibbpeibhiaaGreatDoor.Rd3 Go.Proofs.YtbbgibbpeibhiaaGreatDoor.DrawT Go.Proofs.YtbbgibbpeibhiaaGreatDoor.CutT Go.Proofs.YtbbgibbpeibhiaaGreatDoor.SaidBal
set_option linter.unusedVariables false
set_option linter.unusedSimpArgs false

theorem cells_str (w : World) (T : TypeId) (xs : List ByteArray) (j : Nat) (hj : j < xs.length) : (w.alloc (.cells (xs.map fun x : ByteArray => Value.string x).toArray T)).cell? ⟨w.heap.size, j, none⟩ = some (.string xs[j]) :=
  (cell_of_row _ _ j _ _ _ (heap_alloc_new w _)).trans (by simp [hj])
/-- an element of a list of strings that is written there -/
theorem of_lit {lo : Nat} (g p : Nat) (hp : p < 1048576) (xs : List ByteArray) (h1 : 1 ≤ xs.length) (h8 : xs.length ≤ 1000) (c : Nat) (w : World) (h : Rdr lo w g p) :
    Calls Tryz.prog 15 #[.pointer (some ⟨g, 0, none⟩), .slice (some ⟨w.heap.size, 0, none⟩) xs.length c] (w.alloc (.cells (xs.map fun x : ByteArray => Value.string x).toArray 9)) fun e w' => ∃ x : ByteArray, e = .returned (.string x) ∧ x ∈ xs ∧ Rdr lo w' g (p + 1) ∧ Apt g w w' := by
  have hgl := h.lt
  have hb := (Below.refl w.heap.size w).alloc (Nat.le_refl _) (.cells (xs.map fun x : ByteArray => Value.string x).toArray 9)
  exact (of_any g p hp xs h1 h8 w.heap.size c (by omega) _ (h.later hb) (by simp) (fun j hj => cells_str w 9 xs j hj)).mono fun e w' h => by
    obtain ⟨x, h1, h2, h3, h4⟩ := h
    exact ⟨x, h1, h2, h3, (Apt.of_below hb).trans h4⟩
theorem num_lit {lo : Nat} (g p : Nat) (hp : p < 1048576) (xs : List Int) (h1 : 1 ≤ xs.length) (h8 : xs.length ≤ 1000) (c : Nat) (w : World) (h : Rdr lo w g p) :
    Calls Tryz.prog 50 #[.pointer (some ⟨g, 0, none⟩), .slice (some ⟨w.heap.size, 0, none⟩) xs.length c] (w.alloc (.cells (xs.map fun x : Int => Value.int .i64 x).toArray 3)) fun e w' => ∃ x : Int, e = .returned (.int .i64 x) ∧ x ∈ xs ∧ Rdr lo w' g (p + 1) ∧ Apt g w w' := by
  have hgl := h.lt
  have hb := (Below.refl w.heap.size w).alloc (Nat.le_refl _) (.cells (xs.map fun x : Int => Value.int .i64 x).toArray 3)
  exact (num_any g p hp xs h1 h8 w.heap.size c (by omega) _ (h.later hb) (by simp) (fun j hj => cells_lit w 3 xs j hj)).mono fun e w' h => by
    obtain ⟨x, h1, h2, h3, h4⟩ := h
    exact ⟨x, h1, h2, h3, (Apt.of_below hb).trans h4⟩

theorem ends_pow : ∀ t : T, ends t ≤ 2 ^ Tree.bits t
  | .leaf _ => Nat.le_refl _
  | .say _ _ z o => by
    have h1 := ends_pow z
    have h2 := ends_pow o
    have h3 : 2 ^ Tree.bits z ≤ 2 ^ max (Tree.bits z) (Tree.bits o) := Nat.pow_le_pow_right (by decide) (Nat.le_max_left _ _)
    have h4 : 2 ^ Tree.bits o ≤ 2 ^ max (Tree.bits z) (Tree.bits o) := Nat.pow_le_pow_right (by decide) (Nat.le_max_right _ _)
    show ends z + ends o ≤ 2 ^ (1 + max (Tree.bits z) (Tree.bits o))
    rw [Nat.pow_add]
    omega
theorem len_pow (t : T) (d : Nat) (h : Tree.bits t ≤ d) (hd : d ≤ 6) : (text t).length ≤ 253 := by
  have h1 := text_ends t
  have h2 := ends_pow t
  have h3 : 2 ^ Tree.bits t ≤ 2 ^ 6 := Nat.pow_le_pow_right (by decide) (by omega)
  have h4 : (2 : Nat) ^ 6 = 64 := by decide
  omega

/-- how many numbers are drawn at most for a protocol of a depth -/
def cost : Nat → Nat
  | 0 => 2
  | d + 1 => 6 + 2 * cost d
theorem cost_le : ∀ d : Fin 7, cost d.1 ≤ 600 := by decide

theorem bit_in (u : ByteArray) (h : u ∈ ([⟨#[48]⟩, ⟨#[49]⟩] : List ByteArray)) : ∃ b : Bool, u = str (text (.leaf b)) := by
  simp only [List.mem_cons, List.not_mem_nil, or_false] at h
  rcases h with rfl | rfl
  · exact ⟨false, rfl⟩
  · exact ⟨true, rfl⟩
theorem who_in (u : ByteArray) (h : u ∈ ([⟨#[65]⟩, ⟨#[66]⟩] : List ByteArray)) : ∃ a : Bool, u = str [whoB a] := by
  simp only [List.mem_cons, List.not_mem_nil, or_false] at h
  rcases h with rfl | rfl
  · exact ⟨true, rfl⟩
  · exact ⟨false, rfl⟩

/-- what a drawn protocol is -/
def Drawn (lo g p d : Nat) (w : World) (e : Ending) (w' : World) : Prop := ∃ (t : T) (p' : Nat), e = .returned (.string (str (text t))) ∧ wf t ∧ Tree.bits t ≤ d ∧ Rdr lo w' g p' ∧ p' ≤ p + cost d ∧ Apt g w w'

set_option maxHeartbeats 4000000 in
set_option maxRecDepth 100000 in
theorem draw_tree {lo : Nat} : ∀ (d : Nat), d ≤ 6 → ∀ (g p : Nat) (hp : p + cost d ≤ 1040000) (w : World) (h : Rdr lo w g p),
    Calls Tryz.prog 64 #[.pointer (some ⟨g, 0, none⟩), .int .i64 (d : Int)] w (Drawn lo g p d w) := by
  intro d
  induction d with
  | zero =>
    intro _ g p hp w h
    have hp2 : p + 2 ≤ 1040000 := hp
    have HN := Lib.hid (of_lit g p (by omega) [⟨#[48]⟩, ⟨#[49]⟩] (by decide) (by decide) 2 w h)
    clear h hp
    show Calls _ _ #[_, .int .i64 0] _ _
    go_enter Tryz.func64, Tryz.ntmps64
    go_wp2_with fail
    refine HN.out.mono ?_
    rintro e w2 ⟨u, rfl, hu, hr, ha⟩
    obtain ⟨b, rfl⟩ := bit_in u hu
    have HR := Lib.hid hr
    have HA := Lib.hid ha
    clear hr ha hu HN
    generalize hq : str (text (.leaf b)) = q
    have HQ := Lib.hid hq
    clear hq
    go_wp2_with fail
    go_ret
    exact ⟨.leaf b, p + 1, by rw [HQ.out]; rfl, trivial, Nat.le_refl _, HR.out, by show p + 1 ≤ p + 2; omega, HA.out⟩
  | succ d ih =>
    intro hd g p hp w h
    have hc : cost (d + 1) = 6 + 2 * cost d := rfl
    rw [hc] at hp
    have HP := Lib.hid (pick_r g p (by omega) 5 w h)
    have IH := Lib.hid (fun q (hq : q + cost d ≤ 1040000) W hW => ih (by omega) g q hq W hW)
    have hcd : ((d + 1 : Nat) : Int) - 1 = (d : Int) := by omega
    have hd1 : (0 : Int) < ((d + 1 : Nat) : Int) := by omega
    have hdw : ((d + 1 : Nat) : Int) ≤ 6 := by omega
    obtain ⟨D, hD⟩ : ∃ D : Int, ((d + 1 : Nat) : Int) = D := ⟨_, rfl⟩
    rw [hD] at hcd hd1 hdw
    have HCD := Lib.hid hcd
    show Calls _ _ #[_, .int .i64 ((d + 1 : Nat) : Int)] _ _
    rw [hD]
    clear h ih hc hcd hD
    go_enter Tryz.func64, Tryz.ntmps64
    go_wp2_with fail
    refine HP.out.mono ?_
    rintro e w1 ⟨x, rfl, ⟨hx0, hxm⟩, hx1, hr, ha⟩
    have HA := Lib.hid ha
    clear ha HP
    by_cases hx : x = 0
    · subst hx
      have HN := Lib.hid (of_lit g (p + 1) (by omega) [⟨#[48]⟩, ⟨#[49]⟩] (by decide) (by decide) 2 w1 hr)
      clear hr hx0 hxm hx1 IH
      go_wp2_with fail
      refine HN.out.mono ?_
      rintro e w2 ⟨u, rfl, hu, hr, ha⟩
      obtain ⟨b, rfl⟩ := bit_in u hu
      have HR := Lib.hid hr
      have HA2 := Lib.hid (HA.out.trans ha)
      clear hr ha hu HN HA
      generalize hq : str (text (.leaf b)) = q
      have HQ := Lib.hid hq
      clear hq
      go_wp2_with fail
      go_ret
      exact ⟨.leaf b, p + 1 + 1, by rw [HQ.out]; rfl, trivial, Nat.zero_le _, HR.out, by show _ ≤ p + (6 + 2 * cost d); omega, HA2.out⟩
    · have hxb : (x == 0) = false := beq_false_of_ne hx
      have hdd : decide (D ≤ 0) = false := decide_eq_false (by omega)
      have HN := Lib.hid (of_lit g (p + 1) (by omega) [⟨#[65]⟩, ⟨#[66]⟩] (by decide) (by decide) 2 w1 hr)
      clear hr
      go_wp2_with fail
      refine HN.out.mono ?_
      rintro e w2 ⟨u, rfl, hu, hr, ha⟩
      obtain ⟨a, rfl⟩ := who_in u hu
      have HA2 := Lib.hid (HA.out.trans ha)
      have HP2 := Lib.hid (pick_r g (p + 1 + 1) (by omega) 32 w2 hr)
      obtain ⟨q0, hq0⟩ : ∃ q0, str [whoB a] = q0 := ⟨_, rfl⟩
      have HQ0 := Lib.hid hq0
      rw [hq0]
      clear hr ha hu HN HA hx hx0 hxm hx1 hq0 hxb hdd
      go_wp2_with fail
      refine HP2.out.mono ?_
      rintro e w3 ⟨s, rfl, ⟨hs0, hsm⟩, hs1, hr, ha⟩
      have HA3 := Lib.hid (HA2.out.trans ha)
      have HP3 := Lib.hid (pick_r g (p + 1 + 1 + 1) (by omega) 8 w3 hr)
      have hs : 0 ≤ s ∧ s < 256 := by omega
      clear hr ha HP2 HA2 hs0 hsm hs1
      go_wp2_with fail
      refine HP3.out.mono ?_
      rintro e w4 ⟨y, rfl, ⟨hy0, hym⟩, hy1, hr, ha⟩
      have HA4 := Lib.hid (HA3.out.trans ha)
      clear ha HP3 HA3
      by_cases hy : y = 0
      · subst hy
        have HP4 := Lib.hid (pick_r g (p + 1 + 1 + 1 + 1) (by omega) 256 w4 hr)
        clear hr hs hy0 hym hy1
        go_wp2_with fail
        refine HP4.out.mono ?_
        rintro e w5 ⟨x5, rfl, ⟨hx50, hx5m⟩, hx51, hr, ha⟩
        have HAs := Lib.hid (HA4.out.trans ha)
        have hs : 0 ≤ x5 ∧ x5 < 256 := by omega
        clear ha HP4 HA4 hx50 hx5m hx51
        obtain ⟨S, rfl⟩ := Int.eq_ofNat_of_zero_le hs.1
        have hS : S < 256 := by omega
        have HZ := Lib.hid (IH.out (p + 1 + 1 + 1 + 1 + 1) (by omega) w5 hr)
        have hcd := HCD.out
        clear hr hs
        go_wp2_with fail
        refine HZ.out.mono ?_
        rintro e w8 ⟨z, p8, rfl, hwz, hbz, hr, hp8, ha⟩
        have HA8 := Lib.hid (HAs.out.trans ha)
        have HO := Lib.hid (IH.out p8 (by omega) w8 hr)
        have hlz := len_pow z d hbz (by omega)
        have HWZ := Lib.hid (And.intro hwz hbz)
        clear hr ha HZ HAs hwz hbz IH
        obtain ⟨qz, hqz⟩ : ∃ q, str (text z) = q := ⟨_, rfl⟩
        rw [hqz]
        have HQZ := Lib.hid hqz
        clear hqz
        go_wp2_with fail
        refine HO.out.mono ?_
        rintro e w9 ⟨o, p9, rfl, hwo, hbo, hr, hp9, ha⟩
        have HA9 := Lib.hid (HA8.out.trans ha)
        have hlo := len_pow o d hbo (by omega)
        have HNo := Lib.hid (said_node a S hS z o (by omega) (by omega) w9)
        rw [HQ0.out, HQZ.out] at HNo
        have HR9 := Lib.hid hr
        have HWO := Lib.hid (And.intro hwo hbo)
        clear hr ha HO HA8 hwo hbo
        obtain ⟨qo, hqo⟩ : ∃ q, str (text o) = q := ⟨_, rfl⟩
        rw [hqo] at HNo ⊢
        clear hqo
        obtain ⟨qr, hqr⟩ : ∃ q, str (text (.say a S z o)) = q := ⟨_, rfl⟩
        rw [hqr] at HNo
        have HQR := Lib.hid hqr
        clear hqr
        go_wp2_with fail
        refine HNo.out.mono ?_
        rintro e w10 ⟨rfl, hb10⟩
        have HR10 := Lib.hid (HR9.out.later hb10)
        have HA10 := Lib.hid (HA9.out.trans (Apt.of_below hb10))
        clear hb10 HR9 HA9 HNo
        go_wp2_with fail
        go_ret
        refine ⟨.say a S z o, p9, by rw [HQR.out]; rfl, ⟨hS, HWZ.out.1, HWO.out.1⟩, ?_, HR10.out, ?_, HA10.out⟩
        · have b1 := HWZ.out.2
          have b2 := HWO.out.2
          show 1 + max (Tree.bits z) (Tree.bits o) ≤ d + 1
          omega
        · show p9 ≤ p + (6 + 2 * cost d)
          omega
      · have HAs := HA4
        clear HA4 hy0 hym hy1
        obtain ⟨S, rfl⟩ := Int.eq_ofNat_of_zero_le hs.1
        have hS : S < 256 := by omega
        have HZ := Lib.hid (IH.out (p + 1 + 1 + 1 + 1) (by omega) w4 hr)
        have hcd := HCD.out
        clear hr hs
        go_wp2_with fail
        refine HZ.out.mono ?_
        rintro e w8 ⟨z, p8, rfl, hwz, hbz, hr, hp8, ha⟩
        have HA8 := Lib.hid (HAs.out.trans ha)
        have HO := Lib.hid (IH.out p8 (by omega) w8 hr)
        have hlz := len_pow z d hbz (by omega)
        have HWZ := Lib.hid (And.intro hwz hbz)
        clear hr ha HZ HAs hwz hbz IH
        obtain ⟨qz, hqz⟩ : ∃ q, str (text z) = q := ⟨_, rfl⟩
        rw [hqz]
        have HQZ := Lib.hid hqz
        clear hqz
        go_wp2_with fail
        refine HO.out.mono ?_
        rintro e w9 ⟨o, p9, rfl, hwo, hbo, hr, hp9, ha⟩
        have HA9 := Lib.hid (HA8.out.trans ha)
        have hlo := len_pow o d hbo (by omega)
        have HNo := Lib.hid (said_node a S hS z o (by omega) (by omega) w9)
        rw [HQ0.out, HQZ.out] at HNo
        have HR9 := Lib.hid hr
        have HWO := Lib.hid (And.intro hwo hbo)
        clear hr ha HO HA8 hwo hbo
        obtain ⟨qo, hqo⟩ : ∃ q, str (text o) = q := ⟨_, rfl⟩
        rw [hqo] at HNo ⊢
        clear hqo
        obtain ⟨qr, hqr⟩ : ∃ q, str (text (.say a S z o)) = q := ⟨_, rfl⟩
        rw [hqr] at HNo
        have HQR := Lib.hid hqr
        clear hqr
        go_wp2_with fail
        refine HNo.out.mono ?_
        rintro e w10 ⟨rfl, hb10⟩
        have HR10 := Lib.hid (HR9.out.later hb10)
        have HA10 := Lib.hid (HA9.out.trans (Apt.of_below hb10))
        clear hb10 HR9 HA9 HNo
        go_wp2_with fail
        go_ret
        refine ⟨.say a S z o, p9, by rw [HQR.out]; rfl, ⟨hS, HWZ.out.1, HWO.out.1⟩, ?_, HR10.out, ?_, HA10.out⟩
        · have b1 := HWZ.out.2
          have b2 := HWO.out.2
          show 1 + max (Tree.bits z) (Tree.bits o) ≤ d + 1
          omega
        · show p9 ≤ p + (6 + 2 * cost d)
          omega

set_option maxHeartbeats 1000000 in
theorem l5some_any {lo : Nat} (g p : Nat) (hp : p ≤ 1000000) (w : World) (h : Rdr lo w g p) :
    Calls Tryz.prog 49 #[.pointer (some ⟨g, 0, none⟩)] w fun e w' => ∃ (t : T) (p' : Nat), e = .returned (.string (str (text t))) ∧ wf t ∧ Tree.bits t ≤ 4 ∧ Rdr lo w' g p' ∧ p' ≤ p + 1000 ∧ Apt g w w' := by
  have HP := Lib.hid (pick_r g p (by omega) 4 w h)
  clear h
  go_enter Tryz.func49, Tryz.ntmps49
  go_wp2_with fail
  refine HP.out.mono ?_
  rintro e w1 ⟨x, rfl, ⟨hx0, hxm⟩, hx1, hr, ha⟩
  have HA := Lib.hid ha
  obtain ⟨k, rfl⟩ := Int.eq_ofNat_of_zero_le hx0
  have hk : k < 4 := by omega
  have e1 : (1 : Int) + (k : Int) = ((k + 1 : Nat) : Int) := by omega
  have hc : cost (k + 1) ≤ 600 := cost_le ⟨k + 1, by omega⟩
  have HT := Lib.hid (draw_tree (k + 1) (by omega) g (p + 1) (by omega) w1 hr)
  obtain ⟨D, hD⟩ : ∃ D : Int, ((k + 1 : Nat) : Int) = D := ⟨_, rfl⟩
  rw [hD] at e1 HT
  clear hr ha HP hx0 hxm hx1 hD
  go_wp2_with fail
  refine HT.out.mono ?_
  rintro e w2 ⟨t, p2, rfl, hw, hb, hr, hp2, ha⟩
  have HA2 := Lib.hid (HA.out.trans ha)
  have HR := Lib.hid hr
  have HW := Lib.hid (And.intro hw hb)
  clear hr ha HA HT hw hb
  obtain ⟨q, hq⟩ : ∃ q, str (text t) = q := ⟨_, rfl⟩
  rw [hq]
  have HQ := Lib.hid hq
  clear hq
  go_wp2_with fail
  go_ret
  exact ⟨t, p2, by rw [HQ.out]; rfl, HW.out.1, by have := HW.out.2; omega, HR.out, by omega, HA2.out⟩

set_option maxHeartbeats 1000000 in
theorem side5_any {lo : Nat} (g p : Nat) (hp : p < 1040000) (w : World) (h : Rdr lo w g p) :
    Calls Tryz.prog 35 #[.pointer (some ⟨g, 0, none⟩)] w fun e w' => ∃ y : Int, e = .returned (.int .i64 y) ∧ -1 ≤ y ∧ y ≤ 9223372036854775807 ∧ Rdr lo w' g (p + 2) ∧ Apt g w w' := by
  have HP := Lib.hid (pick_r g p (by omega) 16 w h)
  clear h
  go_enter Tryz.func35, Tryz.ntmps35
  go_wp2_with fail
  refine HP.out.mono ?_
  rintro e w1 ⟨x, rfl, ⟨hx0, hxm⟩, hx1, hr, ha⟩
  have HA := Lib.hid ha
  by_cases hx : x = 0
  · subst hx
    have HN := Lib.hid (num_lit g (p + 1) (by omega) [0, -1, 9, 8, 9223372036854775807] (by decide) (by decide) 5 w1 hr)
    clear hr ha hx0 hx1 HP hxm
    go_wp2_with fail
    refine HN.out.mono ?_
    rintro e w2 ⟨y, rfl, hy, hr3, ha3⟩
    have HR3 := Lib.hid hr3
    have HA3 := Lib.hid (HA.out.trans ha3)
    clear hr3 ha3 HN
    go_wp2_with fail
    go_ret
    refine ⟨y, rfl, ?_, ?_, HR3.out, HA3.out⟩
    all_goals simp at hy; omega
  · have HQ := Lib.hid (pick_r g (p + 1) (by omega) 5 w1 hr)
    clear hr ha HP
    go_wp2_with fail
    refine HQ.out.mono ?_
    rintro e w2 ⟨y, rfl, ⟨hy0, hym⟩, hy1, hr3, ha3⟩
    have HR3 := Lib.hid hr3
    have HA3 := Lib.hid (HA.out.trans ha3)
    clear hr3 ha3 HQ
    go_wp2_with fail
    go_ret
    exact ⟨1 + y, rfl, by omega, by omega, HR3.out, HA3.out⟩
end Go.Proofs.YtbbgibbpeibhiaaGreatDoor.DrawP5

