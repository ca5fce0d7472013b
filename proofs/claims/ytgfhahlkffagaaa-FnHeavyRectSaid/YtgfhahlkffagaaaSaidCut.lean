/-
  Where the reference cuts a protocol.
-/
import Derived.Test.YtgfhahlkffagaaaSplit
import Derived.Test.YtgfhahlkffagaaaCutT
namespace Go.Proofs.Ytgfhahlkffagaaa.SaidCut
open Go.RowKit Go.Shelf Go.Proofs.Ytgfhahlkffagaaa.Plain Go.Proofs.Ytgfhahlkffagaaa.Tree Go.Proofs.Ytgfhahlkffagaaa.Read Go.Proofs.Ytgfhahlkffagaaa.Parts Go.Proofs.Ytgfhahlkffagaaa.TrimT Go.Proofs.Ytgfhahlkffagaaa.Rect Go.Proofs.Ytgfhahlkffagaaa.Split Go.Proofs.Ytgfhahlkffagaaa.CutT
set_option linter.unusedVariables false
set_option linter.unusedSimpArgs false

theorem text_say_le (a : Bool) (s : Nat) (z o : T) : (text (.say a s z o)).length = (text z).length + (text o).length + 3 := by simp [text]
theorem cut_len (n : Nat) (t : T) (R C : Nat) (h : (text t).length ≤ 2000) : (text (cutT n t R C).part).length ≤ 2010 ∧ (text (cutT n t R C).rest).length ≤ 2010 := by
  have h1 := cut_ends n t R C
  have h2 := text_ends t
  have h3 := text_ends (cutT n t R C).part
  have h4 := text_ends (cutT n t R C).rest
  have h5 := ends_pos (cutT n t R C).part
  have h6 := ends_pos (cutT n t R C).rest
  omega
theorem head3 (a : Bool) (s : Nat) (z o : T) : (str (text (.say a s z o))).extract 0 3 = str [whoB a, hexD (s / 16), hexD (s % 16)] := by
  refine eq_str ?_
  rw [data_extract, str_data]
  rfl

/-- the blocks of a call: the rectangle, the result -/
structure Bc (w wr : World) (B R C : Nat) : Prop where
  arg : wr.heap[B]? = some (.cells #[.int .i64 (R : Int), .int .i64 (C : Int)] 23 (0, 0))
  res : wr.heap[B + 1]? = some (.cells #[.int .i64 0, .int .i64 0] 23 (0, 0))
  below : Below w.heap.size w wr
  size : w.heap.size = B
theorem Bc.later {w wr w2 : World} {B R C : Nat} (h : Bc w wr B R C) (hb : Below wr.heap.size wr w2) : Bc w w2 B R C :=
  have k : ∀ {g : Nat} {o : Obj}, wr.heap[g]? = some o → w2.heap[g]? = some o := fun e => (hb.block _ (Array.getElem?_eq_some_iff.1 e).1).trans e
  ⟨k h.arg, k h.res, h.below.trans (hb.mono h.below.size), h.size⟩
theorem Bc.start (w : World) (B R C : Nat) (hB : w.heap.size = B) : Bc w ((w.alloc (.cells #[.int .i64 (R : Int), .int .i64 (C : Int)] 23)).alloc (.cells #[.int .i64 0, .int .i64 0] 23)) B R C := by
  subst hB
  have n0 := heap_alloc_new w (.cells #[.int .i64 (R : Int), .int .i64 (C : Int)] 23)
  have b0 := (Below.refl w.heap.size w).alloc (Nat.le_refl _) (.cells #[.int .i64 (R : Int), .int .i64 (C : Int)] 23)
  have s1 : (w.alloc (.cells #[.int .i64 (R : Int), .int .i64 (C : Int)] 23)).heap.size = w.heap.size + 1 := by simp
  generalize w.alloc (.cells #[.int .i64 (R : Int), .int .i64 (C : Int)] 23) = wa at *
  have n1 := heap_alloc_new wa (.cells #[.int .i64 0, .int .i64 0] 23)
  rw [s1] at n1
  exact ⟨(heap_alloc_old wa _ (Array.getElem?_eq_some_iff.1 n0).1).trans n0, n1, b0.alloc b0.size _, rfl⟩
theorem Bc.done {w w1 : World} {B R C : Nat} (h : Bc w w1 B R C) (x y : Nat) : Below w.heap.size w (((w1.setCell ⟨B + 1, 0, none⟩ (.int .i64 (x : Int))).setCell ⟨B + 1, 1, none⟩ (.int .i64 (y : Int))).drew) ∧
    (((w1.setCell ⟨B + 1, 0, none⟩ (.int .i64 (x : Int))).setCell ⟨B + 1, 1, none⟩ (.int .i64 (y : Int))).drew).heap[B + 1]? = some (.cells #[.int .i64 (x : Int), .int .i64 (y : Int)] 23 (0, 0)) := by
  have hs := h.size
  exact ⟨Below.drew (set_below (set_below h.below (by omega)) (by omega)), set_row 1 (set_row 0 h.res)⟩

/-- two rectangles side by side -/
structure Rc (w wr : World) (D x1 x2 y1 y2 : Nat) : Prop where
  one : wr.heap[D]? = some (.cells #[.int .i64 (x1 : Int), .int .i64 (x2 : Int)] 23 (0, 0))
  two : wr.heap[D + 1]? = some (.cells #[.int .i64 (y1 : Int), .int .i64 (y2 : Int)] 23 (0, 0))
  below : Below w.heap.size w wr
theorem Rc.later {w wr w2 : World} {D x1 x2 y1 y2 : Nat} (h : Rc w wr D x1 x2 y1 y2) (hb : Below wr.heap.size wr w2) : Rc w w2 D x1 x2 y1 y2 :=
  have k : ∀ {g : Nat} {o : Obj}, wr.heap[g]? = some o → w2.heap[g]? = some o := fun e => (hb.block _ (Array.getElem?_eq_some_iff.1 e).1).trans e
  ⟨k h.one, k h.two, h.below.trans (hb.mono h.below.size)⟩
theorem Rc.start (w : World) (D x1 x2 y1 y2 : Nat) (hB : w.heap.size = D) : Rc w ((w.alloc (.cells #[.int .i64 (x1 : Int), .int .i64 (x2 : Int)] 23)).alloc (.cells #[.int .i64 (y1 : Int), .int .i64 (y2 : Int)] 23)) D x1 x2 y1 y2 := by
  subst hB
  have n0 := heap_alloc_new w (.cells #[.int .i64 (x1 : Int), .int .i64 (x2 : Int)] 23)
  have b0 := (Below.refl w.heap.size w).alloc (Nat.le_refl _) (.cells #[.int .i64 (x1 : Int), .int .i64 (x2 : Int)] 23)
  have s1 : (w.alloc (.cells #[.int .i64 (x1 : Int), .int .i64 (x2 : Int)] 23)).heap.size = w.heap.size + 1 := by simp
  generalize w.alloc (.cells #[.int .i64 (x1 : Int), .int .i64 (x2 : Int)] 23) = wa at *
  have n1 := heap_alloc_new wa (.cells #[.int .i64 (y1 : Int), .int .i64 (y2 : Int)] 23)
  rw [s1] at n1
  exact ⟨(heap_alloc_old wa _ (Array.getElem?_eq_some_iff.1 n0).1).trans n0, n1, b0.alloc b0.size _⟩

set_option maxHeartbeats 8000000 in
set_option maxRecDepth 100000 in
theorem said_cut (n : Nat) (hn : 2 ≤ n) (hn2 : n ≤ 8000000) (t : T) : wf t → (text t).length ≤ 2000 → ∀ (R C : Nat) (w : World), R < 256 → C < 256 →
    Calls Try.prog 24 #[.string (str (text t)), rect R C, .int .i64 (n : Int), .string (str (text (.leaf false)))] w fun e w' => e = .returned (.tuple #[.string (str (text (cutT n t R C).part)), rect (cutT n t R C).rows (cutT n t R C).cols, .string (str (text (cutT n t R C).rest))]) ∧ Below w.heap.size w w' := by
  have m2 : IntKind.i64.wrap (2 * (n : Int)) = 2 * (n : Int) := by simp only [IntKind.wrap_i64]; omega
  induction t with
  | leaf b =>
    intro hw hl R C w hR hC
    have HL := Lib.hid (said_ends (.leaf b) hw hl)
    have hnb : (3 : Int) ≤ 2 * (n : Int) := by omega
    have HP := Lib.hid (rfl : str (text (.leaf b)) = str (text (.leaf b)))
    show Calls _ _ _ _ fun e w' => e = .returned (.tuple #[.string (str (text (.leaf b))), rect R C, .string (str (text (.leaf false)))]) ∧ _
    replace HL : Hid (∀ w : World, Calls Try.prog 23 #[.string (str (text (.leaf b)))] w fun e w' => e = .returned (.int .i64 1) ∧ Below w.heap.size w w') := HL
    generalize str (text (.leaf b)) = q at *
    generalize str (text (.leaf false)) = p0 at *
    obtain ⟨B, hB⟩ : ∃ B, w.heap.size = B := ⟨_, rfl⟩
    have H0 := Lib.hid (Bc.start w B R C hB)
    clear HP hw hl
    go_enter Try.func24, Try.ntmps24
    go_wp2_with fail
    refine (HL.out _).mono ?_
    rintro e w1 ⟨rfl, hb1⟩
    have HBC := Lib.hid (H0.out.later hb1)
    clear hb1 hB H0 HL
    obtain ⟨r0, r1, r2, r3⟩ := cells2 HBC.out.arg
    obtain ⟨q0, q1, q2, q3⟩ := cells2 HBC.out.res
    go_wp2_with fail
    go_region
    obtain ⟨hb9, hc9⟩ := HBC.out.done R C
    generalize (((w1.setCell ⟨B + 1, 0, none⟩ (.int .i64 (R : Int))).setCell ⟨B + 1, 1, none⟩ (.int .i64 (C : Int))).drew) = w9 at *
    obtain ⟨k0, k1, k2, k3⟩ := cells2 hc9
    have HB9 := Lib.hid hb9
    clear hb9 hc9 r0 r1 r2 r3 q0 q1 q2 q3
    go_wp2_with fail
    refine bodyPost_ret (v := .tuple #[.string q, rect R C, .string p0]) (by simp [results, Try.results24, go_sem, k0, k1]) rfl ⟨?_, HB9.out⟩
    rfl
  | say a s z o ihz iho =>
    intro hw hl R C w hR hC
    have hlz := text_say_le a s z o
    obtain ⟨p1, p2, p3, p4⟩ := parts_lt a s hR hC
    have HL := Lib.hid (said_ends (.say a s z o) hw hl)
    have HLZ := Lib.hid (said_ends z hw.2.1 (by omega))
    have HLO := Lib.hid (said_ends o hw.2.2 (by omega))
    have HP := Lib.hid (parts_w a s z o hw.2.1 (str (text (.say a s z o))) (str_data _) (by rw [str_size]; omega))
    have HSp := Lib.hid fun W => split_said a s z o hw.1 (str (text (.say a s z o))) (str_data _) (by rw [str_size]; omega) R C hR hC W
    have HZ := Lib.hid fun W => ihz hw.2.1 (by omega) (outR a s R) (outC a s C) W p1 p2
    have HO := Lib.hid fun W => iho hw.2.2 (by omega) (inR a s R) (inC a s C) W p3 p4
    have lz := cut_len n z (outR a s R) (outC a s C) (by omega)
    have lo := cut_len n o (inR a s R) (inC a s C) (by omega)
    have h3 := head3 a s z o
    have h3i : (3 : Int) ≤ ((str (text (.say a s z o))).size : Int) := by rw [str_size]; omega
    have HT : cutT n (.say a s z o) R C = if 3 * (ends z + ends o) ≤ 2 * n then ⟨.say a s z o, R, C, .leaf false⟩
      else if ends z < ends o then
        ⟨(cutT n o (inR a s R) (inC a s C)).part, (cutT n o (inR a s R) (inC a s C)).rows, (cutT n o (inR a s R) (inC a s C)).cols, .say a s z (cutT n o (inR a s R) (inC a s C)).rest⟩
      else ⟨(cutT n z (outR a s R) (outC a s C)).part, (cutT n z (outR a s R) (outC a s C)).rows, (cutT n z (outR a s R) (outC a s C)).cols, .say a s (cutT n z (outR a s R) (outC a s C)).rest o⟩ := rfl
    rw [HT]
    generalize cutT n o (inR a s R) (inC a s C) = cO at *
    generalize cutT n z (outR a s R) (outC a s C) = cZ at *
    obtain ⟨po, ro, co, xo⟩ := cO
    obtain ⟨pz, rz, cz, xz⟩ := cZ
    simp only at HZ HO lz lo
    have hez := ends_le z
    have heo := ends_le o
    replace HL : Hid (∀ w : World, Calls Try.prog 23 #[.string (str (text (.say a s z o)))] w fun e w' => e = .returned (.int .i64 ((ends z + ends o : Nat) : Int)) ∧ Below w.heap.size w w') := HL
    have tz : str (text (.say a s xz o)) = str [whoB a, hexD (s / 16), hexD (s % 16)] ++ str (text xz) ++ str (text o) := by rw [str_append, str_append]; rfl
    have to : str (text (.say a s z xo)) = str [whoB a, hexD (s / 16), hexD (s % 16)] ++ str (text z) ++ str (text xo) := by rw [str_append, str_append]; rfl
    have HTZ := Lib.hid tz
    have HTO := Lib.hid to
    have hx3 : (str [whoB a, hexD (s / 16), hexD (s % 16)]).size = 3 := by rw [str_size]; rfl
    have l1 : (str (text z)).size ≤ 2010 := by rw [str_size]; omega
    have l2 : (str (text o)).size ≤ 2010 := by rw [str_size]; omega
    have l3 : (str (text xz)).size ≤ 2010 := by rw [str_size]; omega
    have l4 : (str (text xo)).size ≤ 2010 := by rw [str_size]; omega
    generalize str [whoB a, hexD (s / 16), hexD (s % 16)] = hx at *
    obtain ⟨E1, hE1⟩ : ∃ x, ends z = x := ⟨_, rfl⟩
    obtain ⟨E2, hE2⟩ : ∃ x, ends o = x := ⟨_, rfl⟩
    rw [hE1] at HL HLZ hez ⊢
    rw [hE2] at HL HLO heo ⊢
    obtain ⟨E, hE⟩ : ∃ E : Nat, E1 + E2 = E := ⟨_, rfl⟩
    rw [hE] at HL ⊢
    have bE : E ≤ 16000000 := by omega
    have m1 : IntKind.i64.wrap (3 * (E : Int)) = 3 * (E : Int) := by simp only [IntKind.wrap_i64]; omega
    obtain ⟨B, hB⟩ : ∃ B, w.heap.size = B := ⟨_, rfl⟩
    have H0 := Lib.hid (Bc.start w B R C hB)
    have HSS := Lib.hid (rfl : str (text (.say a s z o)) = str (text (.say a s z o)))
    clear hw hl hlz p1 p2 p3 p4 ihz iho lz lo tz to HT
    by_cases hb : 3 * E ≤ 2 * n
    · rw [if_pos hb]
      have hbi : 3 * (E : Int) ≤ 2 * (n : Int) := by omega
      show Calls _ _ _ _ fun e w' => e = .returned (.tuple #[.string (str (text (.say a s z o))), rect R C, .string (str (text (.leaf false)))]) ∧ _
      generalize str (text (.say a s z o)) = q at *
      generalize str (text (.leaf false)) = p0 at *
      clear HP HSp HZ HO HLZ HLO HTZ HTO hx3 l1 l2 l3 l4 h3 h3i HSS
      go_enter Try.func24, Try.ntmps24
      go_wp2_with fail
      refine (HL.out _).mono ?_
      rintro e w1 ⟨rfl, hb1⟩
      have HBC := Lib.hid (H0.out.later hb1)
      clear hb1 hB H0 HL
      obtain ⟨r0, r1, r2, r3⟩ := cells2 HBC.out.arg
      obtain ⟨q0, q1, q2, q3⟩ := cells2 HBC.out.res
      go_wp2_with fail
      go_region
      obtain ⟨hb9, hc9⟩ := HBC.out.done R C
      generalize (((w1.setCell ⟨B + 1, 0, none⟩ (.int .i64 (R : Int))).setCell ⟨B + 1, 1, none⟩ (.int .i64 (C : Int))).drew) = w9 at *
      obtain ⟨k0, k1, k2, k3⟩ := cells2 hc9
      have HB9 := Lib.hid hb9
      clear hb9 hc9 r0 r1 r2 r3 q0 q1 q2 q3
      go_wp2_with fail
      refine bodyPost_ret (v := .tuple #[.string q, rect R C, .string p0]) (by simp [results, Try.results24, go_sem, k0, k1]) rfl ⟨?_, HB9.out⟩
      rfl
    rw [if_neg hb]
    have hbi : ¬ 3 * (E : Int) ≤ 2 * (n : Int) := by omega
    obtain ⟨oR, hoR⟩ : ∃ x, outR a s R = x := ⟨_, rfl⟩
    obtain ⟨oC, hoC⟩ : ∃ x, outC a s C = x := ⟨_, rfl⟩
    obtain ⟨iR, hiR⟩ : ∃ x, inR a s R = x := ⟨_, rfl⟩
    obtain ⟨iC, hiC⟩ : ∃ x, inC a s C = x := ⟨_, rfl⟩
    rw [hoR, hoC] at HZ HSp
    rw [hiR, hiC] at HO HSp
    clear hoR hoC hiR hiC
    by_cases hm : E1 < E2
    · rw [if_pos hm]
      have hmi : ¬ (E2 : Int) ≤ (E1 : Int) := by omega
      show Calls _ _ _ _ fun e w' => e = .returned (.tuple #[.string (str (text po)), rect ro co, .string (str (text (.say a s z xo)))]) ∧ _
      rw [HTO.out]
      generalize str (text (.say a s z o)) = q at *
      generalize str (text (.leaf false)) = p0 at *
      generalize str (text z) = sz at *
      generalize str (text o) = so at *
      generalize str (text xz) = sxz at *
      generalize str (text xo) = sxo at *
      generalize str (text po) = sp at *
      have u1 := fun W => run_string_add_sum (P := Try.prog) (w := W) hx sz (by omega)
      have u2 := fun W => run_string_add_sum (P := Try.prog) (w := W) (hx ++ sz) sxo (by rw [ByteArray.size_append]; omega)
      clear HTZ HTO hx3 l1 l2 l3 l4 HSS hm hE
      go_enter Try.func24, Try.ntmps24
      go_wp2_with fail
      refine (HL.out _).mono ?_
      rintro e w1 ⟨rfl, hb1⟩
      have HB1 := Lib.hid (H0.out.later hb1)
      clear hb1 hB H0 HL
      go_wp2_with fail
      refine (HP.out _).mono ?_
      rintro e w2 ⟨rfl, hb2⟩
      have HB2 := Lib.hid (HB1.out.later hb2)
      clear hb2 HB1 HP
      obtain ⟨r0, r1, r2, r3⟩ := cells2 HB2.out.arg
      go_wp2_with fail
      refine (HSp.out _).mono ?_
      rintro e w3 ⟨rfl, hb3⟩
      have HB3 := Lib.hid (HB2.out.later hb3)
      obtain ⟨D, hD⟩ : ∃ D, w3.heap.size = D := ⟨_, rfl⟩
      have H3 := Lib.hid (Rc.start w3 D oR oC iR iC hD)
      have HB4 := Lib.hid (HB3.out.later H3.out.below)
      clear hb3 HB2 HSp r0 r1 r2 r3 HB3
      go_wp2_with fail
      refine (HLZ.out _).mono ?_
      rintro e w4 ⟨rfl, hb4⟩
      have H4 := Lib.hid (H3.out.later hb4)
      have HB5 := Lib.hid (HB4.out.later hb4)
      clear hb4 H3 HB4 HLZ
      go_wp2_with fail
      refine (HLO.out _).mono ?_
      rintro e w5 ⟨rfl, hb5⟩
      have H5 := Lib.hid (H4.out.later hb5)
      have HB6 := Lib.hid (HB5.out.later hb5)
      clear hb5 H4 HB5 HLO
      obtain ⟨r0, r1, r2, r3⟩ := cells2 H5.out.two
      go_wp2_with fail
      refine (HO.out _).mono ?_
      rintro e w6 ⟨rfl, hb6⟩
      have HB7 := Lib.hid (HB6.out.later hb6)
      clear hb6 HB6 r0 r1 r2 r3 H5
      obtain ⟨F, hF⟩ : ∃ F, w6.heap.size = F := ⟨_, rfl⟩
      have n0 := heap_alloc_new w6 (.cells #[.int .i64 (ro : Int), .int .i64 (co : Int)] 23)
      have HBC : Hid (Bc w (w6.alloc (.cells #[.int .i64 (ro : Int), .int .i64 (co : Int)] 23)) B R C) := HB7.out.later ((Below.refl _ _).alloc (Nat.le_refl _) _)
      have hlt : B + 1 < w6.heap.size := (Array.getElem?_eq_some_iff.1 HB7.out.res).1
      rw [hF] at n0 hlt
      have n2 : B + 1 ≠ F := by omega
      have n3 : F ≠ B + 1 := by omega
      have HN0 := Lib.hid n0
      clear HB7 HZ HO hlt n0
      go_wp2_with fail
      generalize w6.alloc (.cells #[.int .i64 (ro : Int), .int .i64 (co : Int)] 23) = w7 at *
      obtain ⟨r0, r1, r2, r3⟩ := cells2 HN0.out
      obtain ⟨q0, q1, q2, q3⟩ := cells2 HBC.out.res
      clear hF
      go_region
      obtain ⟨hb9, hc9⟩ := HBC.out.done ro co
      generalize (((w7.setCell ⟨B + 1, 0, none⟩ (.int .i64 (ro : Int))).setCell ⟨B + 1, 1, none⟩ (.int .i64 (co : Int))).drew) = w9 at *
      obtain ⟨k0, k1, k2, k3⟩ := cells2 hc9
      have HB9 := Lib.hid hb9
      clear hb9 hc9 r0 r1 r2 r3 q0 q1 q2 q3
      go_wp2_with fail
      refine bodyPost_ret (v := .tuple #[.string sp, rect ro co, .string (hx ++ sz ++ sxo)]) (by simp [results, Try.results24, go_sem, k0, k1]) rfl ⟨?_, HB9.out⟩
      rfl
    · rw [if_neg hm]
      have hmi : (E2 : Int) ≤ (E1 : Int) := by omega
      show Calls _ _ _ _ fun e w' => e = .returned (.tuple #[.string (str (text pz)), rect rz cz, .string (str (text (.say a s xz o)))]) ∧ _
      rw [HTZ.out]
      generalize str (text (.say a s z o)) = q at *
      generalize str (text (.leaf false)) = p0 at *
      generalize str (text z) = sz at *
      generalize str (text o) = so at *
      generalize str (text xz) = sxz at *
      generalize str (text xo) = sxo at *
      generalize str (text pz) = sp at *
      have u1 := fun W => run_string_add_sum (P := Try.prog) (w := W) hx sxz (by omega)
      have u2 := fun W => run_string_add_sum (P := Try.prog) (w := W) (hx ++ sxz) so (by rw [ByteArray.size_append]; omega)
      clear HTZ HTO hx3 l1 l2 l3 l4 HSS hm hE
      go_enter Try.func24, Try.ntmps24
      go_wp2_with fail
      refine (HL.out _).mono ?_
      rintro e w1 ⟨rfl, hb1⟩
      have HB1 := Lib.hid (H0.out.later hb1)
      clear hb1 hB H0 HL
      go_wp2_with fail
      refine (HP.out _).mono ?_
      rintro e w2 ⟨rfl, hb2⟩
      have HB2 := Lib.hid (HB1.out.later hb2)
      clear hb2 HB1 HP
      obtain ⟨r0, r1, r2, r3⟩ := cells2 HB2.out.arg
      go_wp2_with fail
      refine (HSp.out _).mono ?_
      rintro e w3 ⟨rfl, hb3⟩
      have HB3 := Lib.hid (HB2.out.later hb3)
      obtain ⟨D, hD⟩ : ∃ D, w3.heap.size = D := ⟨_, rfl⟩
      have H3 := Lib.hid (Rc.start w3 D oR oC iR iC hD)
      have HB4 := Lib.hid (HB3.out.later H3.out.below)
      clear hb3 HB2 HSp r0 r1 r2 r3 HB3
      go_wp2_with fail
      refine (HLZ.out _).mono ?_
      rintro e w4 ⟨rfl, hb4⟩
      have H4 := Lib.hid (H3.out.later hb4)
      have HB5 := Lib.hid (HB4.out.later hb4)
      clear hb4 H3 HB4 HLZ
      go_wp2_with fail
      refine (HLO.out _).mono ?_
      rintro e w5 ⟨rfl, hb5⟩
      have H5 := Lib.hid (H4.out.later hb5)
      have HB6 := Lib.hid (HB5.out.later hb5)
      clear hb5 H4 HB5 HLO
      obtain ⟨r0, r1, r2, r3⟩ := cells2 H5.out.one
      go_wp2_with fail
      refine (HZ.out _).mono ?_
      rintro e w6 ⟨rfl, hb6⟩
      have HB7 := Lib.hid (HB6.out.later hb6)
      clear hb6 HB6 r0 r1 r2 r3 H5
      obtain ⟨F, hF⟩ : ∃ F, w6.heap.size = F := ⟨_, rfl⟩
      have n0 := heap_alloc_new w6 (.cells #[.int .i64 (rz : Int), .int .i64 (cz : Int)] 23)
      have HBC : Hid (Bc w (w6.alloc (.cells #[.int .i64 (rz : Int), .int .i64 (cz : Int)] 23)) B R C) := HB7.out.later ((Below.refl _ _).alloc (Nat.le_refl _) _)
      have hlt : B + 1 < w6.heap.size := (Array.getElem?_eq_some_iff.1 HB7.out.res).1
      rw [hF] at n0 hlt
      have n2 : B + 1 ≠ F := by omega
      have n3 : F ≠ B + 1 := by omega
      have HN0 := Lib.hid n0
      clear HB7 HZ HO hlt n0
      go_wp2_with fail
      generalize w6.alloc (.cells #[.int .i64 (rz : Int), .int .i64 (cz : Int)] 23) = w7 at *
      obtain ⟨r0, r1, r2, r3⟩ := cells2 HN0.out
      obtain ⟨q0, q1, q2, q3⟩ := cells2 HBC.out.res
      clear hF
      go_region
      obtain ⟨hb9, hc9⟩ := HBC.out.done rz cz
      generalize (((w7.setCell ⟨B + 1, 0, none⟩ (.int .i64 (rz : Int))).setCell ⟨B + 1, 1, none⟩ (.int .i64 (cz : Int))).drew) = w9 at *
      obtain ⟨k0, k1, k2, k3⟩ := cells2 hc9
      have HB9 := Lib.hid hb9
      clear hb9 hc9 r0 r1 r2 r3 q0 q1 q2 q3
      go_wp2_with fail
      refine bodyPost_ret (v := .tuple #[.string sp, rect rz cz, .string (hx ++ sxz ++ so)]) (by simp [results, Try.results24, go_sem, k0, k1]) rfl ⟨?_, HB9.out⟩
      rfl
end Go.Proofs.Ytgfhahlkffagaaa.SaidCut
