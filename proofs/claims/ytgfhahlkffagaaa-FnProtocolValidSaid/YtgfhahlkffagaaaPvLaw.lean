/-
  The walk of the drawn law on ProtocolValid.
-/
import Derived.Test.YtgfhahlkffagaaaDrawB5
import Derived.Test.YtgfhahlkffagaaaBitsOfWalk
import Derived.Test.YtgfhahlkffagaaaLeavesOfWalk
import Derived.Test.YtgfhahlkffagaaaCount
namespace Go.Proofs.Ytgfhahlkffagaaa.fnProtocolValid
open Go.RowKit Go.Shelf Go.Proofs.Ytgfhahlkffagaaa.Plain Go.Proofs.Ytgfhahlkffagaaa.Tree Go.Proofs.Ytgfhahlkffagaaa.Read Go.Proofs.Ytgfhahlkffagaaa.Parts Go.Proofs.Ytgfhahlkffagaaa.TreeOf Go.Proofs.Ytgfhahlkffagaaa.Rd Go.Proofs.Ytgfhahlkffagaaa.Rd2 Go.Proofs.Ytgfhahlkffagaaa.Rd3 Go.Proofs.Ytgfhahlkffagaaa.DrawT Go.Proofs.Ytgfhahlkffagaaa.CutT Go.Proofs.Ytgfhahlkffagaaa.DrawP5 Go.Proofs.Ytgfhahlkffagaaa.DrawB5
set_option linter.unusedVariables false
set_option linter.unusedSimpArgs false

theorem bits_ends : ∀ t : T, Tree.bits t + 1 ≤ ends t
  | .leaf _ => Nat.le_refl _
  | .say _ _ z o => by
    have h1 := bits_ends z
    have h2 := bits_ends o
    show 1 + max (Tree.bits z) (Tree.bits o) + 1 ≤ ends z + ends o
    have h3 := ends_pos z
    have h4 := ends_pos o
    omega
/-- no protocol goes on -/
theorem not_more (s : ByteArray) (t : T) (hw : wf t) (h : s.data.toList = text t) (q : ByteArray) (hq : q.size = 1) : ¬ Ok (s ++ q) := by
  rintro ⟨_, u, hu, e⟩
  have e2 : text t ++ q.data.toList = text u ++ [] := by
    rw [List.append_nil, ← e, ← h]
    simp
  have h1 := (text_inj t u _ _ hw hu e2).2
  have h2 : q.data.toList.length = 0 := by rw [h1]; rfl
  have h3 : q.data.toList.length = q.size := by simp
  omega
/-- no protocol is cut short -/
theorem not_less (s : ByteArray) (t : T) (hw : wf t) (h : s.data.toList = text t) (n : Nat) (hn : n + 1 = s.size) : ¬ Ok (s.extract 0 n) := by
  rintro ⟨_, u, hu, e⟩
  have hl : s.data.toList.length = n + 1 := by simp; omega
  have e1 : (s.extract 0 n).data.toList = s.data.toList.take n := by
    rw [data_extract]
    simp
  have e2 : text t ++ [] = text u ++ s.data.toList.drop n := by
    rw [List.append_nil, ← e, e1, List.take_append_drop, h]
  have := (text_inj t u _ _ hw hu e2).2
  have h2 := congrArg List.length this
  simp only [List.length_nil, List.length_drop] at h2
  omega
def sizeV : Value → Nat
  | .string s => s.size
  | _ => 0

set_option maxHeartbeats 4000000 in
set_option maxRecDepth 100000 in
theorem draw_pv (v : Value) (n : Nat) (w : World) (h : ByteArg w v n) :
    Calls Try.prog 12 #[v] w fun e w' => ∃ (s : ByteArray), e = .returned (.string s) ∧ s.size ≤ 3000 ∧ Below w.heap.size w w' := by
  have HO := Lib.hid (open_any v n w h)
  clear h
  go_enter Try.func12, Try.ntmps12
  go_wp2_with fail
  refine HO.out.mono ?_
  rintro e w1 ⟨g, rfl, hr, hb, hg⟩
  have HB := Lib.hid hb
  have HG := Lib.hid hg
  have HP := Lib.hid (pick_r g 0 (by omega) 30 w1 hr)
  clear hr hb hg HO
  go_wp2_with fail
  refine HP.out.mono ?_
  rintro e w2 ⟨q, rfl, ⟨hq0, -⟩, hq1, hr, ha⟩
  have HB2 : Hid (Below w.heap.size w w2) := ha.below HB.out HG.out
  by_cases h0 : q = 0
  · subst h0
    have HR2 := Lib.hid hr
    clear hr ha HP HB hq0 hq1
    go_wp2_with fail
    go_loopw [4] (fun x wr => ∃ (k : Nat) (s : ByteArray), x = .string s ∧ s.size = 4 * k + 1 ∧ k ≤ 500 ∧ Hid (Rdr w.heap.size wr g (0 + 1 + k)) ∧ Hid (Below w.heap.size w wr)) (fun x _ => 3000 - sizeV x)
    case atStart => exact ⟨0, ⟨#[48]⟩, rfl, rfl, by omega, HR2.out, HB2.out⟩
    case round =>
      rename_i wr
      obtain ⟨k, s, rfl, hs, hk, HR, HBr⟩ := hrel
      clear HR2 HB2
      have HN := Lib.hid (num_lit g (0 + 1 + k) (by omega) [2000, 1996] (by decide) (by decide) 2 wr HR.out)
      go_wp2_with fail
      refine HN.out.mono ?_
      rintro e w5 ⟨y, rfl, hy, hr5, ha5⟩
      have hy2 : y = 2000 ∨ y = 1996 := by simpa using hy
      have HB5 : Hid (Below w.heap.size w w5) := ha5.below HBr.out HG.out
      have HR5 := Lib.hid hr5
      clear hy hr5 ha5 HN HR HBr
      by_cases hlt : (s.size : Int) < y
      · have hk2 : k + 1 ≤ 500 := by omega
        have c1 := fun W => run_string_add_sum (P := Try.prog) (w := W) (⟨#[65, 48, 49]⟩ : ByteArray) s (by show 3 + _ ≤ _; omega)
        have c2 := fun W => run_string_add_sum (P := Try.prog) (w := W) ((⟨#[65, 48, 49]⟩ : ByteArray) ++ s) (⟨#[49]⟩ : ByteArray) (by rw [ByteArray.size_append]; show 3 + _ + 1 ≤ _; omega)
        have hsz : ((⟨#[65, 48, 49]⟩ : ByteArray) ++ s ++ (⟨#[49]⟩ : ByteArray)).size = 4 * (k + 1) + 1 := by
          rw [ByteArray.size_append, ByteArray.size_append]
          show 3 + s.size + 1 = _
          omega
        have HSZ := Lib.hid hsz
        clear hsz hy2
        go_wp2_with fail
        go_roundw
        case rel => exact ⟨k + 1, _, rfl, HSZ.out, hk2, HR5.out, HB5.out⟩
        case measure =>
          have h1 := HSZ.out
          simp only [sizeV]
          omega
      · clear hy2
        go_wp2_with fail
        go_ret
        exact ⟨s, rfl, by omega, HB5.out⟩
  · have b0 : (q == 0) = false := beq_false_of_ne h0
    have HS := Lib.hid (open5_any g (0 + 1) (by omega) w2 hr)
    clear hr ha HP HB hq0 hq1 h0
    go_wp2_with fail
    refine HS.out.mono ?_
    rintro e w3 ⟨s, p3, rfl, hs, hr, hp3, ha⟩
    have HB3 : Hid (Below w.heap.size w w3) := ha.below HB2.out HG.out
    clear hr ha HS HB2
    go_wp2_with fail
    go_ret
    exact ⟨s, rfl, by omega, HB3.out⟩

set_option maxHeartbeats 8000000 in
set_option maxRecDepth 100000 in
theorem walk (v : Value) (n : Nat) (w : World) (h : ByteArg w v n) :
    Calls Try.prog 5 #[v] w fun e w' => e = .returned (.bool true) ∧ Below w.heap.size w w' := by
  obtain ⟨hn0, a, cap, rfl, hc, hb0⟩ := id h
  clear hb0
  have HD := Lib.hid (draw_pv _ n w h)
  clear h
  by_cases hbig : 1048576 < n
  · have hbi : (1048576 : Int) < (n : Int) := by omega
    go_enter Try.func5, Try.ntmps5
    go_wp2_with fail
    go_ret
    exact ⟨rfl, Below.refl _ _⟩
  have hbi : ¬ (1048576 : Int) < (n : Int) := by omega
  go_enter Try.func5, Try.ntmps5
  go_wp2_with fail
  refine HD.out.mono ?_
  rintro e w1 ⟨s, rfl, hs, hb⟩
  have HB1 := Lib.hid hb
  clear HD hbig hbi hb
  rcases ok_or s with ⟨t, hw, ht, h2⟩ | hno
  · have hsz : s.size = (text t).length := by rw [← ht]; simp
    have hte := text_ends t
    have hbe := bits_ends t
    have hep := ends_pos t
    have hpw := ends_pow t
    have HI := Lib.hid (impl_valid_yes s t hw ht h2)
    have HS := Lib.hid (valid_said s t hw ht h2)
    have HL := Lib.hid (fnExactLeavesOf.impl_yes s t hw ht h2)
    have HLS := Lib.hid (fnExactLeavesOf.spec_yes s t hw ht h2)
    have HK := Lib.hid (fnExactBitsOf.impl_yes s t hw ht h2)
    have HKS := Lib.hid (fnExactBitsOf.spec_yes s t hw ht h2)
    have HM := Lib.hid (impl_valid_no (s ++ (⟨#[48]⟩ : ByteArray)) (not_more s t hw ht _ rfl) (by rw [ByteArray.size_append]; show _ + 1 ≤ _; omega))
    have HC := Lib.hid (impl_valid_no (s.extract 0 (s.size - 1)) (not_less s t hw ht _ (by omega)) (by rw [ByteArray.size_extract]; omega))
    have cat := fun W => run_string_add_sum (P := Try.prog) (w := W) s (⟨#[48]⟩ : ByteArray) (by show _ + 1 ≤ _; omega)
    generalize ends t = E at *
    generalize Tree.bits t = K at *
    have l1 : (s.size : Int) = (E : Int) + 3 * ((E : Int) - 1) := by omega
    have hx : E + 3 * (E - 1) - 1 = s.size - 1 := by omega
    rw [← hx] at HC
    clear hx
    have m1 : IntKind.i64.wrap (3 * ((E : Int) - 1)) = 3 * ((E : Int) - 1) := by simp only [IntKind.wrap_i64]; omega
    have m2 : IntKind.i64.wrap ((E : Int) + 3 * ((E : Int) - 1)) = (E : Int) + 3 * ((E : Int) - 1) := by simp only [IntKind.wrap_i64]; omega
    have hKE : (K : Int) ≤ (E : Int) - 1 := by omega
    clear hw ht hte hbe hs hsz
    go_wp2_with fail
    refine (HI.out _).mono ?_
    rintro e w2 ⟨rfl, hb2⟩
    have HB2 := Lib.hid (HB1.out.trans (hb2.mono HB1.out.size))
    clear hb2 HB1
    go_wp2_with fail
    refine (HS.out _).mono ?_
    rintro e w3 ⟨rfl, rfl⟩
    go_wp2_with fail
    refine (HL.out _).mono ?_
    rintro e w4 ⟨rfl, hb4⟩
    have HB4 := Lib.hid (HB2.out.trans (hb4.mono HB2.out.size))
    clear hb4 HB2 HL
    go_wp2_with fail
    refine (HK.out _).mono ?_
    rintro e w5 ⟨rfl, hb5⟩
    have HB5 := Lib.hid (HB4.out.trans (hb5.mono HB4.out.size))
    clear hb5 HB4 HK
    go_wp2_with fail
    refine (HLS.out _).mono ?_
    rintro e w6 ⟨rfl, hb6⟩
    have HB6 := Lib.hid (HB5.out.trans (hb6.mono HB5.out.size))
    clear hb6 HB5 HLS
    go_wp2_with fail
    refine (HKS.out _).mono ?_
    rintro e w7 ⟨rfl, hb7⟩
    have HB7 := Lib.hid (HB6.out.trans (hb7.mono HB6.out.size))
    clear hb7 HB6 HKS
    have hor : (30 : Int) < (K : Int) ∨ (E : Int) ≤ wrap64 ((2 : Int) ^ K) := by
      by_cases hk : 30 < K
      · exact .inl (by omega)
      · right
        have h30 : 2 ^ K ≤ 2 ^ 30 := Nat.pow_le_pow_right (by decide) (by omega)
        have e30 : (2 : Nat) ^ 30 = 1073741824 := by decide
        have ec : ((2 : Int) ^ K) = ((2 ^ K : Nat) : Int) := by rw [Int.natCast_pow]; rfl
        rw [ec]
        generalize 2 ^ K = M at *
        unfold wrap64
        omega
    have hb : (decide ((30 : Int) < (K : Int)) || decide ((E : Int) ≤ wrap64 ((2 : Int) ^ K))) = true := by
      rw [Bool.or_eq_true, decide_eq_true_iff, decide_eq_true_iff]
      exact hor
    go_wp2_with fail
    all_goals
      refine (HM.out _).mono ?_
      rintro e w8 ⟨rfl, hb8⟩
      have HB8 := Lib.hid (HB7.out.trans (hb8.mono HB7.out.size))
      clear hb8 HB7 HM
      go_wp2_with fail
      refine (HC.out _).mono ?_
      rintro e w9 ⟨rfl, hb9⟩
      have HB9 := Lib.hid (HB8.out.trans (hb9.mono HB8.out.size))
      clear hb9 HB8 HC
      go_wp2_with fail
      go_ret
      exact ⟨rfl, HB9.out⟩
  · have HI := Lib.hid (impl_valid_no s hno (by omega))
    have HS := Lib.hid (valid_no s hno (by omega))
    have HL := Lib.hid (fnExactLeavesOf.impl_no s hno (by omega))
    have HK := Lib.hid (fnExactBitsOf.impl_no s hno (by omega))
    clear hno hs
    go_wp2_with fail
    refine (HI.out _).mono ?_
    rintro e w2 ⟨rfl, hb2⟩
    have HB2 := Lib.hid (HB1.out.trans (hb2.mono HB1.out.size))
    clear hb2 HB1
    go_wp2_with fail
    refine (HS.out _).mono ?_
    rintro e w3 ⟨rfl, rfl⟩
    go_wp2_with fail
    refine (HS.out _).mono ?_
    rintro e w3 ⟨rfl, rfl⟩
    go_wp2_with fail
    refine (HK.out _).mono ?_
    rintro e w5 ⟨rfl, hb5⟩
    have HB5 := Lib.hid (HB2.out.trans (hb5.mono HB2.out.size))
    clear hb5 HB2 HK
    go_wp2_with fail
    refine (HL.out _).mono ?_
    rintro e w6 ⟨rfl, hb6⟩
    have HB6 := Lib.hid (HB5.out.trans (hb6.mono HB5.out.size))
    clear hb6 HB5 HL
    go_wp2_with fail
    go_ret
    exact ⟨rfl, HB6.out⟩
end Go.Proofs.Ytgfhahlkffagaaa.fnProtocolValid
