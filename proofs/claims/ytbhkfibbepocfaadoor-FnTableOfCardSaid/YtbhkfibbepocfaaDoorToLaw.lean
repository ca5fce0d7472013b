/-
  The walk of the drawn law on TableOf.
-/
import Derived.Test.YtbhkfibbepocfaaDoorDrawFm
import Derived.Test.YtbhkfibbepocfaaDoorTabW
namespace Go.Proofs.YtbhkfibbepocfaaDoor.fnTableOf
open Go.RowKit Go.Shelf Go.Proofs.YtbhkfibbepocfaaDoor.Plain Go.Proofs.YtbhkfibbepocfaaDoor.Fm Go.Proofs.YtbhkfibbepocfaaDoor.FmB Go.Proofs.YtbhkfibbepocfaaDoor.FmNo Go.Proofs.YtbhkfibbepocfaaDoor.FmSaid Go.Proofs.YtbhkfibbepocfaaDoor.FmTab Go.Proofs.YtbhkfibbepocfaaDoor.Rd Go.Proofs.YtbhkfibbepocfaaDoor.DrawFm Go.Proofs.YtbhkfibbepocfaaDoor.TabW Go.Proofs.YtbhkfibbepocfaaDoor.Wid
set_option linter.unusedVariables false
set_option linter.unusedSimpArgs false

theorem drewn {w0 w : World} (h : Below w0.heap.size w0 w) (q : Nat) : Below w0.heap.size w0 (w.drewN q) := ⟨h.os, h.tape, h.output, h.size, h.block⟩
/-- a formula that goes on in a known way -/
theorem tab_of {s : ByteArray} {n : Nat} {q : ByteArray} {v : Bool} (h : tabAns s (n : Int) q v) (u : F) (hu : wf 3 u) (hs : s.data.toList = text u) : v = false ∨ (v = true ∧ q = str (tabL u (2 ^ n))) := by
  rcases h with ⟨rfl, m, t, hm, h1, h3, hw, ht, hl, rfl⟩ | ⟨rfl, _⟩
  · right
    have hmn : m = n := by omega
    subst hmn
    have e : text t ++ [] = text u ++ [] := by rw [List.append_nil, List.append_nil, ← ht, hs]
    rw [(text_inj t u _ _ (wf_mono h3 t hw) hu e).1]
    exact ⟨rfl, rfl⟩
  · exact .inl rfl
theorem odd_bit (k : Nat) : ((k : Int) % 2 == 1) = k.testBit 0 := by
  rw [Bool.eq_iff_iff, beq_iff_eq, Nat.testBit_zero, decide_eq_true_iff]
  omega
/-- what is asked of each number -/
def Asks (q q1 q2 : ByteArray) (v1 v2 : Bool) : Prop := ∀ k : Nat, k < q.size → ∃ tb ob : Bool, ((k : Int) % 2 == 1) = ob ∧ (∀ h : k < q.size, (((q[k]'h).toNat : Int) == 49) = tb) ∧
  (v1 = true → ∃ h : k < q1.size, (((q1[k]'h).toNat : Int) == 49) = (tb && ob)) ∧ (v2 = true → ∃ h : k < q2.size, (((q2[k]'h).toNat : Int) == 49) = (tb || !ob))
theorem asks (t : F) (n : Nat) (q1 q2 : ByteArray) (v1 v2 : Bool) (h1 : v1 = false ∨ (v1 = true ∧ q1 = str (tabL (.gate true t (.lit 0 true)) (2 ^ n)))) (h2 : v2 = false ∨ (v2 = true ∧ q2 = str (tabL (.gate false (.lit 0 false) t) (2 ^ n)))) :
    Asks (str (tabL t (2 ^ n))) q1 q2 v1 v2 := by
  intro k hk
  rw [tab_size] at hk
  refine ⟨val t k, k.testBit 0, odd_bit k, fun h => tab_byte t _ k hk h, fun e => ?_, fun e => ?_⟩
  · rcases h1 with h | ⟨_, rfl⟩
    · rw [e] at h; cases h
    · refine ⟨by rw [tab_size]; exact hk, ?_⟩
      rw [tab_byte _ _ k hk]
      show (val t k && (k.testBit 0 == true)) = _
      cases k.testBit 0 <;> simp
  · rcases h2 with h | ⟨_, rfl⟩
    · rw [e] at h; cases h
    · refine ⟨by rw [tab_size]; exact hk, ?_⟩
      rw [tab_byte _ _ k hk]
      show ((k.testBit 0 == false) || val t k) = _
      cases k.testBit 0 <;> cases val t k <;> rfl

set_option maxHeartbeats 16000000 in
set_option maxRecDepth 100000 in
theorem walk (v : Value) (n : Nat) (w : World) (h : ByteArg w v n) :
    Calls Tryd.prog 3 #[v] w fun e w' => e = .returned (.bool true) ∧ Below w.heap.size w w' := by
  obtain ⟨hn0, a, cap, rfl, hc, hb0⟩ := id h
  clear hb0
  have HD := Lib.hid (draw_tab _ n w h)
  clear h
  by_cases hbig : 1048576 < n
  · have hbi : (1048576 : Int) < (n : Int) := by omega
    go_enter Tryd.func3, Tryd.ntmps3
    go_wp2_with fail
    go_ret
    exact ⟨rfl, Below.refl _ _⟩
  have hbi : ¬ (1048576 : Int) < (n : Int) := by omega
  go_enter Tryd.func3, Tryd.ntmps3
  go_wp2_with fail
  refine HD.out.mono ?_
  rintro e w1 ⟨s, b, rfl, hs, hbw, hb⟩
  have HB1 := Lib.hid hb
  clear HD hbig hbi hb
  obtain ⟨x, hx, _, hxI⟩ := said_valid s (by omega) b
  obtain ⟨q, y, hy, hS, hI⟩ := both s (by omega) b
  have HX := Lib.hid hxI
  have HS := Lib.hid hS
  have HI := Lib.hid hI
  clear hxI hS hI
  rcases hy with ⟨rfl, N, t, rfl, hN1, hN3, hw, ht, hl, rfl⟩ | ⟨rfl, rfl, hno⟩
  · have hxt : x = true := hx.2 ⟨by omega, hl, t, by simpa using hw, ht⟩
    subst hxt
    have hw3 := wf_mono hN3 t hw
    have eA : ((⟨#[38]⟩ : ByteArray) ++ s ++ (⟨#[120]⟩ : ByteArray)).data.toList = text (.gate true t (.lit 0 true)) := by
      simp [text, ht, sgn, litB, lets]
    have eO : ((⟨#[124, 88]⟩ : ByteArray) ++ s).data.toList = text (.gate false (.lit 0 false) t) := by
      simp [text, ht, sgn, litB, lets]
    have zA : ((⟨#[38]⟩ : ByteArray) ++ s ++ (⟨#[120]⟩ : ByteArray)).size ≤ 1002 := by
      rw [ByteArray.size_append, ByteArray.size_append]
      show 1 + s.size + 1 ≤ 1002
      omega
    have zO : ((⟨#[124, 88]⟩ : ByteArray) ++ s).size ≤ 1002 := by
      rw [ByteArray.size_append]
      show 2 + s.size ≤ 1002
      omega
    have c1 := fun W => run_string_add_sum (P := Tryd.prog) (w := W) (⟨#[38]⟩ : ByteArray) s (by show 1 + _ ≤ _; omega)
    have c2 := fun W => run_string_add_sum (P := Tryd.prog) (w := W) ((⟨#[38]⟩ : ByteArray) ++ s) (⟨#[120]⟩ : ByteArray) (by rw [ByteArray.size_append]; show 1 + _ + 1 ≤ _; omega)
    have c3 := fun W => run_string_add_sum (P := Tryd.prog) (w := W) (⟨#[124, 88]⟩ : ByteArray) s (by show 2 + _ ≤ _; omega)
    obtain ⟨q1, y1, hy1, _, hI1⟩ := both _ (show ((⟨#[38]⟩ : ByteArray) ++ s ++ (⟨#[120]⟩ : ByteArray)).size ≤ 1048576 by omega) (N : Int)
    obtain ⟨q2, y2, hy2, _, hI2⟩ := both _ (show ((⟨#[124, 88]⟩ : ByteArray) ++ s).size ≤ 1048576 by omega) (N : Int)
    have HI1 := Lib.hid hI1
    have HI2 := Lib.hid hI2
    have HAS := Lib.hid (asks t N q1 q2 y1 y2 (tab_of hy1 _ ⟨hw3, by show 0 < 3; omega⟩ eA) (tab_of hy2 _ ⟨by show 0 < 3; omega, hw3⟩ eO))
    have HW : Hid (∀ W, Calls Tryd.prog 12 #[.string (str (tabL t (2 ^ N)))] W fun e w' => e = .returned (.int .i64 (N : Int)) ∧ Below W.heap.size W w') := fun W => by
      have h := impl_width (str (tabL t (2 ^ N))) (by rw [tab_size]; have : 2 ^ N ≤ 2 ^ 3 := Nat.pow_le_pow_right (by decide) hN3; unfold maxLen; omega) W
      rw [tab_width t N hN1 hN3] at h
      exact h
    have hz : (str (tabL t (2 ^ N))).size = 2 ^ N := tab_size _ _
    have hX2 : 2 ^ N ≤ 8 := Nat.pow_le_pow_right (n := 2) (by decide) hN3
    obtain ⟨X, hX⟩ : ∃ X : Nat, 2 ^ N = X := ⟨_, rfl⟩
    have hsh : IntKind.i64.wrap (2 ^ N) = (X : Int) := by rw [show ((2 : Int) ^ N) = ((2 ^ N : Nat) : Int) by simp, hX, IntKind.wrap_i64]; omega
    have hsu : IntKind.u64.wrap (N : Int) = (N : Int) := by rw [IntKind.wrap_u64]; omega
    rw [hX] at HI HS HAS HW hz hX2
    generalize str (tabL t X) = q at *
    clear hy1 hy2 hI1 hI2 eA eO hw ht hl hx hw3 hX
    go_wp2_with fail
    refine (HI.out _).mono ?_
    rintro e w2 ⟨rfl, hb2'⟩
    have HB2 : Hid (Below w.heap.size w w2) := HB1.out.trans (hb2'.mono HB1.out.size)
    clear hb2' HB1
    go_wp2_with fail
    refine (HS.out _).mono ?_
    rintro e w3 ⟨rfl, hb3'⟩
    have HB3 : Hid (Below w.heap.size w w3) := HB2.out.trans (hb3'.mono HB2.out.size)
    clear hb3' HB2
    go_wp2_with fail
    refine (HX.out _).mono ?_
    rintro e w4 ⟨rfl, hb4'⟩
    have HB4 : Hid (Below w.heap.size w w4) := HB3.out.trans (hb4'.mono HB3.out.size)
    clear hb4' HB3
    go_wp2_with fail
    refine (HI1.out _).mono ?_
    rintro e w5 ⟨rfl, hb5'⟩
    have HB5 : Hid (Below w.heap.size w w5) := HB4.out.trans (hb5'.mono HB4.out.size)
    clear hb5' HB4
    go_wp2_with fail
    refine (HI2.out _).mono ?_
    rintro e w6 ⟨rfl, hb6'⟩
    have HB6 : Hid (Below w.heap.size w w6) := HB5.out.trans (hb6'.mono HB5.out.size)
    clear hb6' HB5
    go_wp2_with fail
    go_loopw [13] (fun i wr => ∃ (k : Nat), k ≤ q.size ∧ i = .int .i64 (k : Int) ∧ Below w.heap.size w wr) (fun i _ => q.size - (intOf i).toNat)
    case atStart => exact ⟨0, by omega, rfl, HB6.out⟩
    case round =>
      obtain ⟨k, hk, rfl, hb⟩ := hrel
      have HB7 := Lib.hid hb
      clear hb
      by_cases hlt : k < q.size
      · obtain ⟨tb, ob, ho, h0, ha1, ha2⟩ := HAS.out k hlt
        replace h0 := h0 hlt
        have hy1 : y1 = false ∨ y1 = true := by cases y1 <;> simp
        have hy2 : y2 = false ∨ y2 = true := by cases y2 <;> simp
        rcases hy1 with rfl | rfl <;> rcases hy2 with rfl | rfl
        · clear ha1 ha2
          cases tb <;> cases ob
          all_goals
            go_wp2_with fail
            go_quiet (fail)
            go_wp2_with fail
            go_roundw
            case rel => exact ⟨k + 1, by omega, by go_num, drewn HB7.out _⟩
            case measure => simp [intOf]; omega
        · obtain ⟨hk2, e2⟩ := ha2 rfl
          clear ha1 ha2
          cases tb <;> cases ob
          all_goals
            simp only [Bool.or_true, Bool.or_false, Bool.true_or, Bool.false_or, Bool.not_true, Bool.not_false] at e2
            go_wp2_with fail
            go_quiet (fail)
            go_wp2_with fail
            go_roundw
            case rel => exact ⟨k + 1, by omega, by go_num, drewn HB7.out _⟩
            case measure => simp [intOf]; omega
        · obtain ⟨hk1, e1⟩ := ha1 rfl
          clear ha1 ha2
          cases tb <;> cases ob
          all_goals
            simp only [Bool.and_true, Bool.and_false, Bool.true_and, Bool.false_and] at e1
            go_wp2_with fail
            go_quiet (fail)
            go_wp2_with fail
            go_roundw
            case rel => exact ⟨k + 1, by omega, by go_num, drewn HB7.out _⟩
            case measure => simp [intOf]; omega
        · obtain ⟨hk1, e1⟩ := ha1 rfl
          obtain ⟨hk2, e2⟩ := ha2 rfl
          clear ha1 ha2
          cases tb <;> cases ob
          all_goals
            simp only [Bool.and_true, Bool.and_false, Bool.true_and, Bool.false_and] at e1
            simp only [Bool.or_true, Bool.or_false, Bool.true_or, Bool.false_or, Bool.not_true, Bool.not_false] at e2
            go_wp2_with fail
            go_quiet (fail)
            go_wp2_with fail
            go_roundw
            case rel => exact ⟨k + 1, by omega, by go_num, drewn HB7.out _⟩
            case measure => simp [intOf]; omega
      · obtain rfl : k = q.size := by omega
        go_wp2_with fail
        refine (HW.out _).mono ?_
        rintro e w8 ⟨rfl, hb8'⟩
        have HB8 : Hid (Below w.heap.size w w8) := HB7.out.trans (hb8'.mono HB7.out.size)
        clear hb8' HB7
        go_wp2_with fail
        go_ret
        exact ⟨by first | rfl | (rw [hz]; simp), HB8.out⟩
  · have hxf : x = false := by cases x with | false => rfl | true => exact absurd (hx.1 rfl) hno
    subst hxf
    generalize str [] = q at *
    clear hx hno
    go_wp2_with fail
    refine (HI.out _).mono ?_
    rintro e w2 ⟨rfl, hb2'⟩
    have HB2 : Hid (Below w.heap.size w w2) := HB1.out.trans (hb2'.mono HB1.out.size)
    clear hb2' HB1
    go_wp2_with fail
    refine (HS.out _).mono ?_
    rintro e w3 ⟨rfl, hb3'⟩
    have HB3 : Hid (Below w.heap.size w w3) := HB2.out.trans (hb3'.mono HB2.out.size)
    clear hb3' HB2
    go_wp2_with fail
    refine (HX.out _).mono ?_
    rintro e w4 ⟨rfl, hb4'⟩
    have HB4 : Hid (Below w.heap.size w w4) := HB3.out.trans (hb4'.mono HB3.out.size)
    clear hb4' HB3
    go_wp2_with fail
    refine (HX.out _).mono ?_
    rintro e w5 ⟨rfl, hb5'⟩
    have HB5 : Hid (Below w.heap.size w w5) := HB4.out.trans (hb5'.mono HB4.out.size)
    clear hb5' HB4
    go_wp2_with fail
    go_ret
    exact ⟨by rfl, HB5.out⟩
end Go.Proofs.YtbhkfibbepocfaaDoor.fnTableOf
