/-
  Formulas that are drawn: l9Draw, l9Bad, l9Open.
-/
import Derived.Test.YtbccachkkflceaaDrawT
import Derived.Test.YtbccachkkflceaaFreeP
import Derived.Test.YtbccachkkflceaaFm
import Derived.Handy
namespace Go.Proofs.Ytbccachkkflceaa.DrawFm
open Go.RowKit Go.Proofs.Ytbccachkkflceaa.Plain Go.Proofs.Ytbccachkkflceaa.Fm Go.Proofs.Ytbccachkkflceaa.Rd Go.Proofs.Ytbccachkkflceaa.Rd2 Go.Proofs.Ytbccachkkflceaa.Rd3 Go.Proofs.Ytbccachkkflceaa.DrawT Go.Proofs.Ytbccachkkflceaa.FreeP
open Go.Proofs.Ytbccachkkflceaa.Free (fill wp_value freeB)
open Go.Proofs.Ytbccachkkflceaa.FreeP (wp_enterP)
set_option linter.unusedVariables false
set_option linter.unusedSimpArgs false

theorem cells_str (w : World) (T : TypeId) (xs : List ByteArray) (j : Nat) (hj : j < xs.length) : (w.alloc (.cells (xs.map fun x : ByteArray => Value.string x).toArray T)).cell? ⟨w.heap.size, j, none⟩ = some (.string xs[j]) :=
  (cell_of_row _ _ j _ _ _ (heap_alloc_new w _)).trans (by simp [hj])
/-- an element of a list of strings that is written there -/
theorem of_lit {lo : Nat} (g p : Nat) (hp : p < 1048576) (xs : List ByteArray) (h1 : 1 ≤ xs.length) (h8 : xs.length ≤ 1000) (c : Nat) (w : World) (h : Rdr lo w g p) :
    Calls Try.prog 45 #[.pointer (some ⟨g, 0, none⟩), .slice (some ⟨w.heap.size, 0, none⟩) xs.length c] (w.alloc (.cells (xs.map fun x : ByteArray => Value.string x).toArray 9)) fun e w' => ∃ x : ByteArray, e = .returned (.string x) ∧ x ∈ xs ∧ Rdr lo w' g (p + 1) ∧ Apt g w w' := by
  have hgl := h.lt
  have hb := (Below.refl w.heap.size w).alloc (Nat.le_refl _) (.cells (xs.map fun x : ByteArray => Value.string x).toArray 9)
  exact (of_any g p hp xs h1 h8 w.heap.size c (by omega) _ (h.later hb) (by simp) (fun j hj => cells_str w 9 xs j hj)).mono fun e w' h => by
    obtain ⟨x, h1, h2, h3, h4⟩ := h
    exact ⟨x, h1, h2, h3, (Apt.of_below hb).trans h4⟩
theorem one_le (u : ByteArray) (h : u ∈ ([⟨#[119]⟩, ⟨#[38]⟩, ⟨#[49]⟩, ⟨#[90]⟩] : List ByteArray)) : u.size ≤ 1 := by
  simp only [List.mem_cons, List.not_mem_nil, or_false] at h
  rcases h with rfl | rfl | rfl | rfl <;> decide
theorem tri_le (u : ByteArray) (h : u ∈ ([⟨#[120]⟩, ⟨#[38]⟩, ⟨#[32]⟩] : List ByteArray)) : u.size ≤ 1 := by
  simp only [List.mem_cons, List.not_mem_nil, or_false] at h
  rcases h with rfl | rfl | rfl <;> decide
theorem wp_made {P : Program} {o : Oper} {a : Act} {w : World} {K : Act → World → Prop} {Q : Exit → Act → World → Prop} (w' : World) (v : Value) (h : (execOp a.eval o).run P w = .ok (.value v) w') (hK : K (a.put o.dst v) w') : o.wp P a w K Q := by
  unfold Oper.wp
  rw [h]
  exact hK
/-- what each operation yields -/
def YB (g : Nat) (s : ByteArray) (k : Nat) : Nat → Value → World → Prop
  | 0, v, _ => v = .string s
  | 1, v, _ => v = .int .i64 (k : Int)
  | 2, v, _ => v = .string (s.extract 0 k)
  | 3, v, _ => v = .pointer (some ⟨g, 0, none⟩)
  | 4, v, w => ∃ b, v = .slice (some ⟨b, 0, none⟩) 4 4 ∧ b ≠ g ∧ b < w.heap.size ∧ ∀ j (hj : j < ([⟨#[119]⟩, ⟨#[38]⟩, ⟨#[49]⟩, ⟨#[90]⟩] : List ByteArray).length), w.cell? ⟨b, j, none⟩ = some (.string ([⟨#[119]⟩, ⟨#[38]⟩, ⟨#[49]⟩, ⟨#[90]⟩] : List ByteArray)[j])
  | 5, v, _ => ∃ u : ByteArray, v = .string u ∧ u.size ≤ 1
  | 6, v, _ => ∃ u : ByteArray, v = .string u ∧ u.size ≤ s.size + 1
  | 7, v, _ => v = .string s
  | 8, v, _ => v = .int .i64 (k : Int)
  | 9, v, _ => v = .int .i64 ((k : Int) + 1)
  | 10, v, _ => ∃ u : ByteArray, v = .string u ∧ u.size ≤ s.size
  | 11, v, _ => ∃ u : ByteArray, v = .string u ∧ u.size ≤ s.size + s.size + 1
  | 12, v, _ => ∃ u : ByteArray, v = .string u ∧ u.size ≤ s.size + s.size + 1
  | _, _, _ => True
theorem YB.on (g : Nat) (s : ByteArray) (k : Nat) (i : Nat) (v : Value) (w w' : World) (ha : Apt g w w') (h : YB g s k i v w) : YB g s k i v w' := by
  match i, h with
  | 4, h =>
    obtain ⟨b, rfl, hg, hb, hc⟩ := h
    exact ⟨b, rfl, hg, Nat.lt_of_lt_of_le hb ha.size, fun j hj => (ha.cell (p := ⟨b, j, none⟩) hb hg).trans (hc j hj)⟩
  | 0, h | 1, h | 2, h | 3, h | 5, h | 6, h | 7, h | 8, h | 9, h | 10, h | 11, h | 12, h => exact h
  | n + 13, _ => trivial

/-- a text, whatever it is -/
def Any (lo g p : Nat) (w : World) (e : Ending) (w' : World) : Prop := ∃ (s : ByteArray) (p' : Nat), e = .returned (.string s) ∧ s.size ≤ 1000 ∧ Rdr lo w' g p' ∧ p' ≤ p + 8000 ∧ Apt g w w'

/-- how many numbers are drawn at most for a formula of a depth -/
def cost : Nat → Nat
  | 0 => 2
  | d + 1 => 4 + 2 * cost d
theorem cost_le : ∀ d : Fin 5, cost d.1 ≤ 400 := by decide
theorem sgn_in (u : ByteArray) (h : u ∈ ([⟨#[38]⟩, ⟨#[124]⟩] : List ByteArray)) : ∃ a : Bool, u = str [sgn a] := by
  simp only [List.mem_cons, List.not_mem_nil, or_false] at h
  rcases h with rfl | rfl
  · exact ⟨true, rfl⟩
  · exact ⟨false, rfl⟩
theorem len_pow (t : F) (d : Nat) (h : deep t ≤ d) (hd : d ≤ 4) : (text t).length ≤ 31 := by
  have h1 := text_size t
  have h2 := size_le t
  have h3 : 2 ^ deep t ≤ 2 ^ 4 := Nat.pow_le_pow_right (by decide) (by omega)
  have h4 : (2 : Nat) ^ 4 = 16 := by decide
  omega
/-- what a drawn formula is -/
def Drawn (lo g p d b : Nat) (w : World) (e : Ending) (w' : World) : Prop := ∃ (t : F) (p' : Nat), e = .returned (.string (str (text t))) ∧ wf b t ∧ deep t ≤ d ∧ Rdr lo w' g p' ∧ p' ≤ p + cost d ∧ Apt g w w'

set_option maxHeartbeats 8000000 in
set_option maxRecDepth 100000 in
theorem draw_tree {lo : Nat} (b : Nat) (hb1 : 1 ≤ b) (hb3 : b ≤ 3) : ∀ (d : Nat), d ≤ 4 → ∀ (g p : Nat) (hp : p + cost d ≤ 1040000) (w : World) (h : Rdr lo w g p),
    Calls Try.prog 42 #[.pointer (some ⟨g, 0, none⟩), .int .i64 (d : Int), .int .i64 (b : Int)] w (Drawn lo g p d b w) := by
  intro d
  induction d with
  | zero =>
    intro _ g p hp w h
    have hp2 : p + 2 ≤ 1040000 := hp
    clear hp
    show Calls _ _ #[_, .int .i64 0, _] _ _
    go_enter Try.func42, Try.ntmps42
    have HK := Lib.hid (pick_r g (p) (by omega) (b : Int) w h)
    clear h
    go_wp2_with fail
    refine HK.out.mono ?_
    rintro e wA ⟨x, rfl, ⟨hx0, -⟩, hx1, hrA, haA⟩
    have HAA := Lib.hid (haA)
    have hx : x = 0 ∨ (x = 1 ∧ 1 < b) ∨ (x = 2 ∧ 2 < b) := by omega
    have HQ := Lib.hid (pick_r g (p + 1) (by omega) 3 wA hrA)
    clear hrA haA HK hx0 hx1
    rcases hx with rfl | ⟨rfl, hkb⟩ | ⟨rfl, hkb⟩
    all_goals
      go_wp2_with fail
      refine HQ.out.mono ?_
      rintro e wB ⟨y, rfl, ⟨hy0, -⟩, hy1, hrB, haB⟩
      have HRB := Lib.hid hrB
      have HAB := Lib.hid (HAA.out.trans haB)
      clear hrB haB
      by_cases hy : y = 0
      · subst hy
        clear hy0 hy1
        go_wp2_with fail
        go_ret
        first
          | exact ⟨.lit 0 false, p + 1 + 1, by rfl, by show 0 < b; omega, Nat.le_refl _, HRB.out, by show p + 1 + 1 ≤ p + 2; omega, HAB.out⟩
          | exact ⟨.lit 1 false, p + 1 + 1, by rfl, by show 1 < b; omega, Nat.le_refl _, HRB.out, by show p + 1 + 1 ≤ p + 2; omega, HAB.out⟩
          | exact ⟨.lit 2 false, p + 1 + 1, by rfl, by show 2 < b; omega, Nat.le_refl _, HRB.out, by show p + 1 + 1 ≤ p + 2; omega, HAB.out⟩
      · have hyb : (y == 0) = false := beq_false_of_ne hy
        clear hy0 hy1 hy
        go_wp2_with fail
        go_ret
        first
          | exact ⟨.lit 0 true, p + 1 + 1, by rfl, by show 0 < b; omega, Nat.le_refl _, HRB.out, by show p + 1 + 1 ≤ p + 2; omega, HAB.out⟩
          | exact ⟨.lit 1 true, p + 1 + 1, by rfl, by show 1 < b; omega, Nat.le_refl _, HRB.out, by show p + 1 + 1 ≤ p + 2; omega, HAB.out⟩
          | exact ⟨.lit 2 true, p + 1 + 1, by rfl, by show 2 < b; omega, Nat.le_refl _, HRB.out, by show p + 1 + 1 ≤ p + 2; omega, HAB.out⟩
  | succ d ih =>
    intro hd g p hp w h
    have hc : cost (d + 1) = 4 + 2 * cost d := rfl
    rw [hc] at hp
    have HP := Lib.hid (pick_r g p (by omega) 4 w h)
    have IH := Lib.hid (fun q (hq : q + cost d ≤ 1040000) W hW => ih (by omega) g q hq W hW)
    have hcd : ((d + 1 : Nat) : Int) - 1 = (d : Int) := by omega
    have hd1 : (0 : Int) < ((d + 1 : Nat) : Int) := by omega
    have hdw : ((d + 1 : Nat) : Int) ≤ 4 := by omega
    obtain ⟨D, hD⟩ : ∃ D : Int, ((d + 1 : Nat) : Int) = D := ⟨_, rfl⟩
    rw [hD] at hcd hd1 hdw
    have HCD := Lib.hid hcd
    show Calls _ _ #[_, .int .i64 ((d + 1 : Nat) : Int), _] _ _
    rw [hD]
    clear h ih hc hcd hD
    go_enter Try.func42, Try.ntmps42
    go_wp2_with fail
    refine HP.out.mono ?_
    rintro e w1 ⟨z, rfl, ⟨hz0, -⟩, hz1, hr, ha⟩
    have HA := Lib.hid ha
    clear ha HP
    by_cases hz : z = 0
    · subst hz
      clear hz0 hz1 IH HCD
      have HK := Lib.hid (pick_r g (p + 1) (by omega) (b : Int) w1 hr)
      clear hr
      go_wp2_with fail
      refine HK.out.mono ?_
      rintro e wA ⟨x, rfl, ⟨hx0, -⟩, hx1, hrA, haA⟩
      have HAA := Lib.hid (HA.out.trans haA)
      have hx : x = 0 ∨ (x = 1 ∧ 1 < b) ∨ (x = 2 ∧ 2 < b) := by omega
      have HQ := Lib.hid (pick_r g (p + 1 + 1) (by omega) 3 wA hrA)
      clear hrA haA HK hx0 hx1 HA
      rcases hx with rfl | ⟨rfl, hkb⟩ | ⟨rfl, hkb⟩
      all_goals
        go_wp2_with fail
        refine HQ.out.mono ?_
        rintro e wB ⟨y, rfl, ⟨hy0, -⟩, hy1, hrB, haB⟩
        have HRB := Lib.hid hrB
        have HAB := Lib.hid (HAA.out.trans haB)
        clear hrB haB
        by_cases hy : y = 0
        · subst hy
          clear hy0 hy1
          go_wp2_with fail
          go_ret
          first
            | exact ⟨.lit 0 false, p + 1 + 1 + 1, by rfl, by show 0 < b; omega, Nat.zero_le _, HRB.out, by show _ ≤ p + (4 + 2 * cost d); omega, HAB.out⟩
            | exact ⟨.lit 1 false, p + 1 + 1 + 1, by rfl, by show 1 < b; omega, Nat.zero_le _, HRB.out, by show _ ≤ p + (4 + 2 * cost d); omega, HAB.out⟩
            | exact ⟨.lit 2 false, p + 1 + 1 + 1, by rfl, by show 2 < b; omega, Nat.zero_le _, HRB.out, by show _ ≤ p + (4 + 2 * cost d); omega, HAB.out⟩
        · have hyb : (y == 0) = false := beq_false_of_ne hy
          clear hy0 hy1 hy
          go_wp2_with fail
          go_ret
          first
            | exact ⟨.lit 0 true, p + 1 + 1 + 1, by rfl, by show 0 < b; omega, Nat.zero_le _, HRB.out, by show _ ≤ p + (4 + 2 * cost d); omega, HAB.out⟩
            | exact ⟨.lit 1 true, p + 1 + 1 + 1, by rfl, by show 1 < b; omega, Nat.zero_le _, HRB.out, by show _ ≤ p + (4 + 2 * cost d); omega, HAB.out⟩
            | exact ⟨.lit 2 true, p + 1 + 1 + 1, by rfl, by show 2 < b; omega, Nat.zero_le _, HRB.out, by show _ ≤ p + (4 + 2 * cost d); omega, HAB.out⟩
    · have hzb : (z == 0) = false := beq_false_of_ne hz
      have hdd : decide (D ≤ 0) = false := decide_eq_false (by omega)
      have HN := Lib.hid (of_lit g (p + 1) (by omega) [⟨#[38]⟩, ⟨#[124]⟩] (by decide) (by decide) 2 w1 hr)
      clear hr hz0 hz1
      go_wp2_with fail
      refine HN.out.mono ?_
      rintro e w2 ⟨u, rfl, hu, hr, ha⟩
      obtain ⟨a, rfl⟩ := sgn_in u hu
      have HA2 := Lib.hid (HA.out.trans ha)
      have HZ := Lib.hid (IH.out (p + 1 + 1) (by omega) w2 hr)
      obtain ⟨q0, hq0⟩ : ∃ q0, str [sgn a] = q0 := ⟨_, rfl⟩
      have hs0 : q0.size = 1 := by rw [← hq0]; rfl
      have HQ0 := Lib.hid hq0
      rw [hq0]
      have hcd := HCD.out
      clear hr ha hu HN HA hz hq0 hzb hdd
      go_wp2_with fail
      refine HZ.out.mono ?_
      rintro e w3 ⟨f, p3, rfl, hwf, hdf, hr, hp3, ha⟩
      have HA3 := Lib.hid (HA2.out.trans ha)
      have HO := Lib.hid (IH.out p3 (by omega) w3 hr)
      have hlf := len_pow f d hdf (by omega)
      have HWF := Lib.hid (And.intro hwf hdf)
      obtain ⟨qz, hqz⟩ : ∃ q, str (text f) = q := ⟨_, rfl⟩
      have hsz : qz.size ≤ 31 := by rw [← hqz, str_size]; omega
      rw [hqz]
      have HQZ := Lib.hid hqz
      have c1 := fun W => run_string_add_sum (P := Try.prog) (w := W) q0 qz (by omega)
      clear hr ha HZ HA2 hwf hdf IH hlf hqz
      go_wp2_with fail
      refine HO.out.mono ?_
      rintro e w4 ⟨k, p4, rfl, hwk, hdk, hr, hp4, ha⟩
      have HA4 := Lib.hid (HA3.out.trans ha)
      have HR4 := Lib.hid hr
      have hlk := len_pow k d hdk (by omega)
      have HWK := Lib.hid (And.intro hwk hdk)
      obtain ⟨qk, hqk⟩ : ∃ q, str (text k) = q := ⟨_, rfl⟩
      have hsk : qk.size ≤ 31 := by rw [← hqk, str_size]; omega
      rw [hqk]
      have HQK := Lib.hid hqk
      have c2 := fun W => run_string_add_sum (P := Try.prog) (w := W) (q0 ++ qz) qk (by rw [ByteArray.size_append]; omega)
      have HQR : Hid (q0 ++ qz ++ qk = str (text (.gate a f k))) := by
        unfold Hid
        rw [← HQ0.out, ← HQZ.out, ← HQK.out, str_append, str_append]
        simp [text]
      clear hr ha HO HA3 hwk hdk hlk hqk hsk hs0 hsz
      go_wp2_with fail
      go_ret
      refine ⟨.gate a f k, p4, by rw [← HQR.out]; rfl, ⟨HWF.out.1, HWK.out.1⟩, ?_, HR4.out, ?_, HA4.out⟩
      · have b1 := HWF.out.2
        have b2 := HWK.out.2
        show 1 + max (deep f) (deep k) ≤ d + 1
        omega
      · show p4 ≤ p + (4 + 2 * cost d)
        omega

end Go.Proofs.Ytbccachkkflceaa.DrawFm
