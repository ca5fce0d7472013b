/-
  Texts of one seat, joined: GDrawP5, DrawGm.
-/
import Derived.Test.YtbccachkkflceaaGreatDoorJn1
import Derived.Test.YtbccachkkflceaaGreatDoorJn3
import Derived.Test.YtbccachkkflceaaGreatDoorJn21
import Derived.Test.YtbccachkkflceaaGreatDoorJn18
import Derived.Test.YtbccachkkflceaaGreatDoorJn22
import Derived.Test.YtbccachkkflceaaGreatDoorJn5
/-
  Protocols that are drawn: l5Draw, l5Some, l5Bad, l5Open, l5Side.
-/
namespace Go.Proofs.YtbccachkkflceaaGreatDoor.DrawP5
open Go.RowKit Go.Shelf Go.Proofs.YtbccachkkflceaaGreatDoor.Plain Go.Proofs.YtbccachkkflceaaGreatDoor.Tree Go.Proofs.YtbccachkkflceaaGreatDoor.Read Go.Proofs.YtbccachkkflceaaGreatDoor.Parts Go.Proofs.YtbccachkkflceaaGreatDoor.SetW Go.Proofs.YtbccachkkflceaaGreatDoor.Rd Go.Proofs.YtbccachkkflceaaGreatDoor.Rd2 Go.Proofs.YtbccachkkflceaaGreatDoor.Rd3 Go.Proofs.YtbccachkkflceaaGreatDoor.DrawT
open Go.Proofs.YtbccachkkflceaaGreatDoor.GmM (text_ends)
open Go.Proofs.YtbccachkkflceaaGreatDoor.GmS (said_node)
set_option linter.unusedVariables false
set_option linter.unusedSimpArgs false

theorem cells_str (w : World) (T : TypeId) (xs : List ByteArray) (j : Nat) (hj : j < xs.length) : (w.alloc (.cells (xs.map fun x : ByteArray => Value.string x).toArray T)).cell? ⟨w.heap.size, j, none⟩ = some (.string xs[j]) :=
  (cell_of_row _ _ j _ _ _ (heap_alloc_new w _)).trans (by simp [hj])
/-- an element of a list of strings that is written there -/
theorem of_lit {lo : Nat} (g p : Nat) (hp : p < 1048576) (xs : List ByteArray) (h1 : 1 ≤ xs.length) (h8 : xs.length ≤ 1000) (c : Nat) (w : World) (h : Rdr lo w g p) :
    Calls Tryz.prog 93 #[.pointer (some ⟨g, 0, none⟩), .slice (some ⟨w.heap.size, 0, none⟩) xs.length c] (w.alloc (.cells (xs.map fun x : ByteArray => Value.string x).toArray 9)) fun e w' => ∃ x : ByteArray, e = .returned (.string x) ∧ x ∈ xs ∧ Rdr lo w' g (p + 1) ∧ Apt g w w' := by
  have hgl := h.lt
  have hb := (Below.refl w.heap.size w).alloc (Nat.le_refl _) (.cells (xs.map fun x : ByteArray => Value.string x).toArray 9)
  exact (of_any g p hp xs h1 h8 w.heap.size c (by omega) _ (h.later hb) (by simp) (fun j hj => cells_str w 9 xs j hj)).mono fun e w' h => by
    obtain ⟨x, h1, h2, h3, h4⟩ := h
    exact ⟨x, h1, h2, h3, (Apt.of_below hb).trans h4⟩
theorem num_lit {lo : Nat} (g p : Nat) (hp : p < 1048576) (xs : List Int) (h1 : 1 ≤ xs.length) (h8 : xs.length ≤ 1000) (c : Nat) (w : World) (h : Rdr lo w g p) :
    Calls Tryz.prog 81 #[.pointer (some ⟨g, 0, none⟩), .slice (some ⟨w.heap.size, 0, none⟩) xs.length c] (w.alloc (.cells (xs.map fun x : Int => Value.int .i64 x).toArray 3)) fun e w' => ∃ x : Int, e = .returned (.int .i64 x) ∧ x ∈ xs ∧ Rdr lo w' g (p + 1) ∧ Apt g w w' := by
  have hgl := h.lt
  have hb := (Below.refl w.heap.size w).alloc (Nat.le_refl _) (.cells (xs.map fun x : Int => Value.int .i64 x).toArray 3)
  exact (num_any g p hp xs h1 h8 w.heap.size c (by omega) _ (h.later hb) (by simp) (fun j hj => cells_lit w 3 xs j hj)).mono fun e w' h => by
    obtain ⟨x, h1, h2, h3, h4⟩ := h
    exact ⟨x, h1, h2, h3, (Apt.of_below hb).trans h4⟩

theorem ends_pow : ∀ t : T, ends t ≤ 2 ^ Tree.bits t
  | .leaf _ => Nat.le_refl _
  | .say _ _ z o => by
    have h1 := ends_pow z
    have h2 := ends_pow o
    have h3 : 2 ^ Tree.bits z ≤ 2 ^ max (Tree.bits z) (Tree.bits o) := Nat.pow_le_pow_right (by decide) (Nat.le_max_left _ _)
    have h4 : 2 ^ Tree.bits o ≤ 2 ^ max (Tree.bits z) (Tree.bits o) := Nat.pow_le_pow_right (by decide) (Nat.le_max_right _ _)
    show ends z + ends o ≤ 2 ^ (1 + max (Tree.bits z) (Tree.bits o))
    rw [Nat.pow_add]
    omega
theorem len_pow (t : T) (d : Nat) (h : Tree.bits t ≤ d) (hd : d ≤ 6) : (text t).length ≤ 253 := by
  have h1 := text_ends t
  have h2 := ends_pow t
  have h3 : 2 ^ Tree.bits t ≤ 2 ^ 6 := Nat.pow_le_pow_right (by decide) (by omega)
  have h4 : (2 : Nat) ^ 6 = 64 := by decide
  omega

/-- how many numbers are drawn at most for a protocol of a depth -/
def cost : Nat → Nat
  | 0 => 2
  | d + 1 => 6 + 2 * cost d
theorem cost_le : ∀ d : Fin 7, cost d.1 ≤ 600 := by decide

theorem bit_in (u : ByteArray) (h : u ∈ ([⟨#[48]⟩, ⟨#[49]⟩] : List ByteArray)) : ∃ b : V3, u = str (text (.leaf b)) := by
  simp only [List.mem_cons, List.not_mem_nil, or_false] at h
  rcases h with rfl | rfl
  · exact ⟨.v0, rfl⟩
  · exact ⟨.v1, rfl⟩
theorem who_in (u : ByteArray) (h : u ∈ ([⟨#[65]⟩, ⟨#[66]⟩] : List ByteArray)) : ∃ a : Bool, u = str [whoB a] := by
  simp only [List.mem_cons, List.not_mem_nil, or_false] at h
  rcases h with rfl | rfl
  · exact ⟨true, rfl⟩
  · exact ⟨false, rfl⟩

/-- what a drawn protocol is -/
def Drawn (lo g p d : Nat) (w : World) (e : Ending) (w' : World) : Prop := ∃ (t : T) (p' : Nat), e = .returned (.string (str (text t))) ∧ wf t ∧ Tree.bits t ≤ d ∧ Rdr lo w' g p' ∧ p' ≤ p + cost d ∧ Apt g w w'

set_option maxHeartbeats 4000000 in
set_option maxRecDepth 100000 in
theorem draw_tree {lo : Nat} : ∀ (d : Nat), d ≤ 6 → ∀ (g p : Nat) (hp : p + cost d ≤ 1040000) (w : World) (h : Rdr lo w g p),
    Calls Tryz.prog 94 #[.pointer (some ⟨g, 0, none⟩), .int .i64 (d : Int)] w (Drawn lo g p d w) := by
  intro d
  induction d with
  | zero =>
    intro _ g p hp w h
    have hp2 : p + 2 ≤ 1040000 := hp
    have HN := Lib.hid (of_lit g p (by omega) [⟨#[48]⟩, ⟨#[49]⟩] (by decide) (by decide) 2 w h)
    clear h hp
    show Calls _ _ #[_, .int .i64 0] _ _
    go_enter Tryz.func94, Tryz.ntmps94
    go_wp2_with fail
    refine HN.out.mono ?_
    rintro e w2 ⟨u, rfl, hu, hr, ha⟩
    obtain ⟨b, rfl⟩ := bit_in u hu
    have HR := Lib.hid hr
    have HA := Lib.hid ha
    clear hr ha hu HN
    generalize hq : str (text (.leaf b)) = q
    have HQ := Lib.hid hq
    clear hq
    go_wp2_with fail
    go_ret
    exact ⟨.leaf b, p + 1, by rw [HQ.out]; rfl, trivial, Nat.le_refl _, HR.out, by show p + 1 ≤ p + 2; omega, HA.out⟩
  | succ d ih =>
    intro hd g p hp w h
    have hc : cost (d + 1) = 6 + 2 * cost d := rfl
    rw [hc] at hp
    have HP := Lib.hid (pick_r g p (by omega) 5 w h)
    have IH := Lib.hid (fun q (hq : q + cost d ≤ 1040000) W hW => ih (by omega) g q hq W hW)
    have hcd : ((d + 1 : Nat) : Int) - 1 = (d : Int) := by omega
    have hd1 : (0 : Int) < ((d + 1 : Nat) : Int) := by omega
    have hdw : ((d + 1 : Nat) : Int) ≤ 6 := by omega
    obtain ⟨D, hD⟩ : ∃ D : Int, ((d + 1 : Nat) : Int) = D := ⟨_, rfl⟩
    rw [hD] at hcd hd1 hdw
    have HCD := Lib.hid hcd
    show Calls _ _ #[_, .int .i64 ((d + 1 : Nat) : Int)] _ _
    rw [hD]
    clear h ih hc hcd hD
    go_enter Tryz.func94, Tryz.ntmps94
    go_wp2_with fail
    refine HP.out.mono ?_
    rintro e w1 ⟨x, rfl, ⟨hx0, hxm⟩, hx1, hr, ha⟩
    have HA := Lib.hid ha
    clear ha HP
    by_cases hx : x = 0
    · subst hx
      have HN := Lib.hid (of_lit g (p + 1) (by omega) [⟨#[48]⟩, ⟨#[49]⟩] (by decide) (by decide) 2 w1 hr)
      clear hr hx0 hxm hx1 IH
      go_wp2_with fail
      refine HN.out.mono ?_
      rintro e w2 ⟨u, rfl, hu, hr, ha⟩
      obtain ⟨b, rfl⟩ := bit_in u hu
      have HR := Lib.hid hr
      have HA2 := Lib.hid (HA.out.trans ha)
      clear hr ha hu HN HA
      generalize hq : str (text (.leaf b)) = q
      have HQ := Lib.hid hq
      clear hq
      go_wp2_with fail
      go_ret
      exact ⟨.leaf b, p + 1 + 1, by rw [HQ.out]; rfl, trivial, Nat.zero_le _, HR.out, by show _ ≤ p + (6 + 2 * cost d); omega, HA2.out⟩
    · have hxb : (x == 0) = false := beq_false_of_ne hx
      have hdd : decide (D ≤ 0) = false := decide_eq_false (by omega)
      have HN := Lib.hid (of_lit g (p + 1) (by omega) [⟨#[65]⟩, ⟨#[66]⟩] (by decide) (by decide) 2 w1 hr)
      clear hr
      go_wp2_with fail
      refine HN.out.mono ?_
      rintro e w2 ⟨u, rfl, hu, hr, ha⟩
      obtain ⟨a, rfl⟩ := who_in u hu
      have HA2 := Lib.hid (HA.out.trans ha)
      have HP2 := Lib.hid (pick_r g (p + 1 + 1) (by omega) 32 w2 hr)
      obtain ⟨q0, hq0⟩ : ∃ q0, str [whoB a] = q0 := ⟨_, rfl⟩
      have HQ0 := Lib.hid hq0
      rw [hq0]
      clear hr ha hu HN HA hx hx0 hxm hx1 hq0 hxb hdd
      go_wp2_with fail
      refine HP2.out.mono ?_
      rintro e w3 ⟨s, rfl, ⟨hs0, hsm⟩, hs1, hr, ha⟩
      have HA3 := Lib.hid (HA2.out.trans ha)
      have HP3 := Lib.hid (pick_r g (p + 1 + 1 + 1) (by omega) 8 w3 hr)
      have hs : 0 ≤ s ∧ s < 256 := by omega
      clear hr ha HP2 HA2 hs0 hsm hs1
      go_wp2_with fail
      refine HP3.out.mono ?_
      rintro e w4 ⟨y, rfl, ⟨hy0, hym⟩, hy1, hr, ha⟩
      have HA4 := Lib.hid (HA3.out.trans ha)
      clear ha HP3 HA3
      by_cases hy : y = 0
      · subst hy
        have HP4 := Lib.hid (pick_r g (p + 1 + 1 + 1 + 1) (by omega) 256 w4 hr)
        clear hr hs hy0 hym hy1
        go_wp2_with fail
        refine HP4.out.mono ?_
        rintro e w5 ⟨x5, rfl, ⟨hx50, hx5m⟩, hx51, hr, ha⟩
        have HAs := Lib.hid (HA4.out.trans ha)
        have hs : 0 ≤ x5 ∧ x5 < 256 := by omega
        clear ha HP4 HA4 hx50 hx5m hx51
        obtain ⟨S, rfl⟩ := Int.eq_ofNat_of_zero_le hs.1
        have hS : S < 256 := by omega
        have HZ := Lib.hid (IH.out (p + 1 + 1 + 1 + 1 + 1) (by omega) w5 hr)
        have hcd := HCD.out
        clear hr hs
        go_wp2_with fail
        refine HZ.out.mono ?_
        rintro e w8 ⟨z, p8, rfl, hwz, hbz, hr, hp8, ha⟩
        have HA8 := Lib.hid (HAs.out.trans ha)
        have HO := Lib.hid (IH.out p8 (by omega) w8 hr)
        have hlz := len_pow z d hbz (by omega)
        have HWZ := Lib.hid (And.intro hwz hbz)
        clear hr ha HZ HAs hwz hbz IH
        obtain ⟨qz, hqz⟩ : ∃ q, str (text z) = q := ⟨_, rfl⟩
        rw [hqz]
        have HQZ := Lib.hid hqz
        clear hqz
        go_wp2_with fail
        refine HO.out.mono ?_
        rintro e w9 ⟨o, p9, rfl, hwo, hbo, hr, hp9, ha⟩
        have HA9 := Lib.hid (HA8.out.trans ha)
        have hlo := len_pow o d hbo (by omega)
        have HNo := Lib.hid (said_node a S hS z o (by omega) (by omega) w9)
        rw [HQ0.out, HQZ.out] at HNo
        have HR9 := Lib.hid hr
        have HWO := Lib.hid (And.intro hwo hbo)
        clear hr ha HO HA8 hwo hbo
        obtain ⟨qo, hqo⟩ : ∃ q, str (text o) = q := ⟨_, rfl⟩
        rw [hqo] at HNo ⊢
        clear hqo
        obtain ⟨qr, hqr⟩ : ∃ q, str (text (.say a S z o)) = q := ⟨_, rfl⟩
        rw [hqr] at HNo
        have HQR := Lib.hid hqr
        clear hqr
        go_wp2_with fail
        refine HNo.out.mono ?_
        rintro e w10 ⟨rfl, hb10⟩
        have HR10 := Lib.hid (HR9.out.later hb10)
        have HA10 := Lib.hid (HA9.out.trans (Apt.of_below hb10))
        clear hb10 HR9 HA9 HNo
        go_wp2_with fail
        go_ret
        refine ⟨.say a S z o, p9, by rw [HQR.out]; rfl, ⟨hS, HWZ.out.1, HWO.out.1⟩, ?_, HR10.out, ?_, HA10.out⟩
        · have b1 := HWZ.out.2
          have b2 := HWO.out.2
          show 1 + max (Tree.bits z) (Tree.bits o) ≤ d + 1
          omega
        · show p9 ≤ p + (6 + 2 * cost d)
          omega
      · have HAs := HA4
        clear HA4 hy0 hym hy1
        obtain ⟨S, rfl⟩ := Int.eq_ofNat_of_zero_le hs.1
        have hS : S < 256 := by omega
        have HZ := Lib.hid (IH.out (p + 1 + 1 + 1 + 1) (by omega) w4 hr)
        have hcd := HCD.out
        clear hr hs
        go_wp2_with fail
        refine HZ.out.mono ?_
        rintro e w8 ⟨z, p8, rfl, hwz, hbz, hr, hp8, ha⟩
        have HA8 := Lib.hid (HAs.out.trans ha)
        have HO := Lib.hid (IH.out p8 (by omega) w8 hr)
        have hlz := len_pow z d hbz (by omega)
        have HWZ := Lib.hid (And.intro hwz hbz)
        clear hr ha HZ HAs hwz hbz IH
        obtain ⟨qz, hqz⟩ : ∃ q, str (text z) = q := ⟨_, rfl⟩
        rw [hqz]
        have HQZ := Lib.hid hqz
        clear hqz
        go_wp2_with fail
        refine HO.out.mono ?_
        rintro e w9 ⟨o, p9, rfl, hwo, hbo, hr, hp9, ha⟩
        have HA9 := Lib.hid (HA8.out.trans ha)
        have hlo := len_pow o d hbo (by omega)
        have HNo := Lib.hid (said_node a S hS z o (by omega) (by omega) w9)
        rw [HQ0.out, HQZ.out] at HNo
        have HR9 := Lib.hid hr
        have HWO := Lib.hid (And.intro hwo hbo)
        clear hr ha HO HA8 hwo hbo
        obtain ⟨qo, hqo⟩ : ∃ q, str (text o) = q := ⟨_, rfl⟩
        rw [hqo] at HNo ⊢
        clear hqo
        obtain ⟨qr, hqr⟩ : ∃ q, str (text (.say a S z o)) = q := ⟨_, rfl⟩
        rw [hqr] at HNo
        have HQR := Lib.hid hqr
        clear hqr
        go_wp2_with fail
        refine HNo.out.mono ?_
        rintro e w10 ⟨rfl, hb10⟩
        have HR10 := Lib.hid (HR9.out.later hb10)
        have HA10 := Lib.hid (HA9.out.trans (Apt.of_below hb10))
        clear hb10 HR9 HA9 HNo
        go_wp2_with fail
        go_ret
        refine ⟨.say a S z o, p9, by rw [HQR.out]; rfl, ⟨hS, HWZ.out.1, HWO.out.1⟩, ?_, HR10.out, ?_, HA10.out⟩
        · have b1 := HWZ.out.2
          have b2 := HWO.out.2
          show 1 + max (Tree.bits z) (Tree.bits o) ≤ d + 1
          omega
        · show p9 ≤ p + (6 + 2 * cost d)
          omega

end Go.Proofs.YtbccachkkflceaaGreatDoor.DrawP5

/-
  Texts that are drawn, sometimes no protocols of games: l10Open.
-/
namespace Go.Proofs.YtbccachkkflceaaGreatDoor.DrawGm
open Go.RowKit Go.Proofs.YtbccachkkflceaaGreatDoor.Plain Go.Proofs.YtbccachkkflceaaGreatDoor.Rd Go.Proofs.YtbccachkkflceaaGreatDoor.Rd2 Go.Proofs.YtbccachkkflceaaGreatDoor.Rd3 Go.Proofs.YtbccachkkflceaaGreatDoor.DrawT Go.Proofs.YtbccachkkflceaaGreatDoor.FreeP
open Go.Proofs.YtbccachkkflceaaGreatDoor.Free (fill wp_value freeB)
open Go.Proofs.YtbccachkkflceaaGreatDoor.FreeP (wp_enterP)
open Go.Proofs.YtbccachkkflceaaGreatDoor.DrawP5 (draw_tree cells_str)
set_option linter.unusedVariables false
set_option linter.unusedSimpArgs false

theorem one_le (u : ByteArray) (h : u ∈ ([⟨#[51]⟩, ⟨#[50]⟩, ⟨#[65]⟩, ⟨#[103]⟩] : List ByteArray)) : u.size ≤ 1 := by
  simp only [List.mem_cons, List.not_mem_nil, or_false] at h
  rcases h with rfl | rfl | rfl | rfl <;> decide
theorem wp_made {P : Program} {o : Oper} {a : Act} {w : World} {K : Act → World → Prop} {Q : Exit → Act → World → Prop} (w' : World) (v : Value) (h : (execOp a.eval o).run P w = .ok (.value v) w') (hK : K (a.put o.dst v) w') : o.wp P a w K Q := by
  unfold Oper.wp
  rw [h]
  exact hK
/-- what each operation yields -/
def YB (g : Nat) (s : ByteArray) (k : Nat) : Nat → Value → World → Prop
  | 0, v, _ => v = .string s
  | 1, v, _ => v = .int .i64 (k : Int)
  | 2, v, _ => v = .string (s.extract 0 k)
  | 3, v, _ => v = .pointer (some ⟨g, 0, none⟩)
  | 4, v, w => ∃ b, v = .slice (some ⟨b, 0, none⟩) 4 4 ∧ b ≠ g ∧ b < w.heap.size ∧ ∀ j (hj : j < ([⟨#[51]⟩, ⟨#[50]⟩, ⟨#[65]⟩, ⟨#[103]⟩] : List ByteArray).length), w.cell? ⟨b, j, none⟩ = some (.string ([⟨#[51]⟩, ⟨#[50]⟩, ⟨#[65]⟩, ⟨#[103]⟩] : List ByteArray)[j])
  | 5, v, _ => ∃ u : ByteArray, v = .string u ∧ u.size ≤ 1
  | 6, v, _ => ∃ u : ByteArray, v = .string u ∧ u.size ≤ s.size + 1
  | 7, v, _ => v = .string s
  | 8, v, _ => v = .int .i64 (k : Int)
  | 9, v, _ => v = .int .i64 ((k : Int) + 1)
  | 10, v, _ => ∃ u : ByteArray, v = .string u ∧ u.size ≤ s.size
  | 11, v, _ => ∃ u : ByteArray, v = .string u ∧ u.size ≤ s.size + s.size + 1
  | 12, v, _ => ∃ u : ByteArray, v = .string u ∧ u.size ≤ s.size + s.size + 1
  | _, _, _ => True
theorem YB.on (g : Nat) (s : ByteArray) (k : Nat) (i : Nat) (v : Value) (w w' : World) (ha : Apt g w w') (h : YB g s k i v w) : YB g s k i v w' := by
  match i, h with
  | 4, h =>
    obtain ⟨b, rfl, hg, hb, hc⟩ := h
    exact ⟨b, rfl, hg, Nat.lt_of_lt_of_le hb ha.size, fun j hj => (ha.cell (p := ⟨b, j, none⟩) hb hg).trans (hc j hj)⟩
  | 0, h | 1, h | 2, h | 3, h | 5, h | 6, h | 7, h | 8, h | 9, h | 10, h | 11, h | 12, h => exact h
  | n + 13, _ => trivial


/-- a text, whatever it is -/
def Any (lo g p : Nat) (w : World) (e : Ending) (w' : World) : Prop := ∃ (s : ByteArray) (p' : Nat), e = .returned (.string s) ∧ s.size ≤ 1000 ∧ Rdr lo w' g p' ∧ p' ≤ p + 12000 ∧ Apt g w w'

set_option maxHeartbeats 4000000 in
set_option maxRecDepth 100000 in
theorem open10_any {lo : Nat} (g p : Nat) (hp : p ≤ 100000) (w : World) (h : Rdr lo w g p) :
    Calls Tryz.prog 59 #[.pointer (some ⟨g, 0, none⟩)] w (Any lo g p w) := by
  have HP1 := Lib.hid (pick_r g p (by omega) 3 w h)
  clear h
  go_enter Tryz.func59, Tryz.ntmps59
  go_wp2_with fail
  refine HP1.out.mono ?_
  rintro e w1 ⟨x, rfl, ⟨hx0, hxm⟩, hx1, hr, ha⟩
  have HA1 := Lib.hid ha
  have HP2 := Lib.hid (pick_r g (p + 1) (by omega) 3 w1 hr)
  obtain ⟨kx, rfl⟩ := Int.eq_ofNat_of_zero_le hx0
  have hkx : kx < 3 := by omega
  clear hr ha HP1 hx0 hxm hx1
  go_wp2_with fail
  refine HP2.out.mono ?_
  rintro e w2 ⟨y, rfl, ⟨hy0, hym⟩, hy1, hr, ha⟩
  have HA2 := Lib.hid (HA1.out.trans ha)
  obtain ⟨ky, rfl⟩ := Int.eq_ofNat_of_zero_le hy0
  have hky : ky < 3 := by omega
  have ex : (1 : Int) + (kx : Int) = ((kx + 1 : Nat) : Int) := by omega
  have ey : (1 : Int) + (ky : Int) = ((ky + 1 : Nat) : Int) := by omega
  have HD := Lib.hid (DrawFm.draw_tree (ky + 1) (by omega) (by omega) (kx + 1) (by omega) g (p + 1 + 1) (by have := DrawFm.cost_le ⟨kx + 1, by omega⟩; simp only at this; omega) w2 hr)
  have hcx : DrawFm.cost (kx + 1) ≤ 400 := DrawFm.cost_le ⟨kx + 1, by omega⟩
  obtain ⟨X, hX⟩ : ∃ X : Int, ((kx + 1 : Nat) : Int) = X := ⟨_, rfl⟩
  obtain ⟨Y, hY⟩ : ∃ Y : Int, ((ky + 1 : Nat) : Int) = Y := ⟨_, rfl⟩
  rw [hX] at ex
  rw [hY] at ey
  have hkx3 : kx + 1 ≤ 3 := by omega
  have hky3 : ky + 1 ≤ 3 := by omega
  rw [hX, hY] at HD
  clear hr ha HP2 hy0 hym hy1 HA1 hX hY
  go_wp2_with fail
  refine HD.out.mono ?_
  rintro e w3 ⟨t, p3, rfl, hwt, hdt, hr, hp3, ha⟩
  have HA3 := Lib.hid (HA2.out.trans ha)
  have hl := DrawFm.len_pow t (kx + 1) hdt (by omega)
  have hwf := Fm.wf_mono hky3 t hwt
  have hGM := GmS.game_said t hwf (by omega) w3
  have hpos := Tree.text_pos (GmM.gameT t)
  have hlen := GmM.game_length t (by omega)
  have h1 : 1 ≤ (str (Tree.text (GmM.gameT t))).size := by rw [str_size]; omega
  have h2 : (str (Tree.text (GmM.gameT t))).size ≤ 400 := by rw [str_size]; omega
  have HR3 := Lib.hid hr
  have HGM := Lib.hid hGM
  generalize str (Tree.text (GmM.gameT t)) = s0 at *
  generalize str (Fm.text t) = f0 at *
  clear hr ha HD HA2 hl hwf hGM hpos hlen hwt hdt ex ey hkx hky hkx3 hky3
  go_wp2_with fail
  refine HGM.out.mono ?_
  rintro e w4 ⟨rfl, hb4⟩
  have HA4 := Lib.hid (HA3.out.trans (Apt.of_below hb4))
  have HP4 := Lib.hid (pick_r g p3 (by omega) 4 w4 (HR3.out.later hb4))
  clear hb4 HGM HA3 HR3
  go_wp2_with fail
  refine HP4.out.mono ?_
  rintro e w5 ⟨z, rfl, ⟨hz0, hzm⟩, hz1, hr, ha⟩
  have HA5 := Lib.hid (HA4.out.trans ha)
  have HR5 := Lib.hid hr
  have hp5 : p3 ≤ p + 402 := by omega
  clear hr ha HP4 HA4 hp3 hcx
  have base : ∀ (WQ : Prop), WQ → WQ := fun _ h => h
  by_cases hzz : z = 0
  · subst hzz
    have HP6 := Lib.hid (pick_r g (p3 + 1) (by omega) 3 w5 HR5.out)
    clear hz0 hzm hz1
    go_wp2_with fail
    refine HP6.out.mono ?_
    rintro e w6 ⟨y, rfl, ⟨hy0, hym⟩, hy1, hr, ha⟩
    have HA6 := Lib.hid (HA5.out.trans ha)
    obtain ⟨ky, rfl⟩ := Int.eq_ofNat_of_zero_le hy0
    have hky : ky < 3 := by omega
    have ey : (1 : Int) + (ky : Int) = ((ky + 1 : Nat) : Int) := by omega
    have hc5 : DrawP5.cost (ky + 1) ≤ 600 := DrawP5.cost_le ⟨ky + 1, by omega⟩
    have HD := Lib.hid (draw_tree (ky + 1) (by omega) g (p3 + 1 + 1) (by omega) w6 hr)
    obtain ⟨Y, hY⟩ : ∃ Y : Int, ((ky + 1 : Nat) : Int) = Y := ⟨_, rfl⟩
    rw [hY] at ey HD
    clear hr ha HP6 hy0 hym hy1 HA5 HR5 hY
    go_wp2_with fail
    refine HD.out.mono ?_
    rintro e wE ⟨t5, p4, rfl, hwt5, hdt5, hr, hp4, ha⟩
    have HAE := Lib.hid (HA6.out.trans ha)
    have hl5 := DrawP5.len_pow t5 (ky + 1) hdt5 (by omega)
    have hpos5 := Tree.text_pos t5
    have hs1 : 1 ≤ (str (Tree.text t5)).size := by rw [str_size]; omega
    have hs2 : (str (Tree.text t5)).size ≤ 400 := by rw [str_size]; omega
    have HRE := Lib.hid hr
    have hp4' : p4 ≤ p + 1100 := by omega
    generalize str (Tree.text t5) = s at *
    clear hr ha HD HA6 hl5 hpos5 hwt5 hdt5 ey hp4 hc5 h1 h2 hp5
    have HP := Lib.hid (pick_r g p4 (by omega) 30 wE HRE.out)
    clear HRE
    go_wp2_with fail
    refine HP.out.mono ?_
    rintro e w1 ⟨q, rfl, ⟨hq0, -⟩, hq1, hr, ha⟩
    have HA := Lib.hid (HAE.out.trans ha)
    clear ha HP HAE
    by_cases h0 : q = 0
    · subst h0
      have HR := Lib.hid hr
      have hcat := fun W => run_string_add_sum (P := Tryz.prog) (w := W) s (⟨#[48]⟩ : ByteArray) (by show _ + 1 ≤ _; omega)
      clear hr hq0 hq1
      go_wp2_with fail
      go_ret
      exact ⟨_, p4 + 1, rfl, by rw [ByteArray.size_append]; show _ + 1 ≤ _; omega, HR.out, by omega, HA.out⟩
    by_cases h1' : q = 1
    · subst h1'
      have HR := Lib.hid hr
      have hle : (s.size : Int) - 1 ≤ (s.size : Int) := by omega
      have hpos : (0 : Int) ≤ (s.size : Int) - 1 := by omega
      clear hr hq0 hq1 h0
      go_wp2_with fail
      go_ret
      exact ⟨_, p4 + 1, rfl, by rw [ByteArray.size_extract]; omega, HR.out, by omega, HA.out⟩
    by_cases h2' : q = 2
    · subst h2'
      have HQ := Lib.hid (pick_r g (p4 + 1) (by omega) (s.size : Int) w1 hr)
      clear hr hq0 hq1 h0 h1'
      go_wp2_with fail
      refine HQ.out.mono ?_
      rintro e w6 ⟨k, rfl, ⟨hk0, -⟩, hk1, hr, hap⟩
      have HA6 := Lib.hid (HA.out.trans hap)
      obtain ⟨k, rfl⟩ := Int.eq_ofNat_of_zero_le hk0
      have hk : k < s.size := by omega
      have HR6 := Lib.hid hr
      clear hr hap HQ HA hk0 hk1
      go_wp2_with fail
      refine wp_region_draws g (p4 + 1 + 1) (YB g s k) (YB.on g s k) (by kernel_rfl) (by kernel_rfl) rfl HR6.out ?conA ?enA
      case conA =>
        intro i o ho a wx p9 hp8 hp9 hax hrx hf
        have hp5 : p9 ≤ 120000 := Nat.le_trans hp9 (by show _ + 400 * 13 ≤ _; omega)
        match i, ho with
        | 0, ho =>
          obtain rfl := Option.some.inj ho
          have b3 : a.tmps[3]?.getD undef = .string s := hf.2 3 (by kernel_rfl)
          exact wp_value (.string s) (by unfold execOp; go_simp) ⟨_, p9, rfl, rfl, Apt.refl _ _, hrx, Nat.le_refl _, by omega⟩
        | 1, ho =>
          obtain rfl := Option.some.inj ho
          have b4 : a.tmps[4]?.getD undef = .int .i64 (k : Int) := hf.2 4 (by kernel_rfl)
          exact wp_value (.int .i64 (k : Int)) (by unfold execOp; go_simp) ⟨_, p9, rfl, rfl, Apt.refl _ _, hrx, Nat.le_refl _, by omega⟩
        | 2, ho =>
          obtain rfl := Option.some.inj ho
          have e41 : a.tmps[41]?.getD undef = .string s := hf.1 ⟨0, .data⟩ (by simp) rfl _ 41 rfl rfl
          have e42 : a.tmps[42]?.getD undef = .int .i64 (k : Int) := hf.1 ⟨1, .data⟩ (by simp) rfl _ 42 rfl rfl
          have hki : (k : Int) ≤ (s.size : Int) := by omega
          exact wp_value (.string (s.extract 0 k)) (by unfold execOp; go_simp) ⟨_, p9, rfl, rfl, Apt.refl _ _, hrx, Nat.le_refl _, by omega⟩
        | 3, ho =>
          obtain rfl := Option.some.inj ho
          have b0 : a.tmps[0]?.getD undef = .pointer (some ⟨g, 0, none⟩) := hf.2 0 (by kernel_rfl)
          exact wp_value (.pointer (some ⟨g, 0, none⟩)) (by unfold execOp; go_simp) ⟨_, p9, rfl, rfl, Apt.refl _ _, hrx, Nat.le_refl _, by omega⟩
        | 4, ho =>
          obtain rfl := Option.some.inj ho
          have hgl := hrx.lt
          have hb := (Below.refl wx.heap.size wx).alloc (Nat.le_refl _) (.cells (([⟨#[51]⟩, ⟨#[50]⟩, ⟨#[65]⟩, ⟨#[103]⟩] : List ByteArray).map fun x : ByteArray => Value.string x).toArray 9)
          refine wp_made (wx.alloc (.cells (([⟨#[51]⟩, ⟨#[50]⟩, ⟨#[65]⟩, ⟨#[103]⟩] : List ByteArray).map fun x : ByteArray => Value.string x).toArray 9)) (.slice (some ⟨wx.heap.size, 0, none⟩) 4 4) ?_ ⟨_, p9, rfl, ⟨wx.heap.size, rfl, by omega, by simp, fun j hj => cells_str wx 9 ([⟨#[51]⟩, ⟨#[50]⟩, ⟨#[65]⟩, ⟨#[103]⟩] : List ByteArray) j hj⟩, Apt.of_below hb, hrx.later hb, Nat.le_refl _, by omega⟩
          unfold execOp
          go_simp
        | 5, ho =>
          obtain rfl := Option.some.inj ho
          have e44 : a.tmps[44]?.getD undef = .pointer (some ⟨g, 0, none⟩) := hf.1 ⟨3, .data⟩ (by simp) rfl _ 44 rfl rfl
          obtain ⟨b, e45, hbg, hbl, hbc⟩ : ∃ b, a.tmps[45]?.getD undef = .slice (some ⟨b, 0, none⟩) 4 4 ∧ b ≠ g ∧ b < wx.heap.size ∧ ∀ j (hj : j < ([⟨#[51]⟩, ⟨#[50]⟩, ⟨#[65]⟩, ⟨#[103]⟩] : List ByteArray).length), wx.cell? ⟨b, j, none⟩ = some (.string ([⟨#[51]⟩, ⟨#[50]⟩, ⟨#[65]⟩, ⟨#[103]⟩] : List ByteArray)[j]) := hf.1 ⟨4, .data⟩ (by simp) rfl _ 45 rfl rfl
          exact wp_enterP 93 #[.pointer (some ⟨g, 0, none⟩), .slice (some ⟨b, 0, none⟩) 4 4] (fun v w' => (∃ u : ByteArray, v = .string u ∧ u.size ≤ 1) ∧ Rdr lo w' g (p9 + 1) ∧ Apt g wx w') (by unfold execOp; go_simp)
            ((of_any g p9 (by omega) ([⟨#[51]⟩, ⟨#[50]⟩, ⟨#[65]⟩, ⟨#[103]⟩] : List ByteArray) (by decide) (by decide) b 4 hbg wx hrx hbl hbc).mono fun e w' h => by obtain ⟨x, he, hx, hr, ha⟩ := h; exact ⟨_, he, ⟨x, rfl, one_le x hx⟩, hr, ha⟩)
            (fun v w' h => ⟨v, p9 + 1, rfl, h.1, h.2.2, h.2.1, by omega, by omega⟩)
        | 6, ho =>
          obtain rfl := Option.some.inj ho
          have e43 : a.tmps[43]?.getD undef = .string (s.extract 0 k) := hf.1 ⟨2, .data⟩ (by simp) rfl _ 43 rfl rfl
          obtain ⟨u, e46, hu⟩ : ∃ u : ByteArray, a.tmps[46]?.getD undef = .string u ∧ u.size ≤ 1 := hf.1 ⟨5, .data⟩ (by simp) rfl _ 46 rfl rfl
          have hex : (s.extract 0 k).size ≤ s.size := by rw [ByteArray.size_extract]; omega
          have hcat := run_string_add_sum (P := Tryz.prog) (w := wx) (s.extract 0 k) u (by omega)
          exact wp_value (.string (s.extract 0 k ++ u)) (by unfold execOp; go_simp) ⟨_, p9, rfl, ⟨_, rfl, by rw [ByteArray.size_append]; omega⟩, Apt.refl _ _, hrx, Nat.le_refl _, by omega⟩
        | 7, ho =>
          obtain rfl := Option.some.inj ho
          have b3 : a.tmps[3]?.getD undef = .string s := hf.2 3 (by kernel_rfl)
          exact wp_value (.string s) (by unfold execOp; go_simp) ⟨_, p9, rfl, rfl, Apt.refl _ _, hrx, Nat.le_refl _, by omega⟩
        | 8, ho =>
          obtain rfl := Option.some.inj ho
          have b4 : a.tmps[4]?.getD undef = .int .i64 (k : Int) := hf.2 4 (by kernel_rfl)
          exact wp_value (.int .i64 (k : Int)) (by unfold execOp; go_simp) ⟨_, p9, rfl, rfl, Apt.refl _ _, hrx, Nat.le_refl _, by omega⟩
        | 9, ho =>
          obtain rfl := Option.some.inj ho
          have e49 : a.tmps[49]?.getD undef = .int .i64 (k : Int) := hf.1 ⟨8, .data⟩ (by simp) rfl _ 49 rfl rfl
          have hwr : IntKind.i64.wrap ((k : Int) + 1) = (k : Int) + 1 := by rw [IntWalk.i64_in _ ⟨by omega, by omega⟩]
          exact wp_value (.int .i64 ((k : Int) + 1)) (by unfold execOp; go_simp) ⟨_, p9, rfl, rfl, Apt.refl _ _, hrx, Nat.le_refl _, by omega⟩
        | 10, ho =>
          obtain rfl := Option.some.inj ho
          have e48 : a.tmps[48]?.getD undef = .string s := hf.1 ⟨7, .data⟩ (by simp) rfl _ 48 rfl rfl
          have e50 : a.tmps[50]?.getD undef = .int .i64 ((k : Int) + 1) := hf.1 ⟨9, .data⟩ (by simp) rfl _ 50 rfl rfl
          have hqi : (k : Int) + 1 ≤ (s.size : Int) := by omega
          exact wp_value (.string (s.extract (k + 1) s.size)) (by unfold execOp; go_simp; intro hneg; exact absurd hneg (by omega)) ⟨_, p9, rfl, ⟨_, rfl, by rw [ByteArray.size_extract]; omega⟩, Apt.refl _ _, hrx, Nat.le_refl _, by omega⟩
        | 11, ho =>
          obtain rfl := Option.some.inj ho
          obtain ⟨u, e47, hu⟩ : ∃ u : ByteArray, a.tmps[47]?.getD undef = .string u ∧ u.size ≤ s.size + 1 := hf.1 ⟨6, .data⟩ (by simp) rfl _ 47 rfl rfl
          obtain ⟨u2, e51, hu2⟩ : ∃ u : ByteArray, a.tmps[51]?.getD undef = .string u ∧ u.size ≤ s.size := hf.1 ⟨10, .data⟩ (by simp) rfl _ 51 rfl rfl
          have hcat := run_string_add_sum (P := Tryz.prog) (w := wx) u u2 (by omega)
          exact wp_value (.string (u ++ u2)) (by unfold execOp; go_simp) ⟨_, p9, rfl, ⟨_, rfl, by rw [ByteArray.size_append]; omega⟩, Apt.refl _ _, hrx, Nat.le_refl _, by omega⟩
        | 12, ho =>
          obtain rfl := Option.some.inj ho
          obtain ⟨u, e52, hu⟩ : ∃ u : ByteArray, a.tmps[52]?.getD undef = .string u ∧ u.size ≤ s.size + s.size + 1 := hf.1 ⟨11, .data⟩ (by simp) rfl _ 52 rfl rfl
          exact wp_value (.string u) (by unfold execOp; go_simp) ⟨_, p9, rfl, ⟨_, rfl, hu⟩, Apt.refl _ _, hrx, Nat.le_refl _, by omega⟩
        | q + 13, ho => simp at ho
      case enA =>
        intro vs wx p9 hp8 hp9 hax hrx hall
        have hp6 : p9 ≤ p + 12000 := Nat.le_trans hp9 (by show _ + 400 * 13 ≤ _; omega)
        obtain ⟨u, hu, hus⟩ : ∃ u : ByteArray, vs 12 = .string u ∧ u.size ≤ s.size + s.size + 1 := hall 12 _ rfl
        have HA7 := Lib.hid (HA6.out.trans hax)
        have HR7 := Lib.hid hrx
        clear hax hrx hall HR6 HA6 hp8 hp9
        simp only [fill, Act.put, hu]
        go_simp
        go_wp2_with fail
        go_ret
        exact ⟨u, p9, rfl, by omega, HR7.out, hp6, HA7.out⟩
    · have HR := Lib.hid hr
      have b0 : (q == 0) = false := beq_false_of_ne h0
      have b1 : (q == 1) = false := beq_false_of_ne h1'
      have b2 : (q == 2) = false := beq_false_of_ne h2'
      clear hr hq0 hq1 h0 h1' h2'
      go_wp2_with fail
      go_ret
      exact ⟨s, p4 + 1, rfl, by omega, HR.out, by omega, HA.out⟩
  · have hzb : (z == 0) = false := beq_false_of_ne hzz
    have hs1 := h1
    have hs2 := h2
    obtain ⟨p4, hp4e⟩ : ∃ p4, p3 + 1 = p4 := ⟨_, rfl⟩
    rw [hp4e] at HR5
    have hp4' : p4 ≤ p + 1100 := by omega
    have HRE := HR5
    have HAE := HA5
    clear HR5 HA5 h1 h2
    generalize w5 = wE at *
    generalize s0 = s at *
    clear hz0 hzm hz1 hzz hp5 hp4e
    have HP := Lib.hid (pick_r g p4 (by omega) 30 wE HRE.out)
    clear HRE
    go_wp2_with fail
    refine HP.out.mono ?_
    rintro e w1 ⟨q, rfl, ⟨hq0, -⟩, hq1, hr, ha⟩
    have HA := Lib.hid (HAE.out.trans ha)
    clear ha HP HAE
    by_cases h0 : q = 0
    · subst h0
      have HR := Lib.hid hr
      have hcat := fun W => run_string_add_sum (P := Tryz.prog) (w := W) s (⟨#[48]⟩ : ByteArray) (by show _ + 1 ≤ _; omega)
      clear hr hq0 hq1
      go_wp2_with fail
      go_ret
      exact ⟨_, p4 + 1, rfl, by rw [ByteArray.size_append]; show _ + 1 ≤ _; omega, HR.out, by omega, HA.out⟩
    by_cases h1' : q = 1
    · subst h1'
      have HR := Lib.hid hr
      have hle : (s.size : Int) - 1 ≤ (s.size : Int) := by omega
      have hpos : (0 : Int) ≤ (s.size : Int) - 1 := by omega
      clear hr hq0 hq1 h0
      go_wp2_with fail
      go_ret
      exact ⟨_, p4 + 1, rfl, by rw [ByteArray.size_extract]; omega, HR.out, by omega, HA.out⟩
    by_cases h2' : q = 2
    · subst h2'
      have HQ := Lib.hid (pick_r g (p4 + 1) (by omega) (s.size : Int) w1 hr)
      clear hr hq0 hq1 h0 h1'
      go_wp2_with fail
      refine HQ.out.mono ?_
      rintro e w6 ⟨k, rfl, ⟨hk0, -⟩, hk1, hr, hap⟩
      have HA6 := Lib.hid (HA.out.trans hap)
      obtain ⟨k, rfl⟩ := Int.eq_ofNat_of_zero_le hk0
      have hk : k < s.size := by omega
      have HR6 := Lib.hid hr
      clear hr hap HQ HA hk0 hk1
      go_wp2_with fail
      refine wp_region_draws g (p4 + 1 + 1) (YB g s k) (YB.on g s k) (by kernel_rfl) (by kernel_rfl) rfl HR6.out ?conB ?enB
      case conB =>
        intro i o ho a wx p9 hp8 hp9 hax hrx hf
        have hp5 : p9 ≤ 120000 := Nat.le_trans hp9 (by show _ + 400 * 13 ≤ _; omega)
        match i, ho with
        | 0, ho =>
          obtain rfl := Option.some.inj ho
          have b3 : a.tmps[3]?.getD undef = .string s := hf.2 3 (by kernel_rfl)
          exact wp_value (.string s) (by unfold execOp; go_simp) ⟨_, p9, rfl, rfl, Apt.refl _ _, hrx, Nat.le_refl _, by omega⟩
        | 1, ho =>
          obtain rfl := Option.some.inj ho
          have b4 : a.tmps[4]?.getD undef = .int .i64 (k : Int) := hf.2 4 (by kernel_rfl)
          exact wp_value (.int .i64 (k : Int)) (by unfold execOp; go_simp) ⟨_, p9, rfl, rfl, Apt.refl _ _, hrx, Nat.le_refl _, by omega⟩
        | 2, ho =>
          obtain rfl := Option.some.inj ho
          have e41 : a.tmps[41]?.getD undef = .string s := hf.1 ⟨0, .data⟩ (by simp) rfl _ 41 rfl rfl
          have e42 : a.tmps[42]?.getD undef = .int .i64 (k : Int) := hf.1 ⟨1, .data⟩ (by simp) rfl _ 42 rfl rfl
          have hki : (k : Int) ≤ (s.size : Int) := by omega
          exact wp_value (.string (s.extract 0 k)) (by unfold execOp; go_simp) ⟨_, p9, rfl, rfl, Apt.refl _ _, hrx, Nat.le_refl _, by omega⟩
        | 3, ho =>
          obtain rfl := Option.some.inj ho
          have b0 : a.tmps[0]?.getD undef = .pointer (some ⟨g, 0, none⟩) := hf.2 0 (by kernel_rfl)
          exact wp_value (.pointer (some ⟨g, 0, none⟩)) (by unfold execOp; go_simp) ⟨_, p9, rfl, rfl, Apt.refl _ _, hrx, Nat.le_refl _, by omega⟩
        | 4, ho =>
          obtain rfl := Option.some.inj ho
          have hgl := hrx.lt
          have hb := (Below.refl wx.heap.size wx).alloc (Nat.le_refl _) (.cells (([⟨#[51]⟩, ⟨#[50]⟩, ⟨#[65]⟩, ⟨#[103]⟩] : List ByteArray).map fun x : ByteArray => Value.string x).toArray 9)
          refine wp_made (wx.alloc (.cells (([⟨#[51]⟩, ⟨#[50]⟩, ⟨#[65]⟩, ⟨#[103]⟩] : List ByteArray).map fun x : ByteArray => Value.string x).toArray 9)) (.slice (some ⟨wx.heap.size, 0, none⟩) 4 4) ?_ ⟨_, p9, rfl, ⟨wx.heap.size, rfl, by omega, by simp, fun j hj => cells_str wx 9 ([⟨#[51]⟩, ⟨#[50]⟩, ⟨#[65]⟩, ⟨#[103]⟩] : List ByteArray) j hj⟩, Apt.of_below hb, hrx.later hb, Nat.le_refl _, by omega⟩
          unfold execOp
          go_simp
        | 5, ho =>
          obtain rfl := Option.some.inj ho
          have e44 : a.tmps[44]?.getD undef = .pointer (some ⟨g, 0, none⟩) := hf.1 ⟨3, .data⟩ (by simp) rfl _ 44 rfl rfl
          obtain ⟨b, e45, hbg, hbl, hbc⟩ : ∃ b, a.tmps[45]?.getD undef = .slice (some ⟨b, 0, none⟩) 4 4 ∧ b ≠ g ∧ b < wx.heap.size ∧ ∀ j (hj : j < ([⟨#[51]⟩, ⟨#[50]⟩, ⟨#[65]⟩, ⟨#[103]⟩] : List ByteArray).length), wx.cell? ⟨b, j, none⟩ = some (.string ([⟨#[51]⟩, ⟨#[50]⟩, ⟨#[65]⟩, ⟨#[103]⟩] : List ByteArray)[j]) := hf.1 ⟨4, .data⟩ (by simp) rfl _ 45 rfl rfl
          exact wp_enterP 93 #[.pointer (some ⟨g, 0, none⟩), .slice (some ⟨b, 0, none⟩) 4 4] (fun v w' => (∃ u : ByteArray, v = .string u ∧ u.size ≤ 1) ∧ Rdr lo w' g (p9 + 1) ∧ Apt g wx w') (by unfold execOp; go_simp)
            ((of_any g p9 (by omega) ([⟨#[51]⟩, ⟨#[50]⟩, ⟨#[65]⟩, ⟨#[103]⟩] : List ByteArray) (by decide) (by decide) b 4 hbg wx hrx hbl hbc).mono fun e w' h => by obtain ⟨x, he, hx, hr, ha⟩ := h; exact ⟨_, he, ⟨x, rfl, one_le x hx⟩, hr, ha⟩)
            (fun v w' h => ⟨v, p9 + 1, rfl, h.1, h.2.2, h.2.1, by omega, by omega⟩)
        | 6, ho =>
          obtain rfl := Option.some.inj ho
          have e43 : a.tmps[43]?.getD undef = .string (s.extract 0 k) := hf.1 ⟨2, .data⟩ (by simp) rfl _ 43 rfl rfl
          obtain ⟨u, e46, hu⟩ : ∃ u : ByteArray, a.tmps[46]?.getD undef = .string u ∧ u.size ≤ 1 := hf.1 ⟨5, .data⟩ (by simp) rfl _ 46 rfl rfl
          have hex : (s.extract 0 k).size ≤ s.size := by rw [ByteArray.size_extract]; omega
          have hcat := run_string_add_sum (P := Tryz.prog) (w := wx) (s.extract 0 k) u (by omega)
          exact wp_value (.string (s.extract 0 k ++ u)) (by unfold execOp; go_simp) ⟨_, p9, rfl, ⟨_, rfl, by rw [ByteArray.size_append]; omega⟩, Apt.refl _ _, hrx, Nat.le_refl _, by omega⟩
        | 7, ho =>
          obtain rfl := Option.some.inj ho
          have b3 : a.tmps[3]?.getD undef = .string s := hf.2 3 (by kernel_rfl)
          exact wp_value (.string s) (by unfold execOp; go_simp) ⟨_, p9, rfl, rfl, Apt.refl _ _, hrx, Nat.le_refl _, by omega⟩
        | 8, ho =>
          obtain rfl := Option.some.inj ho
          have b4 : a.tmps[4]?.getD undef = .int .i64 (k : Int) := hf.2 4 (by kernel_rfl)
          exact wp_value (.int .i64 (k : Int)) (by unfold execOp; go_simp) ⟨_, p9, rfl, rfl, Apt.refl _ _, hrx, Nat.le_refl _, by omega⟩
        | 9, ho =>
          obtain rfl := Option.some.inj ho
          have e49 : a.tmps[49]?.getD undef = .int .i64 (k : Int) := hf.1 ⟨8, .data⟩ (by simp) rfl _ 49 rfl rfl
          have hwr : IntKind.i64.wrap ((k : Int) + 1) = (k : Int) + 1 := by rw [IntWalk.i64_in _ ⟨by omega, by omega⟩]
          exact wp_value (.int .i64 ((k : Int) + 1)) (by unfold execOp; go_simp) ⟨_, p9, rfl, rfl, Apt.refl _ _, hrx, Nat.le_refl _, by omega⟩
        | 10, ho =>
          obtain rfl := Option.some.inj ho
          have e48 : a.tmps[48]?.getD undef = .string s := hf.1 ⟨7, .data⟩ (by simp) rfl _ 48 rfl rfl
          have e50 : a.tmps[50]?.getD undef = .int .i64 ((k : Int) + 1) := hf.1 ⟨9, .data⟩ (by simp) rfl _ 50 rfl rfl
          have hqi : (k : Int) + 1 ≤ (s.size : Int) := by omega
          exact wp_value (.string (s.extract (k + 1) s.size)) (by unfold execOp; go_simp; intro hneg; exact absurd hneg (by omega)) ⟨_, p9, rfl, ⟨_, rfl, by rw [ByteArray.size_extract]; omega⟩, Apt.refl _ _, hrx, Nat.le_refl _, by omega⟩
        | 11, ho =>
          obtain rfl := Option.some.inj ho
          obtain ⟨u, e47, hu⟩ : ∃ u : ByteArray, a.tmps[47]?.getD undef = .string u ∧ u.size ≤ s.size + 1 := hf.1 ⟨6, .data⟩ (by simp) rfl _ 47 rfl rfl
          obtain ⟨u2, e51, hu2⟩ : ∃ u : ByteArray, a.tmps[51]?.getD undef = .string u ∧ u.size ≤ s.size := hf.1 ⟨10, .data⟩ (by simp) rfl _ 51 rfl rfl
          have hcat := run_string_add_sum (P := Tryz.prog) (w := wx) u u2 (by omega)
          exact wp_value (.string (u ++ u2)) (by unfold execOp; go_simp) ⟨_, p9, rfl, ⟨_, rfl, by rw [ByteArray.size_append]; omega⟩, Apt.refl _ _, hrx, Nat.le_refl _, by omega⟩
        | 12, ho =>
          obtain rfl := Option.some.inj ho
          obtain ⟨u, e52, hu⟩ : ∃ u : ByteArray, a.tmps[52]?.getD undef = .string u ∧ u.size ≤ s.size + s.size + 1 := hf.1 ⟨11, .data⟩ (by simp) rfl _ 52 rfl rfl
          exact wp_value (.string u) (by unfold execOp; go_simp) ⟨_, p9, rfl, ⟨_, rfl, hu⟩, Apt.refl _ _, hrx, Nat.le_refl _, by omega⟩
        | q + 13, ho => simp at ho
      case enB =>
        intro vs wx p9 hp8 hp9 hax hrx hall
        have hp6 : p9 ≤ p + 12000 := Nat.le_trans hp9 (by show _ + 400 * 13 ≤ _; omega)
        obtain ⟨u, hu, hus⟩ : ∃ u : ByteArray, vs 12 = .string u ∧ u.size ≤ s.size + s.size + 1 := hall 12 _ rfl
        have HA7 := Lib.hid (HA6.out.trans hax)
        have HR7 := Lib.hid hrx
        clear hax hrx hall HR6 HA6 hp8 hp9
        simp only [fill, Act.put, hu]
        go_simp
        go_wp2_with fail
        go_ret
        exact ⟨u, p9, rfl, by omega, HR7.out, hp6, HA7.out⟩
    · have HR := Lib.hid hr
      have b0 : (q == 0) = false := beq_false_of_ne h0
      have b1 : (q == 1) = false := beq_false_of_ne h1'
      have b2 : (q == 2) = false := beq_false_of_ne h2'
      clear hr hq0 hq1 h0 h1' h2'
      go_wp2_with fail
      go_ret
      exact ⟨s, p4 + 1, rfl, by omega, HR.out, by omega, HA.out⟩
end Go.Proofs.YtbccachkkflceaaGreatDoor.DrawGm

