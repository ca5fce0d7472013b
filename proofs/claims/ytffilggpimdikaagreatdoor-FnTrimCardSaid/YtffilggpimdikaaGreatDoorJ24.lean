/-
  Texts of one seat, joined: DrawP5, FreeP, DrawB5, HvM.
-/
import Derived.Test.YtffilggpimdikaaGreatDoorJ23
import Derived.Test.YtffilggpimdikaaGreatDoorJ4
import Derived.Test.YtffilggpimdikaaGreatDoorJ5
import Derived.Test.YtffilggpimdikaaGreatDoorJ1
import Derived.Test.YtffilggpimdikaaGreatDoorJ7
/-
  Protocols that are drawn: l5Draw, l5Some, l5Bad, l5Open, l5Side.
-/
namespace Go.Proofs.YtffilggpimdikaaGreatDoor.DrawP5
open Go.RowKit Go.Shelf Go.Proofs.YtffilggpimdikaaGreatDoor.Plain Go.Proofs.YtffilggpimdikaaGreatDoor.Tree Go.Proofs.YtffilggpimdikaaGreatDoor.Read Go.Proofs.YtffilggpimdikaaGreatDoor.Parts Go.Proofs.YtffilggpimdikaaGreatDoor.SetW Go.Proofs.YtffilggpimdikaaGreatDoor.Rd Go.Proofs.YtffilggpimdikaaGreatDoor.Rd2 Go.Proofs.YtffilggpimdikaaGreatDoor.Rd3 Go.Proofs.YtffilggpimdikaaGreatDoor.DrawT Go.Proofs.YtffilggpimdikaaGreatDoor.CutT Go.Proofs.YtffilggpimdikaaGreatDoor.SaidBal
set_option linter.unusedVariables false
set_option linter.unusedSimpArgs false

theorem cells_str (w : World) (T : TypeId) (xs : List ByteArray) (j : Nat) (hj : j < xs.length) : (w.alloc (.cells (xs.map fun x : ByteArray => Value.string x).toArray T)).cell? ⟨w.heap.size, j, none⟩ = some (.string xs[j]) :=
  (cell_of_row _ _ j _ _ _ (heap_alloc_new w _)).trans (by simp [hj])
/-- an element of a list of strings that is written there -/
theorem of_lit {lo : Nat} (g p : Nat) (hp : p < 1048576) (xs : List ByteArray) (h1 : 1 ≤ xs.length) (h8 : xs.length ≤ 1000) (c : Nat) (w : World) (h : Rdr lo w g p) :
    Calls Tryz.prog 105 #[.pointer (some ⟨g, 0, none⟩), .slice (some ⟨w.heap.size, 0, none⟩) xs.length c] (w.alloc (.cells (xs.map fun x : ByteArray => Value.string x).toArray 9)) fun e w' => ∃ x : ByteArray, e = .returned (.string x) ∧ x ∈ xs ∧ Rdr lo w' g (p + 1) ∧ Apt g w w' := by
  have hgl := h.lt
  have hb := (Below.refl w.heap.size w).alloc (Nat.le_refl _) (.cells (xs.map fun x : ByteArray => Value.string x).toArray 9)
  exact (of_any g p hp xs h1 h8 w.heap.size c (by omega) _ (h.later hb) (by simp) (fun j hj => cells_str w 9 xs j hj)).mono fun e w' h => by
    obtain ⟨x, h1, h2, h3, h4⟩ := h
    exact ⟨x, h1, h2, h3, (Apt.of_below hb).trans h4⟩
theorem num_lit {lo : Nat} (g p : Nat) (hp : p < 1048576) (xs : List Int) (h1 : 1 ≤ xs.length) (h8 : xs.length ≤ 1000) (c : Nat) (w : World) (h : Rdr lo w g p) :
    Calls Tryz.prog 61 #[.pointer (some ⟨g, 0, none⟩), .slice (some ⟨w.heap.size, 0, none⟩) xs.length c] (w.alloc (.cells (xs.map fun x : Int => Value.int .i64 x).toArray 3)) fun e w' => ∃ x : Int, e = .returned (.int .i64 x) ∧ x ∈ xs ∧ Rdr lo w' g (p + 1) ∧ Apt g w w' := by
  have hgl := h.lt
  have hb := (Below.refl w.heap.size w).alloc (Nat.le_refl _) (.cells (xs.map fun x : Int => Value.int .i64 x).toArray 3)
  exact (num_any g p hp xs h1 h8 w.heap.size c (by omega) _ (h.later hb) (by simp) (fun j hj => cells_lit w 3 xs j hj)).mono fun e w' h => by
    obtain ⟨x, h1, h2, h3, h4⟩ := h
    exact ⟨x, h1, h2, h3, (Apt.of_below hb).trans h4⟩

theorem ends_pow : ∀ t : T, ends t ≤ 2 ^ Tree.bits t
  | .leaf _ => Nat.le_refl _
  | .say _ _ z o => by
    have h1 := ends_pow z
    have h2 := ends_pow o
    have h3 : 2 ^ Tree.bits z ≤ 2 ^ max (Tree.bits z) (Tree.bits o) := Nat.pow_le_pow_right (by decide) (Nat.le_max_left _ _)
    have h4 : 2 ^ Tree.bits o ≤ 2 ^ max (Tree.bits z) (Tree.bits o) := Nat.pow_le_pow_right (by decide) (Nat.le_max_right _ _)
    show ends z + ends o ≤ 2 ^ (1 + max (Tree.bits z) (Tree.bits o))
    rw [Nat.pow_add]
    omega
theorem len_pow (t : T) (d : Nat) (h : Tree.bits t ≤ d) (hd : d ≤ 6) : (text t).length ≤ 253 := by
  have h1 := text_ends t
  have h2 := ends_pow t
  have h3 : 2 ^ Tree.bits t ≤ 2 ^ 6 := Nat.pow_le_pow_right (by decide) (by omega)
  have h4 : (2 : Nat) ^ 6 = 64 := by decide
  omega

/-- how many numbers are drawn at most for a protocol of a depth -/
def cost : Nat → Nat
  | 0 => 2
  | d + 1 => 6 + 2 * cost d
theorem cost_le : ∀ d : Fin 7, cost d.1 ≤ 600 := by decide

theorem bit_in (u : ByteArray) (h : u ∈ ([⟨#[48]⟩, ⟨#[49]⟩] : List ByteArray)) : ∃ b : Bool, u = str (text (.leaf b)) := by
  simp only [List.mem_cons, List.not_mem_nil, or_false] at h
  rcases h with rfl | rfl
  · exact ⟨false, rfl⟩
  · exact ⟨true, rfl⟩
theorem who_in (u : ByteArray) (h : u ∈ ([⟨#[65]⟩, ⟨#[66]⟩] : List ByteArray)) : ∃ a : Bool, u = str [whoB a] := by
  simp only [List.mem_cons, List.not_mem_nil, or_false] at h
  rcases h with rfl | rfl
  · exact ⟨true, rfl⟩
  · exact ⟨false, rfl⟩

/-- what a drawn protocol is -/
def Drawn (lo g p d : Nat) (w : World) (e : Ending) (w' : World) : Prop := ∃ (t : T) (p' : Nat), e = .returned (.string (str (text t))) ∧ wf t ∧ Tree.bits t ≤ d ∧ Rdr lo w' g p' ∧ p' ≤ p + cost d ∧ Apt g w w'

set_option maxHeartbeats 4000000 in
set_option maxRecDepth 100000 in
theorem draw_tree {lo : Nat} : ∀ (d : Nat), d ≤ 6 → ∀ (g p : Nat) (hp : p + cost d ≤ 1040000) (w : World) (h : Rdr lo w g p),
    Calls Tryz.prog 106 #[.pointer (some ⟨g, 0, none⟩), .int .i64 (d : Int)] w (Drawn lo g p d w) := by
  intro d
  induction d with
  | zero =>
    intro _ g p hp w h
    have hp2 : p + 2 ≤ 1040000 := hp
    have HN := Lib.hid (of_lit g p (by omega) [⟨#[48]⟩, ⟨#[49]⟩] (by decide) (by decide) 2 w h)
    clear h hp
    show Calls _ _ #[_, .int .i64 0] _ _
    go_enter Tryz.func106, Tryz.ntmps106
    go_wp2_with fail
    refine HN.out.mono ?_
    rintro e w2 ⟨u, rfl, hu, hr, ha⟩
    obtain ⟨b, rfl⟩ := bit_in u hu
    have HR := Lib.hid hr
    have HA := Lib.hid ha
    clear hr ha hu HN
    generalize hq : str (text (.leaf b)) = q
    have HQ := Lib.hid hq
    clear hq
    go_wp2_with fail
    go_ret
    exact ⟨.leaf b, p + 1, by rw [HQ.out]; rfl, trivial, Nat.le_refl _, HR.out, by show p + 1 ≤ p + 2; omega, HA.out⟩
  | succ d ih =>
    intro hd g p hp w h
    have hc : cost (d + 1) = 6 + 2 * cost d := rfl
    rw [hc] at hp
    have HP := Lib.hid (pick_r g p (by omega) 5 w h)
    have IH := Lib.hid (fun q (hq : q + cost d ≤ 1040000) W hW => ih (by omega) g q hq W hW)
    have hcd : ((d + 1 : Nat) : Int) - 1 = (d : Int) := by omega
    have hd1 : (0 : Int) < ((d + 1 : Nat) : Int) := by omega
    have hdw : ((d + 1 : Nat) : Int) ≤ 6 := by omega
    obtain ⟨D, hD⟩ : ∃ D : Int, ((d + 1 : Nat) : Int) = D := ⟨_, rfl⟩
    rw [hD] at hcd hd1 hdw
    have HCD := Lib.hid hcd
    show Calls _ _ #[_, .int .i64 ((d + 1 : Nat) : Int)] _ _
    rw [hD]
    clear h ih hc hcd hD
    go_enter Tryz.func106, Tryz.ntmps106
    go_wp2_with fail
    refine HP.out.mono ?_
    rintro e w1 ⟨x, rfl, ⟨hx0, hxm⟩, hx1, hr, ha⟩
    have HA := Lib.hid ha
    clear ha HP
    by_cases hx : x = 0
    · subst hx
      have HN := Lib.hid (of_lit g (p + 1) (by omega) [⟨#[48]⟩, ⟨#[49]⟩] (by decide) (by decide) 2 w1 hr)
      clear hr hx0 hxm hx1 IH
      go_wp2_with fail
      refine HN.out.mono ?_
      rintro e w2 ⟨u, rfl, hu, hr, ha⟩
      obtain ⟨b, rfl⟩ := bit_in u hu
      have HR := Lib.hid hr
      have HA2 := Lib.hid (HA.out.trans ha)
      clear hr ha hu HN HA
      generalize hq : str (text (.leaf b)) = q
      have HQ := Lib.hid hq
      clear hq
      go_wp2_with fail
      go_ret
      exact ⟨.leaf b, p + 1 + 1, by rw [HQ.out]; rfl, trivial, Nat.zero_le _, HR.out, by show _ ≤ p + (6 + 2 * cost d); omega, HA2.out⟩
    · have hxb : (x == 0) = false := beq_false_of_ne hx
      have hdd : decide (D ≤ 0) = false := decide_eq_false (by omega)
      have HN := Lib.hid (of_lit g (p + 1) (by omega) [⟨#[65]⟩, ⟨#[66]⟩] (by decide) (by decide) 2 w1 hr)
      clear hr
      go_wp2_with fail
      refine HN.out.mono ?_
      rintro e w2 ⟨u, rfl, hu, hr, ha⟩
      obtain ⟨a, rfl⟩ := who_in u hu
      have HA2 := Lib.hid (HA.out.trans ha)
      have HP2 := Lib.hid (pick_r g (p + 1 + 1) (by omega) 32 w2 hr)
      obtain ⟨q0, hq0⟩ : ∃ q0, str [whoB a] = q0 := ⟨_, rfl⟩
      have HQ0 := Lib.hid hq0
      rw [hq0]
      clear hr ha hu HN HA hx hx0 hxm hx1 hq0 hxb hdd
      go_wp2_with fail
      refine HP2.out.mono ?_
      rintro e w3 ⟨s, rfl, ⟨hs0, hsm⟩, hs1, hr, ha⟩
      have HA3 := Lib.hid (HA2.out.trans ha)
      have HP3 := Lib.hid (pick_r g (p + 1 + 1 + 1) (by omega) 8 w3 hr)
      have hs : 0 ≤ s ∧ s < 256 := by omega
      clear hr ha HP2 HA2 hs0 hsm hs1
      go_wp2_with fail
      refine HP3.out.mono ?_
      rintro e w4 ⟨y, rfl, ⟨hy0, hym⟩, hy1, hr, ha⟩
      have HA4 := Lib.hid (HA3.out.trans ha)
      clear ha HP3 HA3
      by_cases hy : y = 0
      · subst hy
        have HP4 := Lib.hid (pick_r g (p + 1 + 1 + 1 + 1) (by omega) 256 w4 hr)
        clear hr hs hy0 hym hy1
        go_wp2_with fail
        refine HP4.out.mono ?_
        rintro e w5 ⟨x5, rfl, ⟨hx50, hx5m⟩, hx51, hr, ha⟩
        have HAs := Lib.hid (HA4.out.trans ha)
        have hs : 0 ≤ x5 ∧ x5 < 256 := by omega
        clear ha HP4 HA4 hx50 hx5m hx51
        obtain ⟨S, rfl⟩ := Int.eq_ofNat_of_zero_le hs.1
        have hS : S < 256 := by omega
        have HZ := Lib.hid (IH.out (p + 1 + 1 + 1 + 1 + 1) (by omega) w5 hr)
        have hcd := HCD.out
        clear hr hs
        go_wp2_with fail
        refine HZ.out.mono ?_
        rintro e w8 ⟨z, p8, rfl, hwz, hbz, hr, hp8, ha⟩
        have HA8 := Lib.hid (HAs.out.trans ha)
        have HO := Lib.hid (IH.out p8 (by omega) w8 hr)
        have hlz := len_pow z d hbz (by omega)
        have HWZ := Lib.hid (And.intro hwz hbz)
        clear hr ha HZ HAs hwz hbz IH
        obtain ⟨qz, hqz⟩ : ∃ q, str (text z) = q := ⟨_, rfl⟩
        rw [hqz]
        have HQZ := Lib.hid hqz
        clear hqz
        go_wp2_with fail
        refine HO.out.mono ?_
        rintro e w9 ⟨o, p9, rfl, hwo, hbo, hr, hp9, ha⟩
        have HA9 := Lib.hid (HA8.out.trans ha)
        have hlo := len_pow o d hbo (by omega)
        have HNo := Lib.hid (said_node a S hS z o (by omega) (by omega) w9)
        rw [HQ0.out, HQZ.out] at HNo
        have HR9 := Lib.hid hr
        have HWO := Lib.hid (And.intro hwo hbo)
        clear hr ha HO HA8 hwo hbo
        obtain ⟨qo, hqo⟩ : ∃ q, str (text o) = q := ⟨_, rfl⟩
        rw [hqo] at HNo ⊢
        clear hqo
        obtain ⟨qr, hqr⟩ : ∃ q, str (text (.say a S z o)) = q := ⟨_, rfl⟩
        rw [hqr] at HNo
        have HQR := Lib.hid hqr
        clear hqr
        go_wp2_with fail
        refine HNo.out.mono ?_
        rintro e w10 ⟨rfl, hb10⟩
        have HR10 := Lib.hid (HR9.out.later hb10)
        have HA10 := Lib.hid (HA9.out.trans (Apt.of_below hb10))
        clear hb10 HR9 HA9 HNo
        go_wp2_with fail
        go_ret
        refine ⟨.say a S z o, p9, by rw [HQR.out]; rfl, ⟨hS, HWZ.out.1, HWO.out.1⟩, ?_, HR10.out, ?_, HA10.out⟩
        · have b1 := HWZ.out.2
          have b2 := HWO.out.2
          show 1 + max (Tree.bits z) (Tree.bits o) ≤ d + 1
          omega
        · show p9 ≤ p + (6 + 2 * cost d)
          omega
      · have HAs := HA4
        clear HA4 hy0 hym hy1
        obtain ⟨S, rfl⟩ := Int.eq_ofNat_of_zero_le hs.1
        have hS : S < 256 := by omega
        have HZ := Lib.hid (IH.out (p + 1 + 1 + 1 + 1) (by omega) w4 hr)
        have hcd := HCD.out
        clear hr hs
        go_wp2_with fail
        refine HZ.out.mono ?_
        rintro e w8 ⟨z, p8, rfl, hwz, hbz, hr, hp8, ha⟩
        have HA8 := Lib.hid (HAs.out.trans ha)
        have HO := Lib.hid (IH.out p8 (by omega) w8 hr)
        have hlz := len_pow z d hbz (by omega)
        have HWZ := Lib.hid (And.intro hwz hbz)
        clear hr ha HZ HAs hwz hbz IH
        obtain ⟨qz, hqz⟩ : ∃ q, str (text z) = q := ⟨_, rfl⟩
        rw [hqz]
        have HQZ := Lib.hid hqz
        clear hqz
        go_wp2_with fail
        refine HO.out.mono ?_
        rintro e w9 ⟨o, p9, rfl, hwo, hbo, hr, hp9, ha⟩
        have HA9 := Lib.hid (HA8.out.trans ha)
        have hlo := len_pow o d hbo (by omega)
        have HNo := Lib.hid (said_node a S hS z o (by omega) (by omega) w9)
        rw [HQ0.out, HQZ.out] at HNo
        have HR9 := Lib.hid hr
        have HWO := Lib.hid (And.intro hwo hbo)
        clear hr ha HO HA8 hwo hbo
        obtain ⟨qo, hqo⟩ : ∃ q, str (text o) = q := ⟨_, rfl⟩
        rw [hqo] at HNo ⊢
        clear hqo
        obtain ⟨qr, hqr⟩ : ∃ q, str (text (.say a S z o)) = q := ⟨_, rfl⟩
        rw [hqr] at HNo
        have HQR := Lib.hid hqr
        clear hqr
        go_wp2_with fail
        refine HNo.out.mono ?_
        rintro e w10 ⟨rfl, hb10⟩
        have HR10 := Lib.hid (HR9.out.later hb10)
        have HA10 := Lib.hid (HA9.out.trans (Apt.of_below hb10))
        clear hb10 HR9 HA9 HNo
        go_wp2_with fail
        go_ret
        refine ⟨.say a S z o, p9, by rw [HQR.out]; rfl, ⟨hS, HWZ.out.1, HWO.out.1⟩, ?_, HR10.out, ?_, HA10.out⟩
        · have b1 := HWZ.out.2
          have b2 := HWO.out.2
          show 1 + max (Tree.bits z) (Tree.bits o) ≤ d + 1
          omega
        · show p9 ≤ p + (6 + 2 * cost d)
          omega

set_option maxHeartbeats 1000000 in
theorem l5some_any {lo : Nat} (g p : Nat) (hp : p ≤ 1000000) (w : World) (h : Rdr lo w g p) :
    Calls Tryz.prog 86 #[.pointer (some ⟨g, 0, none⟩)] w fun e w' => ∃ (t : T) (p' : Nat), e = .returned (.string (str (text t))) ∧ wf t ∧ Tree.bits t ≤ 4 ∧ Rdr lo w' g p' ∧ p' ≤ p + 1000 ∧ Apt g w w' := by
  have HP := Lib.hid (pick_r g p (by omega) 4 w h)
  clear h
  go_enter Tryz.func86, Tryz.ntmps86
  go_wp2_with fail
  refine HP.out.mono ?_
  rintro e w1 ⟨x, rfl, ⟨hx0, hxm⟩, hx1, hr, ha⟩
  have HA := Lib.hid ha
  obtain ⟨k, rfl⟩ := Int.eq_ofNat_of_zero_le hx0
  have hk : k < 4 := by omega
  have e1 : (1 : Int) + (k : Int) = ((k + 1 : Nat) : Int) := by omega
  have hc : cost (k + 1) ≤ 600 := cost_le ⟨k + 1, by omega⟩
  have HT := Lib.hid (draw_tree (k + 1) (by omega) g (p + 1) (by omega) w1 hr)
  obtain ⟨D, hD⟩ : ∃ D : Int, ((k + 1 : Nat) : Int) = D := ⟨_, rfl⟩
  rw [hD] at e1 HT
  clear hr ha HP hx0 hxm hx1 hD
  go_wp2_with fail
  refine HT.out.mono ?_
  rintro e w2 ⟨t, p2, rfl, hw, hb, hr, hp2, ha⟩
  have HA2 := Lib.hid (HA.out.trans ha)
  have HR := Lib.hid hr
  have HW := Lib.hid (And.intro hw hb)
  clear hr ha HA HT hw hb
  obtain ⟨q, hq⟩ : ∃ q, str (text t) = q := ⟨_, rfl⟩
  rw [hq]
  have HQ := Lib.hid hq
  clear hq
  go_wp2_with fail
  go_ret
  exact ⟨t, p2, by rw [HQ.out]; rfl, HW.out.1, by have := HW.out.2; omega, HR.out, by omega, HA2.out⟩

set_option maxHeartbeats 1000000 in
theorem side5_any {lo : Nat} (g p : Nat) (hp : p < 1040000) (w : World) (h : Rdr lo w g p) :
    Calls Tryz.prog 79 #[.pointer (some ⟨g, 0, none⟩)] w fun e w' => ∃ y : Int, e = .returned (.int .i64 y) ∧ -1 ≤ y ∧ y ≤ 9223372036854775807 ∧ Rdr lo w' g (p + 2) ∧ Apt g w w' := by
  have HP := Lib.hid (pick_r g p (by omega) 16 w h)
  clear h
  go_enter Tryz.func79, Tryz.ntmps79
  go_wp2_with fail
  refine HP.out.mono ?_
  rintro e w1 ⟨x, rfl, ⟨hx0, hxm⟩, hx1, hr, ha⟩
  have HA := Lib.hid ha
  by_cases hx : x = 0
  · subst hx
    have HN := Lib.hid (num_lit g (p + 1) (by omega) [0, -1, 9, 8, 9223372036854775807] (by decide) (by decide) 5 w1 hr)
    clear hr ha hx0 hx1 HP hxm
    go_wp2_with fail
    refine HN.out.mono ?_
    rintro e w2 ⟨y, rfl, hy, hr3, ha3⟩
    have HR3 := Lib.hid hr3
    have HA3 := Lib.hid (HA.out.trans ha3)
    clear hr3 ha3 HN
    go_wp2_with fail
    go_ret
    refine ⟨y, rfl, ?_, ?_, HR3.out, HA3.out⟩
    all_goals simp at hy; omega
  · have HQ := Lib.hid (pick_r g (p + 1) (by omega) 5 w1 hr)
    clear hr ha HP
    go_wp2_with fail
    refine HQ.out.mono ?_
    rintro e w2 ⟨y, rfl, ⟨hy0, hym⟩, hy1, hr3, ha3⟩
    have HR3 := Lib.hid hr3
    have HA3 := Lib.hid (HA.out.trans ha3)
    clear hr3 ha3 HQ
    go_wp2_with fail
    go_ret
    exact ⟨1 + y, rfl, by omega, by omega, HR3.out, HA3.out⟩
end Go.Proofs.YtffilggpimdikaaGreatDoor.DrawP5

/-
  The law at a region that draws its order and whose operations read through one reader, as often as they like: what they yield is told by a relation
  that stays true while other blocks lie as they lay. The order of the reads does not matter: of each number only its bounds are told.
-/
namespace Go.Proofs.YtffilggpimdikaaGreatDoor.FreeP
open Go Go.RowKit Go.Proofs.YtffilggpimdikaaGreatDoor.Free Go.Proofs.YtffilggpimdikaaGreatDoor.FreeL Go.Proofs.YtffilggpimdikaaGreatDoor.Rd Go.Proofs.YtffilggpimdikaaGreatDoor.Rd2
set_option linter.unusedVariables false

/-- how many have come up -/
def cnt (l : Nat → Bool) : Nat → Nat
  | 0 => 0
  | n + 1 => cnt l n + (l n).toNat
theorem cnt_le (l : Nat → Bool) : ∀ n, cnt l n ≤ n
  | 0 => Nat.le_refl _
  | n + 1 => by
    have := cnt_le l n
    rw [cnt]
    cases l n <;> simp <;> omega
theorem cnt_none (l : Nat → Bool) (h : ∀ i, l i = false) : ∀ n, cnt l n = 0
  | 0 => rfl
  | n + 1 => by rw [cnt, cnt_none l h n, h n]; rfl
theorem cnt_high (l : Nat → Bool) (i : Nat) : ∀ n, n ≤ i → cnt (fun j => if j = i then true else l j) n = cnt l n
  | 0, _ => rfl
  | n + 1, h => by
    rw [cnt, cnt, cnt_high l i n (by omega)]
    rw [if_neg (by omega)]
theorem cnt_set (l : Nat → Bool) (i : Nat) (hl : l i = false) : ∀ n, i < n → cnt (fun j => if j = i then true else l j) n = cnt l n + 1
  | 0, h => absurd h (by omega)
  | n + 1, h => by
    rw [cnt, cnt]
    by_cases e : n = i
    · subst e
      rw [cnt_high l n n (Nat.le_refl _), if_pos rfl, hl]
      rfl
    · rw [cnt_set l i hl n (by omega), if_neg e]
      omega
set_option maxRecDepth 20000 in
theorem count_up {p0 p p' c : Nat} (h2 : p ≤ p0 + 400 * c) (h4 : p' ≤ p + 400) : p' ≤ p0 + 400 * (c + 1) := by omega
set_option maxRecDepth 20000 in
theorem count_to {p0 p c n : Nat} (h2 : p ≤ p0 + 400 * c) (h4 : c ≤ n) : p ≤ p0 + 400 * n := by omega
theorem wp_enterP {P : Program} {o : Oper} {a : Act} {w : World} {K : Act → World → Prop} {Q : Exit → Act → World → Prop} (f : FuncId) (args : Array Value) (R : Value → World → Prop) (h : (execOp a.eval o).run P w = .ok (.enter f args) w)
    (hc : Calls P f args w fun e w' => ∃ v, e = .returned v ∧ R v w') (hK : ∀ v w', R v w' → K (a.put o.dst v) w') : o.wp P a w K Q := by
  unfold Oper.wp
  rw [h]
  refine Calls.mono hc ?_
  rintro e w' ⟨v, rfl, hR⟩
  exact hK v w' hR

section
variable {P : Program} {ops : Array Oper}
/-- what an operation may know of the slots -/
def FactsP (ops : Array Oper) (a0 : Act) (R : Nat → Value → World → Prop) (o : Oper) (a : Act) (w : World) : Prop :=
  (∀ e ∈ o.after, Region.binds .any e = true → ∀ (oj : Oper) (dj : Tmp), ops[e.on]? = some oj → oj.dst = some dj → R e.on (a.tmps[dj]?.getD undef) w) ∧
  (∀ k, (ops.toList.all fun o => o.dst != some k) = true → a.tmps[k]?.getD undef = a0.tmps[k]?.getD undef)

/-- THE LAW -/
theorem wp_region_draws {lo : Nat} {id n : Nat} {a0 : Act} {w0 : World} {Q : Exit → Act → World → Prop} (g p0 : Nat) (R : Nat → Value → World → Prop) (hR : ∀ (i : Nat) (v : Value) (w w' : World), Apt g w w' → R i v w → R i v w')
    (hm : P.follows .mixedOrders = true) (hB : freeB ops n = true) (hn : a0.tmps.size = n) (h0 : Rdr lo w0 g p0)
    (hcon : ∀ (i : Nat) (o : Oper), ops[i]? = some o → ∀ (a : Act) (w : World) (p : Nat), p0 ≤ p → p ≤ p0 + 400 * ops.size → Apt g w0 w → Rdr lo w g p → FactsP ops a0 R o a w →
      o.wp P a w (fun a' w' => ∃ v p', a' = a.put o.dst v ∧ R i v w' ∧ Apt g w w' ∧ Rdr lo w' g p' ∧ p ≤ p' ∧ p' ≤ p + 400) Q)
    (hend : ∀ (vs : Nat → Value) (w : World) (p : Nat), p0 ≤ p → p ≤ p0 + 400 * ops.size → Apt g w0 w → Rdr lo w g p → (∀ (i : Nat) (o : Oper), ops[i]? = some o → R i (vs i) w) → Q .normal (fill ops.toList vs 0 a0) w) :
    (Code.region id ops true).wp P Q a0 w0 := by
  refine wp_region_freeL (Y := fun i v a w => R i v w) (S := fun l w => Apt g w0 w ∧ ∃ p, Rdr lo w g p ∧ p0 ≤ p ∧ p ≤ p0 + 400 * cnt l ops.size) hm hB hn
    ⟨(Apt.refl g w0).drew, p0, h0.later (drawn_at w0 1), Nat.le_refl _, by omega⟩ ?_ ?_
  · intro i o ho listed a w hM hu hdp
    have hi : i < ops.size := (Array.getElem?_eq_some_iff.1 ho).1
    obtain ⟨ha, p, hr, hp1, hp2⟩ := hM.world
    have hc := cnt_set (fun j => listed.getD j false) i hu ops.size hi
    have hl := cnt_le (fun j => listed.getD j false) ops.size
    have hf : FactsP ops a0 R o a w := by
      refine ⟨fun e he hb oj dj hoj hdj => ?_, fun k hk => ?_⟩
      · obtain ⟨v, hv, hvd⟩ := hM.new e.on oj hoj (hdp e he hb)
        rw [hvd dj hdj]
        exact hv
      · rw [hM.old k fun i o' ho' hd' => ?_]
        have := List.all_eq_true.1 hk o' (by simpa using Array.mem_of_getElem? ho')
        simp [hd'] at this
    have hp3 : p ≤ p0 + 400 * ops.size := count_to hp2 hl
    refine Oper.wp_mono ?_ (hcon i o ho a w p hp1 hp3 ha hr hf)
    rintro a' w' ⟨v, p', rfl, hRv, ha', hr', h3, h4⟩
    have h5 : p' ≤ p0 + 400 * cnt (fun j => if j = i then true else listed.getD j false) ops.size := by
      rw [hc]
      exact count_up hp2 h4
    exact ⟨v, rfl, hRv, ⟨ha.trans ha', p', hr', Nat.le_trans hp1 h3, h5⟩, fun j u _ _ hY => hR j u w w' ha' hY⟩
  · intro vs w hS hall
    obtain ⟨ha, p, hr, hp1, hp2⟩ := hS
    have hl := cnt_le (fun i => decide (i < ops.size)) ops.size
    exact hend vs w p hp1 (count_to hp2 hl) ha hr hall
end
end Go.Proofs.YtffilggpimdikaaGreatDoor.FreeP

/-
  Texts that are sometimes no protocol: l5Bad, l5Open; the drawing function DrawMatrixOf.
-/
namespace Go.Proofs.YtffilggpimdikaaGreatDoor.DrawB5
open Go.RowKit Go.Shelf Go.Proofs.YtffilggpimdikaaGreatDoor.Plain Go.Proofs.YtffilggpimdikaaGreatDoor.Tree Go.Proofs.YtffilggpimdikaaGreatDoor.Rd Go.Proofs.YtffilggpimdikaaGreatDoor.Rd2 Go.Proofs.YtffilggpimdikaaGreatDoor.Rd3 Go.Proofs.YtffilggpimdikaaGreatDoor.DrawT Go.Proofs.YtffilggpimdikaaGreatDoor.DrawP5 Go.Proofs.YtffilggpimdikaaGreatDoor.FreeP
open Go.Proofs.YtffilggpimdikaaGreatDoor.Free (fill wp_value freeB)
open Go.Proofs.YtffilggpimdikaaGreatDoor.FreeP (wp_enterP)
open Go.Proofs.YtffilggpimdikaaGreatDoor.CutT (text_ends)
set_option linter.unusedVariables false
set_option linter.unusedSimpArgs false

theorem one_le (u : ByteArray) (h : u ∈ ([⟨#[97]⟩, ⟨#[70]⟩, ⟨#[65]⟩, ⟨#[50]⟩] : List ByteArray)) : u.size ≤ 1 := by
  simp only [List.mem_cons, List.not_mem_nil, or_false] at h
  rcases h with rfl | rfl | rfl | rfl <;> decide
theorem tri_le (u : ByteArray) (h : u ∈ ([⟨#[48]⟩, ⟨#[65]⟩, ⟨#[32]⟩] : List ByteArray)) : u.size ≤ 1 := by
  simp only [List.mem_cons, List.not_mem_nil, or_false] at h
  rcases h with rfl | rfl | rfl <;> decide
theorem wp_made {P : Program} {o : Oper} {a : Act} {w : World} {K : Act → World → Prop} {Q : Exit → Act → World → Prop} (w' : World) (v : Value) (h : (execOp a.eval o).run P w = .ok (.value v) w') (hK : K (a.put o.dst v) w') : o.wp P a w K Q := by
  unfold Oper.wp
  rw [h]
  exact hK
/-- what each operation yields -/
def YB (g : Nat) (s : ByteArray) (k : Nat) : Nat → Value → World → Prop
  | 0, v, _ => v = .string s
  | 1, v, _ => v = .int .i64 (k : Int)
  | 2, v, _ => v = .string (s.extract 0 k)
  | 3, v, _ => v = .pointer (some ⟨g, 0, none⟩)
  | 4, v, w => ∃ b, v = .slice (some ⟨b, 0, none⟩) 4 4 ∧ b ≠ g ∧ b < w.heap.size ∧ ∀ j (hj : j < ([⟨#[97]⟩, ⟨#[70]⟩, ⟨#[65]⟩, ⟨#[50]⟩] : List ByteArray).length), w.cell? ⟨b, j, none⟩ = some (.string ([⟨#[97]⟩, ⟨#[70]⟩, ⟨#[65]⟩, ⟨#[50]⟩] : List ByteArray)[j])
  | 5, v, _ => ∃ u : ByteArray, v = .string u ∧ u.size ≤ 1
  | 6, v, _ => ∃ u : ByteArray, v = .string u ∧ u.size ≤ s.size + 1
  | 7, v, _ => v = .string s
  | 8, v, _ => v = .int .i64 (k : Int)
  | 9, v, _ => v = .int .i64 ((k : Int) + 1)
  | 10, v, _ => ∃ u : ByteArray, v = .string u ∧ u.size ≤ s.size
  | 11, v, _ => ∃ u : ByteArray, v = .string u ∧ u.size ≤ s.size + s.size + 1
  | 12, v, _ => ∃ u : ByteArray, v = .string u ∧ u.size ≤ s.size + s.size + 1
  | _, _, _ => True
theorem YB.on (g : Nat) (s : ByteArray) (k : Nat) (i : Nat) (v : Value) (w w' : World) (ha : Apt g w w') (h : YB g s k i v w) : YB g s k i v w' := by
  match i, h with
  | 4, h =>
    obtain ⟨b, rfl, hg, hb, hc⟩ := h
    exact ⟨b, rfl, hg, Nat.lt_of_lt_of_le hb ha.size, fun j hj => (ha.cell (p := ⟨b, j, none⟩) hb hg).trans (hc j hj)⟩
  | 0, h | 1, h | 2, h | 3, h | 5, h | 6, h | 7, h | 8, h | 9, h | 10, h | 11, h | 12, h => exact h
  | n + 13, _ => trivial

/-- a text, whatever it is -/
def Any (lo g p : Nat) (w : World) (e : Ending) (w' : World) : Prop := ∃ (s : ByteArray) (p' : Nat), e = .returned (.string s) ∧ s.size ≤ 1000 ∧ Rdr lo w' g p' ∧ p' ≤ p + 8000 ∧ Apt g w w'

set_option maxHeartbeats 4000000 in
set_option maxRecDepth 100000 in
theorem bad_any {lo : Nat} (g p : Nat) (hp : p ≤ 100000) (s : ByteArray) (hs1 : 1 ≤ s.size) (hs2 : s.size ≤ 300) (w : World) (h : Rdr lo w g p) :
    Calls Tryz.prog 85 #[.pointer (some ⟨g, 0, none⟩), .string s] w (Any lo g p w) := by
  have HP := Lib.hid (pick_r g p (by omega) 30 w h)
  clear h
  go_enter Tryz.func85, Tryz.ntmps85
  go_wp2_with fail
  refine HP.out.mono ?_
  rintro e w1 ⟨q, rfl, ⟨hq0, -⟩, hq1, hr, ha⟩
  have HA := Lib.hid ha
  clear ha HP
  by_cases h0 : q = 0
  · subst h0
    have HN := Lib.hid (of_lit g (p + 1) (by omega) [⟨#[48]⟩, ⟨#[65]⟩, ⟨#[32]⟩] (by decide) (by decide) 3 w1 hr)
    clear hr hq0 hq1
    go_wp2_with fail
    refine HN.out.mono ?_
    rintro e w2 ⟨u, rfl, hu, hr, ha⟩
    have hu1 := tri_le u hu
    have HR := Lib.hid hr
    have HA2 := Lib.hid (HA.out.trans ha)
    have hcat := fun W => run_string_add_sum (P := Tryz.prog) (w := W) s u (by omega)
    clear hr ha hu HN HA
    go_wp2_with fail
    go_ret
    exact ⟨_, p + 1 + 1, rfl, by rw [ByteArray.size_append]; omega, HR.out, by omega, HA2.out⟩
  by_cases h1 : q = 1
  · subst h1
    have HR := Lib.hid hr
    have hle : (s.size : Int) - 1 ≤ (s.size : Int) := by omega
    have hpos : (0 : Int) ≤ (s.size : Int) - 1 := by omega
    clear hr hq0 hq1 h0
    go_wp2_with fail
    go_ret
    exact ⟨_, p + 1, rfl, by rw [ByteArray.size_extract]; omega, HR.out, by omega, HA.out⟩
  by_cases h2 : q = 2
  · subst h2
    have HQ := Lib.hid (pick_r g (p + 1) (by omega) (s.size : Int) w1 hr)
    clear hr hq0 hq1 h0 h1
    go_wp2_with fail
    refine HQ.out.mono ?_
    rintro e w6 ⟨k, rfl, ⟨hk0, -⟩, hk1, hr, hap⟩
    have HA6 := Lib.hid (HA.out.trans hap)
    obtain ⟨k, rfl⟩ := Int.eq_ofNat_of_zero_le hk0
    have hk : k < s.size := by omega
    have HR6 := Lib.hid hr
    clear hr hap HQ HA hk0 hk1
    go_wp2_with fail
    refine wp_region_draws g (p + 1 + 1) (YB g s k) (YB.on g s k) (by kernel_rfl) (by kernel_rfl) rfl HR6.out ?con ?en
    case con =>
      intro i o ho a wx p9 hp3 hp4 hax hrx hf
      have hp5 : p9 ≤ 120000 := Nat.le_trans hp4 (by show _ + 400 * 13 ≤ _; omega)
      match i, ho with
      | 0, ho =>
        obtain rfl := Option.some.inj ho
        have b1 : a.tmps[1]?.getD undef = .string s := hf.2 1 (by kernel_rfl)
        exact wp_value (.string s) (by unfold execOp; go_simp) ⟨_, p9, rfl, rfl, Apt.refl _ _, hrx, Nat.le_refl _, by omega⟩
      | 1, ho =>
        obtain rfl := Option.some.inj ho
        have b5 : a.tmps[5]?.getD undef = .int .i64 (k : Int) := hf.2 5 (by kernel_rfl)
        exact wp_value (.int .i64 (k : Int)) (by unfold execOp; go_simp) ⟨_, p9, rfl, rfl, Apt.refl _ _, hrx, Nat.le_refl _, by omega⟩
      | 2, ho =>
        obtain rfl := Option.some.inj ho
        have e28 : a.tmps[28]?.getD undef = .string s := hf.1 ⟨0, .data⟩ (by simp) rfl _ 28 rfl rfl
        have e29 : a.tmps[29]?.getD undef = .int .i64 (k : Int) := hf.1 ⟨1, .data⟩ (by simp) rfl _ 29 rfl rfl
        have hki : (k : Int) ≤ (s.size : Int) := by omega
        exact wp_value (.string (s.extract 0 k)) (by unfold execOp; go_simp) ⟨_, p9, rfl, rfl, Apt.refl _ _, hrx, Nat.le_refl _, by omega⟩
      | 3, ho =>
        obtain rfl := Option.some.inj ho
        have b0 : a.tmps[0]?.getD undef = .pointer (some ⟨g, 0, none⟩) := hf.2 0 (by kernel_rfl)
        exact wp_value (.pointer (some ⟨g, 0, none⟩)) (by unfold execOp; go_simp) ⟨_, p9, rfl, rfl, Apt.refl _ _, hrx, Nat.le_refl _, by omega⟩
      | 4, ho =>
        obtain rfl := Option.some.inj ho
        have hgl := hrx.lt
        have hb := (Below.refl wx.heap.size wx).alloc (Nat.le_refl _) (.cells (([⟨#[97]⟩, ⟨#[70]⟩, ⟨#[65]⟩, ⟨#[50]⟩] : List ByteArray).map fun x : ByteArray => Value.string x).toArray 9)
        refine wp_made (wx.alloc (.cells (([⟨#[97]⟩, ⟨#[70]⟩, ⟨#[65]⟩, ⟨#[50]⟩] : List ByteArray).map fun x : ByteArray => Value.string x).toArray 9)) (.slice (some ⟨wx.heap.size, 0, none⟩) 4 4) ?_ ⟨_, p9, rfl, ⟨wx.heap.size, rfl, by omega, by simp, fun j hj => cells_str wx 9 ([⟨#[97]⟩, ⟨#[70]⟩, ⟨#[65]⟩, ⟨#[50]⟩] : List ByteArray) j hj⟩, Apt.of_below hb, hrx.later hb, Nat.le_refl _, by omega⟩
        unfold execOp
        go_simp
      | 5, ho =>
        obtain rfl := Option.some.inj ho
        have e31 : a.tmps[31]?.getD undef = .pointer (some ⟨g, 0, none⟩) := hf.1 ⟨3, .data⟩ (by simp) rfl _ 31 rfl rfl
        obtain ⟨b, e32, hbg, hbl, hbc⟩ : ∃ b, a.tmps[32]?.getD undef = .slice (some ⟨b, 0, none⟩) 4 4 ∧ b ≠ g ∧ b < wx.heap.size ∧ ∀ j (hj : j < ([⟨#[97]⟩, ⟨#[70]⟩, ⟨#[65]⟩, ⟨#[50]⟩] : List ByteArray).length), wx.cell? ⟨b, j, none⟩ = some (.string ([⟨#[97]⟩, ⟨#[70]⟩, ⟨#[65]⟩, ⟨#[50]⟩] : List ByteArray)[j]) := hf.1 ⟨4, .data⟩ (by simp) rfl _ 32 rfl rfl
        exact wp_enterP 105 #[.pointer (some ⟨g, 0, none⟩), .slice (some ⟨b, 0, none⟩) 4 4] (fun v w' => (∃ u : ByteArray, v = .string u ∧ u.size ≤ 1) ∧ Rdr lo w' g (p9 + 1) ∧ Apt g wx w') (by unfold execOp; go_simp)
          ((of_any g p9 (by omega) ([⟨#[97]⟩, ⟨#[70]⟩, ⟨#[65]⟩, ⟨#[50]⟩] : List ByteArray) (by decide) (by decide) b 4 hbg wx hrx hbl hbc).mono fun e w' h => by obtain ⟨x, he, hx, hr, ha⟩ := h; exact ⟨_, he, ⟨x, rfl, one_le x hx⟩, hr, ha⟩)
          (fun v w' h => ⟨v, p9 + 1, rfl, h.1, h.2.2, h.2.1, by omega, by omega⟩)
      | 6, ho =>
        obtain rfl := Option.some.inj ho
        have e30 : a.tmps[30]?.getD undef = .string (s.extract 0 k) := hf.1 ⟨2, .data⟩ (by simp) rfl _ 30 rfl rfl
        obtain ⟨u, e33, hu⟩ : ∃ u : ByteArray, a.tmps[33]?.getD undef = .string u ∧ u.size ≤ 1 := hf.1 ⟨5, .data⟩ (by simp) rfl _ 33 rfl rfl
        have hex : (s.extract 0 k).size ≤ s.size := by rw [ByteArray.size_extract]; omega
        have hcat := run_string_add_sum (P := Tryz.prog) (w := wx) (s.extract 0 k) u (by omega)
        exact wp_value (.string (s.extract 0 k ++ u)) (by unfold execOp; go_simp) ⟨_, p9, rfl, ⟨_, rfl, by rw [ByteArray.size_append]; omega⟩, Apt.refl _ _, hrx, Nat.le_refl _, by omega⟩
      | 7, ho =>
        obtain rfl := Option.some.inj ho
        have b1 : a.tmps[1]?.getD undef = .string s := hf.2 1 (by kernel_rfl)
        exact wp_value (.string s) (by unfold execOp; go_simp) ⟨_, p9, rfl, rfl, Apt.refl _ _, hrx, Nat.le_refl _, by omega⟩
      | 8, ho =>
        obtain rfl := Option.some.inj ho
        have b5 : a.tmps[5]?.getD undef = .int .i64 (k : Int) := hf.2 5 (by kernel_rfl)
        exact wp_value (.int .i64 (k : Int)) (by unfold execOp; go_simp) ⟨_, p9, rfl, rfl, Apt.refl _ _, hrx, Nat.le_refl _, by omega⟩
      | 9, ho =>
        obtain rfl := Option.some.inj ho
        have e36 : a.tmps[36]?.getD undef = .int .i64 (k : Int) := hf.1 ⟨8, .data⟩ (by simp) rfl _ 36 rfl rfl
        have hwr : IntKind.i64.wrap ((k : Int) + 1) = (k : Int) + 1 := by rw [IntWalk.i64_in _ ⟨by omega, by omega⟩]
        exact wp_value (.int .i64 ((k : Int) + 1)) (by unfold execOp; go_simp) ⟨_, p9, rfl, rfl, Apt.refl _ _, hrx, Nat.le_refl _, by omega⟩
      | 10, ho =>
        obtain rfl := Option.some.inj ho
        have e35 : a.tmps[35]?.getD undef = .string s := hf.1 ⟨7, .data⟩ (by simp) rfl _ 35 rfl rfl
        have e37 : a.tmps[37]?.getD undef = .int .i64 ((k : Int) + 1) := hf.1 ⟨9, .data⟩ (by simp) rfl _ 37 rfl rfl
        have hqi : (k : Int) + 1 ≤ (s.size : Int) := by omega
        exact wp_value (.string (s.extract (k + 1) s.size)) (by unfold execOp; go_simp; intro hneg; exact absurd hneg (by omega)) ⟨_, p9, rfl, ⟨_, rfl, by rw [ByteArray.size_extract]; omega⟩, Apt.refl _ _, hrx, Nat.le_refl _, by omega⟩
      | 11, ho =>
        obtain rfl := Option.some.inj ho
        obtain ⟨u, e34, hu⟩ : ∃ u : ByteArray, a.tmps[34]?.getD undef = .string u ∧ u.size ≤ s.size + 1 := hf.1 ⟨6, .data⟩ (by simp) rfl _ 34 rfl rfl
        obtain ⟨u2, e38, hu2⟩ : ∃ u : ByteArray, a.tmps[38]?.getD undef = .string u ∧ u.size ≤ s.size := hf.1 ⟨10, .data⟩ (by simp) rfl _ 38 rfl rfl
        have hcat := run_string_add_sum (P := Tryz.prog) (w := wx) u u2 (by omega)
        exact wp_value (.string (u ++ u2)) (by unfold execOp; go_simp) ⟨_, p9, rfl, ⟨_, rfl, by rw [ByteArray.size_append]; omega⟩, Apt.refl _ _, hrx, Nat.le_refl _, by omega⟩
      | 12, ho =>
        obtain rfl := Option.some.inj ho
        obtain ⟨u, e39, hu⟩ : ∃ u : ByteArray, a.tmps[39]?.getD undef = .string u ∧ u.size ≤ s.size + s.size + 1 := hf.1 ⟨11, .data⟩ (by simp) rfl _ 39 rfl rfl
        exact wp_value (.string u) (by unfold execOp; go_simp) ⟨_, p9, rfl, ⟨_, rfl, hu⟩, Apt.refl _ _, hrx, Nat.le_refl _, by omega⟩
      | q + 13, ho => simp at ho
    case en =>
      intro vs wx p9 hp3 hp4 hax hrx hall
      have hp6 : p9 ≤ p + 8000 := Nat.le_trans hp4 (by show _ + 400 * 13 ≤ _; omega)
      obtain ⟨u, hu, hus⟩ : ∃ u : ByteArray, vs 12 = .string u ∧ u.size ≤ s.size + s.size + 1 := hall 12 _ rfl
      have HA7 := Lib.hid (HA6.out.trans hax)
      have HR7 := Lib.hid hrx
      clear hax hrx hall HR6 HA6 hp3 hp4
      simp only [fill, Act.put, hu]
      go_simp
      go_wp2_with fail
      go_ret
      exact ⟨u, p9, rfl, by omega, HR7.out, hp6, HA7.out⟩
  · have HR := Lib.hid hr
    have b0 : (q == 0) = false := beq_false_of_ne h0
    have b1 : (q == 1) = false := beq_false_of_ne h1
    have b2 : (q == 2) = false := beq_false_of_ne h2
    clear hr hq0 hq1 h0 h1 h2
    go_wp2_with fail
    go_ret
    exact ⟨s, p + 1, rfl, by omega, HR.out, by omega, HA.out⟩

set_option maxHeartbeats 1000000 in
theorem open5_any {lo : Nat} (g p : Nat) (hp : p ≤ 50000) (w : World) (h : Rdr lo w g p) :
    Calls Tryz.prog 51 #[.pointer (some ⟨g, 0, none⟩)] w fun e w' => ∃ (s : ByteArray) (p' : Nat), e = .returned (.string s) ∧ s.size ≤ 1000 ∧ Rdr lo w' g p' ∧ p' ≤ p + 9000 ∧ Apt g w w' := by
  have HS := Lib.hid (l5some_any g p (by omega) w h)
  clear h
  go_enter Tryz.func51, Tryz.ntmps51
  go_wp2_with fail
  refine HS.out.mono ?_
  rintro e w1 ⟨t, p1, rfl, hw, hb, hr, hp1, ha⟩
  have hl := len_pow t 4 hb (by omega)
  have hl1 := text_pos t
  have HA := Lib.hid ha
  have HB := Lib.hid (bad_any g p1 (by omega) (str (text t)) (by rw [str_size]; omega) (by rw [str_size]; omega) w1 hr)
  clear hr ha HS hw hb hl hl1
  generalize str (text t) = q at *
  go_wp2_with fail
  refine HB.out.mono ?_
  rintro e w2 ⟨s, p2, rfl, hs, hr, hp2, ha⟩
  have HA2 := Lib.hid (HA.out.trans ha)
  have HR := Lib.hid hr
  clear hr ha HB HA
  go_wp2_with fail
  go_ret
  exact ⟨s, p2, rfl, hs, HR.out, by omega, HA2.out⟩

set_option maxHeartbeats 1000000 in
/-- the arguments of MatrixOf: any text that is not too long, and any numbers -/
theorem draw_mat5 (v : Value) (n : Nat) (w : World) (h : ByteArg w v n) :
    Calls Tryz.prog 41 #[v] w fun e w' => ∃ (s : ByteArray) (r c : Int), e = .returned (.tuple #[.string s, .int .i64 r, .int .i64 c]) ∧ s.size ≤ 1000 ∧ (-1 ≤ r ∧ r ≤ 9223372036854775807) ∧ (-1 ≤ c ∧ c ≤ 9223372036854775807) ∧ Below w.heap.size w w' := by
  have HO := Lib.hid (open_any v n w h)
  clear h
  go_enter Tryz.func41, Tryz.ntmps41
  go_wp2_with fail
  refine HO.out.mono ?_
  rintro e w1 ⟨g, rfl, hr, hb, hg⟩
  have HB := Lib.hid hb
  have HS := Lib.hid (open5_any g 0 (by omega) w1 hr)
  clear hr hb HO
  go_wp2_with fail
  refine HS.out.mono ?_
  rintro e w2 ⟨s, p2, rfl, hs, hr, hp2, ha⟩
  have HB2 : Hid (Below w.heap.size w w2) := ha.below HB.out (by omega)
  have H1 := Lib.hid (side5_any g p2 (by omega) w2 hr)
  clear hr ha HS HB
  go_wp2_with fail
  refine H1.out.mono ?_
  rintro e w3 ⟨r, rfl, hr1, hr2, hr, ha⟩
  have HB3 : Hid (Below w.heap.size w w3) := ha.below HB2.out (by omega)
  have H2 := Lib.hid (side5_any g (p2 + 2) (by omega) w3 hr)
  clear hr ha H1 HB2
  go_wp2_with fail
  refine H2.out.mono ?_
  rintro e w4 ⟨c, rfl, hc1, hc2, hr, ha⟩
  have HB4 : Hid (Below w.heap.size w w4) := ha.below HB3.out (by omega)
  clear hr ha H2 HB3
  go_wp2_with fail
  go_returns
  exact ⟨s, r, c, rfl, hs, ⟨hr1, hr2⟩, ⟨hc1, hc2⟩, HB4.out⟩
end Go.Proofs.YtffilggpimdikaaGreatDoor.DrawB5

/-
  The ends within the part of a protocol that is cut out. Nothing of the program.
-/
namespace Go.Proofs.YtffilggpimdikaaGreatDoor.HvM
open Go.RowKit Go.Proofs.YtffilggpimdikaaGreatDoor.Plain Go.Proofs.YtffilggpimdikaaGreatDoor.Tree Go.Proofs.YtffilggpimdikaaGreatDoor.TrimT Go.Proofs.YtffilggpimdikaaGreatDoor.CutT Go.Proofs.YtffilggpimdikaaGreatDoor.Leaf
set_option linter.unusedVariables false
set_option linter.unusedSimpArgs false

theorem at_zero (i : Nat) : at_ 0 i = false := by unfold at_; simp
/-- where a bit is never 1, or never 0, nothing is taken away -/
theorem all_out (a : Bool) (s R C : Nat) (hR : R < 256) (hC : C < 256) (h1 : 1 ≤ R) (h2 : 1 ≤ C) (hi : inR a s R = 0 ∨ inC a s C = 0) : outR a s R = R ∧ outC a s C = C := by
  cases a
  · simp only [inR, inC, outR, outC, if_false, Bool.false_eq_true] at hi ⊢
    refine ⟨trivial, ?_⟩
    rcases hi with hi | hi
    · omega
    · refine at_eq (Nat.lt_of_le_of_lt (minus_le _ _ hC) hC) hC fun i hx => ?_
      have z := congrArg (fun n => at_ n i) hi
      simp only [at_meet, at_zero] at z
      rw [at_minus _ _ _ hx]
      cases h : at_ C i <;> cases k : at_ s i <;> simp [h, k] at z ⊢
  · simp only [inR, inC, outR, outC, if_true] at hi ⊢
    refine ⟨?_, trivial⟩
    rcases hi with hi | hi
    · refine at_eq (Nat.lt_of_le_of_lt (minus_le _ _ hR) hR) hR fun i hx => ?_
      have z := congrArg (fun n => at_ n i) hi
      simp only [at_meet, at_zero] at z
      rw [at_minus _ _ _ hx]
      cases h : at_ R i <;> cases k : at_ s i <;> simp [h, k] at z ⊢
    · omega
theorem all_inn (a : Bool) (s R C : Nat) (hR : R < 256) (hC : C < 256) (h1 : 1 ≤ R) (h2 : 1 ≤ C) (ho : outR a s R = 0 ∨ outC a s C = 0) : inR a s R = R ∧ inC a s C = C := by
  cases a
  · simp only [inR, inC, outR, outC, if_false, Bool.false_eq_true] at ho ⊢
    refine ⟨trivial, ?_⟩
    rcases ho with ho | ho
    · omega
    · refine at_eq (Nat.lt_of_le_of_lt (meet_le _ _ hC) hC) hC fun i hx => ?_
      have z := congrArg (fun n => at_ n i) ho
      simp only [at_minus _ _ _ hx, at_zero] at z
      rw [at_meet]
      cases h : at_ C i <;> cases k : at_ s i <;> simp [h, k] at z ⊢
  · simp only [inR, inC, outR, outC, if_true] at ho ⊢
    refine ⟨?_, trivial⟩
    rcases ho with ho | ho
    · refine at_eq (Nat.lt_of_le_of_lt (meet_le _ _ hR) hR) hR fun i hx => ?_
      have z := congrArg (fun n => at_ n i) ho
      simp only [at_minus _ _ _ hx, at_zero] at z
      rw [at_meet]
      cases h : at_ R i <;> cases k : at_ s i <;> simp [h, k] at z ⊢
    · omega
/-- a protocol that is trimmed has the same ends -/
theorem leaves_trim : ∀ (t : T) (R C : Nat), R < 256 → C < 256 → 1 ≤ R → 1 ≤ C → leavesT (trimT t R C) R C = leavesT t R C
  | .leaf _, _, _, _, _, _, _ => rfl
  | .say a s z o, R, C, hR, hC, h1, h2 => by
    obtain ⟨p1, p2, p3, p4⟩ := parts_lt a s hR hC
    have hnb := not_both a s hR hC h1 h2
    unfold trimT
    by_cases hi : inR a s R = 0 ∨ inC a s C = 0
    · rw [if_pos hi]
      obtain ⟨q1, q2⟩ := hnb hi
      obtain ⟨e1, e2⟩ := all_out a s R C hR hC h1 h2 hi
      simp only [leavesT]
      rw [leaves_none o _ _ hi, List.append_nil, e1, e2]
      exact leaves_trim z R C hR hC h1 h2
    rw [if_neg hi]
    by_cases ho : outR a s R = 0 ∨ outC a s C = 0
    · rw [if_pos ho]
      obtain ⟨e1, e2⟩ := all_inn a s R C hR hC h1 h2 ho
      simp only [leavesT]
      rw [leaves_none z _ _ ho, List.nil_append, e1, e2]
      exact leaves_trim o R C hR hC h1 h2
    rw [if_neg ho]
    obtain ⟨e1, e2, e3, e4⟩ := same_parts a s R C hR hC
    simp only [leavesT]
    rw [e1, e2, e3, e4, leaves_trim z _ _ p1 p2 (by omega) (by omega), leaves_trim o _ _ p3 p4 (by omega) (by omega)]
theorem tight_leaves : ∀ (t : T) (R C : Nat), 1 ≤ R → 1 ≤ C → Tight t R C → (leavesT t R C).length = ends t
  | .leaf _, R, C, h1, h2, _ => by simp only [leavesT]; rw [if_neg (by omega)]; rfl
  | .say a s z o, R, C, h1, h2, ht => by
    obtain ⟨⟨q1, q2, q3, q4, _⟩, hz, ho⟩ := ht
    simp only [leavesT, List.length_append, ends]
    rw [tight_leaves z _ _ q3 q4 hz, tight_leaves o _ _ q1 q2 ho]
/-- each end's rectangle lies within -/
theorem leaf_in : ∀ (t : T) (R C : Nat), R < 256 → C < 256 → ∀ p ∈ leavesT t R C, (1 ≤ p.1 ∧ p.1 < 256 ∧ 1 ≤ p.2.1 ∧ p.2.1 < 256) ∧ Sub p.1 R ∧ Sub p.2.1 C
  | .leaf b, R, C, hR, hC, p, hp => by
    simp only [leavesT] at hp
    by_cases h : R = 0 ∨ C = 0
    · rw [if_pos h] at hp; cases hp
    · rw [if_neg h] at hp
      have := List.mem_singleton.1 hp
      subst this
      exact ⟨⟨by show 1 ≤ R; omega, hR, by show 1 ≤ C; omega, hC⟩, Sub.refl _, Sub.refl _⟩
  | .say a s z o, R, C, hR, hC, p, hp => by
    obtain ⟨p1, p2, p3, p4⟩ := parts_lt a s hR hC
    have k1 : Sub (inR a s R) R := by cases a; exact Sub.refl _; exact Sub.meet_left _ (Sub.refl _)
    have k2 : Sub (inC a s C) C := by cases a; exact Sub.meet_left _ (Sub.refl _); exact Sub.refl _
    have k3 : Sub (outR a s R) R := by cases a; exact Sub.refl _; exact Sub.minus _ (Sub.refl _)
    have k4 : Sub (outC a s C) C := by cases a; exact Sub.minus _ (Sub.refl _); exact Sub.refl _
    simp only [leavesT, List.mem_append] at hp
    rcases hp with hp | hp
    · obtain ⟨g, g1, g2⟩ := leaf_in z _ _ p1 p2 p hp
      exact ⟨g, g1.trans k3, g2.trans k4⟩
    · obtain ⟨g, g1, g2⟩ := leaf_in o _ _ p3 p4 p hp
      exact ⟨g, g1.trans k1, g2.trans k2⟩
/-- nothing in common -/
def Off (p : Nat × Nat × Bool) (cr cc : Nat) : Prop := meetN p.1 cr = 0 ∨ meetN p.2.1 cc = 0
theorem apart_meet {p c r s : Nat} (hp : p < 256) (h1 : Sub p (minusN r s)) (h2 : Sub c (meetN r s)) : meetN p c = 0 := by
  refine at_eq (Nat.lt_of_le_of_lt (meet_le _ _ hp) hp) (by decide) fun i hi => ?_
  rw [at_meet, at_zero]
  have g1 := h1 i hi
  have g2 := h2 i hi
  rw [at_minus _ _ _ hi] at g1
  rw [at_meet] at g2
  cases x : at_ p i <;> cases y : at_ c i <;> simp only [Bool.and_false, Bool.and_true, Bool.false_and]
  have a1 := g1 x
  have a2 := g2 y
  rw [Bool.and_eq_true] at a1 a2
  rw [a2.2] at a1
  simp at a1
theorem cut_split (n : Nat) : ∀ (t : T) (R C : Nat), R < 256 → C < 256 → 1 ≤ R → 1 ≤ C → Tight t R C →
    ∃ A B, leavesT t R C = A ++ (leavesT (cutT n t R C).part (cutT n t R C).rows (cutT n t R C).cols ++ B) ∧ ∀ p, p ∈ A ∨ p ∈ B → Off p (cutT n t R C).rows (cutT n t R C).cols
  | .leaf _, R, C, _, _, _, _, _ => ⟨[], [], by simp [cutT], fun p hp => by simp at hp⟩
  | .say a s z o, R, C, hR, hC, h1, h2, ht => by
    obtain ⟨p1, p2, p3, p4⟩ := parts_lt a s hR hC
    obtain ⟨⟨q1, q2, q3, q4, _⟩, hz, ho⟩ := ht
    by_cases hb : 3 * (ends z + ends o) ≤ 2 * n
    · have e : cutT n (.say a s z o) R C = ⟨.say a s z o, R, C, .leaf false⟩ := by show (if _ then _ else _) = _; rw [if_pos hb]
      rw [e]
      exact ⟨[], [], by simp, fun p hp => by simp at hp⟩
    by_cases hm : ends z < ends o
    · have e : cutT n (.say a s z o) R C = ⟨(cutT n o (inR a s R) (inC a s C)).part, (cutT n o (inR a s R) (inC a s C)).rows, (cutT n o (inR a s R) (inC a s C)).cols, .say a s z (cutT n o (inR a s R) (inC a s C)).rest⟩ := by
        show (if _ then _ else _) = _; rw [if_neg hb, if_pos hm]
      rw [e]
      obtain ⟨A, B, hl, hp⟩ := cut_split n o _ _ p3 p4 q1 q2 ho
      obtain ⟨_, _, _, _, s1, s2, _, _⟩ := cut_rect n o _ _ p3 p4 q1 q2 ho
      refine ⟨leavesT z (outR a s R) (outC a s C) ++ A, B, ?_, ?_⟩
      · simp only [leavesT]
        rw [hl, List.append_assoc]
      · intro p hx
        simp only [List.mem_append] at hx
        rcases hx with (hx | hx) | hx
        · obtain ⟨g, g1, g2⟩ := leaf_in z _ _ p1 p2 p hx
          show Off p (cutT n o (inR a s R) (inC a s C)).rows (cutT n o (inR a s R) (inC a s C)).cols
          cases a
          · exact .inr (apart_meet g.2.2.2 g2 s2)
          · exact .inl (apart_meet g.2.1 g1 s1)
        · exact hp p (.inl hx)
        · exact hp p (.inr hx)
    · have e : cutT n (.say a s z o) R C = ⟨(cutT n z (outR a s R) (outC a s C)).part, (cutT n z (outR a s R) (outC a s C)).rows, (cutT n z (outR a s R) (outC a s C)).cols, .say a s (cutT n z (outR a s R) (outC a s C)).rest o⟩ := by
        show (if _ then _ else _) = _; rw [if_neg hb, if_neg hm]
      rw [e]
      obtain ⟨A, B, hl, hp⟩ := cut_split n z _ _ p1 p2 q3 q4 hz
      obtain ⟨_, _, _, _, s1, s2, _, _⟩ := cut_rect n z _ _ p1 p2 q3 q4 hz
      refine ⟨A, B ++ leavesT o (inR a s R) (inC a s C), ?_, ?_⟩
      · simp only [leavesT]
        rw [hl, List.append_assoc, List.append_assoc]
      · intro p hx
        simp only [List.mem_append] at hx
        rcases hx with hx | hx | hx
        · exact hp p (.inl hx)
        · exact hp p (.inr hx)
        · obtain ⟨g, g1, g2⟩ := leaf_in o _ _ p3 p4 p hx
          show Off p (cutT n z (outR a s R) (outC a s C)).rows (cutT n z (outR a s R) (outC a s C)).cols
          have sw : ∀ {p c r s : Nat}, p < 256 → Sub p (meetN r s) → Sub c (minusN r s) → meetN p c = 0 := by
            intro p c r s hp h1 h2
            refine at_eq (Nat.lt_of_le_of_lt (meet_le _ _ hp) hp) (by decide) fun i hi => ?_
            rw [at_meet, at_zero]
            have g1 := h1 i hi
            have g2 := h2 i hi
            rw [at_minus _ _ _ hi] at g2
            rw [at_meet] at g1
            cases x : at_ p i <;> cases y : at_ c i <;> simp only [Bool.and_false, Bool.and_true, Bool.false_and]
            have a1 := g1 x
            have a2 := g2 y
            rw [Bool.and_eq_true] at a1 a2
            rw [a1.2] at a2
            simp at a2
          cases a
          · exact .inr (sw g.2.2.2 g2 s2)
          · exact .inl (sw g.2.1 g1 s1)

/-- whether an end has something in common with a rectangle -/
def hits (cr cc : Nat) (p : Nat × Nat × Bool) : Bool := !(meetN p.1 cr == 0) && !(meetN p.2.1 cc == 0)
theorem off_hits {p : Nat × Nat × Bool} {cr cc : Nat} (h : Off p cr cc) : hits cr cc p = false := by
  unfold hits
  rcases h with h | h <;> rw [h] <;> simp
/-- what is known of the ends and the rectangle of the part: each lies within or has nothing in common, and how many lie within -/
theorem heavy (t : T) (R C : Nat) (hR : R < 256) (hC : C < 256) (h1 : 1 ≤ R) (h2 : 1 ≤ C) (he : 2 ≤ ends (trimT t R C)) :
    (∀ p ∈ leavesT t R C, hits (cutT (ends (trimT t R C)) (trimT t R C) R C).rows (cutT (ends (trimT t R C)) (trimT t R C) R C).cols p = true →
      meetN p.1 (cutT (ends (trimT t R C)) (trimT t R C) R C).rows = p.1 ∧ meetN p.2.1 (cutT (ends (trimT t R C)) (trimT t R C) R C).cols = p.2.1) ∧
    3 * (leavesT t R C).countP (hits (cutT (ends (trimT t R C)) (trimT t R C) R C).rows (cutT (ends (trimT t R C)) (trimT t R C) R C).cols) ≤ 2 * (leavesT t R C).length ∧
    (leavesT t R C).length ≤ 3 * (leavesT t R C).countP (hits (cutT (ends (trimT t R C)) (trimT t R C) R C).rows (cutT (ends (trimT t R C)) (trimT t R C) R C).cols) := by
  have hT := trim_tight t R C hR hC h1 h2
  rw [← leaves_trim t R C hR hC h1 h2]
  generalize trimT t R C = u at *
  obtain ⟨A, B, hl, hp⟩ := cut_split (ends u) u R C hR hC h1 h2 hT
  obtain ⟨g1, g2, g3, g4, g5, g6, g7, g8⟩ := cut_rect (ends u) u R C hR hC h1 h2 hT
  have hm := cut_most (ends u) he u R C
  have hs := cut_least (ends u) u R C (by omega)
  have hlen := tight_leaves u R C h1 h2 hT
  rw [hlen, hl]
  generalize cutT (ends u) u R C = c at *
  have hin : ∀ p ∈ leavesT c.part c.rows c.cols, meetN p.1 c.rows = p.1 ∧ meetN p.2.1 c.cols = p.2.1 ∧ hits c.rows c.cols p = true := by
    intro p hx
    obtain ⟨⟨x1, x2, x3, x4⟩, x5, x6⟩ := leaf_in c.part c.rows c.cols g1 g2 p hx
    have e1 := meet_self x2 x5
    have e2 := meet_self x4 x6
    refine ⟨e1, e2, ?_⟩
    unfold hits
    rw [e1, e2, beq_false_of_ne (by omega), beq_false_of_ne (by omega)]
    rfl
  have hcount : (A ++ (leavesT c.part c.rows c.cols ++ B)).countP (hits c.rows c.cols) = ends c.part := by
    rw [List.countP_append, List.countP_append]
    have z1 : A.countP (hits c.rows c.cols) = 0 := List.countP_eq_zero.2 fun p hx => by rw [off_hits (hp p (.inl hx))]; simp
    have z2 : B.countP (hits c.rows c.cols) = 0 := List.countP_eq_zero.2 fun p hx => by rw [off_hits (hp p (.inr hx))]; simp
    have z3 : (leavesT c.part c.rows c.cols).countP (hits c.rows c.cols) = (leavesT c.part c.rows c.cols).length := List.countP_eq_length.2 fun p hx => (hin p hx).2.2
    rw [z1, z2, z3, tight_leaves c.part _ _ g3 g4 g7]
    omega
  rw [hcount]
  refine ⟨?_, hm, by omega⟩
  intro p hx hh
  simp only [List.mem_append] at hx
  rcases hx with hx | hx | hx
  · rw [off_hits (hp p (.inl hx))] at hh; cases hh
  · exact ⟨(hin p hx).1, (hin p hx).2.1⟩
  · rw [off_hits (hp p (.inr hx))] at hh; cases hh
end Go.Proofs.YtffilggpimdikaaGreatDoor.HvM

