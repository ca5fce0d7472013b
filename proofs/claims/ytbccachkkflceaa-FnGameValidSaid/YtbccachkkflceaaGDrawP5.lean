/-
  Protocols that are drawn: l5Draw, l5Some, l5Bad, l5Open, l5Side.
-/
import Derived.Test.YtbccachkkflceaaDrawT
import Derived.Test.YtbccachkkflceaaGSetW
import Derived.Test.YtbccachkkflceaaGmM
import Derived.Test.YtbccachkkflceaaGmS
namespace Go.Proofs.Ytbccachkkflceaa.DrawP5
open Go.RowKit Go.Shelf Go.Proofs.Ytbccachkkflceaa.Plain Go.Proofs.Ytbccachkkflceaa.Tree Go.Proofs.Ytbccachkkflceaa.Read Go.Proofs.Ytbccachkkflceaa.Parts Go.Proofs.Ytbccachkkflceaa.SetW Go.Proofs.Ytbccachkkflceaa.Rd Go.Proofs.Ytbccachkkflceaa.Rd2 Go.Proofs.Ytbccachkkflceaa.Rd3 Go.Proofs.Ytbccachkkflceaa.DrawT
open Go.Proofs.Ytbccachkkflceaa.GmM (text_ends)
open Go.Proofs.Ytbccachkkflceaa.GmS (said_node)
set_option linter.unusedVariables false
set_option linter.unusedSimpArgs false

theorem cells_str (w : World) (T : TypeId) (xs : List ByteArray) (j : Nat) (hj : j < xs.length) : (w.alloc (.cells (xs.map fun x : ByteArray => Value.string x).toArray T)).cell? ⟨w.heap.size, j, none⟩ = some (.string xs[j]) :=
  (cell_of_row _ _ j _ _ _ (heap_alloc_new w _)).trans (by simp [hj])
/-- an element of a list of strings that is written there -/
theorem of_lit {lo : Nat} (g p : Nat) (hp : p < 1048576) (xs : List ByteArray) (h1 : 1 ≤ xs.length) (h8 : xs.length ≤ 1000) (c : Nat) (w : World) (h : Rdr lo w g p) :
    Calls Try.prog 45 #[.pointer (some ⟨g, 0, none⟩), .slice (some ⟨w.heap.size, 0, none⟩) xs.length c] (w.alloc (.cells (xs.map fun x : ByteArray => Value.string x).toArray 9)) fun e w' => ∃ x : ByteArray, e = .returned (.string x) ∧ x ∈ xs ∧ Rdr lo w' g (p + 1) ∧ Apt g w w' := by
  have hgl := h.lt
  have hb := (Below.refl w.heap.size w).alloc (Nat.le_refl _) (.cells (xs.map fun x : ByteArray => Value.string x).toArray 9)
  exact (of_any g p hp xs h1 h8 w.heap.size c (by omega) _ (h.later hb) (by simp) (fun j hj => cells_str w 9 xs j hj)).mono fun e w' h => by
    obtain ⟨x, h1, h2, h3, h4⟩ := h
    exact ⟨x, h1, h2, h3, (Apt.of_below hb).trans h4⟩
theorem ends_pow : ∀ t : T, ends t ≤ 2 ^ Tree.bits t
  | .leaf _ => Nat.le_refl _
  | .say _ _ z o => by
    have h1 := ends_pow z
    have h2 := ends_pow o
    have h3 : 2 ^ Tree.bits z ≤ 2 ^ max (Tree.bits z) (Tree.bits o) := Nat.pow_le_pow_right (by decide) (Nat.le_max_left _ _)
    have h4 : 2 ^ Tree.bits o ≤ 2 ^ max (Tree.bits z) (Tree.bits o) := Nat.pow_le_pow_right (by decide) (Nat.le_max_right _ _)
    show ends z + ends o ≤ 2 ^ (1 + max (Tree.bits z) (Tree.bits o))
    rw [Nat.pow_add]
    omega
theorem len_pow (t : T) (d : Nat) (h : Tree.bits t ≤ d) (hd : d ≤ 6) : (text t).length ≤ 253 := by
  have h1 := text_ends t
  have h2 := ends_pow t
  have h3 : 2 ^ Tree.bits t ≤ 2 ^ 6 := Nat.pow_le_pow_right (by decide) (by omega)
  have h4 : (2 : Nat) ^ 6 = 64 := by decide
  omega

/-- how many numbers are drawn at most for a protocol of a depth -/
def cost : Nat → Nat
  | 0 => 2
  | d + 1 => 6 + 2 * cost d
theorem cost_le : ∀ d : Fin 7, cost d.1 ≤ 600 := by decide

theorem bit_in (u : ByteArray) (h : u ∈ ([⟨#[48]⟩, ⟨#[49]⟩] : List ByteArray)) : ∃ b : V3, u = str (text (.leaf b)) := by
  simp only [List.mem_cons, List.not_mem_nil, or_false] at h
  rcases h with rfl | rfl
  · exact ⟨.v0, rfl⟩
  · exact ⟨.v1, rfl⟩
theorem who_in (u : ByteArray) (h : u ∈ ([⟨#[65]⟩, ⟨#[66]⟩] : List ByteArray)) : ∃ a : Bool, u = str [whoB a] := by
  simp only [List.mem_cons, List.not_mem_nil, or_false] at h
  rcases h with rfl | rfl
  · exact ⟨true, rfl⟩
  · exact ⟨false, rfl⟩

/-- what a drawn protocol is -/
def Drawn (lo g p d : Nat) (w : World) (e : Ending) (w' : World) : Prop := ∃ (t : T) (p' : Nat), e = .returned (.string (str (text t))) ∧ wf t ∧ Tree.bits t ≤ d ∧ Rdr lo w' g p' ∧ p' ≤ p + cost d ∧ Apt g w w'

set_option maxHeartbeats 4000000 in
set_option maxRecDepth 100000 in
theorem draw_tree {lo : Nat} : ∀ (d : Nat), d ≤ 6 → ∀ (g p : Nat) (hp : p + cost d ≤ 1040000) (w : World) (h : Rdr lo w g p),
    Calls Try.prog 44 #[.pointer (some ⟨g, 0, none⟩), .int .i64 (d : Int)] w (Drawn lo g p d w) := by
  intro d
  induction d with
  | zero =>
    intro _ g p hp w h
    have hp2 : p + 2 ≤ 1040000 := hp
    have HN := Lib.hid (of_lit g p (by omega) [⟨#[48]⟩, ⟨#[49]⟩] (by decide) (by decide) 2 w h)
    clear h hp
    show Calls _ _ #[_, .int .i64 0] _ _
    go_enter Try.func44, Try.ntmps44
    go_wp2_with fail
    refine HN.out.mono ?_
    rintro e w2 ⟨u, rfl, hu, hr, ha⟩
    obtain ⟨b, rfl⟩ := bit_in u hu
    have HR := Lib.hid hr
    have HA := Lib.hid ha
    clear hr ha hu HN
    generalize hq : str (text (.leaf b)) = q
    have HQ := Lib.hid hq
    clear hq
    go_wp2_with fail
    go_ret
    exact ⟨.leaf b, p + 1, by rw [HQ.out]; rfl, trivial, Nat.le_refl _, HR.out, by show p + 1 ≤ p + 2; omega, HA.out⟩
  | succ d ih =>
    intro hd g p hp w h
    have hc : cost (d + 1) = 6 + 2 * cost d := rfl
    rw [hc] at hp
    have HP := Lib.hid (pick_r g p (by omega) 5 w h)
    have IH := Lib.hid (fun q (hq : q + cost d ≤ 1040000) W hW => ih (by omega) g q hq W hW)
    have hcd : ((d + 1 : Nat) : Int) - 1 = (d : Int) := by omega
    have hd1 : (0 : Int) < ((d + 1 : Nat) : Int) := by omega
    have hdw : ((d + 1 : Nat) : Int) ≤ 6 := by omega
    obtain ⟨D, hD⟩ : ∃ D : Int, ((d + 1 : Nat) : Int) = D := ⟨_, rfl⟩
    rw [hD] at hcd hd1 hdw
    have HCD := Lib.hid hcd
    show Calls _ _ #[_, .int .i64 ((d + 1 : Nat) : Int)] _ _
    rw [hD]
    clear h ih hc hcd hD
    go_enter Try.func44, Try.ntmps44
    go_wp2_with fail
    refine HP.out.mono ?_
    rintro e w1 ⟨x, rfl, ⟨hx0, hxm⟩, hx1, hr, ha⟩
    have HA := Lib.hid ha
    clear ha HP
    by_cases hx : x = 0
    · subst hx
      have HN := Lib.hid (of_lit g (p + 1) (by omega) [⟨#[48]⟩, ⟨#[49]⟩] (by decide) (by decide) 2 w1 hr)
      clear hr hx0 hxm hx1 IH
      go_wp2_with fail
      refine HN.out.mono ?_
      rintro e w2 ⟨u, rfl, hu, hr, ha⟩
      obtain ⟨b, rfl⟩ := bit_in u hu
      have HR := Lib.hid hr
      have HA2 := Lib.hid (HA.out.trans ha)
      clear hr ha hu HN HA
      generalize hq : str (text (.leaf b)) = q
      have HQ := Lib.hid hq
      clear hq
      go_wp2_with fail
      go_ret
      exact ⟨.leaf b, p + 1 + 1, by rw [HQ.out]; rfl, trivial, Nat.zero_le _, HR.out, by show _ ≤ p + (6 + 2 * cost d); omega, HA2.out⟩
    · have hxb : (x == 0) = false := beq_false_of_ne hx
      have hdd : decide (D ≤ 0) = false := decide_eq_false (by omega)
      have HN := Lib.hid (of_lit g (p + 1) (by omega) [⟨#[65]⟩, ⟨#[66]⟩] (by decide) (by decide) 2 w1 hr)
      clear hr
      go_wp2_with fail
      refine HN.out.mono ?_
      rintro e w2 ⟨u, rfl, hu, hr, ha⟩
      obtain ⟨a, rfl⟩ := who_in u hu
      have HA2 := Lib.hid (HA.out.trans ha)
      have HP2 := Lib.hid (pick_r g (p + 1 + 1) (by omega) 32 w2 hr)
      obtain ⟨q0, hq0⟩ : ∃ q0, str [whoB a] = q0 := ⟨_, rfl⟩
      have HQ0 := Lib.hid hq0
      rw [hq0]
      clear hr ha hu HN HA hx hx0 hxm hx1 hq0 hxb hdd
      go_wp2_with fail
      refine HP2.out.mono ?_
      rintro e w3 ⟨s, rfl, ⟨hs0, hsm⟩, hs1, hr, ha⟩
      have HA3 := Lib.hid (HA2.out.trans ha)
      have HP3 := Lib.hid (pick_r g (p + 1 + 1 + 1) (by omega) 8 w3 hr)
      have hs : 0 ≤ s ∧ s < 256 := by omega
      clear hr ha HP2 HA2 hs0 hsm hs1
      go_wp2_with fail
      refine HP3.out.mono ?_
      rintro e w4 ⟨y, rfl, ⟨hy0, hym⟩, hy1, hr, ha⟩
      have HA4 := Lib.hid (HA3.out.trans ha)
      clear ha HP3 HA3
      by_cases hy : y = 0
      · subst hy
        have HP4 := Lib.hid (pick_r g (p + 1 + 1 + 1 + 1) (by omega) 256 w4 hr)
        clear hr hs hy0 hym hy1
        go_wp2_with fail
        refine HP4.out.mono ?_
        rintro e w5 ⟨x5, rfl, ⟨hx50, hx5m⟩, hx51, hr, ha⟩
        have HAs := Lib.hid (HA4.out.trans ha)
        have hs : 0 ≤ x5 ∧ x5 < 256 := by omega
        clear ha HP4 HA4 hx50 hx5m hx51
        obtain ⟨S, rfl⟩ := Int.eq_ofNat_of_zero_le hs.1
        have hS : S < 256 := by omega
        have HZ := Lib.hid (IH.out (p + 1 + 1 + 1 + 1 + 1) (by omega) w5 hr)
        have hcd := HCD.out
        clear hr hs
        go_wp2_with fail
        refine HZ.out.mono ?_
        rintro e w8 ⟨z, p8, rfl, hwz, hbz, hr, hp8, ha⟩
        have HA8 := Lib.hid (HAs.out.trans ha)
        have HO := Lib.hid (IH.out p8 (by omega) w8 hr)
        have hlz := len_pow z d hbz (by omega)
        have HWZ := Lib.hid (And.intro hwz hbz)
        clear hr ha HZ HAs hwz hbz IH
        obtain ⟨qz, hqz⟩ : ∃ q, str (text z) = q := ⟨_, rfl⟩
        rw [hqz]
        have HQZ := Lib.hid hqz
        clear hqz
        go_wp2_with fail
        refine HO.out.mono ?_
        rintro e w9 ⟨o, p9, rfl, hwo, hbo, hr, hp9, ha⟩
        have HA9 := Lib.hid (HA8.out.trans ha)
        have hlo := len_pow o d hbo (by omega)
        have HNo := Lib.hid (said_node a S hS z o (by omega) (by omega) w9)
        rw [HQ0.out, HQZ.out] at HNo
        have HR9 := Lib.hid hr
        have HWO := Lib.hid (And.intro hwo hbo)
        clear hr ha HO HA8 hwo hbo
        obtain ⟨qo, hqo⟩ : ∃ q, str (text o) = q := ⟨_, rfl⟩
        rw [hqo] at HNo ⊢
        clear hqo
        obtain ⟨qr, hqr⟩ : ∃ q, str (text (.say a S z o)) = q := ⟨_, rfl⟩
        rw [hqr] at HNo
        have HQR := Lib.hid hqr
        clear hqr
        go_wp2_with fail
        refine HNo.out.mono ?_
        rintro e w10 ⟨rfl, hb10⟩
        have HR10 := Lib.hid (HR9.out.later hb10)
        have HA10 := Lib.hid (HA9.out.trans (Apt.of_below hb10))
        clear hb10 HR9 HA9 HNo
        go_wp2_with fail
        go_ret
        refine ⟨.say a S z o, p9, by rw [HQR.out]; rfl, ⟨hS, HWZ.out.1, HWO.out.1⟩, ?_, HR10.out, ?_, HA10.out⟩
        · have b1 := HWZ.out.2
          have b2 := HWO.out.2
          show 1 + max (Tree.bits z) (Tree.bits o) ≤ d + 1
          omega
        · show p9 ≤ p + (6 + 2 * cost d)
          omega
      · have HAs := HA4
        clear HA4 hy0 hym hy1
        obtain ⟨S, rfl⟩ := Int.eq_ofNat_of_zero_le hs.1
        have hS : S < 256 := by omega
        have HZ := Lib.hid (IH.out (p + 1 + 1 + 1 + 1) (by omega) w4 hr)
        have hcd := HCD.out
        clear hr hs
        go_wp2_with fail
        refine HZ.out.mono ?_
        rintro e w8 ⟨z, p8, rfl, hwz, hbz, hr, hp8, ha⟩
        have HA8 := Lib.hid (HAs.out.trans ha)
        have HO := Lib.hid (IH.out p8 (by omega) w8 hr)
        have hlz := len_pow z d hbz (by omega)
        have HWZ := Lib.hid (And.intro hwz hbz)
        clear hr ha HZ HAs hwz hbz IH
        obtain ⟨qz, hqz⟩ : ∃ q, str (text z) = q := ⟨_, rfl⟩
        rw [hqz]
        have HQZ := Lib.hid hqz
        clear hqz
        go_wp2_with fail
        refine HO.out.mono ?_
        rintro e w9 ⟨o, p9, rfl, hwo, hbo, hr, hp9, ha⟩
        have HA9 := Lib.hid (HA8.out.trans ha)
        have hlo := len_pow o d hbo (by omega)
        have HNo := Lib.hid (said_node a S hS z o (by omega) (by omega) w9)
        rw [HQ0.out, HQZ.out] at HNo
        have HR9 := Lib.hid hr
        have HWO := Lib.hid (And.intro hwo hbo)
        clear hr ha HO HA8 hwo hbo
        obtain ⟨qo, hqo⟩ : ∃ q, str (text o) = q := ⟨_, rfl⟩
        rw [hqo] at HNo ⊢
        clear hqo
        obtain ⟨qr, hqr⟩ : ∃ q, str (text (.say a S z o)) = q := ⟨_, rfl⟩
        rw [hqr] at HNo
        have HQR := Lib.hid hqr
        clear hqr
        go_wp2_with fail
        refine HNo.out.mono ?_
        rintro e w10 ⟨rfl, hb10⟩
        have HR10 := Lib.hid (HR9.out.later hb10)
        have HA10 := Lib.hid (HA9.out.trans (Apt.of_below hb10))
        clear hb10 HR9 HA9 HNo
        go_wp2_with fail
        go_ret
        refine ⟨.say a S z o, p9, by rw [HQR.out]; rfl, ⟨hS, HWZ.out.1, HWO.out.1⟩, ?_, HR10.out, ?_, HA10.out⟩
        · have b1 := HWZ.out.2
          have b2 := HWO.out.2
          show 1 + max (Tree.bits z) (Tree.bits o) ≤ d + 1
          omega
        · show p9 ≤ p + (6 + 2 * cost d)
          omega

end Go.Proofs.Ytbccachkkflceaa.DrawP5
