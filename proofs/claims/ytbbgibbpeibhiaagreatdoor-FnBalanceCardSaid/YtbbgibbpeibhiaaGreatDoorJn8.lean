/-
  Texts of one seat, joined: FreeP, DrawB5, DrawBal, App.
-/
import Derived.Test.YtbbgibbpeibhiaaGreatDoorJn5
import Derived.Test.YtbbgibbpeibhiaaGreatDoorJn1
import Derived.Test.YtbbgibbpeibhiaaGreatDoorJn7
import Derived.Test.YtbbgibbpeibhiaaGreatDoorRows
import Derived.Below
import Derived.WalkKit
import Derived.OwnWalk
import Derived.Laws.OwnMore
import Derived.Lib.Hide
/-
  The law at a region that draws its order and whose operations read through one reader, as often as they like: what they yield is told by a relation
  that stays true while other blocks lie as they lay. The order of the reads does not matter: of each number only its bounds are told.
-/
namespace Go.Proofs.YtbbgibbpeibhiaaGreatDoor.FreeP
open Go Go.RowKit Go.Proofs.YtbbgibbpeibhiaaGreatDoor.Free Go.Proofs.YtbbgibbpeibhiaaGreatDoor.FreeL Go.Proofs.YtbbgibbpeibhiaaGreatDoor.Rd Go.Proofs.YtbbgibbpeibhiaaGreatDoor.Rd2
set_option linter.unusedVariables false

/-- how many have come up -/
def cnt (l : Nat → Bool) : Nat → Nat
  | 0 => 0
  | n + 1 => cnt l n + (l n).toNat
theorem cnt_le (l : Nat → Bool) : ∀ n, cnt l n ≤ n
  | 0 => Nat.le_refl _
  | n + 1 => by
    have := cnt_le l n
    rw [cnt]
    cases l n <;> simp <;> omega
theorem cnt_none (l : Nat → Bool) (h : ∀ i, l i = false) : ∀ n, cnt l n = 0
  | 0 => rfl
  | n + 1 => by rw [cnt, cnt_none l h n, h n]; rfl
theorem cnt_high (l : Nat → Bool) (i : Nat) : ∀ n, n ≤ i → cnt (fun j => if j = i then true else l j) n = cnt l n
  | 0, _ => rfl
  | n + 1, h => by
    rw [cnt, cnt, cnt_high l i n (by omega)]
    rw [if_neg (by omega)]
theorem cnt_set (l : Nat → Bool) (i : Nat) (hl : l i = false) : ∀ n, i < n → cnt (fun j => if j = i then true else l j) n = cnt l n + 1
  | 0, h => absurd h (by omega)
  | n + 1, h => by
    rw [cnt, cnt]
    by_cases e : n = i
    · subst e
      rw [cnt_high l n n (Nat.le_refl _), if_pos rfl, hl]
      rfl
    · rw [cnt_set l i hl n (by omega), if_neg e]
      omega
set_option maxRecDepth 20000 in
theorem count_up {p0 p p' c : Nat} (h2 : p ≤ p0 + 400 * c) (h4 : p' ≤ p + 400) : p' ≤ p0 + 400 * (c + 1) := by omega
set_option maxRecDepth 20000 in
theorem count_to {p0 p c n : Nat} (h2 : p ≤ p0 + 400 * c) (h4 : c ≤ n) : p ≤ p0 + 400 * n := by omega
theorem wp_enterP {P : Program} {o : Oper} {a : Act} {w : World} {K : Act → World → Prop} {Q : Exit → Act → World → Prop} (f : FuncId) (args : Array Value) (R : Value → World → Prop) (h : (execOp a.eval o).run P w = .ok (.enter f args) w)
    (hc : Calls P f args w fun e w' => ∃ v, e = .returned v ∧ R v w') (hK : ∀ v w', R v w' → K (a.put o.dst v) w') : o.wp P a w K Q := by
  unfold Oper.wp
  rw [h]
  refine Calls.mono hc ?_
  rintro e w' ⟨v, rfl, hR⟩
  exact hK v w' hR

section
variable {P : Program} {ops : Array Oper}
/-- what an operation may know of the slots -/
def FactsP (ops : Array Oper) (a0 : Act) (R : Nat → Value → World → Prop) (o : Oper) (a : Act) (w : World) : Prop :=
  (∀ e ∈ o.after, Region.binds .any e = true → ∀ (oj : Oper) (dj : Tmp), ops[e.on]? = some oj → oj.dst = some dj → R e.on (a.tmps[dj]?.getD undef) w) ∧
  (∀ k, (ops.toList.all fun o => o.dst != some k) = true → a.tmps[k]?.getD undef = a0.tmps[k]?.getD undef)

/-- THE LAW -/
theorem wp_region_draws {lo : Nat} {id n : Nat} {a0 : Act} {w0 : World} {Q : Exit → Act → World → Prop} (g p0 : Nat) (R : Nat → Value → World → Prop) (hR : ∀ (i : Nat) (v : Value) (w w' : World), Apt g w w' → R i v w → R i v w')
    (hm : P.follows .mixedOrders = true) (hB : freeB ops n = true) (hn : a0.tmps.size = n) (h0 : Rdr lo w0 g p0)
    (hcon : ∀ (i : Nat) (o : Oper), ops[i]? = some o → ∀ (a : Act) (w : World) (p : Nat), p0 ≤ p → p ≤ p0 + 400 * ops.size → Apt g w0 w → Rdr lo w g p → FactsP ops a0 R o a w →
      o.wp P a w (fun a' w' => ∃ v p', a' = a.put o.dst v ∧ R i v w' ∧ Apt g w w' ∧ Rdr lo w' g p' ∧ p ≤ p' ∧ p' ≤ p + 400) Q)
    (hend : ∀ (vs : Nat → Value) (w : World) (p : Nat), p0 ≤ p → p ≤ p0 + 400 * ops.size → Apt g w0 w → Rdr lo w g p → (∀ (i : Nat) (o : Oper), ops[i]? = some o → R i (vs i) w) → Q .normal (fill ops.toList vs 0 a0) w) :
    (Code.region id ops true).wp P Q a0 w0 := by
  refine wp_region_freeL (Y := fun i v a w => R i v w) (S := fun l w => Apt g w0 w ∧ ∃ p, Rdr lo w g p ∧ p0 ≤ p ∧ p ≤ p0 + 400 * cnt l ops.size) hm hB hn
    ⟨(Apt.refl g w0).drew, p0, h0.later (drawn_at w0 1), Nat.le_refl _, by omega⟩ ?_ ?_
  · intro i o ho listed a w hM hu hdp
    have hi : i < ops.size := (Array.getElem?_eq_some_iff.1 ho).1
    obtain ⟨ha, p, hr, hp1, hp2⟩ := hM.world
    have hc := cnt_set (fun j => listed.getD j false) i hu ops.size hi
    have hl := cnt_le (fun j => listed.getD j false) ops.size
    have hf : FactsP ops a0 R o a w := by
      refine ⟨fun e he hb oj dj hoj hdj => ?_, fun k hk => ?_⟩
      · obtain ⟨v, hv, hvd⟩ := hM.new e.on oj hoj (hdp e he hb)
        rw [hvd dj hdj]
        exact hv
      · rw [hM.old k fun i o' ho' hd' => ?_]
        have := List.all_eq_true.1 hk o' (by simpa using Array.mem_of_getElem? ho')
        simp [hd'] at this
    have hp3 : p ≤ p0 + 400 * ops.size := count_to hp2 hl
    refine Oper.wp_mono ?_ (hcon i o ho a w p hp1 hp3 ha hr hf)
    rintro a' w' ⟨v, p', rfl, hRv, ha', hr', h3, h4⟩
    have h5 : p' ≤ p0 + 400 * cnt (fun j => if j = i then true else listed.getD j false) ops.size := by
      rw [hc]
      exact count_up hp2 h4
    exact ⟨v, rfl, hRv, ⟨ha.trans ha', p', hr', Nat.le_trans hp1 h3, h5⟩, fun j u _ _ hY => hR j u w w' ha' hY⟩
  · intro vs w hS hall
    obtain ⟨ha, p, hr, hp1, hp2⟩ := hS
    have hl := cnt_le (fun i => decide (i < ops.size)) ops.size
    exact hend vs w p hp1 (count_to hp2 hl) ha hr hall
end
end Go.Proofs.YtbbgibbpeibhiaaGreatDoor.FreeP

/-
  Texts that are sometimes no protocol: l5Bad, l5Open; the drawing function DrawMatrixOf.
-/
namespace Go.Proofs.YtbbgibbpeibhiaaGreatDoor.DrawB5
open Go.RowKit Go.Shelf Go.Proofs.YtbbgibbpeibhiaaGreatDoor.Plain Go.Proofs.YtbbgibbpeibhiaaGreatDoor.Tree Go.Proofs.YtbbgibbpeibhiaaGreatDoor.Rd Go.Proofs.YtbbgibbpeibhiaaGreatDoor.Rd2 Go.Proofs.YtbbgibbpeibhiaaGreatDoor.Rd3 Go.Proofs.YtbbgibbpeibhiaaGreatDoor.DrawT Go.Proofs.YtbbgibbpeibhiaaGreatDoor.DrawP5 Go.Proofs.YtbbgibbpeibhiaaGreatDoor.FreeP
open Go.Proofs.YtbbgibbpeibhiaaGreatDoor.Free (fill wp_value freeB)
open Go.Proofs.YtbbgibbpeibhiaaGreatDoor.FreeP (wp_enterP)
open Go.Proofs.YtbbgibbpeibhiaaGreatDoor.CutT (text_ends)
set_option linter.unusedVariables false
set_option linter.unusedSimpArgs false

theorem one_le (u : ByteArray) (h : u ∈ ([⟨#[97]⟩, ⟨#[70]⟩, ⟨#[65]⟩, ⟨#[50]⟩] : List ByteArray)) : u.size ≤ 1 := by
  simp only [List.mem_cons, List.not_mem_nil, or_false] at h
  rcases h with rfl | rfl | rfl | rfl <;> decide
theorem tri_le (u : ByteArray) (h : u ∈ ([⟨#[48]⟩, ⟨#[65]⟩, ⟨#[32]⟩] : List ByteArray)) : u.size ≤ 1 := by
  simp only [List.mem_cons, List.not_mem_nil, or_false] at h
  rcases h with rfl | rfl | rfl <;> decide
theorem wp_made {P : Program} {o : Oper} {a : Act} {w : World} {K : Act → World → Prop} {Q : Exit → Act → World → Prop} (w' : World) (v : Value) (h : (execOp a.eval o).run P w = .ok (.value v) w') (hK : K (a.put o.dst v) w') : o.wp P a w K Q := by
  unfold Oper.wp
  rw [h]
  exact hK
/-- what each operation yields -/
def YB (g : Nat) (s : ByteArray) (k : Nat) : Nat → Value → World → Prop
  | 0, v, _ => v = .string s
  | 1, v, _ => v = .int .i64 (k : Int)
  | 2, v, _ => v = .string (s.extract 0 k)
  | 3, v, _ => v = .pointer (some ⟨g, 0, none⟩)
  | 4, v, w => ∃ b, v = .slice (some ⟨b, 0, none⟩) 4 4 ∧ b ≠ g ∧ b < w.heap.size ∧ ∀ j (hj : j < ([⟨#[97]⟩, ⟨#[70]⟩, ⟨#[65]⟩, ⟨#[50]⟩] : List ByteArray).length), w.cell? ⟨b, j, none⟩ = some (.string ([⟨#[97]⟩, ⟨#[70]⟩, ⟨#[65]⟩, ⟨#[50]⟩] : List ByteArray)[j])
  | 5, v, _ => ∃ u : ByteArray, v = .string u ∧ u.size ≤ 1
  | 6, v, _ => ∃ u : ByteArray, v = .string u ∧ u.size ≤ s.size + 1
  | 7, v, _ => v = .string s
  | 8, v, _ => v = .int .i64 (k : Int)
  | 9, v, _ => v = .int .i64 ((k : Int) + 1)
  | 10, v, _ => ∃ u : ByteArray, v = .string u ∧ u.size ≤ s.size
  | 11, v, _ => ∃ u : ByteArray, v = .string u ∧ u.size ≤ s.size + s.size + 1
  | 12, v, _ => ∃ u : ByteArray, v = .string u ∧ u.size ≤ s.size + s.size + 1
  | _, _, _ => True
theorem YB.on (g : Nat) (s : ByteArray) (k : Nat) (i : Nat) (v : Value) (w w' : World) (ha : Apt g w w') (h : YB g s k i v w) : YB g s k i v w' := by
  match i, h with
  | 4, h =>
    obtain ⟨b, rfl, hg, hb, hc⟩ := h
    exact ⟨b, rfl, hg, Nat.lt_of_lt_of_le hb ha.size, fun j hj => (ha.cell (p := ⟨b, j, none⟩) hb hg).trans (hc j hj)⟩
  | 0, h | 1, h | 2, h | 3, h | 5, h | 6, h | 7, h | 8, h | 9, h | 10, h | 11, h | 12, h => exact h
  | n + 13, _ => trivial

/-- a text, whatever it is -/
def Any (lo g p : Nat) (w : World) (e : Ending) (w' : World) : Prop := ∃ (s : ByteArray) (p' : Nat), e = .returned (.string s) ∧ s.size ≤ 1000 ∧ Rdr lo w' g p' ∧ p' ≤ p + 8000 ∧ Apt g w w'

set_option maxHeartbeats 4000000 in
set_option maxRecDepth 100000 in
theorem bad_any {lo : Nat} (g p : Nat) (hp : p ≤ 100000) (s : ByteArray) (hs1 : 1 ≤ s.size) (hs2 : s.size ≤ 300) (w : World) (h : Rdr lo w g p) :
    Calls Tryz.prog 48 #[.pointer (some ⟨g, 0, none⟩), .string s] w (Any lo g p w) := by
  have HP := Lib.hid (pick_r g p (by omega) 30 w h)
  clear h
  go_enter Tryz.func48, Tryz.ntmps48
  go_wp2_with fail
  refine HP.out.mono ?_
  rintro e w1 ⟨q, rfl, ⟨hq0, -⟩, hq1, hr, ha⟩
  have HA := Lib.hid ha
  clear ha HP
  by_cases h0 : q = 0
  · subst h0
    have HN := Lib.hid (of_lit g (p + 1) (by omega) [⟨#[48]⟩, ⟨#[65]⟩, ⟨#[32]⟩] (by decide) (by decide) 3 w1 hr)
    clear hr hq0 hq1
    go_wp2_with fail
    refine HN.out.mono ?_
    rintro e w2 ⟨u, rfl, hu, hr, ha⟩
    have hu1 := tri_le u hu
    have HR := Lib.hid hr
    have HA2 := Lib.hid (HA.out.trans ha)
    have hcat := fun W => run_string_add_sum (P := Tryz.prog) (w := W) s u (by omega)
    clear hr ha hu HN HA
    go_wp2_with fail
    go_ret
    exact ⟨_, p + 1 + 1, rfl, by rw [ByteArray.size_append]; omega, HR.out, by omega, HA2.out⟩
  by_cases h1 : q = 1
  · subst h1
    have HR := Lib.hid hr
    have hle : (s.size : Int) - 1 ≤ (s.size : Int) := by omega
    have hpos : (0 : Int) ≤ (s.size : Int) - 1 := by omega
    clear hr hq0 hq1 h0
    go_wp2_with fail
    go_ret
    exact ⟨_, p + 1, rfl, by rw [ByteArray.size_extract]; omega, HR.out, by omega, HA.out⟩
  by_cases h2 : q = 2
  · subst h2
    have HQ := Lib.hid (pick_r g (p + 1) (by omega) (s.size : Int) w1 hr)
    clear hr hq0 hq1 h0 h1
    go_wp2_with fail
    refine HQ.out.mono ?_
    rintro e w6 ⟨k, rfl, ⟨hk0, -⟩, hk1, hr, hap⟩
    have HA6 := Lib.hid (HA.out.trans hap)
    obtain ⟨k, rfl⟩ := Int.eq_ofNat_of_zero_le hk0
    have hk : k < s.size := by omega
    have HR6 := Lib.hid hr
    clear hr hap HQ HA hk0 hk1
    go_wp2_with fail
    refine wp_region_draws g (p + 1 + 1) (YB g s k) (YB.on g s k) (by kernel_rfl) (by kernel_rfl) rfl HR6.out ?con ?en
    case con =>
      intro i o ho a wx p9 hp3 hp4 hax hrx hf
      have hp5 : p9 ≤ 120000 := Nat.le_trans hp4 (by show _ + 400 * 13 ≤ _; omega)
      match i, ho with
      | 0, ho =>
        obtain rfl := Option.some.inj ho
        have b1 : a.tmps[1]?.getD undef = .string s := hf.2 1 (by kernel_rfl)
        exact wp_value (.string s) (by unfold execOp; go_simp) ⟨_, p9, rfl, rfl, Apt.refl _ _, hrx, Nat.le_refl _, by omega⟩
      | 1, ho =>
        obtain rfl := Option.some.inj ho
        have b5 : a.tmps[5]?.getD undef = .int .i64 (k : Int) := hf.2 5 (by kernel_rfl)
        exact wp_value (.int .i64 (k : Int)) (by unfold execOp; go_simp) ⟨_, p9, rfl, rfl, Apt.refl _ _, hrx, Nat.le_refl _, by omega⟩
      | 2, ho =>
        obtain rfl := Option.some.inj ho
        have e28 : a.tmps[28]?.getD undef = .string s := hf.1 ⟨0, .data⟩ (by simp) rfl _ 28 rfl rfl
        have e29 : a.tmps[29]?.getD undef = .int .i64 (k : Int) := hf.1 ⟨1, .data⟩ (by simp) rfl _ 29 rfl rfl
        have hki : (k : Int) ≤ (s.size : Int) := by omega
        exact wp_value (.string (s.extract 0 k)) (by unfold execOp; go_simp) ⟨_, p9, rfl, rfl, Apt.refl _ _, hrx, Nat.le_refl _, by omega⟩
      | 3, ho =>
        obtain rfl := Option.some.inj ho
        have b0 : a.tmps[0]?.getD undef = .pointer (some ⟨g, 0, none⟩) := hf.2 0 (by kernel_rfl)
        exact wp_value (.pointer (some ⟨g, 0, none⟩)) (by unfold execOp; go_simp) ⟨_, p9, rfl, rfl, Apt.refl _ _, hrx, Nat.le_refl _, by omega⟩
      | 4, ho =>
        obtain rfl := Option.some.inj ho
        have hgl := hrx.lt
        have hb := (Below.refl wx.heap.size wx).alloc (Nat.le_refl _) (.cells (([⟨#[97]⟩, ⟨#[70]⟩, ⟨#[65]⟩, ⟨#[50]⟩] : List ByteArray).map fun x : ByteArray => Value.string x).toArray 9)
        refine wp_made (wx.alloc (.cells (([⟨#[97]⟩, ⟨#[70]⟩, ⟨#[65]⟩, ⟨#[50]⟩] : List ByteArray).map fun x : ByteArray => Value.string x).toArray 9)) (.slice (some ⟨wx.heap.size, 0, none⟩) 4 4) ?_ ⟨_, p9, rfl, ⟨wx.heap.size, rfl, by omega, by simp, fun j hj => cells_str wx 9 ([⟨#[97]⟩, ⟨#[70]⟩, ⟨#[65]⟩, ⟨#[50]⟩] : List ByteArray) j hj⟩, Apt.of_below hb, hrx.later hb, Nat.le_refl _, by omega⟩
        unfold execOp
        go_simp
      | 5, ho =>
        obtain rfl := Option.some.inj ho
        have e31 : a.tmps[31]?.getD undef = .pointer (some ⟨g, 0, none⟩) := hf.1 ⟨3, .data⟩ (by simp) rfl _ 31 rfl rfl
        obtain ⟨b, e32, hbg, hbl, hbc⟩ : ∃ b, a.tmps[32]?.getD undef = .slice (some ⟨b, 0, none⟩) 4 4 ∧ b ≠ g ∧ b < wx.heap.size ∧ ∀ j (hj : j < ([⟨#[97]⟩, ⟨#[70]⟩, ⟨#[65]⟩, ⟨#[50]⟩] : List ByteArray).length), wx.cell? ⟨b, j, none⟩ = some (.string ([⟨#[97]⟩, ⟨#[70]⟩, ⟨#[65]⟩, ⟨#[50]⟩] : List ByteArray)[j]) := hf.1 ⟨4, .data⟩ (by simp) rfl _ 32 rfl rfl
        exact wp_enterP 15 #[.pointer (some ⟨g, 0, none⟩), .slice (some ⟨b, 0, none⟩) 4 4] (fun v w' => (∃ u : ByteArray, v = .string u ∧ u.size ≤ 1) ∧ Rdr lo w' g (p9 + 1) ∧ Apt g wx w') (by unfold execOp; go_simp)
          ((of_any g p9 (by omega) ([⟨#[97]⟩, ⟨#[70]⟩, ⟨#[65]⟩, ⟨#[50]⟩] : List ByteArray) (by decide) (by decide) b 4 hbg wx hrx hbl hbc).mono fun e w' h => by obtain ⟨x, he, hx, hr, ha⟩ := h; exact ⟨_, he, ⟨x, rfl, one_le x hx⟩, hr, ha⟩)
          (fun v w' h => ⟨v, p9 + 1, rfl, h.1, h.2.2, h.2.1, by omega, by omega⟩)
      | 6, ho =>
        obtain rfl := Option.some.inj ho
        have e30 : a.tmps[30]?.getD undef = .string (s.extract 0 k) := hf.1 ⟨2, .data⟩ (by simp) rfl _ 30 rfl rfl
        obtain ⟨u, e33, hu⟩ : ∃ u : ByteArray, a.tmps[33]?.getD undef = .string u ∧ u.size ≤ 1 := hf.1 ⟨5, .data⟩ (by simp) rfl _ 33 rfl rfl
        have hex : (s.extract 0 k).size ≤ s.size := by rw [ByteArray.size_extract]; omega
        have hcat := run_string_add_sum (P := Tryz.prog) (w := wx) (s.extract 0 k) u (by omega)
        exact wp_value (.string (s.extract 0 k ++ u)) (by unfold execOp; go_simp) ⟨_, p9, rfl, ⟨_, rfl, by rw [ByteArray.size_append]; omega⟩, Apt.refl _ _, hrx, Nat.le_refl _, by omega⟩
      | 7, ho =>
        obtain rfl := Option.some.inj ho
        have b1 : a.tmps[1]?.getD undef = .string s := hf.2 1 (by kernel_rfl)
        exact wp_value (.string s) (by unfold execOp; go_simp) ⟨_, p9, rfl, rfl, Apt.refl _ _, hrx, Nat.le_refl _, by omega⟩
      | 8, ho =>
        obtain rfl := Option.some.inj ho
        have b5 : a.tmps[5]?.getD undef = .int .i64 (k : Int) := hf.2 5 (by kernel_rfl)
        exact wp_value (.int .i64 (k : Int)) (by unfold execOp; go_simp) ⟨_, p9, rfl, rfl, Apt.refl _ _, hrx, Nat.le_refl _, by omega⟩
      | 9, ho =>
        obtain rfl := Option.some.inj ho
        have e36 : a.tmps[36]?.getD undef = .int .i64 (k : Int) := hf.1 ⟨8, .data⟩ (by simp) rfl _ 36 rfl rfl
        have hwr : IntKind.i64.wrap ((k : Int) + 1) = (k : Int) + 1 := by rw [IntWalk.i64_in _ ⟨by omega, by omega⟩]
        exact wp_value (.int .i64 ((k : Int) + 1)) (by unfold execOp; go_simp) ⟨_, p9, rfl, rfl, Apt.refl _ _, hrx, Nat.le_refl _, by omega⟩
      | 10, ho =>
        obtain rfl := Option.some.inj ho
        have e35 : a.tmps[35]?.getD undef = .string s := hf.1 ⟨7, .data⟩ (by simp) rfl _ 35 rfl rfl
        have e37 : a.tmps[37]?.getD undef = .int .i64 ((k : Int) + 1) := hf.1 ⟨9, .data⟩ (by simp) rfl _ 37 rfl rfl
        have hqi : (k : Int) + 1 ≤ (s.size : Int) := by omega
        exact wp_value (.string (s.extract (k + 1) s.size)) (by unfold execOp; go_simp; intro hneg; exact absurd hneg (by omega)) ⟨_, p9, rfl, ⟨_, rfl, by rw [ByteArray.size_extract]; omega⟩, Apt.refl _ _, hrx, Nat.le_refl _, by omega⟩
      | 11, ho =>
        obtain rfl := Option.some.inj ho
        obtain ⟨u, e34, hu⟩ : ∃ u : ByteArray, a.tmps[34]?.getD undef = .string u ∧ u.size ≤ s.size + 1 := hf.1 ⟨6, .data⟩ (by simp) rfl _ 34 rfl rfl
        obtain ⟨u2, e38, hu2⟩ : ∃ u : ByteArray, a.tmps[38]?.getD undef = .string u ∧ u.size ≤ s.size := hf.1 ⟨10, .data⟩ (by simp) rfl _ 38 rfl rfl
        have hcat := run_string_add_sum (P := Tryz.prog) (w := wx) u u2 (by omega)
        exact wp_value (.string (u ++ u2)) (by unfold execOp; go_simp) ⟨_, p9, rfl, ⟨_, rfl, by rw [ByteArray.size_append]; omega⟩, Apt.refl _ _, hrx, Nat.le_refl _, by omega⟩
      | 12, ho =>
        obtain rfl := Option.some.inj ho
        obtain ⟨u, e39, hu⟩ : ∃ u : ByteArray, a.tmps[39]?.getD undef = .string u ∧ u.size ≤ s.size + s.size + 1 := hf.1 ⟨11, .data⟩ (by simp) rfl _ 39 rfl rfl
        exact wp_value (.string u) (by unfold execOp; go_simp) ⟨_, p9, rfl, ⟨_, rfl, hu⟩, Apt.refl _ _, hrx, Nat.le_refl _, by omega⟩
      | q + 13, ho => simp at ho
    case en =>
      intro vs wx p9 hp3 hp4 hax hrx hall
      have hp6 : p9 ≤ p + 8000 := Nat.le_trans hp4 (by show _ + 400 * 13 ≤ _; omega)
      obtain ⟨u, hu, hus⟩ : ∃ u : ByteArray, vs 12 = .string u ∧ u.size ≤ s.size + s.size + 1 := hall 12 _ rfl
      have HA7 := Lib.hid (HA6.out.trans hax)
      have HR7 := Lib.hid hrx
      clear hax hrx hall HR6 HA6 hp3 hp4
      simp only [fill, Act.put, hu]
      go_simp
      go_wp2_with fail
      go_ret
      exact ⟨u, p9, rfl, by omega, HR7.out, hp6, HA7.out⟩
  · have HR := Lib.hid hr
    have b0 : (q == 0) = false := beq_false_of_ne h0
    have b1 : (q == 1) = false := beq_false_of_ne h1
    have b2 : (q == 2) = false := beq_false_of_ne h2
    clear hr hq0 hq1 h0 h1 h2
    go_wp2_with fail
    go_ret
    exact ⟨s, p + 1, rfl, by omega, HR.out, by omega, HA.out⟩

set_option maxHeartbeats 1000000 in
theorem open5_any {lo : Nat} (g p : Nat) (hp : p ≤ 50000) (w : World) (h : Rdr lo w g p) :
    Calls Tryz.prog 34 #[.pointer (some ⟨g, 0, none⟩)] w fun e w' => ∃ (s : ByteArray) (p' : Nat), e = .returned (.string s) ∧ s.size ≤ 1000 ∧ Rdr lo w' g p' ∧ p' ≤ p + 9000 ∧ Apt g w w' := by
  have HS := Lib.hid (l5some_any g p (by omega) w h)
  clear h
  go_enter Tryz.func34, Tryz.ntmps34
  go_wp2_with fail
  refine HS.out.mono ?_
  rintro e w1 ⟨t, p1, rfl, hw, hb, hr, hp1, ha⟩
  have hl := len_pow t 4 hb (by omega)
  have hl1 := text_pos t
  have HA := Lib.hid ha
  have HB := Lib.hid (bad_any g p1 (by omega) (str (text t)) (by rw [str_size]; omega) (by rw [str_size]; omega) w1 hr)
  clear hr ha HS hw hb hl hl1
  generalize str (text t) = q at *
  go_wp2_with fail
  refine HB.out.mono ?_
  rintro e w2 ⟨s, p2, rfl, hs, hr, hp2, ha⟩
  have HA2 := Lib.hid (HA.out.trans ha)
  have HR := Lib.hid hr
  clear hr ha HB HA
  go_wp2_with fail
  go_ret
  exact ⟨s, p2, rfl, hs, HR.out, by omega, HA2.out⟩

set_option maxHeartbeats 1000000 in
/-- the arguments of MatrixOf: any text that is not too long, and any numbers -/
theorem draw_mat5 (v : Value) (n : Nat) (w : World) (h : ByteArg w v n) :
    Calls Tryz.prog 13 #[v] w fun e w' => ∃ (s : ByteArray) (r c : Int), e = .returned (.tuple #[.string s, .int .i64 r, .int .i64 c]) ∧ s.size ≤ 1000 ∧ (-1 ≤ r ∧ r ≤ 9223372036854775807) ∧ (-1 ≤ c ∧ c ≤ 9223372036854775807) ∧ Below w.heap.size w w' := by
  have HO := Lib.hid (open_any v n w h)
  clear h
  go_enter Tryz.func13, Tryz.ntmps13
  go_wp2_with fail
  refine HO.out.mono ?_
  rintro e w1 ⟨g, rfl, hr, hb, hg⟩
  have HB := Lib.hid hb
  have HS := Lib.hid (open5_any g 0 (by omega) w1 hr)
  clear hr hb HO
  go_wp2_with fail
  refine HS.out.mono ?_
  rintro e w2 ⟨s, p2, rfl, hs, hr, hp2, ha⟩
  have HB2 : Hid (Below w.heap.size w w2) := ha.below HB.out (by omega)
  have H1 := Lib.hid (side5_any g p2 (by omega) w2 hr)
  clear hr ha HS HB
  go_wp2_with fail
  refine H1.out.mono ?_
  rintro e w3 ⟨r, rfl, hr1, hr2, hr, ha⟩
  have HB3 : Hid (Below w.heap.size w w3) := ha.below HB2.out (by omega)
  have H2 := Lib.hid (side5_any g (p2 + 2) (by omega) w3 hr)
  clear hr ha H1 HB2
  go_wp2_with fail
  refine H2.out.mono ?_
  rintro e w4 ⟨c, rfl, hc1, hc2, hr, ha⟩
  have HB4 : Hid (Below w.heap.size w w4) := ha.below HB3.out (by omega)
  clear hr ha H2 HB3
  go_wp2_with fail
  go_returns
  exact ⟨s, r, c, rfl, hs, ⟨hr1, hr2⟩, ⟨hc1, hc2⟩, HB4.out⟩
end Go.Proofs.YtbbgibbpeibhiaaGreatDoor.DrawB5

/-
  The drawing function DrawBalanceProtocol.
-/
namespace Go.Proofs.YtbbgibbpeibhiaaGreatDoor.DrawBal
open Go.RowKit Go.Shelf Go.Proofs.YtbbgibbpeibhiaaGreatDoor.Plain Go.Proofs.YtbbgibbpeibhiaaGreatDoor.Tree Go.Proofs.YtbbgibbpeibhiaaGreatDoor.Rect Go.Proofs.YtbbgibbpeibhiaaGreatDoor.Read Go.Proofs.YtbbgibbpeibhiaaGreatDoor.Parts Go.Proofs.YtbbgibbpeibhiaaGreatDoor.TreeOf Go.Proofs.YtbbgibbpeibhiaaGreatDoor.FreeL Go.Proofs.YtbbgibbpeibhiaaGreatDoor.Rd Go.Proofs.YtbbgibbpeibhiaaGreatDoor.Rd2 Go.Proofs.YtbbgibbpeibhiaaGreatDoor.Rd3 Go.Proofs.YtbbgibbpeibhiaaGreatDoor.DrawT Go.Proofs.YtbbgibbpeibhiaaGreatDoor.DrawP5 Go.Proofs.YtbbgibbpeibhiaaGreatDoor.DrawB5 Go.Proofs.YtbbgibbpeibhiaaGreatDoor.SetW
set_option linter.unusedVariables false
set_option linter.unusedSimpArgs false

theorem two_le (u : ByteArray) (h : u ∈ ([⟨#[65]⟩, ⟨#[66]⟩] : List ByteArray)) : u.size ≤ 1 := by
  simp only [List.mem_cons, List.not_mem_nil, or_false] at h
  rcases h with rfl | rfl <;> decide
theorem bit_le (u : ByteArray) (h : u ∈ ([⟨#[48]⟩, ⟨#[49]⟩] : List ByteArray)) : u.size ≤ 1 := by
  simp only [List.mem_cons, List.not_mem_nil, or_false] at h
  rcases h with rfl | rfl <;> decide
theorem pow_wrap (k : Nat) (h : k < 5) : wrap64 ((2 : Int) ^ k) = ((2 ^ k : Nat) : Int) ∧ 2 ^ k < 256 := by
  have e : ∀ j : Fin 5, wrap64 ((2 : Int) ^ j.1) = ((2 ^ j.1 : Nat) : Int) ∧ 2 ^ j.1 < 256 := by decide +kernel
  exact e ⟨k, h⟩

set_option maxHeartbeats 4000000 in
set_option maxRecDepth 100000 in
theorem draw_bal (v : Value) (n : Nat) (w : World) (h : ByteArg w v n) :
    Calls Tryz.prog 4 #[v] w fun e w' => ∃ (s : ByteArray) (r c : Int), e = .returned (.tuple #[.string s, .int .i64 r, .int .i64 c]) ∧ s.size ≤ 1000 ∧ (-1 ≤ r ∧ r ≤ 9223372036854775807) ∧ (-1 ≤ c ∧ c ≤ 9223372036854775807) ∧ Below w.heap.size w w' := by
  have HO := Lib.hid (open_any v n w h)
  have HD := Lib.hid (fun w1 (hb : Below w.heap.size w w1) => draw_mat5 v n w1 (h.later hb))
  clear h
  go_enter Tryz.func4, Tryz.ntmps4
  go_wp2_with fail
  refine HO.out.mono ?_
  rintro e w1 ⟨g, rfl, hr, hb, hg⟩
  have HB := Lib.hid hb
  have HG := Lib.hid hg
  have HR := Lib.hid hr
  have HM := Lib.hid (HD.out w1 hb)
  clear hr hb hg HO HD
  go_wp2_with fail
  refine HM.out.mono ?_
  rintro e w2 ⟨s, r, c, rfl, hs, hrr, hcc, hb2⟩
  have HB2 : Hid (Below w.heap.size w w2) := HB.out.trans (hb2.mono HB.out.size)
  have HP := Lib.hid (pick_r g 0 (by omega) 3 w2 (HR.out.later hb2))
  have HRC := Lib.hid (And.intro hrr hcc)
  clear hb2 HM HR HB hrr hcc
  go_wp2_with fail
  refine HP.out.mono ?_
  rintro e w3 ⟨q, rfl, ⟨hq0, -⟩, hq1, hr, ha⟩
  have HB3 : Hid (Below w.heap.size w w3) := ha.below HB2.out HG.out
  by_cases h0 : (0 : Int) < q
  · clear hr ha HP HB2 hq0 hq1
    go_wp2_with fail
    go_returns
    exact ⟨s, r, c, rfl, hs, HRC.out.1, HRC.out.2, HB3.out⟩
  · have HN := Lib.hid (of_lit g (0 + 1) (by omega) [⟨#[48]⟩, ⟨#[49]⟩] (by decide) (by decide) 2 w3 hr)
    clear hr ha HP HB2 hq0 hq1
    go_wp2_with fail
    refine HN.out.mono ?_
    rintro e w4 ⟨u, rfl, hu, hr, ha⟩
    have hu1 := bit_le u hu
    have HB4 : Hid (Below w.heap.size w w4) := ha.below HB3.out HG.out
    have HP2 := Lib.hid (pick_r g (0 + 1 + 1) (by omega) 5 w4 hr)
    clear hr ha hu HN HB3 h0
    go_wp2_with fail
    refine HP2.out.mono ?_
    rintro e w5 ⟨k0, rfl, ⟨hk0, -⟩, hk1, hr, ha⟩
    have HB5 : Hid (Below w.heap.size w w5) := ha.below HB4.out HG.out
    obtain ⟨k0, rfl⟩ := Int.eq_ofNat_of_zero_le hk0
    have hk5 : k0 < 5 := by omega
    have HR5 := Lib.hid hr
    clear hr ha HP2 HB4 hk0 hk1
    go_wp2_with fail
    go_loopw [9, 10] (fun x y wr => ∃ (z : ByteArray) (k p : Nat), x = .string z ∧ y = .int .i64 (k : Int) ∧ k ≤ 5 ∧ z.size + 4 * k ≤ 30 ∧ p + 3 * k ≤ 30 ∧ Hid (Rdr w.heap.size wr g p) ∧ Hid (Below w.heap.size w wr)) (fun _ y _ => (intOf y).toNat)
    case atStart => exact ⟨u, k0 + 1, _, rfl, by go_num, by omega, by omega, by omega, HR5.out, HB5.out⟩
    case round =>
      rename_i wr
      obtain ⟨z, k, p, rfl, rfl, hk, hz, hp, HR, HBr⟩ := hrel
      clear HR5 HB5
      by_cases hk0 : 0 < k
      · have hk0i : (0 : Int) < (k : Int) := by omega
        have HN := Lib.hid (of_lit g p (by omega) [⟨#[65]⟩, ⟨#[66]⟩] (by decide) (by decide) 2 wr HR.out)
        go_wp2_with fail
        refine HN.out.mono ?_
        rintro e w6 ⟨ua, rfl, hua, hr, ha⟩
        have hua1 := two_le ua hua
        have HB6 : Hid (Below w.heap.size w w6) := ha.below HBr.out HG.out
        have HP6 := Lib.hid (pick_r g (p + 1) (by omega) 5 w6 hr)
        clear hr ha hua HN HBr HR
        go_wp2_with fail
        refine HP6.out.mono ?_
        rintro e w7 ⟨j, rfl, ⟨hj0, -⟩, hj1, hr, ha⟩
        have HB7 : Hid (Below w.heap.size w w7) := ha.below HB6.out HG.out
        obtain ⟨j, rfl⟩ := Int.eq_ofNat_of_zero_le hj0
        obtain ⟨hpw, hp256⟩ := pow_wrap j (by omega)
        have HN7 := Lib.hid (of_lit g (p + 1 + 1) (by omega) [⟨#[48]⟩, ⟨#[49]⟩] (by decide) (by decide) 2 w7 hr)
        obtain ⟨M, hM⟩ : ∃ M : Nat, 2 ^ j = M := ⟨_, rfl⟩
        rw [hM] at hpw hp256
        clear hr ha HP6 HB6 hj0 hM
        have hj5 : j < 5 := by omega
        clear hj1
        go_wp2_with fail
        refine HN7.out.mono ?_
        rintro e w8 ⟨ub, rfl, hub, hr, ha⟩
        have hub1 := bit_le ub hub
        have HB8 : Hid (Below w.heap.size w w8) := ha.below HB7.out HG.out
        have HR8 := Lib.hid hr
        have HNo := Lib.hid (node_said ua z ub M hp256 (by omega) (by omega) (by omega) w8)
        obtain ⟨qn, hqn⟩ : ∃ q, ua ++ str [hexD (M / 16)] ++ str [hexD (M % 16)] ++ z ++ ub = q := ⟨_, rfl⟩
        have hqs : qn.size ≤ z.size + 4 := by
          rw [← hqn]
          simp only [ByteArray.size_append, str_size, List.length_singleton]
          omega
        rw [hqn] at HNo
        clear hr ha hub HN7 HB7 hqn
        go_wp2_with fail
        refine HNo.out.mono ?_
        rintro e w9 ⟨rfl, hb9⟩
        have HB9 : Hid (Below w.heap.size w w9) := HB8.out.trans (hb9.mono HB8.out.size)
        have HR9 := Lib.hid (HR8.out.later hb9)
        clear hb9 HNo HB8 HR8
        have hkm : (k : Int) - 1 = ((k - 1 : Nat) : Int) := by omega
        have HKM := Lib.hid hkm
        clear hkm
        go_wp2_with fail
        go_roundw
        case rel => exact ⟨qn, k - 1, p + 1 + 1 + 1, rfl, by rw [HKM.out], by omega, by omega, by omega, HR9.out, HB9.out⟩
        case measure => simp [intOf]; omega
      · obtain hk00 : k = 0 := by omega
        subst hk00
        go_wp2_with fail
        go_returns
        exact ⟨z, 5, 5, rfl, by omega, by omega, by omega, HBr.out⟩

end Go.Proofs.YtbbgibbpeibhiaaGreatDoor.DrawBal

/-
  What a function keeps of a slice that it builds by append: whatever the elements.
-/
namespace Go.Proofs.YtbbgibbpeibhiaaGreatDoor.App
open Go.RowKit
set_option linter.unusedVariables false

/-- wr holds the slice v of n elements, laid since w0; what lay in w0 lies as it lay -/
structure Own (w0 wr : World) (e : TypeId) (k : Nat) (v : Value) (n : Nat) (xs : List Value) : Prop where
  row : wr.ownsRow w0.heap.size e k v n xs
  below : Below w0.heap.size w0 wr
theorem Own.later {w0 wr w2 : World} {e : TypeId} {k n : Nat} {v : Value} {xs : List Value} (h : Own w0 wr e k v n xs) (hb : Below wr.heap.size wr w2) : Own w0 w2 e k v n xs := by
  refine ⟨⟨h.row.1, ?_⟩, h.below.trans (hb.mono h.below.size)⟩
  rcases h.row.2 with h1 | ⟨g, cap, cur, h2, h3, h4, h5⟩
  · exact .inl h1
  · exact .inr ⟨g, cap, cur, h2, h3, (hb.block g (Array.getElem?_eq_some_iff.1 h4).1).trans h4, h5⟩
theorem Own.none (w0 : World) (e : TypeId) (k : Nat) : Own w0 w0 e k (.slice .none 0 0) 0 [] := ⟨⟨by simp, .inl ⟨rfl, rfl⟩⟩, Below.refl _ _⟩
theorem Own.lit (w0 : World) (e : TypeId) (k : Nat) : Own w0 (w0.alloc (.cells #[] e)) e k (.slice (some ⟨w0.heap.size, 0, .none⟩) 0 0) 0 [] :=
  ⟨World.ownsRow_lit w0 #[] 0 (Nat.le_refl _) (by unfold maxLen; omega) (by simp), (Below.refl _ _).alloc (Nat.le_refl _) _⟩
theorem Own.next {w0 w2 w3 : World} {e : TypeId} {k n m : Nat} {v v3 : Value} {xs ys : List Value} (h : Own w0 w2 e k v n xs) (o : Obj)
    (h3 : w3.ownsRow w0.heap.size e k v3 m ys) (hg : (w2.alloc o).grownBy w3 v.ownBlock) : Own w0 w3 e k v3 m ys :=
  ⟨h3, (h.below.alloc h.below.size o).grown hg (by have := h.below.size; simp at this ⊢; omega) fun j hj => (h.row.lt j hj).1⟩
theorem Own.slice {w0 wr : World} {e : TypeId} {k n : Nat} {v : Value} {xs : List Value} (h : Own w0 wr e k v n xs) : ∃ p c, v = .slice p n c := by
  rcases h.row.2 with ⟨rfl, rfl⟩ | ⟨g, cap, cur, rfl, _⟩
  · exact ⟨_, _, rfl⟩
  · exact ⟨_, _, rfl⟩
/-- the elements' cells -/
theorem Own.cell {w0 wr : World} {e : TypeId} {k n : Nat} {p : Option Addr} {c : Nat} {xs : List Value} (h : Own w0 wr e k (.slice p n c) n xs) (j : Nat) (hj : j < n * k) : ∃ g, p = some ⟨g, 0, .none⟩ ∧ w0.heap.size ≤ g ∧ g < wr.heap.size ∧ wr.cell? ⟨g, j, .none⟩ = xs[j]? := by
  rcases h.row.2 with ⟨e1, rfl⟩ | ⟨g, cap, cur, e1, h1, h2, h3⟩
  · simp at hj
  · injection e1 with e1 _ e3
    subst e1
    exact ⟨g, rfl, h1, (Array.getElem?_eq_some_iff.1 h2).1, World.ownsRow.cellAt (cap := cap) (by rw [← e3]; exact h.row) j hj⟩
end Go.Proofs.YtbbgibbpeibhiaaGreatDoor.App

