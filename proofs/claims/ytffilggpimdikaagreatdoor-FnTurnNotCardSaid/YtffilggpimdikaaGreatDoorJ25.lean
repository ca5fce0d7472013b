/-
  Texts of one seat, joined: SaidTG, Edit, TurnPWalk, Graft.
-/
import Derived.Test.YtffilggpimdikaaGreatDoorJ4
import Derived.Laws.Concat
import Derived.Test.YtffilggpimdikaaGreatDoorJ8
import Derived.Test.YtffilggpimdikaaGreatDoorJ5
import Derived.Test.YtffilggpimdikaaGreatDoorJ16
import Derived.Test.YtffilggpimdikaaGreatDoorJ9
/-
  The reference on a protocol's text: players exchanged, other protocols at the ends, ends of a value.
-/
namespace Go.Proofs.YtffilggpimdikaaGreatDoor.SaidTG
open Go.RowKit Go.Shelf Go.Proofs.YtffilggpimdikaaGreatDoor.Plain Go.Proofs.YtffilggpimdikaaGreatDoor.Tree Go.Proofs.YtffilggpimdikaaGreatDoor.Hex Go.Proofs.YtffilggpimdikaaGreatDoor.Read Go.Proofs.YtffilggpimdikaaGreatDoor.Parts
open Go.Proofs.YtffilggpimdikaaGreatDoor.Wq (WQ wq_step wq_nil region_kept drew_at)
set_option linter.unusedVariables false
set_option linter.unusedSimpArgs false

theorem l1Int_w (b : Bool) (w : World) : Calls Tryz.prog 117 #[.bool b] w fun e w' => e = .returned (.int .i64 (if b then 1 else 0)) ∧ w = w' := by
  cases b
  all_goals
    go_enter Tryz.func117, Tryz.ntmps117
    go_wp2
    go_ret
    exact ⟨rfl, rfl⟩

set_option maxHeartbeats 4000000 in
set_option maxRecDepth 100000 in
theorem said_turn (t : T) : wf t → (text t).length ≤ 2000 → ∀ w : World, Calls Tryz.prog 53 #[.string (str (text t))] w fun e w' => e = .returned (.string (str (text (turnT t)))) ∧ Below w.heap.size w w' := by
  induction t with
  | leaf b =>
    intro _ _ w
    have HL : Hid (∀ W, Calls Tryz.prog 81 #[.string (str (text (.leaf b)))] W fun e w' => e = .returned (.bool true) ∧ W = w') := leaf_yes _ (by rw [str_size]; rfl)
    show Calls _ _ _ _ fun e w' => e = .returned (.string (str (text (.leaf b)))) ∧ _
    generalize str (text (.leaf b)) = s at *
    go_enter Tryz.func53, Tryz.ntmps53
    go_wp2_with fail
    refine (HL.out _).mono ?_
    rintro e w' ⟨rfl, rfl⟩
    go_wp2_with fail
    go_ret
    exact ⟨rfl, Below.refl _ _⟩
  | say a v z o ihz iho =>
    intro hw hl w
    have hlz : (text (.say a v z o)).length = (text z).length + (text o).length + 3 := by simp [text]
    have HZ := Lib.hid (ihz hw.2.1 (by omega))
    have HO := Lib.hid (iho hw.2.2 (by omega))
    have HL : Hid (∀ W, Calls Tryz.prog 81 #[.string (str (text (.say a v z o)))] W fun e w' => e = .returned (.bool false) ∧ W = w') := leaf_no _ (by rw [str_size]; omega)
    have HP := Lib.hid (parts_w a v z o hw.2.1 (str (text (.say a v z o))) (str_data _) (by rw [str_size]; omega))
    have hx : (str (text (.say a v z o))).extract 1 3 = str [hexD (v / 16), hexD (v % 16)] := by
      apply eq_str
      rw [data_extract, str_data]
      rfl
    have hs3 : 3 ≤ (str (text (.say a v z o))).size := by rw [str_size]; omega
    obtain ⟨hk, hx0⟩ := at_drop (s := str (text (.say a v z o))) (k := 0) (c := whoB a) (r := hexD (v / 16) :: hexD (v % 16) :: (text z ++ text o)) (by rw [str_data]; rfl)
    have hn : ((str (text (.say a v z o)))[0]'hk).toNat = (whoB a).toNat := by rw [hx0]
    have lz := turn_length z
    have lo := turn_length o
    have HR : Hid (str (text (turnT (.say a v z o))) = str [whoB (!a)] ++ str [hexD (v / 16), hexD (v % 16)] ++ str (text (turnT z)) ++ str (text (turnT o))) := by
      show _ = _
      rw [str_append, str_append, str_append]
      rfl
    have s1 : (str (text (turnT z))).size ≤ 2000 := by rw [str_size]; omega
    have s2 : (str (text (turnT o))).size ≤ 2000 := by rw [str_size]; omega
    have s0 : (str [hexD (v / 16), hexD (v % 16)]).size = 2 := by rw [str_size]; rfl
    generalize str (text (turnT (.say a v z o))) = res at *
    generalize str (text (.say a v z o)) = s at *
    generalize str (text (turnT z)) = rz at *
    generalize str (text (turnT o)) = ro at *
    generalize str (text z) = sz at *
    generalize str (text o) = so at *
    generalize str [hexD (v / 16), hexD (v % 16)] = hx2 at *
    have HN := Lib.hid hn
    have hs3i : (3 : Int) ≤ (s.size : Int) := by omega
    clear hl hlz hw ihz iho hx0 lz lo hn
    cases a
    · have hn : (s[0]'hk).toNat = 66 := HN.out
      have HR2 : Hid (res = (⟨#[65]⟩ : ByteArray) ++ hx2 ++ rz ++ ro) := HR.out
      have b1 : ((⟨#[65]⟩ : ByteArray) ++ hx2).size = 3 := by rw [ByteArray.size_append, s0]; rfl
      have q1 := fun W => run_string_add_sum (P := Tryz.prog) (w := W) (⟨#[65]⟩ : ByteArray) hx2 (by rw [s0]; decide)
      have q2 := fun W => run_string_add_sum (P := Tryz.prog) (w := W) ((⟨#[65]⟩ : ByteArray) ++ hx2) rz (by omega)
      have q3 := fun W => run_string_add_sum (P := Tryz.prog) (w := W) ((⟨#[65]⟩ : ByteArray) ++ hx2 ++ rz) ro (by rw [ByteArray.size_append]; omega)
      clear HN HR b1
      go_enter Tryz.func53, Tryz.ntmps53
      go_wp2_with fail
      refine (HL.out _).mono ?_
      rintro e w' ⟨rfl, rfl⟩
      go_wp2_with fail
      refine (HP.out _).mono ?_
      rintro e w1 ⟨rfl, hb1⟩
      have HW := Lib.hid hb1
      clear hb1
      go_wp2_with fail
      refine region_kept (C := fun wx => Below w1.heap.size w1 wx) (drew_at w1) (by kernel_rfl) (by kernel_rfl) ?_
      repeat
        (refine wq_step (fun K hK => ?_)
         go_simp
         first
           | (refine hK _ ?_; clear hK K)
           | (apply Exists.intro
              refine ⟨fun wx hC => ?_, hK _ ?_⟩
              · first
                | with_reducible rfl
                | with_reducible exact ((HZ.out wx).mono fun e w' h => ⟨h.1, hC.trans (h.2.mono hC.size)⟩)
                | with_reducible exact ((HO.out wx).mono fun e w' h => ⟨h.1, hC.trans (h.2.mono hC.size)⟩)
                | (rw [if_pos hs3i]; exact ⟨rfl, rfl⟩)
                | (go_simp; first | done | rfl)
              clear hK K))
      refine wq_nil ?_
      intro w9 hC
      have HB := Lib.hid (HW.out.trans (hC.mono HW.out.size))
      clear hC HW
      go_simp
      go_wp2_with fail
      go_ret
      exact ⟨by rw [HR2.out]; rfl, HB.out⟩
    · have hn : (s[0]'hk).toNat = 65 := HN.out
      have HR2 : Hid (res = (⟨#[66]⟩ : ByteArray) ++ hx2 ++ rz ++ ro) := HR.out
      have b1 : ((⟨#[66]⟩ : ByteArray) ++ hx2).size = 3 := by rw [ByteArray.size_append, s0]; rfl
      have q1 := fun W => run_string_add_sum (P := Tryz.prog) (w := W) (⟨#[66]⟩ : ByteArray) hx2 (by rw [s0]; decide)
      have q2 := fun W => run_string_add_sum (P := Tryz.prog) (w := W) ((⟨#[66]⟩ : ByteArray) ++ hx2) rz (by omega)
      have q3 := fun W => run_string_add_sum (P := Tryz.prog) (w := W) ((⟨#[66]⟩ : ByteArray) ++ hx2 ++ rz) ro (by rw [ByteArray.size_append]; omega)
      clear HN HR b1
      go_enter Tryz.func53, Tryz.ntmps53
      go_wp2_with fail
      refine (HL.out _).mono ?_
      rintro e w' ⟨rfl, rfl⟩
      go_wp2_with fail
      refine (HP.out _).mono ?_
      rintro e w1 ⟨rfl, hb1⟩
      have HW := Lib.hid hb1
      clear hb1
      go_wp2_with fail
      refine region_kept (C := fun wx => Below w1.heap.size w1 wx) (drew_at w1) (by kernel_rfl) (by kernel_rfl) ?_
      repeat
        (refine wq_step (fun K hK => ?_)
         go_simp
         first
           | (refine hK _ ?_; clear hK K)
           | (apply Exists.intro
              refine ⟨fun wx hC => ?_, hK _ ?_⟩
              · first
                | with_reducible rfl
                | with_reducible exact ((HZ.out wx).mono fun e w' h => ⟨h.1, hC.trans (h.2.mono hC.size)⟩)
                | with_reducible exact ((HO.out wx).mono fun e w' h => ⟨h.1, hC.trans (h.2.mono hC.size)⟩)
                | (rw [if_pos hs3i]; exact ⟨rfl, rfl⟩)
                | (go_simp; first | done | rfl)
              clear hK K))
      refine wq_nil ?_
      intro w9 hC
      have HB := Lib.hid (HW.out.trans (hC.mono HW.out.size))
      clear hC HW
      go_simp
      go_wp2_with fail
      go_ret
      exact ⟨by rw [HR2.out]; rfl, HB.out⟩

/-- the text of a value -/
def valS (b : Bool) : ByteArray := ⟨#[dig b]⟩
set_option maxHeartbeats 4000000 in
set_option maxRecDepth 100000 in
theorem said_graft (zero one : T) (t : T) : wf t → (text t).length ≤ 2000 → (text zero).length ≤ 2000 → (text one).length ≤ 2000 → ∀ w : World, Calls Tryz.prog 55 #[.string (str (text t)), .string (str (text zero)), .string (str (text one))] w fun e w' => e = .returned (.string (str (text (graftT zero one t)))) ∧ Below w.heap.size w w' := by
  induction t with
  | leaf b =>
    intro _ _ _ _ w
    cases b
    · show Calls _ _ #[.string ⟨#[48]⟩, .string (str (text zero)), .string (str (text one))] _ fun e w' => e = .returned (.string (str (text zero))) ∧ _
      generalize str (text zero) = s0 at *
      generalize str (text one) = s1 at *
      have hq : ((⟨#[48]⟩ : ByteArray).toList == (⟨#[48]⟩ : ByteArray).toList) = true := by simp
      go_enter Tryz.func55, Tryz.ntmps55
      go_wp2_with fail
      go_ret
      exact ⟨rfl, Below.refl _ _⟩
    · show Calls _ _ #[.string ⟨#[49]⟩, .string (str (text zero)), .string (str (text one))] _ fun e w' => e = .returned (.string (str (text one))) ∧ _
      generalize str (text zero) = s0 at *
      generalize str (text one) = s1 at *
      have hq : ((⟨#[49]⟩ : ByteArray).toList == (⟨#[48]⟩ : ByteArray).toList) = false := by rw [ByteArray.toList_eq, ByteArray.toList_eq]; rfl
      have hq2 : ((⟨#[49]⟩ : ByteArray).toList == (⟨#[49]⟩ : ByteArray).toList) = true := by simp
      go_enter Tryz.func55, Tryz.ntmps55
      go_wp2_with fail
      go_ret
      exact ⟨rfl, Below.refl _ _⟩
  | say a v z o ihz iho =>
    intro hw hl h0 h1 w
    have hlz : (text (.say a v z o)).length = (text z).length + (text o).length + 3 := by simp [text]
    have HZ := Lib.hid (ihz hw.2.1 (by omega) h0 h1)
    have HO := Lib.hid (iho hw.2.2 (by omega) h0 h1)
    have HP := Lib.hid (parts_w a v z o hw.2.1 (str (text (.say a v z o))) (str_data _) (by rw [str_size]; omega))
    have hx : (str (text (.say a v z o))).extract 0 3 = str [whoB a, hexD (v / 16), hexD (v % 16)] := by
      apply eq_str
      rw [data_extract, str_data]
      rfl
    have hs3 : 3 ≤ (str (text (.say a v z o))).size := by rw [str_size]; omega
    have hne : ∀ c : UInt8, ((str (text (.say a v z o))).toList == [c]) = false := fun c => by
      apply beq_false_of_ne
      intro e
      have h := congrArg List.length e
      rw [ByteArray.toList_eq] at h
      rw [str_data] at h
      simp at h
      omega
    have n48 := hne 48
    have n49 := hne 49
    have g0 : ∀ u : T, (text u).length ≤ 2000 → (text (graftT zero one u)).length ≤ 4010000 := fun u hu => by
      have := graft_length zero one u
      have := ends_sum u
      have := ends_le u
      have i1 : endsOf false u * ((text zero).length - 1) ≤ endsOf false u * 2000 := Nat.mul_le_mul_left _ (by omega)
      have i2 : endsOf true u * ((text one).length - 1) ≤ endsOf true u * 2000 := Nat.mul_le_mul_left _ (by omega)
      omega
    have lz := g0 z (by omega)
    have lo := g0 o (by omega)
    have HR : Hid (str (text (graftT zero one (.say a v z o))) = str [whoB a, hexD (v / 16), hexD (v % 16)] ++ str (text (graftT zero one z)) ++ str (text (graftT zero one o))) := by
      show _ = _
      rw [str_append, str_append]
      rfl
    have s1 : (str (text (graftT zero one z))).size ≤ 4010000 := by rw [str_size]; omega
    have s2 : (str (text (graftT zero one o))).size ≤ 4010000 := by rw [str_size]; omega
    have s0 : (str [whoB a, hexD (v / 16), hexD (v % 16)]).size = 3 := by rw [str_size]; rfl
    generalize str (text (graftT zero one (.say a v z o))) = res at *
    generalize str (text (.say a v z o)) = s at *
    generalize str (text (graftT zero one z)) = rz at *
    generalize str (text (graftT zero one o)) = ro at *
    generalize str (text z) = sz at *
    generalize str (text o) = so at *
    generalize str (text zero) = sx at *
    generalize str (text one) = sy at *
    generalize str [whoB a, hexD (v / 16), hexD (v % 16)] = hx2 at *
    have q1 := fun W => run_string_add_sum (P := Tryz.prog) (w := W) hx2 rz (by omega)
    have q2 := fun W => run_string_add_sum (P := Tryz.prog) (w := W) (hx2 ++ rz) ro (by rw [ByteArray.size_append]; omega)
    have hs3i : (3 : Int) ≤ (s.size : Int) := by omega
    clear hl hlz hw ihz iho lz lo hne g0 h0 h1
    go_enter Tryz.func55, Tryz.ntmps55
    go_wp2_with fail
    refine (HP.out _).mono ?_
    rintro e w1 ⟨rfl, hb1⟩
    have HW := Lib.hid hb1
    clear hb1
    go_wp2_with fail
    refine region_kept (C := fun wx => Below w1.heap.size w1 wx) (drew_at w1) (by kernel_rfl) (by kernel_rfl) ?_
    repeat
      (refine wq_step (fun K hK => ?_)
       go_simp
       first
         | (refine hK _ ?_; clear hK K)
         | (apply Exists.intro
            refine ⟨fun wx hC => ?_, hK _ ?_⟩
            · first
              | with_reducible rfl
              | with_reducible exact ((HZ.out wx).mono fun e w' h => ⟨h.1, hC.trans (h.2.mono hC.size)⟩)
              | with_reducible exact ((HO.out wx).mono fun e w' h => ⟨h.1, hC.trans (h.2.mono hC.size)⟩)
              | (rw [if_pos hs3i]; exact ⟨rfl, rfl⟩)
              | (go_simp; first | done | rfl)
            clear hK K))
    refine wq_nil ?_
    intro w9 hC
    have HB := Lib.hid (HW.out.trans (hC.mono HW.out.size))
    clear hC HW
    go_simp
    go_wp2_with fail
    go_ret
    exact ⟨by rw [HR.out]; rfl, HB.out⟩
end Go.Proofs.YtffilggpimdikaaGreatDoor.SaidTG

/-
  Both players exchanged, in the program's trees.
-/
namespace Go.Proofs.YtffilggpimdikaaGreatDoor.Edit
open Go.RowKit Go.Shelf Go.Proofs.YtffilggpimdikaaGreatDoor.Plain Go.Proofs.YtffilggpimdikaaGreatDoor.Tree Go.Proofs.YtffilggpimdikaaGreatDoor.Read Go.Proofs.YtffilggpimdikaaGreatDoor.TurnC Go.Proofs.YtffilggpimdikaaGreatDoor.FreeL
open Go.Proofs.YtffilggpimdikaaGreatDoor.Count (cells4)
open Go.Proofs.YtffilggpimdikaaGreatDoor.Free (fill wp_value wp_enter wp_load_row freeB)
set_option linter.unusedVariables false
set_option linter.unusedSimpArgs false

theorem eval_get {a : Act} {d : Tmp} {v : Value} (h : a.tmps[d]?.getD undef = v) : a.eval (.tmp d) = v := by
  rw [← h]
  show a.tmps.getD d undef = _
  simp [Array.getD_eq_getD_getElem?]
theorem there_row {w : World} {B : Nat} {c0 c1 c2 c3 : Value} {T : TypeId} (h : w.heap[B]? = some (.cells #[c0, c1, c2, c3] T (0, 0))) : w.there B 2 2 := fun j hj => by
  have e : j = 0 ∨ j = 1 := by omega
  rcases e with rfl | rfl
  · exact ⟨by rw [cell_of_row _ _ _ _ _ _ h]; rfl, frozen_of_row _ _ _ _ _ h⟩
  · exact ⟨by rw [cell_of_row _ _ _ _ _ _ h]; rfl, frozen_of_row _ _ _ _ _ h⟩
theorem all2 (t1 t2 : TypeId) (x y : Value) : (#[.iface t1 x, .iface t2 y] : Array Value).all (·.oneCell') = true := by simp [Value.oneCell']
theorem all4 (a b : Int) (t1 t2 : TypeId) (x y : Value) : (#[.int .u8 a, .int .i64 b, .iface t1 x, .iface t2 y] : Array Value).all (·.oneCell') = true := by simp [Value.oneCell']
theorem info_two (x y : Value) : (Tryz.prog.info? 91).map (·.size) = some (#[x, y] : Array Value).size := by kernel_rfl
def EditC (t : T) (f : FuncId) (V : Value) : Prop := ∀ W : World, Calls Tryz.prog f #[V, .func (.func 52) #[] #[]] W fun e w' => e = .returned (tree (turnT t)) ∧ Below W.heap.size W w'

set_option maxHeartbeats 1000000 in
theorem end_edit (b : Bool) : EditC (.leaf b) 162 (.int .i64 (bitI b)) := by
  intro w
  go_enter Tryz.func162, Tryz.ntmps162
  go_wp2
  go_ret
  exact ⟨rfl, Below.refl _ _⟩

set_option maxHeartbeats 4000000 in
set_option maxRecDepth 100000 in
theorem say_edit (a : Bool) (s : Nat) (z o : T) (hZ : Go.Proofs.YtffilggpimdikaaGreatDoor.Count.Node 162 169 z (EditC z)) (hO : Go.Proofs.YtffilggpimdikaaGreatDoor.Count.Node 162 169 o (EditC o)) :
    EditC (.say a s z o) 169 (.agg #[.int .u8 ((whoB a).toNat : Int), .int .i64 (s : Int), tree z, tree o]) := by
  intro w
  unfold EditC at hZ hO
  obtain ⟨tz, vz, ez2⟩ := tree_iface (turnT z)
  obtain ⟨to, vo, eo2⟩ := tree_iface (turnT o)
  have HT : Hid (tree (turnT (.say a s z o)) = .iface 93 (.agg #[.int .u8 ((whoB (!a)).toNat : Int), .int .i64 (s : Int), .iface tz vz, .iface to vo])) := by
    show tree (.say (!a) s (turnT z) (turnT o)) = _
    simp only [tree, sayV, ez2, eo2]
  rw [ez2] at hZ
  rw [eo2] at hO
  clear ez2 eo2
  generalize tree (turnT (.say a s z o)) = res at *
  obtain ⟨B, hB⟩ : ∃ B, w.heap.size = B := ⟨_, rfl⟩
  have HBB := Lib.hid hB
  have HF := Lib.hid fun (t1 t2 : TypeId) (v1 v2 : Value) (W : World) => turn_change a (s : Int) t1 t2 v1 v2 W
  generalize ((whoB (!a)).toNat : Int) = wh2 at *
  generalize ((whoB a).toNat : Int) = wh at *
  rcases hZ with ⟨V, ez, hz⟩ | ⟨V, ez, hz⟩ <;> rcases hO with ⟨U, eo, ho⟩ | ⟨U, eo, ho⟩
  · have HZ := Lib.hid hz
    have HO := Lib.hid ho
    rw [ez, eo]
    clear ez eo hz ho
    go_enter Tryz.func169, Tryz.ntmps169
    go_wp2_with fail
    refine (HF.out _ _ _ _ _).mono ?_
    rintro e w1 ⟨rfl, hb1⟩
    have HM : Hid (w1.heap[B]? = some (.cells #[.int .u8 wh, .int .i64 (s : Int), .iface 81 V, .iface 81 U] 93 (0, 0))) := by
      have h0 : (w.alloc (.cells #[.int .u8 wh, .int .i64 (s : Int), .iface 81 V, .iface 81 U] 93)).heap[w.heap.size]? = some (.cells #[.int .u8 wh, .int .i64 (s : Int), .iface 81 V, .iface 81 U] 93 (0, 0)) := heap_alloc_new w _
      show _ = _
      rw [← HBB.out]
      exact (hb1.block _ (Array.getElem?_eq_some_iff.1 h0).1).trans h0
    have HW : Hid (Below w.heap.size w w1) := by
      have h0 : Below w.heap.size w (w.alloc (.cells #[.int .u8 wh, .int .i64 (s : Int), .iface 81 V, .iface 81 U] 93)) := (Below.refl _ _).alloc (Nat.le_refl _) _
      exact h0.trans (hb1.mono h0.size)
    clear hb1
    go_wp2_with (have X := HM.out; refine wpList_store_row rfl 93 (.tmp 2) (.tmp 7) rfl B _ rfl rfl 93 _ X (info_say _ _ _ _) rfl (all4 _ _ _ _ _ _) ?_; clear X)
    obtain ⟨W1, hW1⟩ : ∃ W1, w1.setRow B #[.int .u8 wh2, .int .i64 (s : Int), .iface 81 V, .iface 81 U] = W1 := ⟨_, rfl⟩
    rw [hW1]
    have HWW : Hid (Below w.heap.size w W1) := by show Below _ _ _; rw [← hW1]; exact setRow_below' HW.out (by rw [HBB.out]; exact Nat.le_refl _) _
    have HM0 : Hid (∀ wx : World, Below W1.heap.size W1 wx → wx.heap[B]? = some (.cells #[.int .u8 wh2, .int .i64 (s : Int), .iface 81 V, .iface 81 U] 93 (0, 0))) := fun wx h => by
      have h0 : W1.heap[B]? = some (.cells #[.int .u8 wh2, .int .i64 (s : Int), .iface 81 V, .iface 81 U] 93 (0, 0)) := by rw [← hW1]; exact setRow_at' HM.out
      exact (h.block _ (Array.getElem?_eq_some_iff.1 h0).1).trans h0
    clear hW1 HM HW
    go_wp2_with fail
    refine wp_region_last (fun | 0 => .pointer (some ⟨B, 2, none⟩) | 1 => .pointer (some ⟨B, 2, none⟩) | 2 => .iface 81 V | 3 => .func (.func 52) #[] #[] | 4 => .iface tz vz | 5 => .pointer (some ⟨B, 2, none⟩) | 6 => .pointer (some ⟨B, 3, none⟩) | 7 => .iface 81 U | 8 => .func (.func 52) #[] #[] | 9 => .iface to vo | 10 => .agg #[.iface tz vz, .iface to vo] | 11 => .pointer (some ⟨B, 2, none⟩) | _ => undef) 12 (fun wx => wx.setRow B #[.int .u8 wh2, .int .i64 (s : Int), .iface tz vz, .iface to vo]) _ (by kernel_rfl) (by kernel_rfl) rfl rfl rfl rfl (by kernel_rfl) ?conee ?stee ?enee
    case conee =>
      intro i o ho hlt a wx hb hf
      match i, ho with
      | 0, ho =>
        obtain rfl := Option.some.inj ho
        have b2 : a.tmps[2]?.getD undef = .pointer (some ⟨B, 0, none⟩) := hf.2 2 (by kernel_rfl)
        exact wp_value (.pointer (some ⟨B, 2, none⟩)) (by unfold execOp; go_simp) ⟨rfl, Below.refl _ _⟩
      | 1, ho =>
        obtain rfl := Option.some.inj ho
        have e8 : a.tmps[8]?.getD undef = .pointer (some ⟨B, 2, none⟩) := hf.1 ⟨0, .data⟩ (by simp) rfl _ 8 rfl rfl
        exact wp_value (.pointer (some ⟨B, 2, none⟩)) (by unfold execOp; go_simp) ⟨rfl, Below.refl _ _⟩
      | 2, ho =>
        obtain rfl := Option.some.inj ho
        have e9 : a.tmps[9]?.getD undef = .pointer (some ⟨B, 2, none⟩) := hf.1 ⟨1, .data⟩ (by simp) rfl _ 9 rfl rfl
        obtain ⟨c0, c1, c2, c3⟩ := cells4 (HM0.out wx hb)
        exact wp_value (.iface 81 V) (by unfold execOp; go_simp) ⟨rfl, Below.refl _ _⟩
      | 3, ho =>
        obtain rfl := Option.some.inj ho
        have b1 : a.tmps[1]?.getD undef = .func (.func 52) #[] #[] := hf.2 1 (by kernel_rfl)
        exact wp_value (.func (.func 52) #[] #[]) (by unfold execOp; go_simp) ⟨rfl, Below.refl _ _⟩
      | 4, ho =>
        obtain rfl := Option.some.inj ho
        have e10 : a.tmps[10]?.getD undef = .iface 81 V := hf.1 ⟨2, .data⟩ (by simp) rfl _ 10 rfl rfl
        have e11 : a.tmps[11]?.getD undef = .func (.func 52) #[] #[] := hf.1 ⟨3, .data⟩ (by simp) rfl _ 11 rfl rfl
        exact wp_enter 162 #[V, .func (.func 52) #[] #[]] (.iface tz vz) _ (by unfold execOp; go_simp; go_invoke; rfl) (HZ.out wx) (fun w' h => ⟨rfl, h⟩)
      | 5, ho =>
        obtain rfl := Option.some.inj ho
        have b2 : a.tmps[2]?.getD undef = .pointer (some ⟨B, 0, none⟩) := hf.2 2 (by kernel_rfl)
        exact wp_value (.pointer (some ⟨B, 2, none⟩)) (by unfold execOp; go_simp) ⟨rfl, Below.refl _ _⟩
      | 6, ho =>
        obtain rfl := Option.some.inj ho
        have e13 : a.tmps[13]?.getD undef = .pointer (some ⟨B, 2, none⟩) := hf.1 ⟨5, .data⟩ (by simp) rfl _ 13 rfl rfl
        exact wp_value (.pointer (some ⟨B, 3, none⟩)) (by unfold execOp; go_simp) ⟨rfl, Below.refl _ _⟩
      | 7, ho =>
        obtain rfl := Option.some.inj ho
        have e14 : a.tmps[14]?.getD undef = .pointer (some ⟨B, 3, none⟩) := hf.1 ⟨6, .data⟩ (by simp) rfl _ 14 rfl rfl
        obtain ⟨c0, c1, c2, c3⟩ := cells4 (HM0.out wx hb)
        exact wp_value (.iface 81 U) (by unfold execOp; go_simp) ⟨rfl, Below.refl _ _⟩
      | 8, ho =>
        obtain rfl := Option.some.inj ho
        have b1 : a.tmps[1]?.getD undef = .func (.func 52) #[] #[] := hf.2 1 (by kernel_rfl)
        exact wp_value (.func (.func 52) #[] #[]) (by unfold execOp; go_simp) ⟨rfl, Below.refl _ _⟩
      | 9, ho =>
        obtain rfl := Option.some.inj ho
        have e15 : a.tmps[15]?.getD undef = .iface 81 U := hf.1 ⟨7, .data⟩ (by simp) rfl _ 15 rfl rfl
        have e16 : a.tmps[16]?.getD undef = .func (.func 52) #[] #[] := hf.1 ⟨8, .data⟩ (by simp) rfl _ 16 rfl rfl
        exact wp_enter 162 #[U, .func (.func 52) #[] #[]] (.iface to vo) _ (by unfold execOp; go_simp; go_invoke; rfl) (HO.out wx) (fun w' h => ⟨rfl, h⟩)
      | 10, ho =>
        obtain rfl := Option.some.inj ho
        have e12 : a.tmps[12]?.getD undef = .iface tz vz := hf.1 ⟨4, .data⟩ (by simp) rfl _ 12 rfl rfl
        have e17 : a.tmps[17]?.getD undef = .iface to vo := hf.1 ⟨9, .data⟩ (by simp) rfl _ 17 rfl rfl
        exact wp_value (.agg #[.iface tz vz, .iface to vo]) (by unfold execOp; go_simp) ⟨rfl, Below.refl _ _⟩
      | 11, ho =>
        obtain rfl := Option.some.inj ho
        have b2 : a.tmps[2]?.getD undef = .pointer (some ⟨B, 0, none⟩) := hf.2 2 (by kernel_rfl)
        exact wp_value (.pointer (some ⟨B, 2, none⟩)) (by unfold execOp; go_simp) ⟨rfl, Below.refl _ _⟩
      | 12, ho => exact absurd hlt (by omega)
      | q + 13, ho => simp at ho
    case stee =>
      intro a wx hb hf
      have e18 : a.tmps[18]?.getD undef = .agg #[.iface tz vz, .iface to vo] := hf.1 ⟨10, .data⟩ (by simp) rfl _ 18 rfl rfl
      have e19 : a.tmps[19]?.getD undef = .pointer (some ⟨B, 2, none⟩) := hf.1 ⟨11, .data⟩ (by simp) rfl _ 19 rfl rfl
      exact wp_store_mid 91 (.tmp 19) (.tmp 18) rfl B 2 #[.iface tz vz, .iface to vo] (eval_get e19) (eval_get e18) (there_row (HM0.out wx hb)) (info_two _ _) (all2 _ _ _ _) ⟨rfl, set2 (HM0.out wx hb) _ _⟩
    intro w5 hb5
    have HR : Hid ((w5.setRow B #[.int .u8 wh2, .int .i64 (s : Int), .iface tz vz, .iface to vo]).heap[B]? = some (.cells #[.int .u8 wh2, .int .i64 (s : Int), .iface tz vz, .iface to vo] 93 (0, 0))) := setRow_at' (HM0.out w5 hb5)
    have HB5 : Hid (Below w.heap.size w (w5.setRow B #[.int .u8 wh2, .int .i64 (s : Int), .iface tz vz, .iface to vo])) := setRow_below' (HWW.out.trans (hb5.mono HWW.out.size)) (by rw [HBB.out]; exact Nat.le_refl _) _
    clear hb5 HM0 HWW
    simp only [fill, Act.put]
    go_simp
    generalize w5.setRow B #[.int .u8 wh2, .int .i64 (s : Int), .iface tz vz, .iface to vo] = w6 at *
    obtain ⟨c0, c1, c2, c3⟩ := cells4 HR.out
    clear HR
    go_wp2_with fail
    go_ret
    exact ⟨by rw [HT.out]; rfl, HB5.out⟩
  · have HZ := Lib.hid hz
    have HO := Lib.hid ho
    rw [ez, eo]
    clear ez eo hz ho
    go_enter Tryz.func169, Tryz.ntmps169
    go_wp2_with fail
    refine (HF.out _ _ _ _ _).mono ?_
    rintro e w1 ⟨rfl, hb1⟩
    have HM : Hid (w1.heap[B]? = some (.cells #[.int .u8 wh, .int .i64 (s : Int), .iface 81 V, .iface 93 U] 93 (0, 0))) := by
      have h0 : (w.alloc (.cells #[.int .u8 wh, .int .i64 (s : Int), .iface 81 V, .iface 93 U] 93)).heap[w.heap.size]? = some (.cells #[.int .u8 wh, .int .i64 (s : Int), .iface 81 V, .iface 93 U] 93 (0, 0)) := heap_alloc_new w _
      show _ = _
      rw [← HBB.out]
      exact (hb1.block _ (Array.getElem?_eq_some_iff.1 h0).1).trans h0
    have HW : Hid (Below w.heap.size w w1) := by
      have h0 : Below w.heap.size w (w.alloc (.cells #[.int .u8 wh, .int .i64 (s : Int), .iface 81 V, .iface 93 U] 93)) := (Below.refl _ _).alloc (Nat.le_refl _) _
      exact h0.trans (hb1.mono h0.size)
    clear hb1
    go_wp2_with (have X := HM.out; refine wpList_store_row rfl 93 (.tmp 2) (.tmp 7) rfl B _ rfl rfl 93 _ X (info_say _ _ _ _) rfl (all4 _ _ _ _ _ _) ?_; clear X)
    obtain ⟨W1, hW1⟩ : ∃ W1, w1.setRow B #[.int .u8 wh2, .int .i64 (s : Int), .iface 81 V, .iface 93 U] = W1 := ⟨_, rfl⟩
    rw [hW1]
    have HWW : Hid (Below w.heap.size w W1) := by show Below _ _ _; rw [← hW1]; exact setRow_below' HW.out (by rw [HBB.out]; exact Nat.le_refl _) _
    have HM0 : Hid (∀ wx : World, Below W1.heap.size W1 wx → wx.heap[B]? = some (.cells #[.int .u8 wh2, .int .i64 (s : Int), .iface 81 V, .iface 93 U] 93 (0, 0))) := fun wx h => by
      have h0 : W1.heap[B]? = some (.cells #[.int .u8 wh2, .int .i64 (s : Int), .iface 81 V, .iface 93 U] 93 (0, 0)) := by rw [← hW1]; exact setRow_at' HM.out
      exact (h.block _ (Array.getElem?_eq_some_iff.1 h0).1).trans h0
    clear hW1 HM HW
    go_wp2_with fail
    refine wp_region_last (fun | 0 => .pointer (some ⟨B, 2, none⟩) | 1 => .pointer (some ⟨B, 2, none⟩) | 2 => .iface 81 V | 3 => .func (.func 52) #[] #[] | 4 => .iface tz vz | 5 => .pointer (some ⟨B, 2, none⟩) | 6 => .pointer (some ⟨B, 3, none⟩) | 7 => .iface 93 U | 8 => .func (.func 52) #[] #[] | 9 => .iface to vo | 10 => .agg #[.iface tz vz, .iface to vo] | 11 => .pointer (some ⟨B, 2, none⟩) | _ => undef) 12 (fun wx => wx.setRow B #[.int .u8 wh2, .int .i64 (s : Int), .iface tz vz, .iface to vo]) _ (by kernel_rfl) (by kernel_rfl) rfl rfl rfl rfl (by kernel_rfl) ?cones ?stes ?enes
    case cones =>
      intro i o ho hlt a wx hb hf
      match i, ho with
      | 0, ho =>
        obtain rfl := Option.some.inj ho
        have b2 : a.tmps[2]?.getD undef = .pointer (some ⟨B, 0, none⟩) := hf.2 2 (by kernel_rfl)
        exact wp_value (.pointer (some ⟨B, 2, none⟩)) (by unfold execOp; go_simp) ⟨rfl, Below.refl _ _⟩
      | 1, ho =>
        obtain rfl := Option.some.inj ho
        have e8 : a.tmps[8]?.getD undef = .pointer (some ⟨B, 2, none⟩) := hf.1 ⟨0, .data⟩ (by simp) rfl _ 8 rfl rfl
        exact wp_value (.pointer (some ⟨B, 2, none⟩)) (by unfold execOp; go_simp) ⟨rfl, Below.refl _ _⟩
      | 2, ho =>
        obtain rfl := Option.some.inj ho
        have e9 : a.tmps[9]?.getD undef = .pointer (some ⟨B, 2, none⟩) := hf.1 ⟨1, .data⟩ (by simp) rfl _ 9 rfl rfl
        obtain ⟨c0, c1, c2, c3⟩ := cells4 (HM0.out wx hb)
        exact wp_value (.iface 81 V) (by unfold execOp; go_simp) ⟨rfl, Below.refl _ _⟩
      | 3, ho =>
        obtain rfl := Option.some.inj ho
        have b1 : a.tmps[1]?.getD undef = .func (.func 52) #[] #[] := hf.2 1 (by kernel_rfl)
        exact wp_value (.func (.func 52) #[] #[]) (by unfold execOp; go_simp) ⟨rfl, Below.refl _ _⟩
      | 4, ho =>
        obtain rfl := Option.some.inj ho
        have e10 : a.tmps[10]?.getD undef = .iface 81 V := hf.1 ⟨2, .data⟩ (by simp) rfl _ 10 rfl rfl
        have e11 : a.tmps[11]?.getD undef = .func (.func 52) #[] #[] := hf.1 ⟨3, .data⟩ (by simp) rfl _ 11 rfl rfl
        exact wp_enter 162 #[V, .func (.func 52) #[] #[]] (.iface tz vz) _ (by unfold execOp; go_simp; go_invoke; rfl) (HZ.out wx) (fun w' h => ⟨rfl, h⟩)
      | 5, ho =>
        obtain rfl := Option.some.inj ho
        have b2 : a.tmps[2]?.getD undef = .pointer (some ⟨B, 0, none⟩) := hf.2 2 (by kernel_rfl)
        exact wp_value (.pointer (some ⟨B, 2, none⟩)) (by unfold execOp; go_simp) ⟨rfl, Below.refl _ _⟩
      | 6, ho =>
        obtain rfl := Option.some.inj ho
        have e13 : a.tmps[13]?.getD undef = .pointer (some ⟨B, 2, none⟩) := hf.1 ⟨5, .data⟩ (by simp) rfl _ 13 rfl rfl
        exact wp_value (.pointer (some ⟨B, 3, none⟩)) (by unfold execOp; go_simp) ⟨rfl, Below.refl _ _⟩
      | 7, ho =>
        obtain rfl := Option.some.inj ho
        have e14 : a.tmps[14]?.getD undef = .pointer (some ⟨B, 3, none⟩) := hf.1 ⟨6, .data⟩ (by simp) rfl _ 14 rfl rfl
        obtain ⟨c0, c1, c2, c3⟩ := cells4 (HM0.out wx hb)
        exact wp_value (.iface 93 U) (by unfold execOp; go_simp) ⟨rfl, Below.refl _ _⟩
      | 8, ho =>
        obtain rfl := Option.some.inj ho
        have b1 : a.tmps[1]?.getD undef = .func (.func 52) #[] #[] := hf.2 1 (by kernel_rfl)
        exact wp_value (.func (.func 52) #[] #[]) (by unfold execOp; go_simp) ⟨rfl, Below.refl _ _⟩
      | 9, ho =>
        obtain rfl := Option.some.inj ho
        have e15 : a.tmps[15]?.getD undef = .iface 93 U := hf.1 ⟨7, .data⟩ (by simp) rfl _ 15 rfl rfl
        have e16 : a.tmps[16]?.getD undef = .func (.func 52) #[] #[] := hf.1 ⟨8, .data⟩ (by simp) rfl _ 16 rfl rfl
        exact wp_enter 169 #[U, .func (.func 52) #[] #[]] (.iface to vo) _ (by unfold execOp; go_simp; go_invoke; rfl) (HO.out wx) (fun w' h => ⟨rfl, h⟩)
      | 10, ho =>
        obtain rfl := Option.some.inj ho
        have e12 : a.tmps[12]?.getD undef = .iface tz vz := hf.1 ⟨4, .data⟩ (by simp) rfl _ 12 rfl rfl
        have e17 : a.tmps[17]?.getD undef = .iface to vo := hf.1 ⟨9, .data⟩ (by simp) rfl _ 17 rfl rfl
        exact wp_value (.agg #[.iface tz vz, .iface to vo]) (by unfold execOp; go_simp) ⟨rfl, Below.refl _ _⟩
      | 11, ho =>
        obtain rfl := Option.some.inj ho
        have b2 : a.tmps[2]?.getD undef = .pointer (some ⟨B, 0, none⟩) := hf.2 2 (by kernel_rfl)
        exact wp_value (.pointer (some ⟨B, 2, none⟩)) (by unfold execOp; go_simp) ⟨rfl, Below.refl _ _⟩
      | 12, ho => exact absurd hlt (by omega)
      | q + 13, ho => simp at ho
    case stes =>
      intro a wx hb hf
      have e18 : a.tmps[18]?.getD undef = .agg #[.iface tz vz, .iface to vo] := hf.1 ⟨10, .data⟩ (by simp) rfl _ 18 rfl rfl
      have e19 : a.tmps[19]?.getD undef = .pointer (some ⟨B, 2, none⟩) := hf.1 ⟨11, .data⟩ (by simp) rfl _ 19 rfl rfl
      exact wp_store_mid 91 (.tmp 19) (.tmp 18) rfl B 2 #[.iface tz vz, .iface to vo] (eval_get e19) (eval_get e18) (there_row (HM0.out wx hb)) (info_two _ _) (all2 _ _ _ _) ⟨rfl, set2 (HM0.out wx hb) _ _⟩
    intro w5 hb5
    have HR : Hid ((w5.setRow B #[.int .u8 wh2, .int .i64 (s : Int), .iface tz vz, .iface to vo]).heap[B]? = some (.cells #[.int .u8 wh2, .int .i64 (s : Int), .iface tz vz, .iface to vo] 93 (0, 0))) := setRow_at' (HM0.out w5 hb5)
    have HB5 : Hid (Below w.heap.size w (w5.setRow B #[.int .u8 wh2, .int .i64 (s : Int), .iface tz vz, .iface to vo])) := setRow_below' (HWW.out.trans (hb5.mono HWW.out.size)) (by rw [HBB.out]; exact Nat.le_refl _) _
    clear hb5 HM0 HWW
    simp only [fill, Act.put]
    go_simp
    generalize w5.setRow B #[.int .u8 wh2, .int .i64 (s : Int), .iface tz vz, .iface to vo] = w6 at *
    obtain ⟨c0, c1, c2, c3⟩ := cells4 HR.out
    clear HR
    go_wp2_with fail
    go_ret
    exact ⟨by rw [HT.out]; rfl, HB5.out⟩
  · have HZ := Lib.hid hz
    have HO := Lib.hid ho
    rw [ez, eo]
    clear ez eo hz ho
    go_enter Tryz.func169, Tryz.ntmps169
    go_wp2_with fail
    refine (HF.out _ _ _ _ _).mono ?_
    rintro e w1 ⟨rfl, hb1⟩
    have HM : Hid (w1.heap[B]? = some (.cells #[.int .u8 wh, .int .i64 (s : Int), .iface 93 V, .iface 81 U] 93 (0, 0))) := by
      have h0 : (w.alloc (.cells #[.int .u8 wh, .int .i64 (s : Int), .iface 93 V, .iface 81 U] 93)).heap[w.heap.size]? = some (.cells #[.int .u8 wh, .int .i64 (s : Int), .iface 93 V, .iface 81 U] 93 (0, 0)) := heap_alloc_new w _
      show _ = _
      rw [← HBB.out]
      exact (hb1.block _ (Array.getElem?_eq_some_iff.1 h0).1).trans h0
    have HW : Hid (Below w.heap.size w w1) := by
      have h0 : Below w.heap.size w (w.alloc (.cells #[.int .u8 wh, .int .i64 (s : Int), .iface 93 V, .iface 81 U] 93)) := (Below.refl _ _).alloc (Nat.le_refl _) _
      exact h0.trans (hb1.mono h0.size)
    clear hb1
    go_wp2_with (have X := HM.out; refine wpList_store_row rfl 93 (.tmp 2) (.tmp 7) rfl B _ rfl rfl 93 _ X (info_say _ _ _ _) rfl (all4 _ _ _ _ _ _) ?_; clear X)
    obtain ⟨W1, hW1⟩ : ∃ W1, w1.setRow B #[.int .u8 wh2, .int .i64 (s : Int), .iface 93 V, .iface 81 U] = W1 := ⟨_, rfl⟩
    rw [hW1]
    have HWW : Hid (Below w.heap.size w W1) := by show Below _ _ _; rw [← hW1]; exact setRow_below' HW.out (by rw [HBB.out]; exact Nat.le_refl _) _
    have HM0 : Hid (∀ wx : World, Below W1.heap.size W1 wx → wx.heap[B]? = some (.cells #[.int .u8 wh2, .int .i64 (s : Int), .iface 93 V, .iface 81 U] 93 (0, 0))) := fun wx h => by
      have h0 : W1.heap[B]? = some (.cells #[.int .u8 wh2, .int .i64 (s : Int), .iface 93 V, .iface 81 U] 93 (0, 0)) := by rw [← hW1]; exact setRow_at' HM.out
      exact (h.block _ (Array.getElem?_eq_some_iff.1 h0).1).trans h0
    clear hW1 HM HW
    go_wp2_with fail
    refine wp_region_last (fun | 0 => .pointer (some ⟨B, 2, none⟩) | 1 => .pointer (some ⟨B, 2, none⟩) | 2 => .iface 93 V | 3 => .func (.func 52) #[] #[] | 4 => .iface tz vz | 5 => .pointer (some ⟨B, 2, none⟩) | 6 => .pointer (some ⟨B, 3, none⟩) | 7 => .iface 81 U | 8 => .func (.func 52) #[] #[] | 9 => .iface to vo | 10 => .agg #[.iface tz vz, .iface to vo] | 11 => .pointer (some ⟨B, 2, none⟩) | _ => undef) 12 (fun wx => wx.setRow B #[.int .u8 wh2, .int .i64 (s : Int), .iface tz vz, .iface to vo]) _ (by kernel_rfl) (by kernel_rfl) rfl rfl rfl rfl (by kernel_rfl) ?conse ?stse ?ense
    case conse =>
      intro i o ho hlt a wx hb hf
      match i, ho with
      | 0, ho =>
        obtain rfl := Option.some.inj ho
        have b2 : a.tmps[2]?.getD undef = .pointer (some ⟨B, 0, none⟩) := hf.2 2 (by kernel_rfl)
        exact wp_value (.pointer (some ⟨B, 2, none⟩)) (by unfold execOp; go_simp) ⟨rfl, Below.refl _ _⟩
      | 1, ho =>
        obtain rfl := Option.some.inj ho
        have e8 : a.tmps[8]?.getD undef = .pointer (some ⟨B, 2, none⟩) := hf.1 ⟨0, .data⟩ (by simp) rfl _ 8 rfl rfl
        exact wp_value (.pointer (some ⟨B, 2, none⟩)) (by unfold execOp; go_simp) ⟨rfl, Below.refl _ _⟩
      | 2, ho =>
        obtain rfl := Option.some.inj ho
        have e9 : a.tmps[9]?.getD undef = .pointer (some ⟨B, 2, none⟩) := hf.1 ⟨1, .data⟩ (by simp) rfl _ 9 rfl rfl
        obtain ⟨c0, c1, c2, c3⟩ := cells4 (HM0.out wx hb)
        exact wp_value (.iface 93 V) (by unfold execOp; go_simp) ⟨rfl, Below.refl _ _⟩
      | 3, ho =>
        obtain rfl := Option.some.inj ho
        have b1 : a.tmps[1]?.getD undef = .func (.func 52) #[] #[] := hf.2 1 (by kernel_rfl)
        exact wp_value (.func (.func 52) #[] #[]) (by unfold execOp; go_simp) ⟨rfl, Below.refl _ _⟩
      | 4, ho =>
        obtain rfl := Option.some.inj ho
        have e10 : a.tmps[10]?.getD undef = .iface 93 V := hf.1 ⟨2, .data⟩ (by simp) rfl _ 10 rfl rfl
        have e11 : a.tmps[11]?.getD undef = .func (.func 52) #[] #[] := hf.1 ⟨3, .data⟩ (by simp) rfl _ 11 rfl rfl
        exact wp_enter 169 #[V, .func (.func 52) #[] #[]] (.iface tz vz) _ (by unfold execOp; go_simp; go_invoke; rfl) (HZ.out wx) (fun w' h => ⟨rfl, h⟩)
      | 5, ho =>
        obtain rfl := Option.some.inj ho
        have b2 : a.tmps[2]?.getD undef = .pointer (some ⟨B, 0, none⟩) := hf.2 2 (by kernel_rfl)
        exact wp_value (.pointer (some ⟨B, 2, none⟩)) (by unfold execOp; go_simp) ⟨rfl, Below.refl _ _⟩
      | 6, ho =>
        obtain rfl := Option.some.inj ho
        have e13 : a.tmps[13]?.getD undef = .pointer (some ⟨B, 2, none⟩) := hf.1 ⟨5, .data⟩ (by simp) rfl _ 13 rfl rfl
        exact wp_value (.pointer (some ⟨B, 3, none⟩)) (by unfold execOp; go_simp) ⟨rfl, Below.refl _ _⟩
      | 7, ho =>
        obtain rfl := Option.some.inj ho
        have e14 : a.tmps[14]?.getD undef = .pointer (some ⟨B, 3, none⟩) := hf.1 ⟨6, .data⟩ (by simp) rfl _ 14 rfl rfl
        obtain ⟨c0, c1, c2, c3⟩ := cells4 (HM0.out wx hb)
        exact wp_value (.iface 81 U) (by unfold execOp; go_simp) ⟨rfl, Below.refl _ _⟩
      | 8, ho =>
        obtain rfl := Option.some.inj ho
        have b1 : a.tmps[1]?.getD undef = .func (.func 52) #[] #[] := hf.2 1 (by kernel_rfl)
        exact wp_value (.func (.func 52) #[] #[]) (by unfold execOp; go_simp) ⟨rfl, Below.refl _ _⟩
      | 9, ho =>
        obtain rfl := Option.some.inj ho
        have e15 : a.tmps[15]?.getD undef = .iface 81 U := hf.1 ⟨7, .data⟩ (by simp) rfl _ 15 rfl rfl
        have e16 : a.tmps[16]?.getD undef = .func (.func 52) #[] #[] := hf.1 ⟨8, .data⟩ (by simp) rfl _ 16 rfl rfl
        exact wp_enter 162 #[U, .func (.func 52) #[] #[]] (.iface to vo) _ (by unfold execOp; go_simp; go_invoke; rfl) (HO.out wx) (fun w' h => ⟨rfl, h⟩)
      | 10, ho =>
        obtain rfl := Option.some.inj ho
        have e12 : a.tmps[12]?.getD undef = .iface tz vz := hf.1 ⟨4, .data⟩ (by simp) rfl _ 12 rfl rfl
        have e17 : a.tmps[17]?.getD undef = .iface to vo := hf.1 ⟨9, .data⟩ (by simp) rfl _ 17 rfl rfl
        exact wp_value (.agg #[.iface tz vz, .iface to vo]) (by unfold execOp; go_simp) ⟨rfl, Below.refl _ _⟩
      | 11, ho =>
        obtain rfl := Option.some.inj ho
        have b2 : a.tmps[2]?.getD undef = .pointer (some ⟨B, 0, none⟩) := hf.2 2 (by kernel_rfl)
        exact wp_value (.pointer (some ⟨B, 2, none⟩)) (by unfold execOp; go_simp) ⟨rfl, Below.refl _ _⟩
      | 12, ho => exact absurd hlt (by omega)
      | q + 13, ho => simp at ho
    case stse =>
      intro a wx hb hf
      have e18 : a.tmps[18]?.getD undef = .agg #[.iface tz vz, .iface to vo] := hf.1 ⟨10, .data⟩ (by simp) rfl _ 18 rfl rfl
      have e19 : a.tmps[19]?.getD undef = .pointer (some ⟨B, 2, none⟩) := hf.1 ⟨11, .data⟩ (by simp) rfl _ 19 rfl rfl
      exact wp_store_mid 91 (.tmp 19) (.tmp 18) rfl B 2 #[.iface tz vz, .iface to vo] (eval_get e19) (eval_get e18) (there_row (HM0.out wx hb)) (info_two _ _) (all2 _ _ _ _) ⟨rfl, set2 (HM0.out wx hb) _ _⟩
    intro w5 hb5
    have HR : Hid ((w5.setRow B #[.int .u8 wh2, .int .i64 (s : Int), .iface tz vz, .iface to vo]).heap[B]? = some (.cells #[.int .u8 wh2, .int .i64 (s : Int), .iface tz vz, .iface to vo] 93 (0, 0))) := setRow_at' (HM0.out w5 hb5)
    have HB5 : Hid (Below w.heap.size w (w5.setRow B #[.int .u8 wh2, .int .i64 (s : Int), .iface tz vz, .iface to vo])) := setRow_below' (HWW.out.trans (hb5.mono HWW.out.size)) (by rw [HBB.out]; exact Nat.le_refl _) _
    clear hb5 HM0 HWW
    simp only [fill, Act.put]
    go_simp
    generalize w5.setRow B #[.int .u8 wh2, .int .i64 (s : Int), .iface tz vz, .iface to vo] = w6 at *
    obtain ⟨c0, c1, c2, c3⟩ := cells4 HR.out
    clear HR
    go_wp2_with fail
    go_ret
    exact ⟨by rw [HT.out]; rfl, HB5.out⟩
  · have HZ := Lib.hid hz
    have HO := Lib.hid ho
    rw [ez, eo]
    clear ez eo hz ho
    go_enter Tryz.func169, Tryz.ntmps169
    go_wp2_with fail
    refine (HF.out _ _ _ _ _).mono ?_
    rintro e w1 ⟨rfl, hb1⟩
    have HM : Hid (w1.heap[B]? = some (.cells #[.int .u8 wh, .int .i64 (s : Int), .iface 93 V, .iface 93 U] 93 (0, 0))) := by
      have h0 : (w.alloc (.cells #[.int .u8 wh, .int .i64 (s : Int), .iface 93 V, .iface 93 U] 93)).heap[w.heap.size]? = some (.cells #[.int .u8 wh, .int .i64 (s : Int), .iface 93 V, .iface 93 U] 93 (0, 0)) := heap_alloc_new w _
      show _ = _
      rw [← HBB.out]
      exact (hb1.block _ (Array.getElem?_eq_some_iff.1 h0).1).trans h0
    have HW : Hid (Below w.heap.size w w1) := by
      have h0 : Below w.heap.size w (w.alloc (.cells #[.int .u8 wh, .int .i64 (s : Int), .iface 93 V, .iface 93 U] 93)) := (Below.refl _ _).alloc (Nat.le_refl _) _
      exact h0.trans (hb1.mono h0.size)
    clear hb1
    go_wp2_with (have X := HM.out; refine wpList_store_row rfl 93 (.tmp 2) (.tmp 7) rfl B _ rfl rfl 93 _ X (info_say _ _ _ _) rfl (all4 _ _ _ _ _ _) ?_; clear X)
    obtain ⟨W1, hW1⟩ : ∃ W1, w1.setRow B #[.int .u8 wh2, .int .i64 (s : Int), .iface 93 V, .iface 93 U] = W1 := ⟨_, rfl⟩
    rw [hW1]
    have HWW : Hid (Below w.heap.size w W1) := by show Below _ _ _; rw [← hW1]; exact setRow_below' HW.out (by rw [HBB.out]; exact Nat.le_refl _) _
    have HM0 : Hid (∀ wx : World, Below W1.heap.size W1 wx → wx.heap[B]? = some (.cells #[.int .u8 wh2, .int .i64 (s : Int), .iface 93 V, .iface 93 U] 93 (0, 0))) := fun wx h => by
      have h0 : W1.heap[B]? = some (.cells #[.int .u8 wh2, .int .i64 (s : Int), .iface 93 V, .iface 93 U] 93 (0, 0)) := by rw [← hW1]; exact setRow_at' HM.out
      exact (h.block _ (Array.getElem?_eq_some_iff.1 h0).1).trans h0
    clear hW1 HM HW
    go_wp2_with fail
    refine wp_region_last (fun | 0 => .pointer (some ⟨B, 2, none⟩) | 1 => .pointer (some ⟨B, 2, none⟩) | 2 => .iface 93 V | 3 => .func (.func 52) #[] #[] | 4 => .iface tz vz | 5 => .pointer (some ⟨B, 2, none⟩) | 6 => .pointer (some ⟨B, 3, none⟩) | 7 => .iface 93 U | 8 => .func (.func 52) #[] #[] | 9 => .iface to vo | 10 => .agg #[.iface tz vz, .iface to vo] | 11 => .pointer (some ⟨B, 2, none⟩) | _ => undef) 12 (fun wx => wx.setRow B #[.int .u8 wh2, .int .i64 (s : Int), .iface tz vz, .iface to vo]) _ (by kernel_rfl) (by kernel_rfl) rfl rfl rfl rfl (by kernel_rfl) ?conss ?stss ?enss
    case conss =>
      intro i o ho hlt a wx hb hf
      match i, ho with
      | 0, ho =>
        obtain rfl := Option.some.inj ho
        have b2 : a.tmps[2]?.getD undef = .pointer (some ⟨B, 0, none⟩) := hf.2 2 (by kernel_rfl)
        exact wp_value (.pointer (some ⟨B, 2, none⟩)) (by unfold execOp; go_simp) ⟨rfl, Below.refl _ _⟩
      | 1, ho =>
        obtain rfl := Option.some.inj ho
        have e8 : a.tmps[8]?.getD undef = .pointer (some ⟨B, 2, none⟩) := hf.1 ⟨0, .data⟩ (by simp) rfl _ 8 rfl rfl
        exact wp_value (.pointer (some ⟨B, 2, none⟩)) (by unfold execOp; go_simp) ⟨rfl, Below.refl _ _⟩
      | 2, ho =>
        obtain rfl := Option.some.inj ho
        have e9 : a.tmps[9]?.getD undef = .pointer (some ⟨B, 2, none⟩) := hf.1 ⟨1, .data⟩ (by simp) rfl _ 9 rfl rfl
        obtain ⟨c0, c1, c2, c3⟩ := cells4 (HM0.out wx hb)
        exact wp_value (.iface 93 V) (by unfold execOp; go_simp) ⟨rfl, Below.refl _ _⟩
      | 3, ho =>
        obtain rfl := Option.some.inj ho
        have b1 : a.tmps[1]?.getD undef = .func (.func 52) #[] #[] := hf.2 1 (by kernel_rfl)
        exact wp_value (.func (.func 52) #[] #[]) (by unfold execOp; go_simp) ⟨rfl, Below.refl _ _⟩
      | 4, ho =>
        obtain rfl := Option.some.inj ho
        have e10 : a.tmps[10]?.getD undef = .iface 93 V := hf.1 ⟨2, .data⟩ (by simp) rfl _ 10 rfl rfl
        have e11 : a.tmps[11]?.getD undef = .func (.func 52) #[] #[] := hf.1 ⟨3, .data⟩ (by simp) rfl _ 11 rfl rfl
        exact wp_enter 169 #[V, .func (.func 52) #[] #[]] (.iface tz vz) _ (by unfold execOp; go_simp; go_invoke; rfl) (HZ.out wx) (fun w' h => ⟨rfl, h⟩)
      | 5, ho =>
        obtain rfl := Option.some.inj ho
        have b2 : a.tmps[2]?.getD undef = .pointer (some ⟨B, 0, none⟩) := hf.2 2 (by kernel_rfl)
        exact wp_value (.pointer (some ⟨B, 2, none⟩)) (by unfold execOp; go_simp) ⟨rfl, Below.refl _ _⟩
      | 6, ho =>
        obtain rfl := Option.some.inj ho
        have e13 : a.tmps[13]?.getD undef = .pointer (some ⟨B, 2, none⟩) := hf.1 ⟨5, .data⟩ (by simp) rfl _ 13 rfl rfl
        exact wp_value (.pointer (some ⟨B, 3, none⟩)) (by unfold execOp; go_simp) ⟨rfl, Below.refl _ _⟩
      | 7, ho =>
        obtain rfl := Option.some.inj ho
        have e14 : a.tmps[14]?.getD undef = .pointer (some ⟨B, 3, none⟩) := hf.1 ⟨6, .data⟩ (by simp) rfl _ 14 rfl rfl
        obtain ⟨c0, c1, c2, c3⟩ := cells4 (HM0.out wx hb)
        exact wp_value (.iface 93 U) (by unfold execOp; go_simp) ⟨rfl, Below.refl _ _⟩
      | 8, ho =>
        obtain rfl := Option.some.inj ho
        have b1 : a.tmps[1]?.getD undef = .func (.func 52) #[] #[] := hf.2 1 (by kernel_rfl)
        exact wp_value (.func (.func 52) #[] #[]) (by unfold execOp; go_simp) ⟨rfl, Below.refl _ _⟩
      | 9, ho =>
        obtain rfl := Option.some.inj ho
        have e15 : a.tmps[15]?.getD undef = .iface 93 U := hf.1 ⟨7, .data⟩ (by simp) rfl _ 15 rfl rfl
        have e16 : a.tmps[16]?.getD undef = .func (.func 52) #[] #[] := hf.1 ⟨8, .data⟩ (by simp) rfl _ 16 rfl rfl
        exact wp_enter 169 #[U, .func (.func 52) #[] #[]] (.iface to vo) _ (by unfold execOp; go_simp; go_invoke; rfl) (HO.out wx) (fun w' h => ⟨rfl, h⟩)
      | 10, ho =>
        obtain rfl := Option.some.inj ho
        have e12 : a.tmps[12]?.getD undef = .iface tz vz := hf.1 ⟨4, .data⟩ (by simp) rfl _ 12 rfl rfl
        have e17 : a.tmps[17]?.getD undef = .iface to vo := hf.1 ⟨9, .data⟩ (by simp) rfl _ 17 rfl rfl
        exact wp_value (.agg #[.iface tz vz, .iface to vo]) (by unfold execOp; go_simp) ⟨rfl, Below.refl _ _⟩
      | 11, ho =>
        obtain rfl := Option.some.inj ho
        have b2 : a.tmps[2]?.getD undef = .pointer (some ⟨B, 0, none⟩) := hf.2 2 (by kernel_rfl)
        exact wp_value (.pointer (some ⟨B, 2, none⟩)) (by unfold execOp; go_simp) ⟨rfl, Below.refl _ _⟩
      | 12, ho => exact absurd hlt (by omega)
      | q + 13, ho => simp at ho
    case stss =>
      intro a wx hb hf
      have e18 : a.tmps[18]?.getD undef = .agg #[.iface tz vz, .iface to vo] := hf.1 ⟨10, .data⟩ (by simp) rfl _ 18 rfl rfl
      have e19 : a.tmps[19]?.getD undef = .pointer (some ⟨B, 2, none⟩) := hf.1 ⟨11, .data⟩ (by simp) rfl _ 19 rfl rfl
      exact wp_store_mid 91 (.tmp 19) (.tmp 18) rfl B 2 #[.iface tz vz, .iface to vo] (eval_get e19) (eval_get e18) (there_row (HM0.out wx hb)) (info_two _ _) (all2 _ _ _ _) ⟨rfl, set2 (HM0.out wx hb) _ _⟩
    intro w5 hb5
    have HR : Hid ((w5.setRow B #[.int .u8 wh2, .int .i64 (s : Int), .iface tz vz, .iface to vo]).heap[B]? = some (.cells #[.int .u8 wh2, .int .i64 (s : Int), .iface tz vz, .iface to vo] 93 (0, 0))) := setRow_at' (HM0.out w5 hb5)
    have HB5 : Hid (Below w.heap.size w (w5.setRow B #[.int .u8 wh2, .int .i64 (s : Int), .iface tz vz, .iface to vo])) := setRow_below' (HWW.out.trans (hb5.mono HWW.out.size)) (by rw [HBB.out]; exact Nat.le_refl _) _
    clear hb5 HM0 HWW
    simp only [fill, Act.put]
    go_simp
    generalize w5.setRow B #[.int .u8 wh2, .int .i64 (s : Int), .iface tz vz, .iface to vo] = w6 at *
    obtain ⟨c0, c1, c2, c3⟩ := cells4 HR.out
    clear HR
    go_wp2_with fail
    go_ret
    exact ⟨by rw [HT.out]; rfl, HB5.out⟩

theorem edit_to (t : T) : Go.Proofs.YtffilggpimdikaaGreatDoor.Count.Node 162 169 t (EditC t) := by
  induction t with
  | leaf b => exact .inl ⟨_, rfl, end_edit b⟩
  | say a s z o ihz iho => exact .inr ⟨_, rfl, say_edit a s z o ihz iho⟩
end Go.Proofs.YtffilggpimdikaaGreatDoor.Edit

/-
  The walk of the law on TurnProtocol.
-/
namespace Go.Proofs.YtffilggpimdikaaGreatDoor.fnExactTurnProtocol
open Go.RowKit Go.Shelf Go.Proofs.YtffilggpimdikaaGreatDoor.Plain Go.Proofs.YtffilggpimdikaaGreatDoor.Tree Go.Proofs.YtffilggpimdikaaGreatDoor.Read Go.Proofs.YtffilggpimdikaaGreatDoor.TreeOf Go.Proofs.YtffilggpimdikaaGreatDoor.Parts Go.Proofs.YtffilggpimdikaaGreatDoor.SaidTG Go.Proofs.YtffilggpimdikaaGreatDoor.TextOf
open Go.Proofs.YtffilggpimdikaaGreatDoor.Edit (edit_to)
set_option linter.unusedVariables false
set_option linter.unusedSimpArgs false

set_option maxHeartbeats 1000000 in
theorem spec_yes (s : ByteArray) (t : T) (hw : wf t) (h : s.data.toList = text t) (hs : s.size ≤ 2000) (w : World) :
    Calls Tryz.prog 21 #[.string s] w fun e w' => e = .returned (.tuple #[.string (str (text (turnT t))), .bool true]) ∧ Below w.heap.size w w' := by
  have HV := Lib.hid (valid_said s t hw h hs)
  have hl : (text t).length = s.size := by rw [← h]; simp
  have HL := Lib.hid (said_turn t hw (by omega))
  have e : s = str (text t) := eq_str h
  rw [← e] at HL
  generalize str (text (turnT t)) = q at *
  clear h e hl hw
  go_enter Tryz.func21, Tryz.ntmps21
  go_wp2_with fail
  refine (HV.out _).mono ?_
  rintro e w1 ⟨rfl, rfl⟩
  go_wp2_with fail
  refine (HL.out _).mono ?_
  rintro e w2 ⟨rfl, hb⟩
  have HB := Lib.hid hb
  clear hb
  go_wp2_with fail
  go_returns
  exact ⟨rfl, HB.out⟩
set_option maxHeartbeats 1000000 in
theorem spec_no (s : ByteArray) (h : ¬ Ok s) (hs : s.size ≤ 1048576) (w : World) :
    Calls Tryz.prog 21 #[.string s] w fun e w' => e = .returned (.tuple #[.string (str []), .bool false]) ∧ Below w.heap.size w w' := by
  have HV := Lib.hid (valid_no s h hs)
  clear h
  go_enter Tryz.func21, Tryz.ntmps21
  go_wp2_with fail
  refine (HV.out _).mono ?_
  rintro e w1 ⟨rfl, rfl⟩
  go_wp2_with fail
  go_returns
  exact ⟨rfl, Below.refl _ _⟩
set_option maxHeartbeats 1000000 in
theorem impl_yes (s : ByteArray) (t : T) (hw : wf t) (h : s.data.toList = text t) (hs : s.size ≤ 2000) (w : World) :
    Calls Tryz.prog 20 #[.string s] w fun e w' => e = .returned (.tuple #[.string (str (text (turnT t))), .bool true]) ∧ Below w.heap.size w w' := by
  have HT := Lib.hid (tree_yes s t hw h hs)
  have hl : (text t).length = s.size := by rw [← h]; simp
  have hX : ∀ W : World, Calls Tryz.prog 29 #[tree (turnT t)] W fun e w' => e = .returned (.tuple #[.string (str (text (turnT t))), .bool true]) ∧ Below W.heap.size W w' := fun W => by
    have h2 := text_of (turnT t) (turn_wf t hw) (by rw [turn_length]; omega) W
    unfold textV at h2
    rw [if_pos (by rw [turn_length]; omega)] at h2
    exact h2
  have HX := Lib.hid hX
  have hC := edit_to t
  generalize str (text (turnT t)) = q at *
  unfold Go.Proofs.YtffilggpimdikaaGreatDoor.Edit.EditC at hC
  generalize tree (turnT t) = tr at *
  clear h hl hw hX
  rcases hC with ⟨V, ev, hv⟩ | ⟨V, ev, hv⟩
  all_goals
    have HC := Lib.hid hv
    rw [ev] at HT
    clear ev hv
    go_enter Tryz.func20, Tryz.ntmps20
    go_wp2_with fail
    refine (HT.out _).mono ?_
    rintro e w1 ⟨rfl, hb1⟩
    go_wp2_with fail
    refine (HC.out _).mono ?_
    rintro e w2 ⟨rfl, hb2⟩
    go_wp2_with fail
    refine (HX.out _).mono ?_
    rintro e w3 ⟨rfl, hb3⟩
    have h12 := hb1.trans (hb2.mono hb1.size)
    have HB := Lib.hid (h12.trans (hb3.mono h12.size))
    clear hb1 hb2 hb3 h12
    go_wp2_with fail
    go_returns
    exact ⟨rfl, HB.out⟩
set_option maxHeartbeats 1000000 in
theorem impl_no (s : ByteArray) (h : ¬ Ok s) (hs : s.size ≤ 1048576) (w : World) :
    Calls Tryz.prog 20 #[.string s] w fun e w' => e = .returned (.tuple #[.string (str []), .bool false]) ∧ Below w.heap.size w w' := by
  have HT := Lib.hid (tree_no s h hs)
  clear h
  go_enter Tryz.func20, Tryz.ntmps20
  go_wp2_with fail
  refine (HT.out _).mono ?_
  rintro e w1 ⟨rfl, hb1⟩
  have HB := Lib.hid hb1
  clear hb1
  go_wp2_with fail
  go_returns
  exact ⟨rfl, HB.out⟩
theorem both (s : ByteArray) (hs : s.size ≤ 1048576) : ∃ (q : ByteArray) (b : Bool), (∀ w, Calls Tryz.prog 21 #[.string s] w fun e w' => e = .returned (.tuple #[.string q, .bool b]) ∧ Below w.heap.size w w') ∧
    (∀ w, Calls Tryz.prog 20 #[.string s] w fun e w' => e = .returned (.tuple #[.string q, .bool b]) ∧ Below w.heap.size w w') := by
  rcases ok_or s with ⟨t, h1, h2, h3⟩ | h
  · exact ⟨_, true, spec_yes s t h1 h2 h3, impl_yes s t h1 h2 h3⟩
  · exact ⟨_, false, spec_no s h hs, impl_no s h hs⟩

end Go.Proofs.YtffilggpimdikaaGreatDoor.fnExactTurnProtocol

/-
  Other protocols at the ends, in the program's trees.
-/
namespace Go.Proofs.YtffilggpimdikaaGreatDoor.Graft
open Go.RowKit Go.Shelf Go.Proofs.YtffilggpimdikaaGreatDoor.Plain Go.Proofs.YtffilggpimdikaaGreatDoor.Tree Go.Proofs.YtffilggpimdikaaGreatDoor.Read Go.Proofs.YtffilggpimdikaaGreatDoor.TurnC Go.Proofs.YtffilggpimdikaaGreatDoor.FreeL
open Go.Proofs.YtffilggpimdikaaGreatDoor.Count (cells4)
open Go.Proofs.YtffilggpimdikaaGreatDoor.NodeH (eval_get there_row all2 all4 info_two)
open Go.Proofs.YtffilggpimdikaaGreatDoor.Free (fill wp_value wp_enter wp_load_row freeB)
set_option linter.unusedVariables false
set_option linter.unusedSimpArgs false

def GraftC (zero one : T) (t : T) (f : FuncId) (V : Value) : Prop := ∀ W : World, Calls Tryz.prog f #[V, .agg #[tree zero, tree one]] W fun e w' => e = .returned (tree (graftT zero one t)) ∧ Below W.heap.size W w'

set_option maxHeartbeats 1000000 in
theorem end_graft (zero one : T) (b : Bool) : GraftC zero one (.leaf b) 163 (.int .i64 (bitI b)) := by
  intro w
  obtain ⟨t0, v0, e0⟩ := tree_iface zero
  obtain ⟨t1, v1, e1⟩ := tree_iface one
  cases b
  · show Calls _ _ _ _ fun e w' => e = .returned (tree zero) ∧ _
    rw [e0, e1, show bitI false = 0 from rfl]
    clear e0 e1
    go_enter Tryz.func163, Tryz.ntmps163
    go_wp2
    go_ret
    exact ⟨rfl, by go_grown⟩
  · show Calls _ _ _ _ fun e w' => e = .returned (tree one) ∧ _
    rw [e0, e1, show bitI true = 1 from rfl]
    clear e0 e1
    go_enter Tryz.func163, Tryz.ntmps163
    go_wp2
    go_ret
    exact ⟨rfl, by go_grown⟩

set_option maxHeartbeats 4000000 in
set_option maxRecDepth 100000 in
theorem say_graft (zero one : T) (a : Bool) (s : Nat) (z o : T) (hZ : Go.Proofs.YtffilggpimdikaaGreatDoor.Count.Node 163 170 z (GraftC zero one z)) (hO : Go.Proofs.YtffilggpimdikaaGreatDoor.Count.Node 163 170 o (GraftC zero one o)) :
    GraftC zero one (.say a s z o) 170 (.agg #[.int .u8 ((whoB a).toNat : Int), .int .i64 (s : Int), tree z, tree o]) := by
  intro w
  unfold GraftC at hZ hO
  obtain ⟨tz, vz, ez2⟩ := tree_iface (graftT zero one z)
  obtain ⟨to, vo, eo2⟩ := tree_iface (graftT zero one o)
  have HT : Hid (tree (graftT zero one (.say a s z o)) = .iface 93 (.agg #[.int .u8 ((whoB a).toNat : Int), .int .i64 (s : Int), .iface tz vz, .iface to vo])) := by
    show tree (.say a s (graftT zero one z) (graftT zero one o)) = _
    simp only [tree, sayV, ez2, eo2]
  rw [ez2] at hZ
  rw [eo2] at hO
  clear ez2 eo2
  obtain ⟨t0, v0, e0⟩ := tree_iface zero
  obtain ⟨t1, v1, e1⟩ := tree_iface one
  rw [e0, e1] at hZ hO ⊢
  clear e0 e1
  generalize tree (graftT zero one (.say a s z o)) = res at *
  obtain ⟨B, hB⟩ : ∃ B, w.heap.size = B := ⟨_, rfl⟩
  have HBB := Lib.hid hB
  generalize ((whoB a).toNat : Int) = wh at *
  rcases hZ with ⟨V, ez, hz⟩ | ⟨V, ez, hz⟩ <;> rcases hO with ⟨U, eo, ho⟩ | ⟨U, eo, ho⟩
  · have HZ := Lib.hid hz
    have HO := Lib.hid ho
    rw [ez, eo]
    clear ez eo hz ho
    go_enter Tryz.func170, Tryz.ntmps170
    go_wp2_with fail
    obtain ⟨W1, hW1⟩ : ∃ W1, (w.alloc (.cells #[.int .u8 wh, .int .i64 (s : Int), .iface 81 V, .iface 81 U] 93)).alloc (.cells #[.iface t0 v0, .iface t1 v1] 91) = W1 := ⟨_, rfl⟩
    rw [hW1]
    have HWW : Hid (Below w.heap.size w W1) := by
      have h0 : Below w.heap.size w (w.alloc (.cells #[.int .u8 wh, .int .i64 (s : Int), .iface 81 V, .iface 81 U] 93)) := (Below.refl _ _).alloc (Nat.le_refl _) _
      show Below _ _ _; rw [← hW1]; exact h0.alloc h0.size _
    have HM0 : Hid (∀ wx : World, Below W1.heap.size W1 wx → wx.heap[B]? = some (.cells #[.int .u8 wh, .int .i64 (s : Int), .iface 81 V, .iface 81 U] 93 (0, 0))) := fun wx h => by
      have h1 : (w.alloc (.cells #[.int .u8 wh, .int .i64 (s : Int), .iface 81 V, .iface 81 U] 93)).heap[w.heap.size]? = some (.cells #[.int .u8 wh, .int .i64 (s : Int), .iface 81 V, .iface 81 U] 93 (0, 0)) := heap_alloc_new w _
      have h0 : W1.heap[B]? = some (.cells #[.int .u8 wh, .int .i64 (s : Int), .iface 81 V, .iface 81 U] 93 (0, 0)) := by rw [← hW1, ← HBB.out]; rw [heap_alloc_old _ _ (Array.getElem?_eq_some_iff.1 h1).1]; exact h1
      exact (h.block _ (Array.getElem?_eq_some_iff.1 h0).1).trans h0
    have HN0 : Hid (∀ wx : World, Below W1.heap.size W1 wx → wx.heap[B + 1]? = some (.cells #[.iface t0 v0, .iface t1 v1] 91 (0, 0))) := fun wx h => by
      have h0 : W1.heap[B + 1]? = some (.cells #[.iface t0 v0, .iface t1 v1] 91 (0, 0)) := by
        rw [← hW1, ← HBB.out]
        have h2 := heap_alloc_new (w.alloc (.cells #[.int .u8 wh, .int .i64 (s : Int), .iface 81 V, .iface 81 U] 93)) (.cells #[.iface t0 v0, .iface t1 v1] 91)
        rw [show (w.alloc (.cells #[.int .u8 wh, .int .i64 (s : Int), .iface 81 V, .iface 81 U] 93)).heap.size = w.heap.size + 1 by simp] at h2
        exact h2
      exact (h.block _ (Array.getElem?_eq_some_iff.1 h0).1).trans h0
    clear hW1
    refine wp_region_last (fun | 0 => .pointer (some ⟨B, 2, none⟩) | 1 => .pointer (some ⟨B, 2, none⟩) | 2 => .iface 81 V | 3 => .agg #[.iface t0 v0, .iface t1 v1] | 4 => .iface tz vz | 5 => .pointer (some ⟨B, 2, none⟩) | 6 => .pointer (some ⟨B, 3, none⟩) | 7 => .iface 81 U | 8 => .agg #[.iface t0 v0, .iface t1 v1] | 9 => .iface to vo | 10 => .agg #[.iface tz vz, .iface to vo] | 11 => .pointer (some ⟨B, 2, none⟩) | _ => undef) 12 (fun wx => wx.setRow B #[.int .u8 wh, .int .i64 (s : Int), .iface tz vz, .iface to vo]) _ (by kernel_rfl) (by kernel_rfl) rfl rfl rfl rfl (by kernel_rfl) ?conee ?stee ?enee
    case conee =>
      intro i o ho hlt a wx hb hf
      match i, ho with
      | 0, ho =>
        obtain rfl := Option.some.inj ho
        have b2 : a.tmps[2]?.getD undef = .pointer (some ⟨B, 0, none⟩) := hf.2 2 (by kernel_rfl)
        exact wp_value (.pointer (some ⟨B, 2, none⟩)) (by unfold execOp; go_simp) ⟨rfl, Below.refl _ _⟩
      | 1, ho =>
        obtain rfl := Option.some.inj ho
        have e5 : a.tmps[5]?.getD undef = .pointer (some ⟨B, 2, none⟩) := hf.1 ⟨0, .data⟩ (by simp) rfl _ 5 rfl rfl
        exact wp_value (.pointer (some ⟨B, 2, none⟩)) (by unfold execOp; go_simp) ⟨rfl, Below.refl _ _⟩
      | 2, ho =>
        obtain rfl := Option.some.inj ho
        have e6 : a.tmps[6]?.getD undef = .pointer (some ⟨B, 2, none⟩) := hf.1 ⟨1, .data⟩ (by simp) rfl _ 6 rfl rfl
        obtain ⟨c0, c1, c2, c3⟩ := cells4 (HM0.out wx hb)
        exact wp_value (.iface 81 V) (by unfold execOp; go_simp) ⟨rfl, Below.refl _ _⟩
      | 3, ho =>
        obtain rfl := Option.some.inj ho
        have b3 : a.tmps[3]?.getD undef = .pointer (some ⟨B + 1, 0, none⟩) := hf.2 3 (by kernel_rfl)
        have g0 : wx.cell? ⟨B + 1, 0, none⟩ = some (.iface t0 v0) := cell_of_row _ _ _ _ _ _ (HN0.out wx hb)
        have g1 : wx.cell? ⟨B + 1, 1, none⟩ = some (.iface t1 v1) := cell_of_row _ _ _ _ _ _ (HN0.out wx hb)
        exact wp_value (.agg #[.iface t0 v0, .iface t1 v1]) (by unfold execOp; go_simp) ⟨rfl, Below.refl _ _⟩
      | 4, ho =>
        obtain rfl := Option.some.inj ho
        have e7 : a.tmps[7]?.getD undef = .iface 81 V := hf.1 ⟨2, .data⟩ (by simp) rfl _ 7 rfl rfl
        have e8 : a.tmps[8]?.getD undef = .agg #[.iface t0 v0, .iface t1 v1] := hf.1 ⟨3, .data⟩ (by simp) rfl _ 8 rfl rfl
        exact wp_enter 163 #[V, .agg #[.iface t0 v0, .iface t1 v1]] (.iface tz vz) _ (by unfold execOp; go_simp; go_invoke; rfl) (HZ.out wx) (fun w' h => ⟨rfl, h⟩)
      | 5, ho =>
        obtain rfl := Option.some.inj ho
        have b2 : a.tmps[2]?.getD undef = .pointer (some ⟨B, 0, none⟩) := hf.2 2 (by kernel_rfl)
        exact wp_value (.pointer (some ⟨B, 2, none⟩)) (by unfold execOp; go_simp) ⟨rfl, Below.refl _ _⟩
      | 6, ho =>
        obtain rfl := Option.some.inj ho
        have e10 : a.tmps[10]?.getD undef = .pointer (some ⟨B, 2, none⟩) := hf.1 ⟨5, .data⟩ (by simp) rfl _ 10 rfl rfl
        exact wp_value (.pointer (some ⟨B, 3, none⟩)) (by unfold execOp; go_simp) ⟨rfl, Below.refl _ _⟩
      | 7, ho =>
        obtain rfl := Option.some.inj ho
        have e11 : a.tmps[11]?.getD undef = .pointer (some ⟨B, 3, none⟩) := hf.1 ⟨6, .data⟩ (by simp) rfl _ 11 rfl rfl
        obtain ⟨c0, c1, c2, c3⟩ := cells4 (HM0.out wx hb)
        exact wp_value (.iface 81 U) (by unfold execOp; go_simp) ⟨rfl, Below.refl _ _⟩
      | 8, ho =>
        obtain rfl := Option.some.inj ho
        have b3 : a.tmps[3]?.getD undef = .pointer (some ⟨B + 1, 0, none⟩) := hf.2 3 (by kernel_rfl)
        have g0 : wx.cell? ⟨B + 1, 0, none⟩ = some (.iface t0 v0) := cell_of_row _ _ _ _ _ _ (HN0.out wx hb)
        have g1 : wx.cell? ⟨B + 1, 1, none⟩ = some (.iface t1 v1) := cell_of_row _ _ _ _ _ _ (HN0.out wx hb)
        exact wp_value (.agg #[.iface t0 v0, .iface t1 v1]) (by unfold execOp; go_simp) ⟨rfl, Below.refl _ _⟩
      | 9, ho =>
        obtain rfl := Option.some.inj ho
        have e12 : a.tmps[12]?.getD undef = .iface 81 U := hf.1 ⟨7, .data⟩ (by simp) rfl _ 12 rfl rfl
        have e13 : a.tmps[13]?.getD undef = .agg #[.iface t0 v0, .iface t1 v1] := hf.1 ⟨8, .data⟩ (by simp) rfl _ 13 rfl rfl
        exact wp_enter 163 #[U, .agg #[.iface t0 v0, .iface t1 v1]] (.iface to vo) _ (by unfold execOp; go_simp; go_invoke; rfl) (HO.out wx) (fun w' h => ⟨rfl, h⟩)
      | 10, ho =>
        obtain rfl := Option.some.inj ho
        have e9 : a.tmps[9]?.getD undef = .iface tz vz := hf.1 ⟨4, .data⟩ (by simp) rfl _ 9 rfl rfl
        have e14 : a.tmps[14]?.getD undef = .iface to vo := hf.1 ⟨9, .data⟩ (by simp) rfl _ 14 rfl rfl
        exact wp_value (.agg #[.iface tz vz, .iface to vo]) (by unfold execOp; go_simp) ⟨rfl, Below.refl _ _⟩
      | 11, ho =>
        obtain rfl := Option.some.inj ho
        have b2 : a.tmps[2]?.getD undef = .pointer (some ⟨B, 0, none⟩) := hf.2 2 (by kernel_rfl)
        exact wp_value (.pointer (some ⟨B, 2, none⟩)) (by unfold execOp; go_simp) ⟨rfl, Below.refl _ _⟩
      | 12, ho => exact absurd hlt (by omega)
      | q + 13, ho => simp at ho
    case stee =>
      intro a wx hb hf
      have e15 : a.tmps[15]?.getD undef = .agg #[.iface tz vz, .iface to vo] := hf.1 ⟨10, .data⟩ (by simp) rfl _ 15 rfl rfl
      have e16 : a.tmps[16]?.getD undef = .pointer (some ⟨B, 2, none⟩) := hf.1 ⟨11, .data⟩ (by simp) rfl _ 16 rfl rfl
      exact wp_store_mid 91 (.tmp 16) (.tmp 15) rfl B 2 #[.iface tz vz, .iface to vo] (eval_get e16) (eval_get e15) (there_row (HM0.out wx hb)) (info_two _ _) (all2 _ _ _ _) ⟨rfl, set2 (HM0.out wx hb) _ _⟩
    intro w5 hb5
    have HR : Hid ((w5.setRow B #[.int .u8 wh, .int .i64 (s : Int), .iface tz vz, .iface to vo]).heap[B]? = some (.cells #[.int .u8 wh, .int .i64 (s : Int), .iface tz vz, .iface to vo] 93 (0, 0))) := setRow_at' (HM0.out w5 hb5)
    have HB5 : Hid (Below w.heap.size w (w5.setRow B #[.int .u8 wh, .int .i64 (s : Int), .iface tz vz, .iface to vo])) := setRow_below' (HWW.out.trans (hb5.mono HWW.out.size)) (by rw [HBB.out]; exact Nat.le_refl _) _
    clear hb5 HM0 HWW
    simp only [fill, Act.put]
    go_simp
    generalize w5.setRow B #[.int .u8 wh, .int .i64 (s : Int), .iface tz vz, .iface to vo] = w6 at *
    obtain ⟨c0, c1, c2, c3⟩ := cells4 HR.out
    clear HR
    go_wp2_with fail
    go_ret
    exact ⟨by rw [HT.out]; rfl, HB5.out⟩
  · have HZ := Lib.hid hz
    have HO := Lib.hid ho
    rw [ez, eo]
    clear ez eo hz ho
    go_enter Tryz.func170, Tryz.ntmps170
    go_wp2_with fail
    obtain ⟨W1, hW1⟩ : ∃ W1, (w.alloc (.cells #[.int .u8 wh, .int .i64 (s : Int), .iface 81 V, .iface 93 U] 93)).alloc (.cells #[.iface t0 v0, .iface t1 v1] 91) = W1 := ⟨_, rfl⟩
    rw [hW1]
    have HWW : Hid (Below w.heap.size w W1) := by
      have h0 : Below w.heap.size w (w.alloc (.cells #[.int .u8 wh, .int .i64 (s : Int), .iface 81 V, .iface 93 U] 93)) := (Below.refl _ _).alloc (Nat.le_refl _) _
      show Below _ _ _; rw [← hW1]; exact h0.alloc h0.size _
    have HM0 : Hid (∀ wx : World, Below W1.heap.size W1 wx → wx.heap[B]? = some (.cells #[.int .u8 wh, .int .i64 (s : Int), .iface 81 V, .iface 93 U] 93 (0, 0))) := fun wx h => by
      have h1 : (w.alloc (.cells #[.int .u8 wh, .int .i64 (s : Int), .iface 81 V, .iface 93 U] 93)).heap[w.heap.size]? = some (.cells #[.int .u8 wh, .int .i64 (s : Int), .iface 81 V, .iface 93 U] 93 (0, 0)) := heap_alloc_new w _
      have h0 : W1.heap[B]? = some (.cells #[.int .u8 wh, .int .i64 (s : Int), .iface 81 V, .iface 93 U] 93 (0, 0)) := by rw [← hW1, ← HBB.out]; rw [heap_alloc_old _ _ (Array.getElem?_eq_some_iff.1 h1).1]; exact h1
      exact (h.block _ (Array.getElem?_eq_some_iff.1 h0).1).trans h0
    have HN0 : Hid (∀ wx : World, Below W1.heap.size W1 wx → wx.heap[B + 1]? = some (.cells #[.iface t0 v0, .iface t1 v1] 91 (0, 0))) := fun wx h => by
      have h0 : W1.heap[B + 1]? = some (.cells #[.iface t0 v0, .iface t1 v1] 91 (0, 0)) := by
        rw [← hW1, ← HBB.out]
        have h2 := heap_alloc_new (w.alloc (.cells #[.int .u8 wh, .int .i64 (s : Int), .iface 81 V, .iface 93 U] 93)) (.cells #[.iface t0 v0, .iface t1 v1] 91)
        rw [show (w.alloc (.cells #[.int .u8 wh, .int .i64 (s : Int), .iface 81 V, .iface 93 U] 93)).heap.size = w.heap.size + 1 by simp] at h2
        exact h2
      exact (h.block _ (Array.getElem?_eq_some_iff.1 h0).1).trans h0
    clear hW1
    refine wp_region_last (fun | 0 => .pointer (some ⟨B, 2, none⟩) | 1 => .pointer (some ⟨B, 2, none⟩) | 2 => .iface 81 V | 3 => .agg #[.iface t0 v0, .iface t1 v1] | 4 => .iface tz vz | 5 => .pointer (some ⟨B, 2, none⟩) | 6 => .pointer (some ⟨B, 3, none⟩) | 7 => .iface 93 U | 8 => .agg #[.iface t0 v0, .iface t1 v1] | 9 => .iface to vo | 10 => .agg #[.iface tz vz, .iface to vo] | 11 => .pointer (some ⟨B, 2, none⟩) | _ => undef) 12 (fun wx => wx.setRow B #[.int .u8 wh, .int .i64 (s : Int), .iface tz vz, .iface to vo]) _ (by kernel_rfl) (by kernel_rfl) rfl rfl rfl rfl (by kernel_rfl) ?cones ?stes ?enes
    case cones =>
      intro i o ho hlt a wx hb hf
      match i, ho with
      | 0, ho =>
        obtain rfl := Option.some.inj ho
        have b2 : a.tmps[2]?.getD undef = .pointer (some ⟨B, 0, none⟩) := hf.2 2 (by kernel_rfl)
        exact wp_value (.pointer (some ⟨B, 2, none⟩)) (by unfold execOp; go_simp) ⟨rfl, Below.refl _ _⟩
      | 1, ho =>
        obtain rfl := Option.some.inj ho
        have e5 : a.tmps[5]?.getD undef = .pointer (some ⟨B, 2, none⟩) := hf.1 ⟨0, .data⟩ (by simp) rfl _ 5 rfl rfl
        exact wp_value (.pointer (some ⟨B, 2, none⟩)) (by unfold execOp; go_simp) ⟨rfl, Below.refl _ _⟩
      | 2, ho =>
        obtain rfl := Option.some.inj ho
        have e6 : a.tmps[6]?.getD undef = .pointer (some ⟨B, 2, none⟩) := hf.1 ⟨1, .data⟩ (by simp) rfl _ 6 rfl rfl
        obtain ⟨c0, c1, c2, c3⟩ := cells4 (HM0.out wx hb)
        exact wp_value (.iface 81 V) (by unfold execOp; go_simp) ⟨rfl, Below.refl _ _⟩
      | 3, ho =>
        obtain rfl := Option.some.inj ho
        have b3 : a.tmps[3]?.getD undef = .pointer (some ⟨B + 1, 0, none⟩) := hf.2 3 (by kernel_rfl)
        have g0 : wx.cell? ⟨B + 1, 0, none⟩ = some (.iface t0 v0) := cell_of_row _ _ _ _ _ _ (HN0.out wx hb)
        have g1 : wx.cell? ⟨B + 1, 1, none⟩ = some (.iface t1 v1) := cell_of_row _ _ _ _ _ _ (HN0.out wx hb)
        exact wp_value (.agg #[.iface t0 v0, .iface t1 v1]) (by unfold execOp; go_simp) ⟨rfl, Below.refl _ _⟩
      | 4, ho =>
        obtain rfl := Option.some.inj ho
        have e7 : a.tmps[7]?.getD undef = .iface 81 V := hf.1 ⟨2, .data⟩ (by simp) rfl _ 7 rfl rfl
        have e8 : a.tmps[8]?.getD undef = .agg #[.iface t0 v0, .iface t1 v1] := hf.1 ⟨3, .data⟩ (by simp) rfl _ 8 rfl rfl
        exact wp_enter 163 #[V, .agg #[.iface t0 v0, .iface t1 v1]] (.iface tz vz) _ (by unfold execOp; go_simp; go_invoke; rfl) (HZ.out wx) (fun w' h => ⟨rfl, h⟩)
      | 5, ho =>
        obtain rfl := Option.some.inj ho
        have b2 : a.tmps[2]?.getD undef = .pointer (some ⟨B, 0, none⟩) := hf.2 2 (by kernel_rfl)
        exact wp_value (.pointer (some ⟨B, 2, none⟩)) (by unfold execOp; go_simp) ⟨rfl, Below.refl _ _⟩
      | 6, ho =>
        obtain rfl := Option.some.inj ho
        have e10 : a.tmps[10]?.getD undef = .pointer (some ⟨B, 2, none⟩) := hf.1 ⟨5, .data⟩ (by simp) rfl _ 10 rfl rfl
        exact wp_value (.pointer (some ⟨B, 3, none⟩)) (by unfold execOp; go_simp) ⟨rfl, Below.refl _ _⟩
      | 7, ho =>
        obtain rfl := Option.some.inj ho
        have e11 : a.tmps[11]?.getD undef = .pointer (some ⟨B, 3, none⟩) := hf.1 ⟨6, .data⟩ (by simp) rfl _ 11 rfl rfl
        obtain ⟨c0, c1, c2, c3⟩ := cells4 (HM0.out wx hb)
        exact wp_value (.iface 93 U) (by unfold execOp; go_simp) ⟨rfl, Below.refl _ _⟩
      | 8, ho =>
        obtain rfl := Option.some.inj ho
        have b3 : a.tmps[3]?.getD undef = .pointer (some ⟨B + 1, 0, none⟩) := hf.2 3 (by kernel_rfl)
        have g0 : wx.cell? ⟨B + 1, 0, none⟩ = some (.iface t0 v0) := cell_of_row _ _ _ _ _ _ (HN0.out wx hb)
        have g1 : wx.cell? ⟨B + 1, 1, none⟩ = some (.iface t1 v1) := cell_of_row _ _ _ _ _ _ (HN0.out wx hb)
        exact wp_value (.agg #[.iface t0 v0, .iface t1 v1]) (by unfold execOp; go_simp) ⟨rfl, Below.refl _ _⟩
      | 9, ho =>
        obtain rfl := Option.some.inj ho
        have e12 : a.tmps[12]?.getD undef = .iface 93 U := hf.1 ⟨7, .data⟩ (by simp) rfl _ 12 rfl rfl
        have e13 : a.tmps[13]?.getD undef = .agg #[.iface t0 v0, .iface t1 v1] := hf.1 ⟨8, .data⟩ (by simp) rfl _ 13 rfl rfl
        exact wp_enter 170 #[U, .agg #[.iface t0 v0, .iface t1 v1]] (.iface to vo) _ (by unfold execOp; go_simp; go_invoke; rfl) (HO.out wx) (fun w' h => ⟨rfl, h⟩)
      | 10, ho =>
        obtain rfl := Option.some.inj ho
        have e9 : a.tmps[9]?.getD undef = .iface tz vz := hf.1 ⟨4, .data⟩ (by simp) rfl _ 9 rfl rfl
        have e14 : a.tmps[14]?.getD undef = .iface to vo := hf.1 ⟨9, .data⟩ (by simp) rfl _ 14 rfl rfl
        exact wp_value (.agg #[.iface tz vz, .iface to vo]) (by unfold execOp; go_simp) ⟨rfl, Below.refl _ _⟩
      | 11, ho =>
        obtain rfl := Option.some.inj ho
        have b2 : a.tmps[2]?.getD undef = .pointer (some ⟨B, 0, none⟩) := hf.2 2 (by kernel_rfl)
        exact wp_value (.pointer (some ⟨B, 2, none⟩)) (by unfold execOp; go_simp) ⟨rfl, Below.refl _ _⟩
      | 12, ho => exact absurd hlt (by omega)
      | q + 13, ho => simp at ho
    case stes =>
      intro a wx hb hf
      have e15 : a.tmps[15]?.getD undef = .agg #[.iface tz vz, .iface to vo] := hf.1 ⟨10, .data⟩ (by simp) rfl _ 15 rfl rfl
      have e16 : a.tmps[16]?.getD undef = .pointer (some ⟨B, 2, none⟩) := hf.1 ⟨11, .data⟩ (by simp) rfl _ 16 rfl rfl
      exact wp_store_mid 91 (.tmp 16) (.tmp 15) rfl B 2 #[.iface tz vz, .iface to vo] (eval_get e16) (eval_get e15) (there_row (HM0.out wx hb)) (info_two _ _) (all2 _ _ _ _) ⟨rfl, set2 (HM0.out wx hb) _ _⟩
    intro w5 hb5
    have HR : Hid ((w5.setRow B #[.int .u8 wh, .int .i64 (s : Int), .iface tz vz, .iface to vo]).heap[B]? = some (.cells #[.int .u8 wh, .int .i64 (s : Int), .iface tz vz, .iface to vo] 93 (0, 0))) := setRow_at' (HM0.out w5 hb5)
    have HB5 : Hid (Below w.heap.size w (w5.setRow B #[.int .u8 wh, .int .i64 (s : Int), .iface tz vz, .iface to vo])) := setRow_below' (HWW.out.trans (hb5.mono HWW.out.size)) (by rw [HBB.out]; exact Nat.le_refl _) _
    clear hb5 HM0 HWW
    simp only [fill, Act.put]
    go_simp
    generalize w5.setRow B #[.int .u8 wh, .int .i64 (s : Int), .iface tz vz, .iface to vo] = w6 at *
    obtain ⟨c0, c1, c2, c3⟩ := cells4 HR.out
    clear HR
    go_wp2_with fail
    go_ret
    exact ⟨by rw [HT.out]; rfl, HB5.out⟩
  · have HZ := Lib.hid hz
    have HO := Lib.hid ho
    rw [ez, eo]
    clear ez eo hz ho
    go_enter Tryz.func170, Tryz.ntmps170
    go_wp2_with fail
    obtain ⟨W1, hW1⟩ : ∃ W1, (w.alloc (.cells #[.int .u8 wh, .int .i64 (s : Int), .iface 93 V, .iface 81 U] 93)).alloc (.cells #[.iface t0 v0, .iface t1 v1] 91) = W1 := ⟨_, rfl⟩
    rw [hW1]
    have HWW : Hid (Below w.heap.size w W1) := by
      have h0 : Below w.heap.size w (w.alloc (.cells #[.int .u8 wh, .int .i64 (s : Int), .iface 93 V, .iface 81 U] 93)) := (Below.refl _ _).alloc (Nat.le_refl _) _
      show Below _ _ _; rw [← hW1]; exact h0.alloc h0.size _
    have HM0 : Hid (∀ wx : World, Below W1.heap.size W1 wx → wx.heap[B]? = some (.cells #[.int .u8 wh, .int .i64 (s : Int), .iface 93 V, .iface 81 U] 93 (0, 0))) := fun wx h => by
      have h1 : (w.alloc (.cells #[.int .u8 wh, .int .i64 (s : Int), .iface 93 V, .iface 81 U] 93)).heap[w.heap.size]? = some (.cells #[.int .u8 wh, .int .i64 (s : Int), .iface 93 V, .iface 81 U] 93 (0, 0)) := heap_alloc_new w _
      have h0 : W1.heap[B]? = some (.cells #[.int .u8 wh, .int .i64 (s : Int), .iface 93 V, .iface 81 U] 93 (0, 0)) := by rw [← hW1, ← HBB.out]; rw [heap_alloc_old _ _ (Array.getElem?_eq_some_iff.1 h1).1]; exact h1
      exact (h.block _ (Array.getElem?_eq_some_iff.1 h0).1).trans h0
    have HN0 : Hid (∀ wx : World, Below W1.heap.size W1 wx → wx.heap[B + 1]? = some (.cells #[.iface t0 v0, .iface t1 v1] 91 (0, 0))) := fun wx h => by
      have h0 : W1.heap[B + 1]? = some (.cells #[.iface t0 v0, .iface t1 v1] 91 (0, 0)) := by
        rw [← hW1, ← HBB.out]
        have h2 := heap_alloc_new (w.alloc (.cells #[.int .u8 wh, .int .i64 (s : Int), .iface 93 V, .iface 81 U] 93)) (.cells #[.iface t0 v0, .iface t1 v1] 91)
        rw [show (w.alloc (.cells #[.int .u8 wh, .int .i64 (s : Int), .iface 93 V, .iface 81 U] 93)).heap.size = w.heap.size + 1 by simp] at h2
        exact h2
      exact (h.block _ (Array.getElem?_eq_some_iff.1 h0).1).trans h0
    clear hW1
    refine wp_region_last (fun | 0 => .pointer (some ⟨B, 2, none⟩) | 1 => .pointer (some ⟨B, 2, none⟩) | 2 => .iface 93 V | 3 => .agg #[.iface t0 v0, .iface t1 v1] | 4 => .iface tz vz | 5 => .pointer (some ⟨B, 2, none⟩) | 6 => .pointer (some ⟨B, 3, none⟩) | 7 => .iface 81 U | 8 => .agg #[.iface t0 v0, .iface t1 v1] | 9 => .iface to vo | 10 => .agg #[.iface tz vz, .iface to vo] | 11 => .pointer (some ⟨B, 2, none⟩) | _ => undef) 12 (fun wx => wx.setRow B #[.int .u8 wh, .int .i64 (s : Int), .iface tz vz, .iface to vo]) _ (by kernel_rfl) (by kernel_rfl) rfl rfl rfl rfl (by kernel_rfl) ?conse ?stse ?ense
    case conse =>
      intro i o ho hlt a wx hb hf
      match i, ho with
      | 0, ho =>
        obtain rfl := Option.some.inj ho
        have b2 : a.tmps[2]?.getD undef = .pointer (some ⟨B, 0, none⟩) := hf.2 2 (by kernel_rfl)
        exact wp_value (.pointer (some ⟨B, 2, none⟩)) (by unfold execOp; go_simp) ⟨rfl, Below.refl _ _⟩
      | 1, ho =>
        obtain rfl := Option.some.inj ho
        have e5 : a.tmps[5]?.getD undef = .pointer (some ⟨B, 2, none⟩) := hf.1 ⟨0, .data⟩ (by simp) rfl _ 5 rfl rfl
        exact wp_value (.pointer (some ⟨B, 2, none⟩)) (by unfold execOp; go_simp) ⟨rfl, Below.refl _ _⟩
      | 2, ho =>
        obtain rfl := Option.some.inj ho
        have e6 : a.tmps[6]?.getD undef = .pointer (some ⟨B, 2, none⟩) := hf.1 ⟨1, .data⟩ (by simp) rfl _ 6 rfl rfl
        obtain ⟨c0, c1, c2, c3⟩ := cells4 (HM0.out wx hb)
        exact wp_value (.iface 93 V) (by unfold execOp; go_simp) ⟨rfl, Below.refl _ _⟩
      | 3, ho =>
        obtain rfl := Option.some.inj ho
        have b3 : a.tmps[3]?.getD undef = .pointer (some ⟨B + 1, 0, none⟩) := hf.2 3 (by kernel_rfl)
        have g0 : wx.cell? ⟨B + 1, 0, none⟩ = some (.iface t0 v0) := cell_of_row _ _ _ _ _ _ (HN0.out wx hb)
        have g1 : wx.cell? ⟨B + 1, 1, none⟩ = some (.iface t1 v1) := cell_of_row _ _ _ _ _ _ (HN0.out wx hb)
        exact wp_value (.agg #[.iface t0 v0, .iface t1 v1]) (by unfold execOp; go_simp) ⟨rfl, Below.refl _ _⟩
      | 4, ho =>
        obtain rfl := Option.some.inj ho
        have e7 : a.tmps[7]?.getD undef = .iface 93 V := hf.1 ⟨2, .data⟩ (by simp) rfl _ 7 rfl rfl
        have e8 : a.tmps[8]?.getD undef = .agg #[.iface t0 v0, .iface t1 v1] := hf.1 ⟨3, .data⟩ (by simp) rfl _ 8 rfl rfl
        exact wp_enter 170 #[V, .agg #[.iface t0 v0, .iface t1 v1]] (.iface tz vz) _ (by unfold execOp; go_simp; go_invoke; rfl) (HZ.out wx) (fun w' h => ⟨rfl, h⟩)
      | 5, ho =>
        obtain rfl := Option.some.inj ho
        have b2 : a.tmps[2]?.getD undef = .pointer (some ⟨B, 0, none⟩) := hf.2 2 (by kernel_rfl)
        exact wp_value (.pointer (some ⟨B, 2, none⟩)) (by unfold execOp; go_simp) ⟨rfl, Below.refl _ _⟩
      | 6, ho =>
        obtain rfl := Option.some.inj ho
        have e10 : a.tmps[10]?.getD undef = .pointer (some ⟨B, 2, none⟩) := hf.1 ⟨5, .data⟩ (by simp) rfl _ 10 rfl rfl
        exact wp_value (.pointer (some ⟨B, 3, none⟩)) (by unfold execOp; go_simp) ⟨rfl, Below.refl _ _⟩
      | 7, ho =>
        obtain rfl := Option.some.inj ho
        have e11 : a.tmps[11]?.getD undef = .pointer (some ⟨B, 3, none⟩) := hf.1 ⟨6, .data⟩ (by simp) rfl _ 11 rfl rfl
        obtain ⟨c0, c1, c2, c3⟩ := cells4 (HM0.out wx hb)
        exact wp_value (.iface 81 U) (by unfold execOp; go_simp) ⟨rfl, Below.refl _ _⟩
      | 8, ho =>
        obtain rfl := Option.some.inj ho
        have b3 : a.tmps[3]?.getD undef = .pointer (some ⟨B + 1, 0, none⟩) := hf.2 3 (by kernel_rfl)
        have g0 : wx.cell? ⟨B + 1, 0, none⟩ = some (.iface t0 v0) := cell_of_row _ _ _ _ _ _ (HN0.out wx hb)
        have g1 : wx.cell? ⟨B + 1, 1, none⟩ = some (.iface t1 v1) := cell_of_row _ _ _ _ _ _ (HN0.out wx hb)
        exact wp_value (.agg #[.iface t0 v0, .iface t1 v1]) (by unfold execOp; go_simp) ⟨rfl, Below.refl _ _⟩
      | 9, ho =>
        obtain rfl := Option.some.inj ho
        have e12 : a.tmps[12]?.getD undef = .iface 81 U := hf.1 ⟨7, .data⟩ (by simp) rfl _ 12 rfl rfl
        have e13 : a.tmps[13]?.getD undef = .agg #[.iface t0 v0, .iface t1 v1] := hf.1 ⟨8, .data⟩ (by simp) rfl _ 13 rfl rfl
        exact wp_enter 163 #[U, .agg #[.iface t0 v0, .iface t1 v1]] (.iface to vo) _ (by unfold execOp; go_simp; go_invoke; rfl) (HO.out wx) (fun w' h => ⟨rfl, h⟩)
      | 10, ho =>
        obtain rfl := Option.some.inj ho
        have e9 : a.tmps[9]?.getD undef = .iface tz vz := hf.1 ⟨4, .data⟩ (by simp) rfl _ 9 rfl rfl
        have e14 : a.tmps[14]?.getD undef = .iface to vo := hf.1 ⟨9, .data⟩ (by simp) rfl _ 14 rfl rfl
        exact wp_value (.agg #[.iface tz vz, .iface to vo]) (by unfold execOp; go_simp) ⟨rfl, Below.refl _ _⟩
      | 11, ho =>
        obtain rfl := Option.some.inj ho
        have b2 : a.tmps[2]?.getD undef = .pointer (some ⟨B, 0, none⟩) := hf.2 2 (by kernel_rfl)
        exact wp_value (.pointer (some ⟨B, 2, none⟩)) (by unfold execOp; go_simp) ⟨rfl, Below.refl _ _⟩
      | 12, ho => exact absurd hlt (by omega)
      | q + 13, ho => simp at ho
    case stse =>
      intro a wx hb hf
      have e15 : a.tmps[15]?.getD undef = .agg #[.iface tz vz, .iface to vo] := hf.1 ⟨10, .data⟩ (by simp) rfl _ 15 rfl rfl
      have e16 : a.tmps[16]?.getD undef = .pointer (some ⟨B, 2, none⟩) := hf.1 ⟨11, .data⟩ (by simp) rfl _ 16 rfl rfl
      exact wp_store_mid 91 (.tmp 16) (.tmp 15) rfl B 2 #[.iface tz vz, .iface to vo] (eval_get e16) (eval_get e15) (there_row (HM0.out wx hb)) (info_two _ _) (all2 _ _ _ _) ⟨rfl, set2 (HM0.out wx hb) _ _⟩
    intro w5 hb5
    have HR : Hid ((w5.setRow B #[.int .u8 wh, .int .i64 (s : Int), .iface tz vz, .iface to vo]).heap[B]? = some (.cells #[.int .u8 wh, .int .i64 (s : Int), .iface tz vz, .iface to vo] 93 (0, 0))) := setRow_at' (HM0.out w5 hb5)
    have HB5 : Hid (Below w.heap.size w (w5.setRow B #[.int .u8 wh, .int .i64 (s : Int), .iface tz vz, .iface to vo])) := setRow_below' (HWW.out.trans (hb5.mono HWW.out.size)) (by rw [HBB.out]; exact Nat.le_refl _) _
    clear hb5 HM0 HWW
    simp only [fill, Act.put]
    go_simp
    generalize w5.setRow B #[.int .u8 wh, .int .i64 (s : Int), .iface tz vz, .iface to vo] = w6 at *
    obtain ⟨c0, c1, c2, c3⟩ := cells4 HR.out
    clear HR
    go_wp2_with fail
    go_ret
    exact ⟨by rw [HT.out]; rfl, HB5.out⟩
  · have HZ := Lib.hid hz
    have HO := Lib.hid ho
    rw [ez, eo]
    clear ez eo hz ho
    go_enter Tryz.func170, Tryz.ntmps170
    go_wp2_with fail
    obtain ⟨W1, hW1⟩ : ∃ W1, (w.alloc (.cells #[.int .u8 wh, .int .i64 (s : Int), .iface 93 V, .iface 93 U] 93)).alloc (.cells #[.iface t0 v0, .iface t1 v1] 91) = W1 := ⟨_, rfl⟩
    rw [hW1]
    have HWW : Hid (Below w.heap.size w W1) := by
      have h0 : Below w.heap.size w (w.alloc (.cells #[.int .u8 wh, .int .i64 (s : Int), .iface 93 V, .iface 93 U] 93)) := (Below.refl _ _).alloc (Nat.le_refl _) _
      show Below _ _ _; rw [← hW1]; exact h0.alloc h0.size _
    have HM0 : Hid (∀ wx : World, Below W1.heap.size W1 wx → wx.heap[B]? = some (.cells #[.int .u8 wh, .int .i64 (s : Int), .iface 93 V, .iface 93 U] 93 (0, 0))) := fun wx h => by
      have h1 : (w.alloc (.cells #[.int .u8 wh, .int .i64 (s : Int), .iface 93 V, .iface 93 U] 93)).heap[w.heap.size]? = some (.cells #[.int .u8 wh, .int .i64 (s : Int), .iface 93 V, .iface 93 U] 93 (0, 0)) := heap_alloc_new w _
      have h0 : W1.heap[B]? = some (.cells #[.int .u8 wh, .int .i64 (s : Int), .iface 93 V, .iface 93 U] 93 (0, 0)) := by rw [← hW1, ← HBB.out]; rw [heap_alloc_old _ _ (Array.getElem?_eq_some_iff.1 h1).1]; exact h1
      exact (h.block _ (Array.getElem?_eq_some_iff.1 h0).1).trans h0
    have HN0 : Hid (∀ wx : World, Below W1.heap.size W1 wx → wx.heap[B + 1]? = some (.cells #[.iface t0 v0, .iface t1 v1] 91 (0, 0))) := fun wx h => by
      have h0 : W1.heap[B + 1]? = some (.cells #[.iface t0 v0, .iface t1 v1] 91 (0, 0)) := by
        rw [← hW1, ← HBB.out]
        have h2 := heap_alloc_new (w.alloc (.cells #[.int .u8 wh, .int .i64 (s : Int), .iface 93 V, .iface 93 U] 93)) (.cells #[.iface t0 v0, .iface t1 v1] 91)
        rw [show (w.alloc (.cells #[.int .u8 wh, .int .i64 (s : Int), .iface 93 V, .iface 93 U] 93)).heap.size = w.heap.size + 1 by simp] at h2
        exact h2
      exact (h.block _ (Array.getElem?_eq_some_iff.1 h0).1).trans h0
    clear hW1
    refine wp_region_last (fun | 0 => .pointer (some ⟨B, 2, none⟩) | 1 => .pointer (some ⟨B, 2, none⟩) | 2 => .iface 93 V | 3 => .agg #[.iface t0 v0, .iface t1 v1] | 4 => .iface tz vz | 5 => .pointer (some ⟨B, 2, none⟩) | 6 => .pointer (some ⟨B, 3, none⟩) | 7 => .iface 93 U | 8 => .agg #[.iface t0 v0, .iface t1 v1] | 9 => .iface to vo | 10 => .agg #[.iface tz vz, .iface to vo] | 11 => .pointer (some ⟨B, 2, none⟩) | _ => undef) 12 (fun wx => wx.setRow B #[.int .u8 wh, .int .i64 (s : Int), .iface tz vz, .iface to vo]) _ (by kernel_rfl) (by kernel_rfl) rfl rfl rfl rfl (by kernel_rfl) ?conss ?stss ?enss
    case conss =>
      intro i o ho hlt a wx hb hf
      match i, ho with
      | 0, ho =>
        obtain rfl := Option.some.inj ho
        have b2 : a.tmps[2]?.getD undef = .pointer (some ⟨B, 0, none⟩) := hf.2 2 (by kernel_rfl)
        exact wp_value (.pointer (some ⟨B, 2, none⟩)) (by unfold execOp; go_simp) ⟨rfl, Below.refl _ _⟩
      | 1, ho =>
        obtain rfl := Option.some.inj ho
        have e5 : a.tmps[5]?.getD undef = .pointer (some ⟨B, 2, none⟩) := hf.1 ⟨0, .data⟩ (by simp) rfl _ 5 rfl rfl
        exact wp_value (.pointer (some ⟨B, 2, none⟩)) (by unfold execOp; go_simp) ⟨rfl, Below.refl _ _⟩
      | 2, ho =>
        obtain rfl := Option.some.inj ho
        have e6 : a.tmps[6]?.getD undef = .pointer (some ⟨B, 2, none⟩) := hf.1 ⟨1, .data⟩ (by simp) rfl _ 6 rfl rfl
        obtain ⟨c0, c1, c2, c3⟩ := cells4 (HM0.out wx hb)
        exact wp_value (.iface 93 V) (by unfold execOp; go_simp) ⟨rfl, Below.refl _ _⟩
      | 3, ho =>
        obtain rfl := Option.some.inj ho
        have b3 : a.tmps[3]?.getD undef = .pointer (some ⟨B + 1, 0, none⟩) := hf.2 3 (by kernel_rfl)
        have g0 : wx.cell? ⟨B + 1, 0, none⟩ = some (.iface t0 v0) := cell_of_row _ _ _ _ _ _ (HN0.out wx hb)
        have g1 : wx.cell? ⟨B + 1, 1, none⟩ = some (.iface t1 v1) := cell_of_row _ _ _ _ _ _ (HN0.out wx hb)
        exact wp_value (.agg #[.iface t0 v0, .iface t1 v1]) (by unfold execOp; go_simp) ⟨rfl, Below.refl _ _⟩
      | 4, ho =>
        obtain rfl := Option.some.inj ho
        have e7 : a.tmps[7]?.getD undef = .iface 93 V := hf.1 ⟨2, .data⟩ (by simp) rfl _ 7 rfl rfl
        have e8 : a.tmps[8]?.getD undef = .agg #[.iface t0 v0, .iface t1 v1] := hf.1 ⟨3, .data⟩ (by simp) rfl _ 8 rfl rfl
        exact wp_enter 170 #[V, .agg #[.iface t0 v0, .iface t1 v1]] (.iface tz vz) _ (by unfold execOp; go_simp; go_invoke; rfl) (HZ.out wx) (fun w' h => ⟨rfl, h⟩)
      | 5, ho =>
        obtain rfl := Option.some.inj ho
        have b2 : a.tmps[2]?.getD undef = .pointer (some ⟨B, 0, none⟩) := hf.2 2 (by kernel_rfl)
        exact wp_value (.pointer (some ⟨B, 2, none⟩)) (by unfold execOp; go_simp) ⟨rfl, Below.refl _ _⟩
      | 6, ho =>
        obtain rfl := Option.some.inj ho
        have e10 : a.tmps[10]?.getD undef = .pointer (some ⟨B, 2, none⟩) := hf.1 ⟨5, .data⟩ (by simp) rfl _ 10 rfl rfl
        exact wp_value (.pointer (some ⟨B, 3, none⟩)) (by unfold execOp; go_simp) ⟨rfl, Below.refl _ _⟩
      | 7, ho =>
        obtain rfl := Option.some.inj ho
        have e11 : a.tmps[11]?.getD undef = .pointer (some ⟨B, 3, none⟩) := hf.1 ⟨6, .data⟩ (by simp) rfl _ 11 rfl rfl
        obtain ⟨c0, c1, c2, c3⟩ := cells4 (HM0.out wx hb)
        exact wp_value (.iface 93 U) (by unfold execOp; go_simp) ⟨rfl, Below.refl _ _⟩
      | 8, ho =>
        obtain rfl := Option.some.inj ho
        have b3 : a.tmps[3]?.getD undef = .pointer (some ⟨B + 1, 0, none⟩) := hf.2 3 (by kernel_rfl)
        have g0 : wx.cell? ⟨B + 1, 0, none⟩ = some (.iface t0 v0) := cell_of_row _ _ _ _ _ _ (HN0.out wx hb)
        have g1 : wx.cell? ⟨B + 1, 1, none⟩ = some (.iface t1 v1) := cell_of_row _ _ _ _ _ _ (HN0.out wx hb)
        exact wp_value (.agg #[.iface t0 v0, .iface t1 v1]) (by unfold execOp; go_simp) ⟨rfl, Below.refl _ _⟩
      | 9, ho =>
        obtain rfl := Option.some.inj ho
        have e12 : a.tmps[12]?.getD undef = .iface 93 U := hf.1 ⟨7, .data⟩ (by simp) rfl _ 12 rfl rfl
        have e13 : a.tmps[13]?.getD undef = .agg #[.iface t0 v0, .iface t1 v1] := hf.1 ⟨8, .data⟩ (by simp) rfl _ 13 rfl rfl
        exact wp_enter 170 #[U, .agg #[.iface t0 v0, .iface t1 v1]] (.iface to vo) _ (by unfold execOp; go_simp; go_invoke; rfl) (HO.out wx) (fun w' h => ⟨rfl, h⟩)
      | 10, ho =>
        obtain rfl := Option.some.inj ho
        have e9 : a.tmps[9]?.getD undef = .iface tz vz := hf.1 ⟨4, .data⟩ (by simp) rfl _ 9 rfl rfl
        have e14 : a.tmps[14]?.getD undef = .iface to vo := hf.1 ⟨9, .data⟩ (by simp) rfl _ 14 rfl rfl
        exact wp_value (.agg #[.iface tz vz, .iface to vo]) (by unfold execOp; go_simp) ⟨rfl, Below.refl _ _⟩
      | 11, ho =>
        obtain rfl := Option.some.inj ho
        have b2 : a.tmps[2]?.getD undef = .pointer (some ⟨B, 0, none⟩) := hf.2 2 (by kernel_rfl)
        exact wp_value (.pointer (some ⟨B, 2, none⟩)) (by unfold execOp; go_simp) ⟨rfl, Below.refl _ _⟩
      | 12, ho => exact absurd hlt (by omega)
      | q + 13, ho => simp at ho
    case stss =>
      intro a wx hb hf
      have e15 : a.tmps[15]?.getD undef = .agg #[.iface tz vz, .iface to vo] := hf.1 ⟨10, .data⟩ (by simp) rfl _ 15 rfl rfl
      have e16 : a.tmps[16]?.getD undef = .pointer (some ⟨B, 2, none⟩) := hf.1 ⟨11, .data⟩ (by simp) rfl _ 16 rfl rfl
      exact wp_store_mid 91 (.tmp 16) (.tmp 15) rfl B 2 #[.iface tz vz, .iface to vo] (eval_get e16) (eval_get e15) (there_row (HM0.out wx hb)) (info_two _ _) (all2 _ _ _ _) ⟨rfl, set2 (HM0.out wx hb) _ _⟩
    intro w5 hb5
    have HR : Hid ((w5.setRow B #[.int .u8 wh, .int .i64 (s : Int), .iface tz vz, .iface to vo]).heap[B]? = some (.cells #[.int .u8 wh, .int .i64 (s : Int), .iface tz vz, .iface to vo] 93 (0, 0))) := setRow_at' (HM0.out w5 hb5)
    have HB5 : Hid (Below w.heap.size w (w5.setRow B #[.int .u8 wh, .int .i64 (s : Int), .iface tz vz, .iface to vo])) := setRow_below' (HWW.out.trans (hb5.mono HWW.out.size)) (by rw [HBB.out]; exact Nat.le_refl _) _
    clear hb5 HM0 HWW
    simp only [fill, Act.put]
    go_simp
    generalize w5.setRow B #[.int .u8 wh, .int .i64 (s : Int), .iface tz vz, .iface to vo] = w6 at *
    obtain ⟨c0, c1, c2, c3⟩ := cells4 HR.out
    clear HR
    go_wp2_with fail
    go_ret
    exact ⟨by rw [HT.out]; rfl, HB5.out⟩

theorem graft_to (zero one : T) (t : T) : Go.Proofs.YtffilggpimdikaaGreatDoor.Count.Node 163 170 t (GraftC zero one t) := by
  induction t with
  | leaf b => exact .inl ⟨_, rfl, end_graft zero one b⟩
  | say a s z o ihz iho => exact .inr ⟨_, rfl, say_graft zero one a s z o ihz iho⟩
end Go.Proofs.YtffilggpimdikaaGreatDoor.Graft

