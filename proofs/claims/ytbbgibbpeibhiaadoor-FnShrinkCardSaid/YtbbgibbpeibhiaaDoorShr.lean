/-
  ShrinkMatrix: the reference's and the program's.
-/
import Derived.Test.YtbbgibbpeibhiaaDoorShrM
import Derived.Deep.WholeRow
namespace Go.Proofs.YtbbgibbpeibhiaaDoor.Shr
open Go.RowKit Go.Proofs.YtbbgibbpeibhiaaDoor.Plain Go.Proofs.YtbbgibbpeibhiaaDoor.Base Go.Proofs.YtbbgibbpeibhiaaDoor.Valid Go.Proofs.YtbbgibbpeibhiaaDoor.Law Go.Proofs.YtbbgibbpeibhiaaDoor.GridPlain Go.Proofs.YtbbgibbpeibhiaaDoor.Grid Go.Proofs.YtbbgibbpeibhiaaDoor.Entry Go.Proofs.YtbbgibbpeibhiaaDoor.App Go.Proofs.YtbbgibbpeibhiaaDoor.First Go.Proofs.YtbbgibbpeibhiaaDoor.Line Go.Proofs.YtbbgibbpeibhiaaDoor.FirstI Go.Proofs.YtbbgibbpeibhiaaDoor.FreeR Go.Proofs.YtbbgibbpeibhiaaDoor.ShrM
open Go.Proofs.YtbbgibbpeibhiaaDoor.Free (fill wp_value wp_enter wp_load_row freeB setRow_kept setRow_below)
set_option linter.unusedVariables false

theorem minfo : (Tryd.prog.info? 24).map (·.size) = some 3 := by kernel_rfl
section
variable {P : Program}
theorem wp_enterE {o : Oper} {a : Act} {w : World} {K : Act → World → Prop} {Q : Exit → Act → World → Prop} (f : FuncId) (args : Array Value) (R : Value → World → Prop) (h : (execOp a.eval o).run P w = .ok (.enter f args) w)
    (hc : Calls P f args w fun e w' => ∃ v, e = .returned v ∧ R v w') (hK : ∀ v w', R v w' → K (a.put o.dst v) w') : o.wp P a w K Q := by
  unfold Oper.wp
  rw [h]
  refine Calls.mono hc ?_
  rintro e w' ⟨v, rfl, hR⟩
  exact hK v w' hR
end
theorem boxes2 {w w1 : World} {o1 o2 : Obj} (hb : Below ((w.alloc o1).alloc o2).heap.size ((w.alloc o1).alloc o2) w1) :
    w1.heap[w.heap.size]? = some o1 ∧ w1.heap[w.heap.size + 1]? = some o2 ∧ Below w.heap.size w w1 ∧ w.heap.size + 2 ≤ w1.heap.size := by
  have hs : ((w.alloc o1).alloc o2).heap.size = w.heap.size + 2 := by simp
  have h2 : ((w.alloc o1).alloc o2).heap[w.heap.size + 1]? = some o2 := by
    have := heap_alloc_new (w.alloc o1) o2
    rwa [World.size_alloc] at this
  have h1 : ((w.alloc o1).alloc o2).heap[w.heap.size]? = some o1 := (Below.heap_alloc _ _ _ (by simp)).trans (heap_alloc_new w o1)
  exact ⟨(hb.block _ (by omega)).trans h1, (hb.block _ (by omega)).trans h2, (((Below.refl w.heap.size w).alloc (Nat.le_refl _) _).alloc (by simp) _).trans (hb.mono (by omega)), by have := hb.size; omega⟩
theorem free3 {w : World} {g : Nat} {T : TypeId} {a b c : Value} (h : w.heap[g]? = some (.cells #[a, b, c] T (0, 0))) :
    w.frozen? ⟨g, 0, none⟩ = false ∧ w.frozen? ⟨g, 1, none⟩ = false ∧ w.frozen? ⟨g, 2, none⟩ = false :=
  ⟨frozen_of_row _ _ 0 _ _ h, frozen_of_row _ _ 1 _ _ h, frozen_of_row _ _ 2 _ _ h⟩

set_option maxHeartbeats 2000000 in
set_option maxRecDepth 100000 in
theorem shrink_spec (r c : Int) (s t : ByteArray) (hs : s.size ≤ maxLen) (hv : validB r c s = true) (xs ys : List Nat) (A B : Int) (u : ByteArray) (w : World) (lo : Nat) (hlo2 : lo = w.heap.size + 2)
    (hx : ∀ W : World, lo ≤ W.heap.size → Calls Tryd.prog 33 #[mat r c s] W fun e w' => ∃ v, e = .returned v ∧ SV lo w' v xs ∧ Below W.heap.size W w')
    (ht : ∀ W : World, Calls Tryd.prog 34 #[mat r c s] W fun e w' => e = .returned (mat c r t) ∧ Below W.heap.size W w')
    (hy : ∀ W : World, lo ≤ W.heap.size → Calls Tryd.prog 33 #[mat c r t] W fun e w' => ∃ v, e = .returned v ∧ SV lo w' v ys ∧ Below W.heap.size W w')
    (hp : ∀ (v1 v2 : Value) (W : World), SV lo W v1 xs → SV lo W v2 ys → Calls Tryd.prog 32 #[mat r c s, v1, v2] W fun e w' => e = .returned (mat A B u) ∧ Below W.heap.size W w') :
    Calls Tryd.prog 10 #[mat r c s] w fun e w' => e = .returned (.tuple #[mat A B u, .bool true]) ∧ Below w.heap.size w w' := by
  have HV := Lib.hid hv
  have HX := Lib.hid hx
  have HY := Lib.hid hy
  have HT := Lib.hid ht
  have HP := Lib.hid hp
  have HLO := Lib.hid hlo2
  clear hv hx hy ht hp hlo2
  go_enter Tryd.func10, Tryd.ntmps10
  go_wp2_with fail
  refine (spec_valid _ _ s hs _).mono ?_
  rintro e w1 ⟨rfl, hb1⟩
  rw [HV.out]
  obtain ⟨b0, b1, hbel, hz⟩ := boxes2 hb1
  have HBOX : Hid (∀ W' : World, Below w1.heap.size w1 W' → W'.heap[w.heap.size]? = some (.cells #[.int .i64 r, .int .i64 c, .string s] 24 (0, 0))) := fun W' hb => (hb.block _ (by omega)).trans b0
  have HRES : Hid (∀ W' : World, Below w1.heap.size w1 W' → W'.heap[w.heap.size + 1]? = some (.cells #[.int .i64 0, .int .i64 0, .string ⟨#[]⟩] 24 (0, 0))) := fun W' hb => (hb.block _ (by omega)).trans b1
  have HB := Lib.hid hbel
  clear hb1 b0 b1 hbel
  go_wp2_with fail
  have hlo2 : lo = w.heap.size + 2 := HLO.out
  have hlo : lo ≤ w1.heap.size := by omega
  refine wp_region_rel (fun | 0 => fun v _ => v = mat r c s | 1 => fun v _ => v = mat r c s | 2 => fun v w => SV lo w v xs | 3 => fun v _ => v = mat r c s | 4 => fun v _ => v = mat c r t | 5 => fun v w => SV lo w v ys | 6 => fun v _ => v = mat A B u | 8 => fun v _ => v = .bool true | _ => fun _ _ => True) 7 (fun w' => w'.setRow (w.heap.size + 1) #[.int .i64 A, .int .i64 B, .string u]) _ _ (by kernel_rfl) (by kernel_rfl) rfl rfl rfl rfl rfl (by kernel_rfl) ?hR ?hRf ?con ?st ?zz ?en
  case hR =>
    intro i v wa wb h hb
    match i, h with
    | 0, h => exact h
    | 1, h => exact h
    | 2, h => exact SV.later h hb
    | 3, h => exact h
    | 4, h => exact h
    | 5, h => exact SV.later h hb
    | 6, h => exact h
    | 8, h => exact h
    | 7, h => exact h
    | q + 9, h => exact h
  case hRf =>
    intro i v wa hb _ h
    match i, h with
    | 0, h => exact h
    | 1, h => exact h
    | 2, h => exact SV.row h _ (by omega) _
    | 3, h => exact h
    | 4, h => exact h
    | 5, h => exact SV.row h _ (by omega) _
    | 6, h => exact h
    | 8, h => exact h
    | 7, h => exact h
    | q + 9, h => exact h
  case con =>
    intro i o ho hi a w2 hb2 hf
    match i, ho with
    | 0, ho =>
      obtain rfl := Option.some.inj ho
      have b1 : a.tmps[1]?.getD undef = .pointer (some ⟨w.heap.size, 0, none⟩) := hf.2 1 (by kernel_rfl)
      exact wp_load_row 24 (.tmp 1) rfl w.heap.size (eval_get b1 trivial) 24 _ (0, 0) _ (HBOX.out w2 hb2) Tryd.underlying24 rfl minfo ⟨_, rfl, rfl, Below.refl _ _⟩
    | 1, ho =>
      obtain rfl := Option.some.inj ho
      have b1 : a.tmps[1]?.getD undef = .pointer (some ⟨w.heap.size, 0, none⟩) := hf.2 1 (by kernel_rfl)
      exact wp_load_row 24 (.tmp 1) rfl w.heap.size (eval_get b1 trivial) 24 _ (0, 0) _ (HBOX.out w2 hb2) Tryd.underlying24 rfl minfo ⟨_, rfl, rfl, Below.refl _ _⟩
    | 2, ho =>
      obtain rfl := Option.some.inj ho
      have e9 : a.tmps[9]?.getD undef = mat r c s := hf.1 ⟨1, .data⟩ (by simp) rfl _ 9 rfl rfl
      exact wp_enterE 33 #[mat r c s] (fun v w' => SV lo w' v xs ∧ Below w2.heap.size w2 w') (by unfold execOp; go_simp) (HX.out w2 (Nat.le_trans hlo hb2.size)) (fun v w' h => ⟨_, rfl, h.1, h.2⟩)
    | 3, ho =>
      obtain rfl := Option.some.inj ho
      have b1 : a.tmps[1]?.getD undef = .pointer (some ⟨w.heap.size, 0, none⟩) := hf.2 1 (by kernel_rfl)
      exact wp_load_row 24 (.tmp 1) rfl w.heap.size (eval_get b1 trivial) 24 _ (0, 0) _ (HBOX.out w2 hb2) Tryd.underlying24 rfl minfo ⟨_, rfl, rfl, Below.refl _ _⟩
    | 4, ho =>
      obtain rfl := Option.some.inj ho
      have e11 : a.tmps[11]?.getD undef = mat r c s := hf.1 ⟨3, .data⟩ (by simp) rfl _ 11 rfl rfl
      exact wp_enter 34 #[mat r c s] (mat c r t) _ (by unfold execOp; go_simp) (HT.out w2) (fun w' h => ⟨_, rfl, rfl, h⟩)
    | 5, ho =>
      obtain rfl := Option.some.inj ho
      have e12 : a.tmps[12]?.getD undef = mat c r t := hf.1 ⟨4, .data⟩ (by simp) rfl _ 12 rfl rfl
      exact wp_enterE 33 #[mat c r t] (fun v w' => SV lo w' v ys ∧ Below w2.heap.size w2 w') (by unfold execOp; go_simp) (HY.out w2 (Nat.le_trans hlo hb2.size)) (fun v w' h => ⟨_, rfl, h.1, h.2⟩)
    | 6, ho =>
      obtain rfl := Option.some.inj ho
      have e8 : a.tmps[8]?.getD undef = mat r c s := hf.1 ⟨0, .data⟩ (by simp) rfl _ 8 rfl rfl
      have s10 : SV lo w2 (a.tmps[10]?.getD undef) xs := hf.1 ⟨2, .data⟩ (by simp) rfl _ 10 rfl rfl
      obtain ⟨v10, hv10⟩ : ∃ v, a.tmps[10]?.getD undef = v := ⟨_, rfl⟩
      rw [hv10] at s10
      have s13 : SV lo w2 (a.tmps[13]?.getD undef) ys := hf.1 ⟨5, .data⟩ (by simp) rfl _ 13 rfl rfl
      obtain ⟨v13, hv13⟩ : ∃ v, a.tmps[13]?.getD undef = v := ⟨_, rfl⟩
      rw [hv13] at s13
      exact wp_enter 32 #[mat r c s, v10, v13] (mat A B u) _ (by unfold execOp; go_simp) (HP.out _ _ w2 s10 s13) (fun w' h => ⟨_, rfl, rfl, h⟩)
    | q + 7, ho => exact absurd hi (by omega)
  case st =>
    intro a w2 hb2 hf
    have b2 : a.tmps[2]?.getD undef = .pointer (some ⟨w.heap.size + 1, 0, none⟩) := hf.2 2 (by kernel_rfl)
    have e14 : a.tmps[14]?.getD undef = mat A B u := hf.1 ⟨6, .data⟩ (by simp) rfl _ 14 rfl rfl
    exact wp_store_row 24 (.tmp 2) (.tmp 14) rfl (w.heap.size + 1) #[.int .i64 A, .int .i64 B, .string u] (eval_get b2 trivial) (eval_get e14 trivial) 24 _ (HRES.out w2 hb2) minfo rfl (by simp [Value.oneCell']) ⟨rfl, rfl⟩
  case zz =>
    intro a w2 hf
    exact wp_value (.bool true) (by unfold execOp; go_simp) ⟨_, rfl, rfl, rfl⟩
  case en =>
    intro vs w2 hb2 hall
    have h8 : vs 8 = .bool true := hall 8 _ rfl (by decide)
    have hrow := setRow_kept (HRES.out w2 hb2) #[.int .i64 A, .int .i64 B, .string u]
    have HB2 := Lib.hid (setRow_below (g := w.heap.size + 1) (bstep HB.out hb2) (by omega) #[.int .i64 A, .int .i64 B, .string u])
    clear hb2 hall HBOX HRES
    generalize w2.setRow (w.heap.size + 1) #[.int .i64 A, .int .i64 B, .string u] = w3 at *
    have d0 : w3.cell? ⟨w.heap.size + 1, 0, none⟩ = some (.int .i64 A) := cell_of_row _ _ 0 _ _ _ hrow
    have d1 : w3.cell? ⟨w.heap.size + 1, 1, none⟩ = some (.int .i64 B) := cell_of_row _ _ 1 _ _ _ hrow
    have d2 : w3.cell? ⟨w.heap.size + 1, 2, none⟩ = some (.string u) := cell_of_row _ _ 2 _ _ _ hrow
    clear hrow
    simp only [fill, Act.put]
    go_simp
    go_wp2_with fail
    exact bodyPost_ret (v := .tuple #[mat A B u, .bool true]) (by simp [results, Tryd.results10, go_sem, d0, d1, d2]) rfl ⟨rfl, HB2.out⟩

set_option maxHeartbeats 1000000 in
theorem shrink_spec_no (r c : Int) (s : ByteArray) (hs : s.size ≤ maxLen) (hv : validB r c s = false) (w : World) :
    Calls Tryd.prog 10 #[mat r c s] w fun e w' => e = .returned (.tuple #[mat 0 0 (str []), .bool false]) ∧ Below w.heap.size w w' := by
  have HV := Lib.hid hv
  clear hv
  go_enter Tryd.func10, Tryd.ntmps10
  go_wp2_with fail
  refine (spec_valid _ _ s hs _).mono ?_
  rintro e w1 ⟨rfl, hb1⟩
  rw [HV.out]
  obtain ⟨b0, b1, hbel, hz⟩ := boxes2 hb1
  obtain ⟨d0, d1, d2⟩ := cells3 b1
  obtain ⟨f0, f1, f2⟩ := free3 b1
  have HB := Lib.hid hbel
  clear hb1 b0 b1 hbel
  go_wp2_with fail
  refine bodyPost_ret (v := .tuple #[mat 0 0 (str []), .bool false]) (by simp [results, Tryd.results10, go_sem, d0, d1, d2, str]) rfl ⟨rfl, ?_⟩
  exact ((HB.out.setCell (by simp) _).setCell (by simp) _).setCell (by simp) _

set_option maxHeartbeats 2000000 in
set_option maxRecDepth 100000 in
theorem shrink_impl (r c : Int) (s : ByteArray) (R C : Int) (f : Nat → Int) (xs ys : List Nat) (A B : Int) (u : ByteArray) (b : Bool) (w : World) (lo : Nat) (hlo2 : lo = w.heap.size + 2)
    (hg : ∀ W : World, Calls Tryd.prog 27 #[mat r c s] W fun e w' => e = .returned (gval R C f) ∧ Below W.heap.size W w')
    (hx : ∀ W : World, lo ≤ W.heap.size → Calls Tryd.prog 28 #[.int .i64 R, .func (.func 29) #[gval R C f] #[]] W fun e w' => ∃ v, e = .returned v ∧ SV lo w' v xs ∧ Below W.heap.size W w')
    (hy : ∀ W : World, lo ≤ W.heap.size → Calls Tryd.prog 28 #[.int .i64 C, .func (.func 30) #[gval R C f] #[]] W fun e w' => ∃ v, e = .returned v ∧ SV lo w' v ys ∧ Below W.heap.size W w')
    (hp : ∀ (v1 v2 : Value) (W : World), SV lo W v1 xs → SV lo W v2 ys → Calls Tryd.prog 12 #[mat r c s, v1, v2] W fun e w' => e = .returned (.tuple #[mat A B u, .bool b]) ∧ Below W.heap.size W w') :
    Calls Tryd.prog 9 #[mat r c s] w fun e w' => e = .returned (.tuple #[mat A B u, .bool b]) ∧ Below w.heap.size w w' := by
  have HG := Lib.hid hg
  have HX := Lib.hid hx
  have HY := Lib.hid hy
  have HP := Lib.hid hp
  have HLO := Lib.hid hlo2
  clear hg hx hy hp hlo2
  go_enter Tryd.func9, Tryd.ntmps9
  go_wp2_with fail
  refine (HG.out _).mono ?_
  rintro e w1 ⟨rfl, hb1⟩
  obtain ⟨b0, b1, hbel, hz⟩ := boxes2 hb1
  have HBOX : Hid (∀ W' : World, Below (w1.alloc (.cells (gcells R C f) 47)).heap.size (w1.alloc (.cells (gcells R C f) 47)) W' → W'.heap[w.heap.size]? = some (.cells #[.int .i64 r, .int .i64 c, .string s] 24 (0, 0))) := fun W' hb => (hb.block _ (by simp; omega)).trans ((Below.heap_alloc _ _ _ (by omega)).trans b0)
  have HRES : Hid (∀ W' : World, Below (w1.alloc (.cells (gcells R C f) 47)).heap.size (w1.alloc (.cells (gcells R C f) 47)) W' → W'.heap[w.heap.size + 1]? = some (.cells #[.int .i64 0, .int .i64 0, .string ⟨#[]⟩] 24 (0, 0))) := fun W' hb => (hb.block _ (by simp; omega)).trans ((Below.heap_alloc _ _ _ (by omega)).trans b1)
  have HGR : Hid (∀ W' : World, Below (w1.alloc (.cells (gcells R C f) 47)).heap.size (w1.alloc (.cells (gcells R C f) 47)) W' → W'.heap[w1.heap.size]? = some (.cells (gcells R C f) 47 (0, 0))) := fun W' hb => (hb.block _ (by simp)).trans (heap_alloc_new w1 _)
  have HC0 : Hid (∀ W' : World, Below (w1.alloc (.cells (gcells R C f) 47)).heap.size (w1.alloc (.cells (gcells R C f) 47)) W' → W'.cell? ⟨w1.heap.size, 0, none⟩ = some (.int .i64 R)) := fun W' hb => cell_of_row _ _ 0 _ _ _ (HGR.out W' hb)
  have HC1 : Hid (∀ W' : World, Below (w1.alloc (.cells (gcells R C f) 47)).heap.size (w1.alloc (.cells (gcells R C f) 47)) W' → W'.cell? ⟨w1.heap.size, 1, none⟩ = some (.int .i64 C)) := fun W' hb => cell_of_row _ _ 1 _ _ _ (HGR.out W' hb)
  have HB : Hid (Below w.heap.size w (w1.alloc (.cells (gcells R C f) 47))) := bstepA hbel _
  clear hb1 b0 b1 hbel
  go_wp2_with (refine wpList_store_row rfl 47 (.tmp 4) (.tmp 6) rfl w1.heap.size (gcells R C f) rfl rfl 47 _ (heap_alloc_new w1 _) (ginfo' _ _ _) (by rw [gzero, gsize, gsize]) (gone _ _ _) ?_; rw [World.setRow_alloc_new])
  have hlo2 : lo = w.heap.size + 2 := HLO.out
  have hlo : lo ≤ (w1.alloc (.cells (gcells R C f) 47)).heap.size := by rw [World.size_alloc]; omega
  refine wp_region_rel (fun | 0 => fun v _ => v = mat r c s | 1 => fun v _ => v = .pointer (some ⟨w1.heap.size, 0, none⟩) | 2 => fun v _ => v = .int .i64 R | 3 => fun v _ => v = gval R C f | 4 => fun v _ => v = .func (.func 29) #[gval R C f] #[] | 5 => fun v w => SV lo w v xs | 6 => fun v _ => v = .pointer (some ⟨w1.heap.size, 1, none⟩) | 7 => fun v _ => v = .int .i64 C | 8 => fun v _ => v = gval R C f | 9 => fun v _ => v = .func (.func 30) #[gval R C f] #[] | 10 => fun v w => SV lo w v ys | 11 => fun v _ => v = .tuple #[mat A B u, .bool b] | 12 => fun v _ => v = mat A B u | 13 => fun v _ => v = .bool b | 15 => fun v _ => v = .bool b | _ => fun _ _ => True) 14 (fun w' => w'.setRow (w.heap.size + 1) #[.int .i64 A, .int .i64 B, .string u]) _ _ (by kernel_rfl) (by kernel_rfl) rfl rfl rfl rfl rfl (by kernel_rfl) ?hR ?hRf ?con ?st ?zz ?en
  case hR =>
    intro i v wa wb h hb
    match i, h with
    | 0, h => exact h
    | 1, h => exact h
    | 2, h => exact h
    | 3, h => exact h
    | 4, h => exact h
    | 5, h => exact SV.later h hb
    | 6, h => exact h
    | 7, h => exact h
    | 8, h => exact h
    | 9, h => exact h
    | 10, h => exact SV.later h hb
    | 11, h => exact h
    | 12, h => exact h
    | 13, h => exact h
    | 15, h => exact h
    | 14, h => exact h
    | q + 16, h => exact h
  case hRf =>
    intro i v wa hb _ h
    match i, h with
    | 0, h => exact h
    | 1, h => exact h
    | 2, h => exact h
    | 3, h => exact h
    | 4, h => exact h
    | 5, h => exact SV.row h _ (by omega) _
    | 6, h => exact h
    | 7, h => exact h
    | 8, h => exact h
    | 9, h => exact h
    | 10, h => exact SV.row h _ (by omega) _
    | 11, h => exact h
    | 12, h => exact h
    | 13, h => exact h
    | 15, h => exact h
    | 14, h => exact h
    | q + 16, h => exact h
  case con =>
    intro i o ho hi a w2 hb2 hf
    match i, ho with
    | 0, ho =>
      obtain rfl := Option.some.inj ho
      have b1 : a.tmps[1]?.getD undef = .pointer (some ⟨w.heap.size, 0, none⟩) := hf.2 1 (by kernel_rfl)
      exact wp_load_row 24 (.tmp 1) rfl w.heap.size (eval_get b1 trivial) 24 _ (0, 0) _ (HBOX.out w2 hb2) Tryd.underlying24 rfl minfo ⟨_, rfl, rfl, Below.refl _ _⟩
    | 1, ho =>
      obtain rfl := Option.some.inj ho
      have b4 : a.tmps[4]?.getD undef = .pointer (some ⟨w1.heap.size, 0, none⟩) := hf.2 4 (by kernel_rfl)
      exact wp_value (.pointer (some ⟨w1.heap.size, 0, none⟩)) (by unfold execOp; go_simp) ⟨_, rfl, rfl, Below.refl _ _⟩
    | 2, ho =>
      obtain rfl := Option.some.inj ho
      have e8 : a.tmps[8]?.getD undef = .pointer (some ⟨w1.heap.size, 0, none⟩) := hf.1 ⟨1, .data⟩ (by simp) rfl _ 8 rfl rfl
      have hc := HC0.out w2 hb2
      exact wp_value (.int .i64 R) (by unfold execOp; go_simp) ⟨_, rfl, rfl, Below.refl _ _⟩
    | 3, ho =>
      obtain rfl := Option.some.inj ho
      have b4 : a.tmps[4]?.getD undef = .pointer (some ⟨w1.heap.size, 0, none⟩) := hf.2 4 (by kernel_rfl)
      exact wp_load_row 47 (.tmp 4) rfl w1.heap.size (eval_get b4 trivial) 47 _ (0, 0) _ (HGR.out w2 hb2) Tryd.underlying47 rfl (ginfo' _ _ _) ⟨_, rfl, rfl, Below.refl _ _⟩
    | 4, ho =>
      obtain rfl := Option.some.inj ho
      have e10 : a.tmps[10]?.getD undef = gval R C f := hf.1 ⟨3, .data⟩ (by simp) rfl _ 10 rfl rfl
      exact wp_value (.func (.func 29) #[gval R C f] #[]) (by unfold execOp; go_simp) ⟨_, rfl, rfl, Below.refl _ _⟩
    | 5, ho =>
      obtain rfl := Option.some.inj ho
      have e9 : a.tmps[9]?.getD undef = .int .i64 R := hf.1 ⟨2, .data⟩ (by simp) rfl _ 9 rfl rfl
      have e11 : a.tmps[11]?.getD undef = .func (.func 29) #[gval R C f] #[] := hf.1 ⟨4, .data⟩ (by simp) rfl _ 11 rfl rfl
      exact wp_enterE 28 #[.int .i64 R, .func (.func 29) #[gval R C f] #[]] (fun v w' => SV lo w' v xs ∧ Below w2.heap.size w2 w') (by unfold execOp; go_simp) (HX.out w2 (Nat.le_trans hlo hb2.size)) (fun v w' h => ⟨_, rfl, h.1, h.2⟩)
    | 6, ho =>
      obtain rfl := Option.some.inj ho
      have b4 : a.tmps[4]?.getD undef = .pointer (some ⟨w1.heap.size, 0, none⟩) := hf.2 4 (by kernel_rfl)
      exact wp_value (.pointer (some ⟨w1.heap.size, 1, none⟩)) (by unfold execOp; go_simp) ⟨_, rfl, rfl, Below.refl _ _⟩
    | 7, ho =>
      obtain rfl := Option.some.inj ho
      have e13 : a.tmps[13]?.getD undef = .pointer (some ⟨w1.heap.size, 1, none⟩) := hf.1 ⟨6, .data⟩ (by simp) rfl _ 13 rfl rfl
      have hc := HC1.out w2 hb2
      exact wp_value (.int .i64 C) (by unfold execOp; go_simp) ⟨_, rfl, rfl, Below.refl _ _⟩
    | 8, ho =>
      obtain rfl := Option.some.inj ho
      have b4 : a.tmps[4]?.getD undef = .pointer (some ⟨w1.heap.size, 0, none⟩) := hf.2 4 (by kernel_rfl)
      exact wp_load_row 47 (.tmp 4) rfl w1.heap.size (eval_get b4 trivial) 47 _ (0, 0) _ (HGR.out w2 hb2) Tryd.underlying47 rfl (ginfo' _ _ _) ⟨_, rfl, rfl, Below.refl _ _⟩
    | 9, ho =>
      obtain rfl := Option.some.inj ho
      have e15 : a.tmps[15]?.getD undef = gval R C f := hf.1 ⟨8, .data⟩ (by simp) rfl _ 15 rfl rfl
      exact wp_value (.func (.func 30) #[gval R C f] #[]) (by unfold execOp; go_simp) ⟨_, rfl, rfl, Below.refl _ _⟩
    | 10, ho =>
      obtain rfl := Option.some.inj ho
      have e14 : a.tmps[14]?.getD undef = .int .i64 C := hf.1 ⟨7, .data⟩ (by simp) rfl _ 14 rfl rfl
      have e16 : a.tmps[16]?.getD undef = .func (.func 30) #[gval R C f] #[] := hf.1 ⟨9, .data⟩ (by simp) rfl _ 16 rfl rfl
      exact wp_enterE 28 #[.int .i64 C, .func (.func 30) #[gval R C f] #[]] (fun v w' => SV lo w' v ys ∧ Below w2.heap.size w2 w') (by unfold execOp; go_simp) (HY.out w2 (Nat.le_trans hlo hb2.size)) (fun v w' h => ⟨_, rfl, h.1, h.2⟩)
    | 11, ho =>
      obtain rfl := Option.some.inj ho
      have e7 : a.tmps[7]?.getD undef = mat r c s := hf.1 ⟨0, .data⟩ (by simp) rfl _ 7 rfl rfl
      have s12 : SV lo w2 (a.tmps[12]?.getD undef) xs := hf.1 ⟨5, .data⟩ (by simp) rfl _ 12 rfl rfl
      obtain ⟨v12, hv12⟩ : ∃ v, a.tmps[12]?.getD undef = v := ⟨_, rfl⟩
      rw [hv12] at s12
      have s17 : SV lo w2 (a.tmps[17]?.getD undef) ys := hf.1 ⟨10, .data⟩ (by simp) rfl _ 17 rfl rfl
      obtain ⟨v17, hv17⟩ : ∃ v, a.tmps[17]?.getD undef = v := ⟨_, rfl⟩
      rw [hv17] at s17
      exact wp_enter 12 #[mat r c s, v12, v17] (.tuple #[mat A B u, .bool b]) _ (by unfold execOp; go_simp) (HP.out _ _ w2 s12 s17) (fun w' h => ⟨_, rfl, rfl, h⟩)
    | 12, ho =>
      obtain rfl := Option.some.inj ho
      have e18 : a.tmps[18]?.getD undef = .tuple #[mat A B u, .bool b] := hf.1 ⟨11, .data⟩ (by simp) rfl _ 18 rfl rfl
      exact wp_value (mat A B u) (by unfold execOp; go_simp) ⟨_, rfl, rfl, Below.refl _ _⟩
    | 13, ho =>
      obtain rfl := Option.some.inj ho
      have e18 : a.tmps[18]?.getD undef = .tuple #[mat A B u, .bool b] := hf.1 ⟨11, .data⟩ (by simp) rfl _ 18 rfl rfl
      exact wp_value (.bool b) (by unfold execOp; go_simp) ⟨_, rfl, rfl, Below.refl _ _⟩
    | q + 14, ho => exact absurd hi (by omega)
  case st =>
    intro a w2 hb2 hf
    have b2 : a.tmps[2]?.getD undef = .pointer (some ⟨w.heap.size + 1, 0, none⟩) := hf.2 2 (by kernel_rfl)
    have e19 : a.tmps[19]?.getD undef = mat A B u := hf.1 ⟨12, .data⟩ (by simp) rfl _ 19 rfl rfl
    exact wp_store_row 24 (.tmp 2) (.tmp 19) rfl (w.heap.size + 1) #[.int .i64 A, .int .i64 B, .string u] (eval_get b2 trivial) (eval_get e19 trivial) 24 _ (HRES.out w2 hb2) minfo rfl (by simp [Value.oneCell']) ⟨rfl, rfl⟩
  case zz =>
    intro a w2 hf
    have e20 : a.tmps[20]?.getD undef = .bool b := hf ⟨13, .data⟩ (by simp) rfl (by decide) _ 20 rfl rfl
    exact wp_value (.bool b) (by unfold execOp; go_simp) ⟨_, rfl, rfl, rfl⟩
  case en =>
    intro vs w2 hb2 hall
    clear HGR HC0 HC1
    have h15 : vs 15 = .bool b := hall 15 _ rfl (by decide)
    have hrow := setRow_kept (HRES.out w2 hb2) #[.int .i64 A, .int .i64 B, .string u]
    have HB2 := Lib.hid (setRow_below (g := w.heap.size + 1) (bstep HB.out hb2) (by omega) #[.int .i64 A, .int .i64 B, .string u])
    clear hb2 hall HBOX HRES
    generalize w2.setRow (w.heap.size + 1) #[.int .i64 A, .int .i64 B, .string u] = w3 at *
    have d0 : w3.cell? ⟨w.heap.size + 1, 0, none⟩ = some (.int .i64 A) := cell_of_row _ _ 0 _ _ _ hrow
    have d1 : w3.cell? ⟨w.heap.size + 1, 1, none⟩ = some (.int .i64 B) := cell_of_row _ _ 1 _ _ _ hrow
    have d2 : w3.cell? ⟨w.heap.size + 1, 2, none⟩ = some (.string u) := cell_of_row _ _ 2 _ _ _ hrow
    clear hrow
    simp only [fill, Act.put]
    go_simp
    go_wp2_with fail
    exact bodyPost_ret (v := .tuple #[mat A B u, .bool b]) (by simp [results, Tryd.results9, go_sem, d0, d1, d2]) rfl ⟨rfl, HB2.out⟩
end Go.Proofs.YtbbgibbpeibhiaaDoor.Shr
