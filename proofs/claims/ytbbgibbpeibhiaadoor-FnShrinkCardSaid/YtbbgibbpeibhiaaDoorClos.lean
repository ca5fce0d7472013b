/-
  A matrix that is made of one grid's entries: TurnMatrix and OtherMatrix of the program.
-/
import Derived.Test.YtbbgibbpeibhiaaDoorEntry
import Derived.Test.YtbbgibbpeibhiaaDoorFrom
import Derived.Deep.WholeRow
namespace Go.Proofs.YtbbgibbpeibhiaaDoor.Clos
open Go.RowKit Go.Proofs.YtbbgibbpeibhiaaDoor.Plain Go.Proofs.YtbbgibbpeibhiaaDoor.Base Go.Proofs.YtbbgibbpeibhiaaDoor.Valid Go.Proofs.YtbbgibbpeibhiaaDoor.Law Go.Proofs.YtbbgibbpeibhiaaDoor.GridPlain Go.Proofs.YtbbgibbpeibhiaaDoor.Grid Go.Proofs.YtbbgibbpeibhiaaDoor.Entry Go.Proofs.YtbbgibbpeibhiaaDoor.From
set_option linter.unusedVariables false

/-- block b holds the grid of so many entries -/
def Holds (w : World) (b : Nat) (r c : Nat) (E : Nat → Nat → Bool) : Prop := w.heap[b]? = some (.cells (gcells r c (gpart E c (r * c))) 47 (0, 0))
theorem Holds.lt {w : World} {b r c : Nat} {E : Nat → Nat → Bool} (h : Holds w b r c E) : b < w.heap.size := (Array.getElem?_eq_some_iff.1 h).1
theorem Holds.below {w w1 : World} {b r c : Nat} {E : Nat → Nat → Bool} (h : Holds w b r c E) (hb : Below w.heap.size w w1) : Holds w1 b r c E := (hb.block b h.lt).trans h

set_option maxHeartbeats 1000000 in
theorem turn_clos (r c : Nat) (E : Nat → Nat → Bool) (hr8 : r ≤ 8) (hc8 : c ≤ 8) (b : Nat) (x y : Nat) (hx : x < c) (hy : y < r) (W : World) (hh : Holds W b r c E) :
    Calls Tryd.prog 36 #[.int .i64 (x : Int), .int .i64 (y : Int), .pointer (some ⟨b, 0, none⟩)] W fun e W' => e = .returned (.int .i64 (bitI (E y x))) ∧ Below W.heap.size W W' := by
  have HH := Lib.hid (show W.heap[b]? = some (.cells (gcells r c (gpart E c (r * c))) 47 (0, 0)) from hh)
  have HF := Lib.hid (gpart_all E r c y x hy hx hc8)
  have hx8 : x < 8 := by omega
  have hy8 : y < 8 := by omega
  clear hh
  go_enter Tryd.func36, Tryd.ntmps36
  go_wp2_with (have X := HH.out; refine wpList_load_row rfl 47 (.tmp 2) rfl b rfl 47 (gcells r c (gpart E c (r * c))) (0, 0) _ X Tryd.underlying47 rfl (ginfo' _ _ _) ?_; clear X)
  refine (entry_any r c _ y x hy8 hx8 _).mono ?_
  rintro e w1 ⟨rfl, hb1⟩
  have HB := Lib.hid hb1
  clear hb1
  rw [HF.out]
  go_wp2_with fail
  go_ret
  exact ⟨rfl, HB.out⟩
theorem turn_enters (args : Array Value) (W : World) : (callFunc 36 args).run Tryd.prog W = .ok (.enter 36 args) W := by kernel_rfl

theorem two_blocks {w w1 : World} {o1 o2 : Obj} (hb : Below ((w.alloc o1).alloc o2).heap.size ((w.alloc o1).alloc o2) w1) :
    w1.heap[w.heap.size + 1]? = some o2 ∧ Below w.heap.size w w1 ∧ w.heap.size + 2 ≤ w1.heap.size := by
  have hs : ((w.alloc o1).alloc o2).heap.size = w.heap.size + 2 := by simp
  have h2 : ((w.alloc o1).alloc o2).heap[w.heap.size + 1]? = some o2 := by
    have := heap_alloc_new (w.alloc o1) o2
    rwa [World.size_alloc] at this
  exact ⟨(hb.block _ (by omega)).trans h2, (((Below.refl w.heap.size w).alloc (Nat.le_refl _) _).alloc (by simp) _).trans (hb.mono (by omega)), by have := hb.size; omega⟩

set_option maxHeartbeats 1000000 in
set_option maxRecDepth 100000 in
theorem turn_impl (E : Nat → Nat → Bool) (r c : Nat) (hr : 1 ≤ r) (hr8 : r ≤ 8) (hc : 1 ≤ c) (hc8 : c ≤ 8) (s : ByteArray) (w : World)
    (hg : ∀ W : World, Calls Tryd.prog 27 #[mat r c s] W fun e w' => e = .returned (gval r c (gpart E c (r * c))) ∧ Below W.heap.size W w') :
    Calls Tryd.prog 11 #[mat r c s] w fun e w' => e = .returned (.tuple #[mat c r (str (rowsB (fun x y => E y x) c r)), .bool true]) ∧ Below w.heap.size w w' := by
  have HG := Lib.hid hg
  clear hg
  go_enter Tryd.func11, Tryd.ntmps11
  go_wp2_with fail
  refine (HG.out _).mono ?_
  rintro e w1 ⟨rfl, hb1⟩
  obtain ⟨b1, hbel, hz⟩ := two_blocks hb1
  have H1 := Lib.hid b1
  have HB := Lib.hid hbel
  have c0 : (w1.alloc (.cells (gcells r c (gpart E c (r * c))) 47)).cell? ⟨w1.heap.size, 0, none⟩ = some (.int .i64 (r : Int)) := cell_of_row _ _ 0 _ _ _ (heap_alloc_new w1 _)
  have c1 : (w1.alloc (.cells (gcells r c (gpart E c (r * c))) 47)).cell? ⟨w1.heap.size, 1, none⟩ = some (.int .i64 (c : Int)) := cell_of_row _ _ 1 _ _ _ (heap_alloc_new w1 _)
  clear hb1 b1 hbel
  have hh : Holds (w1.alloc (.cells (gcells r c (gpart E c (r * c))) 47)) w1.heap.size r c E := heap_alloc_new w1 _
  have HT : Hid (Tells 36 #[.pointer (some ⟨w1.heap.size, 0, none⟩)] c r (fun x y => E y x) (w1.alloc (.cells (gcells r c (gpart E c (r * c))) 47))) :=
    fun W x y hx hy hb => turn_clos r c E hr8 hc8 w1.heap.size x y hx hy W (hh.below hb)
  clear hh
  go_wp2_with (refine wpList_store_row rfl 47 (.tmp 4) (.tmp 6) rfl w1.heap.size (gcells r c (gpart E c (r * c))) rfl rfl 47 _ (heap_alloc_new w1 _) (ginfo' _ _ _) (by rw [gzero, gsize, gsize]) (gone _ _ _) ?_; rw [World.setRow_alloc_new])
  refine (from_any 36 #[.pointer (some ⟨w1.heap.size, 0, none⟩)] c r (by omega) (by omega) (by omega) (by omega) _ _ turn_enters HT).mono ?_
  rintro e w2 ⟨rfl, hb2⟩
  have hz2 := hb2.size
  simp only [World.size_alloc] at hz2
  have hres : w2.heap[w.heap.size + 1]? = some (.cells #[.int .i64 0, .int .i64 0, .string ⟨#[]⟩] 24 (0, 0)) := (hb2.block _ (by simp; omega)).trans ((Below.heap_alloc _ _ _ (by omega)).trans H1.out)
  have HB2 := Lib.hid (bstep (bstepA HB.out _) hb2)
  have d0 : w2.cell? ⟨w.heap.size + 1, 0, none⟩ = some (.int .i64 0) := cell_of_row _ _ 0 _ _ _ hres
  have d1 : w2.cell? ⟨w.heap.size + 1, 1, none⟩ = some (.int .i64 0) := cell_of_row _ _ 1 _ _ _ hres
  have d2 : w2.cell? ⟨w.heap.size + 1, 2, none⟩ = some (.string ⟨#[]⟩) := cell_of_row _ _ 2 _ _ _ hres
  have f0 : w2.frozen? ⟨w.heap.size + 1, 0, none⟩ = false := frozen_of_row _ _ 0 _ _ hres
  have f1 : w2.frozen? ⟨w.heap.size + 1, 1, none⟩ = false := frozen_of_row _ _ 1 _ _ hres
  have f2 : w2.frozen? ⟨w.heap.size + 1, 2, none⟩ = false := frozen_of_row _ _ 2 _ _ hres
  clear hb2 hres HT c0 c1
  go_wp2_with fail
  refine bodyPost_ret (v := .tuple #[mat c r (str (rowsB (fun x y => E y x) c r)), .bool true]) (by simp [results, Tryd.results11, go_sem, d0, d1, d2]) rfl ⟨rfl, ?_⟩
  exact ((HB2.out.setCell (by simp) _).setCell (by simp) _).setCell (by simp) _

set_option maxHeartbeats 1000000 in
set_option maxRecDepth 100000 in
theorem turn_impl_no (r c : Int) (s : ByteArray) (w : World)
    (hg : ∀ W : World, Calls Tryd.prog 27 #[mat r c s] W fun e w' => e = .returned (gval 0 0 (fun _ => 0)) ∧ Below W.heap.size W w') :
    Calls Tryd.prog 11 #[mat r c s] w fun e w' => e = .returned (.tuple #[mat 0 0 (str []), .bool false]) ∧ Below w.heap.size w w' := by
  have HG := Lib.hid hg
  clear hg
  go_enter Tryd.func11, Tryd.ntmps11
  go_wp2_with fail
  refine (HG.out _).mono ?_
  rintro e w1 ⟨rfl, hb1⟩
  obtain ⟨b1, hbel, hz⟩ := two_blocks hb1
  have H1 := Lib.hid b1
  have HB := Lib.hid hbel
  have c0 : (w1.alloc (.cells (gcells 0 0 (fun _ => 0)) 47)).cell? ⟨w1.heap.size, 0, none⟩ = some (.int .i64 0) := cell_of_row _ _ 0 _ _ _ (heap_alloc_new w1 _)
  have c1 : (w1.alloc (.cells (gcells 0 0 (fun _ => 0)) 47)).cell? ⟨w1.heap.size, 1, none⟩ = some (.int .i64 0) := cell_of_row _ _ 1 _ _ _ (heap_alloc_new w1 _)
  clear hb1 b1 hbel
  go_wp2_with (refine wpList_store_row rfl 47 (.tmp 4) (.tmp 6) rfl w1.heap.size (gcells 0 0 (fun _ => 0)) rfl rfl 47 _ (heap_alloc_new w1 _) (ginfo' _ _ _) (by rw [gzero]) (gone _ _ _) ?_; rw [World.setRow_alloc_new])
  refine (from_no _ _ _ (.inl (.inl (by omega))) _).mono ?_
  rintro e w2 ⟨rfl, hb2⟩
  have hz2 := hb2.size
  simp only [World.size_alloc] at hz2
  have hres : w2.heap[w.heap.size + 1]? = some (.cells #[.int .i64 0, .int .i64 0, .string ⟨#[]⟩] 24 (0, 0)) := (hb2.block _ (by simp; omega)).trans ((Below.heap_alloc _ _ _ (by omega)).trans H1.out)
  have HB2 := Lib.hid (bstep (bstepA HB.out _) hb2)
  have d0 : w2.cell? ⟨w.heap.size + 1, 0, none⟩ = some (.int .i64 0) := cell_of_row _ _ 0 _ _ _ hres
  have d1 : w2.cell? ⟨w.heap.size + 1, 1, none⟩ = some (.int .i64 0) := cell_of_row _ _ 1 _ _ _ hres
  have d2 : w2.cell? ⟨w.heap.size + 1, 2, none⟩ = some (.string ⟨#[]⟩) := cell_of_row _ _ 2 _ _ _ hres
  have f0 : w2.frozen? ⟨w.heap.size + 1, 0, none⟩ = false := frozen_of_row _ _ 0 _ _ hres
  have f1 : w2.frozen? ⟨w.heap.size + 1, 1, none⟩ = false := frozen_of_row _ _ 1 _ _ hres
  have f2 : w2.frozen? ⟨w.heap.size + 1, 2, none⟩ = false := frozen_of_row _ _ 2 _ _ hres
  clear hb2 hres c0 c1
  go_wp2_with fail
  refine bodyPost_ret (v := .tuple #[mat 0 0 (str []), .bool false]) (by simp [results, Tryd.results11, go_sem, d0, d1, d2]) rfl ⟨rfl, ?_⟩
  exact ((HB2.out.setCell (by simp) _).setCell (by simp) _).setCell (by simp) _
end Go.Proofs.YtbbgibbpeibhiaaDoor.Clos
