/-
  Texts of one seat, joined: Clos, SpecTO, OtherWalk, FreeC.
-/
import Derived.Test.YtffilggpimdikaaGreatDoorJ12
import Derived.Test.YtffilggpimdikaaGreatDoorJ8
import Derived.Deep.WholeRow
import Derived.Deep.RegionWith
import Derived.Test.YtffilggpimdikaaGreatDoorJ5
/-
  A matrix that is made of one grid's entries: TurnMatrix and OtherMatrix of the program.
-/
namespace Go.Proofs.YtffilggpimdikaaGreatDoor.Clos
open Go.RowKit Go.Proofs.YtffilggpimdikaaGreatDoor.Plain Go.Proofs.YtffilggpimdikaaGreatDoor.Base Go.Proofs.YtffilggpimdikaaGreatDoor.Valid Go.Proofs.YtffilggpimdikaaGreatDoor.Law Go.Proofs.YtffilggpimdikaaGreatDoor.GridPlain Go.Proofs.YtffilggpimdikaaGreatDoor.Grid Go.Proofs.YtffilggpimdikaaGreatDoor.Entry Go.Proofs.YtffilggpimdikaaGreatDoor.From
set_option linter.unusedVariables false

/-- block b holds the grid of so many entries -/
def Holds (w : World) (b : Nat) (r c : Nat) (E : Nat → Nat → Bool) : Prop := w.heap[b]? = some (.cells (gcells r c (gpart E c (r * c))) 52 (0, 0))
theorem Holds.lt {w : World} {b r c : Nat} {E : Nat → Nat → Bool} (h : Holds w b r c E) : b < w.heap.size := (Array.getElem?_eq_some_iff.1 h).1
theorem Holds.below {w w1 : World} {b r c : Nat} {E : Nat → Nat → Bool} (h : Holds w b r c E) (hb : Below w.heap.size w w1) : Holds w1 b r c E := (hb.block b h.lt).trans h

set_option maxHeartbeats 1000000 in
theorem other_clos (r c : Nat) (E : Nat → Nat → Bool) (hr8 : r ≤ 8) (hc8 : c ≤ 8) (b : Nat) (x y : Nat) (hx : x < r) (hy : y < c) (W : World) (hh : Holds W b r c E) :
    Calls Tryz.prog 58 #[.int .i64 (x : Int), .int .i64 (y : Int), .pointer (some ⟨b, 0, none⟩)] W fun e W' => e = .returned (.int .i64 (bitI (!(E x y)))) ∧ Below W.heap.size W W' := by
  have HH := Lib.hid (show W.heap[b]? = some (.cells (gcells r c (gpart E c (r * c))) 52 (0, 0)) from hh)
  have HF := Lib.hid (gpart_all E r c x y hx hy hc8)
  obtain ⟨v, hv⟩ : ∃ v, E x y = v := ⟨_, rfl⟩
  rw [hv] at HF ⊢
  clear hv
  have hx8 : x < 8 := by omega
  have hy8 : y < 8 := by omega
  clear hh
  go_enter Tryz.func58, Tryz.ntmps58
  go_wp2_with (have X := HH.out; refine wpList_load_row rfl 52 (.tmp 2) rfl b rfl 52 (gcells r c (gpart E c (r * c))) (0, 0) _ X Tryz.underlying52 rfl (ginfo' _ _ _) ?_; clear X)
  refine (entry_any r c _ x y hx8 hy8 _).mono ?_
  rintro e w1 ⟨rfl, hb1⟩
  have HB := Lib.hid hb1
  clear hb1
  rw [HF.out]
  cases v
  · rw [bitI_false]
    go_wp2_with fail
    go_ret
    exact ⟨rfl, HB.out⟩
  · rw [bitI_true]
    go_wp2_with fail
    go_ret
    exact ⟨rfl, HB.out⟩

set_option maxHeartbeats 1000000 in
theorem turn_clos (r c : Nat) (E : Nat → Nat → Bool) (hr8 : r ≤ 8) (hc8 : c ≤ 8) (b : Nat) (x y : Nat) (hx : x < c) (hy : y < r) (W : World) (hh : Holds W b r c E) :
    Calls Tryz.prog 56 #[.int .i64 (x : Int), .int .i64 (y : Int), .pointer (some ⟨b, 0, none⟩)] W fun e W' => e = .returned (.int .i64 (bitI (E y x))) ∧ Below W.heap.size W W' := by
  have HH := Lib.hid (show W.heap[b]? = some (.cells (gcells r c (gpart E c (r * c))) 52 (0, 0)) from hh)
  have HF := Lib.hid (gpart_all E r c y x hy hx hc8)
  have hx8 : x < 8 := by omega
  have hy8 : y < 8 := by omega
  clear hh
  go_enter Tryz.func56, Tryz.ntmps56
  go_wp2_with (have X := HH.out; refine wpList_load_row rfl 52 (.tmp 2) rfl b rfl 52 (gcells r c (gpart E c (r * c))) (0, 0) _ X Tryz.underlying52 rfl (ginfo' _ _ _) ?_; clear X)
  refine (entry_any r c _ y x hy8 hx8 _).mono ?_
  rintro e w1 ⟨rfl, hb1⟩
  have HB := Lib.hid hb1
  clear hb1
  rw [HF.out]
  go_wp2_with fail
  go_ret
  exact ⟨rfl, HB.out⟩
theorem other_enters (args : Array Value) (W : World) : (callFunc 58 args).run Tryz.prog W = .ok (.enter 58 args) W := by kernel_rfl
theorem turn_enters (args : Array Value) (W : World) : (callFunc 56 args).run Tryz.prog W = .ok (.enter 56 args) W := by kernel_rfl

theorem two_blocks {w w1 : World} {o1 o2 : Obj} (hb : Below ((w.alloc o1).alloc o2).heap.size ((w.alloc o1).alloc o2) w1) :
    w1.heap[w.heap.size + 1]? = some o2 ∧ Below w.heap.size w w1 ∧ w.heap.size + 2 ≤ w1.heap.size := by
  have hs : ((w.alloc o1).alloc o2).heap.size = w.heap.size + 2 := by simp
  have h2 : ((w.alloc o1).alloc o2).heap[w.heap.size + 1]? = some o2 := by
    have := heap_alloc_new (w.alloc o1) o2
    rwa [World.size_alloc] at this
  exact ⟨(hb.block _ (by omega)).trans h2, (((Below.refl w.heap.size w).alloc (Nat.le_refl _) _).alloc (by simp) _).trans (hb.mono (by omega)), by have := hb.size; omega⟩

set_option maxHeartbeats 1000000 in
set_option maxRecDepth 100000 in
theorem other_impl (E : Nat → Nat → Bool) (r c : Nat) (hr : 1 ≤ r) (hr8 : r ≤ 8) (hc : 1 ≤ c) (hc8 : c ≤ 8) (s : ByteArray) (w : World)
    (hg : ∀ W : World, Calls Tryz.prog 28 #[mat r c s] W fun e w' => e = .returned (gval r c (gpart E c (r * c))) ∧ Below W.heap.size W w') :
    Calls Tryz.prog 25 #[mat r c s] w fun e w' => e = .returned (.tuple #[mat r c (str (rowsB (fun x y => !(E x y)) r c)), .bool true]) ∧ Below w.heap.size w w' := by
  have HG := Lib.hid hg
  clear hg
  go_enter Tryz.func25, Tryz.ntmps25
  go_wp2_with fail
  refine (HG.out _).mono ?_
  rintro e w1 ⟨rfl, hb1⟩
  obtain ⟨b1, hbel, hz⟩ := two_blocks hb1
  have H1 := Lib.hid b1
  have HB := Lib.hid hbel
  have c0 : (w1.alloc (.cells (gcells r c (gpart E c (r * c))) 52)).cell? ⟨w1.heap.size, 0, none⟩ = some (.int .i64 (r : Int)) := cell_of_row _ _ 0 _ _ _ (heap_alloc_new w1 _)
  have c1 : (w1.alloc (.cells (gcells r c (gpart E c (r * c))) 52)).cell? ⟨w1.heap.size, 1, none⟩ = some (.int .i64 (c : Int)) := cell_of_row _ _ 1 _ _ _ (heap_alloc_new w1 _)
  clear hb1 b1 hbel
  have hh : Holds (w1.alloc (.cells (gcells r c (gpart E c (r * c))) 52)) w1.heap.size r c E := heap_alloc_new w1 _
  have HT : Hid (Tells 58 #[.pointer (some ⟨w1.heap.size, 0, none⟩)] r c (fun x y => !(E x y)) (w1.alloc (.cells (gcells r c (gpart E c (r * c))) 52))) :=
    fun W x y hx hy hb => other_clos r c E hr8 hc8 w1.heap.size x y hx hy W (hh.below hb)
  clear hh
  go_wp2_with (refine wpList_store_row rfl 52 (.tmp 4) (.tmp 6) rfl w1.heap.size (gcells r c (gpart E c (r * c))) rfl rfl 52 _ (heap_alloc_new w1 _) (ginfo' _ _ _) (by rw [gzero, gsize, gsize]) (gone _ _ _) ?_; rw [World.setRow_alloc_new])
  refine (from_any 58 #[.pointer (some ⟨w1.heap.size, 0, none⟩)] r c (by omega) (by omega) (by omega) (by omega) _ _ other_enters HT).mono ?_
  rintro e w2 ⟨rfl, hb2⟩
  have hz2 := hb2.size
  simp only [World.size_alloc] at hz2
  have hres : w2.heap[w.heap.size + 1]? = some (.cells #[.int .i64 0, .int .i64 0, .string ⟨#[]⟩] 24 (0, 0)) := (hb2.block _ (by simp; omega)).trans ((Below.heap_alloc _ _ _ (by omega)).trans H1.out)
  have HB2 := Lib.hid (bstep (bstepA HB.out _) hb2)
  have d0 : w2.cell? ⟨w.heap.size + 1, 0, none⟩ = some (.int .i64 0) := cell_of_row _ _ 0 _ _ _ hres
  have d1 : w2.cell? ⟨w.heap.size + 1, 1, none⟩ = some (.int .i64 0) := cell_of_row _ _ 1 _ _ _ hres
  have d2 : w2.cell? ⟨w.heap.size + 1, 2, none⟩ = some (.string ⟨#[]⟩) := cell_of_row _ _ 2 _ _ _ hres
  have f0 : w2.frozen? ⟨w.heap.size + 1, 0, none⟩ = false := frozen_of_row _ _ 0 _ _ hres
  have f1 : w2.frozen? ⟨w.heap.size + 1, 1, none⟩ = false := frozen_of_row _ _ 1 _ _ hres
  have f2 : w2.frozen? ⟨w.heap.size + 1, 2, none⟩ = false := frozen_of_row _ _ 2 _ _ hres
  clear hb2 hres HT c0 c1
  go_wp2_with fail
  refine bodyPost_ret (v := .tuple #[mat r c (str (rowsB (fun x y => !(E x y)) r c)), .bool true]) (by simp [results, Tryz.results25, go_sem, d0, d1, d2]) rfl ⟨rfl, ?_⟩
  exact ((HB2.out.setCell (by simp) _).setCell (by simp) _).setCell (by simp) _

set_option maxHeartbeats 1000000 in
set_option maxRecDepth 100000 in
theorem other_impl_no (r c : Int) (s : ByteArray) (w : World)
    (hg : ∀ W : World, Calls Tryz.prog 28 #[mat r c s] W fun e w' => e = .returned (gval 0 0 (fun _ => 0)) ∧ Below W.heap.size W w') :
    Calls Tryz.prog 25 #[mat r c s] w fun e w' => e = .returned (.tuple #[mat 0 0 (str []), .bool false]) ∧ Below w.heap.size w w' := by
  have HG := Lib.hid hg
  clear hg
  go_enter Tryz.func25, Tryz.ntmps25
  go_wp2_with fail
  refine (HG.out _).mono ?_
  rintro e w1 ⟨rfl, hb1⟩
  obtain ⟨b1, hbel, hz⟩ := two_blocks hb1
  have H1 := Lib.hid b1
  have HB := Lib.hid hbel
  have c0 : (w1.alloc (.cells (gcells 0 0 (fun _ => 0)) 52)).cell? ⟨w1.heap.size, 0, none⟩ = some (.int .i64 0) := cell_of_row _ _ 0 _ _ _ (heap_alloc_new w1 _)
  have c1 : (w1.alloc (.cells (gcells 0 0 (fun _ => 0)) 52)).cell? ⟨w1.heap.size, 1, none⟩ = some (.int .i64 0) := cell_of_row _ _ 1 _ _ _ (heap_alloc_new w1 _)
  clear hb1 b1 hbel
  go_wp2_with (refine wpList_store_row rfl 52 (.tmp 4) (.tmp 6) rfl w1.heap.size (gcells 0 0 (fun _ => 0)) rfl rfl 52 _ (heap_alloc_new w1 _) (ginfo' _ _ _) (by rw [gzero]) (gone _ _ _) ?_; rw [World.setRow_alloc_new])
  refine (from_no _ _ _ (.inl (.inl (by omega))) _).mono ?_
  rintro e w2 ⟨rfl, hb2⟩
  have hz2 := hb2.size
  simp only [World.size_alloc] at hz2
  have hres : w2.heap[w.heap.size + 1]? = some (.cells #[.int .i64 0, .int .i64 0, .string ⟨#[]⟩] 24 (0, 0)) := (hb2.block _ (by simp; omega)).trans ((Below.heap_alloc _ _ _ (by omega)).trans H1.out)
  have HB2 := Lib.hid (bstep (bstepA HB.out _) hb2)
  have d0 : w2.cell? ⟨w.heap.size + 1, 0, none⟩ = some (.int .i64 0) := cell_of_row _ _ 0 _ _ _ hres
  have d1 : w2.cell? ⟨w.heap.size + 1, 1, none⟩ = some (.int .i64 0) := cell_of_row _ _ 1 _ _ _ hres
  have d2 : w2.cell? ⟨w.heap.size + 1, 2, none⟩ = some (.string ⟨#[]⟩) := cell_of_row _ _ 2 _ _ _ hres
  have f0 : w2.frozen? ⟨w.heap.size + 1, 0, none⟩ = false := frozen_of_row _ _ 0 _ _ hres
  have f1 : w2.frozen? ⟨w.heap.size + 1, 1, none⟩ = false := frozen_of_row _ _ 1 _ _ hres
  have f2 : w2.frozen? ⟨w.heap.size + 1, 2, none⟩ = false := frozen_of_row _ _ 2 _ _ hres
  clear hb2 hres c0 c1
  go_wp2_with fail
  refine bodyPost_ret (v := .tuple #[mat 0 0 (str []), .bool false]) (by simp [results, Tryz.results25, go_sem, d0, d1, d2]) rfl ⟨rfl, ?_⟩
  exact ((HB2.out.setCell (by simp) _).setCell (by simp) _).setCell (by simp) _

set_option maxHeartbeats 1000000 in
set_option maxRecDepth 100000 in
theorem turn_impl (E : Nat → Nat → Bool) (r c : Nat) (hr : 1 ≤ r) (hr8 : r ≤ 8) (hc : 1 ≤ c) (hc8 : c ≤ 8) (s : ByteArray) (w : World)
    (hg : ∀ W : World, Calls Tryz.prog 28 #[mat r c s] W fun e w' => e = .returned (gval r c (gpart E c (r * c))) ∧ Below W.heap.size W w') :
    Calls Tryz.prog 24 #[mat r c s] w fun e w' => e = .returned (.tuple #[mat c r (str (rowsB (fun x y => E y x) c r)), .bool true]) ∧ Below w.heap.size w w' := by
  have HG := Lib.hid hg
  clear hg
  go_enter Tryz.func24, Tryz.ntmps24
  go_wp2_with fail
  refine (HG.out _).mono ?_
  rintro e w1 ⟨rfl, hb1⟩
  obtain ⟨b1, hbel, hz⟩ := two_blocks hb1
  have H1 := Lib.hid b1
  have HB := Lib.hid hbel
  have c0 : (w1.alloc (.cells (gcells r c (gpart E c (r * c))) 52)).cell? ⟨w1.heap.size, 0, none⟩ = some (.int .i64 (r : Int)) := cell_of_row _ _ 0 _ _ _ (heap_alloc_new w1 _)
  have c1 : (w1.alloc (.cells (gcells r c (gpart E c (r * c))) 52)).cell? ⟨w1.heap.size, 1, none⟩ = some (.int .i64 (c : Int)) := cell_of_row _ _ 1 _ _ _ (heap_alloc_new w1 _)
  clear hb1 b1 hbel
  have hh : Holds (w1.alloc (.cells (gcells r c (gpart E c (r * c))) 52)) w1.heap.size r c E := heap_alloc_new w1 _
  have HT : Hid (Tells 56 #[.pointer (some ⟨w1.heap.size, 0, none⟩)] c r (fun x y => E y x) (w1.alloc (.cells (gcells r c (gpart E c (r * c))) 52))) :=
    fun W x y hx hy hb => turn_clos r c E hr8 hc8 w1.heap.size x y hx hy W (hh.below hb)
  clear hh
  go_wp2_with (refine wpList_store_row rfl 52 (.tmp 4) (.tmp 6) rfl w1.heap.size (gcells r c (gpart E c (r * c))) rfl rfl 52 _ (heap_alloc_new w1 _) (ginfo' _ _ _) (by rw [gzero, gsize, gsize]) (gone _ _ _) ?_; rw [World.setRow_alloc_new])
  refine (from_any 56 #[.pointer (some ⟨w1.heap.size, 0, none⟩)] c r (by omega) (by omega) (by omega) (by omega) _ _ turn_enters HT).mono ?_
  rintro e w2 ⟨rfl, hb2⟩
  have hz2 := hb2.size
  simp only [World.size_alloc] at hz2
  have hres : w2.heap[w.heap.size + 1]? = some (.cells #[.int .i64 0, .int .i64 0, .string ⟨#[]⟩] 24 (0, 0)) := (hb2.block _ (by simp; omega)).trans ((Below.heap_alloc _ _ _ (by omega)).trans H1.out)
  have HB2 := Lib.hid (bstep (bstepA HB.out _) hb2)
  have d0 : w2.cell? ⟨w.heap.size + 1, 0, none⟩ = some (.int .i64 0) := cell_of_row _ _ 0 _ _ _ hres
  have d1 : w2.cell? ⟨w.heap.size + 1, 1, none⟩ = some (.int .i64 0) := cell_of_row _ _ 1 _ _ _ hres
  have d2 : w2.cell? ⟨w.heap.size + 1, 2, none⟩ = some (.string ⟨#[]⟩) := cell_of_row _ _ 2 _ _ _ hres
  have f0 : w2.frozen? ⟨w.heap.size + 1, 0, none⟩ = false := frozen_of_row _ _ 0 _ _ hres
  have f1 : w2.frozen? ⟨w.heap.size + 1, 1, none⟩ = false := frozen_of_row _ _ 1 _ _ hres
  have f2 : w2.frozen? ⟨w.heap.size + 1, 2, none⟩ = false := frozen_of_row _ _ 2 _ _ hres
  clear hb2 hres HT c0 c1
  go_wp2_with fail
  refine bodyPost_ret (v := .tuple #[mat c r (str (rowsB (fun x y => E y x) c r)), .bool true]) (by simp [results, Tryz.results24, go_sem, d0, d1, d2]) rfl ⟨rfl, ?_⟩
  exact ((HB2.out.setCell (by simp) _).setCell (by simp) _).setCell (by simp) _

set_option maxHeartbeats 1000000 in
set_option maxRecDepth 100000 in
theorem turn_impl_no (r c : Int) (s : ByteArray) (w : World)
    (hg : ∀ W : World, Calls Tryz.prog 28 #[mat r c s] W fun e w' => e = .returned (gval 0 0 (fun _ => 0)) ∧ Below W.heap.size W w') :
    Calls Tryz.prog 24 #[mat r c s] w fun e w' => e = .returned (.tuple #[mat 0 0 (str []), .bool false]) ∧ Below w.heap.size w w' := by
  have HG := Lib.hid hg
  clear hg
  go_enter Tryz.func24, Tryz.ntmps24
  go_wp2_with fail
  refine (HG.out _).mono ?_
  rintro e w1 ⟨rfl, hb1⟩
  obtain ⟨b1, hbel, hz⟩ := two_blocks hb1
  have H1 := Lib.hid b1
  have HB := Lib.hid hbel
  have c0 : (w1.alloc (.cells (gcells 0 0 (fun _ => 0)) 52)).cell? ⟨w1.heap.size, 0, none⟩ = some (.int .i64 0) := cell_of_row _ _ 0 _ _ _ (heap_alloc_new w1 _)
  have c1 : (w1.alloc (.cells (gcells 0 0 (fun _ => 0)) 52)).cell? ⟨w1.heap.size, 1, none⟩ = some (.int .i64 0) := cell_of_row _ _ 1 _ _ _ (heap_alloc_new w1 _)
  clear hb1 b1 hbel
  go_wp2_with (refine wpList_store_row rfl 52 (.tmp 4) (.tmp 6) rfl w1.heap.size (gcells 0 0 (fun _ => 0)) rfl rfl 52 _ (heap_alloc_new w1 _) (ginfo' _ _ _) (by rw [gzero]) (gone _ _ _) ?_; rw [World.setRow_alloc_new])
  refine (from_no _ _ _ (.inl (.inl (by omega))) _).mono ?_
  rintro e w2 ⟨rfl, hb2⟩
  have hz2 := hb2.size
  simp only [World.size_alloc] at hz2
  have hres : w2.heap[w.heap.size + 1]? = some (.cells #[.int .i64 0, .int .i64 0, .string ⟨#[]⟩] 24 (0, 0)) := (hb2.block _ (by simp; omega)).trans ((Below.heap_alloc _ _ _ (by omega)).trans H1.out)
  have HB2 := Lib.hid (bstep (bstepA HB.out _) hb2)
  have d0 : w2.cell? ⟨w.heap.size + 1, 0, none⟩ = some (.int .i64 0) := cell_of_row _ _ 0 _ _ _ hres
  have d1 : w2.cell? ⟨w.heap.size + 1, 1, none⟩ = some (.int .i64 0) := cell_of_row _ _ 1 _ _ _ hres
  have d2 : w2.cell? ⟨w.heap.size + 1, 2, none⟩ = some (.string ⟨#[]⟩) := cell_of_row _ _ 2 _ _ _ hres
  have f0 : w2.frozen? ⟨w.heap.size + 1, 0, none⟩ = false := frozen_of_row _ _ 0 _ _ hres
  have f1 : w2.frozen? ⟨w.heap.size + 1, 1, none⟩ = false := frozen_of_row _ _ 1 _ _ hres
  have f2 : w2.frozen? ⟨w.heap.size + 1, 2, none⟩ = false := frozen_of_row _ _ 2 _ _ hres
  clear hb2 hres c0 c1
  go_wp2_with fail
  refine bodyPost_ret (v := .tuple #[mat 0 0 (str []), .bool false]) (by simp [results, Tryz.results24, go_sem, d0, d1, d2]) rfl ⟨rfl, ?_⟩
  exact ((HB2.out.setCell (by simp) _).setCell (by simp) _).setCell (by simp) _
end Go.Proofs.YtffilggpimdikaaGreatDoor.Clos

/-
  The reference's l1Other, l1Turn, OtherMatrix, TurnMatrix.
-/
namespace Go.Proofs.YtffilggpimdikaaGreatDoor.SpecTO
open Go.RowKit Go.Proofs.YtffilggpimdikaaGreatDoor.Plain Go.Proofs.YtffilggpimdikaaGreatDoor.Base Go.Proofs.YtffilggpimdikaaGreatDoor.Valid Go.Proofs.YtffilggpimdikaaGreatDoor.Law Go.Proofs.YtffilggpimdikaaGreatDoor.GridPlain Go.Proofs.YtffilggpimdikaaGreatDoor.Grid Go.Proofs.YtffilggpimdikaaGreatDoor.Entry Go.Proofs.YtffilggpimdikaaGreatDoor.From Go.Proofs.YtffilggpimdikaaGreatDoor.Clos
set_option linter.unusedVariables false

/-- the world in l1Other: m's box, the result's block, out's block -/
abbrev ow (w : World) (r c : Nat) (s t : ByteArray) : World :=
  ((w.alloc (.cells #[.int .i64 (r : Int), .int .i64 (c : Int), .string s] 24)).alloc (.cells #[.int .i64 0, .int .i64 0, .string ⟨#[]⟩] 24)).alloc (.cells #[.int .i64 (r : Int), .int .i64 (c : Int), .string t] 24)
theorem ow_set (w : World) (r c q : Nat) (s t u : ByteArray) : ((ow w r c s t).drewN q).setCell ⟨w.heap.size + 1 + 1, 2, none⟩ (.string u) = (ow w r c s u).drewN q := by
  have h : ((w.alloc (.cells #[.int .i64 (r : Int), .int .i64 (c : Int), .string s] 24)).alloc (.cells #[.int .i64 0, .int .i64 0, .string ⟨#[]⟩] 24)).heap.size = w.heap.size + 1 + 1 := by simp
  show ((ow w r c s t).setCell ⟨w.heap.size + 1 + 1, 2, none⟩ (.string u)).drewN q = _
  unfold ow
  rw [World.setCell_alloc_at _ _ _ _ _ h.symm]
  rfl
theorem ow_below (w : World) (r c q : Nat) (s t : ByteArray) (a b d : Value) : Below w.heap.size w (((((ow w r c s t).drewN q).setCell ⟨w.heap.size + 1, 0, none⟩ a).setCell ⟨w.heap.size + 1, 1, none⟩ b).setCell ⟨w.heap.size + 1, 2, none⟩ d) := by
  have h : Below w.heap.size w (ow w r c s t) := (((Below.refl _ _).alloc (Nat.le_refl _) _).alloc (by simp) _).alloc (by simp; omega) _
  have h2 : Below w.heap.size w ((ow w r c s t).drewN q) := ⟨h.os, h.tape, h.output, h.size, h.block⟩
  exact ((h2.setCell (by simp) _).setCell (by simp) _).setCell (by simp) _
theorem take_next (l : List UInt8) (k : Nat) (u : UInt8) (h : l[k]? = some u) : str (l.take k) ++ ⟨#[u]⟩ = str (l.take (k + 1)) := by
  obtain ⟨h1, h2⟩ := List.getElem?_eq_some_iff.1 h
  rw [str_one, str_append, List.take_succ_eq_append_getElem h1, h2]

theorem two_blocks' {w w1 : World} {o1 o2 : Obj} (hb : Below ((w.alloc o1).alloc o2).heap.size ((w.alloc o1).alloc o2) w1) :
    w1.heap[w.heap.size]? = some o1 ∧ w1.heap[w.heap.size + 1]? = some o2 ∧ Below w.heap.size w w1 ∧ w.heap.size + 2 ≤ w1.heap.size := by
  obtain ⟨h1, h2, h3⟩ := two_blocks hb
  refine ⟨(hb.block _ (by simp; omega)).trans ?_, h1, h2, h3⟩
  rw [Below.heap_alloc _ _ _ (by simp)]
  exact heap_alloc_new w o1
theorem cells3 {w : World} {g : Nat} {T : TypeId} {a b c : Value} (h : w.heap[g]? = some (.cells #[a, b, c] T (0, 0))) :
    w.cell? ⟨g, 0, none⟩ = some a ∧ w.cell? ⟨g, 1, none⟩ = some b ∧ w.cell? ⟨g, 2, none⟩ = some c :=
  ⟨cell_of_row _ _ 0 _ _ _ h, cell_of_row _ _ 1 _ _ _ h, cell_of_row _ _ 2 _ _ _ h⟩
theorem free3 {w : World} {g : Nat} {T : TypeId} {a b c : Value} (h : w.heap[g]? = some (.cells #[a, b, c] T (0, 0))) :
    w.frozen? ⟨g, 0, none⟩ = false ∧ w.frozen? ⟨g, 1, none⟩ = false ∧ w.frozen? ⟨g, 2, none⟩ = false :=
  ⟨frozen_of_row _ _ 0 _ _ h, frozen_of_row _ _ 1 _ _ h, frozen_of_row _ _ 2 _ _ h⟩
/-- what holds while l1Turn runs: out has these bytes -/
def TInv (w wr : World) (r c : Nat) (s t : ByteArray) : Prop :=
  wr.heap[w.heap.size]? = some (.cells #[.int .i64 (r : Int), .int .i64 (c : Int), .string s] 24 (0, 0)) ∧ wr.heap[w.heap.size + 1]? = some (.cells #[.int .i64 0, .int .i64 0, .string ⟨#[]⟩] 24 (0, 0)) ∧
    wr.heap[w.heap.size + 2]? = some (.cells #[.int .i64 (c : Int), .int .i64 (r : Int), .string t] 24 (0, 0)) ∧ Below w.heap.size w wr ∧ w.heap.size + 3 ≤ wr.heap.size
theorem TInv.cells {w wr : World} {r c : Nat} {s t : ByteArray} (h : TInv w wr r c s t) :
    wr.cell? ⟨w.heap.size, 0, none⟩ = some (.int .i64 (r : Int)) ∧ wr.cell? ⟨w.heap.size, 1, none⟩ = some (.int .i64 (c : Int)) ∧ wr.cell? ⟨w.heap.size, 2, none⟩ = some (.string s) ∧
    wr.cell? ⟨w.heap.size + 1 + 1, 0, none⟩ = some (.int .i64 (c : Int)) ∧ wr.cell? ⟨w.heap.size + 1 + 1, 1, none⟩ = some (.int .i64 (r : Int)) ∧ wr.cell? ⟨w.heap.size + 1 + 1, 2, none⟩ = some (.string t) ∧
    wr.frozen? ⟨w.heap.size + 1 + 1, 2, none⟩ = false :=
  ⟨cell_of_row _ _ 0 _ _ _ h.1, cell_of_row _ _ 1 _ _ _ h.1, cell_of_row _ _ 2 _ _ _ h.1, cell_of_row _ _ 0 _ _ _ h.2.2.1, cell_of_row _ _ 1 _ _ _ h.2.2.1, cell_of_row _ _ 2 _ _ _ h.2.2.1, frozen_of_row _ _ 2 _ _ h.2.2.1⟩
theorem TInv.res {w wr : World} {r c : Nat} {s t : ByteArray} (h : TInv w wr r c s t) :
    wr.cell? ⟨w.heap.size + 1, 0, none⟩ = some (.int .i64 0) ∧ wr.cell? ⟨w.heap.size + 1, 1, none⟩ = some (.int .i64 0) ∧ wr.cell? ⟨w.heap.size + 1, 2, none⟩ = some (.string ⟨#[]⟩) ∧
    wr.frozen? ⟨w.heap.size + 1, 0, none⟩ = false ∧ wr.frozen? ⟨w.heap.size + 1, 1, none⟩ = false ∧ wr.frozen? ⟨w.heap.size + 1, 2, none⟩ = false :=
  ⟨cell_of_row _ _ 0 _ _ _ h.2.1, cell_of_row _ _ 1 _ _ _ h.2.1, cell_of_row _ _ 2 _ _ _ h.2.1, frozen_of_row _ _ 0 _ _ h.2.1, frozen_of_row _ _ 1 _ _ h.2.1, frozen_of_row _ _ 2 _ _ h.2.1⟩
theorem TInv.later {w wr w2 : World} {r c : Nat} {s t : ByteArray} (h : TInv w wr r c s t) (hb : Below wr.heap.size wr w2) : TInv w w2 r c s t := by
  obtain ⟨h0, h1, h2, h3, h4⟩ := h
  exact ⟨(hb.block _ (by omega)).trans h0, (hb.block _ (by omega)).trans h1, (hb.block _ (by omega)).trans h2, bstep h3 hb, Nat.le_trans h4 hb.size⟩
theorem TInv.drew {w wr : World} {r c : Nat} {s t : ByteArray} (h : TInv w wr r c s t) (n : Nat) : TInv w (wr.drewN n) r c s t :=
  ⟨h.1, h.2.1, h.2.2.1, ⟨h.2.2.2.1.os, h.2.2.2.1.tape, h.2.2.2.1.output, h.2.2.2.1.size, h.2.2.2.1.block⟩, h.2.2.2.2⟩
theorem TInv.set_ {w wr : World} {r c : Nat} {s t : ByteArray} (h : TInv w wr r c s t) (u : ByteArray) : TInv w (wr.setCell ⟨w.heap.size + 1 + 1, 2, none⟩ (.string u)) r c s u := by
  obtain ⟨h0, h1, h2, h3, h4⟩ := h
  exact ⟨(heap_setCell_other _ _ _ _ (by simp; omega)).trans h0, (heap_setCell_other _ _ _ _ (by simp)).trans h1, (heap_setCell_same _ _ _ _ _ _ h2).trans rfl, h3.setCell (by simp; omega) _, by simpa using h4⟩

end Go.Proofs.YtffilggpimdikaaGreatDoor.SpecTO

/-
  The walk of the law on OtherMatrix.
-/
namespace Go.Proofs.YtffilggpimdikaaGreatDoor.fnExactOtherMatrix
open Go.RowKit Go.Proofs.YtffilggpimdikaaGreatDoor.Plain Go.Proofs.YtffilggpimdikaaGreatDoor.Base Go.Proofs.YtffilggpimdikaaGreatDoor.Valid Go.Proofs.YtffilggpimdikaaGreatDoor.Law Go.Proofs.YtffilggpimdikaaGreatDoor.GridPlain Go.Proofs.YtffilggpimdikaaGreatDoor.Grid Go.Proofs.YtffilggpimdikaaGreatDoor.Entry Go.Proofs.YtffilggpimdikaaGreatDoor.Clos Go.Proofs.YtffilggpimdikaaGreatDoor.SpecTO
set_option linter.unusedVariables false

theorem three_at {w1 w2 : World} {a b c : Value} {T : TypeId} (hb : Below (w1.alloc (.cells #[a, b, c] T)).heap.size (w1.alloc (.cells #[a, b, c] T)) w2) :
    w1.heap.size < w2.heap.size ∧ w2.cell? ⟨w1.heap.size, 0, none⟩ = some a ∧ w2.cell? ⟨w1.heap.size, 1, none⟩ = some b ∧ w2.cell? ⟨w1.heap.size, 2, none⟩ = some c := by
  obtain ⟨h0, h1, h2⟩ := three_of hb
  exact ⟨by have := hb.size; simp at this; omega, h0, h1, h2⟩

end Go.Proofs.YtffilggpimdikaaGreatDoor.fnExactOtherMatrix

/-
  A region that draws its order, with three operations that turn the world and come one after another (each takes what the one before gives), and others that only read: each walked once.
-/
namespace Go.Proofs.YtffilggpimdikaaGreatDoor.FreeC
open Go Go.RowKit Go.Proofs.YtffilggpimdikaaGreatDoor.Free Go.Proofs.YtffilggpimdikaaGreatDoor.FreeT Go.Proofs.YtffilggpimdikaaGreatDoor.FreeW
set_option linter.unusedVariables false

section
variable {P : Program} {ops : Array Oper}

set_option maxHeartbeats 1000000 in
theorem wp_region_chain3 {id n : Nat} {a0 : Act} {w0 : World} {Q : Exit → Act → World → Prop} (con : Nat → Value) (kn : Nat → Bool) (s1 s2 s3 d1 d2 d3 : Nat) (o1 o2 o3 : Oper)
    (I0 : World → Prop) (I1 : Value → World → Prop) (I2 : Value → Value → World → Prop) (I3 : Value → Value → Value → World → Prop) (J : World → Prop)
    (hm : P.follows .mixedOrders = true) (hB : freeB ops n = true) (hn : a0.tmps.size = n)
    (hs1 : ops[s1]? = some o1) (hd1 : o1.dst = some d1) (hs2 : ops[s2]? = some o2) (hd2 : o2.dst = some d2) (hs3 : ops[s3]? = some o3) (hd3 : o3.dst = some d3)
    (hk : kn = fun i => !(i == s1) && !(i == s2) && !(i == s3)) (hne : [s1, s2, s3].Nodup) (hdd : [d1, d2, d3].Nodup)
    (hdep12 : ∃ e ∈ o2.after, Region.binds .any e = true ∧ e.on = s1) (hdep23 : ∃ e ∈ o3.after, Region.binds .any e = true ∧ e.on = s2)
    (hoth : ∀ (i : Nat) (o : Oper), ops[i]? = some o → kn i = true → o.dst ≠ some d1 ∧ o.dst ≠ some d2 ∧ o.dst ≠ some d3)
    (h0 : I0 { w0 with drawn := w0.drawn + 1 })
    (J0 : ∀ w, I0 w → J w) (J1 : ∀ v w, I1 v w → J w) (J2 : ∀ v u w, I2 v u w → J w) (J3 : ∀ v u t w, I3 v u t w → J w)
    (hcon : ∀ (i : Nat) (o : Oper), ops[i]? = some o → kn i = true → ∀ (a : Act) (w : World), J w → FactsA ops a0 con kn o a → ((∃ e ∈ o3.after, Region.binds .any e = true ∧ e.on = i) → a.tmps[d3]?.getD undef = a0.tmps[d3]?.getD undef) →
      o.wp P a w (fun a' w' => a' = a.put o.dst (con i) ∧ w' = w) Q)
    (h1 : ∀ (a : Act) (w : World), I0 w → FactsA ops a0 con kn o1 a → o1.wp P a w (fun a' w' => ∃ v, a' = a.put o1.dst v ∧ I1 v w') Q)
    (h2 : ∀ (a : Act) (w : World) (v : Value), I1 v w → a.tmps[d1]? = some v → FactsA ops a0 con kn o2 a → o2.wp P a w (fun a' w' => ∃ u, a' = a.put o2.dst u ∧ I2 v u w') Q)
    (h3 : ∀ (a : Act) (w : World) (v u : Value), I2 v u w → a.tmps[d1]? = some v → a.tmps[d2]? = some u → FactsA ops a0 con kn o3 a → o3.wp P a w (fun a' w' => ∃ t, a' = a.put o3.dst t ∧ I3 v u t w') Q)
    (hend : ∀ (v u t : Value) (w : World), I3 v u t w → Q .normal (fill ops.toList (fun i => if i = s1 then v else if i = s2 then u else if i = s3 then t else con i) 0 a0) w) : (Code.region id ops true).wp P Q a0 w0 := by
  have hB2 := hB
  simp only [freeB, Bool.and_eq_true, decide_eq_true_eq] at hB2
  obtain ⟨⟨q1, q2⟩, _⟩ := hB2
  have hdn : ∀ (o : Oper) (k : Tmp), o ∈ ops.toList → o.dst = some k → k < n := fun o k ho hk => by
    have := List.all_eq_true.1 q1 o ho
    simp only [Bool.and_eq_true, hk] at this
    simpa using this.2
  have hd1n : d1 < n := hdn o1 d1 (by simpa using Array.mem_of_getElem? hs1) hd1
  have hd2n : d2 < n := hdn o2 d2 (by simpa using Array.mem_of_getElem? hs2) hd2
  have hd3n : d3 < n := hdn o3 d3 (by simpa using Array.mem_of_getElem? hs3) hd3
  obtain ⟨n12, n13, n23⟩ : s1 ≠ s2 ∧ s1 ≠ s3 ∧ s2 ≠ s3 := by
    simp only [List.nodup_cons, List.mem_cons, List.not_mem_nil, or_false, not_or] at hne
    exact ⟨hne.1.1, hne.1.2, hne.2.1⟩
  obtain ⟨m12, m13, m23⟩ : d1 ≠ d2 ∧ d1 ≠ d3 ∧ d2 ≠ d3 := by
    simp only [List.nodup_cons, List.mem_cons, List.not_mem_nil, or_false, not_or] at hdd
    exact ⟨hdd.1.1, hdd.1.2, hdd.2.1⟩
  have hkt : ∀ i, kn i = true ↔ i ≠ s1 ∧ i ≠ s2 ∧ i ≠ s3 := fun i => by
    rw [hk]; simp [and_assoc]
  let Y : Nat → Value → Act → World → Prop := fun i v a w => kn i = true → v = con i
  let S : (Nat → Bool) → Act → World → Prop := fun g a w =>
    (g s3 = false → a.tmps[d3]? = a0.tmps[d3]?) ∧ (
    (g s1 = false ∧ g s2 = false ∧ g s3 = false ∧ I0 w) ∨
    (g s1 = true ∧ g s2 = false ∧ g s3 = false ∧ ∃ v, a.tmps[d1]? = some v ∧ I1 v w) ∨
    (g s1 = true ∧ g s2 = true ∧ g s3 = false ∧ ∃ v u, a.tmps[d1]? = some v ∧ a.tmps[d2]? = some u ∧ I2 v u w) ∨
    (g s1 = true ∧ g s2 = true ∧ g s3 = true ∧ ∃ v u t, a.tmps[d1]? = some v ∧ a.tmps[d2]? = some u ∧ a.tmps[d3]? = some t ∧ I3 v u t w))
  have facts : ∀ (listed : Array Bool) (o : Oper) (a : Act) (w : World), MidA ops a0 Y S listed a w → (∀ e ∈ o.after, Region.binds .any e = true → listed.getD e.on false = true) → FactsA ops a0 con kn o a := by
    intro listed o a w hM hdl
    refine ⟨fun e he hb oj dj hoj hdj hkn => ?_, fun k hk => ?_⟩
    · obtain ⟨v, hv, hvd⟩ := hM.new e.on oj hoj (hdl e he hb)
      rw [hvd dj hdj, ← hv hkn]
      rfl
    · rw [hM.old k fun i o' ho' hd' => ?_]
      have := List.all_eq_true.1 hk o' (by simpa using Array.mem_of_getElem? ho')
      simp [hd'] at this
  refine wp_region_freeA (Y := Y) (S := S) hm hB hn ⟨fun _ => rfl, .inl ⟨rfl, rfl, rfl, h0⟩⟩ ?_ ?_
  · intro i o ho listed a w hM hu hdl
    have hF := facts listed o a w hM hdl
    obtain ⟨hOld, hW⟩ := hM.world
    have hsz : a.tmps.size = n := hM.size.trans hn
    have hput : ∀ (d : Nat) (v : Value), d < n → (a.put (some d) v).tmps[d]? = some v := fun d v hd => by simp [Act.put, hsz, hd]
    by_cases e1 : i = s1
    · subst e1
      obtain rfl : o = o1 := Option.some.inj (ho.symm.trans hs1)
      rcases hW with ⟨l1, l2, l3, hI⟩ | ⟨l1, _⟩ | ⟨l1, _⟩ | ⟨l1, _⟩
      · refine Oper.wp_mono ?_ (h1 a w hI hF)
        rintro a' w' ⟨v, rfl, hv⟩
        refine ⟨v, rfl, fun h => absurd rfl ((hkt _).1 h).1, ⟨fun _ => ?_, .inr (.inl ⟨by simp, ?_, ?_, v, by rw [hd1]; exact hput d1 v hd1n, hv⟩)⟩, fun j u _ _ hY => hY⟩
        · rw [put_other (by rw [hd1]; simp; omega)]; exact hOld l3
        · show (if s2 = i then true else listed.getD s2 false) = false
          rw [if_neg (Ne.symm n12)]; exact l2
        · show (if s3 = i then true else listed.getD s3 false) = false
          rw [if_neg (Ne.symm n13)]; exact l3
      all_goals
        have l1' : listed.getD i false = true := l1
        rw [hu] at l1'
        cases l1'
    by_cases e2 : i = s2
    · subst e2
      obtain rfl : o = o2 := Option.some.inj (ho.symm.trans hs2)
      obtain ⟨e, he, hb, heq⟩ := hdep12
      have hl1 := hdl e he hb
      rw [heq] at hl1
      rcases hW with ⟨l1, l2, l3, hI⟩ | ⟨l1, l2, l3, v, hv, hI⟩ | ⟨l1, l2, _⟩ | ⟨l1, l2, _⟩
      · have l1' : listed.getD s1 false = false := l1
        rw [hl1] at l1'
        cases l1'
      · refine Oper.wp_mono ?_ (h2 a w v hI hv hF)
        rintro a' w' ⟨u, rfl, hu'⟩
        refine ⟨u, rfl, fun h => absurd rfl ((hkt _).1 h).2.1, ⟨fun _ => ?_, .inr (.inr (.inl ⟨?_, by simp, ?_, v, u, ?_, by rw [hd2]; exact hput d2 u hd2n, hu'⟩))⟩, fun j u _ _ hY => hY⟩
        · rw [put_other (by rw [hd2]; simp; omega)]; exact hOld l3
        · show (if s1 = i then true else listed.getD s1 false) = true
          rw [if_neg n12]; exact hl1
        · show (if s3 = i then true else listed.getD s3 false) = false
          rw [if_neg (Ne.symm n23)]; exact l3
        · rw [put_other (by rw [hd2]; simp; omega)]; exact hv
      all_goals
        have l2' : listed.getD i false = true := l2
        rw [hu] at l2'
        cases l2'
    by_cases e3 : i = s3
    · subst e3
      obtain rfl : o = o3 := Option.some.inj (ho.symm.trans hs3)
      obtain ⟨e, he, hb, heq⟩ := hdep23
      have hl2 := hdl e he hb
      rw [heq] at hl2
      rcases hW with ⟨l1, l2, l3, hI⟩ | ⟨l1, l2, l3, v, hv, hI⟩ | ⟨l1, l2, l3, v, u, hv, hu2, hI⟩ | ⟨l1, l2, l3, _⟩
      · have l2' : listed.getD s2 false = false := l2
        rw [hl2] at l2'
        cases l2'
      · have l2' : listed.getD s2 false = false := l2
        rw [hl2] at l2'
        cases l2'
      · refine Oper.wp_mono ?_ (h3 a w v u hI hv hu2 hF)
        rintro a' w' ⟨t, rfl, ht⟩
        refine ⟨t, rfl, fun h => absurd rfl ((hkt _).1 h).2.2, ⟨fun h => ?_, .inr (.inr (.inr ⟨?_, ?_, by simp, v, u, t, ?_, ?_, by rw [hd3]; exact hput d3 t hd3n, ht⟩))⟩, fun j u _ _ hY => hY⟩
        · simp at h
        · show (if s1 = i then true else listed.getD s1 false) = true
          rw [if_neg n13]; exact l1
        · show (if s2 = i then true else listed.getD s2 false) = true
          rw [if_neg n23]; exact hl2
        · rw [put_other (by rw [hd3]; simp; omega)]; exact hv
        · rw [put_other (by rw [hd3]; simp; omega)]; exact hu2
      · have l3' : listed.getD i false = true := l3
        rw [hu] at l3'
        cases l3'
    have hki : kn i = true := (hkt i).2 ⟨e1, e2, e3⟩
    obtain ⟨x1, x2, x3⟩ := hoth i o ho hki
    have hJ : J w := by
      rcases hW with ⟨_, _, _, hI⟩ | ⟨_, _, _, v, _, hI⟩ | ⟨_, _, _, v, u, _, _, hI⟩ | ⟨_, _, _, v, u, t, _, _, _, hI⟩
      · exact J0 w hI
      · exact J1 v w hI
      · exact J2 v u w hI
      · exact J3 v u t w hI
    have hKeep : (∃ e ∈ o3.after, Region.binds .any e = true ∧ e.on = i) → a.tmps[d3]?.getD undef = a0.tmps[d3]?.getD undef := by
      rintro ⟨e, he, hb, heq⟩
      have hl3 : listed.getD s3 false = false := by
        cases hl : listed.getD s3 false with
        | false => rfl
        | true =>
          exfalso
          have := hM.closed s3 o3 hs3 hl e he hb
          rw [heq, hu] at this
          cases this
      rw [hOld hl3]
    refine Oper.wp_mono ?_ (hcon i o ho hki a w hJ hF hKeep)
    rintro a' w' ⟨rfl, rfl⟩
    refine ⟨con i, rfl, fun _ => rfl, ?_, fun j u _ _ hY => hY⟩
    have g1 : (if s1 = i then true else listed.getD s1 false) = listed.getD s1 false := if_neg (Ne.symm e1)
    have g2 : (if s2 = i then true else listed.getD s2 false) = listed.getD s2 false := if_neg (Ne.symm e2)
    have g3 : (if s3 = i then true else listed.getD s3 false) = listed.getD s3 false := if_neg (Ne.symm e3)
    show ((if s3 = i then true else listed.getD s3 false) = false → (a.put o.dst (con i)).tmps[d3]? = a0.tmps[d3]?) ∧ (((if s1 = i then true else listed.getD s1 false) = false ∧ (if s2 = i then true else listed.getD s2 false) = false ∧ (if s3 = i then true else listed.getD s3 false) = false ∧ I0 w') ∨
      ((if s1 = i then true else listed.getD s1 false) = true ∧ (if s2 = i then true else listed.getD s2 false) = false ∧ (if s3 = i then true else listed.getD s3 false) = false ∧ ∃ v, (a.put o.dst (con i)).tmps[d1]? = some v ∧ I1 v w') ∨
      ((if s1 = i then true else listed.getD s1 false) = true ∧ (if s2 = i then true else listed.getD s2 false) = true ∧ (if s3 = i then true else listed.getD s3 false) = false ∧ ∃ v u, (a.put o.dst (con i)).tmps[d1]? = some v ∧ (a.put o.dst (con i)).tmps[d2]? = some u ∧ I2 v u w') ∨
      ((if s1 = i then true else listed.getD s1 false) = true ∧ (if s2 = i then true else listed.getD s2 false) = true ∧ (if s3 = i then true else listed.getD s3 false) = true ∧ ∃ v u t, (a.put o.dst (con i)).tmps[d1]? = some v ∧ (a.put o.dst (con i)).tmps[d2]? = some u ∧ (a.put o.dst (con i)).tmps[d3]? = some t ∧ I3 v u t w'))
    rw [g1, g2, g3, put_other x1, put_other x2, put_other x3]
    exact ⟨hOld, hW⟩
  · intro vs w hS hall
    have hlt : ∀ (s : Nat) (o : Oper), ops[s]? = some o → decide (s < ops.size) = true := fun s o h => decide_eq_true (Array.getElem?_eq_some_iff.1 h).1
    have f1 : (fill ops.toList vs 0 a0).tmps[d1]? = some (vs s1) := by rw [fill_at d1 ops.toList vs 0 a0 s1 o1 (by simpa using hs1) hd1 q2 (by rw [hn]; exact hd1n), Nat.zero_add]
    have f2 : (fill ops.toList vs 0 a0).tmps[d2]? = some (vs s2) := by rw [fill_at d2 ops.toList vs 0 a0 s2 o2 (by simpa using hs2) hd2 q2 (by rw [hn]; exact hd2n), Nat.zero_add]
    have f3 : (fill ops.toList vs 0 a0).tmps[d3]? = some (vs s3) := by rw [fill_at d3 ops.toList vs 0 a0 s3 o3 (by simpa using hs3) hd3 q2 (by rw [hn]; exact hd3n), Nat.zero_add]
    rcases hS.2 with ⟨l1, _⟩ | ⟨_, l2, _⟩ | ⟨_, _, l3, _⟩ | ⟨_, _, _, v, u, t, hv, hu, ht, hI⟩
    · have l1' : decide (s1 < ops.size) = false := l1
      rw [hlt s1 o1 hs1] at l1'
      cases l1'
    · have l2' : decide (s2 < ops.size) = false := l2
      rw [hlt s2 o2 hs2] at l2'
      cases l2'
    · have l3' : decide (s3 < ops.size) = false := l3
      rw [hlt s3 o3 hs3] at l3'
      cases l3'
    · rw [f1] at hv
      rw [f2] at hu
      rw [f3] at ht
      obtain rfl := Option.some.inj hv
      obtain rfl := Option.some.inj hu
      obtain rfl := Option.some.inj ht
      have hc := hend (vs s1) (vs s2) (vs s3) w hI
      rw [fill_congr ops.toList vs (fun i => if i = s1 then vs s1 else if i = s2 then vs s2 else if i = s3 then vs s3 else con i) 0 a0 (fun i hi => ?_)]
      · exact hc
      · rw [Nat.zero_add]
        show vs i = if i = s1 then vs s1 else if i = s2 then vs s2 else if i = s3 then vs s3 else con i
        by_cases e1 : i = s1
        · rw [if_pos e1, e1]
        by_cases e2 : i = s2
        · rw [if_neg e1, if_pos e2, e2]
        by_cases e3 : i = s3
        · rw [if_neg e1, if_neg e2, if_pos e3, e3]
        rw [if_neg e1, if_neg e2, if_neg e3]
        have hi' : i < ops.size := by simpa using hi
        exact hall i ops[i] (by simp [hi']) ((hkt i).2 ⟨e1, e2, e3⟩)
end
end Go.Proofs.YtffilggpimdikaaGreatDoor.FreeC

