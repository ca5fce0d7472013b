/-
  The program's PickMatrix: the function value that tells an entry.
-/
import Derived.Test.YtbbgibbpeibhiaaDoorInts
import Derived.Test.YtbbgibbpeibhiaaDoorFrom
import Derived.StillTailTactics
import Derived.Deep.WholeRow
namespace Go.Proofs.YtbbgibbpeibhiaaDoor.PickI
open Go.RowKit Go.Proofs.YtbbgibbpeibhiaaDoor.Plain Go.Proofs.YtbbgibbpeibhiaaDoor.Base Go.Proofs.YtbbgibbpeibhiaaDoor.Valid Go.Proofs.YtbbgibbpeibhiaaDoor.Law Go.Proofs.YtbbgibbpeibhiaaDoor.GridPlain Go.Proofs.YtbbgibbpeibhiaaDoor.Grid Go.Proofs.YtbbgibbpeibhiaaDoor.Entry Go.Proofs.YtbbgibbpeibhiaaDoor.Ints Go.Proofs.YtbbgibbpeibhiaaDoor.From
set_option linter.unusedVariables false

section
variable {P : Program} {ops : Array Oper} {w : World}
/-- a whole row is loaded, in a region that draws its order and only reads -/
theorem wpStill_load_row {Q : Act → Prop} {a : Act} {o : Oper} {rest : List Oper} (hgd : o.guard = none) (ty : TypeId) (x : Operand) (ho : o.op = .load ty x)
    (g : Nat) (hx : a.eval x = .pointer (some ⟨g, 0, none⟩)) (t : TypeId) (cs : Array Value) (fr : Nat × Nat) (d : TypeDesc) (hg : w.heap[g]? = some (.cells cs t fr))
    (hu : P.underlying ty = some d) (hd : (match d with | .struct _ | .array _ _ => true | _ => false) = true) (hi : (P.info? ty).map (·.size) = some cs.size)
    (h : wpStill P ops w Q rest (a.put o.dst (.agg cs))) : wpStill P ops w Q (o :: rest) a := by
  refine wpStill_step fun K hK => ?_
  have hw : Region.wanted o (yielded ops a.tmps) = true := by simp [Region.wanted, hgd]
  rw [if_pos hw]
  unfold Oper.still execOp
  simp only [ho, hx, Instr.loadAt, Instr.sureAddr, Sem.run_bind, Sem.run_pure, Result.andThen_ok, run_loadVar_row w g t ty cs fr d hg hu hd hi]
  exact ⟨rfl, hK _ h⟩
end

/-- the entries that are picked -/
def pickI (E : Nat → Nat → Bool) (xs ys : List Int) : Nat → Nat → Bool := fun x y => E (xs.getD x 0).toNat (ys.getD y 0).toNat

/-- block b holds the grid of so many entries -/
def Holds (w : World) (b : Nat) (r c : Nat) (E : Nat → Nat → Bool) : Prop := w.heap[b]? = some (.cells (gcells r c (gpart E c (r * c))) 47 (0, 0))
theorem Holds.lt {w : World} {b r c : Nat} {E : Nat → Nat → Bool} (h : Holds w b r c E) : b < w.heap.size := (Array.getElem?_eq_some_iff.1 h).1
theorem Holds.below {w w1 : World} {b r c : Nat} {E : Nat → Nat → Bool} (h : Holds w b r c E) (hb : Below w.heap.size w w1) : Holds w1 b r c E := (hb.block b h.lt).trans h

set_option maxHeartbeats 1000000 in
set_option maxRecDepth 100000 in
theorem pick_clos (r c : Nat) (E : Nat → Nat → Bool) (hr8 : r ≤ 8) (hc8 : c ≤ 8) (xs ys : List Int) (okx : okI xs r = true) (oky : okI ys c = true) (g b1 b2 : Nat) (o1 o2 : Nat) (p1 p2 : Nat) (k1 k2 : Nat)
    (x y : Nat) (hx : x < xs.length) (hy : y < ys.length) (hx8 : xs.length ≤ 8) (hy8 : ys.length ≤ 8) (W : World) (hh : Holds W g r c E)
    (hb1 : W.cell? ⟨b1, 0, none⟩ = some (.slice (some ⟨p1, o1, none⟩) xs.length k1)) (hb2 : W.cell? ⟨b2, 0, none⟩ = some (.slice (some ⟨p2, o2, none⟩) ys.length k2))
    (hc1 : W.cell? ⟨p1, o1 + x, none⟩ = some (.int .i64 xs[x])) (hc2 : W.cell? ⟨p2, o2 + y, none⟩ = some (.int .i64 ys[y])) :
    Calls Tryd.prog 39 #[.int .i64 (x : Int), .int .i64 (y : Int), .pointer (some ⟨g, 0, none⟩), .pointer (some ⟨b1, 0, none⟩), .pointer (some ⟨b2, 0, none⟩)] W
      fun e W' => e = .returned (.int .i64 (bitI (pickI E xs ys x y))) ∧ Below W.heap.size W W' := by
  have HH := Lib.hid (show W.heap[g]? = some (.cells (gcells r c (gpart E c (r * c))) 47 (0, 0)) from hh)
  have ax := okI_get okx x hx
  have ay := okI_get oky y hy
  have HE : Hid (pickI E xs ys x y = E (xs[x]).toNat (ys[y]).toNat) := by
    unfold Hid pickI
    simp [hx, hy]
  generalize xs[x] = a at hc1 ax HE
  generalize ys[y] = b at hc2 ay HE
  obtain ⟨a, rfl⟩ := Int.eq_ofNat_of_zero_le ax.1
  obtain ⟨b, rfl⟩ := Int.eq_ofNat_of_zero_le ay.1
  have ha : a < r := by omega
  have hb : b < c := by omega
  have HF := Lib.hid (gpart_all E r c a b ha hb hc8)
  have ha8 : a < 8 := by omega
  have hb8 : b < 8 := by omega
  have x0 : (0 : Int) ≤ (x : Int) := Int.natCast_nonneg x
  have x1 : (x : Int) < (xs.length : Int) := by omega
  have y0 : (0 : Int) ≤ (y : Int) := Int.natCast_nonneg y
  have y1 : (y : Int) < (ys.length : Int) := by omega
  clear hh ax ay okx oky
  go_enter Tryd.func39, Tryd.ntmps39
  go_wp2_with fail
  refine wp_region_still_tail 9 (by kernel_rfl) (by kernel_rfl) ?_
  simp only [List.take_succ_cons, List.take_zero, List.drop_succ_cons, List.drop_zero]
  have HW : Hid (({ W with drawn := W.drawn + 1 } : World).heap[g]? = some (.cells (gcells r c (gpart E c (r * c))) 47 (0, 0))) := HH.out
  have X := HW.out
  refine wpStill_load_row rfl 47 (.tmp 2) rfl g rfl 47 _ (0, 0) _ X Tryd.underlying47 rfl (ginfo' _ _ _) ?_
  clear X
  repeat still_step
  refine wpStill_nil ?_
  change wpList _ _ _ _ _ W.drew
  go_wp2_with fail
  refine (entry_any r c _ a b ha8 hb8 _).mono ?_
  rintro e w1 ⟨rfl, hbl⟩
  have HB := Lib.hid hbl
  clear hbl
  rw [HF.out]
  go_wp2_with fail
  go_ret
  exact ⟨by rw [HE.out]; rfl, ⟨HB.out.os, HB.out.tape, HB.out.output, HB.out.size, HB.out.block⟩⟩
theorem pick_enters (args : Array Value) (W : World) : (callFunc 39 args).run Tryd.prog W = .ok (.enter 39 args) W := by kernel_rfl

theorem iv_slice {w : World} {B : Nat} {v : Value} {xs : List Int} (h : IV w B v xs) : ∃ p k, v = .slice p xs.length k := by
  rcases h.2 with ⟨rfl, rfl⟩ | ⟨b, off, c, rfl, hlt, hc⟩
  · exact ⟨none, 0, rfl⟩
  · exact ⟨_, _, rfl⟩

theorem four_blocks {w w1 : World} {o1 o2 o3 o4 : Obj} (hb : Below ((((w.alloc o1).alloc o2).alloc o3).alloc o4).heap.size ((((w.alloc o1).alloc o2).alloc o3).alloc o4) w1) :
    w1.heap[w.heap.size + 1]? = some o2 ∧ w1.heap[w.heap.size + 1 + 1]? = some o3 ∧ w1.heap[w.heap.size + 1 + 1 + 1]? = some o4 ∧ Below w.heap.size w w1 ∧ w.heap.size + 4 ≤ w1.heap.size := by
  have hs : ((((w.alloc o1).alloc o2).alloc o3).alloc o4).heap.size = w.heap.size + 4 := by simp
  have h4 : ((((w.alloc o1).alloc o2).alloc o3).alloc o4).heap[w.heap.size + 1 + 1 + 1]? = some o4 := by
    have := heap_alloc_new (((w.alloc o1).alloc o2).alloc o3) o4
    rwa [World.size_alloc, World.size_alloc, World.size_alloc] at this
  have h3 : (((w.alloc o1).alloc o2).alloc o3).heap[w.heap.size + 1 + 1]? = some o3 := by
    have := heap_alloc_new ((w.alloc o1).alloc o2) o3
    rwa [World.size_alloc, World.size_alloc] at this
  have h2 : ((w.alloc o1).alloc o2).heap[w.heap.size + 1]? = some o2 := by
    have := heap_alloc_new (w.alloc o1) o2
    rwa [World.size_alloc] at this
  have b3 : ((((w.alloc o1).alloc o2).alloc o3).alloc o4).heap[w.heap.size + 1 + 1]? = some o3 := (Below.heap_alloc _ _ _ (by simp)).trans h3
  have b2 : ((((w.alloc o1).alloc o2).alloc o3).alloc o4).heap[w.heap.size + 1]? = some o2 := (Below.heap_alloc _ _ _ (by simp)).trans ((Below.heap_alloc _ _ _ (by simp)).trans h2)
  refine ⟨(hb.block _ (by omega)).trans b2, (hb.block _ (by omega)).trans b3, (hb.block _ (by omega)).trans h4, ?_, by have := hb.size; omega⟩
  exact (((((Below.refl w.heap.size w).alloc (Nat.le_refl _) _).alloc (by simp) _).alloc (by simp; omega) _).alloc (by simp; omega) _).trans (hb.mono (by omega))

set_option maxHeartbeats 1000000 in
set_option maxRecDepth 100000 in
theorem pick_impl (E : Nat → Nat → Bool) (r c : Nat) (hr : 1 ≤ r) (hr8 : r ≤ 8) (hc : 1 ≤ c) (hc8 : c ≤ 8) (s : ByteArray) (xs ys : List Int) (v u : Value) (okx : okI xs r = true) (oky : okI ys c = true)
    (hx1 : 1 ≤ xs.length) (hx8 : xs.length ≤ 8) (hy1 : 1 ≤ ys.length) (hy8 : ys.length ≤ 8) (w : World) (hv : IV w w.heap.size v xs) (hu : IV w w.heap.size u ys)
    (hg : ∀ W : World, Calls Tryd.prog 27 #[mat r c s] W fun e w' => e = .returned (gval r c (gpart E c (r * c))) ∧ Below W.heap.size W w') :
    Calls Tryd.prog 12 #[mat r c s, v, u] w fun e w' => e = .returned (.tuple #[mat xs.length ys.length (str (rowsB (pickI E xs ys) xs.length ys.length)), .bool true]) ∧ Below w.heap.size w w' := by
  have HG := Lib.hid hg
  clear hg
  obtain ⟨p1, o1, k1, rfl, hp1, hcx⟩ := hv.2.resolve_left fun h => by rw [h.2] at hx1; simp at hx1
  obtain ⟨p2, o2, k2, rfl, hp2, hcy⟩ := hu.2.resolve_left fun h => by rw [h.2] at hy1; simp at hy1
  have HX : Hid (∀ j (hj : j < xs.length), w.cell? ⟨p1, o1 + j, none⟩ = some (.int .i64 xs[j])) := hcx
  have HY : Hid (∀ j (hj : j < ys.length), w.cell? ⟨p2, o2 + j, none⟩ = some (.int .i64 ys[j])) := hcy
  have HV := Lib.hid hv
  have HU := Lib.hid hu
  have OX := Lib.hid okx
  have OY := Lib.hid oky
  clear hv hu hcx hcy okx oky
  go_enter Tryd.func12, Tryd.ntmps12
  go_wp2_with fail
  refine (HG.out _).mono ?_
  rintro e w1 ⟨rfl, hb1⟩
  obtain ⟨b1, b2, b3, hbel, hz⟩ := four_blocks hb1
  have c0 : (w1.alloc (.cells (gcells r c (gpart E c (r * c))) 47)).cell? ⟨w1.heap.size, 0, none⟩ = some (.int .i64 (r : Int)) := cell_of_row _ _ 0 _ _ _ (heap_alloc_new w1 _)
  have c1 : (w1.alloc (.cells (gcells r c (gpart E c (r * c))) 47)).cell? ⟨w1.heap.size, 1, none⟩ = some (.int .i64 (c : Int)) := cell_of_row _ _ 1 _ _ _ (heap_alloc_new w1 _)
  have hb2 : Below w.heap.size w (w1.alloc (.cells (gcells r c (gpart E c (r * c))) 47)) := bstepA hbel _
  have B1 : (w1.alloc (.cells (gcells r c (gpart E c (r * c))) 47)).heap[w.heap.size + 1]? = _ := (Below.heap_alloc _ _ _ (by omega)).trans b1
  have B2 : (w1.alloc (.cells (gcells r c (gpart E c (r * c))) 47)).heap[w.heap.size + 1 + 1]? = _ := (Below.heap_alloc _ _ _ (by omega)).trans b2
  have B3 : (w1.alloc (.cells (gcells r c (gpart E c (r * c))) 47)).heap[w.heap.size + 1 + 1 + 1]? = _ := (Below.heap_alloc _ _ _ (by omega)).trans b3
  have q1 : (w1.alloc (.cells (gcells r c (gpart E c (r * c))) 47)).cell? ⟨w.heap.size + 1, 0, none⟩ = some (.slice (some ⟨p1, o1, none⟩) xs.length k1) := cell_of_row _ _ 0 _ _ _ B1
  have q2 : (w1.alloc (.cells (gcells r c (gpart E c (r * c))) 47)).cell? ⟨w.heap.size + 1 + 1, 0, none⟩ = some (.slice (some ⟨p2, o2, none⟩) ys.length k2) := cell_of_row _ _ 0 _ _ _ B2
  have hh : Holds (w1.alloc (.cells (gcells r c (gpart E c (r * c))) 47)) w1.heap.size r c E := heap_alloc_new w1 _
  have H3 := Lib.hid B3
  have HB := Lib.hid hb2
  have HZ : Hid (w.heap.size + 4 ≤ w1.heap.size) := hz
  clear hb1 b1 b2 b3 B1 B2 B3 hbel hb2
  go_wp2_with (refine wpList_store_row rfl 47 (.tmp 8) (.tmp 10) rfl w1.heap.size (gcells r c (gpart E c (r * c))) rfl rfl 47 _ (heap_alloc_new w1 _) (ginfo' _ _ _) (by rw [gzero, gsize, gsize]) (gone _ _ _) ?_; rw [World.setRow_alloc_new])
  have IX : IV (w1.alloc (.cells (gcells r c (gpart E c (r * c))) 47)) (w1.alloc (.cells (gcells r c (gpart E c (r * c))) 47)).heap.size _ xs := (HV.out.later (Nat.le_refl _) HB.out).mono HB.out.size
  have IY : IV (w1.alloc (.cells (gcells r c (gpart E c (r * c))) 47)) (w1.alloc (.cells (gcells r c (gpart E c (r * c))) 47)).heap.size _ ys := (HU.out.later (Nat.le_refl _) HB.out).mono HB.out.size
  have HIX := Lib.hid IX
  have HIY := Lib.hid IY
  have hs2 : (w1.alloc (.cells (gcells r c (gpart E c (r * c))) 47)).heap.size = w1.heap.size + 1 := by simp
  have HT : Hid (Tells 39 #[.pointer (some ⟨w1.heap.size, 0, none⟩), .pointer (some ⟨w.heap.size + 1, 0, none⟩), .pointer (some ⟨w.heap.size + 1 + 1, 0, none⟩)] xs.length ys.length (pickI E xs ys) (w1.alloc (.cells (gcells r c (gpart E c (r * c))) 47))) :=
    fun W x y hx hy hb => pick_clos r c E hr8 hc8 xs ys OX.out OY.out w1.heap.size (w.heap.size + 1) (w.heap.size + 1 + 1) o1 o2 p1 p2 k1 k2 x y hx hy hx8 hy8 W (hh.below hb)
      ((hb.cell (p := ⟨w.heap.size + 1, 0, none⟩) (by show w.heap.size + 1 < _; omega)).trans q1) ((hb.cell (p := ⟨w.heap.size + 1 + 1, 0, none⟩) (by show w.heap.size + 1 + 1 < _; omega)).trans q2)
      ((hb.cell (p := ⟨p1, o1 + x, none⟩) (by show p1 < _; omega)).trans ((HB.out.cell (p := ⟨p1, o1 + x, none⟩) hp1).trans (HX.out x hx)))
      ((hb.cell (p := ⟨p2, o2 + y, none⟩) (by show p2 < _; omega)).trans ((HB.out.cell (p := ⟨p2, o2 + y, none⟩) hp2).trans (HY.out y hy)))
  clear hh IX IY hs2
  refine (are_any xs _ _ _ HIX.out).mono ?_
  rintro e w' ⟨rfl, rfl⟩
  rw [OX.out]
  go_wp2_with fail
  refine (are_any ys _ _ _ HIY.out).mono ?_
  rintro e w' ⟨rfl, rfl⟩
  rw [OY.out]
  go_wp2_with fail
  refine (from_any 39 #[.pointer (some ⟨w1.heap.size, 0, none⟩), .pointer (some ⟨w.heap.size + 1, 0, none⟩), .pointer (some ⟨w.heap.size + 1 + 1, 0, none⟩)] xs.length ys.length hx1 hx8 hy1 hy8 _ _ pick_enters HT).mono ?_
  rintro e w2 ⟨rfl, hb2⟩
  have hz2 := hb2.size
  simp only [World.size_alloc] at hz2
  have hres : w2.heap[w.heap.size + 1 + 1 + 1]? = some (.cells #[.int .i64 0, .int .i64 0, .string ⟨#[]⟩] 24 (0, 0)) := (hb2.block _ (by simp; omega)).trans H3.out
  have HB2 := Lib.hid (bstep HB.out hb2)
  have d0 : w2.cell? ⟨w.heap.size + 1 + 1 + 1, 0, none⟩ = some (.int .i64 0) := cell_of_row _ _ 0 _ _ _ hres
  have d1 : w2.cell? ⟨w.heap.size + 1 + 1 + 1, 1, none⟩ = some (.int .i64 0) := cell_of_row _ _ 1 _ _ _ hres
  have d2 : w2.cell? ⟨w.heap.size + 1 + 1 + 1, 2, none⟩ = some (.string ⟨#[]⟩) := cell_of_row _ _ 2 _ _ _ hres
  have f0 : w2.frozen? ⟨w.heap.size + 1 + 1 + 1, 0, none⟩ = false := frozen_of_row _ _ 0 _ _ hres
  have f1 : w2.frozen? ⟨w.heap.size + 1 + 1 + 1, 1, none⟩ = false := frozen_of_row _ _ 1 _ _ hres
  have f2 : w2.frozen? ⟨w.heap.size + 1 + 1 + 1, 2, none⟩ = false := frozen_of_row _ _ 2 _ _ hres
  clear hb2 hres HT c0 c1 q1 q2
  go_wp2_with fail
  refine bodyPost_ret (v := .tuple #[mat xs.length ys.length (str (rowsB (pickI E xs ys) xs.length ys.length)), .bool true]) (by simp [results, Tryd.results12, go_sem, d0, d1, d2]) rfl ⟨rfl, ?_⟩
  exact ((HB2.out.setCell (by simp; omega) _).setCell (by simp; omega) _).setCell (by simp; omega) _

set_option maxHeartbeats 1000000 in
set_option maxRecDepth 100000 in
theorem pick_impl_no (R C : Int) (f : Nat → Int) (r c : Int) (s : ByteArray) (xs ys : List Int) (v u : Value)
    (hno : ¬ ((okI xs R = true ∧ okI ys C = true) ∧ (1 ≤ xs.length ∧ xs.length ≤ 8) ∧ (1 ≤ ys.length ∧ ys.length ≤ 8))) (w : World) (hv : IV w w.heap.size v xs) (hu : IV w w.heap.size u ys)
    (hg : ∀ W : World, Calls Tryd.prog 27 #[mat r c s] W fun e w' => e = .returned (gval R C f) ∧ Below W.heap.size W w') :
    Calls Tryd.prog 12 #[mat r c s, v, u] w fun e w' => e = .returned (.tuple #[mat 0 0 (str []), .bool false]) ∧ Below w.heap.size w w' := by
  have HG := Lib.hid hg
  clear hg
  obtain ⟨p1, k1, rfl⟩ := iv_slice hv
  obtain ⟨p2, k2, rfl⟩ := iv_slice hu
  have HV := Lib.hid hv
  have HU := Lib.hid hu
  have HNO := Lib.hid hno
  clear hv hu hno
  go_enter Tryd.func12, Tryd.ntmps12
  go_wp2_with fail
  refine (HG.out _).mono ?_
  rintro e w1 ⟨rfl, hb1⟩
  obtain ⟨b1, b2, b3, hbel, hz⟩ := four_blocks hb1
  have c0 : (w1.alloc (.cells (gcells R C f) 47)).cell? ⟨w1.heap.size, 0, none⟩ = some (.int .i64 R) := cell_of_row _ _ 0 _ _ _ (heap_alloc_new w1 _)
  have c1 : (w1.alloc (.cells (gcells R C f) 47)).cell? ⟨w1.heap.size, 1, none⟩ = some (.int .i64 C) := cell_of_row _ _ 1 _ _ _ (heap_alloc_new w1 _)
  have hb2 : Below w.heap.size w (w1.alloc (.cells (gcells R C f) 47)) := bstepA hbel _
  have B1 : (w1.alloc (.cells (gcells R C f) 47)).heap[w.heap.size + 1]? = _ := (Below.heap_alloc _ _ _ (by omega)).trans b1
  have B2 : (w1.alloc (.cells (gcells R C f) 47)).heap[w.heap.size + 1 + 1]? = _ := (Below.heap_alloc _ _ _ (by omega)).trans b2
  have B3 : (w1.alloc (.cells (gcells R C f) 47)).heap[w.heap.size + 1 + 1 + 1]? = _ := (Below.heap_alloc _ _ _ (by omega)).trans b3
  have q1 : (w1.alloc (.cells (gcells R C f) 47)).cell? ⟨w.heap.size + 1, 0, none⟩ = some (.slice p1 xs.length k1) := cell_of_row _ _ 0 _ _ _ B1
  have q2 : (w1.alloc (.cells (gcells R C f) 47)).cell? ⟨w.heap.size + 1 + 1, 0, none⟩ = some (.slice p2 ys.length k2) := cell_of_row _ _ 0 _ _ _ B2
  have H3 := Lib.hid B3
  have HB := Lib.hid hb2
  clear hb1 b1 b2 b3 B1 B2 B3 hbel hb2
  go_wp2_with (refine wpList_store_row rfl 47 (.tmp 8) (.tmp 10) rfl w1.heap.size (gcells R C f) rfl rfl 47 _ (heap_alloc_new w1 _) (ginfo' _ _ _) (by rw [gzero, gsize, gsize]) (gone _ _ _) ?_; rw [World.setRow_alloc_new])
  have HIX := Lib.hid (show IV (w1.alloc (.cells (gcells R C f) 47)) (w1.alloc (.cells (gcells R C f) 47)).heap.size _ xs from (HV.out.later (Nat.le_refl _) HB.out).mono HB.out.size)
  have HIY := Lib.hid (show IV (w1.alloc (.cells (gcells R C f) 47)) (w1.alloc (.cells (gcells R C f) 47)).heap.size _ ys from (HU.out.later (Nat.le_refl _) HB.out).mono HB.out.size)
  refine (are_any xs _ _ _ HIX.out).mono ?_
  rintro e w' ⟨rfl, rfl⟩
  have hres := H3.out
  have d0 := cell_of_row _ _ 0 _ _ _ hres
  have d1 := cell_of_row _ _ 1 _ _ _ hres
  have d2 := cell_of_row _ _ 2 _ _ _ hres
  simp only [List.getElem?_toArray, List.getElem?_cons_zero, List.getElem?_cons_succ] at d0 d1 d2
  have f0 := frozen_of_row _ _ 0 _ _ hres
  have f1 := frozen_of_row _ _ 1 _ _ hres
  have f2 := frozen_of_row _ _ 2 _ _ hres
  clear hres
  obtain ⟨bx, hbx⟩ : ∃ b, okI xs R = b := ⟨_, rfl⟩
  obtain ⟨bY, hby⟩ : ∃ b, okI ys C = b := ⟨_, rfl⟩
  rw [hbx]
  cases bx
  · go_wp2_with fail
    refine bodyPost_ret (v := .tuple #[mat 0 0 (str []), .bool false]) (by simp [results, Tryd.results12, go_sem, d0, d1, d2, str]) rfl ⟨rfl, ?_⟩
    exact ((HB.out.setCell (by simp; omega) _).setCell (by simp; omega) _).setCell (by simp; omega) _
  · go_wp2_with fail
    refine (are_any ys _ _ _ HIY.out).mono ?_
    rintro e w' ⟨rfl, rfl⟩
    rw [hby]
    cases bY
    · go_wp2_with fail
      refine bodyPost_ret (v := .tuple #[mat 0 0 (str []), .bool false]) (by simp [results, Tryd.results12, go_sem, d0, d1, d2, str]) rfl ⟨rfl, ?_⟩
      exact ((HB.out.setCell (by simp; omega) _).setCell (by simp; omega) _).setCell (by simp; omega) _
    · have hlen := HNO.out
      rw [hbx, hby] at hlen
      have HL : Hid ((((xs.length : Nat) : Int) < 1 ∨ 8 < ((xs.length : Nat) : Int)) ∨ (((ys.length : Nat) : Int) < 1 ∨ 8 < ((ys.length : Nat) : Int))) := by unfold Hid; simp at hlen; omega
      clear hlen d0 d1 d2 f0 f1 f2
      go_wp2_with fail
      refine (from_no _ _ _ HL.out _).mono ?_
      rintro e w2 ⟨rfl, hb2⟩
      have hz2 := hb2.size
      simp only [World.size_alloc] at hz2
      have hres : w2.heap[w.heap.size + 1 + 1 + 1]? = some (.cells #[.int .i64 0, .int .i64 0, .string ⟨#[]⟩] 24 (0, 0)) := (hb2.block _ (by simp; omega)).trans H3.out
      have HB2 := Lib.hid (bstep HB.out hb2)
      have d0 : w2.cell? ⟨w.heap.size + 1 + 1 + 1, 0, none⟩ = some (.int .i64 0) := cell_of_row _ _ 0 _ _ _ hres
      have d1 : w2.cell? ⟨w.heap.size + 1 + 1 + 1, 1, none⟩ = some (.int .i64 0) := cell_of_row _ _ 1 _ _ _ hres
      have d2 : w2.cell? ⟨w.heap.size + 1 + 1 + 1, 2, none⟩ = some (.string ⟨#[]⟩) := cell_of_row _ _ 2 _ _ _ hres
      have f0 : w2.frozen? ⟨w.heap.size + 1 + 1 + 1, 0, none⟩ = false := frozen_of_row _ _ 0 _ _ hres
      have f1 : w2.frozen? ⟨w.heap.size + 1 + 1 + 1, 1, none⟩ = false := frozen_of_row _ _ 1 _ _ hres
      have f2 : w2.frozen? ⟨w.heap.size + 1 + 1 + 1, 2, none⟩ = false := frozen_of_row _ _ 2 _ _ hres
      clear hb2 hres c0 c1 q1 q2
      go_wp2_with fail
      refine bodyPost_ret (v := .tuple #[mat 0 0 (str []), .bool false]) (by simp [results, Tryd.results12, go_sem, d0, d1, d2, str]) rfl ⟨rfl, ?_⟩
      exact ((HB2.out.setCell (by simp; omega) _).setCell (by simp; omega) _).setCell (by simp; omega) _
end Go.Proofs.YtbbgibbpeibhiaaDoor.PickI

