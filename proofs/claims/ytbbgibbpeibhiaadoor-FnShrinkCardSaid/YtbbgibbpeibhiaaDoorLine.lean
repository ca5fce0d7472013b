/-
  The lines of a grid: its methods row and col, and when two are equal.
-/
import Derived.Test.YtbbgibbpeibhiaaDoorEntry
import Derived.Deep.MidRow
import Derived.ChangeKeysEq
namespace Go.Proofs.YtbbgibbpeibhiaaDoor.Line
open Go.RowKit Go.Proofs.YtbbgibbpeibhiaaDoor.Plain Go.Proofs.YtbbgibbpeibhiaaDoor.Base Go.Proofs.YtbbgibbpeibhiaaDoor.Valid Go.Proofs.YtbbgibbpeibhiaaDoor.Law Go.Proofs.YtbbgibbpeibhiaaDoor.GridPlain Go.Proofs.YtbbgibbpeibhiaaDoor.Grid Go.Proofs.YtbbgibbpeibhiaaDoor.Entry
set_option linter.unusedVariables false

/-- a line's cells -/
def lineL (g : Nat → Int) : List Value := (List.range 8).map fun i => .int .i64 (g i)
theorem lineL_len (g : Nat → Int) : (lineL g).length = 8 := by simp [lineL]
abbrev lineV (g : Nat → Int) : Value := .agg (lineL g).toArray
theorem lineL_get (g : Nat → Int) (i : Nat) (h : i < 8) : (lineL g)[i]? = some (.int .i64 (g i)) := by
  simp [lineL, h]
theorem lone (g : Nat → Int) : ((lineL g).toArray).all (·.oneCell') = true := by
  rw [Array.all_eq_true]
  intro i hi
  simp [lineL, Value.oneCell']
theorem lzero : (lineL (fun _ => 0)).toArray = #[.int .i64 0, .int .i64 0, .int .i64 0, .int .i64 0, .int .i64 0, .int .i64 0, .int .i64 0, .int .i64 0] := rfl
theorem linfo : (Tryd.prog.info? 44).map (·.size) = some 8 := by kernel_rfl
theorem linfo' (g : Nat → Int) : (Tryd.prog.info? 44).map (·.size) = some (lineL g).toArray.size := by rw [linfo]; simp [lineL]
theorem linfoL (g : Nat → Int) : (Tryd.prog.info? 44).map (·.size) = some (lineL g).length := by rw [linfo, lineL_len]
theorem line_set (g h : Nat → Int) (j : Nat) (v : Int) (hj : j < 8) (e : ∀ i, h i = if i = j then v else g i) : (lineL g).toArray.setIfInBounds j (.int .i64 v) = (lineL h).toArray := by
  apply Array.ext
  · simp [lineL]
  · intro i h1 h2
    have h8 : i < 8 := by simpa [lineL] using h2
    rw [Array.getElem_setIfInBounds (by simpa using h1)]
    simp only [lineL, List.getElem_toArray, List.getElem_map, List.getElem_range, e i]
    by_cases hij : i = j
    · rw [if_pos hij.symm, if_pos hij]
    · rw [if_neg (Ne.symm hij), if_neg hij]

theorem range_line {w : World} {b : Nat} {r c : Int} {f : Nat → Int} {x : Nat} (h : w.heap[b]? = some (.cells (gcells r c f) 47 (0, 0))) (hx : x < 8) : w.rangeAt b (2 + x * 8) (lineL fun y => f (x * 8 + y)) := by
  intro j v hv
  have hj : j < 8 := by
    have := (List.getElem?_eq_some_iff.1 hv).1
    simpa [lineL] using this
  rw [lineL_get _ _ hj] at hv
  obtain rfl := Option.some.inj hv
  exact (cell_of_row _ _ _ _ _ _ h).trans (gat r c f x j hx hj)

set_option maxHeartbeats 1000000 in
theorem row_line (r c : Int) (f : Nat → Int) (x : Nat) (hx : x < 8) (w : World) :
    Calls Tryd.prog 29 #[gval r c f, .int .i64 (x : Int)] w fun e w' => e = .returned (lineV fun y => f (x * 8 + y)) ∧ Below w.heap.size w w' := by
  have x0 : (0 : Int) ≤ (x : Int) := Int.natCast_nonneg x
  have x1 : (x : Int) < 8 := by omega
  have hb2 : ((w.alloc (.cells (gcells r c f) 47)).alloc (.cells (lineL (fun _ => 0)).toArray 44)).heap[w.heap.size]? = some (.cells (gcells r c f) 47 (0, 0)) := by
    rw [Below.heap_alloc _ _ _ (by simp)]; exact heap_alloc_new w _
  have hn2 : ((w.alloc (.cells (gcells r c f) 47)).alloc (.cells (lineL (fun _ => 0)).toArray 44)).heap[w.heap.size + 1]? = some (.cells (lineL (fun _ => 0)).toArray 44 (0, 0)) := by
    have := heap_alloc_new (w.alloc (.cells (gcells r c f) 47)) (.cells (lineL (fun _ => 0)).toArray 44)
    rwa [World.size_alloc] at this
  have HR := Lib.hid (range_line (x := x) hb2 hx)
  have HN := Lib.hid hn2
  have HB : Hid (Below w.heap.size w ((w.alloc (.cells (gcells r c f) 47)).alloc (.cells (lineL (fun _ => 0)).toArray 44))) := ((Below.refl w.heap.size w).alloc (Nat.le_refl _) _).alloc (by simp) _
  clear hb2 hn2
  go_enter Tryd.func29, Tryd.ntmps29
  rw [lzero] at HR HN HB
  go_wp2_with (first | (have X := HR.out; refine wpList_load_mid rfl 44 (.tmp 7) rfl w.heap.size (2 + x * 8) rfl _ _ X Tryd.underlying44 rfl (linfoL _) ?_; clear X) | (have X := HN.out; refine wpList_store_row rfl 44 (.tmp 4) (.tmp 8) rfl (w.heap.size + 1) _ rfl rfl 44 _ X (linfo' _) rfl (lone _) ?_; clear X))
  refine bodyPost_ret (v := lineV fun y => f (x * 8 + y)) (results_cell_row Tryd.results29 _ _ (w.heap.size + 1) 44 _ (0, 0) _ rfl (setRow_at HN.out _) Tryd.underlying44 rfl (linfo' _)) rfl ⟨rfl, below_setRow HB.out (by omega) _⟩

/-- what is known in the midst of col -/
structure CInv (w wr : World) (r c : Int) (f g : Nat → Int) : Prop where
  box : wr.heap[w.heap.size]? = some (.cells (gcells r c f) 47 (0, 0))
  res : wr.heap[w.heap.size + 1]? = some (.cells (lineL (fun _ => 0)).toArray 44 (0, 0))
  loc : wr.heap[w.heap.size + 2]? = some (.cells (lineL g).toArray 44 (0, 0))
  below : Below w.heap.size w wr
  size : w.heap.size + 3 ≤ wr.heap.size
theorem CInv.set_ {w wr : World} {r c : Int} {f g h : Nat → Int} (H : CInv w wr r c f g) (j : Nat) (v : Int) (hj : j < 8) (e : ∀ i, h i = if i = j then v else g i) :
    CInv w (wr.setCell ⟨w.heap.size + 1 + 1, j, none⟩ (.int .i64 v)) r c f h := by
  refine ⟨(heap_setCell_other _ _ _ _ (by simp; omega)).trans H.box, (heap_setCell_other _ _ _ _ (by simp)).trans H.res, ?_, H.below.setCell (by simp; omega) _, by simpa using H.size⟩
  rw [← line_set g h j v hj e]
  exact heap_setCell_same _ _ _ _ _ _ H.loc
theorem CInv.start (w : World) (r c : Int) (f : Nat → Int) : CInv w (((w.alloc (.cells (gcells r c f) 47)).alloc (.cells (lineL (fun _ => 0)).toArray 44)).alloc (.cells (lineL (fun _ => 0)).toArray 44)) r c f (fun _ => 0) := by
  obtain ⟨a, b, c, d, e⟩ := blocks3 (Below.refl _ (((w.alloc (.cells (gcells r c f) 47)).alloc (.cells (lineL (fun _ => 0)).toArray 44)).alloc (.cells (lineL (fun _ => 0)).toArray 44)))
  exact ⟨a, b, c, d, e⟩

set_option maxHeartbeats 1000000 in
theorem col_line (r : Nat) (c : Int) (f : Nat → Int) (y : Nat) (hy : y < 8) (hr : r ≤ 8) (w : World) :
    Calls Tryd.prog 30 #[gval r c f, .int .i64 (y : Int)] w fun e w' => e = .returned (lineV fun x => if x < r then f (x * 8 + y) else 0) ∧ Below w.heap.size w w' := by
  have y0 : (0 : Int) ≤ (y : Int) := Int.natCast_nonneg y
  have y1 : (y : Int) < 8 := by omega
  have HI0 := Lib.hid (CInv.start w r c f)
  have c0 : (((w.alloc (.cells (gcells r c f) 47)).alloc (.cells (lineL (fun _ => 0)).toArray 44)).alloc (.cells (lineL (fun _ => 0)).toArray 44)).cell? ⟨w.heap.size, 0, none⟩ = some (.int .i64 (r : Int)) := cell_of_row _ _ 0 _ _ _ HI0.out.box
  rw [lzero] at HI0 c0
  go_enter Tryd.func30, Tryd.ntmps30
  go_wp2_with fail
  clear c0
  go_loopw [9] (fun x wr => ∃ k : Nat, k ≤ r ∧ x = .int .i64 (k : Int) ∧ CInv w wr r c f (fun x => if x < k then f (x * 8 + y) else 0)) (fun x _ => r - (intOf x).toNat)
  case atStart => exact ⟨0, Nat.zero_le _, rfl, by
    have e : (fun x : Nat => if x < 0 then f (x * 8 + y) else 0) = fun _ => (0 : Int) := funext fun x => by simp
    rw [e]
    exact HI0.out⟩
  case round =>
    obtain ⟨k, hk, rfl, hinv⟩ := hrel
    clear HI0
    have HI := Lib.hid hinv
    by_cases hlt : k < r
    · have k8 : k < 8 := by omega
      have k0 : (0 : Int) ≤ (k : Int) := Int.natCast_nonneg k
      have k1 : (k : Int) < 8 := by omega
      have cg : wr.cell? ⟨w.heap.size, 2 + k * 8 + y, none⟩ = some (.int .i64 (f (k * 8 + y))) := (cell_of_row _ _ _ _ _ _ hinv.box).trans (gat _ _ _ _ _ k8 hy)
      have cl : wr.cell? ⟨w.heap.size + 1 + 1, k, none⟩ = some (.int .i64 (if k < k then f (k * 8 + y) else 0)) := (cell_of_row _ _ _ _ _ _ hinv.loc).trans (by rw [List.getElem?_toArray]; exact lineL_get _ _ k8)
      have fl : wr.frozen? ⟨w.heap.size + 1 + 1, k, none⟩ = false := frozen_of_row _ _ _ _ _ hinv.loc
      clear hinv
      go_wp2_with fail
      go_roundw
      case rel => exact ⟨k + 1, by omega, by go_num, HI.out.set_ k _ k8 fun i => by
        by_cases e : i = k
        · subst e; simp
        · by_cases e2 : i < k
          · rw [if_pos (by omega), if_neg e, if_pos e2]
          · rw [if_neg (by omega), if_neg e, if_neg e2]⟩
      case measure => simp [intOf]; omega
    · obtain rfl : k = r := by omega
      clear hinv
      go_wp2_with (first | (have X := HI.out.loc; refine wpList_load_row rfl 44 (.tmp 5) rfl (w.heap.size + 2) rfl 44 _ (0, 0) _ X Tryd.underlying44 rfl (linfo' _) ?_; clear X) | (have X := HI.out.res; refine wpList_store_row rfl 44 (.tmp 4) (.tmp 21) rfl (w.heap.size + 1) _ rfl rfl 44 _ X (linfo' _) (by simp [lineL]) (lone _) ?_; clear X))
      refine bodyPost_ret (v := lineV fun x => if x < k then f (x * 8 + y) else 0) (results_cell_row Tryd.results30 _ _ (w.heap.size + 1) 44 _ (0, 0) _ rfl (setRow_at HI.out.res _) Tryd.underlying44 rfl (linfo' _)) rfl ⟨rfl, below_setRow HI.out.below (by omega) _⟩

/-- two lines are equal as all their cells are -/
def sameL (g h : Nat → Int) : Bool := (List.range 8).all fun i => g i == h i
theorem line_eq (g h : Nat → Int) (W : World) : (Op.equalIn 10000 44 (lineV g) (lineV h)).run Tryd.prog W = .ok (sameL g h) W := by
  obtain ⟨i, hi, hz0, hz1, hz2⟩ := info_parts (show (Tryd.prog.info? 3).map (fun i => (i.zero, i.size, i.bytes)) = some (some (.int .i64 0), 1, 8) by kernel_rfl)
  rw [run_equalIn_array W 9999 _ _ Tryd.underlying44 hi]
  have hc : Tryd.prog.cellsOf 3 = 1 := by kernel_rfl
  have step : ∀ is : List Nat, (∀ i ∈ is, i < 8) → (Op.eqItems 9999 3 1 (lineL g).toArray (lineL h).toArray is).run Tryd.prog W = .ok (is.all fun i => g i == h i) W := by
    intro is
    induction is with
    | nil => intro _; simp [Op.eqItems]
    | cons j is ih =>
      intro hall
      have hj := hall j (by simp)
      have p : ∀ k : Nat → Int, (part 3 (lineL k).toArray (j * 1)).run Tryd.prog W = .ok (.int .i64 (k j)) W := fun k => by
        have := lineL_get k j hj
        simp [part, isAgg, run_underlying Tryd.underlying3, this]
      have q0 : ∀ d : Nat, (Op.equalIn (d + 1) 3 (.int .i64 (g j)) (.int .i64 (h j))).run Tryd.prog W = .ok (g j == h j) W := fun d => by
        simp [Op.equalIn, run_underlying Tryd.underlying3]
      have q := q0 9998
      have ih2 := ih fun i hi => hall i (by simp [hi])
      simp only [Op.eqItems, Sem.run_bind, p, q, Result.andThen_ok, List.all_cons]
      by_cases e : g j = h j
      · simp [e, ih2]
      · simp [e]
  rw [hc]
  exact step _ fun i hi => List.mem_range.1 hi
end Go.Proofs.YtbbgibbpeibhiaaDoor.Line
