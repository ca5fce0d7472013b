/-
  Texts of one seat, joined: Join, JoinI, JoinN, JoinWalk.
-/
import Derived.Test.YtbbgibbpeibhiaaGreatDoorJn14
import Derived.StillTailTactics
import Derived.Test.YtbbgibbpeibhiaaGreatDoorJn6
import Derived.Deep.WholeRow
import Derived.Laws.EntriesVeiled
/-
  The reference's JoinMatrices.
-/
namespace Go.Proofs.YtbbgibbpeibhiaaGreatDoor.Join
open Go.RowKit Go.Proofs.YtbbgibbpeibhiaaGreatDoor.Plain Go.Proofs.YtbbgibbpeibhiaaGreatDoor.Base Go.Proofs.YtbbgibbpeibhiaaGreatDoor.Valid Go.Proofs.YtbbgibbpeibhiaaGreatDoor.Law Go.Proofs.YtbbgibbpeibhiaaGreatDoor.GridPlain Go.Proofs.YtbbgibbpeibhiaaGreatDoor.Grid Go.Proofs.YtbbgibbpeibhiaaGreatDoor.Entry Go.Proofs.YtbbgibbpeibhiaaGreatDoor.From Go.Proofs.YtbbgibbpeibhiaaGreatDoor.JoinB Go.Proofs.YtbbgibbpeibhiaaGreatDoor.Ops
set_option linter.unusedVariables false

/-- both boxes, the result's block, out's block -/
def JInv (w wr : World) (g : Nat) (r c r2 c2 : Int) (s1 s2 t : ByteArray) : Prop :=
  wr.heap[w.heap.size]? = some (.cells #[.int .i64 r, .int .i64 c, .string s1] 28 (0, 0)) ∧ wr.heap[w.heap.size + 1]? = some (.cells #[.int .i64 r2, .int .i64 c2, .string s2] 28 (0, 0)) ∧
    wr.heap[w.heap.size + 1 + 1]? = some (.cells #[.int .i64 0, .int .i64 0, .string ⟨#[]⟩] 28 (0, 0)) ∧ wr.heap[g]? = some (.cells #[.int .i64 r, .int .i64 c, .string t] 28 (0, 0)) ∧
    Below w.heap.size w wr ∧ w.heap.size + 3 ≤ g ∧ g < wr.heap.size
theorem JInv.drew {w wr : World} {g : Nat} {r c r2 c2 : Int} {s1 s2 t : ByteArray} (h : JInv w wr g r c r2 c2 s1 s2 t) : JInv w wr.drew g r c r2 c2 s1 s2 t :=
  ⟨h.1, h.2.1, h.2.2.1, h.2.2.2.1, ⟨h.2.2.2.2.1.os, h.2.2.2.2.1.tape, h.2.2.2.2.1.output, h.2.2.2.2.1.size, h.2.2.2.2.1.block⟩, h.2.2.2.2.2⟩
theorem JInv.set_ {w wr : World} {g : Nat} {r c r2 c2 : Int} {s1 s2 t : ByteArray} (h : JInv w wr g r c r2 c2 s1 s2 t) (u : ByteArray) : JInv w (wr.setCell ⟨g, 2, none⟩ (.string u)) g r c r2 c2 s1 s2 u := by
  obtain ⟨h0, h1, h2, h3, h4, h5, h6⟩ := h
  exact ⟨(heap_setCell_other _ _ _ _ (by simp; omega)).trans h0, (heap_setCell_other _ _ _ _ (by simp; omega)).trans h1, (heap_setCell_other _ _ _ _ (by simp; omega)).trans h2, (heap_setCell_same _ _ _ _ _ _ h3).trans rfl, h4.setCell (by simp; omega) _, h5, by simpa using h6⟩

theorem boxes3 {w w1 : World} {o1 o2 o3 : Obj} (hb : Below (((w.alloc o1).alloc o2).alloc o3).heap.size (((w.alloc o1).alloc o2).alloc o3) w1) :
    w1.heap[w.heap.size]? = some o1 ∧ w1.heap[w.heap.size + 1]? = some o2 ∧ w1.heap[w.heap.size + 1 + 1]? = some o3 ∧ Below w.heap.size w w1 ∧ w.heap.size + 3 ≤ w1.heap.size := by
  have hs : (((w.alloc o1).alloc o2).alloc o3).heap.size = w.heap.size + 3 := by simp
  have h3 : (((w.alloc o1).alloc o2).alloc o3).heap[w.heap.size + 1 + 1]? = some o3 := by
    have := heap_alloc_new ((w.alloc o1).alloc o2) o3
    rwa [World.size_alloc, World.size_alloc] at this
  have h2 : (((w.alloc o1).alloc o2).alloc o3).heap[w.heap.size + 1]? = some o2 := by
    have := heap_alloc_new (w.alloc o1) o2
    rw [World.size_alloc] at this
    exact (Below.heap_alloc _ _ _ (by simp)).trans this
  have h1 : (((w.alloc o1).alloc o2).alloc o3).heap[w.heap.size]? = some o1 := (Below.heap_alloc _ _ _ (by simp; omega)).trans ((Below.heap_alloc _ _ _ (by simp)).trans (heap_alloc_new w o1))
  refine ⟨(hb.block _ (by omega)).trans h1, (hb.block _ (by omega)).trans h2, (hb.block _ (by omega)).trans h3, ?_, by have := hb.size; omega⟩
  exact ((((Below.refl w.heap.size w).alloc (Nat.le_refl _) _).alloc (by simp) _).alloc (by simp; omega) _).trans (hb.mono (by omega))

/-- joined entries -/
def joinE (op : ByteArray) (E F : Nat → Nat → Bool) : Nat → Nat → Bool := fun x y => opB op (E x y) (F x y)

end Go.Proofs.YtbbgibbpeibhiaaGreatDoor.Join

/-
  The program's JoinMatrices, and the reference's where it answers false.
-/
namespace Go.Proofs.YtbbgibbpeibhiaaGreatDoor.JoinI
open Go.RowKit Go.Proofs.YtbbgibbpeibhiaaGreatDoor.Plain Go.Proofs.YtbbgibbpeibhiaaGreatDoor.Base Go.Proofs.YtbbgibbpeibhiaaGreatDoor.Valid Go.Proofs.YtbbgibbpeibhiaaGreatDoor.Law Go.Proofs.YtbbgibbpeibhiaaGreatDoor.GridPlain Go.Proofs.YtbbgibbpeibhiaaGreatDoor.Grid Go.Proofs.YtbbgibbpeibhiaaGreatDoor.Entry Go.Proofs.YtbbgibbpeibhiaaGreatDoor.From Go.Proofs.YtbbgibbpeibhiaaGreatDoor.JoinB Go.Proofs.YtbbgibbpeibhiaaGreatDoor.Ops Go.Proofs.YtbbgibbpeibhiaaGreatDoor.Join Go.Proofs.YtbbgibbpeibhiaaGreatDoor.FreeL Go.Proofs.YtbbgibbpeibhiaaGreatDoor.FreeW
open Go.Proofs.YtbbgibbpeibhiaaGreatDoor.Free (fill wp_value wp_enter wp_load_row freeB)
set_option linter.unusedVariables false

theorem eval_get {a : Act} {d : Tmp} {v : Value} (h : a.tmps[d]?.getD undef = v) (_ : True) : a.eval (.tmp d) = v := by
  rw [← h]
  show a.tmps.getD d undef = _
  simp [Array.getD_eq_getD_getElem?]
theorem minfo : (Tryz.prog.info? 28).map (·.size) = some 3 := by kernel_rfl

set_option maxHeartbeats 2000000 in
set_option maxRecDepth 100000 in
theorem join_clos (op : ByteArray) (gg : Nat) (hgg : ∀ args W, (callFunc gg args).run Tryz.prog W = .ok (.enter gg args) W)
    (hcomb : ∀ (a b : Bool) (W : World), Calls Tryz.prog gg #[.int .i64 (bitI a), .int .i64 (bitI b)] W fun e W' => e = .returned (.int .i64 (bitI (opB op a b))) ∧ W = W')
    (r c : Nat) (E F : Nat → Nat → Bool) (hr8 : r ≤ 8) (hc8 : c ≤ 8) (k g h : Nat) (x y : Nat) (hx : x < r) (hy : y < c) (W : World) (hk : W.cell? ⟨k, 0, none⟩ = some (.func (.func gg) #[] #[])) (hkb : k < W.heap.size) (hh1 : Holds W g r c E) (hh2 : Holds W h r c F) :
    Calls Tryz.prog 60 #[.int .i64 (x : Int), .int .i64 (y : Int), .pointer (some ⟨k, 0, none⟩), .pointer (some ⟨g, 0, none⟩), .pointer (some ⟨h, 0, none⟩)] W
      fun e W' => e = .returned (.int .i64 (bitI (joinE op E F x y))) ∧ Below W.heap.size W W' := by
  have H1 : Hid (∀ W' : World, Below W.heap.size W W' → W'.heap[g]? = some (.cells (gcells r c (gpart E c (r * c))) 109 (0, 0))) := fun W' hb => hh1.below hb
  have H2 : Hid (∀ W' : World, Below W.heap.size W W' → W'.heap[h]? = some (.cells (gcells r c (gpart F c (r * c))) 109 (0, 0))) := fun W' hb => hh2.below hb
  have HK : Hid (∀ W' : World, Below W.heap.size W W' → W'.cell? ⟨k, 0, none⟩ = some (.func (.func gg) #[] #[])) := fun W' hb => (hb.cell (p := ⟨k, 0, none⟩) hkb).trans hk
  have HF1 := Lib.hid (fun W' => (entry_any r c (gpart E c (r * c)) x y (by omega) (by omega) W').mono fun e w' he => (⟨by rw [he.1, gpart_all E r c x y hx hy hc8], he.2⟩ : e = .returned (.int .i64 (bitI (E x y))) ∧ Below W'.heap.size W' w'))
  have HF2 := Lib.hid (fun W' => (entry_any r c (gpart F c (r * c)) x y (by omega) (by omega) W').mono fun e w' he => (⟨by rw [he.1, gpart_all F r c x y hx hy hc8], he.2⟩ : e = .returned (.int .i64 (bitI (F x y))) ∧ Below W'.heap.size W' w'))
  have HG := Lib.hid hgg
  have HC := Lib.hid (fun W' => (hcomb (E x y) (F x y) W').mono fun e w' he => (⟨he.1, by have := he.2; subst this; exact Below.refl _ _⟩ : e = .returned (.int .i64 (bitI (opB op (E x y) (F x y)))) ∧ Below W'.heap.size W' w'))
  clear hh1 hh2 hk hgg hcomb
  go_enter Tryz.func60, Tryz.ntmps60
  go_wp2_with fail
  refine wp_region_below (fun | 0 => .func (.func gg) #[] #[] | 1 => gval r c (gpart E c (r * c)) | 2 => .int .i64 (x : Int) | 3 => .int .i64 (y : Int) | 4 => .int .i64 (bitI (E x y)) | 5 => gval r c (gpart F c (r * c)) | 6 => .int .i64 (x : Int) | 7 => .int .i64 (y : Int) | 8 => .int .i64 (bitI (F x y)) | 9 => .int .i64 (bitI (opB op (E x y) (F x y))) | 10 => .int .i64 (bitI (opB op (E x y) (F x y))) | _ => undef) (by kernel_rfl) (by kernel_rfl) rfl ?con ?en
  case con =>
    intro i o ho a w2 hb2 hf
    match i, ho with
    | 0, ho =>
      obtain rfl := Option.some.inj ho
      have b2 : a.tmps[2]?.getD undef = .pointer (some ⟨k, 0, none⟩) := hf.2 2 (by kernel_rfl)
      have hc1 := HK.out w2 hb2
      exact wp_value (.func (.func gg) #[] #[]) (by unfold execOp; go_simp) ⟨rfl, Below.refl _ _⟩
    | 1, ho =>
      obtain rfl := Option.some.inj ho
      have b3 : a.tmps[3]?.getD undef = .pointer (some ⟨g, 0, none⟩) := hf.2 3 (by kernel_rfl)
      exact wp_load_row 109 (.tmp 3) rfl g (eval_get b3 trivial) 109 _ (0, 0) _ (H1.out w2 hb2) Tryz.underlying109 rfl (ginfo' _ _ _) ⟨rfl, Below.refl _ _⟩
    | 2, ho =>
      obtain rfl := Option.some.inj ho
      have b0 : a.tmps[0]?.getD undef = .int .i64 (x : Int) := hf.2 0 (by kernel_rfl)
      exact wp_value (.int .i64 (x : Int)) (by unfold execOp; go_simp) ⟨rfl, Below.refl _ _⟩
    | 3, ho =>
      obtain rfl := Option.some.inj ho
      have b1 : a.tmps[1]?.getD undef = .int .i64 (y : Int) := hf.2 1 (by kernel_rfl)
      exact wp_value (.int .i64 (y : Int)) (by unfold execOp; go_simp) ⟨rfl, Below.refl _ _⟩
    | 4, ho =>
      obtain rfl := Option.some.inj ho
      have e9 : a.tmps[9]?.getD undef = gval r c (gpart E c (r * c)) := hf.1 ⟨1, .data⟩ (by simp) rfl _ 9 rfl rfl
      have e10 : a.tmps[10]?.getD undef = .int .i64 (x : Int) := hf.1 ⟨2, .data⟩ (by simp) rfl _ 10 rfl rfl
      have e11 : a.tmps[11]?.getD undef = .int .i64 (y : Int) := hf.1 ⟨3, .data⟩ (by simp) rfl _ 11 rfl rfl
      exact wp_enter 61 #[gval r c (gpart E c (r * c)), .int .i64 (x : Int), .int .i64 (y : Int)] (.int .i64 (bitI (E x y))) _ (by unfold execOp; go_simp) (HF1.out w2) (fun w' h => ⟨rfl, h⟩)
    | 5, ho =>
      obtain rfl := Option.some.inj ho
      have b4 : a.tmps[4]?.getD undef = .pointer (some ⟨h, 0, none⟩) := hf.2 4 (by kernel_rfl)
      exact wp_load_row 109 (.tmp 4) rfl h (eval_get b4 trivial) 109 _ (0, 0) _ (H2.out w2 hb2) Tryz.underlying109 rfl (ginfo' _ _ _) ⟨rfl, Below.refl _ _⟩
    | 6, ho =>
      obtain rfl := Option.some.inj ho
      have b0 : a.tmps[0]?.getD undef = .int .i64 (x : Int) := hf.2 0 (by kernel_rfl)
      exact wp_value (.int .i64 (x : Int)) (by unfold execOp; go_simp) ⟨rfl, Below.refl _ _⟩
    | 7, ho =>
      obtain rfl := Option.some.inj ho
      have b1 : a.tmps[1]?.getD undef = .int .i64 (y : Int) := hf.2 1 (by kernel_rfl)
      exact wp_value (.int .i64 (y : Int)) (by unfold execOp; go_simp) ⟨rfl, Below.refl _ _⟩
    | 8, ho =>
      obtain rfl := Option.some.inj ho
      have e13 : a.tmps[13]?.getD undef = gval r c (gpart F c (r * c)) := hf.1 ⟨5, .data⟩ (by simp) rfl _ 13 rfl rfl
      have e14 : a.tmps[14]?.getD undef = .int .i64 (x : Int) := hf.1 ⟨6, .data⟩ (by simp) rfl _ 14 rfl rfl
      have e15 : a.tmps[15]?.getD undef = .int .i64 (y : Int) := hf.1 ⟨7, .data⟩ (by simp) rfl _ 15 rfl rfl
      exact wp_enter 61 #[gval r c (gpart F c (r * c)), .int .i64 (x : Int), .int .i64 (y : Int)] (.int .i64 (bitI (F x y))) _ (by unfold execOp; go_simp) (HF2.out w2) (fun w' h => ⟨rfl, h⟩)
    | 9, ho =>
      obtain rfl := Option.some.inj ho
      have e8 : a.tmps[8]?.getD undef = .func (.func gg) #[] #[] := hf.1 ⟨0, .data⟩ (by simp) rfl _ 8 rfl rfl
      have e12 : a.tmps[12]?.getD undef = .int .i64 (bitI (E x y)) := hf.1 ⟨4, .data⟩ (by simp) rfl _ 12 rfl rfl
      have e16 : a.tmps[16]?.getD undef = .int .i64 (bitI (F x y)) := hf.1 ⟨8, .data⟩ (by simp) rfl _ 16 rfl rfl
      have X := HG.out
      exact wp_enter gg #[.int .i64 (bitI (E x y)), .int .i64 (bitI (F x y))] (.int .i64 (bitI (opB op (E x y) (F x y)))) _ (by unfold execOp; go_simp) (HC.out w2) (fun w' h => ⟨rfl, h⟩)
    | 10, ho =>
      obtain rfl := Option.some.inj ho
      have e17 : a.tmps[17]?.getD undef = .int .i64 (bitI (opB op (E x y) (F x y))) := hf.1 ⟨9, .data⟩ (by simp) rfl _ 17 rfl rfl
      exact wp_value (.int .i64 (bitI (opB op (E x y) (F x y)))) (by unfold execOp; go_simp) ⟨rfl, Below.refl _ _⟩
    | q + 11, ho => simp at ho
  case en =>
    intro w2 hb2
    have HB2 := Lib.hid hb2
    clear hb2
    simp only [fill, Act.put]
    go_simp
    go_wp2_with fail
    go_ret
    exact ⟨rfl, HB2.out⟩
theorem join_enters (args : Array Value) (W : World) : (callFunc 60 args).run Tryz.prog W = .ok (.enter 60 args) W := by kernel_rfl

/-- both boxes, the result's block -/
structure BInv3 (w wr : World) (r c r2 c2 : Int) (s1 s2 : ByteArray) : Prop where
  m : wr.heap[w.heap.size]? = some (.cells #[.int .i64 r, .int .i64 c, .string s1] 28 (0, 0))
  n : wr.heap[w.heap.size + 1]? = some (.cells #[.int .i64 r2, .int .i64 c2, .string s2] 28 (0, 0))
  o : wr.heap[w.heap.size + 1 + 1]? = some (.cells #[.int .i64 0, .int .i64 0, .string ⟨#[]⟩] 28 (0, 0))
  below : Below w.heap.size w wr
  size : w.heap.size + 3 ≤ wr.heap.size
theorem BInv3.later {w wr w2 : World} {r c r2 c2 : Int} {s1 s2 : ByteArray} (h : BInv3 w wr r c r2 c2 s1 s2) (hb : Below wr.heap.size wr w2) : BInv3 w w2 r c r2 c2 s1 s2 :=
  ⟨(hb.block _ (Array.getElem?_eq_some_iff.1 h.m).1).trans h.m, (hb.block _ (Array.getElem?_eq_some_iff.1 h.n).1).trans h.n, (hb.block _ (Array.getElem?_eq_some_iff.1 h.o).1).trans h.o, bstep h.below hb, Nat.le_trans h.size hb.size⟩
theorem BInv3.start (w : World) (r c r2 c2 : Int) (s1 s2 : ByteArray) : BInv3 w (((w.alloc (.cells #[.int .i64 r, .int .i64 c, .string s1] 28)).alloc (.cells #[.int .i64 r2, .int .i64 c2, .string s2] 28)).alloc (.cells #[.int .i64 0, .int .i64 0, .string ⟨#[]⟩] 28)) r c r2 c2 s1 s2 := by
  obtain ⟨a, b, c, d, e⟩ := boxes3 (Below.refl _ (((w.alloc (.cells #[.int .i64 r, .int .i64 c, .string s1] 28)).alloc (.cells #[.int .i64 r2, .int .i64 c2, .string s2] 28)).alloc (.cells #[.int .i64 0, .int .i64 0, .string ⟨#[]⟩] 28)))
  exact ⟨a, b, c, d, e⟩

set_option maxHeartbeats 2000000 in
set_option maxRecDepth 100000 in
theorem impl_unknown (op : ByteArray) (hk : opKnown op = false) (r c r2 c2 R1 C1 R2 C2 : Int) (f1 f2 : Nat → Int) (s1 s2 : ByteArray) (hg1 : ∀ W : World, Calls Tryz.prog 58 #[mat r c s1] W fun e w' => e = .returned (gval R1 C1 f1) ∧ Below W.heap.size W w')
    (hg2 : ∀ W : World, Calls Tryz.prog 58 #[mat r2 c2 s2] W fun e w' => e = .returned (gval R2 C2 f2) ∧ Below W.heap.size W w') (w : World) :
    Calls Tryz.prog 46 #[.string op, mat r c s1, mat r2 c2 s2] w fun e w' => e = .returned (.tuple #[mat 0 0 (str []), .bool false]) ∧ Below w.heap.size w w' := by
  have HG1 := Lib.hid hg1
  have HG2 := Lib.hid hg2
  have HO := Lib.hid (fun W => oper_no op hk W)
  clear hg1 hg2 hk
  go_enter Tryz.func46, Tryz.ntmps46
  go_wp2_with fail
  have HI0 := Lib.hid (BInv3.start w r c r2 c2 s1 s2)
  generalize ((w.alloc (.cells #[.int .i64 r, .int .i64 c, .string s1] 28)).alloc (.cells #[.int .i64 r2, .int .i64 c2, .string s2] 28)).alloc (.cells #[.int .i64 0, .int .i64 0, .string ⟨#[]⟩] 28) = W0 at *
  refine wp_region_two (fun | 0 => mat r c s1 | 1 => gval R1 C1 f1 | 2 => mat r2 c2 s2 | 3 => gval R2 C2 f2 | _ => undef) _ 4 5 6 7 8 9 109 (gcells 0 0 (fun _ => 0)) (gcells R1 C1 f1) (gcells R2 C2 f2) _ _ _ _
    (by kernel_rfl) (by kernel_rfl) rfl rfl rfl rfl rfl rfl rfl rfl rfl rfl (by decide) (by decide) ⟨_, List.mem_toArray.2 List.mem_cons_self, rfl, rfl⟩ ⟨_, List.mem_toArray.2 List.mem_cons_self, rfl, rfl⟩ ?oth rfl rfl ?al1 ?al2 ?st1 ?st2 ?con ?en
  case oth =>
    intro i o ho hk
    match i, ho, hk with
    | 0, ho, _ => obtain rfl := Option.some.inj ho; exact ⟨by decide, by decide⟩
    | 1, ho, _ => obtain rfl := Option.some.inj ho; exact ⟨by decide, by decide⟩
    | 2, ho, _ => obtain rfl := Option.some.inj ho; exact ⟨by decide, by decide⟩
    | 3, ho, _ => obtain rfl := Option.some.inj ho; exact ⟨by decide, by decide⟩
    | 4, _, hk => exact absurd hk (by decide)
    | 5, _, hk => exact absurd hk (by decide)
    | 6, _, hk => exact absurd hk (by decide)
    | 7, _, hk => exact absurd hk (by decide)
    | q + 8, ho, _ => simp at ho
  case al1 =>
    intro a w
    unfold execOp
    go_simp
    rw [gzero]
  case al2 =>
    intro a w
    unfold execOp
    go_simp
    rw [gzero]
  case st1 =>
    intro a w1 b old hf hp hg ho
    have e13 : a.tmps[13]?.getD undef = gval R1 C1 f1 := hf.1 ⟨1, .data⟩ (by simp) rfl _ 13 rfl rfl rfl
    exact wp_store_row 109 (.tmp 8) (.tmp 13) rfl b (gcells R1 C1 f1) (eval_get (by rw [hp]; rfl) trivial) (eval_get e13 trivial) 109 old hg (ginfo' _ _ _) (by rcases ho with rfl | rfl <;> simp only [gsize]) (gone _ _ _) ⟨rfl, rfl⟩
  case st2 =>
    intro a w1 b old hf hp hg ho
    have e15 : a.tmps[15]?.getD undef = gval R2 C2 f2 := hf.1 ⟨3, .data⟩ (by simp) rfl _ 15 rfl rfl rfl
    exact wp_store_row 109 (.tmp 9) (.tmp 15) rfl b (gcells R2 C2 f2) (eval_get (by rw [hp]; rfl) trivial) (eval_get e15 trivial) 109 old hg (ginfo' _ _ _) (by rcases ho with rfl | rfl <;> simp only [gsize]) (gone _ _ _) ⟨rfl, rfl⟩
  case con =>
    intro i o ho hk a w2 hb2 hf
    match i, ho, hk with
    | 0, ho, _ =>
      obtain rfl := Option.some.inj ho
      have b4 : a.tmps[4]?.getD undef = .pointer (some ⟨w.heap.size, 0, none⟩) := hf.2 4 (by kernel_rfl)
      exact wp_load_row 28 (.tmp 4) rfl w.heap.size (eval_get b4 trivial) 28 _ (0, 0) _ ((HI0.out.later hb2).m) Tryz.underlying28 rfl minfo ⟨rfl, Below.refl _ _⟩
    | 1, ho, _ =>
      obtain rfl := Option.some.inj ho
      have e12 : a.tmps[12]?.getD undef = mat r c s1 := hf.1 ⟨0, .data⟩ (by simp) rfl _ 12 rfl rfl rfl
      exact wp_enter 58 #[mat r c s1] (gval R1 C1 f1) _ (by unfold execOp; go_simp) (HG1.out w2) (fun w' h => ⟨rfl, h⟩)
    | 2, ho, _ =>
      obtain rfl := Option.some.inj ho
      have b5 : a.tmps[5]?.getD undef = .pointer (some ⟨w.heap.size + 1, 0, none⟩) := hf.2 5 (by kernel_rfl)
      exact wp_load_row 28 (.tmp 5) rfl (w.heap.size + 1) (eval_get b5 trivial) 28 _ (0, 0) _ ((HI0.out.later hb2).n) Tryz.underlying28 rfl minfo ⟨rfl, Below.refl _ _⟩
    | 3, ho, _ =>
      obtain rfl := Option.some.inj ho
      have e14 : a.tmps[14]?.getD undef = mat r2 c2 s2 := hf.1 ⟨2, .data⟩ (by simp) rfl _ 14 rfl rfl rfl
      exact wp_enter 58 #[mat r2 c2 s2] (gval R2 C2 f2) _ (by unfold execOp; go_simp) (HG2.out w2) (fun w' h => ⟨rfl, h⟩)
    | 4, _, hk => exact absurd hk (by decide)
    | 5, _, hk => exact absurd hk (by decide)
    | 6, _, hk => exact absurd hk (by decide)
    | 7, _, hk => exact absurd hk (by decide)
    | q + 8, ho, _ => simp at ho
  case en =>
    intro g h w1 hb1 hg0 hh0 hg hh
    have hz0 := HI0.out.size
    have HI := Lib.hid (HI0.out.later hb1)
    have HGB := Lib.hid hg
    have HHB := Lib.hid hh
    have hgl := (Array.getElem?_eq_some_iff.1 hg).1
    have hhl := (Array.getElem?_eq_some_iff.1 hh).1
    clear hb1 hg hh HI0 HG1 HG2
    simp only [fill, Act.put]
    go_simp
    go_wp2_with fail
    refine (HO.out _).mono ?_
    rintro e w' ⟨rfl, rfl⟩
    have HX : Hid (∀ X, BInv3 w (w1.alloc X) r c r2 c2 s1 s2) := fun X => HI.out.later ((Below.refl w1.heap.size w1).alloc (Nat.le_refl _) X)
    have d0 : ∀ X, (w1.alloc X).cell? ⟨w.heap.size + 1 + 1, 0, none⟩ = some (.int .i64 0) := fun X => (cells3 (HX.out X).o).1
    have d1 : ∀ X, (w1.alloc X).cell? ⟨w.heap.size + 1 + 1, 1, none⟩ = some (.int .i64 0) := fun X => (cells3 (HX.out X).o).2.1
    have d2 : ∀ X, (w1.alloc X).cell? ⟨w.heap.size + 1 + 1, 2, none⟩ = some (.string ⟨#[]⟩) := fun X => (cells3 (HX.out X).o).2.2
    have x0 : ∀ X, (w1.alloc X).frozen? ⟨w.heap.size + 1 + 1, 0, none⟩ = false := fun X => (free3 (HX.out X).o).1
    have x1 : ∀ X, (w1.alloc X).frozen? ⟨w.heap.size + 1 + 1, 1, none⟩ = false := fun X => (free3 (HX.out X).o).2.1
    have x2 : ∀ X, (w1.alloc X).frozen? ⟨w.heap.size + 1 + 1, 2, none⟩ = false := fun X => (free3 (HX.out X).o).2.2
    have hz := HI.out.size
    clear HI HGB HHB
    go_wp2_with fail
    refine bodyPost_ret (v := .tuple #[mat 0 0 (str []), .bool false]) (by simp [results, Tryz.results46, go_sem, d0, d1, d2]; rfl) rfl ⟨rfl, ?_⟩
    exact (((HX.out _).below.setCell (by simp; omega) _).setCell (by simp; omega) _).setCell (by simp; omega) _

set_option maxHeartbeats 2000000 in
set_option maxRecDepth 100000 in
theorem impl_differ1 (op : ByteArray) (hk : opKnown op = true) (r c r2 c2 R1 C1 R2 C2 : Int) (f1 f2 : Nat → Int) (s1 s2 : ByteArray) (hne : R1 ≠ R2) (hg1 : ∀ W : World, Calls Tryz.prog 58 #[mat r c s1] W fun e w' => e = .returned (gval R1 C1 f1) ∧ Below W.heap.size W w')
    (hg2 : ∀ W : World, Calls Tryz.prog 58 #[mat r2 c2 s2] W fun e w' => e = .returned (gval R2 C2 f2) ∧ Below W.heap.size W w') (w : World) :
    Calls Tryz.prog 46 #[.string op, mat r c s1, mat r2 c2 s2] w fun e w' => e = .returned (.tuple #[mat 0 0 (str []), .bool false]) ∧ Below w.heap.size w w' := by
  obtain ⟨gg, ho, hgg, hcomb⟩ := oper_yes op hk
  have HG1 := Lib.hid hg1
  have HG2 := Lib.hid hg2
  have HO := Lib.hid ho
  clear hg1 hg2 hk ho hgg hcomb
  go_enter Tryz.func46, Tryz.ntmps46
  go_wp2_with fail
  have HI0 := Lib.hid (BInv3.start w r c r2 c2 s1 s2)
  generalize ((w.alloc (.cells #[.int .i64 r, .int .i64 c, .string s1] 28)).alloc (.cells #[.int .i64 r2, .int .i64 c2, .string s2] 28)).alloc (.cells #[.int .i64 0, .int .i64 0, .string ⟨#[]⟩] 28) = W0 at *
  refine wp_region_two (fun | 0 => mat r c s1 | 1 => gval R1 C1 f1 | 2 => mat r2 c2 s2 | 3 => gval R2 C2 f2 | _ => undef) _ 4 5 6 7 8 9 109 (gcells 0 0 (fun _ => 0)) (gcells R1 C1 f1) (gcells R2 C2 f2) _ _ _ _
    (by kernel_rfl) (by kernel_rfl) rfl rfl rfl rfl rfl rfl rfl rfl rfl rfl (by decide) (by decide) ⟨_, List.mem_toArray.2 List.mem_cons_self, rfl, rfl⟩ ⟨_, List.mem_toArray.2 List.mem_cons_self, rfl, rfl⟩ ?oth rfl rfl ?al1 ?al2 ?st1 ?st2 ?con ?en
  case oth =>
    intro i o ho hk
    match i, ho, hk with
    | 0, ho, _ => obtain rfl := Option.some.inj ho; exact ⟨by decide, by decide⟩
    | 1, ho, _ => obtain rfl := Option.some.inj ho; exact ⟨by decide, by decide⟩
    | 2, ho, _ => obtain rfl := Option.some.inj ho; exact ⟨by decide, by decide⟩
    | 3, ho, _ => obtain rfl := Option.some.inj ho; exact ⟨by decide, by decide⟩
    | 4, _, hk => exact absurd hk (by decide)
    | 5, _, hk => exact absurd hk (by decide)
    | 6, _, hk => exact absurd hk (by decide)
    | 7, _, hk => exact absurd hk (by decide)
    | q + 8, ho, _ => simp at ho
  case al1 =>
    intro a w
    unfold execOp
    go_simp
    rw [gzero]
  case al2 =>
    intro a w
    unfold execOp
    go_simp
    rw [gzero]
  case st1 =>
    intro a w1 b old hf hp hg ho
    have e13 : a.tmps[13]?.getD undef = gval R1 C1 f1 := hf.1 ⟨1, .data⟩ (by simp) rfl _ 13 rfl rfl rfl
    exact wp_store_row 109 (.tmp 8) (.tmp 13) rfl b (gcells R1 C1 f1) (eval_get (by rw [hp]; rfl) trivial) (eval_get e13 trivial) 109 old hg (ginfo' _ _ _) (by rcases ho with rfl | rfl <;> simp only [gsize]) (gone _ _ _) ⟨rfl, rfl⟩
  case st2 =>
    intro a w1 b old hf hp hg ho
    have e15 : a.tmps[15]?.getD undef = gval R2 C2 f2 := hf.1 ⟨3, .data⟩ (by simp) rfl _ 15 rfl rfl rfl
    exact wp_store_row 109 (.tmp 9) (.tmp 15) rfl b (gcells R2 C2 f2) (eval_get (by rw [hp]; rfl) trivial) (eval_get e15 trivial) 109 old hg (ginfo' _ _ _) (by rcases ho with rfl | rfl <;> simp only [gsize]) (gone _ _ _) ⟨rfl, rfl⟩
  case con =>
    intro i o ho hk a w2 hb2 hf
    match i, ho, hk with
    | 0, ho, _ =>
      obtain rfl := Option.some.inj ho
      have b4 : a.tmps[4]?.getD undef = .pointer (some ⟨w.heap.size, 0, none⟩) := hf.2 4 (by kernel_rfl)
      exact wp_load_row 28 (.tmp 4) rfl w.heap.size (eval_get b4 trivial) 28 _ (0, 0) _ ((HI0.out.later hb2).m) Tryz.underlying28 rfl minfo ⟨rfl, Below.refl _ _⟩
    | 1, ho, _ =>
      obtain rfl := Option.some.inj ho
      have e12 : a.tmps[12]?.getD undef = mat r c s1 := hf.1 ⟨0, .data⟩ (by simp) rfl _ 12 rfl rfl rfl
      exact wp_enter 58 #[mat r c s1] (gval R1 C1 f1) _ (by unfold execOp; go_simp) (HG1.out w2) (fun w' h => ⟨rfl, h⟩)
    | 2, ho, _ =>
      obtain rfl := Option.some.inj ho
      have b5 : a.tmps[5]?.getD undef = .pointer (some ⟨w.heap.size + 1, 0, none⟩) := hf.2 5 (by kernel_rfl)
      exact wp_load_row 28 (.tmp 5) rfl (w.heap.size + 1) (eval_get b5 trivial) 28 _ (0, 0) _ ((HI0.out.later hb2).n) Tryz.underlying28 rfl minfo ⟨rfl, Below.refl _ _⟩
    | 3, ho, _ =>
      obtain rfl := Option.some.inj ho
      have e14 : a.tmps[14]?.getD undef = mat r2 c2 s2 := hf.1 ⟨2, .data⟩ (by simp) rfl _ 14 rfl rfl rfl
      exact wp_enter 58 #[mat r2 c2 s2] (gval R2 C2 f2) _ (by unfold execOp; go_simp) (HG2.out w2) (fun w' h => ⟨rfl, h⟩)
    | 4, _, hk => exact absurd hk (by decide)
    | 5, _, hk => exact absurd hk (by decide)
    | 6, _, hk => exact absurd hk (by decide)
    | 7, _, hk => exact absurd hk (by decide)
    | q + 8, ho, _ => simp at ho
  case en =>
    intro g h w1 hb1 hg0 hh0 hg hh
    have hz0 := HI0.out.size
    have HI := Lib.hid (HI0.out.later hb1)
    have HGB := Lib.hid hg
    have HHB := Lib.hid hh
    have hgl := (Array.getElem?_eq_some_iff.1 hg).1
    have hhl := (Array.getElem?_eq_some_iff.1 hh).1
    clear hb1 hg hh HI0 HG1 HG2
    simp only [fill, Act.put]
    go_simp
    go_wp2_with fail
    refine (HO.out _).mono ?_
    rintro e w' ⟨rfl, rfl⟩
    have HX : Hid (∀ X, BInv3 w (w1.alloc X) r c r2 c2 s1 s2) := fun X => HI.out.later ((Below.refl w1.heap.size w1).alloc (Nat.le_refl _) X)
    have d0 : ∀ X, (w1.alloc X).cell? ⟨w.heap.size + 1 + 1, 0, none⟩ = some (.int .i64 0) := fun X => (cells3 (HX.out X).o).1
    have d1 : ∀ X, (w1.alloc X).cell? ⟨w.heap.size + 1 + 1, 1, none⟩ = some (.int .i64 0) := fun X => (cells3 (HX.out X).o).2.1
    have d2 : ∀ X, (w1.alloc X).cell? ⟨w.heap.size + 1 + 1, 2, none⟩ = some (.string ⟨#[]⟩) := fun X => (cells3 (HX.out X).o).2.2
    have x0 : ∀ X, (w1.alloc X).frozen? ⟨w.heap.size + 1 + 1, 0, none⟩ = false := fun X => (free3 (HX.out X).o).1
    have x1 : ∀ X, (w1.alloc X).frozen? ⟨w.heap.size + 1 + 1, 1, none⟩ = false := fun X => (free3 (HX.out X).o).2.1
    have x2 : ∀ X, (w1.alloc X).frozen? ⟨w.heap.size + 1 + 1, 2, none⟩ = false := fun X => (free3 (HX.out X).o).2.2
    have hz := HI.out.size
    have u0 : ∀ X, (w1.alloc X).cell? ⟨g, 0, none⟩ = some (.int .i64 R1) := fun X => cell_of_row _ _ 0 _ _ _ ((Below.heap_alloc _ _ _ hgl).trans HGB.out)
    have u1 : ∀ X, (w1.alloc X).cell? ⟨g, 1, none⟩ = some (.int .i64 C1) := fun X => cell_of_row _ _ 1 _ _ _ ((Below.heap_alloc _ _ _ hgl).trans HGB.out)
    have v0 : ∀ X, (w1.alloc X).cell? ⟨h, 0, none⟩ = some (.int .i64 R2) := fun X => cell_of_row _ _ 0 _ _ _ ((Below.heap_alloc _ _ _ hhl).trans HHB.out)
    have v1 : ∀ X, (w1.alloc X).cell? ⟨h, 1, none⟩ = some (.int .i64 C2) := fun X => cell_of_row _ _ 1 _ _ _ ((Below.heap_alloc _ _ _ hhl).trans HHB.out)
    clear HI HGB HHB
    go_wp2_with fail
    refine bodyPost_ret (v := .tuple #[mat 0 0 (str []), .bool false]) (by simp [results, Tryz.results46, go_sem, d0, d1, d2]; rfl) rfl ⟨rfl, ?_⟩
    exact (((HX.out _).below.setCell (by simp; omega) _).setCell (by simp; omega) _).setCell (by simp; omega) _

set_option maxHeartbeats 2000000 in
set_option maxRecDepth 100000 in
theorem impl_differ2 (op : ByteArray) (hk : opKnown op = true) (r c r2 c2 R1 C1 R2 C2 : Int) (f1 f2 : Nat → Int) (s1 s2 : ByteArray) (heq : R1 = R2) (hne : C1 ≠ C2) (hg1 : ∀ W : World, Calls Tryz.prog 58 #[mat r c s1] W fun e w' => e = .returned (gval R1 C1 f1) ∧ Below W.heap.size W w')
    (hg2 : ∀ W : World, Calls Tryz.prog 58 #[mat r2 c2 s2] W fun e w' => e = .returned (gval R1 C2 f2) ∧ Below W.heap.size W w') (w : World) :
    Calls Tryz.prog 46 #[.string op, mat r c s1, mat r2 c2 s2] w fun e w' => e = .returned (.tuple #[mat 0 0 (str []), .bool false]) ∧ Below w.heap.size w w' := by
  subst heq
  obtain ⟨gg, ho, hgg, hcomb⟩ := oper_yes op hk
  have HG1 := Lib.hid hg1
  have HG2 := Lib.hid hg2
  have HO := Lib.hid ho
  clear hg1 hg2 hk ho hgg hcomb
  go_enter Tryz.func46, Tryz.ntmps46
  go_wp2_with fail
  have HI0 := Lib.hid (BInv3.start w r c r2 c2 s1 s2)
  generalize ((w.alloc (.cells #[.int .i64 r, .int .i64 c, .string s1] 28)).alloc (.cells #[.int .i64 r2, .int .i64 c2, .string s2] 28)).alloc (.cells #[.int .i64 0, .int .i64 0, .string ⟨#[]⟩] 28) = W0 at *
  refine wp_region_two (fun | 0 => mat r c s1 | 1 => gval R1 C1 f1 | 2 => mat r2 c2 s2 | 3 => gval R1 C2 f2 | _ => undef) _ 4 5 6 7 8 9 109 (gcells 0 0 (fun _ => 0)) (gcells R1 C1 f1) (gcells R1 C2 f2) _ _ _ _
    (by kernel_rfl) (by kernel_rfl) rfl rfl rfl rfl rfl rfl rfl rfl rfl rfl (by decide) (by decide) ⟨_, List.mem_toArray.2 List.mem_cons_self, rfl, rfl⟩ ⟨_, List.mem_toArray.2 List.mem_cons_self, rfl, rfl⟩ ?oth rfl rfl ?al1 ?al2 ?st1 ?st2 ?con ?en
  case oth =>
    intro i o ho hk
    match i, ho, hk with
    | 0, ho, _ => obtain rfl := Option.some.inj ho; exact ⟨by decide, by decide⟩
    | 1, ho, _ => obtain rfl := Option.some.inj ho; exact ⟨by decide, by decide⟩
    | 2, ho, _ => obtain rfl := Option.some.inj ho; exact ⟨by decide, by decide⟩
    | 3, ho, _ => obtain rfl := Option.some.inj ho; exact ⟨by decide, by decide⟩
    | 4, _, hk => exact absurd hk (by decide)
    | 5, _, hk => exact absurd hk (by decide)
    | 6, _, hk => exact absurd hk (by decide)
    | 7, _, hk => exact absurd hk (by decide)
    | q + 8, ho, _ => simp at ho
  case al1 =>
    intro a w
    unfold execOp
    go_simp
    rw [gzero]
  case al2 =>
    intro a w
    unfold execOp
    go_simp
    rw [gzero]
  case st1 =>
    intro a w1 b old hf hp hg ho
    have e13 : a.tmps[13]?.getD undef = gval R1 C1 f1 := hf.1 ⟨1, .data⟩ (by simp) rfl _ 13 rfl rfl rfl
    exact wp_store_row 109 (.tmp 8) (.tmp 13) rfl b (gcells R1 C1 f1) (eval_get (by rw [hp]; rfl) trivial) (eval_get e13 trivial) 109 old hg (ginfo' _ _ _) (by rcases ho with rfl | rfl <;> simp only [gsize]) (gone _ _ _) ⟨rfl, rfl⟩
  case st2 =>
    intro a w1 b old hf hp hg ho
    have e15 : a.tmps[15]?.getD undef = gval R1 C2 f2 := hf.1 ⟨3, .data⟩ (by simp) rfl _ 15 rfl rfl rfl
    exact wp_store_row 109 (.tmp 9) (.tmp 15) rfl b (gcells R1 C2 f2) (eval_get (by rw [hp]; rfl) trivial) (eval_get e15 trivial) 109 old hg (ginfo' _ _ _) (by rcases ho with rfl | rfl <;> simp only [gsize]) (gone _ _ _) ⟨rfl, rfl⟩
  case con =>
    intro i o ho hk a w2 hb2 hf
    match i, ho, hk with
    | 0, ho, _ =>
      obtain rfl := Option.some.inj ho
      have b4 : a.tmps[4]?.getD undef = .pointer (some ⟨w.heap.size, 0, none⟩) := hf.2 4 (by kernel_rfl)
      exact wp_load_row 28 (.tmp 4) rfl w.heap.size (eval_get b4 trivial) 28 _ (0, 0) _ ((HI0.out.later hb2).m) Tryz.underlying28 rfl minfo ⟨rfl, Below.refl _ _⟩
    | 1, ho, _ =>
      obtain rfl := Option.some.inj ho
      have e12 : a.tmps[12]?.getD undef = mat r c s1 := hf.1 ⟨0, .data⟩ (by simp) rfl _ 12 rfl rfl rfl
      exact wp_enter 58 #[mat r c s1] (gval R1 C1 f1) _ (by unfold execOp; go_simp) (HG1.out w2) (fun w' h => ⟨rfl, h⟩)
    | 2, ho, _ =>
      obtain rfl := Option.some.inj ho
      have b5 : a.tmps[5]?.getD undef = .pointer (some ⟨w.heap.size + 1, 0, none⟩) := hf.2 5 (by kernel_rfl)
      exact wp_load_row 28 (.tmp 5) rfl (w.heap.size + 1) (eval_get b5 trivial) 28 _ (0, 0) _ ((HI0.out.later hb2).n) Tryz.underlying28 rfl minfo ⟨rfl, Below.refl _ _⟩
    | 3, ho, _ =>
      obtain rfl := Option.some.inj ho
      have e14 : a.tmps[14]?.getD undef = mat r2 c2 s2 := hf.1 ⟨2, .data⟩ (by simp) rfl _ 14 rfl rfl rfl
      exact wp_enter 58 #[mat r2 c2 s2] (gval R1 C2 f2) _ (by unfold execOp; go_simp) (HG2.out w2) (fun w' h => ⟨rfl, h⟩)
    | 4, _, hk => exact absurd hk (by decide)
    | 5, _, hk => exact absurd hk (by decide)
    | 6, _, hk => exact absurd hk (by decide)
    | 7, _, hk => exact absurd hk (by decide)
    | q + 8, ho, _ => simp at ho
  case en =>
    intro g h w1 hb1 hg0 hh0 hg hh
    have hz0 := HI0.out.size
    have HI := Lib.hid (HI0.out.later hb1)
    have HGB := Lib.hid hg
    have HHB := Lib.hid hh
    have hgl := (Array.getElem?_eq_some_iff.1 hg).1
    have hhl := (Array.getElem?_eq_some_iff.1 hh).1
    clear hb1 hg hh HI0 HG1 HG2
    simp only [fill, Act.put]
    go_simp
    go_wp2_with fail
    refine (HO.out _).mono ?_
    rintro e w' ⟨rfl, rfl⟩
    have HX : Hid (∀ X, BInv3 w (w1.alloc X) r c r2 c2 s1 s2) := fun X => HI.out.later ((Below.refl w1.heap.size w1).alloc (Nat.le_refl _) X)
    have d0 : ∀ X, (w1.alloc X).cell? ⟨w.heap.size + 1 + 1, 0, none⟩ = some (.int .i64 0) := fun X => (cells3 (HX.out X).o).1
    have d1 : ∀ X, (w1.alloc X).cell? ⟨w.heap.size + 1 + 1, 1, none⟩ = some (.int .i64 0) := fun X => (cells3 (HX.out X).o).2.1
    have d2 : ∀ X, (w1.alloc X).cell? ⟨w.heap.size + 1 + 1, 2, none⟩ = some (.string ⟨#[]⟩) := fun X => (cells3 (HX.out X).o).2.2
    have x0 : ∀ X, (w1.alloc X).frozen? ⟨w.heap.size + 1 + 1, 0, none⟩ = false := fun X => (free3 (HX.out X).o).1
    have x1 : ∀ X, (w1.alloc X).frozen? ⟨w.heap.size + 1 + 1, 1, none⟩ = false := fun X => (free3 (HX.out X).o).2.1
    have x2 : ∀ X, (w1.alloc X).frozen? ⟨w.heap.size + 1 + 1, 2, none⟩ = false := fun X => (free3 (HX.out X).o).2.2
    have hz := HI.out.size
    have u0 : ∀ X, (w1.alloc X).cell? ⟨g, 0, none⟩ = some (.int .i64 R1) := fun X => cell_of_row _ _ 0 _ _ _ ((Below.heap_alloc _ _ _ hgl).trans HGB.out)
    have u1 : ∀ X, (w1.alloc X).cell? ⟨g, 1, none⟩ = some (.int .i64 C1) := fun X => cell_of_row _ _ 1 _ _ _ ((Below.heap_alloc _ _ _ hgl).trans HGB.out)
    have v0 : ∀ X, (w1.alloc X).cell? ⟨h, 0, none⟩ = some (.int .i64 R1) := fun X => cell_of_row _ _ 0 _ _ _ ((Below.heap_alloc _ _ _ hhl).trans HHB.out)
    have v1 : ∀ X, (w1.alloc X).cell? ⟨h, 1, none⟩ = some (.int .i64 C2) := fun X => cell_of_row _ _ 1 _ _ _ ((Below.heap_alloc _ _ _ hhl).trans HHB.out)
    clear HI HGB HHB
    go_wp2_with fail
    refine bodyPost_ret (v := .tuple #[mat 0 0 (str []), .bool false]) (by simp [results, Tryz.results46, go_sem, d0, d1, d2]; rfl) rfl ⟨rfl, ?_⟩
    exact (((HX.out _).below.setCell (by simp; omega) _).setCell (by simp; omega) _).setCell (by simp; omega) _

set_option maxHeartbeats 2000000 in
set_option maxRecDepth 100000 in
theorem impl_zero (op : ByteArray) (hk : opKnown op = true) (r c r2 c2 : Int) (f1 f2 : Nat → Int) (s1 s2 : ByteArray) (hg1 : ∀ W : World, Calls Tryz.prog 58 #[mat r c s1] W fun e w' => e = .returned (gval 0 0 f1) ∧ Below W.heap.size W w')
    (hg2 : ∀ W : World, Calls Tryz.prog 58 #[mat r2 c2 s2] W fun e w' => e = .returned (gval 0 0 f2) ∧ Below W.heap.size W w') (w : World) :
    Calls Tryz.prog 46 #[.string op, mat r c s1, mat r2 c2 s2] w fun e w' => e = .returned (.tuple #[mat 0 0 (str []), .bool false]) ∧ Below w.heap.size w w' := by
  obtain ⟨gg, ho, hgg, hcomb⟩ := oper_yes op hk
  have HG1 := Lib.hid hg1
  have HG2 := Lib.hid hg2
  have HO := Lib.hid ho
  clear hg1 hg2 hk ho hgg hcomb
  go_enter Tryz.func46, Tryz.ntmps46
  go_wp2_with fail
  have HI0 := Lib.hid (BInv3.start w r c r2 c2 s1 s2)
  generalize ((w.alloc (.cells #[.int .i64 r, .int .i64 c, .string s1] 28)).alloc (.cells #[.int .i64 r2, .int .i64 c2, .string s2] 28)).alloc (.cells #[.int .i64 0, .int .i64 0, .string ⟨#[]⟩] 28) = W0 at *
  refine wp_region_two (fun | 0 => mat r c s1 | 1 => gval 0 0 f1 | 2 => mat r2 c2 s2 | 3 => gval 0 0 f2 | _ => undef) _ 4 5 6 7 8 9 109 (gcells 0 0 (fun _ => 0)) (gcells 0 0 f1) (gcells 0 0 f2) _ _ _ _
    (by kernel_rfl) (by kernel_rfl) rfl rfl rfl rfl rfl rfl rfl rfl rfl rfl (by decide) (by decide) ⟨_, List.mem_toArray.2 List.mem_cons_self, rfl, rfl⟩ ⟨_, List.mem_toArray.2 List.mem_cons_self, rfl, rfl⟩ ?oth rfl rfl ?al1 ?al2 ?st1 ?st2 ?con ?en
  case oth =>
    intro i o ho hk
    match i, ho, hk with
    | 0, ho, _ => obtain rfl := Option.some.inj ho; exact ⟨by decide, by decide⟩
    | 1, ho, _ => obtain rfl := Option.some.inj ho; exact ⟨by decide, by decide⟩
    | 2, ho, _ => obtain rfl := Option.some.inj ho; exact ⟨by decide, by decide⟩
    | 3, ho, _ => obtain rfl := Option.some.inj ho; exact ⟨by decide, by decide⟩
    | 4, _, hk => exact absurd hk (by decide)
    | 5, _, hk => exact absurd hk (by decide)
    | 6, _, hk => exact absurd hk (by decide)
    | 7, _, hk => exact absurd hk (by decide)
    | q + 8, ho, _ => simp at ho
  case al1 =>
    intro a w
    unfold execOp
    go_simp
    rw [gzero]
  case al2 =>
    intro a w
    unfold execOp
    go_simp
    rw [gzero]
  case st1 =>
    intro a w1 b old hf hp hg ho
    have e13 : a.tmps[13]?.getD undef = gval 0 0 f1 := hf.1 ⟨1, .data⟩ (by simp) rfl _ 13 rfl rfl rfl
    exact wp_store_row 109 (.tmp 8) (.tmp 13) rfl b (gcells 0 0 f1) (eval_get (by rw [hp]; rfl) trivial) (eval_get e13 trivial) 109 old hg (ginfo' _ _ _) (by rcases ho with rfl | rfl <;> simp only [gsize]) (gone _ _ _) ⟨rfl, rfl⟩
  case st2 =>
    intro a w1 b old hf hp hg ho
    have e15 : a.tmps[15]?.getD undef = gval 0 0 f2 := hf.1 ⟨3, .data⟩ (by simp) rfl _ 15 rfl rfl rfl
    exact wp_store_row 109 (.tmp 9) (.tmp 15) rfl b (gcells 0 0 f2) (eval_get (by rw [hp]; rfl) trivial) (eval_get e15 trivial) 109 old hg (ginfo' _ _ _) (by rcases ho with rfl | rfl <;> simp only [gsize]) (gone _ _ _) ⟨rfl, rfl⟩
  case con =>
    intro i o ho hk a w2 hb2 hf
    match i, ho, hk with
    | 0, ho, _ =>
      obtain rfl := Option.some.inj ho
      have b4 : a.tmps[4]?.getD undef = .pointer (some ⟨w.heap.size, 0, none⟩) := hf.2 4 (by kernel_rfl)
      exact wp_load_row 28 (.tmp 4) rfl w.heap.size (eval_get b4 trivial) 28 _ (0, 0) _ ((HI0.out.later hb2).m) Tryz.underlying28 rfl minfo ⟨rfl, Below.refl _ _⟩
    | 1, ho, _ =>
      obtain rfl := Option.some.inj ho
      have e12 : a.tmps[12]?.getD undef = mat r c s1 := hf.1 ⟨0, .data⟩ (by simp) rfl _ 12 rfl rfl rfl
      exact wp_enter 58 #[mat r c s1] (gval 0 0 f1) _ (by unfold execOp; go_simp) (HG1.out w2) (fun w' h => ⟨rfl, h⟩)
    | 2, ho, _ =>
      obtain rfl := Option.some.inj ho
      have b5 : a.tmps[5]?.getD undef = .pointer (some ⟨w.heap.size + 1, 0, none⟩) := hf.2 5 (by kernel_rfl)
      exact wp_load_row 28 (.tmp 5) rfl (w.heap.size + 1) (eval_get b5 trivial) 28 _ (0, 0) _ ((HI0.out.later hb2).n) Tryz.underlying28 rfl minfo ⟨rfl, Below.refl _ _⟩
    | 3, ho, _ =>
      obtain rfl := Option.some.inj ho
      have e14 : a.tmps[14]?.getD undef = mat r2 c2 s2 := hf.1 ⟨2, .data⟩ (by simp) rfl _ 14 rfl rfl rfl
      exact wp_enter 58 #[mat r2 c2 s2] (gval 0 0 f2) _ (by unfold execOp; go_simp) (HG2.out w2) (fun w' h => ⟨rfl, h⟩)
    | 4, _, hk => exact absurd hk (by decide)
    | 5, _, hk => exact absurd hk (by decide)
    | 6, _, hk => exact absurd hk (by decide)
    | 7, _, hk => exact absurd hk (by decide)
    | q + 8, ho, _ => simp at ho
  case en =>
    intro g h w1 hb1 hg0 hh0 hg hh
    have hz0 := HI0.out.size
    have HI := Lib.hid (HI0.out.later hb1)
    have HGB := Lib.hid hg
    have HHB := Lib.hid hh
    have hgl := (Array.getElem?_eq_some_iff.1 hg).1
    have hhl := (Array.getElem?_eq_some_iff.1 hh).1
    clear hb1 hg hh HI0 HG1 HG2
    simp only [fill, Act.put]
    go_simp
    go_wp2_with fail
    refine (HO.out _).mono ?_
    rintro e w' ⟨rfl, rfl⟩
    have HX : Hid (∀ X, BInv3 w (w1.alloc X) r c r2 c2 s1 s2) := fun X => HI.out.later ((Below.refl w1.heap.size w1).alloc (Nat.le_refl _) X)
    have hz := HI.out.size
    have u0 : ∀ X, (w1.alloc X).cell? ⟨g, 0, none⟩ = some (.int .i64 0) := fun X => cell_of_row _ _ 0 _ _ _ ((Below.heap_alloc _ _ _ hgl).trans HGB.out)
    have u1 : ∀ X, (w1.alloc X).cell? ⟨g, 1, none⟩ = some (.int .i64 0) := fun X => cell_of_row _ _ 1 _ _ _ ((Below.heap_alloc _ _ _ hgl).trans HGB.out)
    have v0 : ∀ X, (w1.alloc X).cell? ⟨h, 0, none⟩ = some (.int .i64 0) := fun X => cell_of_row _ _ 0 _ _ _ ((Below.heap_alloc _ _ _ hhl).trans HHB.out)
    have v1 : ∀ X, (w1.alloc X).cell? ⟨h, 1, none⟩ = some (.int .i64 0) := fun X => cell_of_row _ _ 1 _ _ _ ((Below.heap_alloc _ _ _ hhl).trans HHB.out)
    clear HI HGB HHB
    go_wp2_with fail
    refine (from_no _ _ _ (.inl (.inl (by omega))) _).mono ?_
    rintro e w3 ⟨rfl, hb3⟩
    have hi3 := (HX.out _).later hb3
    obtain ⟨d0, d1, d2⟩ := cells3 hi3.o
    obtain ⟨x0, x1, x2⟩ := free3 hi3.o
    have hz3 := hi3.size
    have HB3 := Lib.hid hi3.below
    clear hb3 hi3 HX
    go_wp2_with fail
    refine bodyPost_ret (v := .tuple #[mat 0 0 (str []), .bool false]) (by simp [results, Tryz.results46, go_sem, d0, d1, d2]) rfl ⟨rfl, ?_⟩
    exact ((HB3.out.setCell (by simp; omega) _).setCell (by simp; omega) _).setCell (by simp; omega) _

set_option maxHeartbeats 2000000 in
set_option maxRecDepth 100000 in
theorem impl_yes (op : ByteArray) (hk : opKnown op = true) (r c : Nat) (hr : 1 ≤ r) (hr8 : r ≤ 8) (hc : 1 ≤ c) (hc8 : c ≤ 8) (E F : Nat → Nat → Bool) (s1 s2 : ByteArray) (hg1 : ∀ W : World, Calls Tryz.prog 58 #[mat r c s1] W fun e w' => e = .returned (gval r c (gpart E c (r * c))) ∧ Below W.heap.size W w')
    (hg2 : ∀ W : World, Calls Tryz.prog 58 #[mat r c s2] W fun e w' => e = .returned (gval r c (gpart F c (r * c))) ∧ Below W.heap.size W w') (w : World) :
    Calls Tryz.prog 46 #[.string op, mat r c s1, mat r c s2] w fun e w' => e = .returned (.tuple #[mat r c (str (rowsB (joinE op E F) r c)), .bool true]) ∧ Below w.heap.size w w' := by
  obtain ⟨gg, ho, hgg, hcomb⟩ := oper_yes op hk
  have HG1 := Lib.hid hg1
  have HG2 := Lib.hid hg2
  have HO := Lib.hid ho
  have HGG := Lib.hid hgg
  have HCO := Lib.hid hcomb
  clear hg1 hg2 hk ho hgg hcomb
  go_enter Tryz.func46, Tryz.ntmps46
  go_wp2_with fail
  have HI0 := Lib.hid (BInv3.start w r c r c s1 s2)
  generalize ((w.alloc (.cells #[.int .i64 (r : Int), .int .i64 (c : Int), .string s1] 28)).alloc (.cells #[.int .i64 (r : Int), .int .i64 (c : Int), .string s2] 28)).alloc (.cells #[.int .i64 0, .int .i64 0, .string ⟨#[]⟩] 28) = W0 at *
  refine wp_region_two (fun | 0 => mat r c s1 | 1 => gval r c (gpart E c (r * c)) | 2 => mat r c s2 | 3 => gval r c (gpart F c (r * c)) | _ => undef) _ 4 5 6 7 8 9 109 (gcells 0 0 (fun _ => 0)) (gcells r c (gpart E c (r * c))) (gcells r c (gpart F c (r * c))) _ _ _ _
    (by kernel_rfl) (by kernel_rfl) rfl rfl rfl rfl rfl rfl rfl rfl rfl rfl (by decide) (by decide) ⟨_, List.mem_toArray.2 List.mem_cons_self, rfl, rfl⟩ ⟨_, List.mem_toArray.2 List.mem_cons_self, rfl, rfl⟩ ?oth rfl rfl ?al1 ?al2 ?st1 ?st2 ?con ?en
  case oth =>
    intro i o ho hk
    match i, ho, hk with
    | 0, ho, _ => obtain rfl := Option.some.inj ho; exact ⟨by decide, by decide⟩
    | 1, ho, _ => obtain rfl := Option.some.inj ho; exact ⟨by decide, by decide⟩
    | 2, ho, _ => obtain rfl := Option.some.inj ho; exact ⟨by decide, by decide⟩
    | 3, ho, _ => obtain rfl := Option.some.inj ho; exact ⟨by decide, by decide⟩
    | 4, _, hk => exact absurd hk (by decide)
    | 5, _, hk => exact absurd hk (by decide)
    | 6, _, hk => exact absurd hk (by decide)
    | 7, _, hk => exact absurd hk (by decide)
    | q + 8, ho, _ => simp at ho
  case al1 =>
    intro a w
    unfold execOp
    go_simp
    rw [gzero]
  case al2 =>
    intro a w
    unfold execOp
    go_simp
    rw [gzero]
  case st1 =>
    intro a w1 b old hf hp hg ho
    have e13 : a.tmps[13]?.getD undef = gval r c (gpart E c (r * c)) := hf.1 ⟨1, .data⟩ (by simp) rfl _ 13 rfl rfl rfl
    exact wp_store_row 109 (.tmp 8) (.tmp 13) rfl b (gcells r c (gpart E c (r * c))) (eval_get (by rw [hp]; rfl) trivial) (eval_get e13 trivial) 109 old hg (ginfo' _ _ _) (by rcases ho with rfl | rfl <;> simp only [gsize]) (gone _ _ _) ⟨rfl, rfl⟩
  case st2 =>
    intro a w1 b old hf hp hg ho
    have e15 : a.tmps[15]?.getD undef = gval r c (gpart F c (r * c)) := hf.1 ⟨3, .data⟩ (by simp) rfl _ 15 rfl rfl rfl
    exact wp_store_row 109 (.tmp 9) (.tmp 15) rfl b (gcells r c (gpart F c (r * c))) (eval_get (by rw [hp]; rfl) trivial) (eval_get e15 trivial) 109 old hg (ginfo' _ _ _) (by rcases ho with rfl | rfl <;> simp only [gsize]) (gone _ _ _) ⟨rfl, rfl⟩
  case con =>
    intro i o ho hk a w2 hb2 hf
    match i, ho, hk with
    | 0, ho, _ =>
      obtain rfl := Option.some.inj ho
      have b4 : a.tmps[4]?.getD undef = .pointer (some ⟨w.heap.size, 0, none⟩) := hf.2 4 (by kernel_rfl)
      exact wp_load_row 28 (.tmp 4) rfl w.heap.size (eval_get b4 trivial) 28 _ (0, 0) _ ((HI0.out.later hb2).m) Tryz.underlying28 rfl minfo ⟨rfl, Below.refl _ _⟩
    | 1, ho, _ =>
      obtain rfl := Option.some.inj ho
      have e12 : a.tmps[12]?.getD undef = mat r c s1 := hf.1 ⟨0, .data⟩ (by simp) rfl _ 12 rfl rfl rfl
      exact wp_enter 58 #[mat r c s1] (gval r c (gpart E c (r * c))) _ (by unfold execOp; go_simp) (HG1.out w2) (fun w' h => ⟨rfl, h⟩)
    | 2, ho, _ =>
      obtain rfl := Option.some.inj ho
      have b5 : a.tmps[5]?.getD undef = .pointer (some ⟨w.heap.size + 1, 0, none⟩) := hf.2 5 (by kernel_rfl)
      exact wp_load_row 28 (.tmp 5) rfl (w.heap.size + 1) (eval_get b5 trivial) 28 _ (0, 0) _ ((HI0.out.later hb2).n) Tryz.underlying28 rfl minfo ⟨rfl, Below.refl _ _⟩
    | 3, ho, _ =>
      obtain rfl := Option.some.inj ho
      have e14 : a.tmps[14]?.getD undef = mat r c s2 := hf.1 ⟨2, .data⟩ (by simp) rfl _ 14 rfl rfl rfl
      exact wp_enter 58 #[mat r c s2] (gval r c (gpart F c (r * c))) _ (by unfold execOp; go_simp) (HG2.out w2) (fun w' h => ⟨rfl, h⟩)
    | 4, _, hk => exact absurd hk (by decide)
    | 5, _, hk => exact absurd hk (by decide)
    | 6, _, hk => exact absurd hk (by decide)
    | 7, _, hk => exact absurd hk (by decide)
    | q + 8, ho, _ => simp at ho
  case en =>
    intro g h w1 hb1 hg0 hh0 hg hh
    have hz0 := HI0.out.size
    have HI := Lib.hid (HI0.out.later hb1)
    have HGB := Lib.hid hg
    have HHB := Lib.hid hh
    have hgl := (Array.getElem?_eq_some_iff.1 hg).1
    have hhl := (Array.getElem?_eq_some_iff.1 hh).1
    clear hb1 hg hh HI0 HG1 HG2
    simp only [fill, Act.put]
    go_simp
    go_wp2_with fail
    refine (HO.out _).mono ?_
    rintro e w' ⟨rfl, rfl⟩
    have HX : Hid (∀ X, BInv3 w (w1.alloc X) r c r c s1 s2) := fun X => HI.out.later ((Below.refl w1.heap.size w1).alloc (Nat.le_refl _) X)
    have hz := HI.out.size
    have u0 : ∀ X, (w1.alloc X).cell? ⟨g, 0, none⟩ = some (.int .i64 (r : Int)) := fun X => cell_of_row _ _ 0 _ _ _ ((Below.heap_alloc _ _ _ hgl).trans HGB.out)
    have u1 : ∀ X, (w1.alloc X).cell? ⟨g, 1, none⟩ = some (.int .i64 (c : Int)) := fun X => cell_of_row _ _ 1 _ _ _ ((Below.heap_alloc _ _ _ hgl).trans HGB.out)
    have v0 : ∀ X, (w1.alloc X).cell? ⟨h, 0, none⟩ = some (.int .i64 (r : Int)) := fun X => cell_of_row _ _ 0 _ _ _ ((Below.heap_alloc _ _ _ hhl).trans HHB.out)
    have v1 : ∀ X, (w1.alloc X).cell? ⟨h, 1, none⟩ = some (.int .i64 (c : Int)) := fun X => cell_of_row _ _ 1 _ _ _ ((Below.heap_alloc _ _ _ hhl).trans HHB.out)
    have HT : ∀ FT, Hid (Tells 60 #[.pointer (some ⟨w1.heap.size, 0, none⟩), .pointer (some ⟨g, 0, none⟩), .pointer (some ⟨h, 0, none⟩)] r c (joinE op E F) (w1.alloc (.cells #[.func (.func gg) #[] #[]] FT))) := fun FT W x y hx hy hb => by
      have kk : (w1.alloc (.cells #[.func (.func gg) #[] #[]] FT)).cell? ⟨w1.heap.size, 0, none⟩ = some (.func (.func gg) #[] #[]) := cell_of_row _ _ 0 _ _ _ (heap_alloc_new w1 _)
      have hg1 : Holds (w1.alloc (.cells #[.func (.func gg) #[] #[]] FT)) g r c E := (Below.heap_alloc _ _ _ hgl).trans HGB.out
      have hh1 : Holds (w1.alloc (.cells #[.func (.func gg) #[] #[]] FT)) h r c F := (Below.heap_alloc _ _ _ hhl).trans HHB.out
      have hs := hb.size
      simp only [World.size_alloc] at hs
      exact join_clos op gg HGG.out HCO.out r c E F hr8 hc8 w1.heap.size g h x y hx hy W ((hb.cell (p := ⟨w1.heap.size, 0, none⟩) (by simp)).trans kk) (by omega) (hg1.below hb) (hh1.below hb)
    clear HI HGB HHB HGG HCO
    go_wp2_with fail
    refine (from_any 60 #[.pointer (some ⟨w1.heap.size, 0, none⟩), .pointer (some ⟨g, 0, none⟩), .pointer (some ⟨h, 0, none⟩)] r c (by omega) (by omega) (by omega) (by omega) _ _ join_enters (HT _)).mono ?_
    rintro e w3 ⟨rfl, hb3⟩
    have hi3 := (HX.out _).later hb3
    obtain ⟨d0, d1, d2⟩ := cells3 hi3.o
    obtain ⟨x0, x1, x2⟩ := free3 hi3.o
    have hz3 := hi3.size
    have HB3 := Lib.hid hi3.below
    clear hb3 hi3 HX
    go_wp2_with fail
    refine bodyPost_ret (v := .tuple #[mat r c (str (rowsB (joinE op E F) r c)), .bool true]) (by simp [results, Tryz.results46, go_sem, d0, d1, d2]) rfl ⟨rfl, ?_⟩
    exact ((HB3.out.setCell (by simp; omega) _).setCell (by simp; omega) _).setCell (by simp; omega) _
end Go.Proofs.YtbbgibbpeibhiaaGreatDoor.JoinI

/-
  The reference's JoinMatrices where it answers false.
-/
namespace Go.Proofs.YtbbgibbpeibhiaaGreatDoor.JoinN
open Go.RowKit Go.Proofs.YtbbgibbpeibhiaaGreatDoor.Plain Go.Proofs.YtbbgibbpeibhiaaGreatDoor.Base Go.Proofs.YtbbgibbpeibhiaaGreatDoor.Valid Go.Proofs.YtbbgibbpeibhiaaGreatDoor.Law Go.Proofs.YtbbgibbpeibhiaaGreatDoor.GridPlain Go.Proofs.YtbbgibbpeibhiaaGreatDoor.Grid Go.Proofs.YtbbgibbpeibhiaaGreatDoor.Entry Go.Proofs.YtbbgibbpeibhiaaGreatDoor.From Go.Proofs.YtbbgibbpeibhiaaGreatDoor.JoinB Go.Proofs.YtbbgibbpeibhiaaGreatDoor.Ops Go.Proofs.YtbbgibbpeibhiaaGreatDoor.Join Go.Proofs.YtbbgibbpeibhiaaGreatDoor.JoinI
set_option linter.unusedVariables false

end Go.Proofs.YtbbgibbpeibhiaaGreatDoor.JoinN

/-
  The walk of the law on JoinMatrices.
-/
namespace Go.Proofs.YtbbgibbpeibhiaaGreatDoor.fnExactJoinMatrices
open Go.RowKit Go.Proofs.YtbbgibbpeibhiaaGreatDoor.Plain Go.Proofs.YtbbgibbpeibhiaaGreatDoor.Base Go.Proofs.YtbbgibbpeibhiaaGreatDoor.Valid Go.Proofs.YtbbgibbpeibhiaaGreatDoor.Law Go.Proofs.YtbbgibbpeibhiaaGreatDoor.GridPlain Go.Proofs.YtbbgibbpeibhiaaGreatDoor.Grid Go.Proofs.YtbbgibbpeibhiaaGreatDoor.Entry Go.Proofs.YtbbgibbpeibhiaaGreatDoor.From Go.Proofs.YtbbgibbpeibhiaaGreatDoor.JoinB Go.Proofs.YtbbgibbpeibhiaaGreatDoor.Ops Go.Proofs.YtbbgibbpeibhiaaGreatDoor.Join Go.Proofs.YtbbgibbpeibhiaaGreatDoor.JoinI Go.Proofs.YtbbgibbpeibhiaaGreatDoor.JoinN
open Go.Proofs.YtbbgibbpeibhiaaGreatDoor.Free (fill wp_value wp_enter wp_load_row freeB wp_region_one get_of)
set_option linter.unusedVariables false

/-- a grid for each matrix -/
theorem grid_any (r c : Int) (s : ByteArray) (hs : s.size ≤ maxLen) : ∃ (R1 C1 : Int) (f1 : Nat → Int), ∀ W : World, Calls Tryz.prog 58 #[mat r c s] W fun e w' => e = .returned (gval R1 C1 f1) ∧ Below W.heap.size W w' := by
  by_cases hv : validB r c s = true
  · obtain ⟨R, C, E, rfl, rfl, h1, h2, h3, h4, rfl⟩ := valid_form hv
    have hsz : (str (rowsB E R C)).size ≤ 64 := by rw [str_size, rowsB_length]; exact prod_le h2 h4
    exact ⟨_, _, _, fun W => grid_yes E R C h1 h2 h3 h4 _ rfl hs hsz hv W⟩
  · rw [Bool.not_eq_true] at hv
    exact ⟨_, _, _, fun W => grid_no r c s hs hv W⟩
/-- the law's own boxes -/
def MBox (w : World) (b : Nat) (t : TypeId) (r c : Int) (s : ByteArray) : Prop := w.heap[b]? = some (.cells #[.int .i64 r, .int .i64 c, .string s] t (0, 0))
theorem MBox.on {w w1 : World} {b : Nat} {t : TypeId} {r c : Int} {s : ByteArray} (h : MBox w b t r c s) (hb : Below w.heap.size w w1) : MBox w1 b t r c s := (hb.block b (Array.getElem?_eq_some_iff.1 h).1).trans h
theorem MBox.c {w : World} {b : Nat} {t : TypeId} {r c : Int} {s : ByteArray} (h : MBox w b t r c s) : w.cell? ⟨b, 0, none⟩ = some (.int .i64 r) ∧ w.cell? ⟨b, 1, none⟩ = some (.int .i64 c) ∧ w.cell? ⟨b, 2, none⟩ = some (.string s) := cells3 h
theorem boxesM {w w1 : World} {r c x y : Int} {s t : ByteArray} {T U : TypeId} (hb : Below ((w.alloc (.cells #[.int .i64 r, .int .i64 c, .string s] T)).alloc (.cells #[.int .i64 x, .int .i64 y, .string t] U)).heap.size ((w.alloc (.cells #[.int .i64 r, .int .i64 c, .string s] T)).alloc (.cells #[.int .i64 x, .int .i64 y, .string t] U)) w1) :
    MBox w1 w.heap.size T r c s ∧ MBox w1 (w.heap.size + 1) U x y t ∧ Below w.heap.size w w1 := by
  have h1 : MBox ((w.alloc (.cells #[.int .i64 r, .int .i64 c, .string s] T)).alloc (.cells #[.int .i64 x, .int .i64 y, .string t] U)) w.heap.size T r c s := (Below.heap_alloc _ _ _ (by simp)).trans (heap_alloc_new w _)
  have h2 : MBox ((w.alloc (.cells #[.int .i64 r, .int .i64 c, .string s] T)).alloc (.cells #[.int .i64 x, .int .i64 y, .string t] U)) (w.heap.size + 1) U x y t := by
    have := heap_alloc_new (w.alloc (.cells #[.int .i64 r, .int .i64 c, .string s] T)) (.cells #[.int .i64 x, .int .i64 y, .string t] U)
    rwa [World.size_alloc] at this
  have h0 : Below w.heap.size w ((w.alloc (.cells #[.int .i64 r, .int .i64 c, .string s] T)).alloc (.cells #[.int .i64 x, .int .i64 y, .string t] U)) := ((Below.refl w.heap.size w).alloc (Nat.le_refl _) _).alloc (by simp) _
  exact ⟨h1.on hb, h2.on hb, bstep h0 hb⟩

end Go.Proofs.YtbbgibbpeibhiaaGreatDoor.fnExactJoinMatrices

