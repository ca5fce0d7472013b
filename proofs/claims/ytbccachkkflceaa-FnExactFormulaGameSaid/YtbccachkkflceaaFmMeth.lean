/-
  The methods of the program's letters and gates: where they are true, how many letters, the dual; how deep.
-/
import Derived.Test.YtbccachkkflceaaFmNo
import Derived.Test.YtbccachkkflceaaBase
import Derived.Test.YtbccachkkflceaaWhere
import Derived.Test.YtbccachkkflceaaWq
import Derived.Laws.Rows
namespace Go.Proofs.Ytbccachkkflceaa.FmMeth
open Go.RowKit Go.Shelf Go.Proofs.Ytbccachkkflceaa.Plain Go.Proofs.Ytbccachkkflceaa.Pat Go.Proofs.Ytbccachkkflceaa.Fm Go.Proofs.Ytbccachkkflceaa.FmB Go.Proofs.Ytbccachkkflceaa.Rect Go.Proofs.Ytbccachkkflceaa.FmRead Go.Proofs.Ytbccachkkflceaa.Base Go.Proofs.Ytbccachkkflceaa.Where
open Go.Proofs.Ytbccachkkflceaa.Wq (WQ wq_step wq_nil region_kept drew_at)
set_option linter.unusedVariables false
set_option linter.unusedSimpArgs false

/-- a method of a formula: its receiver's kind, and what is said of the call -/
def Node (fe fs : FuncId) (t : F) (C : FuncId → Value → Prop) : Prop :=
  (∃ V, tree t = .iface 57 V ∧ C fe V) ∨ (∃ V, tree t = .iface 62 V ∧ C fs V)
theorem cells3 {w : World} {b : Nat} {c0 c1 c2 : Value} {ty : TypeId} (h : w.heap[b]? = some (.cells #[c0, c1, c2] ty (0, 0))) : w.cell? ⟨b, 0, none⟩ = some c0 ∧ w.cell? ⟨b, 1, none⟩ = some c1 ∧ w.cell? ⟨b, 2, none⟩ = some c2 :=
  ⟨cell_of_row _ _ 0 _ _ _ h, cell_of_row _ _ 1 _ _ _ h, cell_of_row _ _ 2 _ _ _ h⟩
theorem cells2 {w : World} {b : Nat} {c0 c1 : Value} {ty : TypeId} (h : w.heap[b]? = some (.cells #[c0, c1] ty (0, 0))) : w.cell? ⟨b, 0, none⟩ = some c0 ∧ w.cell? ⟨b, 1, none⟩ = some c1 :=
  ⟨cell_of_row _ _ 0 _ _ _ h, cell_of_row _ _ 1 _ _ _ h⟩

/-! ### where a formula is true -/
theorem bits2 (x y : Nat) (hx : x < 256) (hy : y < 256) : Go.bits .and .i64 (x : Int) (y : Int) = ((x &&& y : Nat) : Int) ∧ Go.bits .or .i64 (x : Int) (y : Int) = ((x ||| y : Nat) : Int) :=
  bits_nat .i64 8 (by decide) (fun n h0 h1 => by rw [IntKind.wrap_i64]; omega) x y (by omega) (by omega)
set_option maxHeartbeats 400000 in
theorem join_w (a : Bool) (x y : Nat) (hx : x < 256) (hy : y < 256) (w : World) :
    Calls Try.prog 96 #[.int .u8 ((sgn a).toNat : Int), .int .i64 (x : Int), .int .i64 (y : Int)] w fun e w' => e = .returned (.int .i64 ((if a then x &&& y else x ||| y : Nat) : Int)) ∧ Below w.heap.size w w' := by
  obtain ⟨h1, h2⟩ := bits2 x y hx hy
  cases a
  · rw [show ((sgn false).toNat : Int) = 124 from rfl]
    clear h1
    generalize x ||| y = z at *
    go_enter Try.func96, Try.ntmps96
    go_wp2_with fail
    go_ret
    exact ⟨rfl, Below.refl _ _⟩
  · rw [show ((sgn true).toNat : Int) = 38 from rfl]
    clear h2
    generalize x &&& y = z at *
    go_enter Try.func96, Try.ntmps96
    go_wp2_with fail
    go_ret
    exact ⟨rfl, Below.refl _ _⟩
theorem lit_test (n k : Nat) (v : Bool) (hn : n < 8) (hk : k < 3) : (Go.bits .and .i64 ((n : Int) / 2 ^ k) 1 == bitI v) = (n.testBit k == v) := by
  have h : ∀ n : Fin 8, ∀ k : Fin 3, ∀ v : Bool, (Go.bits .and .i64 (((n.val : Nat) : Int) / 2 ^ k.val) 1 == bitI v) = (n.val.testBit k.val == v) := by decide +kernel
  exact h ⟨n, hn⟩ ⟨k, hk⟩ v
set_option maxHeartbeats 1000000 in
theorem lit_clos (k : Nat) (v : Bool) (hk : k < 3) (b n : Nat) (hn : n < 8) (W : World) (h0 : W.cell? ⟨b, 0, none⟩ = some (.int .i64 (k : Int))) (h1 : W.cell? ⟨b, 1, none⟩ = some (.int .i64 (bitI v))) :
    Calls Try.prog 83 #[.int .i64 (n : Int), .pointer (some ⟨b, 0, none⟩)] W fun e w' => e = .returned (.bool (n.testBit k == v)) ∧ Below W.heap.size W w' := by
  have HB := Lib.hid (lit_test n k v hn hk)
  generalize bitI v = bv at *
  go_enter Try.func83, Try.ntmps83
  go_wp2_with fail
  go_quiet (fail)
  go_wp2_with fail
  go_ret
  exact ⟨congrArg (fun b => Ending.returned (.bool b)) HB.out, drawn_at _ _⟩
theorem lit_enters (args : Array Value) (W : World) : (callFunc 83 args).run Try.prog W = .ok (.enter 83 args) W := by kernel_rfl

def TruC (t : F) (f : FuncId) (V : Value) : Prop := ∀ W : World, Calls Try.prog f #[V] W fun e w' => e = .returned (.int .i64 ((setB (val t) 8 : Nat) : Int)) ∧ Below W.heap.size W w'
set_option maxHeartbeats 1000000 in
theorem lit_tru (k : Nat) (v : Bool) (hk : k < 3) : TruC (.lit k v) 82 (litV (k : Int) v) := by
  intro w
  have eg := lit_enters
  unfold litV
  obtain ⟨w1, hw1⟩ : ∃ w1, w.alloc (.cells #[.int .i64 (k : Int), .int .i64 (bitI v)] 57) = w1 := ⟨_, rfl⟩
  have c0 : w1.cell? ⟨w.heap.size, 0, none⟩ = some (.int .i64 (k : Int)) := by rw [← hw1]; simp
  have c1 : w1.cell? ⟨w.heap.size, 1, none⟩ = some (.int .i64 (bitI v)) := by rw [← hw1]; simp
  have hlt : w.heap.size < w1.heap.size := by rw [← hw1]; simp
  have HB0 : Hid (Below w.heap.size w w1) := by show Below _ _ _; rw [← hw1]; exact (Below.refl _ _).alloc (Nat.le_refl _) _
  have HT : Hid (Says 83 #[.pointer (some ⟨w.heap.size, 0, none⟩)] 8 (val (.lit k v)) w1) :=
    fun W i hi hb => lit_clos k v hk w.heap.size i hi W ((hb.cell (p := ⟨w.heap.size, 0, none⟩) hlt).trans c0) ((hb.cell (p := ⟨w.heap.size, 1, none⟩) hlt).trans c1)
  have HW := Lib.hid (where_any 83 #[.pointer (some ⟨w.heap.size, 0, none⟩)] 8 (by omega) (val (.lit k v)) w1 eg HT)
  generalize setB (val (.lit k v)) 8 = z at *
  clear HT c0 c1 hlt eg
  go_enter Try.func82, Try.ntmps82
  go_wp2_with fail
  refine HW.out.mono ?_
  rintro e w2 ⟨rfl, hb2⟩
  have HB : Hid (Below w.heap.size w w2) := rstep HB0.out hb2
  clear hb2 HW HB0 hw1
  go_wp2_with fail
  go_ret
  exact ⟨rfl, HB.out⟩
set_option maxHeartbeats 4000000 in
set_option maxRecDepth 100000 in
theorem gate_tru (a : Bool) (f g : F) (hZ : Node 82 95 f (TruC f)) (hO : Node 82 95 g (TruC g)) : TruC (.gate a f g) 95 (gateV a (tree f) (tree g)) := by
  intro w
  unfold TruC at hZ hO
  unfold gateV
  have lz : setB (val f) 8 < 256 := setB_lt8 _ 8 (Nat.le_refl _)
  have lo : setB (val g) 8 < 256 := setB_lt8 _ 8 (Nat.le_refl _)
  have hm : setB (val (.gate a f g)) 8 = (if a then setB (val f) 8 &&& setB (val g) 8 else setB (val f) 8 ||| setB (val g) 8) := by
    cases a
    · exact (set_or f g).symm
    · exact (set_and f g).symm
  have HJ := Lib.hid (join_w a _ _ lz lo)
  rw [hm]
  clear hm
  generalize (if a then setB (val f) 8 &&& setB (val g) 8 else setB (val f) 8 ||| setB (val g) 8) = z at *
  generalize setB (val f) 8 = m at *
  generalize setB (val g) 8 = n at *
  generalize ((sgn a).toNat : Int) = c at *
  obtain ⟨B, hB⟩ : ∃ B, w.heap.size = B := ⟨_, rfl⟩
  have HBB := Lib.hid hB
  rcases hZ with ⟨V, ez, hz⟩ | ⟨V, ez, hz⟩ <;> rcases hO with ⟨U, eo, ho⟩ | ⟨U, eo, ho⟩
  · have HZ := Lib.hid hz
    have HO := Lib.hid ho
    rw [ez, eo]
    clear ez eo hz ho
    go_enter Try.func95, Try.ntmps95
    go_wp2_with fail
    obtain ⟨W1, hW1⟩ : ∃ W1, w.alloc (.cells #[.iface 57 V, .iface 57 U, .int .u8 c] 62) = W1 := ⟨_, rfl⟩
    rw [hW1]
    have HW : Hid (Below w.heap.size w W1) := by show Below _ _ _; rw [← hW1]; exact (Below.refl _ _).alloc (Nat.le_refl _) _
    have HM0 : Hid (∀ wx : World, Below W1.heap.size W1 wx → wx.heap[B]? = some (.cells #[.iface 57 V, .iface 57 U, .int .u8 c] 62 (0, 0))) := fun wx h => by
      have h0 : W1.heap[B]? = some (.cells #[.iface 57 V, .iface 57 U, .int .u8 c] 62 (0, 0)) := by rw [← hW1, ← HBB.out]; exact heap_alloc_new w _
      exact (h.block _ (Array.getElem?_eq_some_iff.1 h0).1).trans h0
    clear hW1 hB
    refine region_kept (C := fun wx => Below W1.heap.size W1 wx) (drew_at W1) (by kernel_rfl) (by kernel_rfl) ?_
    repeat
      (refine wq_step (fun K hK => ?_)
       go_simp
       first
         | (refine hK _ ?_; clear hK K)
         | (apply Exists.intro
            refine ⟨fun wx hC => ?_, hK _ ?_⟩
            · first
              | with_reducible rfl
              | (go_invoke; go_simp; with_reducible exact ((HZ.out wx).mono fun e w' h => ⟨h.1, hC.trans (h.2.mono hC.size)⟩))
              | (go_invoke; go_simp; with_reducible exact ((HO.out wx).mono fun e w' h => ⟨h.1, hC.trans (h.2.mono hC.size)⟩))
              | (with_reducible exact ((HJ.out wx).mono fun e w' h => ⟨h.1, hC.trans (h.2.mono hC.size)⟩))
              | (obtain ⟨d0, d1, d2⟩ := cells3 (HM0.out wx hC); go_simp; first | done | rfl)
            clear hK K))
    refine wq_nil ?_
    intro w2 hC
    have HC := Lib.hid (HW.out.trans (hC.mono HW.out.size))
    clear hC
    go_simp
    go_wp2_with fail
    go_ret
    exact ⟨rfl, HC.out⟩
  · have HZ := Lib.hid hz
    have HO := Lib.hid ho
    rw [ez, eo]
    clear ez eo hz ho
    go_enter Try.func95, Try.ntmps95
    go_wp2_with fail
    obtain ⟨W1, hW1⟩ : ∃ W1, w.alloc (.cells #[.iface 57 V, .iface 62 U, .int .u8 c] 62) = W1 := ⟨_, rfl⟩
    rw [hW1]
    have HW : Hid (Below w.heap.size w W1) := by show Below _ _ _; rw [← hW1]; exact (Below.refl _ _).alloc (Nat.le_refl _) _
    have HM0 : Hid (∀ wx : World, Below W1.heap.size W1 wx → wx.heap[B]? = some (.cells #[.iface 57 V, .iface 62 U, .int .u8 c] 62 (0, 0))) := fun wx h => by
      have h0 : W1.heap[B]? = some (.cells #[.iface 57 V, .iface 62 U, .int .u8 c] 62 (0, 0)) := by rw [← hW1, ← HBB.out]; exact heap_alloc_new w _
      exact (h.block _ (Array.getElem?_eq_some_iff.1 h0).1).trans h0
    clear hW1 hB
    refine region_kept (C := fun wx => Below W1.heap.size W1 wx) (drew_at W1) (by kernel_rfl) (by kernel_rfl) ?_
    repeat
      (refine wq_step (fun K hK => ?_)
       go_simp
       first
         | (refine hK _ ?_; clear hK K)
         | (apply Exists.intro
            refine ⟨fun wx hC => ?_, hK _ ?_⟩
            · first
              | with_reducible rfl
              | (go_invoke; go_simp; with_reducible exact ((HZ.out wx).mono fun e w' h => ⟨h.1, hC.trans (h.2.mono hC.size)⟩))
              | (go_invoke; go_simp; with_reducible exact ((HO.out wx).mono fun e w' h => ⟨h.1, hC.trans (h.2.mono hC.size)⟩))
              | (with_reducible exact ((HJ.out wx).mono fun e w' h => ⟨h.1, hC.trans (h.2.mono hC.size)⟩))
              | (obtain ⟨d0, d1, d2⟩ := cells3 (HM0.out wx hC); go_simp; first | done | rfl)
            clear hK K))
    refine wq_nil ?_
    intro w2 hC
    have HC := Lib.hid (HW.out.trans (hC.mono HW.out.size))
    clear hC
    go_simp
    go_wp2_with fail
    go_ret
    exact ⟨rfl, HC.out⟩
  · have HZ := Lib.hid hz
    have HO := Lib.hid ho
    rw [ez, eo]
    clear ez eo hz ho
    go_enter Try.func95, Try.ntmps95
    go_wp2_with fail
    obtain ⟨W1, hW1⟩ : ∃ W1, w.alloc (.cells #[.iface 62 V, .iface 57 U, .int .u8 c] 62) = W1 := ⟨_, rfl⟩
    rw [hW1]
    have HW : Hid (Below w.heap.size w W1) := by show Below _ _ _; rw [← hW1]; exact (Below.refl _ _).alloc (Nat.le_refl _) _
    have HM0 : Hid (∀ wx : World, Below W1.heap.size W1 wx → wx.heap[B]? = some (.cells #[.iface 62 V, .iface 57 U, .int .u8 c] 62 (0, 0))) := fun wx h => by
      have h0 : W1.heap[B]? = some (.cells #[.iface 62 V, .iface 57 U, .int .u8 c] 62 (0, 0)) := by rw [← hW1, ← HBB.out]; exact heap_alloc_new w _
      exact (h.block _ (Array.getElem?_eq_some_iff.1 h0).1).trans h0
    clear hW1 hB
    refine region_kept (C := fun wx => Below W1.heap.size W1 wx) (drew_at W1) (by kernel_rfl) (by kernel_rfl) ?_
    repeat
      (refine wq_step (fun K hK => ?_)
       go_simp
       first
         | (refine hK _ ?_; clear hK K)
         | (apply Exists.intro
            refine ⟨fun wx hC => ?_, hK _ ?_⟩
            · first
              | with_reducible rfl
              | (go_invoke; go_simp; with_reducible exact ((HZ.out wx).mono fun e w' h => ⟨h.1, hC.trans (h.2.mono hC.size)⟩))
              | (go_invoke; go_simp; with_reducible exact ((HO.out wx).mono fun e w' h => ⟨h.1, hC.trans (h.2.mono hC.size)⟩))
              | (with_reducible exact ((HJ.out wx).mono fun e w' h => ⟨h.1, hC.trans (h.2.mono hC.size)⟩))
              | (obtain ⟨d0, d1, d2⟩ := cells3 (HM0.out wx hC); go_simp; first | done | rfl)
            clear hK K))
    refine wq_nil ?_
    intro w2 hC
    have HC := Lib.hid (HW.out.trans (hC.mono HW.out.size))
    clear hC
    go_simp
    go_wp2_with fail
    go_ret
    exact ⟨rfl, HC.out⟩
  · have HZ := Lib.hid hz
    have HO := Lib.hid ho
    rw [ez, eo]
    clear ez eo hz ho
    go_enter Try.func95, Try.ntmps95
    go_wp2_with fail
    obtain ⟨W1, hW1⟩ : ∃ W1, w.alloc (.cells #[.iface 62 V, .iface 62 U, .int .u8 c] 62) = W1 := ⟨_, rfl⟩
    rw [hW1]
    have HW : Hid (Below w.heap.size w W1) := by show Below _ _ _; rw [← hW1]; exact (Below.refl _ _).alloc (Nat.le_refl _) _
    have HM0 : Hid (∀ wx : World, Below W1.heap.size W1 wx → wx.heap[B]? = some (.cells #[.iface 62 V, .iface 62 U, .int .u8 c] 62 (0, 0))) := fun wx h => by
      have h0 : W1.heap[B]? = some (.cells #[.iface 62 V, .iface 62 U, .int .u8 c] 62 (0, 0)) := by rw [← hW1, ← HBB.out]; exact heap_alloc_new w _
      exact (h.block _ (Array.getElem?_eq_some_iff.1 h0).1).trans h0
    clear hW1 hB
    refine region_kept (C := fun wx => Below W1.heap.size W1 wx) (drew_at W1) (by kernel_rfl) (by kernel_rfl) ?_
    repeat
      (refine wq_step (fun K hK => ?_)
       go_simp
       first
         | (refine hK _ ?_; clear hK K)
         | (apply Exists.intro
            refine ⟨fun wx hC => ?_, hK _ ?_⟩
            · first
              | with_reducible rfl
              | (go_invoke; go_simp; with_reducible exact ((HZ.out wx).mono fun e w' h => ⟨h.1, hC.trans (h.2.mono hC.size)⟩))
              | (go_invoke; go_simp; with_reducible exact ((HO.out wx).mono fun e w' h => ⟨h.1, hC.trans (h.2.mono hC.size)⟩))
              | (with_reducible exact ((HJ.out wx).mono fun e w' h => ⟨h.1, hC.trans (h.2.mono hC.size)⟩))
              | (obtain ⟨d0, d1, d2⟩ := cells3 (HM0.out wx hC); go_simp; first | done | rfl)
            clear hK K))
    refine wq_nil ?_
    intro w2 hC
    have HC := Lib.hid (HW.out.trans (hC.mono HW.out.size))
    clear hC
    go_simp
    go_wp2_with fail
    go_ret
    exact ⟨rfl, HC.out⟩
theorem tru_to (t : F) (h : wf 3 t) : Node 82 95 t (TruC t) := by
  induction t with
  | lit k v => exact .inl ⟨_, rfl, lit_tru k v h⟩
  | gate a f g ihf ihg => exact .inr ⟨_, rfl, gate_tru a f g (ihf h.1) (ihg h.2)⟩

end Go.Proofs.Ytbccachkkflceaa.FmMeth
