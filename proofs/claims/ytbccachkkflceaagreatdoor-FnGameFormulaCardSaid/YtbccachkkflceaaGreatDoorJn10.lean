/-
  Texts of one seat, joined: FmMeth, FmCnt.
-/
import Derived.Test.YtbccachkkflceaaGreatDoorJn1
import Derived.Test.YtbccachkkflceaaGreatDoorJn8
import Derived.Test.YtbccachkkflceaaGreatDoorJn9
import Derived.Laws.Rows
/-
  The methods of the program's letters and gates: where they are true, how many letters, the dual; how deep.
-/
namespace Go.Proofs.YtbccachkkflceaaGreatDoor.FmMeth
open Go.RowKit Go.Shelf Go.Proofs.YtbccachkkflceaaGreatDoor.Plain Go.Proofs.YtbccachkkflceaaGreatDoor.Pat Go.Proofs.YtbccachkkflceaaGreatDoor.Fm Go.Proofs.YtbccachkkflceaaGreatDoor.FmB Go.Proofs.YtbccachkkflceaaGreatDoor.Rect Go.Proofs.YtbccachkkflceaaGreatDoor.FmRead Go.Proofs.YtbccachkkflceaaGreatDoor.Base Go.Proofs.YtbccachkkflceaaGreatDoor.Where
open Go.Proofs.YtbccachkkflceaaGreatDoor.Wq (WQ wq_step wq_nil region_kept drew_at)
set_option linter.unusedVariables false
set_option linter.unusedSimpArgs false

/-- a method of a formula: its receiver's kind, and what is said of the call -/
def Node (fe fs : FuncId) (t : F) (C : FuncId → Value → Prop) : Prop :=
  (∃ V, tree t = .iface 64 V ∧ C fe V) ∨ (∃ V, tree t = .iface 69 V ∧ C fs V)
theorem cells3 {w : World} {b : Nat} {c0 c1 c2 : Value} {ty : TypeId} (h : w.heap[b]? = some (.cells #[c0, c1, c2] ty (0, 0))) : w.cell? ⟨b, 0, none⟩ = some c0 ∧ w.cell? ⟨b, 1, none⟩ = some c1 ∧ w.cell? ⟨b, 2, none⟩ = some c2 :=
  ⟨cell_of_row _ _ 0 _ _ _ h, cell_of_row _ _ 1 _ _ _ h, cell_of_row _ _ 2 _ _ _ h⟩
theorem cells2 {w : World} {b : Nat} {c0 c1 : Value} {ty : TypeId} (h : w.heap[b]? = some (.cells #[c0, c1] ty (0, 0))) : w.cell? ⟨b, 0, none⟩ = some c0 ∧ w.cell? ⟨b, 1, none⟩ = some c1 :=
  ⟨cell_of_row _ _ 0 _ _ _ h, cell_of_row _ _ 1 _ _ _ h⟩

/-! ### where a formula is true -/
theorem bits2 (x y : Nat) (hx : x < 256) (hy : y < 256) : Go.bits .and .i64 (x : Int) (y : Int) = ((x &&& y : Nat) : Int) ∧ Go.bits .or .i64 (x : Int) (y : Int) = ((x ||| y : Nat) : Int) :=
  bits_nat .i64 8 (by decide) (fun n h0 h1 => by rw [IntKind.wrap_i64]; omega) x y (by omega) (by omega)
set_option maxHeartbeats 400000 in
theorem join_w (a : Bool) (x y : Nat) (hx : x < 256) (hy : y < 256) (w : World) :
    Calls Tryz.prog 146 #[.int .u8 ((sgn a).toNat : Int), .int .i64 (x : Int), .int .i64 (y : Int)] w fun e w' => e = .returned (.int .i64 ((if a then x &&& y else x ||| y : Nat) : Int)) ∧ Below w.heap.size w w' := by
  obtain ⟨h1, h2⟩ := bits2 x y hx hy
  cases a
  · rw [show ((sgn false).toNat : Int) = 124 from rfl]
    clear h1
    generalize x ||| y = z at *
    go_enter Tryz.func146, Tryz.ntmps146
    go_wp2_with fail
    go_ret
    exact ⟨rfl, Below.refl _ _⟩
  · rw [show ((sgn true).toNat : Int) = 38 from rfl]
    clear h2
    generalize x &&& y = z at *
    go_enter Tryz.func146, Tryz.ntmps146
    go_wp2_with fail
    go_ret
    exact ⟨rfl, Below.refl _ _⟩
theorem lit_test (n k : Nat) (v : Bool) (hn : n < 8) (hk : k < 3) : (Go.bits .and .i64 ((n : Int) / 2 ^ k) 1 == bitI v) = (n.testBit k == v) := by
  have h : ∀ n : Fin 8, ∀ k : Fin 3, ∀ v : Bool, (Go.bits .and .i64 (((n.val : Nat) : Int) / 2 ^ k.val) 1 == bitI v) = (n.val.testBit k.val == v) := by decide +kernel
  exact h ⟨n, hn⟩ ⟨k, hk⟩ v
set_option maxHeartbeats 1000000 in
theorem lit_clos (k : Nat) (v : Bool) (hk : k < 3) (b n : Nat) (hn : n < 8) (W : World) (h0 : W.cell? ⟨b, 0, none⟩ = some (.int .i64 (k : Int))) (h1 : W.cell? ⟨b, 1, none⟩ = some (.int .i64 (bitI v))) :
    Calls Tryz.prog 107 #[.int .i64 (n : Int), .pointer (some ⟨b, 0, none⟩)] W fun e w' => e = .returned (.bool (n.testBit k == v)) ∧ Below W.heap.size W w' := by
  have HB := Lib.hid (lit_test n k v hn hk)
  generalize bitI v = bv at *
  go_enter Tryz.func107, Tryz.ntmps107
  go_wp2_with fail
  go_quiet (fail)
  go_wp2_with fail
  go_ret
  exact ⟨congrArg (fun b => Ending.returned (.bool b)) HB.out, drawn_at _ _⟩
theorem lit_enters (args : Array Value) (W : World) : (callFunc 107 args).run Tryz.prog W = .ok (.enter 107 args) W := by kernel_rfl

def TruC (t : F) (f : FuncId) (V : Value) : Prop := ∀ W : World, Calls Tryz.prog f #[V] W fun e w' => e = .returned (.int .i64 ((setB (val t) 8 : Nat) : Int)) ∧ Below W.heap.size W w'
set_option maxHeartbeats 1000000 in
theorem lit_tru (k : Nat) (v : Bool) (hk : k < 3) : TruC (.lit k v) 91 (litV (k : Int) v) := by
  intro w
  have eg := lit_enters
  unfold litV
  obtain ⟨w1, hw1⟩ : ∃ w1, w.alloc (.cells #[.int .i64 (k : Int), .int .i64 (bitI v)] 64) = w1 := ⟨_, rfl⟩
  have c0 : w1.cell? ⟨w.heap.size, 0, none⟩ = some (.int .i64 (k : Int)) := by rw [← hw1]; simp
  have c1 : w1.cell? ⟨w.heap.size, 1, none⟩ = some (.int .i64 (bitI v)) := by rw [← hw1]; simp
  have hlt : w.heap.size < w1.heap.size := by rw [← hw1]; simp
  have HB0 : Hid (Below w.heap.size w w1) := by show Below _ _ _; rw [← hw1]; exact (Below.refl _ _).alloc (Nat.le_refl _) _
  have HT : Hid (Says 107 #[.pointer (some ⟨w.heap.size, 0, none⟩)] 8 (val (.lit k v)) w1) :=
    fun W i hi hb => lit_clos k v hk w.heap.size i hi W ((hb.cell (p := ⟨w.heap.size, 0, none⟩) hlt).trans c0) ((hb.cell (p := ⟨w.heap.size, 1, none⟩) hlt).trans c1)
  have HW := Lib.hid (where_any 107 #[.pointer (some ⟨w.heap.size, 0, none⟩)] 8 (by omega) (val (.lit k v)) w1 eg HT)
  generalize setB (val (.lit k v)) 8 = z at *
  clear HT c0 c1 hlt eg
  go_enter Tryz.func91, Tryz.ntmps91
  go_wp2_with fail
  refine HW.out.mono ?_
  rintro e w2 ⟨rfl, hb2⟩
  have HB : Hid (Below w.heap.size w w2) := rstep HB0.out hb2
  clear hb2 HW HB0 hw1
  go_wp2_with fail
  go_ret
  exact ⟨rfl, HB.out⟩
set_option maxHeartbeats 4000000 in
set_option maxRecDepth 100000 in
theorem gate_tru (a : Bool) (f g : F) (hZ : Node 91 145 f (TruC f)) (hO : Node 91 145 g (TruC g)) : TruC (.gate a f g) 145 (gateV a (tree f) (tree g)) := by
  intro w
  unfold TruC at hZ hO
  unfold gateV
  have lz : setB (val f) 8 < 256 := setB_lt8 _ 8 (Nat.le_refl _)
  have lo : setB (val g) 8 < 256 := setB_lt8 _ 8 (Nat.le_refl _)
  have hm : setB (val (.gate a f g)) 8 = (if a then setB (val f) 8 &&& setB (val g) 8 else setB (val f) 8 ||| setB (val g) 8) := by
    cases a
    · exact (set_or f g).symm
    · exact (set_and f g).symm
  have HJ := Lib.hid (join_w a _ _ lz lo)
  rw [hm]
  clear hm
  generalize (if a then setB (val f) 8 &&& setB (val g) 8 else setB (val f) 8 ||| setB (val g) 8) = z at *
  generalize setB (val f) 8 = m at *
  generalize setB (val g) 8 = n at *
  generalize ((sgn a).toNat : Int) = c at *
  obtain ⟨B, hB⟩ : ∃ B, w.heap.size = B := ⟨_, rfl⟩
  have HBB := Lib.hid hB
  rcases hZ with ⟨V, ez, hz⟩ | ⟨V, ez, hz⟩ <;> rcases hO with ⟨U, eo, ho⟩ | ⟨U, eo, ho⟩
  · have HZ := Lib.hid hz
    have HO := Lib.hid ho
    rw [ez, eo]
    clear ez eo hz ho
    go_enter Tryz.func145, Tryz.ntmps145
    go_wp2_with fail
    obtain ⟨W1, hW1⟩ : ∃ W1, w.alloc (.cells #[.iface 64 V, .iface 64 U, .int .u8 c] 69) = W1 := ⟨_, rfl⟩
    rw [hW1]
    have HW : Hid (Below w.heap.size w W1) := by show Below _ _ _; rw [← hW1]; exact (Below.refl _ _).alloc (Nat.le_refl _) _
    have HM0 : Hid (∀ wx : World, Below W1.heap.size W1 wx → wx.heap[B]? = some (.cells #[.iface 64 V, .iface 64 U, .int .u8 c] 69 (0, 0))) := fun wx h => by
      have h0 : W1.heap[B]? = some (.cells #[.iface 64 V, .iface 64 U, .int .u8 c] 69 (0, 0)) := by rw [← hW1, ← HBB.out]; exact heap_alloc_new w _
      exact (h.block _ (Array.getElem?_eq_some_iff.1 h0).1).trans h0
    clear hW1 hB
    refine region_kept (C := fun wx => Below W1.heap.size W1 wx) (drew_at W1) (by kernel_rfl) (by kernel_rfl) ?_
    repeat
      (refine wq_step (fun K hK => ?_)
       go_simp
       first
         | (refine hK _ ?_; clear hK K)
         | (apply Exists.intro
            refine ⟨fun wx hC => ?_, hK _ ?_⟩
            · first
              | with_reducible rfl
              | (go_invoke; go_simp; with_reducible exact ((HZ.out wx).mono fun e w' h => ⟨h.1, hC.trans (h.2.mono hC.size)⟩))
              | (go_invoke; go_simp; with_reducible exact ((HO.out wx).mono fun e w' h => ⟨h.1, hC.trans (h.2.mono hC.size)⟩))
              | (with_reducible exact ((HJ.out wx).mono fun e w' h => ⟨h.1, hC.trans (h.2.mono hC.size)⟩))
              | (obtain ⟨d0, d1, d2⟩ := cells3 (HM0.out wx hC); go_simp; first | done | rfl)
            clear hK K))
    refine wq_nil ?_
    intro w2 hC
    have HC := Lib.hid (HW.out.trans (hC.mono HW.out.size))
    clear hC
    go_simp
    go_wp2_with fail
    go_ret
    exact ⟨rfl, HC.out⟩
  · have HZ := Lib.hid hz
    have HO := Lib.hid ho
    rw [ez, eo]
    clear ez eo hz ho
    go_enter Tryz.func145, Tryz.ntmps145
    go_wp2_with fail
    obtain ⟨W1, hW1⟩ : ∃ W1, w.alloc (.cells #[.iface 64 V, .iface 69 U, .int .u8 c] 69) = W1 := ⟨_, rfl⟩
    rw [hW1]
    have HW : Hid (Below w.heap.size w W1) := by show Below _ _ _; rw [← hW1]; exact (Below.refl _ _).alloc (Nat.le_refl _) _
    have HM0 : Hid (∀ wx : World, Below W1.heap.size W1 wx → wx.heap[B]? = some (.cells #[.iface 64 V, .iface 69 U, .int .u8 c] 69 (0, 0))) := fun wx h => by
      have h0 : W1.heap[B]? = some (.cells #[.iface 64 V, .iface 69 U, .int .u8 c] 69 (0, 0)) := by rw [← hW1, ← HBB.out]; exact heap_alloc_new w _
      exact (h.block _ (Array.getElem?_eq_some_iff.1 h0).1).trans h0
    clear hW1 hB
    refine region_kept (C := fun wx => Below W1.heap.size W1 wx) (drew_at W1) (by kernel_rfl) (by kernel_rfl) ?_
    repeat
      (refine wq_step (fun K hK => ?_)
       go_simp
       first
         | (refine hK _ ?_; clear hK K)
         | (apply Exists.intro
            refine ⟨fun wx hC => ?_, hK _ ?_⟩
            · first
              | with_reducible rfl
              | (go_invoke; go_simp; with_reducible exact ((HZ.out wx).mono fun e w' h => ⟨h.1, hC.trans (h.2.mono hC.size)⟩))
              | (go_invoke; go_simp; with_reducible exact ((HO.out wx).mono fun e w' h => ⟨h.1, hC.trans (h.2.mono hC.size)⟩))
              | (with_reducible exact ((HJ.out wx).mono fun e w' h => ⟨h.1, hC.trans (h.2.mono hC.size)⟩))
              | (obtain ⟨d0, d1, d2⟩ := cells3 (HM0.out wx hC); go_simp; first | done | rfl)
            clear hK K))
    refine wq_nil ?_
    intro w2 hC
    have HC := Lib.hid (HW.out.trans (hC.mono HW.out.size))
    clear hC
    go_simp
    go_wp2_with fail
    go_ret
    exact ⟨rfl, HC.out⟩
  · have HZ := Lib.hid hz
    have HO := Lib.hid ho
    rw [ez, eo]
    clear ez eo hz ho
    go_enter Tryz.func145, Tryz.ntmps145
    go_wp2_with fail
    obtain ⟨W1, hW1⟩ : ∃ W1, w.alloc (.cells #[.iface 69 V, .iface 64 U, .int .u8 c] 69) = W1 := ⟨_, rfl⟩
    rw [hW1]
    have HW : Hid (Below w.heap.size w W1) := by show Below _ _ _; rw [← hW1]; exact (Below.refl _ _).alloc (Nat.le_refl _) _
    have HM0 : Hid (∀ wx : World, Below W1.heap.size W1 wx → wx.heap[B]? = some (.cells #[.iface 69 V, .iface 64 U, .int .u8 c] 69 (0, 0))) := fun wx h => by
      have h0 : W1.heap[B]? = some (.cells #[.iface 69 V, .iface 64 U, .int .u8 c] 69 (0, 0)) := by rw [← hW1, ← HBB.out]; exact heap_alloc_new w _
      exact (h.block _ (Array.getElem?_eq_some_iff.1 h0).1).trans h0
    clear hW1 hB
    refine region_kept (C := fun wx => Below W1.heap.size W1 wx) (drew_at W1) (by kernel_rfl) (by kernel_rfl) ?_
    repeat
      (refine wq_step (fun K hK => ?_)
       go_simp
       first
         | (refine hK _ ?_; clear hK K)
         | (apply Exists.intro
            refine ⟨fun wx hC => ?_, hK _ ?_⟩
            · first
              | with_reducible rfl
              | (go_invoke; go_simp; with_reducible exact ((HZ.out wx).mono fun e w' h => ⟨h.1, hC.trans (h.2.mono hC.size)⟩))
              | (go_invoke; go_simp; with_reducible exact ((HO.out wx).mono fun e w' h => ⟨h.1, hC.trans (h.2.mono hC.size)⟩))
              | (with_reducible exact ((HJ.out wx).mono fun e w' h => ⟨h.1, hC.trans (h.2.mono hC.size)⟩))
              | (obtain ⟨d0, d1, d2⟩ := cells3 (HM0.out wx hC); go_simp; first | done | rfl)
            clear hK K))
    refine wq_nil ?_
    intro w2 hC
    have HC := Lib.hid (HW.out.trans (hC.mono HW.out.size))
    clear hC
    go_simp
    go_wp2_with fail
    go_ret
    exact ⟨rfl, HC.out⟩
  · have HZ := Lib.hid hz
    have HO := Lib.hid ho
    rw [ez, eo]
    clear ez eo hz ho
    go_enter Tryz.func145, Tryz.ntmps145
    go_wp2_with fail
    obtain ⟨W1, hW1⟩ : ∃ W1, w.alloc (.cells #[.iface 69 V, .iface 69 U, .int .u8 c] 69) = W1 := ⟨_, rfl⟩
    rw [hW1]
    have HW : Hid (Below w.heap.size w W1) := by show Below _ _ _; rw [← hW1]; exact (Below.refl _ _).alloc (Nat.le_refl _) _
    have HM0 : Hid (∀ wx : World, Below W1.heap.size W1 wx → wx.heap[B]? = some (.cells #[.iface 69 V, .iface 69 U, .int .u8 c] 69 (0, 0))) := fun wx h => by
      have h0 : W1.heap[B]? = some (.cells #[.iface 69 V, .iface 69 U, .int .u8 c] 69 (0, 0)) := by rw [← hW1, ← HBB.out]; exact heap_alloc_new w _
      exact (h.block _ (Array.getElem?_eq_some_iff.1 h0).1).trans h0
    clear hW1 hB
    refine region_kept (C := fun wx => Below W1.heap.size W1 wx) (drew_at W1) (by kernel_rfl) (by kernel_rfl) ?_
    repeat
      (refine wq_step (fun K hK => ?_)
       go_simp
       first
         | (refine hK _ ?_; clear hK K)
         | (apply Exists.intro
            refine ⟨fun wx hC => ?_, hK _ ?_⟩
            · first
              | with_reducible rfl
              | (go_invoke; go_simp; with_reducible exact ((HZ.out wx).mono fun e w' h => ⟨h.1, hC.trans (h.2.mono hC.size)⟩))
              | (go_invoke; go_simp; with_reducible exact ((HO.out wx).mono fun e w' h => ⟨h.1, hC.trans (h.2.mono hC.size)⟩))
              | (with_reducible exact ((HJ.out wx).mono fun e w' h => ⟨h.1, hC.trans (h.2.mono hC.size)⟩))
              | (obtain ⟨d0, d1, d2⟩ := cells3 (HM0.out wx hC); go_simp; first | done | rfl)
            clear hK K))
    refine wq_nil ?_
    intro w2 hC
    have HC := Lib.hid (HW.out.trans (hC.mono HW.out.size))
    clear hC
    go_simp
    go_wp2_with fail
    go_ret
    exact ⟨rfl, HC.out⟩
theorem tru_to (t : F) (h : wf 3 t) : Node 91 145 t (TruC t) := by
  induction t with
  | lit k v => exact .inl ⟨_, rfl, lit_tru k v h⟩
  | gate a f g ihf ihg => exact .inr ⟨_, rfl, gate_tru a f g (ihf h.1) (ihg h.2)⟩

end Go.Proofs.YtbccachkkflceaaGreatDoor.FmMeth

/-
  More methods of the program's letters and gates: how many letters, the dual; how deep.
-/
namespace Go.Proofs.YtbccachkkflceaaGreatDoor.FmCnt
open Go.RowKit Go.Shelf Go.Proofs.YtbccachkkflceaaGreatDoor.Plain Go.Proofs.YtbccachkkflceaaGreatDoor.Pat Go.Proofs.YtbccachkkflceaaGreatDoor.Fm Go.Proofs.YtbccachkkflceaaGreatDoor.FmB Go.Proofs.YtbccachkkflceaaGreatDoor.Rect Go.Proofs.YtbccachkkflceaaGreatDoor.FmRead Go.Proofs.YtbccachkkflceaaGreatDoor.FmMeth
open Go.Proofs.YtbccachkkflceaaGreatDoor.Wq (WQ wq_step wq_nil region_kept drew_at)
set_option linter.unusedVariables false
set_option linter.unusedSimpArgs false

/-! ### the number of letters -/
def CntC (t : F) (f : FuncId) (V : Value) : Prop := ∀ W : World, Calls Tryz.prog f #[V] W fun e w' => e = .returned (.int .i64 (size t : Int)) ∧ Below W.heap.size W w'
/-- a gate counts by its parts -/
def NodeP (fe fs : FuncId) (t : F) (C : FuncId → Value → Prop) : Prop :=
  (∃ V, tree t = .iface 64 V ∧ C fe V) ∨ (∃ X Y Z, tree t = .iface 69 (.agg #[X, Y, Z]) ∧ C fs (.agg #[X, Y]))
theorem take2 (a b c : Value) (h : 67 < Tryz.prog.types.size) : (List.take (Tryz.prog.types[67]'h).size [a, b, c]).toArray = #[a, b] := by kernel_rfl
set_option maxHeartbeats 1000000 in
theorem lit_cnt (k : Int) (v : Bool) : CntC (.lit 0 v) 132 (litV k v) := by
  intro w
  unfold litV
  go_enter Tryz.func132, Tryz.ntmps132
  go_wp2
  go_ret
  exact ⟨rfl, by go_grown⟩
set_option maxHeartbeats 4000000 in
set_option maxRecDepth 100000 in
theorem gate_cnt (a : Bool) (f g : F) (hl : size f + size g ≤ 8000000) (hZ : NodeP 132 142 f (CntC f)) (hO : NodeP 132 142 g (CntC g)) : CntC (.gate a f g) 142 (.agg #[tree f, tree g]) := by
  intro w
  unfold CntC at hZ hO
  have hm : size (.gate a f g) = size f + size g := rfl
  rw [hm]
  clear hm
  generalize size f = m at *
  generalize size g = n at *
  have HWR : Hid (IntKind.i64.wrap ((m : Int) + (n : Int)) = ((m + n : Nat) : Int)) := by show _ = _; simp only [IntKind.wrap_i64, wrap64]; omega
  obtain ⟨B, hB⟩ : ∃ B, w.heap.size = B := ⟨_, rfl⟩
  have HBB := Lib.hid hB
  rcases hZ with ⟨V, ez, hz⟩ | ⟨X, Y, Z, ez, hz⟩ <;> rcases hO with ⟨U, eo, ho⟩ | ⟨P, Q, R, eo, ho⟩
  · have HZ := Lib.hid hz
    have HO := Lib.hid ho
    rw [ez, eo]
    clear ez eo hz ho
    go_enter Tryz.func142, Tryz.ntmps142
    go_wp2_with fail
    obtain ⟨W1, hW1⟩ : ∃ W1, w.alloc (.cells #[.iface 64 V, .iface 64 U] 67) = W1 := ⟨_, rfl⟩
    rw [hW1]
    have HW : Hid (Below w.heap.size w W1) := by show Below _ _ _; rw [← hW1]; exact (Below.refl _ _).alloc (Nat.le_refl _) _
    have HM0 : Hid (∀ wx : World, Below W1.heap.size W1 wx → wx.heap[B]? = some (.cells #[.iface 64 V, .iface 64 U] 67 (0, 0))) := fun wx h => by
      have h0 : W1.heap[B]? = some (.cells #[.iface 64 V, .iface 64 U] 67 (0, 0)) := by rw [← hW1, ← HBB.out]; exact heap_alloc_new w _
      exact (h.block _ (Array.getElem?_eq_some_iff.1 h0).1).trans h0
    clear hW1 hB
    refine region_kept (C := fun wx => Below W1.heap.size W1 wx) (drew_at W1) (by kernel_rfl) (by kernel_rfl) ?_
    repeat
      (refine wq_step (fun K hK => ?_)
       go_simp
       first
         | (refine hK _ ?_; clear hK K)
         | (apply Exists.intro
            refine ⟨fun wx hC => ?_, hK _ ?_⟩
            · first
              | with_reducible rfl
              | (go_invoke; go_simp; with_reducible exact ((HZ.out wx).mono fun e w' h => ⟨h.1, hC.trans (h.2.mono hC.size)⟩))
              | (go_invoke; go_simp; with_reducible exact ((HO.out wx).mono fun e w' h => ⟨h.1, hC.trans (h.2.mono hC.size)⟩))
              | (go_invoke; go_simp; rw [take2]; with_reducible exact ((HZ.out wx).mono fun e w' h => ⟨h.1, hC.trans (h.2.mono hC.size)⟩))
              | (go_invoke; go_simp; rw [take2]; with_reducible exact ((HO.out wx).mono fun e w' h => ⟨h.1, hC.trans (h.2.mono hC.size)⟩))
              | (obtain ⟨d0, d1⟩ := cells2 (HM0.out wx hC); go_simp; first | done | rfl)
            clear hK K))
    refine wq_nil ?_
    intro w2 hC
    have HC := Lib.hid (HW.out.trans (hC.mono HW.out.size))
    clear hC
    go_simp
    go_wp2_with fail
    go_ret
    exact ⟨by first | rfl | (rw [HWR.out]; rfl), HC.out⟩
  · have HZ := Lib.hid hz
    have HO := Lib.hid ho
    rw [ez, eo]
    clear ez eo hz ho
    go_enter Tryz.func142, Tryz.ntmps142
    go_wp2_with fail
    obtain ⟨W1, hW1⟩ : ∃ W1, w.alloc (.cells #[.iface 64 V, .iface 69 (.agg #[P, Q, R])] 67) = W1 := ⟨_, rfl⟩
    rw [hW1]
    have HW : Hid (Below w.heap.size w W1) := by show Below _ _ _; rw [← hW1]; exact (Below.refl _ _).alloc (Nat.le_refl _) _
    have HM0 : Hid (∀ wx : World, Below W1.heap.size W1 wx → wx.heap[B]? = some (.cells #[.iface 64 V, .iface 69 (.agg #[P, Q, R])] 67 (0, 0))) := fun wx h => by
      have h0 : W1.heap[B]? = some (.cells #[.iface 64 V, .iface 69 (.agg #[P, Q, R])] 67 (0, 0)) := by rw [← hW1, ← HBB.out]; exact heap_alloc_new w _
      exact (h.block _ (Array.getElem?_eq_some_iff.1 h0).1).trans h0
    clear hW1 hB
    refine region_kept (C := fun wx => Below W1.heap.size W1 wx) (drew_at W1) (by kernel_rfl) (by kernel_rfl) ?_
    repeat
      (refine wq_step (fun K hK => ?_)
       go_simp
       first
         | (refine hK _ ?_; clear hK K)
         | (apply Exists.intro
            refine ⟨fun wx hC => ?_, hK _ ?_⟩
            · first
              | with_reducible rfl
              | (go_invoke; go_simp; with_reducible exact ((HZ.out wx).mono fun e w' h => ⟨h.1, hC.trans (h.2.mono hC.size)⟩))
              | (go_invoke; go_simp; with_reducible exact ((HO.out wx).mono fun e w' h => ⟨h.1, hC.trans (h.2.mono hC.size)⟩))
              | (go_invoke; go_simp; rw [take2]; with_reducible exact ((HZ.out wx).mono fun e w' h => ⟨h.1, hC.trans (h.2.mono hC.size)⟩))
              | (go_invoke; go_simp; rw [take2]; with_reducible exact ((HO.out wx).mono fun e w' h => ⟨h.1, hC.trans (h.2.mono hC.size)⟩))
              | (obtain ⟨d0, d1⟩ := cells2 (HM0.out wx hC); go_simp; first | done | rfl)
            clear hK K))
    refine wq_nil ?_
    intro w2 hC
    have HC := Lib.hid (HW.out.trans (hC.mono HW.out.size))
    clear hC
    go_simp
    go_wp2_with fail
    go_ret
    exact ⟨by first | rfl | (rw [HWR.out]; rfl), HC.out⟩
  · have HZ := Lib.hid hz
    have HO := Lib.hid ho
    rw [ez, eo]
    clear ez eo hz ho
    go_enter Tryz.func142, Tryz.ntmps142
    go_wp2_with fail
    obtain ⟨W1, hW1⟩ : ∃ W1, w.alloc (.cells #[.iface 69 (.agg #[X, Y, Z]), .iface 64 U] 67) = W1 := ⟨_, rfl⟩
    rw [hW1]
    have HW : Hid (Below w.heap.size w W1) := by show Below _ _ _; rw [← hW1]; exact (Below.refl _ _).alloc (Nat.le_refl _) _
    have HM0 : Hid (∀ wx : World, Below W1.heap.size W1 wx → wx.heap[B]? = some (.cells #[.iface 69 (.agg #[X, Y, Z]), .iface 64 U] 67 (0, 0))) := fun wx h => by
      have h0 : W1.heap[B]? = some (.cells #[.iface 69 (.agg #[X, Y, Z]), .iface 64 U] 67 (0, 0)) := by rw [← hW1, ← HBB.out]; exact heap_alloc_new w _
      exact (h.block _ (Array.getElem?_eq_some_iff.1 h0).1).trans h0
    clear hW1 hB
    refine region_kept (C := fun wx => Below W1.heap.size W1 wx) (drew_at W1) (by kernel_rfl) (by kernel_rfl) ?_
    repeat
      (refine wq_step (fun K hK => ?_)
       go_simp
       first
         | (refine hK _ ?_; clear hK K)
         | (apply Exists.intro
            refine ⟨fun wx hC => ?_, hK _ ?_⟩
            · first
              | with_reducible rfl
              | (go_invoke; go_simp; with_reducible exact ((HZ.out wx).mono fun e w' h => ⟨h.1, hC.trans (h.2.mono hC.size)⟩))
              | (go_invoke; go_simp; with_reducible exact ((HO.out wx).mono fun e w' h => ⟨h.1, hC.trans (h.2.mono hC.size)⟩))
              | (go_invoke; go_simp; rw [take2]; with_reducible exact ((HZ.out wx).mono fun e w' h => ⟨h.1, hC.trans (h.2.mono hC.size)⟩))
              | (go_invoke; go_simp; rw [take2]; with_reducible exact ((HO.out wx).mono fun e w' h => ⟨h.1, hC.trans (h.2.mono hC.size)⟩))
              | (obtain ⟨d0, d1⟩ := cells2 (HM0.out wx hC); go_simp; first | done | rfl)
            clear hK K))
    refine wq_nil ?_
    intro w2 hC
    have HC := Lib.hid (HW.out.trans (hC.mono HW.out.size))
    clear hC
    go_simp
    go_wp2_with fail
    go_ret
    exact ⟨by first | rfl | (rw [HWR.out]; rfl), HC.out⟩
  · have HZ := Lib.hid hz
    have HO := Lib.hid ho
    rw [ez, eo]
    clear ez eo hz ho
    go_enter Tryz.func142, Tryz.ntmps142
    go_wp2_with fail
    obtain ⟨W1, hW1⟩ : ∃ W1, w.alloc (.cells #[.iface 69 (.agg #[X, Y, Z]), .iface 69 (.agg #[P, Q, R])] 67) = W1 := ⟨_, rfl⟩
    rw [hW1]
    have HW : Hid (Below w.heap.size w W1) := by show Below _ _ _; rw [← hW1]; exact (Below.refl _ _).alloc (Nat.le_refl _) _
    have HM0 : Hid (∀ wx : World, Below W1.heap.size W1 wx → wx.heap[B]? = some (.cells #[.iface 69 (.agg #[X, Y, Z]), .iface 69 (.agg #[P, Q, R])] 67 (0, 0))) := fun wx h => by
      have h0 : W1.heap[B]? = some (.cells #[.iface 69 (.agg #[X, Y, Z]), .iface 69 (.agg #[P, Q, R])] 67 (0, 0)) := by rw [← hW1, ← HBB.out]; exact heap_alloc_new w _
      exact (h.block _ (Array.getElem?_eq_some_iff.1 h0).1).trans h0
    clear hW1 hB
    refine region_kept (C := fun wx => Below W1.heap.size W1 wx) (drew_at W1) (by kernel_rfl) (by kernel_rfl) ?_
    repeat
      (refine wq_step (fun K hK => ?_)
       go_simp
       first
         | (refine hK _ ?_; clear hK K)
         | (apply Exists.intro
            refine ⟨fun wx hC => ?_, hK _ ?_⟩
            · first
              | with_reducible rfl
              | (go_invoke; go_simp; with_reducible exact ((HZ.out wx).mono fun e w' h => ⟨h.1, hC.trans (h.2.mono hC.size)⟩))
              | (go_invoke; go_simp; with_reducible exact ((HO.out wx).mono fun e w' h => ⟨h.1, hC.trans (h.2.mono hC.size)⟩))
              | (go_invoke; go_simp; rw [take2]; with_reducible exact ((HZ.out wx).mono fun e w' h => ⟨h.1, hC.trans (h.2.mono hC.size)⟩))
              | (go_invoke; go_simp; rw [take2]; with_reducible exact ((HO.out wx).mono fun e w' h => ⟨h.1, hC.trans (h.2.mono hC.size)⟩))
              | (obtain ⟨d0, d1⟩ := cells2 (HM0.out wx hC); go_simp; first | done | rfl)
            clear hK K))
    refine wq_nil ?_
    intro w2 hC
    have HC := Lib.hid (HW.out.trans (hC.mono HW.out.size))
    clear hC
    go_simp
    go_wp2_with fail
    go_ret
    exact ⟨by first | rfl | (rw [HWR.out]; rfl), HC.out⟩
theorem cnt_to (t : F) (hl : size t ≤ 8000000) : NodeP 132 142 t (CntC t) := by
  induction t with
  | lit k v => exact .inl ⟨_, rfl, lit_cnt k v⟩
  | gate a f g ihf ihg =>
    have h1 : size f + size g ≤ 8000000 := hl
    exact .inr ⟨_, _, _, rfl, gate_cnt a f g h1 (ihf (by omega)) (ihg (by omega))⟩

/-! ### the dual -/
def DuaC (t : F) (f : FuncId) (V : Value) : Prop := ∀ W : World, Calls Tryz.prog f #[V] W fun e w' => e = .returned (tree (dual t)) ∧ Below W.heap.size W w'
set_option maxHeartbeats 1000000 in
theorem lit_dua (k : Nat) (v : Bool) : DuaC (.lit k v) 133 (litV (k : Int) v) := by
  intro w
  show Calls _ _ _ _ fun e w' => e = .returned (.iface 64 (.agg #[.int .i64 (k : Int), .int .i64 (bitI (!v))])) ∧ _
  unfold litV
  have hs : IntKind.i64.wrap (1 - bitI v) = bitI (!v) := by cases v <;> rfl
  generalize bitI (!v) = bn at *
  generalize bitI v = bv at *
  go_enter Tryz.func133, Tryz.ntmps133
  go_wp2
  go_ret
  exact ⟨by first | rfl | (rw [hs]; rfl), by go_grown⟩
set_option maxHeartbeats 4000000 in
set_option maxRecDepth 100000 in
theorem gate_dua (a : Bool) (f g : F) (hZ : Go.Proofs.YtbccachkkflceaaGreatDoor.FmMeth.Node 133 144 f (DuaC f)) (hO : Go.Proofs.YtbccachkkflceaaGreatDoor.FmMeth.Node 133 144 g (DuaC g)) : DuaC (.gate a f g) 144 (gateV a (tree f) (tree g)) := by
  intro w
  unfold DuaC at hZ hO
  show Calls _ _ _ _ fun e w' => e = .returned (.iface 69 (.agg #[tree (dual f), tree (dual g), .int .u8 ((sgn (!a)).toNat : Int)])) ∧ _
  unfold gateV
  have hs : IntKind.u8.wrap (162 - ((sgn a).toNat : Int)) = ((sgn (!a)).toNat : Int) := by cases a <;> rfl
  obtain ⟨t1, v1, e1⟩ := tree_iface (dual f)
  obtain ⟨t2, v2, e2⟩ := tree_iface (dual g)
  rw [e1] at hZ ⊢
  rw [e2] at hO ⊢
  clear e1 e2
  generalize ((sgn (!a)).toNat : Int) = c2 at *
  generalize ((sgn a).toNat : Int) = c at *
  obtain ⟨B, hB⟩ : ∃ B, w.heap.size = B := ⟨_, rfl⟩
  have HBB := Lib.hid hB
  rcases hZ with ⟨V, ez, hz⟩ | ⟨V, ez, hz⟩ <;> rcases hO with ⟨U, eo, ho⟩ | ⟨U, eo, ho⟩
  · have HZ := Lib.hid hz
    have HO := Lib.hid ho
    rw [ez, eo]
    clear ez eo hz ho
    go_enter Tryz.func144, Tryz.ntmps144
    go_wp2_with fail
    obtain ⟨W1, hW1⟩ : ∃ W1, w.alloc (.cells #[.iface 64 V, .iface 64 U, .int .u8 c] 69) = W1 := ⟨_, rfl⟩
    rw [hW1]
    have HW : Hid (Below w.heap.size w W1) := by show Below _ _ _; rw [← hW1]; exact (Below.refl _ _).alloc (Nat.le_refl _) _
    have HM0 : Hid (∀ wx : World, Below W1.heap.size W1 wx → wx.heap[B]? = some (.cells #[.iface 64 V, .iface 64 U, .int .u8 c] 69 (0, 0))) := fun wx h => by
      have h0 : W1.heap[B]? = some (.cells #[.iface 64 V, .iface 64 U, .int .u8 c] 69 (0, 0)) := by rw [← hW1, ← HBB.out]; exact heap_alloc_new w _
      exact (h.block _ (Array.getElem?_eq_some_iff.1 h0).1).trans h0
    clear hW1 hB
    refine region_kept (C := fun wx => Below W1.heap.size W1 wx) (drew_at W1) (by kernel_rfl) (by kernel_rfl) ?_
    repeat
      (refine wq_step (fun K hK => ?_)
       go_simp
       first
         | (refine hK _ ?_; clear hK K)
         | (apply Exists.intro
            refine ⟨fun wx hC => ?_, hK _ ?_⟩
            · first
              | with_reducible rfl
              | (go_invoke; go_simp; with_reducible exact ((HZ.out wx).mono fun e w' h => ⟨h.1, hC.trans (h.2.mono hC.size)⟩))
              | (go_invoke; go_simp; with_reducible exact ((HO.out wx).mono fun e w' h => ⟨h.1, hC.trans (h.2.mono hC.size)⟩))
              | (obtain ⟨d0, d1, d2⟩ := cells3 (HM0.out wx hC); go_simp; first | done | rfl)
            clear hK K))
    refine wq_nil ?_
    intro w2 hC
    have HC := Lib.hid (HW.out.trans (hC.mono HW.out.size))
    clear hC
    go_simp
    go_wp2_with fail
    go_ret
    exact ⟨by first | rfl | (rw [hs]; rfl), HC.out⟩
  · have HZ := Lib.hid hz
    have HO := Lib.hid ho
    rw [ez, eo]
    clear ez eo hz ho
    go_enter Tryz.func144, Tryz.ntmps144
    go_wp2_with fail
    obtain ⟨W1, hW1⟩ : ∃ W1, w.alloc (.cells #[.iface 64 V, .iface 69 U, .int .u8 c] 69) = W1 := ⟨_, rfl⟩
    rw [hW1]
    have HW : Hid (Below w.heap.size w W1) := by show Below _ _ _; rw [← hW1]; exact (Below.refl _ _).alloc (Nat.le_refl _) _
    have HM0 : Hid (∀ wx : World, Below W1.heap.size W1 wx → wx.heap[B]? = some (.cells #[.iface 64 V, .iface 69 U, .int .u8 c] 69 (0, 0))) := fun wx h => by
      have h0 : W1.heap[B]? = some (.cells #[.iface 64 V, .iface 69 U, .int .u8 c] 69 (0, 0)) := by rw [← hW1, ← HBB.out]; exact heap_alloc_new w _
      exact (h.block _ (Array.getElem?_eq_some_iff.1 h0).1).trans h0
    clear hW1 hB
    refine region_kept (C := fun wx => Below W1.heap.size W1 wx) (drew_at W1) (by kernel_rfl) (by kernel_rfl) ?_
    repeat
      (refine wq_step (fun K hK => ?_)
       go_simp
       first
         | (refine hK _ ?_; clear hK K)
         | (apply Exists.intro
            refine ⟨fun wx hC => ?_, hK _ ?_⟩
            · first
              | with_reducible rfl
              | (go_invoke; go_simp; with_reducible exact ((HZ.out wx).mono fun e w' h => ⟨h.1, hC.trans (h.2.mono hC.size)⟩))
              | (go_invoke; go_simp; with_reducible exact ((HO.out wx).mono fun e w' h => ⟨h.1, hC.trans (h.2.mono hC.size)⟩))
              | (obtain ⟨d0, d1, d2⟩ := cells3 (HM0.out wx hC); go_simp; first | done | rfl)
            clear hK K))
    refine wq_nil ?_
    intro w2 hC
    have HC := Lib.hid (HW.out.trans (hC.mono HW.out.size))
    clear hC
    go_simp
    go_wp2_with fail
    go_ret
    exact ⟨by first | rfl | (rw [hs]; rfl), HC.out⟩
  · have HZ := Lib.hid hz
    have HO := Lib.hid ho
    rw [ez, eo]
    clear ez eo hz ho
    go_enter Tryz.func144, Tryz.ntmps144
    go_wp2_with fail
    obtain ⟨W1, hW1⟩ : ∃ W1, w.alloc (.cells #[.iface 69 V, .iface 64 U, .int .u8 c] 69) = W1 := ⟨_, rfl⟩
    rw [hW1]
    have HW : Hid (Below w.heap.size w W1) := by show Below _ _ _; rw [← hW1]; exact (Below.refl _ _).alloc (Nat.le_refl _) _
    have HM0 : Hid (∀ wx : World, Below W1.heap.size W1 wx → wx.heap[B]? = some (.cells #[.iface 69 V, .iface 64 U, .int .u8 c] 69 (0, 0))) := fun wx h => by
      have h0 : W1.heap[B]? = some (.cells #[.iface 69 V, .iface 64 U, .int .u8 c] 69 (0, 0)) := by rw [← hW1, ← HBB.out]; exact heap_alloc_new w _
      exact (h.block _ (Array.getElem?_eq_some_iff.1 h0).1).trans h0
    clear hW1 hB
    refine region_kept (C := fun wx => Below W1.heap.size W1 wx) (drew_at W1) (by kernel_rfl) (by kernel_rfl) ?_
    repeat
      (refine wq_step (fun K hK => ?_)
       go_simp
       first
         | (refine hK _ ?_; clear hK K)
         | (apply Exists.intro
            refine ⟨fun wx hC => ?_, hK _ ?_⟩
            · first
              | with_reducible rfl
              | (go_invoke; go_simp; with_reducible exact ((HZ.out wx).mono fun e w' h => ⟨h.1, hC.trans (h.2.mono hC.size)⟩))
              | (go_invoke; go_simp; with_reducible exact ((HO.out wx).mono fun e w' h => ⟨h.1, hC.trans (h.2.mono hC.size)⟩))
              | (obtain ⟨d0, d1, d2⟩ := cells3 (HM0.out wx hC); go_simp; first | done | rfl)
            clear hK K))
    refine wq_nil ?_
    intro w2 hC
    have HC := Lib.hid (HW.out.trans (hC.mono HW.out.size))
    clear hC
    go_simp
    go_wp2_with fail
    go_ret
    exact ⟨by first | rfl | (rw [hs]; rfl), HC.out⟩
  · have HZ := Lib.hid hz
    have HO := Lib.hid ho
    rw [ez, eo]
    clear ez eo hz ho
    go_enter Tryz.func144, Tryz.ntmps144
    go_wp2_with fail
    obtain ⟨W1, hW1⟩ : ∃ W1, w.alloc (.cells #[.iface 69 V, .iface 69 U, .int .u8 c] 69) = W1 := ⟨_, rfl⟩
    rw [hW1]
    have HW : Hid (Below w.heap.size w W1) := by show Below _ _ _; rw [← hW1]; exact (Below.refl _ _).alloc (Nat.le_refl _) _
    have HM0 : Hid (∀ wx : World, Below W1.heap.size W1 wx → wx.heap[B]? = some (.cells #[.iface 69 V, .iface 69 U, .int .u8 c] 69 (0, 0))) := fun wx h => by
      have h0 : W1.heap[B]? = some (.cells #[.iface 69 V, .iface 69 U, .int .u8 c] 69 (0, 0)) := by rw [← hW1, ← HBB.out]; exact heap_alloc_new w _
      exact (h.block _ (Array.getElem?_eq_some_iff.1 h0).1).trans h0
    clear hW1 hB
    refine region_kept (C := fun wx => Below W1.heap.size W1 wx) (drew_at W1) (by kernel_rfl) (by kernel_rfl) ?_
    repeat
      (refine wq_step (fun K hK => ?_)
       go_simp
       first
         | (refine hK _ ?_; clear hK K)
         | (apply Exists.intro
            refine ⟨fun wx hC => ?_, hK _ ?_⟩
            · first
              | with_reducible rfl
              | (go_invoke; go_simp; with_reducible exact ((HZ.out wx).mono fun e w' h => ⟨h.1, hC.trans (h.2.mono hC.size)⟩))
              | (go_invoke; go_simp; with_reducible exact ((HO.out wx).mono fun e w' h => ⟨h.1, hC.trans (h.2.mono hC.size)⟩))
              | (obtain ⟨d0, d1, d2⟩ := cells3 (HM0.out wx hC); go_simp; first | done | rfl)
            clear hK K))
    refine wq_nil ?_
    intro w2 hC
    have HC := Lib.hid (HW.out.trans (hC.mono HW.out.size))
    clear hC
    go_simp
    go_wp2_with fail
    go_ret
    exact ⟨by first | rfl | (rw [hs]; rfl), HC.out⟩
theorem dua_to (t : F) : Go.Proofs.YtbccachkkflceaaGreatDoor.FmMeth.Node 133 144 t (DuaC t) := by
  induction t with
  | lit k v => exact .inl ⟨_, rfl, lit_dua k v⟩
  | gate a f g ihf ihg => exact .inr ⟨_, rfl, gate_dua a f g ihf ihg⟩

/-! ### how deep -/
theorem as_gate (v : Value) (w : World) : (Instr.typeAssert (.iface 69 v) 37 69 true).run Tryz.prog w = .ok (.tuple #[v, .bool true]) w := by kernel_rfl
theorem as_lit (v : Value) (w : World) : (Instr.typeAssert (.iface 64 v) 37 69 true).run Tryz.prog w = .ok (.tuple #[.agg #[.nilIface, .nilIface, .int .u8 0], .bool false]) w := by kernel_rfl
set_option maxHeartbeats 4000000 in
set_option maxRecDepth 100000 in
theorem deep_w (t : F) : size t ≤ 8000000 → ∀ w : World, Calls Tryz.prog 32 #[tree t] w fun e w' => e = .returned (.int .i64 (deep t : Int)) ∧ Below w.heap.size w w' := by
  induction t with
  | lit k v =>
    intro hl w
    show Calls _ _ #[.iface 64 (litV (k : Int) v)] _ fun e w' => e = .returned (.int .i64 0) ∧ _
    generalize litV (k : Int) v = bi
    have has := as_lit
    go_enter Tryz.func32, Tryz.ntmps32
    go_wp2_with fail
    go_ret
    exact ⟨rfl, by go_grown⟩
  | gate a f g ihf ihg =>
    intro hl w
    have h1 : size f + size g ≤ 8000000 := hl
    have hZ := ihf (by omega)
    have hO := ihg (by omega)
    have b1 := deep_lt f
    have b2 := deep_lt g
    show Calls _ _ #[.iface 69 (.agg #[tree f, tree g, .int .u8 ((sgn a).toNat : Int)])] _ fun e w' => e = .returned (.int .i64 ((1 + max (deep f) (deep g) : Nat) : Int)) ∧ _
    have L1 : deep f ≤ 8000000 := by omega
    have L2 : deep g ≤ 8000000 := by omega
    clear ihf ihg b1 b2 h1 hl
    generalize deep f = m at *
    generalize deep g = n at *
    generalize ((sgn a).toNat : Int) = c
    obtain ⟨t1, v1, e1⟩ := tree_iface f
    obtain ⟨t2, v2, e2⟩ := tree_iface g
    rw [e1] at hZ ⊢
    rw [e2] at hO ⊢
    clear e1 e2
    have HZ := Lib.hid hZ
    have HO := Lib.hid hO
    have HM : Hid (((1 + max m n : Nat) : Int) = 1 + max (m : Int) (n : Int)) := by show _ = _; omega
    have HWR : Hid (IntKind.i64.wrap (1 + max (m : Int) (n : Int)) = 1 + max (m : Int) (n : Int)) := by show _ = _; simp only [IntKind.wrap_i64, wrap64]; omega
    clear hZ hO
    have has := as_gate
    obtain ⟨B, hB⟩ : ∃ B, w.heap.size = B := ⟨_, rfl⟩
    have HBB := Lib.hid hB
    go_enter Tryz.func32, Tryz.ntmps32
    go_wp2_with fail
    obtain ⟨W1, hW1⟩ : ∃ W1, w.alloc (.cells #[.iface t1 v1, .iface t2 v2, .int .u8 c] 69) = W1 := ⟨_, rfl⟩
    rw [hW1]
    have HW : Hid (Below w.heap.size w W1) := by show Below _ _ _; rw [← hW1]; exact (Below.refl _ _).alloc (Nat.le_refl _) _
    have HM0 : Hid (∀ wx : World, Below W1.heap.size W1 wx → wx.heap[B]? = some (.cells #[.iface t1 v1, .iface t2 v2, .int .u8 c] 69 (0, 0))) := fun wx h => by
      have h0 : W1.heap[B]? = some (.cells #[.iface t1 v1, .iface t2 v2, .int .u8 c] 69 (0, 0)) := by rw [← hW1, ← HBB.out]; exact heap_alloc_new w _
      exact (h.block _ (Array.getElem?_eq_some_iff.1 h0).1).trans h0
    clear hW1 hB
    refine region_kept (C := fun wx => Below W1.heap.size W1 wx) (drew_at W1) (by kernel_rfl) (by kernel_rfl) ?_
    repeat
      (refine wq_step (fun K hK => ?_)
       go_simp
       first
         | (refine hK _ ?_; clear hK K)
         | (apply Exists.intro
            refine ⟨fun wx hC => ?_, hK _ ?_⟩
            · first
              | with_reducible rfl
              | (with_reducible exact ((HZ.out wx).mono fun e w' h => ⟨h.1, hC.trans (h.2.mono hC.size)⟩))
              | (with_reducible exact ((HO.out wx).mono fun e w' h => ⟨h.1, hC.trans (h.2.mono hC.size)⟩))
              | (obtain ⟨d0, d1, d2⟩ := cells3 (HM0.out wx hC); go_simp; first | done | rfl)
            clear hK K))
    refine wq_nil ?_
    intro w2 hC
    have HC := Lib.hid (HW.out.trans (hC.mono HW.out.size))
    clear hC
    go_simp
    go_wp2_with fail
    go_ret
    exact ⟨by rw [HM.out]; first | rfl | (rw [HWR.out]; rfl), HC.out⟩
end Go.Proofs.YtbccachkkflceaaGreatDoor.FmCnt

