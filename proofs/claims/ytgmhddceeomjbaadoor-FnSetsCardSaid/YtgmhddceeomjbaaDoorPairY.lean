/-
  The program's PairMatrices where it answers.
-/
import Derived.Test.YtgmhddceeomjbaaDoorPairI
namespace Go.Proofs.YtgmhddceeomjbaaDoor.PairY
open Go.RowKit Go.Proofs.YtgmhddceeomjbaaDoor.Plain Go.Proofs.YtgmhddceeomjbaaDoor.Base Go.Proofs.YtgmhddceeomjbaaDoor.Valid Go.Proofs.YtgmhddceeomjbaaDoor.Law Go.Proofs.YtgmhddceeomjbaaDoor.GridPlain Go.Proofs.YtgmhddceeomjbaaDoor.Grid Go.Proofs.YtgmhddceeomjbaaDoor.Entry Go.Proofs.YtgmhddceeomjbaaDoor.From Go.Proofs.YtgmhddceeomjbaaDoor.JoinB Go.Proofs.YtgmhddceeomjbaaDoor.Ops Go.Proofs.YtgmhddceeomjbaaDoor.Join Go.Proofs.YtgmhddceeomjbaaDoor.JoinI Go.Proofs.YtgmhddceeomjbaaDoor.PairI Go.Proofs.YtgmhddceeomjbaaDoor.FreeL Go.Proofs.YtgmhddceeomjbaaDoor.FreeW
open Go.Proofs.YtgmhddceeomjbaaDoor.Free (fill wp_value wp_enter wp_load_row freeB)
set_option linter.unusedVariables false


set_option maxHeartbeats 2000000 in
set_option maxRecDepth 100000 in
theorem impl_yes (op : ByteArray) (hk : opKnown op = true) (r c r2 c2 : Nat) (hr : 1 ≤ r) (hr8 : r ≤ 8) (hc : 1 ≤ c) (hc8 : c ≤ 8) (hr2 : 1 ≤ r2) (hr28 : r2 ≤ 8) (hc2 : 1 ≤ c2) (hc28 : c2 ≤ 8) (R C : Nat) (hR : R = r * r2) (hC : C = c * c2) (hR1 : 1 ≤ R) (hR8 : R ≤ 8) (hC1 : 1 ≤ C) (hC8 : C ≤ 8) (E G : Nat → Nat → Bool) (s1 s2 : ByteArray) (hg1 : ∀ W : World, Calls Tryd.prog 64 #[mat r c s1] W fun e w' => e = .returned (gval r c (gpart E c (r * c))) ∧ Below W.heap.size W w')
    (hg2 : ∀ W : World, Calls Tryd.prog 64 #[mat r2 c2 s2] W fun e w' => e = .returned (gval r2 c2 (gpart G c2 (r2 * c2))) ∧ Below W.heap.size W w') (w : World) :
    Calls Tryd.prog 54 #[.string op, mat r c s1, mat r2 c2 s2] w fun e w' => e = .returned (.tuple #[mat R C (str (rowsB (pairE op E G r2 c2) R C)), .bool true]) ∧ Below w.heap.size w w' := by
  obtain ⟨gg, ho, hgg, hcomb⟩ := oper_yes op hk
  have hp : wrap64 ((r : Int) * (r2 : Int)) = (R : Int) := by rw [hR]; exact wrap_prod r r2 hr8 hr28
  have hq : wrap64 ((c : Int) * (c2 : Int)) = (C : Int) := by rw [hC]; exact wrap_prod c c2 hc8 hc28
  have HR := Lib.hid hR
  have HC := Lib.hid hC
  have HG1 := Lib.hid hg1
  have HG2 := Lib.hid hg2
  have HO := Lib.hid ho
  have HGG := Lib.hid hgg
  have HCO := Lib.hid hcomb
  clear hg1 hg2 hk ho hgg hcomb hR hC
  go_enter Tryd.func54, Tryd.ntmps54
  go_wp2_with fail
  have HI0 := Lib.hid (BInv3.start w r c r2 c2 s1 s2)
  generalize ((w.alloc (.cells #[.int .i64 (r : Int), .int .i64 (c : Int), .string s1] 27)).alloc (.cells #[.int .i64 (r2 : Int), .int .i64 (c2 : Int), .string s2] 27)).alloc (.cells #[.int .i64 0, .int .i64 0, .string ⟨#[]⟩] 27) = W0 at *
  refine wp_region_two (fun | 0 => mat r c s1 | 1 => gval r c (gpart E c (r * c)) | 2 => mat r2 c2 s2 | 3 => gval r2 c2 (gpart G c2 (r2 * c2)) | _ => undef) _ 4 5 6 7 8 9 78 (gcells 0 0 (fun _ => 0)) (gcells r c (gpart E c (r * c))) (gcells r2 c2 (gpart G c2 (r2 * c2))) _ _ _ _
    (by kernel_rfl) (by kernel_rfl) rfl rfl rfl rfl rfl rfl rfl rfl rfl rfl (by decide) (by decide) ⟨_, List.mem_toArray.2 List.mem_cons_self, rfl, rfl⟩ ⟨_, List.mem_toArray.2 List.mem_cons_self, rfl, rfl⟩ ?oth rfl rfl ?al1 ?al2 ?st1 ?st2 ?con ?en
  case oth =>
    intro i o ho hk
    match i, ho, hk with
    | 0, ho, _ => obtain rfl := Option.some.inj ho; exact ⟨by decide, by decide⟩
    | 1, ho, _ => obtain rfl := Option.some.inj ho; exact ⟨by decide, by decide⟩
    | 2, ho, _ => obtain rfl := Option.some.inj ho; exact ⟨by decide, by decide⟩
    | 3, ho, _ => obtain rfl := Option.some.inj ho; exact ⟨by decide, by decide⟩
    | 4, _, hk => exact absurd hk (by decide)
    | 5, _, hk => exact absurd hk (by decide)
    | 6, _, hk => exact absurd hk (by decide)
    | 7, _, hk => exact absurd hk (by decide)
    | q + 8, ho, _ => simp at ho
  case al1 =>
    intro a w
    unfold execOp
    go_simp
    rw [gzero]
  case al2 =>
    intro a w
    unfold execOp
    go_simp
    rw [gzero]
  case st1 =>
    intro a w1 b old hf hp hg ho
    have e13 : a.tmps[13]?.getD undef = gval r c (gpart E c (r * c)) := hf.1 ⟨1, .data⟩ (by simp) rfl _ 13 rfl rfl rfl
    exact wp_store_row 78 (.tmp 8) (.tmp 13) rfl b (gcells r c (gpart E c (r * c))) (eval_get (by rw [hp]; rfl) trivial) (eval_get e13 trivial) 78 old hg (ginfo' _ _ _) (by rcases ho with rfl | rfl <;> simp only [gsize]) (gone _ _ _) ⟨rfl, rfl⟩
  case st2 =>
    intro a w1 b old hf hp hg ho
    have e15 : a.tmps[15]?.getD undef = gval r2 c2 (gpart G c2 (r2 * c2)) := hf.1 ⟨3, .data⟩ (by simp) rfl _ 15 rfl rfl rfl
    exact wp_store_row 78 (.tmp 9) (.tmp 15) rfl b (gcells r2 c2 (gpart G c2 (r2 * c2))) (eval_get (by rw [hp]; rfl) trivial) (eval_get e15 trivial) 78 old hg (ginfo' _ _ _) (by rcases ho with rfl | rfl <;> simp only [gsize]) (gone _ _ _) ⟨rfl, rfl⟩
  case con =>
    intro i o ho hk a w2 hb2 hf
    match i, ho, hk with
    | 0, ho, _ =>
      obtain rfl := Option.some.inj ho
      have b4 : a.tmps[4]?.getD undef = .pointer (some ⟨w.heap.size, 0, none⟩) := hf.2 4 (by kernel_rfl)
      exact wp_load_row 27 (.tmp 4) rfl w.heap.size (eval_get b4 trivial) 27 _ (0, 0) _ ((HI0.out.later hb2).m) Tryd.underlying27 rfl minfo ⟨rfl, Below.refl _ _⟩
    | 1, ho, _ =>
      obtain rfl := Option.some.inj ho
      have e12 : a.tmps[12]?.getD undef = mat r c s1 := hf.1 ⟨0, .data⟩ (by simp) rfl _ 12 rfl rfl rfl
      exact wp_enter 64 #[mat r c s1] (gval r c (gpart E c (r * c))) _ (by unfold execOp; go_simp) (HG1.out w2) (fun w' h => ⟨rfl, h⟩)
    | 2, ho, _ =>
      obtain rfl := Option.some.inj ho
      have b5 : a.tmps[5]?.getD undef = .pointer (some ⟨w.heap.size + 1, 0, none⟩) := hf.2 5 (by kernel_rfl)
      exact wp_load_row 27 (.tmp 5) rfl (w.heap.size + 1) (eval_get b5 trivial) 27 _ (0, 0) _ ((HI0.out.later hb2).n) Tryd.underlying27 rfl minfo ⟨rfl, Below.refl _ _⟩
    | 3, ho, _ =>
      obtain rfl := Option.some.inj ho
      have e14 : a.tmps[14]?.getD undef = mat r2 c2 s2 := hf.1 ⟨2, .data⟩ (by simp) rfl _ 14 rfl rfl rfl
      exact wp_enter 64 #[mat r2 c2 s2] (gval r2 c2 (gpart G c2 (r2 * c2))) _ (by unfold execOp; go_simp) (HG2.out w2) (fun w' h => ⟨rfl, h⟩)
    | 4, _, hk => exact absurd hk (by decide)
    | 5, _, hk => exact absurd hk (by decide)
    | 6, _, hk => exact absurd hk (by decide)
    | 7, _, hk => exact absurd hk (by decide)
    | q + 8, ho, _ => simp at ho
  case en =>
    intro g h w1 hb1 hg0 hh0 hg hh
    have hz0 := HI0.out.size
    have HI := Lib.hid (HI0.out.later hb1)
    have HGB := Lib.hid hg
    have HHB := Lib.hid hh
    have hgl := (Array.getElem?_eq_some_iff.1 hg).1
    have hhl := (Array.getElem?_eq_some_iff.1 hh).1
    clear hb1 hg hh HI0 HG1 HG2
    simp only [fill, Act.put]
    go_simp
    go_wp2_with fail
    refine (HO.out _).mono ?_
    rintro e w' ⟨rfl, rfl⟩
    have HX : Hid (∀ X, BInv3 w (w1.alloc X) r c r2 c2 s1 s2) := fun X => HI.out.later ((Below.refl w1.heap.size w1).alloc (Nat.le_refl _) X)
    have hz := HI.out.size
    have u0 : ∀ X, (w1.alloc X).cell? ⟨g, 0, none⟩ = some (.int .i64 (r : Int)) := fun X => cell_of_row _ _ 0 _ _ _ ((Below.heap_alloc _ _ _ hgl).trans HGB.out)
    have u1 : ∀ X, (w1.alloc X).cell? ⟨g, 1, none⟩ = some (.int .i64 (c : Int)) := fun X => cell_of_row _ _ 1 _ _ _ ((Below.heap_alloc _ _ _ hgl).trans HGB.out)
    have v0 : ∀ X, (w1.alloc X).cell? ⟨h, 0, none⟩ = some (.int .i64 (r2 : Int)) := fun X => cell_of_row _ _ 0 _ _ _ ((Below.heap_alloc _ _ _ hhl).trans HHB.out)
    have v1 : ∀ X, (w1.alloc X).cell? ⟨h, 1, none⟩ = some (.int .i64 (c2 : Int)) := fun X => cell_of_row _ _ 1 _ _ _ ((Below.heap_alloc _ _ _ hhl).trans HHB.out)
    have HT : ∀ FT, Hid (Tells 117 #[.pointer (some ⟨w1.heap.size, 0, none⟩), .pointer (some ⟨g, 0, none⟩), .pointer (some ⟨h, 0, none⟩)] R C (pairE op E G r2 c2) (w1.alloc (.cells #[.func (.func gg) #[] #[]] FT))) := fun FT W x y hx hy hb => by
      have kk : (w1.alloc (.cells #[.func (.func gg) #[] #[]] FT)).cell? ⟨w1.heap.size, 0, none⟩ = some (.func (.func gg) #[] #[]) := cell_of_row _ _ 0 _ _ _ (heap_alloc_new w1 _)
      have hg1 : Holds (w1.alloc (.cells #[.func (.func gg) #[] #[]] FT)) g r c E := (Below.heap_alloc _ _ _ hgl).trans HGB.out
      have hh1 : Holds (w1.alloc (.cells #[.func (.func gg) #[] #[]] FT)) h r2 c2 G := (Below.heap_alloc _ _ _ hhl).trans HHB.out
      have hs := hb.size
      simp only [World.size_alloc] at hs
      rw [HR.out] at hx
      rw [HC.out] at hy
      exact pair_clos op gg HGG.out HCO.out r c r2 c2 E G hr8 hc8 hr2 hr28 hc2 hc28 w1.heap.size g h x y hx hy W ((hb.cell (p := ⟨w1.heap.size, 0, none⟩) (by simp)).trans kk) (by omega) (hg1.below hb) (hh1.below hb)
    clear HI HGB HHB HGG HCO
    go_wp2_with fail
    refine (from_any 117 #[.pointer (some ⟨w1.heap.size, 0, none⟩), .pointer (some ⟨g, 0, none⟩), .pointer (some ⟨h, 0, none⟩)] R C (by omega) (by omega) (by omega) (by omega) _ _ pair_enters (HT _)).mono ?_
    rintro e w3 ⟨rfl, hb3⟩
    have hi3 := (HX.out _).later hb3
    obtain ⟨d0, d1, d2⟩ := cells3 hi3.o
    obtain ⟨x0, x1, x2⟩ := free3 hi3.o
    have hz3 := hi3.size
    have HB3 := Lib.hid hi3.below
    clear hb3 hi3 HX
    go_wp2_with fail
    refine bodyPost_ret (v := .tuple #[mat R C (str (rowsB (pairE op E G r2 c2) R C)), .bool true]) (by simp [results, Tryd.results54, go_sem, d0, d1, d2]) rfl ⟨rfl, ?_⟩
    exact ((HB3.out.setCell (by simp; omega) _).setCell (by simp; omega) _).setCell (by simp; omega) _
end Go.Proofs.YtgmhddceeomjbaaDoor.PairY
