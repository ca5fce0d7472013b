/-
  The drawing function l1Open.
-/
import Derived.Test.YtbbgibbpeibhiaaDoorRd6
namespace Go.Proofs.YtbbgibbpeibhiaaDoor.Rd7
open Go.RowKit Go.Proofs.YtbbgibbpeibhiaaDoor.Plain Go.Proofs.YtbbgibbpeibhiaaDoor.Base Go.Proofs.YtbbgibbpeibhiaaDoor.Rd Go.Proofs.YtbbgibbpeibhiaaDoor.Rd2 Go.Proofs.YtbbgibbpeibhiaaDoor.Rd3 Go.Proofs.YtbbgibbpeibhiaaDoor.Rd4 Go.Proofs.YtbbgibbpeibhiaaDoor.Rd5 Go.Proofs.YtbbgibbpeibhiaaDoor.Rd6
set_option linter.unusedVariables false

/-- one new block while a reader in an older one is read -/
structure One (g : Nat) (w wr : World) (T : TypeId) (cs : Array Value) : Prop where
  one : wr.heap[w.heap.size]? = some (.cells cs T (0, 0))
  apt : Apt g w wr
theorem One.start (g : Nat) (w : World) (T : TypeId) (cs : Array Value) : One g w (w.alloc (.cells cs T)) T cs :=
  ⟨heap_alloc_new w _, Apt.of_below ((Below.refl w.heap.size w).alloc (Nat.le_refl _) _)⟩
theorem One.later {g : Nat} {w wr w2 : World} {T : TypeId} {cs : Array Value} (h : One g w wr T cs) (hg : g < w.heap.size) (ha : Apt g wr w2) : One g w w2 T cs :=
  ⟨(ha.block _ (Array.getElem?_eq_some_iff.1 h.one).1 (by omega)).trans h.one, h.apt.trans ha⟩

set_option maxHeartbeats 2000000 in
theorem open_mat {lo : Nat} (g p : Nat) (hp : p < 1000000) (w : World) (h : Rdr lo w g p) :
    Calls Tryd.prog 49 #[.pointer (some ⟨g, 0, none⟩)] w fun e w' => ∃ (a b : Int) (t : ByteArray) (p' : Nat), e = .returned (mtx a b t) ∧ W64 a ∧ W64 b ∧ t.size ≤ 100 ∧ p ≤ p' ∧ p' ≤ p + 200 ∧ Rdr lo w' g p' ∧ Apt g w w' := by
  have hg := h.lt
  have hT := One.start g w 24 #[.int .i64 0, .int .i64 0, .string ⟨#[]⟩]
  have h0 := h.later ((Below.refl w.heap.size w).alloc (Nat.le_refl _) (.cells #[.int .i64 0, .int .i64 0, .string ⟨#[]⟩] 24))
  have hr2 := h0.later ((Below.refl _ _).alloc (Nat.le_refl _) (.cells ([4, 5, 3, 8].map fun x : Int => Value.int .i64 x).toArray 3))
  have HN := Lib.hid (num_any g p (by omega) [4, 5, 3, 8] (by decide) (by decide) (w.heap.size + 1) 4 (by omega) _ hr2 (by simp) (fun j hj => by have := cells_lit (w.alloc (.cells #[.int .i64 0, .int .i64 0, .string ⟨#[]⟩] 24)) 3 [4, 5, 3, 8] j hj; rwa [World.size_alloc] at this))
  have HT := Lib.hid hT
  clear h h0 hr2 hT
  go_enter Tryd.func49, Tryd.ntmps49
  go_wp2_with fail
  refine HN.out.mono ?_
  rintro e w1 ⟨m, rfl, hm, hr3, ha3⟩
  have HT1 := Lib.hid (HT.out.later hg ((Apt.of_below ((Below.refl _ _).alloc (Nat.le_refl _) _)).trans ha3))
  have hm1 : 1 ≤ m ∧ m ≤ 8 := by
    simp at hm
    omega
  have HD := Lib.hid (draw_mat g (p + 1) (by omega) m hm1.1 hm1.2 w1 hr3)
  clear hm hr3 ha3 HN HT
  go_wp2_with fail
  refine HD.out.mono ?_
  rintro e w2 ⟨a, b, t, p2, rfl, ha, hb, ht, hp1, hp2, hr, hap⟩
  have HT2 := Lib.hid (HT1.out.later hg hap)
  have HB := Lib.hid (bad_mat g p2 (by omega) a b t ha.1 ha.2 ⟨by omega, by omega⟩ ht.1 ht.2 w2 hr)
  have HP := Lib.hid (And.intro hp1 hp2)
  clear ha hb ht hp1 hp2 hr hap HD HT1
  go_wp2_with fail
  refine HB.out.mono ?_
  rintro e w3 ⟨a2, b2, t2, p3, rfl, wa, wb, ht, hp3, hp4, hr, hap⟩
  have hT3 := HT2.out.later hg hap
  obtain ⟨o0, o1, o2, f0, f1, f2⟩ := cells3 hT3.one
  have HR := Lib.hid hr
  have HA := Lib.hid hT3.apt
  have HP2 := Lib.hid (And.intro hp3 hp4)
  clear hr hap hT3 HT2 HB hp3 hp4
  go_wp2_with fail
  refine bodyPost_ret (v := mtx a2 b2 t2) (by simp [results, Tryd.results49, go_sem, o0, o1, o2]) rfl ⟨a2, b2, t2, p3, rfl, wa, wb, ht, by have := HP.out; have := HP2.out; omega, by have := HP.out; have := HP2.out; omega, ?_, ?_⟩
  · exact rdr_set (rdr_set (rdr_set (HR.out) _ _ _ (by omega)) _ _ _ (by omega)) _ _ _ (by omega)
  · exact apt_set (apt_set (apt_set (HA.out) _ _ (by omega) _) _ _ (by omega) _) _ _ (by omega) _
end Go.Proofs.YtbbgibbpeibhiaaDoor.Rd7
