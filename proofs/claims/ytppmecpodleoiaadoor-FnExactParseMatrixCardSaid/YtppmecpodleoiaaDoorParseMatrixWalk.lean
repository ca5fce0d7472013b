/-
  The walk of the law on ParseMatrix.
-/
import Derived.Test.YtppmecpodleoiaaDoorPMatI
namespace Go.Proofs.YtppmecpodleoiaaDoor.fnExactParseMatrix
open Go.RowKit Go.Proofs.YtppmecpodleoiaaDoor.Plain Go.Proofs.YtppmecpodleoiaaDoor.Base Go.Proofs.YtppmecpodleoiaaDoor.Valid Go.Proofs.YtppmecpodleoiaaDoor.Law Go.Proofs.YtppmecpodleoiaaDoor.Entry Go.Proofs.YtppmecpodleoiaaDoor.Fmt Go.Proofs.YtppmecpodleoiaaDoor.App Go.Proofs.YtppmecpodleoiaaDoor.Cut Go.Proofs.YtppmecpodleoiaaDoor.Rect Go.Proofs.YtppmecpodleoiaaDoor.PMat Go.Proofs.YtppmecpodleoiaaDoor.PMatI
set_option linter.unusedVariables false

/-- both have one text of a valid matrix -/
theorem text_of (r c : Int) (s : ByteArray) (hs : s.size ≤ maxLen) (hv : validB r c s = true) : ∃ f : ByteArray,
    (∀ W : World, Calls Tryd.prog 35 #[mat r c s] W fun e w' => e = .returned (.string f) ∧ Below W.heap.size W w') ∧
    (∀ W : World, Calls Tryd.prog 39 #[mat r c s] W fun e w' => e = .returned (.string f) ∧ Below W.heap.size W w') := by
  obtain ⟨R, C, E, rfl, rfl, h1, h2, h3, h4, rfl⟩ := valid_form hv
  exact ⟨_, fun W => fmt_spec E R C h1 h2 h3 h4 hs hv W, fun W => fmt_impl E R C h1 h2 h3 h4 hs hv W⟩

/-- both find one matrix -/
theorem both (s : ByteArray) (hs : s.size ≤ 1048576) : ∃ (r c : Int) (u : ByteArray) (t : Bool),
    (∀ w, Calls Tryd.prog 10 #[.string s] w fun e w' => e = .returned (.tuple #[mat r c u, .bool t]) ∧ Below w.heap.size w w') ∧
    (∀ w, MaxAt w → Calls Tryd.prog 11 #[.string s] w fun e w' => e = .returned (.tuple #[mat r c u, .bool t]) ∧ Below w.heap.size w w') := by
  have hne := cutL_ne s.data.toList
  have hflat := flat_len s.data.toList
  have hlen : s.data.toList.length = s.size := by simp
  obtain ⟨O, hO⟩ : ∃ O, cutL s.data.toList = O := ⟨_, rfl⟩
  rw [hO] at hne hflat
  have hpos : 0 < O.length := List.length_pos_iff.2 hne
  have hx0 : O[0]? = some (str O[0]).data.toList := by
    rw [List.getElem?_eq_getElem hpos]
    simp [str]
  have hbits : (str O.flatten).size ≤ maxLen := by rw [str_size]; unfold maxLen; omega
  obtain ⟨bv, hbv⟩ : ∃ bv, validB O.length (str O[0]).size (str O.flatten) = bv := ⟨_, rfl⟩
  cases bv
  · exact ⟨0, 0, str [], false, fun w => spec_pm s hs O hO _ hx0 false hbv ⟨#[]⟩ (fun h => by cases h) false rfl w, fun w hw => impl_pm s hs O hO _ hx0 false hbv ⟨#[]⟩ (fun h => by cases h) false rfl w hw⟩
  · obtain ⟨f, hsp, him⟩ := text_of _ _ _ hbits hbv
    obtain ⟨t, ht⟩ : ∃ t, (f.toList == s.toList) = t := ⟨_, rfl⟩
    cases t
    · exact ⟨0, 0, str [], false, fun w => spec_pm s hs O hO _ hx0 true hbv f (fun _ => hsp) false (by rw [ht]; rfl) w, fun w hw => impl_pm s hs O hO _ hx0 true hbv f (fun _ => him) false (by rw [ht]; rfl) w hw⟩
    · exact ⟨_, _, _, true, fun w => spec_pm s hs O hO _ hx0 true hbv f (fun _ => hsp) true (by rw [ht]; rfl) w, fun w hw => impl_pm s hs O hO _ hx0 true hbv f (fun _ => him) true (by rw [ht]; rfl) w hw⟩

theorem alloc_on {w1 w2 : World} {o : Obj} (hb : Below (w1.alloc o).heap.size (w1.alloc o) w2) : w2.heap[w1.heap.size]? = some o := (hb.block _ (by simp)).trans (heap_alloc_new w1 o)

set_option maxHeartbeats 1000000 in
theorem walk (s : ByteArray) (hs : s.size ≤ maxLen) (w : World) (hsh : w.ShapedOpen Tryd.prog) :
    Calls Tryd.prog 3 #[.string s] w fun e w' => e = .returned (.bool true) ∧ Below w.heap.size w w' := by
  have hmx := max_at hsh
  clear hsh
  have hs2 := hs
  unfold maxLen at hs2
  by_cases hbig : 1048576 < s.size
  · go_enter Tryd.func3, Tryd.ntmps3
    go_wp2_with fail
    go_ret
    exact ⟨rfl, Below.refl _ _⟩
  · obtain ⟨r, c, u, t, hspec, himpl⟩ := both s (by omega)
    have HS := Lib.hid hspec
    have HI := Lib.hid himpl
    have HM := Lib.hid hmx
    clear hspec himpl hmx
    go_enter Tryd.func3, Tryd.ntmps3
    go_wp2_with fail
    refine (HS.out _).mono ?_
    rintro e w1 ⟨rfl, hb1⟩
    have E1 : (w1.alloc (.cells #[.int .i64 r, .int .i64 c, .string u] 23)).heap[w1.heap.size]? = some (.cells #[.int .i64 r, .int .i64 c, .string u] 23 (0, 0)) := heap_alloc_new w1 _
    have HB1 : Hid (Below w.heap.size w (w1.alloc (.cells #[.int .i64 r, .int .i64 c, .string u] 23))) := hb1.alloc hb1.size _
    clear hb1
    go_wp2_with fail
    generalize w1.alloc (.cells #[.int .i64 r, .int .i64 c, .string u] 23) = W1 at *
    refine (HI.out _ (HM.out.on HB1.out)).mono ?_
    rintro e w2 ⟨rfl, hb2⟩
    have hg1 := (Array.getElem?_eq_some_iff.1 E1).1
    have E2 := (hb2.block _ hg1).trans E1
    have HB2 : Hid (Below w.heap.size w w2) := HB1.out.trans (hb2.mono HB1.out.size)
    clear hb2 E1 HB1 HS HI HM hg1
    have k0 : w2.cell? ⟨w1.heap.size, 0, none⟩ = some (.int .i64 r) := cell_of_row _ _ 0 _ _ _ E2
    have k1 : w2.cell? ⟨w1.heap.size, 1, none⟩ = some (.int .i64 c) := cell_of_row _ _ 1 _ _ _ E2
    have k2 : w2.cell? ⟨w1.heap.size, 2, none⟩ = some (.string u) := cell_of_row _ _ 2 _ _ _ E2
    have hg := (Array.getElem?_eq_some_iff.1 E2).1
    clear E2
    go_wp2_with fail
    refine (eq_same r c u _).mono ?_
    rintro e w3 ⟨rfl, hb3⟩
    have HB3 : Hid (Below w.heap.size w w3) := (HB2.out.alloc HB2.out.size _).trans (hb3.mono (by have := HB2.out.size; simp; omega))
    clear hb3 HB2 k0 k1 k2 hg
    cases t
    all_goals
      go_wp2_with fail
      go_ret
      exact ⟨rfl, HB3.out⟩
end Go.Proofs.YtppmecpodleoiaaDoor.fnExactParseMatrix
