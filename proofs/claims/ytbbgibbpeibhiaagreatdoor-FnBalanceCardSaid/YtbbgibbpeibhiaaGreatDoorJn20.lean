/-
  Texts of one seat, joined: TrimPWalk, FreeD, FreeQ, HvI.
-/
import Derived.Test.YtbbgibbpeibhiaaGreatDoorJn12
import Derived.Test.YtbbgibbpeibhiaaGreatDoorJn7
import Derived.Test.YtbbgibbpeibhiaaGreatDoorJn11
import Derived.Test.YtbbgibbpeibhiaaGreatDoorJn19
import Derived.Test.YtbbgibbpeibhiaaGreatDoorJn5
import Derived.Test.YtbbgibbpeibhiaaGreatDoorJn1
import Derived.Test.YtbbgibbpeibhiaaGreatDoorJn18
/-
  The walk of the law on TrimProtocol.
-/
namespace Go.Proofs.YtbbgibbpeibhiaaGreatDoor.fnExactTrimProtocol
open Go.RowKit Go.Shelf Go.Proofs.YtbbgibbpeibhiaaGreatDoor.Plain Go.Proofs.YtbbgibbpeibhiaaGreatDoor.Tree Go.Proofs.YtbbgibbpeibhiaaGreatDoor.Read Go.Proofs.YtbbgibbpeibhiaaGreatDoor.Rect Go.Proofs.YtbbgibbpeibhiaaGreatDoor.TreeOf Go.Proofs.YtbbgibbpeibhiaaGreatDoor.TreeIn Go.Proofs.YtbbgibbpeibhiaaGreatDoor.TrimT Go.Proofs.YtbbgibbpeibhiaaGreatDoor.SaidTrim Go.Proofs.YtbbgibbpeibhiaaGreatDoor.TextOf
open Go.Proofs.YtbbgibbpeibhiaaGreatDoor.TrimI (trim_to)
open Go.Proofs.YtbbgibbpeibhiaaGreatDoor.Split (cells2)
set_option linter.unusedVariables false
set_option linter.unusedSimpArgs false

set_option maxHeartbeats 4000000 in
set_option maxRecDepth 100000 in
theorem impl_yes (s : ByteArray) (t : T) (hw : wf t) (h : s.data.toList = text t) (hs : s.size ≤ 2000) (r c : Nat) (hr : 1 ≤ r ∧ r ≤ 8) (hc : 1 ≤ c ∧ c ≤ 8) (w : World) :
    Calls Tryz.prog 8 #[.string s, .int .i64 (r : Int), .int .i64 (c : Int)] w fun e w' => e = .returned (.tuple #[.string (str (text (trimT t (allN r) (allN c)))), .bool true]) ∧ Below w.heap.size w w' := by
  obtain ⟨_, p2, p3⟩ := pow_facts r hr
  obtain ⟨_, q2, q3⟩ := pow_facts c hc
  have hl : (text t).length = s.size := by rw [← h]; simp
  have htl := trim_length t (allN r) (allN c)
  have HI := Lib.hid (in_yes s (tree t) (tree_yes s t hw h hs) r c hr hc)
  have hX : ∀ W : World, Calls Tryz.prog 18 #[tree (trimT t (allN r) (allN c))] W fun e w' => e = .returned (.tuple #[.string (str (text (trimT t (allN r) (allN c)))), .bool true]) ∧ Below W.heap.size W w' := fun W => by
    have h2 := text_of (trimT t (allN r) (allN c)) (trim_wf t _ _ p3 q3 hw) (by omega) W
    unfold textV at h2
    rw [if_pos (by omega)] at h2
    exact h2
  have HX := Lib.hid hX
  have hC := trim_to t
  unfold Go.Proofs.YtbbgibbpeibhiaaGreatDoor.Count.Node Go.Proofs.YtbbgibbpeibhiaaGreatDoor.TrimI.TrimC at hC
  generalize str (text (trimT t (allN r) (allN c))) = q at *
  clear h hl hw hX htl
  rcases hC with ⟨V, ev, hv⟩ | ⟨V, ev, hv⟩
  all_goals
    have HC := Lib.hid (fun W => hv (allN r) (allN c) W p3 q3 p2 q2)
    rw [ev] at HI
    clear ev hv
    generalize tree (trimT t (allN r) (allN c)) = tr at *
    generalize allN r = M at *
    generalize allN c = N at *
    go_enter Tryz.func8, Tryz.ntmps8
    go_wp2_with fail
    refine (HI.out _).mono ?_
    rintro e w1 ⟨rfl, hb1⟩
    have HB1 := Lib.hid (hb1.alloc hb1.size (.cells #[.int .i64 (M : Int), .int .i64 (N : Int)] 45))
    clear hb1
    go_wp2_with fail
    refine (HC.out _).mono ?_
    rintro e w2 ⟨rfl, hb2⟩
    have HB2 := Lib.hid (HB1.out.trans (hb2.mono HB1.out.size))
    clear hb2
    go_wp2_with fail
    refine (HX.out _).mono ?_
    rintro e w3 ⟨rfl, hb3⟩
    have HB3 := Lib.hid (HB2.out.trans (hb3.mono HB2.out.size))
    clear hb3
    go_wp2_with fail
    go_returns
    exact ⟨rfl, HB3.out⟩
set_option maxHeartbeats 1000000 in
theorem impl_nil (s : ByteArray) (r c : Int) (M N : Nat) (hI : ∀ W : World, Calls Tryz.prog 26 #[.string s, .int .i64 r, .int .i64 c] W fun e w' => e = .returned (.tuple #[.nilIface, rect M N]) ∧ Below W.heap.size W w') (w : World) :
    Calls Tryz.prog 8 #[.string s, .int .i64 r, .int .i64 c] w fun e w' => e = .returned (.tuple #[.string (str []), .bool false]) ∧ Below w.heap.size w w' := by
  have HI := Lib.hid hI
  clear hI
  go_enter Tryz.func8, Tryz.ntmps8
  go_wp2_with fail
  refine (HI.out _).mono ?_
  rintro e w1 ⟨rfl, hb1⟩
  have HB1 := Lib.hid (hb1.alloc hb1.size (.cells #[.int .i64 (M : Int), .int .i64 (N : Int)] 45))
  clear hb1
  go_wp2_with fail
  go_returns
  exact ⟨rfl, HB1.out⟩
end Go.Proofs.YtbbgibbpeibhiaaGreatDoor.fnExactTrimProtocol

/-
  The law at a region with one draw: one operation reads a number of the reader, the others only make memory, and a store comes last; what they
  yield is told by a relation.
-/
namespace Go.Proofs.YtbbgibbpeibhiaaGreatDoor.FreeD
open Go Go.RowKit Go.Proofs.YtbbgibbpeibhiaaGreatDoor.Free Go.Proofs.YtbbgibbpeibhiaaGreatDoor.FreeL Go.Proofs.YtbbgibbpeibhiaaGreatDoor.Rd Go.Proofs.YtbbgibbpeibhiaaGreatDoor.Rd2
set_option linter.unusedVariables false

section
variable {ops : Array Oper}

/-- what an operation may know of the slots -/
def FactsV (ops : Array Oper) (a0 : Act) (R : Nat → Value → Prop) (o : Oper) (a : Act) : Prop :=
  (∀ e ∈ o.after, Region.binds .any e = true → ∀ (oj : Oper) (dj : Tmp), ops[e.on]? = some oj → oj.dst = some dj → R e.on (a.tmps[dj]?.getD undef)) ∧
  (∀ k, (ops.toList.all fun o => o.dst != some k) = true → a.tmps[k]?.getD undef = a0.tmps[k]?.getD undef)

/-- THE LAW -/
theorem wp_region_dr {lo : Nat} {id n : Nat} {a0 : Act} {w0 : World} {Q : Exit → Act → World → Prop} (g p : Nat) (R : Nat → Value → Prop) (dr last : Nat) (F : World → World → Prop) (os : Oper)
    (hm : Tryz.prog.follows .mixedOrders = true) (hB : freeB ops n = true) (hn : a0.tmps.size = n) (hs : ops[last]? = some os) (hsd : os.dst = none) (hsz : ops.size = last + 1) (hdl : dr < last)
    (hw : Region.sinkB .any ops last = true) (h0 : Rdr lo w0 g p)
    (hcon : ∀ (i : Nat) (o : Oper), ops[i]? = some o → i < last → i ≠ dr → ∀ (a : Act) (w : World), Apt g w0 w → FactsV ops a0 R o a →
      o.wp Tryz.prog a w (fun a' w' => ∃ v, a' = a.put o.dst v ∧ R i v ∧ Below w.heap.size w w') Q)
    (hdr : ∀ (o : Oper), ops[dr]? = some o → ∀ (a : Act) (w : World), Apt g w0 w → Rdr lo w g p → FactsV ops a0 R o a →
      o.wp Tryz.prog a w (fun a' w' => ∃ v, a' = a.put o.dst v ∧ R dr v ∧ Apt g w w' ∧ Rdr lo w' g (p + 1)) Q)
    (hst : ∀ (a : Act) (w : World), Apt g w0 w → Rdr lo w g (p + 1) → FactsV ops a0 R os a → os.wp Tryz.prog a w (fun a' w' => a' = a ∧ F w w') Q)
    (hend : ∀ (vs : Nat → Value) (w1 w : World), Apt g w0 w1 → Rdr lo w1 g (p + 1) → F w1 w → (∀ (i : Nat) (o : Oper), ops[i]? = some o → i ≠ last → R i (vs i)) → Q .normal (fill ops.toList vs 0 a0) w) :
    (Code.region id ops true).wp Tryz.prog Q a0 w0 := by
  let Y : Nat → Value → Act → World → Prop := fun i v a w => i ≠ last → R i v
  let S : (Nat → Bool) → World → Prop := fun l w => (l last = false → Apt g w0 w ∧ (l dr = false → Rdr lo w g p) ∧ (l dr = true → Rdr lo w g (p + 1))) ∧
    (l last = true → ∃ w1, Apt g w0 w1 ∧ Rdr lo w1 g (p + 1) ∧ F w1 w)
  have facts : ∀ (listed : Array Bool) (o : Oper) (i : Nat) (a : Act) (w : World), ops[i]? = some o → MidL ops a0 Y S listed a w →
      (∀ e ∈ o.after, Region.binds .any e = true → listed.getD e.on false = true) → (∀ e ∈ o.after, Region.binds .any e = true → e.on ≠ last) → FactsV ops a0 R o a := by
    intro listed o i a w ho hM hdl hlt
    refine ⟨fun e he hb oj dj hoj hdj => ?_, fun k hk => ?_⟩
    · obtain ⟨v, hv, hvd⟩ := hM.new e.on oj hoj (hdl e he hb)
      rw [hvd dj hdj]
      exact hv (hlt e he hb)
    · rw [hM.old k fun i o' ho' hd' => ?_]
      have := List.all_eq_true.1 hk o' (by simpa using Array.mem_of_getElem? ho')
      simp [hd'] at this
  have hB2 := hB
  simp only [freeB, Bool.and_eq_true, decide_eq_true_eq] at hB2
  obtain ⟨⟨_, _⟩, h3⟩ := hB2
  have hac : ∀ (i : Nat) (o : Oper), ops[i]? = some o → ∀ e ∈ o.after, Region.binds .any e = true → e.on < i := fun i o ho e he hb => by
    have hi : i < ops.size := (Array.getElem?_eq_some_iff.1 ho).1
    have := List.all_eq_true.1 h3 i (List.mem_range.2 hi)
    rw [ho] at this
    have h5 : (o.after.all fun e => !Region.binds .any e || decide (e.on < i)) = true := this
    have := Array.all_eq_true_iff_forall_mem.1 h5 e he
    simpa [hb] using this
  refine wp_region_freeL (Y := Y) (S := S) hm hB hn ⟨fun _ => ⟨(Apt.refl g w0).drew, fun _ => h0.later (drawn_at w0 1), fun h => (by cases h)⟩, fun h => (by cases h)⟩ ?_ ?_
  · intro i o ho listed a w hM hu hdp
    have hi : i < ops.size := (Array.getElem?_eq_some_iff.1 ho).1
    by_cases hil : i = last
    · subst hil
      obtain rfl : o = os := Option.some.inj (ho.symm.trans hs)
      have hdrl : listed.getD dr false = true := by
        have hd2 : ∃ j, ∃ oj, ops[j]? = some oj ∧ (∃ e ∈ o.after, Region.binds .any e = true ∧ e.on = j) ∧ True := by
          have h4 := List.all_eq_true.1 hw dr (List.mem_range.2 hdl)
          obtain ⟨j, hj, h5⟩ := List.any_eq_true.1 h4
          have hex : ∃ e ∈ o.after, Region.binds .any e = true := by
            have h6 := List.all_eq_true.1 hw (i - 1) (List.mem_range.2 (by omega))
            obtain ⟨j2, hj2, h7⟩ := List.any_eq_true.1 h6
            simp only [Bool.and_eq_true, decide_eq_true_eq] at h7
            have hj2l : j2 < i + 1 := List.mem_range.1 hj2
            obtain ⟨oj, hoj, e2, he2, hb2, hon⟩ := Region.waitsFor_spec h7.2
            have : j2 = i := by
              have := hac j2 oj hoj e2 he2 hb2
              omega
            subst this
            obtain rfl : o = oj := Option.some.inj (ho.symm.trans hoj)
            exact ⟨e2, he2, hb2⟩
          obtain ⟨e, he, hb⟩ := hex
          have hei := hac i o ho e he hb
          exact ⟨e.on, (ops[e.on]'(by omega)), Array.getElem?_eq_getElem (by omega), ⟨e, he, hb, rfl⟩, trivial⟩
        -- all that the store waits for has come; so has what these wait for
        have hcl : ∀ (d k : Nat), i - k ≤ d → k < i → listed.getD k false = true := by
          intro d
          induction d with
          | zero => intro k h1 h2; omega
          | succ d ih =>
            intro k h1 h2
            have h4 := List.all_eq_true.1 hw k (List.mem_range.2 h2)
            obtain ⟨j, hj, h5⟩ := List.any_eq_true.1 h4
            simp only [Bool.and_eq_true, decide_eq_true_eq] at h5
            have hjl : j < i + 1 := List.mem_range.1 hj
            obtain ⟨oj, hoj, e2, he2, hb2, hon⟩ := Region.waitsFor_spec h5.2
            by_cases hji : j = i
            · subst hji
              obtain rfl : o = oj := Option.some.inj (ho.symm.trans hoj)
              have := hdp e2 he2 hb2
              rwa [hon] at this
            · have := hM.closed j oj hoj (ih j (by omega) (by omega)) e2 he2 hb2
              rwa [hon] at this
        exact hcl (i - dr) dr (Nat.le_refl _) hdl
      obtain ⟨hw1, _, hw3⟩ := hM.world.1 hu
      refine Oper.wp_mono ?_ (hst a w hw1 (hw3 hdrl) (facts listed o i a _ ho hM hdp (fun e he hb => Nat.ne_of_lt (hac i o ho e he hb))))
      rintro a' w' ⟨rfl, hf⟩
      exact ⟨undef, by rw [hsd]; rfl, fun h => absurd rfl h, ⟨fun h => (by simp at h), fun _ => ⟨w, hw1, hw3 hdrl, hf⟩⟩, fun j u hj _ hY hjl => hY hjl⟩
    · have hlt : i < last := by omega
      have hnl : listed.getD last false = false := by
        cases hl : listed.getD last false with
        | false => rfl
        | true =>
          exfalso
          have := sink_listed hw hM.closed hl (last - i) i (Nat.le_refl _) (by omega)
          rw [hu] at this
          cases this
      obtain ⟨hw1, hw2, hw3⟩ := hM.world.1 hnl
      have hfc := facts listed o i a w ho hM hdp (fun e he hb => Nat.ne_of_lt (Nat.lt_trans (hac i o ho e he hb) hlt))
      by_cases hid : i = dr
      · subst hid
        refine Oper.wp_mono ?_ (hdr o ho a w hw1 (hw2 hu) hfc)
        rintro a' w' ⟨v, rfl, hv, hb, hr⟩
        refine ⟨v, rfl, fun _ => hv, ⟨fun _ => ⟨hw1.trans hb, fun h => (by simp at h), fun _ => hr⟩, fun h => ?_⟩, fun j u hj _ hY hjl => hY hjl⟩
        dsimp only at h
        rw [if_neg (Ne.symm hil), hnl] at h
        cases h
      · refine Oper.wp_mono ?_ (hcon i o ho hlt hid a w hw1 hfc)
        rintro a' w' ⟨v, rfl, hv, hb⟩
        refine ⟨v, rfl, fun _ => hv, ⟨fun _ => ⟨hw1.trans (Apt.of_below hb), fun h => ?_, fun h => ?_⟩, fun h => ?_⟩, fun j u hj _ hY hjl => hY hjl⟩
        · dsimp only at h
          rw [if_neg (Ne.symm hid)] at h
          exact (hw2 h).later hb
        · dsimp only at h
          rw [if_neg (Ne.symm hid)] at h
          exact (hw3 h).later hb
        · dsimp only at h
          rw [if_neg (Ne.symm hil), hnl] at h
          cases h
  · intro vs w hw1 hall
    obtain ⟨w1, hb1, hr1, hf⟩ := hw1.2 (decide_eq_true (by omega))
    exact hend vs w1 w hb1 hr1 hf fun i o ho hil => hall i o ho hil

/-- THE LAW WITHOUT A DRAW: all but the last only make memory -/
theorem wp_region_val {id n : Nat} {a0 : Act} {w0 : World} {Q : Exit → Act → World → Prop} (R : Nat → Value → Prop) (last : Nat) (F : World → World → Prop) (os : Oper)
    (hm : Tryz.prog.follows .mixedOrders = true) (hB : freeB ops n = true) (hn : a0.tmps.size = n) (hs : ops[last]? = some os) (hsd : os.dst = none) (hsz : ops.size = last + 1)
    (hw : Region.sinkB .any ops last = true)
    (hcon : ∀ (i : Nat) (o : Oper), ops[i]? = some o → i < last → ∀ (a : Act) (w : World), Below w0.heap.size w0 w → FactsV ops a0 R o a →
      o.wp Tryz.prog a w (fun a' w' => ∃ v, a' = a.put o.dst v ∧ R i v ∧ Below w.heap.size w w') Q)
    (hst : ∀ (a : Act) (w : World), Below w0.heap.size w0 w → FactsV ops a0 R os a → os.wp Tryz.prog a w (fun a' w' => a' = a ∧ F w w') Q)
    (hend : ∀ (vs : Nat → Value) (w1 w : World), Below w0.heap.size w0 w1 → F w1 w → (∀ (i : Nat) (o : Oper), ops[i]? = some o → i ≠ last → R i (vs i)) → Q .normal (fill ops.toList vs 0 a0) w) :
    (Code.region id ops true).wp Tryz.prog Q a0 w0 := by
  let Y : Nat → Value → Act → World → Prop := fun i v a w => i ≠ last → R i v
  let S : (Nat → Bool) → World → Prop := fun l w => (l last = false → Below w0.heap.size w0 w) ∧ (l last = true → ∃ w1, Below w0.heap.size w0 w1 ∧ F w1 w)
  have facts : ∀ (listed : Array Bool) (o : Oper) (i : Nat) (a : Act) (w : World), ops[i]? = some o → MidL ops a0 Y S listed a w →
      (∀ e ∈ o.after, Region.binds .any e = true → listed.getD e.on false = true) → (∀ e ∈ o.after, Region.binds .any e = true → e.on ≠ last) → FactsV ops a0 R o a := by
    intro listed o i a w ho hM hdl hlt
    refine ⟨fun e he hb oj dj hoj hdj => ?_, fun k hk => ?_⟩
    · obtain ⟨v, hv, hvd⟩ := hM.new e.on oj hoj (hdl e he hb)
      rw [hvd dj hdj]
      exact hv (hlt e he hb)
    · rw [hM.old k fun i o' ho' hd' => ?_]
      have := List.all_eq_true.1 hk o' (by simpa using Array.mem_of_getElem? ho')
      simp [hd'] at this
  have hB2 := hB
  simp only [freeB, Bool.and_eq_true, decide_eq_true_eq] at hB2
  obtain ⟨⟨_, _⟩, h3⟩ := hB2
  have hac : ∀ (i : Nat) (o : Oper), ops[i]? = some o → ∀ e ∈ o.after, Region.binds .any e = true → e.on < i := fun i o ho e he hb => by
    have hi : i < ops.size := (Array.getElem?_eq_some_iff.1 ho).1
    have := List.all_eq_true.1 h3 i (List.mem_range.2 hi)
    rw [ho] at this
    have h5 : (o.after.all fun e => !Region.binds .any e || decide (e.on < i)) = true := this
    have := Array.all_eq_true_iff_forall_mem.1 h5 e he
    simpa [hb] using this
  refine wp_region_freeL (Y := Y) (S := S) hm hB hn ⟨fun _ => (Below.refl w0.heap.size w0).drew, fun h => (by cases h)⟩ ?_ ?_
  · intro i o ho listed a w hM hu hdp
    have hi : i < ops.size := (Array.getElem?_eq_some_iff.1 ho).1
    by_cases hil : i = last
    · subst hil
      obtain rfl : o = os := Option.some.inj (ho.symm.trans hs)
      have hw1 := hM.world.1 hu
      refine Oper.wp_mono ?_ (hst a w hw1 (facts listed o i a _ ho hM hdp (fun e he hb => Nat.ne_of_lt (hac i o ho e he hb))))
      rintro a' w' ⟨rfl, hf⟩
      exact ⟨undef, by rw [hsd]; rfl, fun h => absurd rfl h, ⟨fun h => (by simp at h), fun _ => ⟨w, hw1, hf⟩⟩, fun j u hj _ hY hjl => hY hjl⟩
    · have hlt : i < last := by omega
      have hnl : listed.getD last false = false := by
        cases hl : listed.getD last false with
        | false => rfl
        | true =>
          exfalso
          have := sink_listed hw hM.closed hl (last - i) i (Nat.le_refl _) (by omega)
          rw [hu] at this
          cases this
      have hw1 := hM.world.1 hnl
      refine Oper.wp_mono ?_ (hcon i o ho hlt a w hw1 (facts listed o i a w ho hM hdp (fun e he hb => Nat.ne_of_lt (Nat.lt_trans (hac i o ho e he hb) hlt))))
      rintro a' w' ⟨v, rfl, hv, hb⟩
      refine ⟨v, rfl, fun _ => hv, ⟨fun _ => hw1.trans (hb.mono hw1.size), fun h => ?_⟩, fun j u hj _ hY hjl => hY hjl⟩
      dsimp only at h
      rw [if_neg (Ne.symm hil), hnl] at h
      cases h
  · intro vs w hw1 hall
    obtain ⟨w1, hb1, hf⟩ := hw1.2 (decide_eq_true (by omega))
    exact hend vs w1 w hb1 hf fun i o ho hil => hall i o ho hil
end
end Go.Proofs.YtbbgibbpeibhiaaGreatDoor.FreeD

/-
  The law at a region that draws its order, told by a family of worlds that is indexed by what has come up: each operation is walked once. (The return
  of a drawing function with several results: the family says what is stored, and that the reader still reads while nothing is.)
-/
namespace Go.Proofs.YtbbgibbpeibhiaaGreatDoor.FreeQ
open Go Go.RowKit Go.Proofs.YtbbgibbpeibhiaaGreatDoor.Free Go.Proofs.YtbbgibbpeibhiaaGreatDoor.FreeL Go.Proofs.YtbbgibbpeibhiaaGreatDoor.FreeD
set_option linter.unusedVariables false

section
variable {P : Program} {ops : Array Oper}
/-- THE LAW -/
theorem wp_region_family {id n : Nat} {a0 : Act} {w0 : World} {Q : Exit → Act → World → Prop} (R : Nat → Value → Prop) (T : (Nat → Bool) → World → Prop)
    (hm : P.follows .mixedOrders = true) (hB : freeB ops n = true) (hn : a0.tmps.size = n) (hT0 : T (fun _ => false) { w0 with drawn := w0.drawn + 1 })
    (hcon : ∀ (i : Nat) (o : Oper), ops[i]? = some o → ∀ (a : Act) (w : World) (l : Nat → Bool), T l w → l i = false → (∀ (j : Nat) (oj : Oper), ops[j]? = some oj → l j = true → ∀ e ∈ oj.after, Region.binds .any e = true → l e.on = true) → FactsV ops a0 R o a →
      o.wp P a w (fun a' w' => ∃ v, a' = a.put o.dst v ∧ R i v ∧ T (fun j => if j = i then true else l j) w') Q)
    (hend : ∀ (vs : Nat → Value) (w : World), T (fun i => decide (i < ops.size)) w → (∀ (i : Nat) (o : Oper), ops[i]? = some o → R i (vs i)) → Q .normal (fill ops.toList vs 0 a0) w) :
    (Code.region id ops true).wp P Q a0 w0 := by
  refine wp_region_freeL (Y := fun i v a w => R i v) (S := fun l w => T l w) hm hB hn hT0 ?_ ?_
  · intro i o ho listed a w hM hu hdp
    have hf : FactsV ops a0 R o a := by
      refine ⟨fun e he hb oj dj hoj hdj => ?_, fun k hk => ?_⟩
      · obtain ⟨v, hv, hvd⟩ := hM.new e.on oj hoj (hdp e he hb)
        rw [hvd dj hdj]
        exact hv
      · rw [hM.old k fun i o' ho' hd' => ?_]
        have := List.all_eq_true.1 hk o' (by simpa using Array.mem_of_getElem? ho')
        simp [hd'] at this
    refine Oper.wp_mono ?_ (hcon i o ho a w _ hM.world hu hM.closed hf)
    rintro a' w' ⟨v, rfl, hRv, hT'⟩
    exact ⟨v, rfl, hRv, hT', fun j u _ _ hY => hY⟩
  · intro vs w hS hall
    exact hend vs w hS hall
end
end Go.Proofs.YtbbgibbpeibhiaaGreatDoor.FreeQ

/-
  A protocol that is trimmed for so many rows and columns, and the rectangle of its heavy part: the program and the reference.
-/
namespace Go.Proofs.YtbbgibbpeibhiaaGreatDoor.HvI
open Go.RowKit Go.Shelf Go.Proofs.YtbbgibbpeibhiaaGreatDoor.Plain Go.Proofs.YtbbgibbpeibhiaaGreatDoor.Tree Go.Proofs.YtbbgibbpeibhiaaGreatDoor.Read Go.Proofs.YtbbgibbpeibhiaaGreatDoor.Rect Go.Proofs.YtbbgibbpeibhiaaGreatDoor.Parts Go.Proofs.YtbbgibbpeibhiaaGreatDoor.TreeOf Go.Proofs.YtbbgibbpeibhiaaGreatDoor.TreeIn Go.Proofs.YtbbgibbpeibhiaaGreatDoor.TurnC Go.Proofs.YtbbgibbpeibhiaaGreatDoor.FreeL Go.Proofs.YtbbgibbpeibhiaaGreatDoor.TrimT Go.Proofs.YtbbgibbpeibhiaaGreatDoor.CutT Go.Proofs.YtbbgibbpeibhiaaGreatDoor.CutI
open Go.Proofs.YtbbgibbpeibhiaaGreatDoor.NodeH (eval_get)
open Go.Proofs.YtbbgibbpeibhiaaGreatDoor.Count (count_ends)
open Go.Proofs.YtbbgibbpeibhiaaGreatDoor.TrimI (trim_to TrimC)
open Go.Proofs.YtbbgibbpeibhiaaGreatDoor.FreeQ (wp_region_family)
open Go.Proofs.YtbbgibbpeibhiaaGreatDoor.Split (cells2 info_rect one_rect set_row set_below)
open Go.Proofs.YtbbgibbpeibhiaaGreatDoor.Free (fill wp_value wp_enter wp_load_row freeB)
set_option linter.unusedVariables false
set_option linter.unusedSimpArgs false

theorem field_rect (x y : Value) (a b : Int) (w : World) : (Instr.field 77 (.agg #[x, .int .i64 a, .int .i64 b, y]) 1).run Tryz.prog w = .ok (rect a b) w := by kernel_rfl
/-- the blocks of a call: the result, stored or not, and the rectangle -/
structure Tm (w wx : World) (B D M N x y : Nat) (st : Bool) : Prop where
  res : wx.heap[B]? = some (.cells #[.int .i64 ((if st then x else 0 : Nat) : Int), .int .i64 ((if st then y else 0 : Nat) : Int)] 45 (0, 0))
  loc : wx.heap[D]? = some (.cells #[.int .i64 (M : Int), .int .i64 (N : Int)] 45 (0, 0))
  below : Below w.heap.size w wx
  size : w.heap.size = B
  ne : B < D
theorem Tm.later {w wx w2 : World} {B D M N x y : Nat} {st : Bool} (h : Tm w wx B D M N x y st) (hb : Below wx.heap.size wx w2) : Tm w w2 B D M N x y st :=
  have k : ∀ {g : Nat} {o : Obj}, wx.heap[g]? = some o → w2.heap[g]? = some o := fun e => (hb.block _ (Array.getElem?_eq_some_iff.1 e).1).trans e
  ⟨k h.res, k h.loc, h.below.trans (hb.mono h.below.size), h.size, h.ne⟩
theorem Tm.drew {w wx : World} {B D M N x y : Nat} {st : Bool} (h : Tm w wx B D M N x y st) : Tm w wx.drew B D M N x y st := ⟨h.res, h.loc, h.below.drew, h.size, h.ne⟩
theorem Tm.start (w w1 : World) (B D M N x y : Nat) (hB : w.heap.size = B) (hD : w1.heap.size = D) (hb : Below (w.alloc (.cells #[.int .i64 0, .int .i64 0] 45)).heap.size (w.alloc (.cells #[.int .i64 0, .int .i64 0] 45)) w1) :
    Tm w (w1.alloc (.cells #[.int .i64 (M : Int), .int .i64 (N : Int)] 45)) B D M N x y false := by
  subst hB hD
  have n0 := heap_alloc_new w (.cells #[.int .i64 0, .int .i64 0] 45)
  have b0 := (Below.refl w.heap.size w).alloc (Nat.le_refl _) (.cells #[.int .i64 0, .int .i64 0] 45)
  have hl := (Array.getElem?_eq_some_iff.1 n0).1
  have k0 := (hb.block _ hl).trans n0
  have h1 := b0.trans (hb.mono b0.size)
  refine ⟨(heap_alloc_old w1 _ (Array.getElem?_eq_some_iff.1 k0).1).trans k0, heap_alloc_new w1 _, h1.alloc h1.size _, rfl, ?_⟩
  have := hb.size
  simp at this
  omega
theorem Tm.store {w wx : World} {B D M N x y : Nat} (h : Tm w wx B D M N x y false) : Tm w (wx.setRow B #[.int .i64 (x : Int), .int .i64 (y : Int)]) B D M N x y true := by
  have hs := h.size
  have hn := h.ne
  refine ⟨?_, (Go.Proofs.YtbbgibbpeibhiaaGreatDoor.Free.setRow_other (by omega) _).trans h.loc, Go.Proofs.YtbbgibbpeibhiaaGreatDoor.Free.setRow_below h.below (by omega) _, h.size, h.ne⟩
  exact Go.Proofs.YtbbgibbpeibhiaaGreatDoor.Free.setRow_kept h.res _

set_option maxHeartbeats 4000000 in
set_option maxRecDepth 100000 in
theorem trimmed_nil (s : ByteArray) (r c : Int) (M N : Nat) (hI : ∀ W : World, Calls Tryz.prog 26 #[.string s, .int .i64 r, .int .i64 c] W fun e w' => e = .returned (.tuple #[.nilIface, rect M N]) ∧ Below W.heap.size W w') (w : World) :
    Calls Tryz.prog 17 #[.string s, .int .i64 r, .int .i64 c] w fun e w' => e = .returned (.tuple #[.nilIface, rect 0 0]) ∧ Below w.heap.size w w' := by
  have HI := Lib.hid hI
  obtain ⟨B, hB⟩ : ∃ B, w.heap.size = B := ⟨_, rfl⟩
  clear hI
  go_enter Tryz.func17, Tryz.ntmps17
  go_wp2_with fail
  refine (HI.out _).mono ?_
  rintro e w1 ⟨rfl, hb1⟩
  obtain ⟨D, hD⟩ : ∃ D, w1.heap.size = D := ⟨_, rfl⟩
  have HT := Lib.hid (Tm.start w w1 B D M N 0 0 hB hD hb1)
  clear hb1 hB
  obtain ⟨q0, q1, q2, q3⟩ := cells2 HT.out.res
  go_wp2_with fail
  have hs := HT.out.size
  have hc := set_row 1 (set_row 0 HT.out.res (v := .int .i64 0)) (v := .int .i64 0)
  have hb := set_below (i := 1) (v := .int .i64 0) (set_below (i := 0) (v := .int .i64 0) HT.out.below (by omega : w.heap.size ≤ B)) (by omega : w.heap.size ≤ B)
  generalize (((w1.alloc (.cells #[.int .i64 (M : Int), .int .i64 (N : Int)] 45)).setCell ⟨B, 0, none⟩ (.int .i64 0)).setCell ⟨B, 1, none⟩ (.int .i64 0)) = w9 at *
  have HB := Lib.hid hb
  obtain ⟨k0, k1, _, _⟩ := cells2 hc
  refine bodyPost_ret (v := .tuple #[.nilIface, rect 0 0]) (by simp [results, Tryz.results17, go_sem, k0, k1]) rfl ⟨rfl, HB.out⟩

set_option maxHeartbeats 4000000 in
set_option maxRecDepth 100000 in
theorem trimmed_yes (s : ByteArray) (t : T) (hw : wf t) (h : s.data.toList = text t) (hs : s.size ≤ 2000) (r c : Nat) (hr : 1 ≤ r ∧ r ≤ 8) (hc : 1 ≤ c ∧ c ≤ 8) (w : World) :
    Calls Tryz.prog 17 #[.string s, .int .i64 (r : Int), .int .i64 (c : Int)] w fun e w' => e = .returned (.tuple #[tree (trimT t (allN r) (allN c)), rect (allN r) (allN c)]) ∧ Below w.heap.size w w' := by
  obtain ⟨_, p2, p3⟩ := pow_facts r hr
  obtain ⟨_, q2, q3⟩ := pow_facts c hc
  have hI := in_yes s (tree t) (tree_yes s t hw h hs) r c hr hc
  have hC := trim_to t
  unfold Go.Proofs.YtbbgibbpeibhiaaGreatDoor.Count.Node TrimC at hC
  obtain ⟨t1, v1, e1⟩ := tree_iface t
  rw [e1] at hI hC
  have HC : Hid ((∃ V, Value.iface t1 v1 = .iface 61 V ∧ ∀ W, Calls Tryz.prog 119 #[V, rect (allN r) (allN c)] W fun e w' => e = .returned (tree (trimT t (allN r) (allN c))) ∧ Below W.heap.size W w') ∨
      (∃ V, Value.iface t1 v1 = .iface 81 V ∧ ∀ W, Calls Tryz.prog 128 #[V, rect (allN r) (allN c)] W fun e w' => e = .returned (tree (trimT t (allN r) (allN c))) ∧ Below W.heap.size W w')) := by
    rcases hC with ⟨V, ev, hv⟩ | ⟨V, ev, hv⟩
    · exact .inl ⟨V, ev, fun W => hv _ _ W p3 q3 p2 q2⟩
    · exact .inr ⟨V, ev, fun W => hv _ _ W p3 q3 p2 q2⟩
  have HI := Lib.hid hI
  obtain ⟨B, hB⟩ : ∃ B, w.heap.size = B := ⟨_, rfl⟩
  generalize tree (trimT t (allN r) (allN c)) = X at *
  generalize allN r = M at *
  generalize allN c = N at *
  clear hI hC h hw hs p2 p3 q2 q3 e1
  go_enter Tryz.func17, Tryz.ntmps17
  go_wp2_with fail
  refine (HI.out _).mono ?_
  rintro e w1 ⟨rfl, hb1⟩
  obtain ⟨D, hD⟩ : ∃ D, w1.heap.size = D := ⟨_, rfl⟩
  have HT := Lib.hid (Tm.start w w1 B D M N M N hB hD hb1)
  clear hb1 hB
  go_wp2_with fail
  refine wp_region_family (fun | 0 => fun v => v = .iface t1 v1 | 1 => fun v => v = rect M N | 2 => fun v => v = X | 3 => fun v => v = rect M N | 4 => fun v => v = X | _ => fun _ => True) (fun l wx => Tm w wx B D M N M N (l 5)) (by kernel_rfl) (by kernel_rfl) rfl HT.out.drew ?conA ?enA
  case conA =>
    intro i o ho a wx l hT hl hcl hf
    match i, ho with
    | 0, ho =>
      obtain rfl := Option.some.inj ho
      have b8 : a.tmps[8]?.getD undef = .iface t1 v1 := hf.2 8 (by kernel_rfl)
      exact wp_value (.iface t1 v1) (by unfold execOp; go_simp) ⟨_, rfl, rfl, hT⟩
    | 1, ho =>
      obtain rfl := Option.some.inj ho
      have b9 : a.tmps[9]?.getD undef = .pointer (some ⟨D, 0, none⟩) := hf.2 9 (by kernel_rfl)
      exact wp_load_row 45 (.tmp 9) rfl D (eval_get b9) 45 _ (0, 0) _ (hT.loc) Tryz.underlying45 rfl (info_rect _ _) ⟨_, rfl, rfl, hT⟩
    | 2, ho =>
      obtain rfl := Option.some.inj ho
      have e20 : a.tmps[20]?.getD undef = .iface t1 v1 := hf.1 ⟨0, .data⟩ (by simp) rfl _ 20 rfl rfl
      have e21 : a.tmps[21]?.getD undef = rect M N := hf.1 ⟨1, .data⟩ (by simp) rfl _ 21 rfl rfl
      rcases HC.out with ⟨V, ev, hv⟩ | ⟨V, ev, hv⟩
      · simp only [Value.iface.injEq] at ev
        obtain ⟨rfl, rfl⟩ := ev
        exact wp_enter 119 #[v1, rect M N] (X) _ (by unfold execOp; go_simp; go_invoke; rfl) (hv wx) (fun w' h => ⟨_, rfl, rfl, hT.later h⟩)
      · simp only [Value.iface.injEq] at ev
        obtain ⟨rfl, rfl⟩ := ev
        exact wp_enter 128 #[v1, rect M N] (X) _ (by unfold execOp; go_simp; go_invoke; rfl) (hv wx) (fun w' h => ⟨_, rfl, rfl, hT.later h⟩)
    | 3, ho =>
      obtain rfl := Option.some.inj ho
      have b9 : a.tmps[9]?.getD undef = .pointer (some ⟨D, 0, none⟩) := hf.2 9 (by kernel_rfl)
      exact wp_load_row 45 (.tmp 9) rfl D (eval_get b9) 45 _ (0, 0) _ (hT.loc) Tryz.underlying45 rfl (info_rect _ _) ⟨_, rfl, rfl, hT⟩
    | 4, ho =>
      obtain rfl := Option.some.inj ho
      have e22 : a.tmps[22]?.getD undef = X := hf.1 ⟨2, .data⟩ (by simp) rfl _ 22 rfl rfl
      exact wp_value (X) (by unfold execOp; go_simp) ⟨_, rfl, rfl, hT⟩
    | 5, ho =>
      obtain rfl := Option.some.inj ho
      have b7 : a.tmps[7]?.getD undef = .pointer (some ⟨B, 0, none⟩) := hf.2 7 (by kernel_rfl)
      have e23 : a.tmps[23]?.getD undef = rect M N := hf.1 ⟨3, .data⟩ (by simp) rfl _ 23 rfl rfl
      have hrow := hT.res
      rw [hl] at hrow hT
      refine wp_store_row 45 (.tmp 7) (.tmp 23) rfl B #[.int .i64 (M : Int), .int .i64 (N : Int)] (eval_get b7) (eval_get e23) 45 _ hrow (info_rect _ _) rfl (one_rect _ _) ⟨undef, rfl, trivial, ?_⟩
      exact hT.store
    | q + 6, ho => simp at ho
  case enA =>
    intro vs wx hT hall
    have hT2 : Tm w wx B D M N M N true := hT
    obtain ⟨k0, k1, _, _⟩ := cells2 hT2.res
    have HB := Lib.hid hT2.below
    have v4 := hall 4 _ rfl
    clear hT hT2 HT
    simp only [fill, Act.put]
    go_simp
    go_wp2_with fail
    exact bodyPost_ret (v := .tuple #[X, rect M N]) (by simp [results, Tryz.results17, go_sem, k0, k1, v4]) rfl ⟨rfl, HB.out⟩

/-- what HeavyRect answers of a trimmed protocol -/
def heavyV (u : T) (M N : Nat) : Value := if ends u < 2 then .tuple #[rect 0 0, .bool false] else .tuple #[rect (cutT (ends u) u M N).rows (cutT (ends u) u M N).cols, .bool true]

end Go.Proofs.YtbbgibbpeibhiaaGreatDoor.HvI

