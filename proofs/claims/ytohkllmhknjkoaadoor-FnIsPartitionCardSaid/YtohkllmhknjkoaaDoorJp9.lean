/-
  Texts of one seat, joined: FreeD, Rd6, Rd7.
-/
import Derived.Test.YtohkllmhknjkoaaDoorJp1
import Derived.Test.YtohkllmhknjkoaaDoorJp5
import Derived.Test.YtohkllmhknjkoaaDoorJp7
import Derived.Test.YtohkllmhknjkoaaDoorJp8
import Derived.Test.YtohkllmhknjkoaaDoorJp2
/-
  The law at a region with one draw: one operation reads a number of the reader, the others only make memory, and a store comes last; what they
  yield is told by a relation.
-/
namespace Go.Proofs.YtohkllmhknjkoaaDoor.FreeD
open Go Go.RowKit Go.Proofs.YtohkllmhknjkoaaDoor.Free Go.Proofs.YtohkllmhknjkoaaDoor.FreeL Go.Proofs.YtohkllmhknjkoaaDoor.Rd Go.Proofs.YtohkllmhknjkoaaDoor.Rd2
set_option linter.unusedVariables false

section
variable {ops : Array Oper}

/-- what an operation may know of the slots -/
def FactsV (ops : Array Oper) (a0 : Act) (R : Nat → Value → Prop) (o : Oper) (a : Act) : Prop :=
  (∀ e ∈ o.after, Region.binds .any e = true → ∀ (oj : Oper) (dj : Tmp), ops[e.on]? = some oj → oj.dst = some dj → R e.on (a.tmps[dj]?.getD undef)) ∧
  (∀ k, (ops.toList.all fun o => o.dst != some k) = true → a.tmps[k]?.getD undef = a0.tmps[k]?.getD undef)

/-- THE LAW -/
theorem wp_region_dr {lo : Nat} {id n : Nat} {a0 : Act} {w0 : World} {Q : Exit → Act → World → Prop} (g p : Nat) (R : Nat → Value → Prop) (dr last : Nat) (F : World → World → Prop) (os : Oper)
    (hm : Tryd.prog.follows .mixedOrders = true) (hB : freeB ops n = true) (hn : a0.tmps.size = n) (hs : ops[last]? = some os) (hsd : os.dst = none) (hsz : ops.size = last + 1) (hdl : dr < last)
    (hw : Region.sinkB .any ops last = true) (h0 : Rdr lo w0 g p)
    (hcon : ∀ (i : Nat) (o : Oper), ops[i]? = some o → i < last → i ≠ dr → ∀ (a : Act) (w : World), Apt g w0 w → FactsV ops a0 R o a →
      o.wp Tryd.prog a w (fun a' w' => ∃ v, a' = a.put o.dst v ∧ R i v ∧ Below w.heap.size w w') Q)
    (hdr : ∀ (o : Oper), ops[dr]? = some o → ∀ (a : Act) (w : World), Apt g w0 w → Rdr lo w g p → FactsV ops a0 R o a →
      o.wp Tryd.prog a w (fun a' w' => ∃ v, a' = a.put o.dst v ∧ R dr v ∧ Apt g w w' ∧ Rdr lo w' g (p + 1)) Q)
    (hst : ∀ (a : Act) (w : World), Apt g w0 w → Rdr lo w g (p + 1) → FactsV ops a0 R os a → os.wp Tryd.prog a w (fun a' w' => a' = a ∧ F w w') Q)
    (hend : ∀ (vs : Nat → Value) (w1 w : World), Apt g w0 w1 → Rdr lo w1 g (p + 1) → F w1 w → (∀ (i : Nat) (o : Oper), ops[i]? = some o → i ≠ last → R i (vs i)) → Q .normal (fill ops.toList vs 0 a0) w) :
    (Code.region id ops true).wp Tryd.prog Q a0 w0 := by
  let Y : Nat → Value → Act → World → Prop := fun i v a w => i ≠ last → R i v
  let S : (Nat → Bool) → World → Prop := fun l w => (l last = false → Apt g w0 w ∧ (l dr = false → Rdr lo w g p) ∧ (l dr = true → Rdr lo w g (p + 1))) ∧
    (l last = true → ∃ w1, Apt g w0 w1 ∧ Rdr lo w1 g (p + 1) ∧ F w1 w)
  have facts : ∀ (listed : Array Bool) (o : Oper) (i : Nat) (a : Act) (w : World), ops[i]? = some o → MidL ops a0 Y S listed a w →
      (∀ e ∈ o.after, Region.binds .any e = true → listed.getD e.on false = true) → (∀ e ∈ o.after, Region.binds .any e = true → e.on ≠ last) → FactsV ops a0 R o a := by
    intro listed o i a w ho hM hdl hlt
    refine ⟨fun e he hb oj dj hoj hdj => ?_, fun k hk => ?_⟩
    · obtain ⟨v, hv, hvd⟩ := hM.new e.on oj hoj (hdl e he hb)
      rw [hvd dj hdj]
      exact hv (hlt e he hb)
    · rw [hM.old k fun i o' ho' hd' => ?_]
      have := List.all_eq_true.1 hk o' (by simpa using Array.mem_of_getElem? ho')
      simp [hd'] at this
  have hB2 := hB
  simp only [freeB, Bool.and_eq_true, decide_eq_true_eq] at hB2
  obtain ⟨⟨_, _⟩, h3⟩ := hB2
  have hac : ∀ (i : Nat) (o : Oper), ops[i]? = some o → ∀ e ∈ o.after, Region.binds .any e = true → e.on < i := fun i o ho e he hb => by
    have hi : i < ops.size := (Array.getElem?_eq_some_iff.1 ho).1
    have := List.all_eq_true.1 h3 i (List.mem_range.2 hi)
    rw [ho] at this
    have h5 : (o.after.all fun e => !Region.binds .any e || decide (e.on < i)) = true := this
    have := Array.all_eq_true_iff_forall_mem.1 h5 e he
    simpa [hb] using this
  refine wp_region_freeL (Y := Y) (S := S) hm hB hn ⟨fun _ => ⟨(Apt.refl g w0).drew, fun _ => h0.later (drawn_at w0 1), fun h => (by cases h)⟩, fun h => (by cases h)⟩ ?_ ?_
  · intro i o ho listed a w hM hu hdp
    have hi : i < ops.size := (Array.getElem?_eq_some_iff.1 ho).1
    by_cases hil : i = last
    · subst hil
      obtain rfl : o = os := Option.some.inj (ho.symm.trans hs)
      have hdrl : listed.getD dr false = true := by
        have hd2 : ∃ j, ∃ oj, ops[j]? = some oj ∧ (∃ e ∈ o.after, Region.binds .any e = true ∧ e.on = j) ∧ True := by
          have h4 := List.all_eq_true.1 hw dr (List.mem_range.2 hdl)
          obtain ⟨j, hj, h5⟩ := List.any_eq_true.1 h4
          have hex : ∃ e ∈ o.after, Region.binds .any e = true := by
            have h6 := List.all_eq_true.1 hw (i - 1) (List.mem_range.2 (by omega))
            obtain ⟨j2, hj2, h7⟩ := List.any_eq_true.1 h6
            simp only [Bool.and_eq_true, decide_eq_true_eq] at h7
            have hj2l : j2 < i + 1 := List.mem_range.1 hj2
            obtain ⟨oj, hoj, e2, he2, hb2, hon⟩ := Region.waitsFor_spec h7.2
            have : j2 = i := by
              have := hac j2 oj hoj e2 he2 hb2
              omega
            subst this
            obtain rfl : o = oj := Option.some.inj (ho.symm.trans hoj)
            exact ⟨e2, he2, hb2⟩
          obtain ⟨e, he, hb⟩ := hex
          have hei := hac i o ho e he hb
          exact ⟨e.on, (ops[e.on]'(by omega)), Array.getElem?_eq_getElem (by omega), ⟨e, he, hb, rfl⟩, trivial⟩
        -- all that the store waits for has come; so has what these wait for
        have hcl : ∀ (d k : Nat), i - k ≤ d → k < i → listed.getD k false = true := by
          intro d
          induction d with
          | zero => intro k h1 h2; omega
          | succ d ih =>
            intro k h1 h2
            have h4 := List.all_eq_true.1 hw k (List.mem_range.2 h2)
            obtain ⟨j, hj, h5⟩ := List.any_eq_true.1 h4
            simp only [Bool.and_eq_true, decide_eq_true_eq] at h5
            have hjl : j < i + 1 := List.mem_range.1 hj
            obtain ⟨oj, hoj, e2, he2, hb2, hon⟩ := Region.waitsFor_spec h5.2
            by_cases hji : j = i
            · subst hji
              obtain rfl : o = oj := Option.some.inj (ho.symm.trans hoj)
              have := hdp e2 he2 hb2
              rwa [hon] at this
            · have := hM.closed j oj hoj (ih j (by omega) (by omega)) e2 he2 hb2
              rwa [hon] at this
        exact hcl (i - dr) dr (Nat.le_refl _) hdl
      obtain ⟨hw1, _, hw3⟩ := hM.world.1 hu
      refine Oper.wp_mono ?_ (hst a w hw1 (hw3 hdrl) (facts listed o i a _ ho hM hdp (fun e he hb => Nat.ne_of_lt (hac i o ho e he hb))))
      rintro a' w' ⟨rfl, hf⟩
      exact ⟨undef, by rw [hsd]; rfl, fun h => absurd rfl h, ⟨fun h => (by simp at h), fun _ => ⟨w, hw1, hw3 hdrl, hf⟩⟩, fun j u hj _ hY hjl => hY hjl⟩
    · have hlt : i < last := by omega
      have hnl : listed.getD last false = false := by
        cases hl : listed.getD last false with
        | false => rfl
        | true =>
          exfalso
          have := sink_listed hw hM.closed hl (last - i) i (Nat.le_refl _) (by omega)
          rw [hu] at this
          cases this
      obtain ⟨hw1, hw2, hw3⟩ := hM.world.1 hnl
      have hfc := facts listed o i a w ho hM hdp (fun e he hb => Nat.ne_of_lt (Nat.lt_trans (hac i o ho e he hb) hlt))
      by_cases hid : i = dr
      · subst hid
        refine Oper.wp_mono ?_ (hdr o ho a w hw1 (hw2 hu) hfc)
        rintro a' w' ⟨v, rfl, hv, hb, hr⟩
        refine ⟨v, rfl, fun _ => hv, ⟨fun _ => ⟨hw1.trans hb, fun h => (by simp at h), fun _ => hr⟩, fun h => ?_⟩, fun j u hj _ hY hjl => hY hjl⟩
        dsimp only at h
        rw [if_neg (Ne.symm hil), hnl] at h
        cases h
      · refine Oper.wp_mono ?_ (hcon i o ho hlt hid a w hw1 hfc)
        rintro a' w' ⟨v, rfl, hv, hb⟩
        refine ⟨v, rfl, fun _ => hv, ⟨fun _ => ⟨hw1.trans (Apt.of_below hb), fun h => ?_, fun h => ?_⟩, fun h => ?_⟩, fun j u hj _ hY hjl => hY hjl⟩
        · dsimp only at h
          rw [if_neg (Ne.symm hid)] at h
          exact (hw2 h).later hb
        · dsimp only at h
          rw [if_neg (Ne.symm hid)] at h
          exact (hw3 h).later hb
        · dsimp only at h
          rw [if_neg (Ne.symm hil), hnl] at h
          cases h
  · intro vs w hw1 hall
    obtain ⟨w1, hb1, hr1, hf⟩ := hw1.2 (decide_eq_true (by omega))
    exact hend vs w1 w hb1 hr1 hf fun i o ho hil => hall i o ho hil

/-- THE LAW WITHOUT A DRAW: all but the last only make memory -/
theorem wp_region_val {id n : Nat} {a0 : Act} {w0 : World} {Q : Exit → Act → World → Prop} (R : Nat → Value → Prop) (last : Nat) (F : World → World → Prop) (os : Oper)
    (hm : Tryd.prog.follows .mixedOrders = true) (hB : freeB ops n = true) (hn : a0.tmps.size = n) (hs : ops[last]? = some os) (hsd : os.dst = none) (hsz : ops.size = last + 1)
    (hw : Region.sinkB .any ops last = true)
    (hcon : ∀ (i : Nat) (o : Oper), ops[i]? = some o → i < last → ∀ (a : Act) (w : World), Below w0.heap.size w0 w → FactsV ops a0 R o a →
      o.wp Tryd.prog a w (fun a' w' => ∃ v, a' = a.put o.dst v ∧ R i v ∧ Below w.heap.size w w') Q)
    (hst : ∀ (a : Act) (w : World), Below w0.heap.size w0 w → FactsV ops a0 R os a → os.wp Tryd.prog a w (fun a' w' => a' = a ∧ F w w') Q)
    (hend : ∀ (vs : Nat → Value) (w1 w : World), Below w0.heap.size w0 w1 → F w1 w → (∀ (i : Nat) (o : Oper), ops[i]? = some o → i ≠ last → R i (vs i)) → Q .normal (fill ops.toList vs 0 a0) w) :
    (Code.region id ops true).wp Tryd.prog Q a0 w0 := by
  let Y : Nat → Value → Act → World → Prop := fun i v a w => i ≠ last → R i v
  let S : (Nat → Bool) → World → Prop := fun l w => (l last = false → Below w0.heap.size w0 w) ∧ (l last = true → ∃ w1, Below w0.heap.size w0 w1 ∧ F w1 w)
  have facts : ∀ (listed : Array Bool) (o : Oper) (i : Nat) (a : Act) (w : World), ops[i]? = some o → MidL ops a0 Y S listed a w →
      (∀ e ∈ o.after, Region.binds .any e = true → listed.getD e.on false = true) → (∀ e ∈ o.after, Region.binds .any e = true → e.on ≠ last) → FactsV ops a0 R o a := by
    intro listed o i a w ho hM hdl hlt
    refine ⟨fun e he hb oj dj hoj hdj => ?_, fun k hk => ?_⟩
    · obtain ⟨v, hv, hvd⟩ := hM.new e.on oj hoj (hdl e he hb)
      rw [hvd dj hdj]
      exact hv (hlt e he hb)
    · rw [hM.old k fun i o' ho' hd' => ?_]
      have := List.all_eq_true.1 hk o' (by simpa using Array.mem_of_getElem? ho')
      simp [hd'] at this
  have hB2 := hB
  simp only [freeB, Bool.and_eq_true, decide_eq_true_eq] at hB2
  obtain ⟨⟨_, _⟩, h3⟩ := hB2
  have hac : ∀ (i : Nat) (o : Oper), ops[i]? = some o → ∀ e ∈ o.after, Region.binds .any e = true → e.on < i := fun i o ho e he hb => by
    have hi : i < ops.size := (Array.getElem?_eq_some_iff.1 ho).1
    have := List.all_eq_true.1 h3 i (List.mem_range.2 hi)
    rw [ho] at this
    have h5 : (o.after.all fun e => !Region.binds .any e || decide (e.on < i)) = true := this
    have := Array.all_eq_true_iff_forall_mem.1 h5 e he
    simpa [hb] using this
  refine wp_region_freeL (Y := Y) (S := S) hm hB hn ⟨fun _ => (Below.refl w0.heap.size w0).drew, fun h => (by cases h)⟩ ?_ ?_
  · intro i o ho listed a w hM hu hdp
    have hi : i < ops.size := (Array.getElem?_eq_some_iff.1 ho).1
    by_cases hil : i = last
    · subst hil
      obtain rfl : o = os := Option.some.inj (ho.symm.trans hs)
      have hw1 := hM.world.1 hu
      refine Oper.wp_mono ?_ (hst a w hw1 (facts listed o i a _ ho hM hdp (fun e he hb => Nat.ne_of_lt (hac i o ho e he hb))))
      rintro a' w' ⟨rfl, hf⟩
      exact ⟨undef, by rw [hsd]; rfl, fun h => absurd rfl h, ⟨fun h => (by simp at h), fun _ => ⟨w, hw1, hf⟩⟩, fun j u hj _ hY hjl => hY hjl⟩
    · have hlt : i < last := by omega
      have hnl : listed.getD last false = false := by
        cases hl : listed.getD last false with
        | false => rfl
        | true =>
          exfalso
          have := sink_listed hw hM.closed hl (last - i) i (Nat.le_refl _) (by omega)
          rw [hu] at this
          cases this
      have hw1 := hM.world.1 hnl
      refine Oper.wp_mono ?_ (hcon i o ho hlt a w hw1 (facts listed o i a w ho hM hdp (fun e he hb => Nat.ne_of_lt (Nat.lt_trans (hac i o ho e he hb) hlt))))
      rintro a' w' ⟨v, rfl, hv, hb⟩
      refine ⟨v, rfl, fun _ => hv, ⟨fun _ => hw1.trans (hb.mono hw1.size), fun h => ?_⟩, fun j u hj _ hY hjl => hY hjl⟩
      dsimp only at h
      rw [if_neg (Ne.symm hil), hnl] at h
      cases h
  · intro vs w hw1 hall
    obtain ⟨w1, hb1, hf⟩ := hw1.2 (decide_eq_true (by omega))
    exact hend vs w1 w hb1 hf fun i o ho hil => hall i o ho hil
end
end Go.Proofs.YtohkllmhknjkoaaDoor.FreeD

/-
  The drawing function l1Draw.
-/
namespace Go.Proofs.YtohkllmhknjkoaaDoor.Rd6
open Go.RowKit Go.Proofs.YtohkllmhknjkoaaDoor.Plain Go.Proofs.YtohkllmhknjkoaaDoor.Base Go.Proofs.YtohkllmhknjkoaaDoor.Rd Go.Proofs.YtohkllmhknjkoaaDoor.Rd2 Go.Proofs.YtohkllmhknjkoaaDoor.Rd3 Go.Proofs.YtohkllmhknjkoaaDoor.Rd4 Go.Proofs.YtohkllmhknjkoaaDoor.Rd5 Go.Proofs.YtohkllmhknjkoaaDoor.FreeD
open Go.Proofs.YtohkllmhknjkoaaDoor.Valid (okB okB_true validB validB_in)
open Go.Proofs.YtohkllmhknjkoaaDoor.Free (fill wp_value wp_enter wp_load_row freeB setRow_kept)
set_option linter.unusedVariables false

theorem wp_skip {P : Program} {o : Oper} {a : Act} {w w' : World} {K : Act → World → Prop} {Q : Exit → Act → World → Prop} (h : (execOp a.eval o).run P w = .ok .skip w') (hK : K (a.put o.dst undef) w') : o.wp P a w K Q := by
  unfold Oper.wp
  rw [h]
  exact hK
theorem wp_enterE {P : Program} {o : Oper} {a : Act} {w : World} {K : Act → World → Prop} {Q : Exit → Act → World → Prop} (f : FuncId) (args : Array Value) (R : Value → World → Prop) (h : (execOp a.eval o).run P w = .ok (.enter f args) w)
    (hc : Calls P f args w fun e w' => ∃ v, e = .returned v ∧ R v w') (hK : ∀ v w', R v w' → K (a.put o.dst v) w') : o.wp P a w K Q := by
  unfold Oper.wp
  rw [h]
  refine Calls.mono hc ?_
  rintro e w' ⟨v, rfl, hR⟩
  exact hK v w' hR
theorem minfo3 : (Tryd.prog.info? 26).map (·.size) = some 3 := by kernel_rfl
theorem eget {a : Act} {d : Tmp} {v : Value} (h : a.tmps[d]?.getD undef = v) : a.eval (.tmp d) = v := by
  simpa [Act.eval] using h
theorem apt_setRow {g : Nat} {w wr : World} (h : Apt g w wr) (b : Nat) (hb : w.heap.size ≤ b) (cs : Array Value) : Apt g w (wr.setRow b cs) :=
  ⟨h.os, h.tape, h.output, by simpa [World.setRow] using h.size, fun k hk hg => (Go.Proofs.YtohkllmhknjkoaaDoor.Free.setRow_other (by omega) cs).trans (h.block k hk hg)⟩
theorem rdr_putRow {lo : Nat} {g p : Nat} {w : World} (h : Rdr lo w g p) (b : Nat) (cs : Array Value) (hbg : b ≠ g) (hlo : g < b ∨ lo ≤ b) : Rdr lo (w.setRow b cs) g p := by
  obtain ⟨v, n, h, hl⟩ := h
  obtain ⟨h0, a, c, hv, h1⟩ := h.bytes
  refine ⟨v, n, ⟨(Go.Proofs.YtohkllmhknjkoaaDoor.Free.setRow_other (by omega) cs).trans h.cells, h0, a, c, hv, ?_⟩, hl⟩
  rcases h1 with h1 | ⟨b', off, h1, h2, h3, h4⟩
  · exact .inl h1
  · by_cases hn : n = 0
    · exact .inl hn
    have hbb : b' ≠ b := by
      rcases hlo with h5 | h5
      · omega
      · rcases hl with h6 | h6
        · exact absurd h6 hn
        · have := h6 b' off n c (by rw [hv, h1])
          omega
    refine .inr ⟨b', off, h1, h2, by simpa [World.setRow] using h3, fun j hj => ?_⟩
    obtain ⟨y, hy0, hy1, hy⟩ := h4 j hj
    have e := Go.Proofs.YtohkllmhknjkoaaDoor.Free.setRow_other (w := w) (g := b) (k := b') hbb cs
    refine ⟨y, hy0, hy1, ?_⟩
    simp only [World.cell?, e] at hy ⊢
    exact hy
theorem rdr_setRow {lo : Nat} {g p : Nat} {w : World} (h : Rdr lo w g p) (b : Nat) (cs : Array Value) (hb : g < b) : Rdr lo (w.setRow b cs) g p := rdr_putRow h b cs (by omega) (.inl hb)

/-- the text of a valid matrix -/
def Sz (r c : Int) (s : ByteArray) : Prop := (1 ≤ s.size ∧ s.size ≤ 64) ∧ validB r c s = true
theorem ok_digs (l : List UInt8) (h : ∀ b ∈ l, b = 48 ∨ b = 49) : okB (str l) = true := by
  unfold okB str
  rw [List.all_eq_true]
  intro b hb
  rcases h b (by simpa using hb) with rfl | rfl <;> rfl
theorem ok_next (t : ByteArray) (b : Bool) (h : okB t = true) : okB (t ++ ⟨#[dig b]⟩) = true := by
  unfold okB at h ⊢
  rw [ByteArray.data_append, Array.toList_append, List.all_append, h, Bool.true_and]
  cases b <;> rfl
theorem sz_of (R C : Nat) (h1 : 1 ≤ R) (h2 : R ≤ 8) (h3 : 1 ≤ C) (h4 : C ≤ 8) (s : ByteArray) (hs : s.size = R * C) (ho : okB s = true) : Sz R C s := by
  refine ⟨by rw [hs]; exact ⟨Nat.mul_pos (by omega) (by omega), Nat.mul_le_mul h2 h4⟩, ?_⟩
  rw [validB_in (by omega) (by omega) (by omega) (by omega), ho, Bool.true_and, hs]
  simp
theorem sz_rows (E : Nat → Nat → Bool) (R C : Nat) (h1 : 1 ≤ R) (h2 : R ≤ 8) (h3 : 1 ≤ C) (h4 : C ≤ 8) : Sz R C (str (rowsB E R C)) := by
  refine sz_of R C h1 h2 h3 h4 _ (by rw [str_size, rowsB_length]) (ok_digs _ fun b hb => ?_)
  unfold rowsB rowB at hb
  obtain ⟨x, _, hx⟩ := List.mem_flatMap.1 hb
  obtain ⟨y, _, rfl⟩ := List.mem_map.1 hx
  cases E x y
  · exact .inl rfl
  · exact .inr rfl
theorem make_any (k : Int) (hk : 0 ≤ k ∧ k ≤ 4) (r c : Int) (hr : 1 ≤ r ∧ r ≤ 8) (hc : 1 ≤ c ∧ c ≤ 8) (w : World) :
    Calls Tryd.prog 110 #[.int .i64 k, .int .i64 r, .int .i64 c] w fun e w' => ∃ s, e = .returned (mtx r c s) ∧ Sz r c s ∧ Below w.heap.size w w' := by
  obtain ⟨R, rfl⟩ := Int.eq_ofNat_of_zero_le (show 0 ≤ r by omega)
  obtain ⟨C, rfl⟩ := Int.eq_ofNat_of_zero_le (show 0 ≤ c by omega)
  have hR : R ≤ 8 := by omega
  have hC : C ≤ 8 := by omega
  have size : ∀ E, Sz R C (str (rowsB E R C)) := fun E => sz_rows E R C (by omega) hR (by omega) hC
  have hk5 : k = 0 ∨ k = 1 ∨ k = 2 ∨ k = 3 ∨ k = 4 := by omega
  rcases hk5 with rfl | rfl | rfl | rfl | rfl
  · exact (Make.make0 R C hR hC w).mono fun e w' h => ⟨_, h.1, size _, h.2⟩
  · exact (Make.make1 R C hR hC w).mono fun e w' h => ⟨_, h.1, size _, h.2⟩
  · exact (Make.make2 R C hR hC w).mono fun e w' h => ⟨_, h.1, size _, h.2⟩
  · exact (Make.make3 R C hR hC w).mono fun e w' h => ⟨_, h.1, size _, h.2⟩
  · exact (Make.make4 R C hR hC w).mono fun e w' h => ⟨_, h.1, size _, h.2⟩

/-- what is known in the midst of l1Draw -/
structure DI (g : Nat) (w wr : World) (b : Nat) (r c : Int) (t : ByteArray) : Prop where
  res : wr.heap[w.heap.size]? = some (.cells #[.int .i64 0, .int .i64 0, .string ⟨#[]⟩] 26 (0, 0))
  loc : wr.heap[b]? = some (.cells #[.int .i64 r, .int .i64 c, .string t] 26 (0, 0))
  apt : Apt g w wr
  lo : w.heap.size < b
  hg : g < w.heap.size
theorem DI.lt {g : Nat} {w wr : World} {b : Nat} {r c : Int} {t : ByteArray} (h : DI g w wr b r c t) : b < wr.heap.size := (Array.getElem?_eq_some_iff.1 h.loc).1
theorem DI.later {g : Nat} {w wr w2 : World} {b : Nat} {r c : Int} {t : ByteArray} (h : DI g w wr b r c t) (ha : Apt g wr w2) : DI g w w2 b r c t :=
  ⟨(ha.block _ (Array.getElem?_eq_some_iff.1 h.res).1 (by have := h.hg; omega)).trans h.res, (ha.block _ h.lt (by have := h.hg; have := h.lo; omega)).trans h.loc, h.apt.trans ha, h.lo, h.hg⟩
theorem DI.set_ {g : Nat} {w wr : World} {b : Nat} {r c : Int} {t : ByteArray} (h : DI g w wr b r c t) (u : ByteArray) : DI g w (wr.setCell ⟨b, 2, none⟩ (.string u)) b r c u :=
  ⟨(heap_setCell_other _ _ _ _ (by simp; have := h.lo; omega)).trans h.res, (heap_setCell_same _ _ _ _ _ _ h.loc).trans rfl, apt_set h.apt _ _ (by have := h.lo; omega) _, h.lo, h.hg⟩

set_option maxHeartbeats 4000000 in
set_option maxRecDepth 100000 in
theorem draw_matV {lo : Nat} (g p : Nat) (hp : p < 1040000) (most : Int) (hm1 : 1 ≤ most) (hm8 : most ≤ 8) (w : World) (h : Rdr lo w g p) :
    Calls Tryd.prog 58 #[.pointer (some ⟨g, 0, none⟩), .int .i64 most] w fun e w' => ∃ (a b : Int) (t : ByteArray) (p' : Nat), e = .returned (mtx a b t) ∧ (1 ≤ a ∧ a ≤ 8) ∧ (1 ≤ b ∧ b ≤ 8) ∧ Sz a b t ∧ p ≤ p' ∧ p' ≤ p + 100 ∧ Rdr lo w' g p' ∧ Apt g w w' := by
  have hg := h.lt
  have h0 := h.later ((Below.refl w.heap.size w).alloc (Nat.le_refl _) (.cells #[.int .i64 0, .int .i64 0, .string ⟨#[]⟩] 26))
  have HP := Lib.hid (fun m => pick_r g p (by omega) m _ h0)
  clear h h0
  go_enter Tryd.func58, Tryd.ntmps58
  go_wp2_with fail
  refine (HP.out _).mono ?_
  rintro e w1 ⟨x, rfl, ⟨hx0, -⟩, hxm, hr1, ha1⟩
  have HQ := Lib.hid (fun m => pick_r g (p + 1) (by omega) m _ hr1)
  clear hr1 HP
  go_wp2_with fail
  refine (HQ.out _).mono ?_
  rintro e w2 ⟨y, rfl, ⟨hy0, -⟩, hym, hr2, ha2⟩
  obtain ⟨r, hr⟩ : ∃ r, 1 + x = r := ⟨_, rfl⟩
  obtain ⟨c, hc⟩ : ∃ c, 1 + y = c := ⟨_, rfl⟩
  have hrr : 1 ≤ r ∧ r ≤ 8 := by omega
  have hcc : 1 ≤ c ∧ c ≤ 8 := by omega
  clear hx0 hy0 hxm hym HQ
  have hr3 := hr2.later ((Below.refl w2.heap.size w2).alloc (Nat.le_refl _) (.cells #[.int .i64 r, .int .i64 c, .string ⟨#[]⟩] 26))
  have hres : w2.heap[w.heap.size]? = some (.cells #[.int .i64 0, .int .i64 0, .string ⟨#[]⟩] 26 (0, 0)) := by
    rw [(ha1.trans ha2).block _ (by simp) (by omega)]
    exact heap_alloc_new w _
  have hlt2 : w.heap.size < w2.heap.size := (Array.getElem?_eq_some_iff.1 hres).1
  have hi3 : DI g w (w2.alloc (.cells #[.int .i64 r, .int .i64 c, .string ⟨#[]⟩] 26)) w2.heap.size r c ⟨#[]⟩ :=
    ⟨(Below.heap_alloc _ _ _ hlt2).trans hres, heap_alloc_new w2 _, (Apt.of_below ((Below.refl w.heap.size w).alloc (Nat.le_refl _) _)).trans ((ha1.trans ha2).trans (Apt.of_below ((Below.refl w2.heap.size w2).alloc (Nat.le_refl _) _))), hlt2, hg⟩
  have HP3 := Lib.hid (fun m => pick_r g (p + 2) (by omega) m _ hr3)
  have HI3 := Lib.hid hi3
  clear hr2 hr3 hi3 hres ha1 ha2
  go_wp2_with fail
  clear hr hc
  refine (HP3.out _).mono ?_
  rintro e w4 ⟨k, rfl, ⟨hk0, -⟩, hk8, hr3, ha3⟩
  have HI := Lib.hid (HI3.out.later ha3)
  obtain ⟨m0, m1, m2, m3, m4, m5⟩ := cells3 HI.out.loc
  clear HP3 HI3 ha3
  by_cases hA : k = 0
  · subst hA
    have HRD := Lib.hid hr3
    clear hr3 m0 m1 m2 m3 m4 m5
    go_wp2_with fail
    refine wp_region_dr g (p + 3) (fun | 0 => fun v => v = .pointer (some ⟨g, 0, none⟩) | 1 => fun v => ∃ x : Int, v = .int .i64 x ∧ 0 ≤ x ∧ (x < 2 ∨ x = 0) | 2 => fun v => v = .pointer (some ⟨w2.heap.size, 0, none⟩) | 3 => fun v => v = .int .i64 r | 4 => fun v => v = .pointer (some ⟨w2.heap.size, 0, none⟩) | 5 => fun v => v = .int .i64 r | 6 => fun v => ∃ s, v = mtx r r s ∧ Sz r r s | _ => fun _ => True) 1 7 (fun wa wb => ∃ s : ByteArray, Sz r r s ∧ wb = wa.setRow w.heap.size #[.int .i64 r, .int .i64 r, .string s]) _ (by kernel_rfl) (by kernel_rfl) rfl rfl rfl rfl (by omega) (by kernel_rfl) HRD.out ?con ?dr ?st ?en
    case con =>
      intro i o ho hi hid a wx hax hf
      obtain ⟨m0, m1, m2, m3, m4, m5⟩ := cells3 (HI.out.later hax).loc
      match i, ho with
      | 0, ho =>
        obtain rfl := Option.some.inj ho
        have b0 : a.tmps[0]?.getD undef = .pointer (some ⟨g, 0, none⟩) := hf.2 0 (by kernel_rfl)
        exact wp_value (.pointer (some ⟨g, 0, none⟩)) (by unfold execOp; go_simp) ⟨_, rfl, rfl, Below.refl _ _⟩
      | 1, ho => exact absurd rfl hid
      | 2, ho =>
        obtain rfl := Option.some.inj ho
        have b5 : a.tmps[5]?.getD undef = .pointer (some ⟨w2.heap.size, 0, none⟩) := hf.2 5 (by kernel_rfl)
        exact wp_value (.pointer (some ⟨w2.heap.size, 0, none⟩)) (by unfold execOp; go_simp) ⟨_, rfl, rfl, Below.refl _ _⟩
      | 3, ho =>
        obtain rfl := Option.some.inj ho
        have e2 : a.tmps[23]?.getD undef = .pointer (some ⟨w2.heap.size, 0, none⟩) := hf.1 ⟨2, .data⟩ (by simp) rfl _ 23 rfl rfl
        exact wp_value (.int .i64 r) (by unfold execOp; go_simp) ⟨_, rfl, rfl, Below.refl _ _⟩
      | 4, ho =>
        obtain rfl := Option.some.inj ho
        have b5 : a.tmps[5]?.getD undef = .pointer (some ⟨w2.heap.size, 0, none⟩) := hf.2 5 (by kernel_rfl)
        exact wp_value (.pointer (some ⟨w2.heap.size, 0, none⟩)) (by unfold execOp; go_simp) ⟨_, rfl, rfl, Below.refl _ _⟩
      | 5, ho =>
        obtain rfl := Option.some.inj ho
        have e4 : a.tmps[25]?.getD undef = .pointer (some ⟨w2.heap.size, 0, none⟩) := hf.1 ⟨4, .data⟩ (by simp) rfl _ 25 rfl rfl
        exact wp_value (.int .i64 r) (by unfold execOp; go_simp) ⟨_, rfl, rfl, Below.refl _ _⟩
      | 6, ho =>
        obtain rfl := Option.some.inj ho
        obtain ⟨x, e1, hx0, hx1⟩ : ∃ x : Int, a.tmps[22]?.getD undef = .int .i64 x ∧ 0 ≤ x ∧ (x < 2 ∨ x = 0) := hf.1 ⟨1, .data⟩ (by simp) rfl _ 22 rfl rfl
        have e3 : a.tmps[24]?.getD undef = .int .i64 r := hf.1 ⟨3, .data⟩ (by simp) rfl _ 24 rfl rfl
        have e5 : a.tmps[26]?.getD undef = .int .i64 r := hf.1 ⟨5, .data⟩ (by simp) rfl _ 26 rfl rfl
        exact wp_enterE 110 #[.int .i64 x, .int .i64 r, .int .i64 r] (fun v w' => ∃ s', v = mtx r r s' ∧ Sz r r s' ∧ Below wx.heap.size wx w') (by unfold execOp; go_simp)
          ((make_any x ⟨by omega, by omega⟩ r r hrr hrr wx).mono fun e w' h => by obtain ⟨s, he, hs, hb⟩ := h; exact ⟨_, he, (⟨s, rfl, hs, hb⟩ : ∃ s', mtx r r s = mtx r r s' ∧ Sz r r s' ∧ Below wx.heap.size wx w')⟩)
          (fun v w' h => by obtain ⟨s, rfl, hs, hb⟩ := h; exact ⟨_, rfl, ⟨s, rfl, hs⟩, hb⟩)
      | q + 7, ho => exact absurd hi (by omega)
    case dr =>
      intro o ho a wx hax hrx hf
      obtain rfl := Option.some.inj ho
      have e0 : a.tmps[21]?.getD undef = .pointer (some ⟨g, 0, none⟩) := hf.1 ⟨0, .data⟩ (by simp) rfl _ 21 rfl rfl
      exact wp_enterE 61 #[.pointer (some ⟨g, 0, none⟩), .int .i64 2] (fun v w' => ∃ x' : Int, v = .int .i64 x' ∧ (0 ≤ x' ∧ x' < 4611686018427387904) ∧ (x' < 2 ∨ x' = 0) ∧ Rdr lo w' g (p + 3 + 1) ∧ Apt g wx w') (by unfold execOp; go_simp)
        ((pick_r g (p + 3) (by omega) 2 wx hrx).mono fun e w' h => by obtain ⟨x, he, hx0, hx1, hr, ha⟩ := h; exact ⟨_, he, (⟨x, rfl, hx0, hx1, hr, ha⟩ : ∃ x' : Int, Value.int .i64 x = .int .i64 x' ∧ (0 ≤ x' ∧ x' < 4611686018427387904) ∧ (x' < 2 ∨ x' = 0) ∧ Rdr lo w' g (p + 3 + 1) ∧ Apt g wx w')⟩)
        (fun v w' h => by obtain ⟨x, rfl, hx0, hx1, hr, ha⟩ := h; exact ⟨_, rfl, ⟨x, rfl, hx0.1, hx1⟩, ha, hr⟩)
    case st =>
      intro a wx hax hrx hf
      have b4 : a.tmps[4]?.getD undef = .pointer (some ⟨w.heap.size, 0, none⟩) := hf.2 4 (by kernel_rfl)
      obtain ⟨s, e6, hs⟩ : ∃ s, a.tmps[27]?.getD undef = mtx r r s ∧ Sz r r s := hf.1 ⟨6, .data⟩ (by simp) rfl _ 27 rfl rfl
      exact wp_store_row 26 (.tmp 4) (.tmp 27) rfl w.heap.size #[.int .i64 r, .int .i64 r, .string s] (eget b4) (eget e6) 26 _ (HI.out.later hax).res minfo3 rfl (by simp [Value.oneCell']) ⟨rfl, s, hs, rfl⟩
    case en =>
      rintro vs wa wb haw hrw ⟨s, hs, rfl⟩ -
      have hdi := HI.out.later haw
      have hrow := setRow_kept hdi.res #[.int .i64 r, .int .i64 r, .string s]
      have HA := Lib.hid (apt_setRow hdi.apt w.heap.size (Nat.le_refl _) #[.int .i64 r, .int .i64 r, .string s])
      have HR := Lib.hid (rdr_setRow hrw w.heap.size #[.int .i64 r, .int .i64 r, .string s] (by have := hdi.hg; omega))
      clear hdi haw hrw HI HRD
      generalize wa.setRow w.heap.size #[.int .i64 r, .int .i64 r, .string s] = wz at *
      obtain ⟨o0, o1, o2, f0, f1, f2⟩ := cells3 hrow
      clear hrow
      simp only [fill, Act.put]
      go_simp
      go_wp2_with fail
      exact bodyPost_ret (v := mtx r r s) (by simp [results, Tryd.results58, go_sem, o0, o1, o2]) rfl ⟨r, r, s, p + 4, rfl, hrr, hrr, hs, by omega, by omega, HR.out, HA.out⟩
  by_cases hB : k = 1 ∧ 4 ≤ most
  · obtain ⟨rfl, hm4⟩ := hB
    have HQ := Lib.hid (fun m => pick_r g (p + 3) (by omega) m _ hr3)
    clear hr3
    go_wp2_with fail
    refine (HQ.out _).mono ?_
    rintro e w5 ⟨x5, rfl, ⟨hx50, hx5m⟩, hx5l, hr5, ha5⟩
    have HI5 := Lib.hid (HI.out.later ha5)
    have HR5 := Lib.hid hr5
    clear hr5 ha5 HQ
    go_wp2_with fail
    refine (make_any _ ⟨by omega, by omega⟩ _ _ ⟨by omega, by omega⟩ ⟨by omega, by omega⟩ _).mono ?_
    rintro e w6 ⟨s6, rfl, hs6, hb6⟩
    have HI6 := Lib.hid (HI5.out.later (Apt.of_below hb6))
    have HR := Lib.hid (HR5.out.later hb6)
    obtain ⟨o0, o1, o2, f0, f1, f2⟩ := cells3 HI6.out.res
    have HA := Lib.hid HI6.out.apt
    clear hb6
    go_wp2_with fail
    refine bodyPost_ret (v := mtx (4) (4) (s6)) (by simp [results, Tryd.results58, go_sem, o0, o1, o2]) rfl ⟨4, 4, s6, p + 4, rfl, ⟨by omega, by omega⟩, ⟨by omega, by omega⟩, hs6, by omega, by omega, ?_, ?_⟩
    · exact rdr_set (rdr_set (rdr_set (HR.out) _ _ _ (by omega)) _ _ _ (by omega)) _ _ _ (by omega)
    · exact apt_set (apt_set (apt_set (HA.out) _ _ (by omega) _) _ _ (by omega) _) _ _ (by omega) _
  by_cases hC : k = 2
  · subst hC
    have HRD := Lib.hid hr3
    clear hr3 m0 m1 m2 m3 m4 m5
    go_wp2_with fail
    refine wp_region_dr g (p + 3) (fun | 0 => fun v => v = .pointer (some ⟨g, 0, none⟩) | 1 => fun v => ∃ x : Int, v = .int .i64 x ∧ 0 ≤ x ∧ (x < 5 ∨ x = 0) | 2 => fun v => v = .pointer (some ⟨w2.heap.size, 0, none⟩) | 3 => fun v => v = .int .i64 r | 4 => fun v => v = .pointer (some ⟨w2.heap.size, 1, none⟩) | 5 => fun v => v = .int .i64 c | 6 => fun v => ∃ s, v = mtx r c s ∧ Sz r c s | _ => fun _ => True) 1 7 (fun wa wb => ∃ s : ByteArray, Sz r c s ∧ wb = wa.setRow w.heap.size #[.int .i64 r, .int .i64 c, .string s]) _ (by kernel_rfl) (by kernel_rfl) rfl rfl rfl rfl (by omega) (by kernel_rfl) HRD.out ?con ?dr ?st ?en
    case con =>
      intro i o ho hi hid a wx hax hf
      obtain ⟨m0, m1, m2, m3, m4, m5⟩ := cells3 (HI.out.later hax).loc
      match i, ho with
      | 0, ho =>
        obtain rfl := Option.some.inj ho
        have b0 : a.tmps[0]?.getD undef = .pointer (some ⟨g, 0, none⟩) := hf.2 0 (by kernel_rfl)
        exact wp_value (.pointer (some ⟨g, 0, none⟩)) (by unfold execOp; go_simp) ⟨_, rfl, rfl, Below.refl _ _⟩
      | 1, ho => exact absurd rfl hid
      | 2, ho =>
        obtain rfl := Option.some.inj ho
        have b5 : a.tmps[5]?.getD undef = .pointer (some ⟨w2.heap.size, 0, none⟩) := hf.2 5 (by kernel_rfl)
        exact wp_value (.pointer (some ⟨w2.heap.size, 0, none⟩)) (by unfold execOp; go_simp) ⟨_, rfl, rfl, Below.refl _ _⟩
      | 3, ho =>
        obtain rfl := Option.some.inj ho
        have e2 : a.tmps[40]?.getD undef = .pointer (some ⟨w2.heap.size, 0, none⟩) := hf.1 ⟨2, .data⟩ (by simp) rfl _ 40 rfl rfl
        exact wp_value (.int .i64 r) (by unfold execOp; go_simp) ⟨_, rfl, rfl, Below.refl _ _⟩
      | 4, ho =>
        obtain rfl := Option.some.inj ho
        have b5 : a.tmps[5]?.getD undef = .pointer (some ⟨w2.heap.size, 0, none⟩) := hf.2 5 (by kernel_rfl)
        exact wp_value (.pointer (some ⟨w2.heap.size, 1, none⟩)) (by unfold execOp; go_simp) ⟨_, rfl, rfl, Below.refl _ _⟩
      | 5, ho =>
        obtain rfl := Option.some.inj ho
        have e4 : a.tmps[42]?.getD undef = .pointer (some ⟨w2.heap.size, 1, none⟩) := hf.1 ⟨4, .data⟩ (by simp) rfl _ 42 rfl rfl
        exact wp_value (.int .i64 c) (by unfold execOp; go_simp) ⟨_, rfl, rfl, Below.refl _ _⟩
      | 6, ho =>
        obtain rfl := Option.some.inj ho
        obtain ⟨x, e1, hx0, hx1⟩ : ∃ x : Int, a.tmps[39]?.getD undef = .int .i64 x ∧ 0 ≤ x ∧ (x < 5 ∨ x = 0) := hf.1 ⟨1, .data⟩ (by simp) rfl _ 39 rfl rfl
        have e3 : a.tmps[41]?.getD undef = .int .i64 r := hf.1 ⟨3, .data⟩ (by simp) rfl _ 41 rfl rfl
        have e5 : a.tmps[43]?.getD undef = .int .i64 c := hf.1 ⟨5, .data⟩ (by simp) rfl _ 43 rfl rfl
        exact wp_enterE 110 #[.int .i64 x, .int .i64 r, .int .i64 c] (fun v w' => ∃ s', v = mtx r c s' ∧ Sz r c s' ∧ Below wx.heap.size wx w') (by unfold execOp; go_simp)
          ((make_any x ⟨by omega, by omega⟩ r c hrr hcc wx).mono fun e w' h => by obtain ⟨s, he, hs, hb⟩ := h; exact ⟨_, he, (⟨s, rfl, hs, hb⟩ : ∃ s', mtx r c s = mtx r c s' ∧ Sz r c s' ∧ Below wx.heap.size wx w')⟩)
          (fun v w' h => by obtain ⟨s, rfl, hs, hb⟩ := h; exact ⟨_, rfl, ⟨s, rfl, hs⟩, hb⟩)
      | q + 7, ho => exact absurd hi (by omega)
    case dr =>
      intro o ho a wx hax hrx hf
      obtain rfl := Option.some.inj ho
      have e0 : a.tmps[38]?.getD undef = .pointer (some ⟨g, 0, none⟩) := hf.1 ⟨0, .data⟩ (by simp) rfl _ 38 rfl rfl
      exact wp_enterE 61 #[.pointer (some ⟨g, 0, none⟩), .int .i64 5] (fun v w' => ∃ x' : Int, v = .int .i64 x' ∧ (0 ≤ x' ∧ x' < 4611686018427387904) ∧ (x' < 5 ∨ x' = 0) ∧ Rdr lo w' g (p + 3 + 1) ∧ Apt g wx w') (by unfold execOp; go_simp)
        ((pick_r g (p + 3) (by omega) 5 wx hrx).mono fun e w' h => by obtain ⟨x, he, hx0, hx1, hr, ha⟩ := h; exact ⟨_, he, (⟨x, rfl, hx0, hx1, hr, ha⟩ : ∃ x' : Int, Value.int .i64 x = .int .i64 x' ∧ (0 ≤ x' ∧ x' < 4611686018427387904) ∧ (x' < 5 ∨ x' = 0) ∧ Rdr lo w' g (p + 3 + 1) ∧ Apt g wx w')⟩)
        (fun v w' h => by obtain ⟨x, rfl, hx0, hx1, hr, ha⟩ := h; exact ⟨_, rfl, ⟨x, rfl, hx0.1, hx1⟩, ha, hr⟩)
    case st =>
      intro a wx hax hrx hf
      have b4 : a.tmps[4]?.getD undef = .pointer (some ⟨w.heap.size, 0, none⟩) := hf.2 4 (by kernel_rfl)
      obtain ⟨s, e6, hs⟩ : ∃ s, a.tmps[44]?.getD undef = mtx r c s ∧ Sz r c s := hf.1 ⟨6, .data⟩ (by simp) rfl _ 44 rfl rfl
      exact wp_store_row 26 (.tmp 4) (.tmp 44) rfl w.heap.size #[.int .i64 r, .int .i64 c, .string s] (eget b4) (eget e6) 26 _ (HI.out.later hax).res minfo3 rfl (by simp [Value.oneCell']) ⟨rfl, s, hs, rfl⟩
    case en =>
      rintro vs wa wb haw hrw ⟨s, hs, rfl⟩ -
      have hdi := HI.out.later haw
      have hrow := setRow_kept hdi.res #[.int .i64 r, .int .i64 c, .string s]
      have HA := Lib.hid (apt_setRow hdi.apt w.heap.size (Nat.le_refl _) #[.int .i64 r, .int .i64 c, .string s])
      have HR := Lib.hid (rdr_setRow hrw w.heap.size #[.int .i64 r, .int .i64 c, .string s] (by have := hdi.hg; omega))
      clear hdi haw hrw HI HRD
      generalize wa.setRow w.heap.size #[.int .i64 r, .int .i64 c, .string s] = wz at *
      obtain ⟨o0, o1, o2, f0, f1, f2⟩ := cells3 hrow
      clear hrow
      simp only [fill, Act.put]
      go_simp
      go_wp2_with fail
      exact bodyPost_ret (v := mtx r c s) (by simp [results, Tryd.results58, go_sem, o0, o1, o2]) rfl ⟨r, c, s, p + 4, rfl, hrr, hcc, hs, by omega, by omega, HR.out, HA.out⟩
  obtain ⟨R, rfl⟩ := Int.eq_ofNat_of_zero_le (show 0 ≤ r by omega)
  obtain ⟨C, rfl⟩ := Int.eq_ofNat_of_zero_le (show 0 ≤ c by omega)
  have hmul := wrap_prod R C (by omega) (by omega)
  have HN1 := Lib.hid (show 1 ≤ R * C from Nat.mul_pos (by omega) (by omega))
  have HN64 := Lib.hid (show R * C ≤ 64 from Nat.mul_le_mul (show R ≤ 8 by omega) (show C ≤ 8 by omega))
  obtain ⟨N, hN⟩ : ∃ N, R * C = N := ⟨_, rfl⟩
  rw [hN] at hmul HN1 HN64
  have HNE := Lib.hid hN.symm
  clear hN
  have hN1 := HN1.out
  have hN64 := HN64.out
  have hD : (k = 1 ∧ most < 4) ∨ (k ≠ 1 ∧ k ≠ 2) := by omega
  have HQ := Lib.hid (fun m => pick_r g (p + 3) (by omega) m _ hr3)
  clear hr3 hB
  rcases hD with ⟨hk1, hm4⟩ | ⟨hk1, hk2⟩
  all_goals
    go_wp2_with fail
    refine (HQ.out _).mono ?_
    rintro e w5 ⟨x5, rfl, ⟨hx50, hx5m⟩, hx5l, hr5, ha5⟩
    have HI5 := Lib.hid (HI.out.later ha5)
    have HR5 := Lib.hid hr5
    have hx55 : x5 < 3 := by omega
    clear hr5 ha5 HQ HI m0 m1 m2 m3 m4 m5 hx5m hx5l
    go_wp2_with fail
    go_loopw [7] (fun i wr => ∃ (q p' : Nat) (t : ByteArray), q ≤ N ∧ i = .int .i64 (q : Int) ∧ Hid (t.size = q ∧ p + 4 ≤ p' ∧ p' ≤ p + 4 + q ∧ DI g w wr w2.heap.size R C t ∧ Rdr lo wr g p' ∧ okB t = true)) (fun i _ => N - (intOf i).toNat)
    case atStart => exact ⟨0, p + 4, _, by omega, rfl, ⟨rfl, by omega, by omega, HI5.out, HR5.out, rfl⟩⟩
    case round =>
      clear HI5 HR5
      obtain ⟨q, p', t, hq, rfl, HH⟩ := hrel
      have hpq : p' < 1048576 := by have := HH.out.2.2.1; omega
      have hts : t.size ≤ 64 := by have := HH.out.1; omega
      obtain ⟨m0, m1, m2, m3, m4, m5⟩ := cells3 HH.out.2.2.2.1.loc
      by_cases hlt : q < N
      · go_wp2_with fail
        clear m0 m1 m2 m3 m4 m5
        refine wp_region_dr g p' (fun | 0 => fun v => v = .pointer (some ⟨w2.heap.size, 2, none⟩) | 1 => fun v => v = .string t | 2 => fun v => v = .pointer (some ⟨g, 0, none⟩) | 3 => fun v => v = .int .i64 (1 + x5) | 4 => fun v => v = .int .i64 (1 + x5 + 1) | 5 => fun v => ∃ x : Int, v = .int .i64 x | 6 => fun v => ∃ b : Bool, v = .bool b | 7 => fun v => ∃ b : Bool, v = .string ⟨#[dig b]⟩ | 8 => fun v => ∃ b : Bool, v = .string (t ++ ⟨#[dig b]⟩) | 9 => fun v => v = .pointer (some ⟨w2.heap.size, 2, none⟩) | _ => fun _ => True) 5 10 (fun wa wb => ∃ b : Bool, wb = wa.setCell ⟨w2.heap.size, 2, none⟩ (.string (t ++ ⟨#[dig b]⟩))) _ (by kernel_rfl) (by kernel_rfl) rfl rfl rfl rfl (by omega) (by kernel_rfl) HH.out.2.2.2.2.1 ?con ?dr ?st ?en
        case con =>
          intro i o ho hi hid a wx hax hf
          obtain ⟨m0, m1, m2, m3, m4, m5⟩ := cells3 (HH.out.2.2.2.1.later hax).loc
          match i, ho with
          | 0, ho =>
            obtain rfl := Option.some.inj ho
            have b5 : a.tmps[5]?.getD undef = .pointer (some ⟨w2.heap.size, 0, none⟩) := hf.2 5 (by kernel_rfl)
            exact wp_value (.pointer (some ⟨w2.heap.size, 2, none⟩)) (by unfold execOp; go_simp) ⟨_, rfl, rfl, Below.refl _ _⟩
          | 1, ho =>
            obtain rfl := Option.some.inj ho
            have e0 : a.tmps[57]?.getD undef = .pointer (some ⟨w2.heap.size, 2, none⟩) := hf.1 ⟨0, .data⟩ (by simp) rfl _ 57 rfl rfl
            exact wp_value (.string t) (by unfold execOp; go_simp) ⟨_, rfl, rfl, Below.refl _ _⟩
          | 2, ho =>
            obtain rfl := Option.some.inj ho
            have b0 : a.tmps[0]?.getD undef = .pointer (some ⟨g, 0, none⟩) := hf.2 0 (by kernel_rfl)
            exact wp_value (.pointer (some ⟨g, 0, none⟩)) (by unfold execOp; go_simp) ⟨_, rfl, rfl, Below.refl _ _⟩
          | 3, ho =>
            obtain rfl := Option.some.inj ho
            have b6 : a.tmps[6]?.getD undef = .int .i64 (1 + x5) := hf.2 6 (by kernel_rfl)
            exact wp_value (.int .i64 (1 + x5)) (by unfold execOp; go_simp) ⟨_, rfl, rfl, Below.refl _ _⟩
          | 4, ho =>
            obtain rfl := Option.some.inj ho
            have e3 : a.tmps[60]?.getD undef = .int .i64 (1 + x5) := hf.1 ⟨3, .data⟩ (by simp) rfl _ 60 rfl rfl
            have hwr : IntKind.i64.wrap (1 + x5 + 1) = 1 + x5 + 1 := IntWalk.i64_in _ ⟨by omega, by omega⟩
            exact wp_value (.int .i64 (1 + x5 + 1)) (by unfold execOp; go_simp) ⟨_, rfl, rfl, Below.refl _ _⟩
          | 5, ho => exact absurd rfl hid
          | 6, ho =>
            obtain rfl := Option.some.inj ho
            obtain ⟨x, e5⟩ : ∃ x : Int, a.tmps[62]?.getD undef = .int .i64 x := hf.1 ⟨5, .data⟩ (by simp) rfl _ 62 rfl rfl
            exact wp_value (.bool (x == 0)) (by unfold execOp; go_simp) ⟨_, rfl, ⟨_, rfl⟩, Below.refl _ _⟩
          | 7, ho =>
            obtain rfl := Option.some.inj ho
            obtain ⟨b, e6⟩ : ∃ b : Bool, a.tmps[63]?.getD undef = .bool b := hf.1 ⟨6, .data⟩ (by simp) rfl _ 63 rfl rfl
            exact wp_enter 111 #[.bool b] (.string ⟨#[dig b]⟩) (fun w' => wx = w') (by unfold execOp; go_simp) (l1Bit_any b wx) (fun w' h => by subst h; exact ⟨_, rfl, ⟨b, rfl⟩, Below.refl _ _⟩)
          | 8, ho =>
            obtain rfl := Option.some.inj ho
            have e1 : a.tmps[58]?.getD undef = .string t := hf.1 ⟨1, .data⟩ (by simp) rfl _ 58 rfl rfl
            obtain ⟨b, e7⟩ : ∃ b : Bool, a.tmps[64]?.getD undef = .string ⟨#[dig b]⟩ := hf.1 ⟨7, .data⟩ (by simp) rfl _ 64 rfl rfl
            have hcat := run_string_add_sum (P := Tryd.prog) (w := wx) t ⟨#[dig b]⟩ (by show t.size + 1 ≤ 9223372036854775807; omega)
            exact wp_value (.string (t ++ ⟨#[dig b]⟩)) (by unfold execOp; go_simp) ⟨_, rfl, ⟨b, rfl⟩, Below.refl _ _⟩
          | 9, ho =>
            obtain rfl := Option.some.inj ho
            have b5 : a.tmps[5]?.getD undef = .pointer (some ⟨w2.heap.size, 0, none⟩) := hf.2 5 (by kernel_rfl)
            exact wp_value (.pointer (some ⟨w2.heap.size, 2, none⟩)) (by unfold execOp; go_simp) ⟨_, rfl, rfl, Below.refl _ _⟩
          | q + 10, ho => exact absurd hi (by omega)
        case dr =>
          intro o ho a wx hax hrx hf
          obtain rfl := Option.some.inj ho
          have e2 : a.tmps[59]?.getD undef = .pointer (some ⟨g, 0, none⟩) := hf.1 ⟨2, .data⟩ (by simp) rfl _ 59 rfl rfl
          have e4 : a.tmps[61]?.getD undef = .int .i64 (1 + x5 + 1) := hf.1 ⟨4, .data⟩ (by simp) rfl _ 61 rfl rfl
          exact wp_enterE 61 #[.pointer (some ⟨g, 0, none⟩), .int .i64 (1 + x5 + 1)] (fun v w' => ∃ x' : Int, v = .int .i64 x' ∧ Rdr lo w' g (p' + 1) ∧ Apt g wx w') (by unfold execOp; go_simp)
            ((pick_r g p' hpq (1 + x5 + 1) wx hrx).mono fun e w' h => by obtain ⟨x, he, hx0, hx1, hr, ha⟩ := h; exact ⟨_, he, (⟨x, rfl, hr, ha⟩ : ∃ x' : Int, Value.int .i64 x = .int .i64 x' ∧ Rdr lo w' g (p' + 1) ∧ Apt g wx w')⟩)
            (fun v w' h => by obtain ⟨x, rfl, hr, ha⟩ := h; exact ⟨_, rfl, ⟨x, rfl⟩, ha, hr⟩)
        case st =>
          intro a wx hax hrx hf
          obtain ⟨m0, m1, m2, m3, m4, m5⟩ := cells3 (HH.out.2.2.2.1.later hax).loc
          obtain ⟨b, e8⟩ : ∃ b : Bool, a.tmps[65]?.getD undef = .string (t ++ ⟨#[dig b]⟩) := hf.1 ⟨8, .data⟩ (by simp) rfl _ 65 rfl rfl
          have e9 : a.tmps[66]?.getD undef = .pointer (some ⟨w2.heap.size, 2, none⟩) := hf.1 ⟨9, .data⟩ (by simp) rfl _ 66 rfl rfl
          exact wp_skip (w' := wx.setCell ⟨w2.heap.size, 2, none⟩ (.string (t ++ ⟨#[dig b]⟩))) (by unfold execOp; go_simp) ⟨rfl, b, rfl⟩
        case en =>
          rintro vs wa wb haw hrw ⟨b, rfl⟩ -
          have HI6 := Lib.hid ((HH.out.2.2.2.1.later haw).set_ (t ++ ⟨#[dig b]⟩))
          have HR6 := Lib.hid (rdr_set hrw w2.heap.size 2 (.string (t ++ ⟨#[dig b]⟩)) (by have := hlt2; omega))
          have HTS : Hid ((t ++ ⟨#[dig b]⟩).size = q + 1) := by unfold Hid; rw [ByteArray.size_append, HH.out.1]; rfl
          have HOK : Hid (okB (t ++ ⟨#[dig b]⟩) = true) := ok_next t b HH.out.2.2.2.2.2
          have HPP := Lib.hid (And.intro HH.out.2.1 HH.out.2.2.1)
          clear haw hrw HH
          generalize t ++ ⟨#[dig b]⟩ = t' at *
          simp only [fill, Act.put]
          go_simp
          go_wp2_with fail
          go_roundw
          case rel => exact ⟨q + 1, p' + 1, t', by omega, by go_num, ⟨HTS.out, by have := HPP.out; omega, by have := HPP.out; omega, HI6.out, HR6.out, HOK.out⟩⟩
          case measure => simp [intOf]; omega
      · obtain rfl : q = N := by omega
        obtain ⟨o0, o1, o2, f0, f1, f2⟩ := cells3 HH.out.2.2.2.1.res
        go_wp2_with fail
        obtain ⟨h1, h2, h3, hdi, hrd, hok⟩ := HH.out
        refine bodyPost_ret (v := mtx (R) (C) (t)) (by simp [results, Tryd.results58, go_sem, o0, o1, o2]) rfl ⟨R, C, t, p', rfl, hrr, hcc, sz_of R C (by omega) (by omega) (by omega) (by omega) t (h1.trans HNE.out) hok, Nat.le_trans (Nat.le_add_right p 4) h2, ?_, ?_, ?_⟩
        · have := HN64.out
          clear hrr hcc HN1
          omega
        · exact rdr_set (rdr_set (rdr_set hrd _ _ _ (by have := hdi.hg; omega)) _ _ _ (by have := hdi.hg; omega)) _ _ _ (by have := hdi.hg; omega)
        · exact apt_set (apt_set (apt_set hdi.apt _ _ (Nat.le_refl _) _) _ _ (Nat.le_refl _) _) _ _ (Nat.le_refl _) _

theorem draw_mat {lo : Nat} (g p : Nat) (hp : p < 1040000) (most : Int) (hm1 : 1 ≤ most) (hm8 : most ≤ 8) (w : World) (h : Rdr lo w g p) :
    Calls Tryd.prog 58 #[.pointer (some ⟨g, 0, none⟩), .int .i64 most] w fun e w' => ∃ (a b : Int) (t : ByteArray) (p' : Nat), e = .returned (mtx a b t) ∧ (1 ≤ a ∧ a ≤ 8) ∧ (1 ≤ b ∧ b ≤ 8) ∧ (1 ≤ t.size ∧ t.size ≤ 64) ∧ p ≤ p' ∧ p' ≤ p + 100 ∧ Rdr lo w' g p' ∧ Apt g w w' :=
  (draw_matV g p hp most hm1 hm8 w h).mono fun e w' h => by
    obtain ⟨a, b, t, p', h1, h2, h3, h4, h5⟩ := h
    exact ⟨a, b, t, p', h1, h2, h3, h4.1, h5⟩
end Go.Proofs.YtohkllmhknjkoaaDoor.Rd6

/-
  The drawing function l1Open.
-/
namespace Go.Proofs.YtohkllmhknjkoaaDoor.Rd7
open Go.RowKit Go.Proofs.YtohkllmhknjkoaaDoor.Plain Go.Proofs.YtohkllmhknjkoaaDoor.Base Go.Proofs.YtohkllmhknjkoaaDoor.Rd Go.Proofs.YtohkllmhknjkoaaDoor.Rd2 Go.Proofs.YtohkllmhknjkoaaDoor.Rd3 Go.Proofs.YtohkllmhknjkoaaDoor.Rd4 Go.Proofs.YtohkllmhknjkoaaDoor.Rd5 Go.Proofs.YtohkllmhknjkoaaDoor.Rd6
set_option linter.unusedVariables false

/-- one new block while a reader in an older one is read -/
structure One (g : Nat) (w wr : World) (T : TypeId) (cs : Array Value) : Prop where
  one : wr.heap[w.heap.size]? = some (.cells cs T (0, 0))
  apt : Apt g w wr
theorem One.start (g : Nat) (w : World) (T : TypeId) (cs : Array Value) : One g w (w.alloc (.cells cs T)) T cs :=
  ⟨heap_alloc_new w _, Apt.of_below ((Below.refl w.heap.size w).alloc (Nat.le_refl _) _)⟩
theorem One.later {g : Nat} {w wr w2 : World} {T : TypeId} {cs : Array Value} (h : One g w wr T cs) (hg : g < w.heap.size) (ha : Apt g wr w2) : One g w w2 T cs :=
  ⟨(ha.block _ (Array.getElem?_eq_some_iff.1 h.one).1 (by omega)).trans h.one, h.apt.trans ha⟩

end Go.Proofs.YtohkllmhknjkoaaDoor.Rd7

