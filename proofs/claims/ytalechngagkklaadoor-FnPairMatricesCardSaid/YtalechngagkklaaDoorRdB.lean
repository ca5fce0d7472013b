/-
  Texts of one seat, joined: FreeD, Rd6, Rd7, DrawT, FreeP, FreeQ, KeptR, DrawPX.
-/
import Derived.Test.YtalechngagkklaaDoorFreeL
import Derived.Test.YtalechngagkklaaDoorRdA
import Derived.Test.YtalechngagkklaaDoorMake
import Derived.Test.YtalechngagkklaaDoorValid
/-
  The law at a region with one draw: one operation reads a number of the reader, the others only make memory, and a store comes last; what they
  yield is told by a relation.
-/
namespace Go.Proofs.YtalechngagkklaaDoor.FreeD
open Go Go.RowKit Go.Proofs.YtalechngagkklaaDoor.Free Go.Proofs.YtalechngagkklaaDoor.FreeL Go.Proofs.YtalechngagkklaaDoor.Rd Go.Proofs.YtalechngagkklaaDoor.Rd2
set_option linter.unusedVariables false

section
variable {ops : Array Oper}

/-- what an operation may know of the slots -/
def FactsV (ops : Array Oper) (a0 : Act) (R : Nat → Value → Prop) (o : Oper) (a : Act) : Prop :=
  (∀ e ∈ o.after, Region.binds .any e = true → ∀ (oj : Oper) (dj : Tmp), ops[e.on]? = some oj → oj.dst = some dj → R e.on (a.tmps[dj]?.getD undef)) ∧
  (∀ k, (ops.toList.all fun o => o.dst != some k) = true → a.tmps[k]?.getD undef = a0.tmps[k]?.getD undef)

/-- THE LAW -/
theorem wp_region_dr {lo : Nat} {id n : Nat} {a0 : Act} {w0 : World} {Q : Exit → Act → World → Prop} (g p : Nat) (R : Nat → Value → Prop) (dr last : Nat) (F : World → World → Prop) (os : Oper)
    (hm : Tryd.prog.follows .mixedOrders = true) (hB : freeB ops n = true) (hn : a0.tmps.size = n) (hs : ops[last]? = some os) (hsd : os.dst = none) (hsz : ops.size = last + 1) (hdl : dr < last)
    (hw : Region.sinkB .any ops last = true) (h0 : Rdr lo w0 g p)
    (hcon : ∀ (i : Nat) (o : Oper), ops[i]? = some o → i < last → i ≠ dr → ∀ (a : Act) (w : World), Apt g w0 w → FactsV ops a0 R o a →
      o.wp Tryd.prog a w (fun a' w' => ∃ v, a' = a.put o.dst v ∧ R i v ∧ Below w.heap.size w w') Q)
    (hdr : ∀ (o : Oper), ops[dr]? = some o → ∀ (a : Act) (w : World), Apt g w0 w → Rdr lo w g p → FactsV ops a0 R o a →
      o.wp Tryd.prog a w (fun a' w' => ∃ v, a' = a.put o.dst v ∧ R dr v ∧ Apt g w w' ∧ Rdr lo w' g (p + 1)) Q)
    (hst : ∀ (a : Act) (w : World), Apt g w0 w → Rdr lo w g (p + 1) → FactsV ops a0 R os a → os.wp Tryd.prog a w (fun a' w' => a' = a ∧ F w w') Q)
    (hend : ∀ (vs : Nat → Value) (w1 w : World), Apt g w0 w1 → Rdr lo w1 g (p + 1) → F w1 w → (∀ (i : Nat) (o : Oper), ops[i]? = some o → i ≠ last → R i (vs i)) → Q .normal (fill ops.toList vs 0 a0) w) :
    (Code.region id ops true).wp Tryd.prog Q a0 w0 := by
  let Y : Nat → Value → Act → World → Prop := fun i v a w => i ≠ last → R i v
  let S : (Nat → Bool) → World → Prop := fun l w => (l last = false → Apt g w0 w ∧ (l dr = false → Rdr lo w g p) ∧ (l dr = true → Rdr lo w g (p + 1))) ∧
    (l last = true → ∃ w1, Apt g w0 w1 ∧ Rdr lo w1 g (p + 1) ∧ F w1 w)
  have facts : ∀ (listed : Array Bool) (o : Oper) (i : Nat) (a : Act) (w : World), ops[i]? = some o → MidL ops a0 Y S listed a w →
      (∀ e ∈ o.after, Region.binds .any e = true → listed.getD e.on false = true) → (∀ e ∈ o.after, Region.binds .any e = true → e.on ≠ last) → FactsV ops a0 R o a := by
    intro listed o i a w ho hM hdl hlt
    refine ⟨fun e he hb oj dj hoj hdj => ?_, fun k hk => ?_⟩
    · obtain ⟨v, hv, hvd⟩ := hM.new e.on oj hoj (hdl e he hb)
      rw [hvd dj hdj]
      exact hv (hlt e he hb)
    · rw [hM.old k fun i o' ho' hd' => ?_]
      have := List.all_eq_true.1 hk o' (by simpa using Array.mem_of_getElem? ho')
      simp [hd'] at this
  have hB2 := hB
  simp only [freeB, Bool.and_eq_true, decide_eq_true_eq] at hB2
  obtain ⟨⟨_, _⟩, h3⟩ := hB2
  have hac : ∀ (i : Nat) (o : Oper), ops[i]? = some o → ∀ e ∈ o.after, Region.binds .any e = true → e.on < i := fun i o ho e he hb => by
    have hi : i < ops.size := (Array.getElem?_eq_some_iff.1 ho).1
    have := List.all_eq_true.1 h3 i (List.mem_range.2 hi)
    rw [ho] at this
    have h5 : (o.after.all fun e => !Region.binds .any e || decide (e.on < i)) = true := this
    have := Array.all_eq_true_iff_forall_mem.1 h5 e he
    simpa [hb] using this
  refine wp_region_freeL (Y := Y) (S := S) hm hB hn ⟨fun _ => ⟨(Apt.refl g w0).drew, fun _ => h0.later (drawn_at w0 1), fun h => (by cases h)⟩, fun h => (by cases h)⟩ ?_ ?_
  · intro i o ho listed a w hM hu hdp
    have hi : i < ops.size := (Array.getElem?_eq_some_iff.1 ho).1
    by_cases hil : i = last
    · subst hil
      obtain rfl : o = os := Option.some.inj (ho.symm.trans hs)
      have hdrl : listed.getD dr false = true := by
        have hd2 : ∃ j, ∃ oj, ops[j]? = some oj ∧ (∃ e ∈ o.after, Region.binds .any e = true ∧ e.on = j) ∧ True := by
          have h4 := List.all_eq_true.1 hw dr (List.mem_range.2 hdl)
          obtain ⟨j, hj, h5⟩ := List.any_eq_true.1 h4
          have hex : ∃ e ∈ o.after, Region.binds .any e = true := by
            have h6 := List.all_eq_true.1 hw (i - 1) (List.mem_range.2 (by omega))
            obtain ⟨j2, hj2, h7⟩ := List.any_eq_true.1 h6
            simp only [Bool.and_eq_true, decide_eq_true_eq] at h7
            have hj2l : j2 < i + 1 := List.mem_range.1 hj2
            obtain ⟨oj, hoj, e2, he2, hb2, hon⟩ := Region.waitsFor_spec h7.2
            have : j2 = i := by
              have := hac j2 oj hoj e2 he2 hb2
              omega
            subst this
            obtain rfl : o = oj := Option.some.inj (ho.symm.trans hoj)
            exact ⟨e2, he2, hb2⟩
          obtain ⟨e, he, hb⟩ := hex
          have hei := hac i o ho e he hb
          exact ⟨e.on, (ops[e.on]'(by omega)), Array.getElem?_eq_getElem (by omega), ⟨e, he, hb, rfl⟩, trivial⟩
        -- all that the store waits for has come; so has what these wait for
        have hcl : ∀ (d k : Nat), i - k ≤ d → k < i → listed.getD k false = true := by
          intro d
          induction d with
          | zero => intro k h1 h2; omega
          | succ d ih =>
            intro k h1 h2
            have h4 := List.all_eq_true.1 hw k (List.mem_range.2 h2)
            obtain ⟨j, hj, h5⟩ := List.any_eq_true.1 h4
            simp only [Bool.and_eq_true, decide_eq_true_eq] at h5
            have hjl : j < i + 1 := List.mem_range.1 hj
            obtain ⟨oj, hoj, e2, he2, hb2, hon⟩ := Region.waitsFor_spec h5.2
            by_cases hji : j = i
            · subst hji
              obtain rfl : o = oj := Option.some.inj (ho.symm.trans hoj)
              have := hdp e2 he2 hb2
              rwa [hon] at this
            · have := hM.closed j oj hoj (ih j (by omega) (by omega)) e2 he2 hb2
              rwa [hon] at this
        exact hcl (i - dr) dr (Nat.le_refl _) hdl
      obtain ⟨hw1, _, hw3⟩ := hM.world.1 hu
      refine Oper.wp_mono ?_ (hst a w hw1 (hw3 hdrl) (facts listed o i a _ ho hM hdp (fun e he hb => Nat.ne_of_lt (hac i o ho e he hb))))
      rintro a' w' ⟨rfl, hf⟩
      exact ⟨undef, by rw [hsd]; rfl, fun h => absurd rfl h, ⟨fun h => (by simp at h), fun _ => ⟨w, hw1, hw3 hdrl, hf⟩⟩, fun j u hj _ hY hjl => hY hjl⟩
    · have hlt : i < last := by omega
      have hnl : listed.getD last false = false := by
        cases hl : listed.getD last false with
        | false => rfl
        | true =>
          exfalso
          have := sink_listed hw hM.closed hl (last - i) i (Nat.le_refl _) (by omega)
          rw [hu] at this
          cases this
      obtain ⟨hw1, hw2, hw3⟩ := hM.world.1 hnl
      have hfc := facts listed o i a w ho hM hdp (fun e he hb => Nat.ne_of_lt (Nat.lt_trans (hac i o ho e he hb) hlt))
      by_cases hid : i = dr
      · subst hid
        refine Oper.wp_mono ?_ (hdr o ho a w hw1 (hw2 hu) hfc)
        rintro a' w' ⟨v, rfl, hv, hb, hr⟩
        refine ⟨v, rfl, fun _ => hv, ⟨fun _ => ⟨hw1.trans hb, fun h => (by simp at h), fun _ => hr⟩, fun h => ?_⟩, fun j u hj _ hY hjl => hY hjl⟩
        dsimp only at h
        rw [if_neg (Ne.symm hil), hnl] at h
        cases h
      · refine Oper.wp_mono ?_ (hcon i o ho hlt hid a w hw1 hfc)
        rintro a' w' ⟨v, rfl, hv, hb⟩
        refine ⟨v, rfl, fun _ => hv, ⟨fun _ => ⟨hw1.trans (Apt.of_below hb), fun h => ?_, fun h => ?_⟩, fun h => ?_⟩, fun j u hj _ hY hjl => hY hjl⟩
        · dsimp only at h
          rw [if_neg (Ne.symm hid)] at h
          exact (hw2 h).later hb
        · dsimp only at h
          rw [if_neg (Ne.symm hid)] at h
          exact (hw3 h).later hb
        · dsimp only at h
          rw [if_neg (Ne.symm hil), hnl] at h
          cases h
  · intro vs w hw1 hall
    obtain ⟨w1, hb1, hr1, hf⟩ := hw1.2 (decide_eq_true (by omega))
    exact hend vs w1 w hb1 hr1 hf fun i o ho hil => hall i o ho hil

/-- THE LAW WITHOUT A DRAW: all but the last only make memory -/
theorem wp_region_val {id n : Nat} {a0 : Act} {w0 : World} {Q : Exit → Act → World → Prop} (R : Nat → Value → Prop) (last : Nat) (F : World → World → Prop) (os : Oper)
    (hm : Tryd.prog.follows .mixedOrders = true) (hB : freeB ops n = true) (hn : a0.tmps.size = n) (hs : ops[last]? = some os) (hsd : os.dst = none) (hsz : ops.size = last + 1)
    (hw : Region.sinkB .any ops last = true)
    (hcon : ∀ (i : Nat) (o : Oper), ops[i]? = some o → i < last → ∀ (a : Act) (w : World), Below w0.heap.size w0 w → FactsV ops a0 R o a →
      o.wp Tryd.prog a w (fun a' w' => ∃ v, a' = a.put o.dst v ∧ R i v ∧ Below w.heap.size w w') Q)
    (hst : ∀ (a : Act) (w : World), Below w0.heap.size w0 w → FactsV ops a0 R os a → os.wp Tryd.prog a w (fun a' w' => a' = a ∧ F w w') Q)
    (hend : ∀ (vs : Nat → Value) (w1 w : World), Below w0.heap.size w0 w1 → F w1 w → (∀ (i : Nat) (o : Oper), ops[i]? = some o → i ≠ last → R i (vs i)) → Q .normal (fill ops.toList vs 0 a0) w) :
    (Code.region id ops true).wp Tryd.prog Q a0 w0 := by
  let Y : Nat → Value → Act → World → Prop := fun i v a w => i ≠ last → R i v
  let S : (Nat → Bool) → World → Prop := fun l w => (l last = false → Below w0.heap.size w0 w) ∧ (l last = true → ∃ w1, Below w0.heap.size w0 w1 ∧ F w1 w)
  have facts : ∀ (listed : Array Bool) (o : Oper) (i : Nat) (a : Act) (w : World), ops[i]? = some o → MidL ops a0 Y S listed a w →
      (∀ e ∈ o.after, Region.binds .any e = true → listed.getD e.on false = true) → (∀ e ∈ o.after, Region.binds .any e = true → e.on ≠ last) → FactsV ops a0 R o a := by
    intro listed o i a w ho hM hdl hlt
    refine ⟨fun e he hb oj dj hoj hdj => ?_, fun k hk => ?_⟩
    · obtain ⟨v, hv, hvd⟩ := hM.new e.on oj hoj (hdl e he hb)
      rw [hvd dj hdj]
      exact hv (hlt e he hb)
    · rw [hM.old k fun i o' ho' hd' => ?_]
      have := List.all_eq_true.1 hk o' (by simpa using Array.mem_of_getElem? ho')
      simp [hd'] at this
  have hB2 := hB
  simp only [freeB, Bool.and_eq_true, decide_eq_true_eq] at hB2
  obtain ⟨⟨_, _⟩, h3⟩ := hB2
  have hac : ∀ (i : Nat) (o : Oper), ops[i]? = some o → ∀ e ∈ o.after, Region.binds .any e = true → e.on < i := fun i o ho e he hb => by
    have hi : i < ops.size := (Array.getElem?_eq_some_iff.1 ho).1
    have := List.all_eq_true.1 h3 i (List.mem_range.2 hi)
    rw [ho] at this
    have h5 : (o.after.all fun e => !Region.binds .any e || decide (e.on < i)) = true := this
    have := Array.all_eq_true_iff_forall_mem.1 h5 e he
    simpa [hb] using this
  refine wp_region_freeL (Y := Y) (S := S) hm hB hn ⟨fun _ => (Below.refl w0.heap.size w0).drew, fun h => (by cases h)⟩ ?_ ?_
  · intro i o ho listed a w hM hu hdp
    have hi : i < ops.size := (Array.getElem?_eq_some_iff.1 ho).1
    by_cases hil : i = last
    · subst hil
      obtain rfl : o = os := Option.some.inj (ho.symm.trans hs)
      have hw1 := hM.world.1 hu
      refine Oper.wp_mono ?_ (hst a w hw1 (facts listed o i a _ ho hM hdp (fun e he hb => Nat.ne_of_lt (hac i o ho e he hb))))
      rintro a' w' ⟨rfl, hf⟩
      exact ⟨undef, by rw [hsd]; rfl, fun h => absurd rfl h, ⟨fun h => (by simp at h), fun _ => ⟨w, hw1, hf⟩⟩, fun j u hj _ hY hjl => hY hjl⟩
    · have hlt : i < last := by omega
      have hnl : listed.getD last false = false := by
        cases hl : listed.getD last false with
        | false => rfl
        | true =>
          exfalso
          have := sink_listed hw hM.closed hl (last - i) i (Nat.le_refl _) (by omega)
          rw [hu] at this
          cases this
      have hw1 := hM.world.1 hnl
      refine Oper.wp_mono ?_ (hcon i o ho hlt a w hw1 (facts listed o i a w ho hM hdp (fun e he hb => Nat.ne_of_lt (Nat.lt_trans (hac i o ho e he hb) hlt))))
      rintro a' w' ⟨v, rfl, hv, hb⟩
      refine ⟨v, rfl, fun _ => hv, ⟨fun _ => hw1.trans (hb.mono hw1.size), fun h => ?_⟩, fun j u hj _ hY hjl => hY hjl⟩
      dsimp only at h
      rw [if_neg (Ne.symm hil), hnl] at h
      cases h
  · intro vs w hw1 hall
    obtain ⟨w1, hb1, hf⟩ := hw1.2 (decide_eq_true (by omega))
    exact hend vs w1 w hb1 hf fun i o ho hil => hall i o ho hil
end
end Go.Proofs.YtalechngagkklaaDoor.FreeD

/-
  The drawing function l1Draw.
-/
namespace Go.Proofs.YtalechngagkklaaDoor.Rd6
open Go.RowKit Go.Proofs.YtalechngagkklaaDoor.Plain Go.Proofs.YtalechngagkklaaDoor.Base Go.Proofs.YtalechngagkklaaDoor.Rd Go.Proofs.YtalechngagkklaaDoor.Rd2 Go.Proofs.YtalechngagkklaaDoor.Rd3 Go.Proofs.YtalechngagkklaaDoor.Rd4 Go.Proofs.YtalechngagkklaaDoor.Rd5 Go.Proofs.YtalechngagkklaaDoor.FreeD
open Go.Proofs.YtalechngagkklaaDoor.Valid (okB okB_true validB validB_in)
open Go.Proofs.YtalechngagkklaaDoor.Free (fill wp_value wp_enter wp_load_row freeB setRow_kept)
set_option linter.unusedVariables false

theorem wp_skip {P : Program} {o : Oper} {a : Act} {w w' : World} {K : Act → World → Prop} {Q : Exit → Act → World → Prop} (h : (execOp a.eval o).run P w = .ok .skip w') (hK : K (a.put o.dst undef) w') : o.wp P a w K Q := by
  unfold Oper.wp
  rw [h]
  exact hK
theorem wp_enterE {P : Program} {o : Oper} {a : Act} {w : World} {K : Act → World → Prop} {Q : Exit → Act → World → Prop} (f : FuncId) (args : Array Value) (R : Value → World → Prop) (h : (execOp a.eval o).run P w = .ok (.enter f args) w)
    (hc : Calls P f args w fun e w' => ∃ v, e = .returned v ∧ R v w') (hK : ∀ v w', R v w' → K (a.put o.dst v) w') : o.wp P a w K Q := by
  unfold Oper.wp
  rw [h]
  refine Calls.mono hc ?_
  rintro e w' ⟨v, rfl, hR⟩
  exact hK v w' hR
theorem minfo3 : (Tryd.prog.info? 24).map (·.size) = some 3 := by kernel_rfl
theorem eget {a : Act} {d : Tmp} {v : Value} (h : a.tmps[d]?.getD undef = v) : a.eval (.tmp d) = v := by
  simpa [Act.eval] using h
theorem apt_setRow {g : Nat} {w wr : World} (h : Apt g w wr) (b : Nat) (hb : w.heap.size ≤ b) (cs : Array Value) : Apt g w (wr.setRow b cs) :=
  ⟨h.os, h.tape, h.output, by simpa [World.setRow] using h.size, fun k hk hg => (Go.Proofs.YtalechngagkklaaDoor.Free.setRow_other (by omega) cs).trans (h.block k hk hg)⟩
theorem rdr_putRow {lo : Nat} {g p : Nat} {w : World} (h : Rdr lo w g p) (b : Nat) (cs : Array Value) (hbg : b ≠ g) (hlo : g < b ∨ lo ≤ b) : Rdr lo (w.setRow b cs) g p := by
  obtain ⟨v, n, h, hl⟩ := h
  obtain ⟨h0, a, c, hv, h1⟩ := h.bytes
  refine ⟨v, n, ⟨(Go.Proofs.YtalechngagkklaaDoor.Free.setRow_other (by omega) cs).trans h.cells, h0, a, c, hv, ?_⟩, hl⟩
  rcases h1 with h1 | ⟨b', off, h1, h2, h3, h4⟩
  · exact .inl h1
  · by_cases hn : n = 0
    · exact .inl hn
    have hbb : b' ≠ b := by
      rcases hlo with h5 | h5
      · omega
      · rcases hl with h6 | h6
        · exact absurd h6 hn
        · have := h6 b' off n c (by rw [hv, h1])
          omega
    refine .inr ⟨b', off, h1, h2, by simpa [World.setRow] using h3, fun j hj => ?_⟩
    obtain ⟨y, hy0, hy1, hy⟩ := h4 j hj
    have e := Go.Proofs.YtalechngagkklaaDoor.Free.setRow_other (w := w) (g := b) (k := b') hbb cs
    refine ⟨y, hy0, hy1, ?_⟩
    simp only [World.cell?, e] at hy ⊢
    exact hy
theorem rdr_setRow {lo : Nat} {g p : Nat} {w : World} (h : Rdr lo w g p) (b : Nat) (cs : Array Value) (hb : g < b) : Rdr lo (w.setRow b cs) g p := rdr_putRow h b cs (by omega) (.inl hb)

/-- the text of a valid matrix -/
def Sz (r c : Int) (s : ByteArray) : Prop := (1 ≤ s.size ∧ s.size ≤ 64) ∧ validB r c s = true
theorem ok_digs (l : List UInt8) (h : ∀ b ∈ l, b = 48 ∨ b = 49) : okB (str l) = true := by
  unfold okB str
  rw [List.all_eq_true]
  intro b hb
  rcases h b (by simpa using hb) with rfl | rfl <;> rfl
theorem ok_next (t : ByteArray) (b : Bool) (h : okB t = true) : okB (t ++ ⟨#[dig b]⟩) = true := by
  unfold okB at h ⊢
  rw [ByteArray.data_append, Array.toList_append, List.all_append, h, Bool.true_and]
  cases b <;> rfl
theorem sz_of (R C : Nat) (h1 : 1 ≤ R) (h2 : R ≤ 8) (h3 : 1 ≤ C) (h4 : C ≤ 8) (s : ByteArray) (hs : s.size = R * C) (ho : okB s = true) : Sz R C s := by
  refine ⟨by rw [hs]; exact ⟨Nat.mul_pos (by omega) (by omega), Nat.mul_le_mul h2 h4⟩, ?_⟩
  rw [validB_in (by omega) (by omega) (by omega) (by omega), ho, Bool.true_and, hs]
  simp
theorem sz_rows (E : Nat → Nat → Bool) (R C : Nat) (h1 : 1 ≤ R) (h2 : R ≤ 8) (h3 : 1 ≤ C) (h4 : C ≤ 8) : Sz R C (str (rowsB E R C)) := by
  refine sz_of R C h1 h2 h3 h4 _ (by rw [str_size, rowsB_length]) (ok_digs _ fun b hb => ?_)
  unfold rowsB rowB at hb
  obtain ⟨x, _, hx⟩ := List.mem_flatMap.1 hb
  obtain ⟨y, _, rfl⟩ := List.mem_map.1 hx
  cases E x y
  · exact .inl rfl
  · exact .inr rfl
theorem make_any (k : Int) (hk : 0 ≤ k ∧ k ≤ 4) (r c : Int) (hr : 1 ≤ r ∧ r ≤ 8) (hc : 1 ≤ c ∧ c ≤ 8) (w : World) :
    Calls Tryd.prog 139 #[.int .i64 k, .int .i64 r, .int .i64 c] w fun e w' => ∃ s, e = .returned (mtx r c s) ∧ Sz r c s ∧ Below w.heap.size w w' := by
  obtain ⟨R, rfl⟩ := Int.eq_ofNat_of_zero_le (show 0 ≤ r by omega)
  obtain ⟨C, rfl⟩ := Int.eq_ofNat_of_zero_le (show 0 ≤ c by omega)
  have hR : R ≤ 8 := by omega
  have hC : C ≤ 8 := by omega
  have size : ∀ E, Sz R C (str (rowsB E R C)) := fun E => sz_rows E R C (by omega) hR (by omega) hC
  have hk5 : k = 0 ∨ k = 1 ∨ k = 2 ∨ k = 3 ∨ k = 4 := by omega
  rcases hk5 with rfl | rfl | rfl | rfl | rfl
  · exact (Make.make0 R C hR hC w).mono fun e w' h => ⟨_, h.1, size _, h.2⟩
  · exact (Make.make1 R C hR hC w).mono fun e w' h => ⟨_, h.1, size _, h.2⟩
  · exact (Make.make2 R C hR hC w).mono fun e w' h => ⟨_, h.1, size _, h.2⟩
  · exact (Make.make3 R C hR hC w).mono fun e w' h => ⟨_, h.1, size _, h.2⟩
  · exact (Make.make4 R C hR hC w).mono fun e w' h => ⟨_, h.1, size _, h.2⟩

/-- what is known in the midst of l1Draw -/
structure DI (g : Nat) (w wr : World) (b : Nat) (r c : Int) (t : ByteArray) : Prop where
  res : wr.heap[w.heap.size]? = some (.cells #[.int .i64 0, .int .i64 0, .string ⟨#[]⟩] 24 (0, 0))
  loc : wr.heap[b]? = some (.cells #[.int .i64 r, .int .i64 c, .string t] 24 (0, 0))
  apt : Apt g w wr
  lo : w.heap.size < b
  hg : g < w.heap.size
theorem DI.lt {g : Nat} {w wr : World} {b : Nat} {r c : Int} {t : ByteArray} (h : DI g w wr b r c t) : b < wr.heap.size := (Array.getElem?_eq_some_iff.1 h.loc).1
theorem DI.later {g : Nat} {w wr w2 : World} {b : Nat} {r c : Int} {t : ByteArray} (h : DI g w wr b r c t) (ha : Apt g wr w2) : DI g w w2 b r c t :=
  ⟨(ha.block _ (Array.getElem?_eq_some_iff.1 h.res).1 (by have := h.hg; omega)).trans h.res, (ha.block _ h.lt (by have := h.hg; have := h.lo; omega)).trans h.loc, h.apt.trans ha, h.lo, h.hg⟩
theorem DI.set_ {g : Nat} {w wr : World} {b : Nat} {r c : Int} {t : ByteArray} (h : DI g w wr b r c t) (u : ByteArray) : DI g w (wr.setCell ⟨b, 2, none⟩ (.string u)) b r c u :=
  ⟨(heap_setCell_other _ _ _ _ (by simp; have := h.lo; omega)).trans h.res, (heap_setCell_same _ _ _ _ _ _ h.loc).trans rfl, apt_set h.apt _ _ (by have := h.lo; omega) _, h.lo, h.hg⟩

set_option maxHeartbeats 4000000 in
set_option maxRecDepth 100000 in
theorem draw_matV {lo : Nat} (g p : Nat) (hp : p < 1040000) (most : Int) (hm1 : 1 ≤ most) (hm8 : most ≤ 8) (w : World) (h : Rdr lo w g p) :
    Calls Tryd.prog 84 #[.pointer (some ⟨g, 0, none⟩), .int .i64 most] w fun e w' => ∃ (a b : Int) (t : ByteArray) (p' : Nat), e = .returned (mtx a b t) ∧ (1 ≤ a ∧ a ≤ 8) ∧ (1 ≤ b ∧ b ≤ 8) ∧ Sz a b t ∧ p ≤ p' ∧ p' ≤ p + 100 ∧ Rdr lo w' g p' ∧ Apt g w w' := by
  have hg := h.lt
  have h0 := h.later ((Below.refl w.heap.size w).alloc (Nat.le_refl _) (.cells #[.int .i64 0, .int .i64 0, .string ⟨#[]⟩] 24))
  have HP := Lib.hid (fun m => pick_r g p (by omega) m _ h0)
  clear h h0
  go_enter Tryd.func84, Tryd.ntmps84
  go_wp2_with fail
  refine (HP.out _).mono ?_
  rintro e w1 ⟨x, rfl, ⟨hx0, -⟩, hxm, hr1, ha1⟩
  have HQ := Lib.hid (fun m => pick_r g (p + 1) (by omega) m _ hr1)
  clear hr1 HP
  go_wp2_with fail
  refine (HQ.out _).mono ?_
  rintro e w2 ⟨y, rfl, ⟨hy0, -⟩, hym, hr2, ha2⟩
  obtain ⟨r, hr⟩ : ∃ r, 1 + x = r := ⟨_, rfl⟩
  obtain ⟨c, hc⟩ : ∃ c, 1 + y = c := ⟨_, rfl⟩
  have hrr : 1 ≤ r ∧ r ≤ 8 := by omega
  have hcc : 1 ≤ c ∧ c ≤ 8 := by omega
  clear hx0 hy0 hxm hym HQ
  have hr3 := hr2.later ((Below.refl w2.heap.size w2).alloc (Nat.le_refl _) (.cells #[.int .i64 r, .int .i64 c, .string ⟨#[]⟩] 24))
  have hres : w2.heap[w.heap.size]? = some (.cells #[.int .i64 0, .int .i64 0, .string ⟨#[]⟩] 24 (0, 0)) := by
    rw [(ha1.trans ha2).block _ (by simp) (by omega)]
    exact heap_alloc_new w _
  have hlt2 : w.heap.size < w2.heap.size := (Array.getElem?_eq_some_iff.1 hres).1
  have hi3 : DI g w (w2.alloc (.cells #[.int .i64 r, .int .i64 c, .string ⟨#[]⟩] 24)) w2.heap.size r c ⟨#[]⟩ :=
    ⟨(Below.heap_alloc _ _ _ hlt2).trans hres, heap_alloc_new w2 _, (Apt.of_below ((Below.refl w.heap.size w).alloc (Nat.le_refl _) _)).trans ((ha1.trans ha2).trans (Apt.of_below ((Below.refl w2.heap.size w2).alloc (Nat.le_refl _) _))), hlt2, hg⟩
  have HP3 := Lib.hid (fun m => pick_r g (p + 2) (by omega) m _ hr3)
  have HI3 := Lib.hid hi3
  clear hr2 hr3 hi3 hres ha1 ha2
  go_wp2_with fail
  clear hr hc
  refine (HP3.out _).mono ?_
  rintro e w4 ⟨k, rfl, ⟨hk0, -⟩, hk8, hr3, ha3⟩
  have HI := Lib.hid (HI3.out.later ha3)
  obtain ⟨m0, m1, m2, m3, m4, m5⟩ := cells3 HI.out.loc
  clear HP3 HI3 ha3
  by_cases hA : k = 0
  · subst hA
    have HRD := Lib.hid hr3
    clear hr3 m0 m1 m2 m3 m4 m5
    go_wp2_with fail
    refine wp_region_dr g (p + 3) (fun | 0 => fun v => v = .pointer (some ⟨g, 0, none⟩) | 1 => fun v => ∃ x : Int, v = .int .i64 x ∧ 0 ≤ x ∧ (x < 2 ∨ x = 0) | 2 => fun v => v = .pointer (some ⟨w2.heap.size, 0, none⟩) | 3 => fun v => v = .int .i64 r | 4 => fun v => v = .pointer (some ⟨w2.heap.size, 0, none⟩) | 5 => fun v => v = .int .i64 r | 6 => fun v => ∃ s, v = mtx r r s ∧ Sz r r s | _ => fun _ => True) 1 7 (fun wa wb => ∃ s : ByteArray, Sz r r s ∧ wb = wa.setRow w.heap.size #[.int .i64 r, .int .i64 r, .string s]) _ (by kernel_rfl) (by kernel_rfl) rfl rfl rfl rfl (by omega) (by kernel_rfl) HRD.out ?con ?dr ?st ?en
    case con =>
      intro i o ho hi hid a wx hax hf
      obtain ⟨m0, m1, m2, m3, m4, m5⟩ := cells3 (HI.out.later hax).loc
      match i, ho with
      | 0, ho =>
        obtain rfl := Option.some.inj ho
        have b0 : a.tmps[0]?.getD undef = .pointer (some ⟨g, 0, none⟩) := hf.2 0 (by kernel_rfl)
        exact wp_value (.pointer (some ⟨g, 0, none⟩)) (by unfold execOp; go_simp) ⟨_, rfl, rfl, Below.refl _ _⟩
      | 1, ho => exact absurd rfl hid
      | 2, ho =>
        obtain rfl := Option.some.inj ho
        have b5 : a.tmps[5]?.getD undef = .pointer (some ⟨w2.heap.size, 0, none⟩) := hf.2 5 (by kernel_rfl)
        exact wp_value (.pointer (some ⟨w2.heap.size, 0, none⟩)) (by unfold execOp; go_simp) ⟨_, rfl, rfl, Below.refl _ _⟩
      | 3, ho =>
        obtain rfl := Option.some.inj ho
        have e2 : a.tmps[23]?.getD undef = .pointer (some ⟨w2.heap.size, 0, none⟩) := hf.1 ⟨2, .data⟩ (by simp) rfl _ 23 rfl rfl
        exact wp_value (.int .i64 r) (by unfold execOp; go_simp) ⟨_, rfl, rfl, Below.refl _ _⟩
      | 4, ho =>
        obtain rfl := Option.some.inj ho
        have b5 : a.tmps[5]?.getD undef = .pointer (some ⟨w2.heap.size, 0, none⟩) := hf.2 5 (by kernel_rfl)
        exact wp_value (.pointer (some ⟨w2.heap.size, 0, none⟩)) (by unfold execOp; go_simp) ⟨_, rfl, rfl, Below.refl _ _⟩
      | 5, ho =>
        obtain rfl := Option.some.inj ho
        have e4 : a.tmps[25]?.getD undef = .pointer (some ⟨w2.heap.size, 0, none⟩) := hf.1 ⟨4, .data⟩ (by simp) rfl _ 25 rfl rfl
        exact wp_value (.int .i64 r) (by unfold execOp; go_simp) ⟨_, rfl, rfl, Below.refl _ _⟩
      | 6, ho =>
        obtain rfl := Option.some.inj ho
        obtain ⟨x, e1, hx0, hx1⟩ : ∃ x : Int, a.tmps[22]?.getD undef = .int .i64 x ∧ 0 ≤ x ∧ (x < 2 ∨ x = 0) := hf.1 ⟨1, .data⟩ (by simp) rfl _ 22 rfl rfl
        have e3 : a.tmps[24]?.getD undef = .int .i64 r := hf.1 ⟨3, .data⟩ (by simp) rfl _ 24 rfl rfl
        have e5 : a.tmps[26]?.getD undef = .int .i64 r := hf.1 ⟨5, .data⟩ (by simp) rfl _ 26 rfl rfl
        exact wp_enterE 139 #[.int .i64 x, .int .i64 r, .int .i64 r] (fun v w' => ∃ s', v = mtx r r s' ∧ Sz r r s' ∧ Below wx.heap.size wx w') (by unfold execOp; go_simp)
          ((make_any x ⟨by omega, by omega⟩ r r hrr hrr wx).mono fun e w' h => by obtain ⟨s, he, hs, hb⟩ := h; exact ⟨_, he, (⟨s, rfl, hs, hb⟩ : ∃ s', mtx r r s = mtx r r s' ∧ Sz r r s' ∧ Below wx.heap.size wx w')⟩)
          (fun v w' h => by obtain ⟨s, rfl, hs, hb⟩ := h; exact ⟨_, rfl, ⟨s, rfl, hs⟩, hb⟩)
      | q + 7, ho => exact absurd hi (by omega)
    case dr =>
      intro o ho a wx hax hrx hf
      obtain rfl := Option.some.inj ho
      have e0 : a.tmps[21]?.getD undef = .pointer (some ⟨g, 0, none⟩) := hf.1 ⟨0, .data⟩ (by simp) rfl _ 21 rfl rfl
      exact wp_enterE 85 #[.pointer (some ⟨g, 0, none⟩), .int .i64 2] (fun v w' => ∃ x' : Int, v = .int .i64 x' ∧ (0 ≤ x' ∧ x' < 4611686018427387904) ∧ (x' < 2 ∨ x' = 0) ∧ Rdr lo w' g (p + 3 + 1) ∧ Apt g wx w') (by unfold execOp; go_simp)
        ((pick_r g (p + 3) (by omega) 2 wx hrx).mono fun e w' h => by obtain ⟨x, he, hx0, hx1, hr, ha⟩ := h; exact ⟨_, he, (⟨x, rfl, hx0, hx1, hr, ha⟩ : ∃ x' : Int, Value.int .i64 x = .int .i64 x' ∧ (0 ≤ x' ∧ x' < 4611686018427387904) ∧ (x' < 2 ∨ x' = 0) ∧ Rdr lo w' g (p + 3 + 1) ∧ Apt g wx w')⟩)
        (fun v w' h => by obtain ⟨x, rfl, hx0, hx1, hr, ha⟩ := h; exact ⟨_, rfl, ⟨x, rfl, hx0.1, hx1⟩, ha, hr⟩)
    case st =>
      intro a wx hax hrx hf
      have b4 : a.tmps[4]?.getD undef = .pointer (some ⟨w.heap.size, 0, none⟩) := hf.2 4 (by kernel_rfl)
      obtain ⟨s, e6, hs⟩ : ∃ s, a.tmps[27]?.getD undef = mtx r r s ∧ Sz r r s := hf.1 ⟨6, .data⟩ (by simp) rfl _ 27 rfl rfl
      exact wp_store_row 24 (.tmp 4) (.tmp 27) rfl w.heap.size #[.int .i64 r, .int .i64 r, .string s] (eget b4) (eget e6) 24 _ (HI.out.later hax).res minfo3 rfl (by simp [Value.oneCell']) ⟨rfl, s, hs, rfl⟩
    case en =>
      rintro vs wa wb haw hrw ⟨s, hs, rfl⟩ -
      have hdi := HI.out.later haw
      have hrow := setRow_kept hdi.res #[.int .i64 r, .int .i64 r, .string s]
      have HA := Lib.hid (apt_setRow hdi.apt w.heap.size (Nat.le_refl _) #[.int .i64 r, .int .i64 r, .string s])
      have HR := Lib.hid (rdr_setRow hrw w.heap.size #[.int .i64 r, .int .i64 r, .string s] (by have := hdi.hg; omega))
      clear hdi haw hrw HI HRD
      generalize wa.setRow w.heap.size #[.int .i64 r, .int .i64 r, .string s] = wz at *
      obtain ⟨o0, o1, o2, f0, f1, f2⟩ := cells3 hrow
      clear hrow
      simp only [fill, Act.put]
      go_simp
      go_wp2_with fail
      exact bodyPost_ret (v := mtx r r s) (by simp [results, Tryd.results84, go_sem, o0, o1, o2]) rfl ⟨r, r, s, p + 4, rfl, hrr, hrr, hs, by omega, by omega, HR.out, HA.out⟩
  by_cases hB : k = 1 ∧ 4 ≤ most
  · obtain ⟨rfl, hm4⟩ := hB
    have HQ := Lib.hid (fun m => pick_r g (p + 3) (by omega) m _ hr3)
    clear hr3
    go_wp2_with fail
    refine (HQ.out _).mono ?_
    rintro e w5 ⟨x5, rfl, ⟨hx50, hx5m⟩, hx5l, hr5, ha5⟩
    have HI5 := Lib.hid (HI.out.later ha5)
    have HR5 := Lib.hid hr5
    clear hr5 ha5 HQ
    go_wp2_with fail
    refine (make_any _ ⟨by omega, by omega⟩ _ _ ⟨by omega, by omega⟩ ⟨by omega, by omega⟩ _).mono ?_
    rintro e w6 ⟨s6, rfl, hs6, hb6⟩
    have HI6 := Lib.hid (HI5.out.later (Apt.of_below hb6))
    have HR := Lib.hid (HR5.out.later hb6)
    obtain ⟨o0, o1, o2, f0, f1, f2⟩ := cells3 HI6.out.res
    have HA := Lib.hid HI6.out.apt
    clear hb6
    go_wp2_with fail
    refine bodyPost_ret (v := mtx (4) (4) (s6)) (by simp [results, Tryd.results84, go_sem, o0, o1, o2]) rfl ⟨4, 4, s6, p + 4, rfl, ⟨by omega, by omega⟩, ⟨by omega, by omega⟩, hs6, by omega, by omega, ?_, ?_⟩
    · exact rdr_set (rdr_set (rdr_set (HR.out) _ _ _ (by omega)) _ _ _ (by omega)) _ _ _ (by omega)
    · exact apt_set (apt_set (apt_set (HA.out) _ _ (by omega) _) _ _ (by omega) _) _ _ (by omega) _
  by_cases hC : k = 2
  · subst hC
    have HRD := Lib.hid hr3
    clear hr3 m0 m1 m2 m3 m4 m5
    go_wp2_with fail
    refine wp_region_dr g (p + 3) (fun | 0 => fun v => v = .pointer (some ⟨g, 0, none⟩) | 1 => fun v => ∃ x : Int, v = .int .i64 x ∧ 0 ≤ x ∧ (x < 5 ∨ x = 0) | 2 => fun v => v = .pointer (some ⟨w2.heap.size, 0, none⟩) | 3 => fun v => v = .int .i64 r | 4 => fun v => v = .pointer (some ⟨w2.heap.size, 1, none⟩) | 5 => fun v => v = .int .i64 c | 6 => fun v => ∃ s, v = mtx r c s ∧ Sz r c s | _ => fun _ => True) 1 7 (fun wa wb => ∃ s : ByteArray, Sz r c s ∧ wb = wa.setRow w.heap.size #[.int .i64 r, .int .i64 c, .string s]) _ (by kernel_rfl) (by kernel_rfl) rfl rfl rfl rfl (by omega) (by kernel_rfl) HRD.out ?con ?dr ?st ?en
    case con =>
      intro i o ho hi hid a wx hax hf
      obtain ⟨m0, m1, m2, m3, m4, m5⟩ := cells3 (HI.out.later hax).loc
      match i, ho with
      | 0, ho =>
        obtain rfl := Option.some.inj ho
        have b0 : a.tmps[0]?.getD undef = .pointer (some ⟨g, 0, none⟩) := hf.2 0 (by kernel_rfl)
        exact wp_value (.pointer (some ⟨g, 0, none⟩)) (by unfold execOp; go_simp) ⟨_, rfl, rfl, Below.refl _ _⟩
      | 1, ho => exact absurd rfl hid
      | 2, ho =>
        obtain rfl := Option.some.inj ho
        have b5 : a.tmps[5]?.getD undef = .pointer (some ⟨w2.heap.size, 0, none⟩) := hf.2 5 (by kernel_rfl)
        exact wp_value (.pointer (some ⟨w2.heap.size, 0, none⟩)) (by unfold execOp; go_simp) ⟨_, rfl, rfl, Below.refl _ _⟩
      | 3, ho =>
        obtain rfl := Option.some.inj ho
        have e2 : a.tmps[40]?.getD undef = .pointer (some ⟨w2.heap.size, 0, none⟩) := hf.1 ⟨2, .data⟩ (by simp) rfl _ 40 rfl rfl
        exact wp_value (.int .i64 r) (by unfold execOp; go_simp) ⟨_, rfl, rfl, Below.refl _ _⟩
      | 4, ho =>
        obtain rfl := Option.some.inj ho
        have b5 : a.tmps[5]?.getD undef = .pointer (some ⟨w2.heap.size, 0, none⟩) := hf.2 5 (by kernel_rfl)
        exact wp_value (.pointer (some ⟨w2.heap.size, 1, none⟩)) (by unfold execOp; go_simp) ⟨_, rfl, rfl, Below.refl _ _⟩
      | 5, ho =>
        obtain rfl := Option.some.inj ho
        have e4 : a.tmps[42]?.getD undef = .pointer (some ⟨w2.heap.size, 1, none⟩) := hf.1 ⟨4, .data⟩ (by simp) rfl _ 42 rfl rfl
        exact wp_value (.int .i64 c) (by unfold execOp; go_simp) ⟨_, rfl, rfl, Below.refl _ _⟩
      | 6, ho =>
        obtain rfl := Option.some.inj ho
        obtain ⟨x, e1, hx0, hx1⟩ : ∃ x : Int, a.tmps[39]?.getD undef = .int .i64 x ∧ 0 ≤ x ∧ (x < 5 ∨ x = 0) := hf.1 ⟨1, .data⟩ (by simp) rfl _ 39 rfl rfl
        have e3 : a.tmps[41]?.getD undef = .int .i64 r := hf.1 ⟨3, .data⟩ (by simp) rfl _ 41 rfl rfl
        have e5 : a.tmps[43]?.getD undef = .int .i64 c := hf.1 ⟨5, .data⟩ (by simp) rfl _ 43 rfl rfl
        exact wp_enterE 139 #[.int .i64 x, .int .i64 r, .int .i64 c] (fun v w' => ∃ s', v = mtx r c s' ∧ Sz r c s' ∧ Below wx.heap.size wx w') (by unfold execOp; go_simp)
          ((make_any x ⟨by omega, by omega⟩ r c hrr hcc wx).mono fun e w' h => by obtain ⟨s, he, hs, hb⟩ := h; exact ⟨_, he, (⟨s, rfl, hs, hb⟩ : ∃ s', mtx r c s = mtx r c s' ∧ Sz r c s' ∧ Below wx.heap.size wx w')⟩)
          (fun v w' h => by obtain ⟨s, rfl, hs, hb⟩ := h; exact ⟨_, rfl, ⟨s, rfl, hs⟩, hb⟩)
      | q + 7, ho => exact absurd hi (by omega)
    case dr =>
      intro o ho a wx hax hrx hf
      obtain rfl := Option.some.inj ho
      have e0 : a.tmps[38]?.getD undef = .pointer (some ⟨g, 0, none⟩) := hf.1 ⟨0, .data⟩ (by simp) rfl _ 38 rfl rfl
      exact wp_enterE 85 #[.pointer (some ⟨g, 0, none⟩), .int .i64 5] (fun v w' => ∃ x' : Int, v = .int .i64 x' ∧ (0 ≤ x' ∧ x' < 4611686018427387904) ∧ (x' < 5 ∨ x' = 0) ∧ Rdr lo w' g (p + 3 + 1) ∧ Apt g wx w') (by unfold execOp; go_simp)
        ((pick_r g (p + 3) (by omega) 5 wx hrx).mono fun e w' h => by obtain ⟨x, he, hx0, hx1, hr, ha⟩ := h; exact ⟨_, he, (⟨x, rfl, hx0, hx1, hr, ha⟩ : ∃ x' : Int, Value.int .i64 x = .int .i64 x' ∧ (0 ≤ x' ∧ x' < 4611686018427387904) ∧ (x' < 5 ∨ x' = 0) ∧ Rdr lo w' g (p + 3 + 1) ∧ Apt g wx w')⟩)
        (fun v w' h => by obtain ⟨x, rfl, hx0, hx1, hr, ha⟩ := h; exact ⟨_, rfl, ⟨x, rfl, hx0.1, hx1⟩, ha, hr⟩)
    case st =>
      intro a wx hax hrx hf
      have b4 : a.tmps[4]?.getD undef = .pointer (some ⟨w.heap.size, 0, none⟩) := hf.2 4 (by kernel_rfl)
      obtain ⟨s, e6, hs⟩ : ∃ s, a.tmps[44]?.getD undef = mtx r c s ∧ Sz r c s := hf.1 ⟨6, .data⟩ (by simp) rfl _ 44 rfl rfl
      exact wp_store_row 24 (.tmp 4) (.tmp 44) rfl w.heap.size #[.int .i64 r, .int .i64 c, .string s] (eget b4) (eget e6) 24 _ (HI.out.later hax).res minfo3 rfl (by simp [Value.oneCell']) ⟨rfl, s, hs, rfl⟩
    case en =>
      rintro vs wa wb haw hrw ⟨s, hs, rfl⟩ -
      have hdi := HI.out.later haw
      have hrow := setRow_kept hdi.res #[.int .i64 r, .int .i64 c, .string s]
      have HA := Lib.hid (apt_setRow hdi.apt w.heap.size (Nat.le_refl _) #[.int .i64 r, .int .i64 c, .string s])
      have HR := Lib.hid (rdr_setRow hrw w.heap.size #[.int .i64 r, .int .i64 c, .string s] (by have := hdi.hg; omega))
      clear hdi haw hrw HI HRD
      generalize wa.setRow w.heap.size #[.int .i64 r, .int .i64 c, .string s] = wz at *
      obtain ⟨o0, o1, o2, f0, f1, f2⟩ := cells3 hrow
      clear hrow
      simp only [fill, Act.put]
      go_simp
      go_wp2_with fail
      exact bodyPost_ret (v := mtx r c s) (by simp [results, Tryd.results84, go_sem, o0, o1, o2]) rfl ⟨r, c, s, p + 4, rfl, hrr, hcc, hs, by omega, by omega, HR.out, HA.out⟩
  obtain ⟨R, rfl⟩ := Int.eq_ofNat_of_zero_le (show 0 ≤ r by omega)
  obtain ⟨C, rfl⟩ := Int.eq_ofNat_of_zero_le (show 0 ≤ c by omega)
  have hmul := wrap_prod R C (by omega) (by omega)
  have HN1 := Lib.hid (show 1 ≤ R * C from Nat.mul_pos (by omega) (by omega))
  have HN64 := Lib.hid (show R * C ≤ 64 from Nat.mul_le_mul (show R ≤ 8 by omega) (show C ≤ 8 by omega))
  obtain ⟨N, hN⟩ : ∃ N, R * C = N := ⟨_, rfl⟩
  rw [hN] at hmul HN1 HN64
  have HNE := Lib.hid hN.symm
  clear hN
  have hN1 := HN1.out
  have hN64 := HN64.out
  have hD : (k = 1 ∧ most < 4) ∨ (k ≠ 1 ∧ k ≠ 2) := by omega
  have HQ := Lib.hid (fun m => pick_r g (p + 3) (by omega) m _ hr3)
  clear hr3 hB
  rcases hD with ⟨hk1, hm4⟩ | ⟨hk1, hk2⟩
  all_goals
    go_wp2_with fail
    refine (HQ.out _).mono ?_
    rintro e w5 ⟨x5, rfl, ⟨hx50, hx5m⟩, hx5l, hr5, ha5⟩
    have HI5 := Lib.hid (HI.out.later ha5)
    have HR5 := Lib.hid hr5
    have hx55 : x5 < 3 := by omega
    clear hr5 ha5 HQ HI m0 m1 m2 m3 m4 m5 hx5m hx5l
    go_wp2_with fail
    go_loopw [7] (fun i wr => ∃ (q p' : Nat) (t : ByteArray), q ≤ N ∧ i = .int .i64 (q : Int) ∧ Hid (t.size = q ∧ p + 4 ≤ p' ∧ p' ≤ p + 4 + q ∧ DI g w wr w2.heap.size R C t ∧ Rdr lo wr g p' ∧ okB t = true)) (fun i _ => N - (intOf i).toNat)
    case atStart => exact ⟨0, p + 4, _, by omega, rfl, ⟨rfl, by omega, by omega, HI5.out, HR5.out, rfl⟩⟩
    case round =>
      clear HI5 HR5
      obtain ⟨q, p', t, hq, rfl, HH⟩ := hrel
      have hpq : p' < 1048576 := by have := HH.out.2.2.1; omega
      have hts : t.size ≤ 64 := by have := HH.out.1; omega
      obtain ⟨m0, m1, m2, m3, m4, m5⟩ := cells3 HH.out.2.2.2.1.loc
      by_cases hlt : q < N
      · go_wp2_with fail
        clear m0 m1 m2 m3 m4 m5
        refine wp_region_dr g p' (fun | 0 => fun v => v = .pointer (some ⟨w2.heap.size, 2, none⟩) | 1 => fun v => v = .string t | 2 => fun v => v = .pointer (some ⟨g, 0, none⟩) | 3 => fun v => v = .int .i64 (1 + x5) | 4 => fun v => v = .int .i64 (1 + x5 + 1) | 5 => fun v => ∃ x : Int, v = .int .i64 x | 6 => fun v => ∃ b : Bool, v = .bool b | 7 => fun v => ∃ b : Bool, v = .string ⟨#[dig b]⟩ | 8 => fun v => ∃ b : Bool, v = .string (t ++ ⟨#[dig b]⟩) | 9 => fun v => v = .pointer (some ⟨w2.heap.size, 2, none⟩) | _ => fun _ => True) 5 10 (fun wa wb => ∃ b : Bool, wb = wa.setCell ⟨w2.heap.size, 2, none⟩ (.string (t ++ ⟨#[dig b]⟩))) _ (by kernel_rfl) (by kernel_rfl) rfl rfl rfl rfl (by omega) (by kernel_rfl) HH.out.2.2.2.2.1 ?con ?dr ?st ?en
        case con =>
          intro i o ho hi hid a wx hax hf
          obtain ⟨m0, m1, m2, m3, m4, m5⟩ := cells3 (HH.out.2.2.2.1.later hax).loc
          match i, ho with
          | 0, ho =>
            obtain rfl := Option.some.inj ho
            have b5 : a.tmps[5]?.getD undef = .pointer (some ⟨w2.heap.size, 0, none⟩) := hf.2 5 (by kernel_rfl)
            exact wp_value (.pointer (some ⟨w2.heap.size, 2, none⟩)) (by unfold execOp; go_simp) ⟨_, rfl, rfl, Below.refl _ _⟩
          | 1, ho =>
            obtain rfl := Option.some.inj ho
            have e0 : a.tmps[57]?.getD undef = .pointer (some ⟨w2.heap.size, 2, none⟩) := hf.1 ⟨0, .data⟩ (by simp) rfl _ 57 rfl rfl
            exact wp_value (.string t) (by unfold execOp; go_simp) ⟨_, rfl, rfl, Below.refl _ _⟩
          | 2, ho =>
            obtain rfl := Option.some.inj ho
            have b0 : a.tmps[0]?.getD undef = .pointer (some ⟨g, 0, none⟩) := hf.2 0 (by kernel_rfl)
            exact wp_value (.pointer (some ⟨g, 0, none⟩)) (by unfold execOp; go_simp) ⟨_, rfl, rfl, Below.refl _ _⟩
          | 3, ho =>
            obtain rfl := Option.some.inj ho
            have b6 : a.tmps[6]?.getD undef = .int .i64 (1 + x5) := hf.2 6 (by kernel_rfl)
            exact wp_value (.int .i64 (1 + x5)) (by unfold execOp; go_simp) ⟨_, rfl, rfl, Below.refl _ _⟩
          | 4, ho =>
            obtain rfl := Option.some.inj ho
            have e3 : a.tmps[60]?.getD undef = .int .i64 (1 + x5) := hf.1 ⟨3, .data⟩ (by simp) rfl _ 60 rfl rfl
            have hwr : IntKind.i64.wrap (1 + x5 + 1) = 1 + x5 + 1 := IntWalk.i64_in _ ⟨by omega, by omega⟩
            exact wp_value (.int .i64 (1 + x5 + 1)) (by unfold execOp; go_simp) ⟨_, rfl, rfl, Below.refl _ _⟩
          | 5, ho => exact absurd rfl hid
          | 6, ho =>
            obtain rfl := Option.some.inj ho
            obtain ⟨x, e5⟩ : ∃ x : Int, a.tmps[62]?.getD undef = .int .i64 x := hf.1 ⟨5, .data⟩ (by simp) rfl _ 62 rfl rfl
            exact wp_value (.bool (x == 0)) (by unfold execOp; go_simp) ⟨_, rfl, ⟨_, rfl⟩, Below.refl _ _⟩
          | 7, ho =>
            obtain rfl := Option.some.inj ho
            obtain ⟨b, e6⟩ : ∃ b : Bool, a.tmps[63]?.getD undef = .bool b := hf.1 ⟨6, .data⟩ (by simp) rfl _ 63 rfl rfl
            exact wp_enter 97 #[.bool b] (.string ⟨#[dig b]⟩) (fun w' => wx = w') (by unfold execOp; go_simp) (l1Bit_any b wx) (fun w' h => by subst h; exact ⟨_, rfl, ⟨b, rfl⟩, Below.refl _ _⟩)
          | 8, ho =>
            obtain rfl := Option.some.inj ho
            have e1 : a.tmps[58]?.getD undef = .string t := hf.1 ⟨1, .data⟩ (by simp) rfl _ 58 rfl rfl
            obtain ⟨b, e7⟩ : ∃ b : Bool, a.tmps[64]?.getD undef = .string ⟨#[dig b]⟩ := hf.1 ⟨7, .data⟩ (by simp) rfl _ 64 rfl rfl
            have hcat := run_string_add_sum (P := Tryd.prog) (w := wx) t ⟨#[dig b]⟩ (by show t.size + 1 ≤ 9223372036854775807; omega)
            exact wp_value (.string (t ++ ⟨#[dig b]⟩)) (by unfold execOp; go_simp) ⟨_, rfl, ⟨b, rfl⟩, Below.refl _ _⟩
          | 9, ho =>
            obtain rfl := Option.some.inj ho
            have b5 : a.tmps[5]?.getD undef = .pointer (some ⟨w2.heap.size, 0, none⟩) := hf.2 5 (by kernel_rfl)
            exact wp_value (.pointer (some ⟨w2.heap.size, 2, none⟩)) (by unfold execOp; go_simp) ⟨_, rfl, rfl, Below.refl _ _⟩
          | q + 10, ho => exact absurd hi (by omega)
        case dr =>
          intro o ho a wx hax hrx hf
          obtain rfl := Option.some.inj ho
          have e2 : a.tmps[59]?.getD undef = .pointer (some ⟨g, 0, none⟩) := hf.1 ⟨2, .data⟩ (by simp) rfl _ 59 rfl rfl
          have e4 : a.tmps[61]?.getD undef = .int .i64 (1 + x5 + 1) := hf.1 ⟨4, .data⟩ (by simp) rfl _ 61 rfl rfl
          exact wp_enterE 85 #[.pointer (some ⟨g, 0, none⟩), .int .i64 (1 + x5 + 1)] (fun v w' => ∃ x' : Int, v = .int .i64 x' ∧ Rdr lo w' g (p' + 1) ∧ Apt g wx w') (by unfold execOp; go_simp)
            ((pick_r g p' hpq (1 + x5 + 1) wx hrx).mono fun e w' h => by obtain ⟨x, he, hx0, hx1, hr, ha⟩ := h; exact ⟨_, he, (⟨x, rfl, hr, ha⟩ : ∃ x' : Int, Value.int .i64 x = .int .i64 x' ∧ Rdr lo w' g (p' + 1) ∧ Apt g wx w')⟩)
            (fun v w' h => by obtain ⟨x, rfl, hr, ha⟩ := h; exact ⟨_, rfl, ⟨x, rfl⟩, ha, hr⟩)
        case st =>
          intro a wx hax hrx hf
          obtain ⟨m0, m1, m2, m3, m4, m5⟩ := cells3 (HH.out.2.2.2.1.later hax).loc
          obtain ⟨b, e8⟩ : ∃ b : Bool, a.tmps[65]?.getD undef = .string (t ++ ⟨#[dig b]⟩) := hf.1 ⟨8, .data⟩ (by simp) rfl _ 65 rfl rfl
          have e9 : a.tmps[66]?.getD undef = .pointer (some ⟨w2.heap.size, 2, none⟩) := hf.1 ⟨9, .data⟩ (by simp) rfl _ 66 rfl rfl
          exact wp_skip (w' := wx.setCell ⟨w2.heap.size, 2, none⟩ (.string (t ++ ⟨#[dig b]⟩))) (by unfold execOp; go_simp) ⟨rfl, b, rfl⟩
        case en =>
          rintro vs wa wb haw hrw ⟨b, rfl⟩ -
          have HI6 := Lib.hid ((HH.out.2.2.2.1.later haw).set_ (t ++ ⟨#[dig b]⟩))
          have HR6 := Lib.hid (rdr_set hrw w2.heap.size 2 (.string (t ++ ⟨#[dig b]⟩)) (by have := hlt2; omega))
          have HTS : Hid ((t ++ ⟨#[dig b]⟩).size = q + 1) := by unfold Hid; rw [ByteArray.size_append, HH.out.1]; rfl
          have HOK : Hid (okB (t ++ ⟨#[dig b]⟩) = true) := ok_next t b HH.out.2.2.2.2.2
          have HPP := Lib.hid (And.intro HH.out.2.1 HH.out.2.2.1)
          clear haw hrw HH
          generalize t ++ ⟨#[dig b]⟩ = t' at *
          simp only [fill, Act.put]
          go_simp
          go_wp2_with fail
          go_roundw
          case rel => exact ⟨q + 1, p' + 1, t', by omega, by go_num, ⟨HTS.out, by have := HPP.out; omega, by have := HPP.out; omega, HI6.out, HR6.out, HOK.out⟩⟩
          case measure => simp [intOf]; omega
      · obtain rfl : q = N := by omega
        obtain ⟨o0, o1, o2, f0, f1, f2⟩ := cells3 HH.out.2.2.2.1.res
        go_wp2_with fail
        obtain ⟨h1, h2, h3, hdi, hrd, hok⟩ := HH.out
        refine bodyPost_ret (v := mtx (R) (C) (t)) (by simp [results, Tryd.results84, go_sem, o0, o1, o2]) rfl ⟨R, C, t, p', rfl, hrr, hcc, sz_of R C (by omega) (by omega) (by omega) (by omega) t (h1.trans HNE.out) hok, Nat.le_trans (Nat.le_add_right p 4) h2, ?_, ?_, ?_⟩
        · have := HN64.out
          clear hrr hcc HN1
          omega
        · exact rdr_set (rdr_set (rdr_set hrd _ _ _ (by have := hdi.hg; omega)) _ _ _ (by have := hdi.hg; omega)) _ _ _ (by have := hdi.hg; omega)
        · exact apt_set (apt_set (apt_set hdi.apt _ _ (Nat.le_refl _) _) _ _ (Nat.le_refl _) _) _ _ (Nat.le_refl _) _

theorem draw_mat {lo : Nat} (g p : Nat) (hp : p < 1040000) (most : Int) (hm1 : 1 ≤ most) (hm8 : most ≤ 8) (w : World) (h : Rdr lo w g p) :
    Calls Tryd.prog 84 #[.pointer (some ⟨g, 0, none⟩), .int .i64 most] w fun e w' => ∃ (a b : Int) (t : ByteArray) (p' : Nat), e = .returned (mtx a b t) ∧ (1 ≤ a ∧ a ≤ 8) ∧ (1 ≤ b ∧ b ≤ 8) ∧ (1 ≤ t.size ∧ t.size ≤ 64) ∧ p ≤ p' ∧ p' ≤ p + 100 ∧ Rdr lo w' g p' ∧ Apt g w w' :=
  (draw_matV g p hp most hm1 hm8 w h).mono fun e w' h => by
    obtain ⟨a, b, t, p', h1, h2, h3, h4, h5⟩ := h
    exact ⟨a, b, t, p', h1, h2, h3, h4.1, h5⟩
end Go.Proofs.YtalechngagkklaaDoor.Rd6

/-
  The drawing function l1Open.
-/
namespace Go.Proofs.YtalechngagkklaaDoor.Rd7
open Go.RowKit Go.Proofs.YtalechngagkklaaDoor.Plain Go.Proofs.YtalechngagkklaaDoor.Base Go.Proofs.YtalechngagkklaaDoor.Rd Go.Proofs.YtalechngagkklaaDoor.Rd2 Go.Proofs.YtalechngagkklaaDoor.Rd3 Go.Proofs.YtalechngagkklaaDoor.Rd4 Go.Proofs.YtalechngagkklaaDoor.Rd5 Go.Proofs.YtalechngagkklaaDoor.Rd6
set_option linter.unusedVariables false

/-- one new block while a reader in an older one is read -/
structure One (g : Nat) (w wr : World) (T : TypeId) (cs : Array Value) : Prop where
  one : wr.heap[w.heap.size]? = some (.cells cs T (0, 0))
  apt : Apt g w wr
theorem One.start (g : Nat) (w : World) (T : TypeId) (cs : Array Value) : One g w (w.alloc (.cells cs T)) T cs :=
  ⟨heap_alloc_new w _, Apt.of_below ((Below.refl w.heap.size w).alloc (Nat.le_refl _) _)⟩
theorem One.later {g : Nat} {w wr w2 : World} {T : TypeId} {cs : Array Value} (h : One g w wr T cs) (hg : g < w.heap.size) (ha : Apt g wr w2) : One g w w2 T cs :=
  ⟨(ha.block _ (Array.getElem?_eq_some_iff.1 h.one).1 (by omega)).trans h.one, h.apt.trans ha⟩

set_option maxHeartbeats 2000000 in
theorem open_mat {lo : Nat} (g p : Nat) (hp : p < 1000000) (w : World) (h : Rdr lo w g p) :
    Calls Tryd.prog 74 #[.pointer (some ⟨g, 0, none⟩)] w fun e w' => ∃ (a b : Int) (t : ByteArray) (p' : Nat), e = .returned (mtx a b t) ∧ W64 a ∧ W64 b ∧ t.size ≤ 100 ∧ p ≤ p' ∧ p' ≤ p + 200 ∧ Rdr lo w' g p' ∧ Apt g w w' := by
  have hg := h.lt
  have hT := One.start g w 24 #[.int .i64 0, .int .i64 0, .string ⟨#[]⟩]
  have h0 := h.later ((Below.refl w.heap.size w).alloc (Nat.le_refl _) (.cells #[.int .i64 0, .int .i64 0, .string ⟨#[]⟩] 24))
  have hr2 := h0.later ((Below.refl _ _).alloc (Nat.le_refl _) (.cells ([4, 5, 3, 8].map fun x : Int => Value.int .i64 x).toArray 3))
  have HN := Lib.hid (num_any g p (by omega) [4, 5, 3, 8] (by decide) (by decide) (w.heap.size + 1) 4 (by omega) _ hr2 (by simp) (fun j hj => by have := cells_lit (w.alloc (.cells #[.int .i64 0, .int .i64 0, .string ⟨#[]⟩] 24)) 3 [4, 5, 3, 8] j hj; rwa [World.size_alloc] at this))
  have HT := Lib.hid hT
  clear h h0 hr2 hT
  go_enter Tryd.func74, Tryd.ntmps74
  go_wp2_with fail
  refine HN.out.mono ?_
  rintro e w1 ⟨m, rfl, hm, hr3, ha3⟩
  have HT1 := Lib.hid (HT.out.later hg ((Apt.of_below ((Below.refl _ _).alloc (Nat.le_refl _) _)).trans ha3))
  have hm1 : 1 ≤ m ∧ m ≤ 8 := by
    simp at hm
    omega
  have HD := Lib.hid (draw_mat g (p + 1) (by omega) m hm1.1 hm1.2 w1 hr3)
  clear hm hr3 ha3 HN HT
  go_wp2_with fail
  refine HD.out.mono ?_
  rintro e w2 ⟨a, b, t, p2, rfl, ha, hb, ht, hp1, hp2, hr, hap⟩
  have HT2 := Lib.hid (HT1.out.later hg hap)
  have HB := Lib.hid (bad_mat g p2 (by omega) a b t ha.1 ha.2 ⟨by omega, by omega⟩ ht.1 ht.2 w2 hr)
  have HP := Lib.hid (And.intro hp1 hp2)
  clear ha hb ht hp1 hp2 hr hap HD HT1
  go_wp2_with fail
  refine HB.out.mono ?_
  rintro e w3 ⟨a2, b2, t2, p3, rfl, wa, wb, ht, hp3, hp4, hr, hap⟩
  have hT3 := HT2.out.later hg hap
  obtain ⟨o0, o1, o2, f0, f1, f2⟩ := cells3 hT3.one
  have HR := Lib.hid hr
  have HA := Lib.hid hT3.apt
  have HP2 := Lib.hid (And.intro hp3 hp4)
  clear hr hap hT3 HT2 HB hp3 hp4
  go_wp2_with fail
  refine bodyPost_ret (v := mtx a2 b2 t2) (by simp [results, Tryd.results74, go_sem, o0, o1, o2]) rfl ⟨a2, b2, t2, p3, rfl, wa, wb, ht, by have := HP.out; have := HP2.out; omega, by have := HP.out; have := HP2.out; omega, ?_, ?_⟩
  · exact rdr_set (rdr_set (rdr_set (HR.out) _ _ _ (by omega)) _ _ _ (by omega)) _ _ _ (by omega)
  · exact apt_set (apt_set (apt_set (HA.out) _ _ (by omega) _) _ _ (by omega) _) _ _ (by omega) _
end Go.Proofs.YtalechngagkklaaDoor.Rd7

/-
  The drawing functions: an element of a list of strings; a rectangle of a valid matrix.
-/
namespace Go.Proofs.YtalechngagkklaaDoor.DrawT
open Go.RowKit Go.Proofs.YtalechngagkklaaDoor.Plain Go.Proofs.YtalechngagkklaaDoor.Rd Go.Proofs.YtalechngagkklaaDoor.Rd2 Go.Proofs.YtalechngagkklaaDoor.Rd3
set_option linter.unusedVariables false

set_option maxHeartbeats 1000000 in
theorem of_any {lo : Nat} (g p : Nat) (hp : p < 1048576) (xs : List ByteArray) (h1 : 1 ≤ xs.length) (h8 : xs.length ≤ 1000) (b c : Nat) (hbg : b ≠ g) (w : World) (h : Rdr lo w g p) (hbl : b < w.heap.size)
    (hc : ∀ j (hj : j < xs.length), w.cell? ⟨b, j, none⟩ = some (.string xs[j])) :
    Calls Tryd.prog 86 #[.pointer (some ⟨g, 0, none⟩), .slice (some ⟨b, 0, none⟩) xs.length c] w fun e w' => ∃ x : ByteArray, e = .returned (.string x) ∧ x ∈ xs ∧ Rdr lo w' g (p + 1) ∧ Apt g w w' := by
  have HC := Lib.hid hc
  have HP := Lib.hid (pick_r g p hp (xs.length : Int) w h)
  clear hc h
  go_enter Tryd.func86, Tryd.ntmps86
  go_wp2_with fail
  refine HP.out.mono ?_
  rintro e w1 ⟨x, rfl, ⟨hx0, hxm⟩, hx1, hr, ha⟩
  obtain ⟨k, rfl⟩ := Int.eq_ofNat_of_zero_le hx0
  have hk : k < xs.length := by omega
  have hkl : (k : Int) < (xs.length : Int) := by omega
  have hcell : w1.cell? ⟨b, k, none⟩ = some (.string xs[k]) := (ha.cell (p := ⟨b, k, none⟩) hbl hbg).trans (HC.out k hk)
  have HM : Hid (xs[k] ∈ xs) := List.getElem_mem hk
  have HR := Lib.hid hr
  have HA := Lib.hid ha
  generalize xs[k] = y at hcell HM
  clear hr ha hx1
  go_wp2_with fail
  go_ret
  exact ⟨y, rfl, HM.out, HR.out, HA.out⟩

theorem shift_le (n : Nat) (h : n ≤ 8) : wrap64 (wrap64 (2 ^ n) - 1) ≤ 255 := by
  have h2 : ∀ k : Fin 9, wrap64 (wrap64 (2 ^ k.val) - 1) ≤ 255 := by decide +kernel
  exact h2 ⟨n, by omega⟩
set_option maxHeartbeats 1000000 in
theorem draw_rect8 {lo : Nat} (g p : Nat) (hp : p < 1048000) (r c : Int) (hr1 : 1 ≤ r) (hr8 : r ≤ 8) (hc1 : 1 ≤ c) (hc8 : c ≤ 8) (s : ByteArray) (w : World) (h : Rdr lo w g p) :
    Calls Tryd.prog 113 #[.pointer (some ⟨g, 0, none⟩), .agg #[.int .i64 r, .int .i64 c, .string s]] w fun e w' => ∃ x y : Int, e = .returned (.agg #[.int .i64 x, .int .i64 y]) ∧ (1 ≤ x ∧ x ≤ 255) ∧ (1 ≤ y ∧ y ≤ 255) ∧ Rdr lo w' g (p + 2) ∧ Apt g w w' := by
  have hg := h.lt
  have h0 := h.later (two_start_below w (.cells #[.int .i64 r, .int .i64 c, .string s] 24) (.cells #[.int .i64 0, .int .i64 0] 26))
  have hT := Two.start g w 24 26 #[.int .i64 r, .int .i64 c, .string s] #[.int .i64 0, .int .i64 0]
  go_enter Tryd.func113, Tryd.ntmps113
  have HP := Lib.hid (fun m => pick_r g p (by omega) m _ h0)
  clear h0
  go_wp2_with fail
  all_goals
    refine (HP.out _).mono ?_
    rintro e w1 ⟨x, rfl, ⟨hx0, hxm⟩, hx2, hr, ha⟩
    have hx3 : x ≤ 254 := by have := shift_le r.toNat (by omega); omega
    have hT1 := Lib.hid (hT.later hg ha)
    have HQ := Lib.hid (fun m => pick_r g (p + 1) (by omega) m _ hr)
    clear hT hr ha HP hx2 hxm
    go_wp2_with fail
    refine (HQ.out _).mono ?_
    rintro e w2 ⟨y, rfl, ⟨hy0, hym⟩, hy2, hr, ha⟩
    have hy3 : y ≤ 254 := by have := shift_le c.toNat (by omega); omega
    have hT2 := hT1.out.later hg ha
    have o0 : w2.cell? ⟨w.heap.size + 1, 0, none⟩ = some (.int .i64 0) := cell_of_row _ _ 0 _ _ _ hT2.two
    have o1 : w2.cell? ⟨w.heap.size + 1, 1, none⟩ = some (.int .i64 0) := cell_of_row _ _ 1 _ _ _ hT2.two
    have f0 : w2.frozen? ⟨w.heap.size + 1, 0, none⟩ = false := frozen_of_row _ _ 0 _ _ hT2.two
    have f1 : w2.frozen? ⟨w.heap.size + 1, 1, none⟩ = false := frozen_of_row _ _ 1 _ _ hT2.two
    have HR := Lib.hid hr
    have HA := Lib.hid hT2.apt
    clear hT1 hT2 hr ha HQ hy2 hym
    go_wp2_with fail
    refine bodyPost_ret (v := .agg #[.int .i64 (1 + x), .int .i64 (1 + y)]) (by simp [results, Tryd.results113, go_sem, o0, o1]) rfl ⟨_, _, rfl, ⟨by omega, by omega⟩, ⟨by omega, by omega⟩, ?_, ?_⟩
    · exact rdr_set (rdr_set HR.out _ _ _ (by omega)) _ _ _ (by omega)
    · exact apt_set (apt_set HA.out _ _ (by omega) _) _ _ (by omega) _
end Go.Proofs.YtalechngagkklaaDoor.DrawT

/-
  The law at a region that draws its order and whose operations read through one reader, as often as they like: what they yield is told by a relation
  that stays true while other blocks lie as they lay. The order of the reads does not matter: of each number only its bounds are told.
-/
namespace Go.Proofs.YtalechngagkklaaDoor.FreeP
open Go Go.RowKit Go.Proofs.YtalechngagkklaaDoor.Free Go.Proofs.YtalechngagkklaaDoor.FreeL Go.Proofs.YtalechngagkklaaDoor.Rd Go.Proofs.YtalechngagkklaaDoor.Rd2
set_option linter.unusedVariables false

/-- how many have come up -/
def cnt (l : Nat → Bool) : Nat → Nat
  | 0 => 0
  | n + 1 => cnt l n + (l n).toNat
theorem cnt_le (l : Nat → Bool) : ∀ n, cnt l n ≤ n
  | 0 => Nat.le_refl _
  | n + 1 => by
    have := cnt_le l n
    rw [cnt]
    cases l n <;> simp <;> omega
theorem cnt_none (l : Nat → Bool) (h : ∀ i, l i = false) : ∀ n, cnt l n = 0
  | 0 => rfl
  | n + 1 => by rw [cnt, cnt_none l h n, h n]; rfl
theorem cnt_high (l : Nat → Bool) (i : Nat) : ∀ n, n ≤ i → cnt (fun j => if j = i then true else l j) n = cnt l n
  | 0, _ => rfl
  | n + 1, h => by
    rw [cnt, cnt, cnt_high l i n (by omega)]
    rw [if_neg (by omega)]
theorem cnt_set (l : Nat → Bool) (i : Nat) (hl : l i = false) : ∀ n, i < n → cnt (fun j => if j = i then true else l j) n = cnt l n + 1
  | 0, h => absurd h (by omega)
  | n + 1, h => by
    rw [cnt, cnt]
    by_cases e : n = i
    · subst e
      rw [cnt_high l n n (Nat.le_refl _), if_pos rfl, hl]
      rfl
    · rw [cnt_set l i hl n (by omega), if_neg e]
      omega
set_option maxRecDepth 20000 in
theorem count_up {p0 p p' c : Nat} (h2 : p ≤ p0 + 400 * c) (h4 : p' ≤ p + 400) : p' ≤ p0 + 400 * (c + 1) := by omega
set_option maxRecDepth 20000 in
theorem count_to {p0 p c n : Nat} (h2 : p ≤ p0 + 400 * c) (h4 : c ≤ n) : p ≤ p0 + 400 * n := by omega
theorem wp_enterP {P : Program} {o : Oper} {a : Act} {w : World} {K : Act → World → Prop} {Q : Exit → Act → World → Prop} (f : FuncId) (args : Array Value) (R : Value → World → Prop) (h : (execOp a.eval o).run P w = .ok (.enter f args) w)
    (hc : Calls P f args w fun e w' => ∃ v, e = .returned v ∧ R v w') (hK : ∀ v w', R v w' → K (a.put o.dst v) w') : o.wp P a w K Q := by
  unfold Oper.wp
  rw [h]
  refine Calls.mono hc ?_
  rintro e w' ⟨v, rfl, hR⟩
  exact hK v w' hR

section
variable {P : Program} {ops : Array Oper}
/-- what an operation may know of the slots -/
def FactsP (ops : Array Oper) (a0 : Act) (R : Nat → Value → World → Prop) (o : Oper) (a : Act) (w : World) : Prop :=
  (∀ e ∈ o.after, Region.binds .any e = true → ∀ (oj : Oper) (dj : Tmp), ops[e.on]? = some oj → oj.dst = some dj → R e.on (a.tmps[dj]?.getD undef) w) ∧
  (∀ k, (ops.toList.all fun o => o.dst != some k) = true → a.tmps[k]?.getD undef = a0.tmps[k]?.getD undef)

/-- THE LAW -/
theorem wp_region_draws {lo : Nat} {id n : Nat} {a0 : Act} {w0 : World} {Q : Exit → Act → World → Prop} (g p0 : Nat) (R : Nat → Value → World → Prop) (hR : ∀ (i : Nat) (v : Value) (w w' : World), Apt g w w' → R i v w → R i v w')
    (hm : P.follows .mixedOrders = true) (hB : freeB ops n = true) (hn : a0.tmps.size = n) (h0 : Rdr lo w0 g p0)
    (hcon : ∀ (i : Nat) (o : Oper), ops[i]? = some o → ∀ (a : Act) (w : World) (p : Nat), p0 ≤ p → p ≤ p0 + 400 * ops.size → Apt g w0 w → Rdr lo w g p → FactsP ops a0 R o a w →
      o.wp P a w (fun a' w' => ∃ v p', a' = a.put o.dst v ∧ R i v w' ∧ Apt g w w' ∧ Rdr lo w' g p' ∧ p ≤ p' ∧ p' ≤ p + 400) Q)
    (hend : ∀ (vs : Nat → Value) (w : World) (p : Nat), p0 ≤ p → p ≤ p0 + 400 * ops.size → Apt g w0 w → Rdr lo w g p → (∀ (i : Nat) (o : Oper), ops[i]? = some o → R i (vs i) w) → Q .normal (fill ops.toList vs 0 a0) w) :
    (Code.region id ops true).wp P Q a0 w0 := by
  refine wp_region_freeL (Y := fun i v a w => R i v w) (S := fun l w => Apt g w0 w ∧ ∃ p, Rdr lo w g p ∧ p0 ≤ p ∧ p ≤ p0 + 400 * cnt l ops.size) hm hB hn
    ⟨(Apt.refl g w0).drew, p0, h0.later (drawn_at w0 1), Nat.le_refl _, by omega⟩ ?_ ?_
  · intro i o ho listed a w hM hu hdp
    have hi : i < ops.size := (Array.getElem?_eq_some_iff.1 ho).1
    obtain ⟨ha, p, hr, hp1, hp2⟩ := hM.world
    have hc := cnt_set (fun j => listed.getD j false) i hu ops.size hi
    have hl := cnt_le (fun j => listed.getD j false) ops.size
    have hf : FactsP ops a0 R o a w := by
      refine ⟨fun e he hb oj dj hoj hdj => ?_, fun k hk => ?_⟩
      · obtain ⟨v, hv, hvd⟩ := hM.new e.on oj hoj (hdp e he hb)
        rw [hvd dj hdj]
        exact hv
      · rw [hM.old k fun i o' ho' hd' => ?_]
        have := List.all_eq_true.1 hk o' (by simpa using Array.mem_of_getElem? ho')
        simp [hd'] at this
    have hp3 : p ≤ p0 + 400 * ops.size := count_to hp2 hl
    refine Oper.wp_mono ?_ (hcon i o ho a w p hp1 hp3 ha hr hf)
    rintro a' w' ⟨v, p', rfl, hRv, ha', hr', h3, h4⟩
    have h5 : p' ≤ p0 + 400 * cnt (fun j => if j = i then true else listed.getD j false) ops.size := by
      rw [hc]
      exact count_up hp2 h4
    exact ⟨v, rfl, hRv, ⟨ha.trans ha', p', hr', Nat.le_trans hp1 h3, h5⟩, fun j u _ _ hY => hR j u w w' ha' hY⟩
  · intro vs w hS hall
    obtain ⟨ha, p, hr, hp1, hp2⟩ := hS
    have hl := cnt_le (fun i => decide (i < ops.size)) ops.size
    exact hend vs w p hp1 (count_to hp2 hl) ha hr hall
end
end Go.Proofs.YtalechngagkklaaDoor.FreeP

/-
  The law at a region that draws its order, told by a family of worlds that is indexed by what has come up: each operation is walked once. (The return
  of a drawing function with several results: the family says what is stored, and that the reader still reads while nothing is.)
-/
namespace Go.Proofs.YtalechngagkklaaDoor.FreeQ
open Go Go.RowKit Go.Proofs.YtalechngagkklaaDoor.Free Go.Proofs.YtalechngagkklaaDoor.FreeL Go.Proofs.YtalechngagkklaaDoor.FreeD
set_option linter.unusedVariables false

section
variable {P : Program} {ops : Array Oper}
/-- THE LAW -/
theorem wp_region_family {id n : Nat} {a0 : Act} {w0 : World} {Q : Exit → Act → World → Prop} (R : Nat → Value → Prop) (T : (Nat → Bool) → World → Prop)
    (hm : P.follows .mixedOrders = true) (hB : freeB ops n = true) (hn : a0.tmps.size = n) (hT0 : T (fun _ => false) { w0 with drawn := w0.drawn + 1 })
    (hcon : ∀ (i : Nat) (o : Oper), ops[i]? = some o → ∀ (a : Act) (w : World) (l : Nat → Bool), T l w → l i = false → (∀ (j : Nat) (oj : Oper), ops[j]? = some oj → l j = true → ∀ e ∈ oj.after, Region.binds .any e = true → l e.on = true) → FactsV ops a0 R o a →
      o.wp P a w (fun a' w' => ∃ v, a' = a.put o.dst v ∧ R i v ∧ T (fun j => if j = i then true else l j) w') Q)
    (hend : ∀ (vs : Nat → Value) (w : World), T (fun i => decide (i < ops.size)) w → (∀ (i : Nat) (o : Oper), ops[i]? = some o → R i (vs i)) → Q .normal (fill ops.toList vs 0 a0) w) :
    (Code.region id ops true).wp P Q a0 w0 := by
  refine wp_region_freeL (Y := fun i v a w => R i v) (S := fun l w => T l w) hm hB hn hT0 ?_ ?_
  · intro i o ho listed a w hM hu hdp
    have hf : FactsV ops a0 R o a := by
      refine ⟨fun e he hb oj dj hoj hdj => ?_, fun k hk => ?_⟩
      · obtain ⟨v, hv, hvd⟩ := hM.new e.on oj hoj (hdp e he hb)
        rw [hvd dj hdj]
        exact hv
      · rw [hM.old k fun i o' ho' hd' => ?_]
        have := List.all_eq_true.1 hk o' (by simpa using Array.mem_of_getElem? ho')
        simp [hd'] at this
    refine Oper.wp_mono ?_ (hcon i o ho a w _ hM.world hu hM.closed hf)
    rintro a' w' ⟨v, rfl, hRv, hT'⟩
    exact ⟨v, rfl, hRv, hT', fun j u _ _ hY => hY⟩
  · intro vs w hS hall
    exact hend vs w hS hall
end
end Go.Proofs.YtalechngagkklaaDoor.FreeQ

/-
  Blocks that are kept while a reader of a drawing function is read; the name of an operation.
-/
namespace Go.Proofs.YtalechngagkklaaDoor.KeptR
open Go.RowKit Go.Proofs.YtalechngagkklaaDoor.Plain Go.Proofs.YtalechngagkklaaDoor.Rd Go.Proofs.YtalechngagkklaaDoor.Rd2 Go.Proofs.YtalechngagkklaaDoor.Rd3 Go.Proofs.YtalechngagkklaaDoor.Rd5 Go.Proofs.YtalechngagkklaaDoor.DrawT
set_option linter.unusedVariables false

/-- these blocks, none of which is the reader g, lie so; what lay before w lies as it lay, and g was made later -/
structure Kr (g : Nat) (w wr : World) (l : List (Nat × Obj)) : Prop where
  all : ∀ p ∈ l, p.1 ≠ g ∧ wr.heap[p.1]? = some p.2
  below : Below w.heap.size w wr
  hg : w.heap.size ≤ g
theorem Kr.later {g : Nat} {w wr w2 : World} {l : List (Nat × Obj)} (h : Kr g w wr l) (ha : Apt g wr w2) : Kr g w w2 l :=
  ⟨fun p hp => ⟨(h.all p hp).1, (ha.block _ (Array.getElem?_eq_some_iff.1 (h.all p hp).2).1 (h.all p hp).1).trans (h.all p hp).2⟩, ha.below h.below h.hg, h.hg⟩
theorem Kr.on {g : Nat} {w wr w2 : World} {l : List (Nat × Obj)} (h : Kr g w wr l) (hb : Below wr.heap.size wr w2) : Kr g w w2 l := h.later (Apt.of_below hb)
theorem Kr.drew {g : Nat} {w wr : World} {l : List (Nat × Obj)} (h : Kr g w wr l) : Kr g w wr.drew l := h.on (drawn_at wr 1)
theorem Kr.put {g : Nat} {w wr : World} {l : List (Nat × Obj)} (h : Kr g w wr l) (o : Obj) {b : Nat} (hb : wr.heap.size = b) (hgl : g < wr.heap.size) : Kr g w (wr.alloc o) ((b, o) :: l) := by
  have h2 := h.on ((Below.refl wr.heap.size wr).alloc (Nat.le_refl _) o)
  refine ⟨fun p hp => ?_, h2.below, h.hg⟩
  rcases List.mem_cons.1 hp with rfl | hp
  · subst hb
    exact ⟨by show wr.heap.size ≠ g; omega, heap_alloc_new wr o⟩
  · exact h2.all p hp
theorem Kr.at {g : Nat} {w wr : World} {l : List (Nat × Obj)} (h : Kr g w wr l) (i : Nat) {p : Nat × Obj} (hi : l[i]? = some p) : wr.heap[p.1]? = some p.2 := (h.all p (List.mem_of_getElem? hi)).2
/-- the first block's cell is stored -/
theorem Kr.set3 {g b : Nat} {w wr : World} {x y z v : Value} {T : TypeId} {l : List (Nat × Obj)} (h : Kr g w wr ((b, .cells #[x, y, z] T (0, 0)) :: l)) (hne : ∀ p ∈ l, p.1 ≠ b) (hb : w.heap.size ≤ b) :
    Kr g w (wr.setCell ⟨b, 2, none⟩ v) ((b, .cells #[x, y, v] T (0, 0)) :: l) := by
  refine ⟨fun p hp => ?_, h.below.setCell (by simpa using hb) _, h.hg⟩
  have hrow := h.all _ List.mem_cons_self
  rcases List.mem_cons.1 hp with rfl | hp
  · exact ⟨hrow.1, (heap_setCell_same _ _ _ _ _ _ hrow.2).trans (by simp)⟩
  · have h3 := h.all p (List.mem_cons_of_mem _ hp)
    exact ⟨h3.1, (heap_setCell_other _ _ _ _ (by have := hne p hp; simpa using this)).trans h3.2⟩

/-- the first block's three cells are stored -/
theorem Kr.sets {g b : Nat} {w wr : World} {x y z v0 v1 v2 : Value} {T : TypeId} {l : List (Nat × Obj)} (h : Kr g w wr ((b, .cells #[x, y, z] T (0, 0)) :: l)) (hne : ∀ p ∈ l, p.1 ≠ b) (hb : w.heap.size ≤ b) :
    Kr g w (((wr.setCell ⟨b, 0, none⟩ v0).setCell ⟨b, 1, none⟩ v1).setCell ⟨b, 2, none⟩ v2) ((b, .cells #[v0, v1, v2] T (0, 0)) :: l) := by
  have hrow := h.all _ List.mem_cons_self
  have l1 : (wr.setCell ⟨b, 0, none⟩ v0).heap[b]? = some (.cells #[v0, y, z] T (0, 0)) := (heap_setCell_same _ _ _ _ _ _ hrow.2).trans (by simp)
  have l2 : ((wr.setCell ⟨b, 0, none⟩ v0).setCell ⟨b, 1, none⟩ v1).heap[b]? = some (.cells #[v0, v1, z] T (0, 0)) := (heap_setCell_same _ _ _ _ _ _ l1).trans (by simp)
  have l3 : (((wr.setCell ⟨b, 0, none⟩ v0).setCell ⟨b, 1, none⟩ v1).setCell ⟨b, 2, none⟩ v2).heap[b]? = some (.cells #[v0, v1, v2] T (0, 0)) := (heap_setCell_same _ _ _ _ _ _ l2).trans (by simp)
  refine ⟨fun p hp => ?_, ((h.below.setCell (by simpa using hb) _).setCell (by simpa using hb) _).setCell (by simpa using hb) _, h.hg⟩
  rcases List.mem_cons.1 hp with rfl | hp
  · exact ⟨hrow.1, l3⟩
  · have h3 := h.all p (List.mem_cons_of_mem _ hp)
    have hn := hne p hp
    refine ⟨h3.1, ?_⟩
    rw [heap_setCell_other _ _ _ _ (by simpa using hn), heap_setCell_other _ _ _ _ (by simpa using hn), heap_setCell_other _ _ _ _ (by simpa using hn)]
    exact h3.2

theorem cells_str (w : World) (T : TypeId) (xs : List ByteArray) (j : Nat) (hj : j < xs.length) : (w.alloc (.cells (xs.map fun x : ByteArray => Value.string x).toArray T)).cell? ⟨w.heap.size, j, none⟩ = some (.string xs[j]) :=
  (cell_of_row _ _ j _ _ _ (heap_alloc_new w _)).trans (by simp [hj])
abbrev names : List ByteArray := [⟨#[97, 110, 100]⟩, ⟨#[111, 114]⟩, ⟨#[120, 111, 114]⟩, ⟨#[97, 110, 100]⟩, ⟨#[111, 114]⟩, ⟨#[120, 111, 114]⟩, ⟨#[97, 110, 100]⟩, ⟨#[]⟩, ⟨#[110, 111, 114]⟩]
theorem names_le (u : ByteArray) (h : u ∈ names) : u.size ≤ 3 := by
  simp only [names, List.mem_cons, List.not_mem_nil, or_false] at h
  rcases h with rfl | rfl | rfl | rfl | rfl | rfl | rfl | rfl | rfl <;> decide

set_option maxHeartbeats 1000000 in
theorem name_any {lo : Nat} (g p : Nat) (hp : p < 1000000) (w : World) (h : Rdr lo w g p) :
    Calls Tryd.prog 98 #[.pointer (some ⟨g, 0, none⟩)] w fun e w' => ∃ s : ByteArray, e = .returned (.string s) ∧ s.size ≤ 3 ∧ Rdr lo w' g (p + 1) ∧ Apt g w w' := by
  have hgl := h.lt
  have hb := (Below.refl w.heap.size w).alloc (Nat.le_refl _) (.cells (names.map fun x : ByteArray => Value.string x).toArray 9)
  have HN := Lib.hid (of_any g p (by omega) names (by decide) (by decide) w.heap.size 9 (by omega) _ (h.later hb) (by simp) (fun j hj => cells_str w 9 names j hj))
  have HB := Lib.hid hb
  clear h hb
  go_enter Tryd.func98, Tryd.ntmps98
  go_wp2_with fail
  refine HN.out.mono ?_
  rintro e w2 ⟨s, rfl, hs, hr, ha⟩
  have HR := Lib.hid hr
  have HA := Lib.hid ((Apt.of_below HB.out).trans ha)
  have HS := Lib.hid (names_le s hs)
  clear hr ha hs HN HB
  go_wp2_with fail
  go_ret
  exact ⟨s, rfl, HS.out, HR.out, HA.out⟩
end Go.Proofs.YtalechngagkklaaDoor.KeptR

/-
  The drawing function DrawPairMatrices.
-/
namespace Go.Proofs.YtalechngagkklaaDoor.DrawPX
open Go.RowKit Go.Proofs.YtalechngagkklaaDoor.Plain Go.Proofs.YtalechngagkklaaDoor.Base Go.Proofs.YtalechngagkklaaDoor.Rd Go.Proofs.YtalechngagkklaaDoor.Rd2 Go.Proofs.YtalechngagkklaaDoor.Rd3 Go.Proofs.YtalechngagkklaaDoor.Rd5 Go.Proofs.YtalechngagkklaaDoor.Rd6 Go.Proofs.YtalechngagkklaaDoor.Rd7 Go.Proofs.YtalechngagkklaaDoor.FreeD Go.Proofs.YtalechngagkklaaDoor.FreeQ Go.Proofs.YtalechngagkklaaDoor.FreeP Go.Proofs.YtalechngagkklaaDoor.KeptR
open Go.Proofs.YtalechngagkklaaDoor.Free (fill wp_value wp_enter wp_load_row)
set_option linter.unusedVariables false

abbrev M (a b : Int) (t : ByteArray) : Obj := .cells #[.int .i64 a, .int .i64 b, .string t] 24 (0, 0)
/-- the end: a name is drawn, and all is handed back -/
def Done (w : World) (e : Ending) (w' : World) : Prop := ∃ (op : ByteArray) (a b : Int) (t : ByteArray) (a2 b2 : Int) (t2 : ByteArray), e = .returned (.tuple #[.string op, mtx a b t, mtx a2 b2 t2]) ∧ op.size ≤ 3 ∧ t.size ≤ 100 ∧ t2.size ≤ 100 ∧ Below w.heap.size w w'

/-- what is known in the midst of the return, by whether the name, the matrix, its fault have been drawn, and the first and the second result stored -/
structure TT (g q : Nat) (w : World) (B : Nat) (a b : Int) (t : ByteArray) (b1 b5 b6 b8 b9 : Bool) (wx : World) : Prop where
  loc : wx.heap[B]? = some (M a b t)
  one : wx.heap[w.heap.size]? = some (if b8 then M a b t else M 0 0 ⟨#[]⟩)
  two : ∃ (a2 b2 : Int) (t2 : ByteArray), t2.size ≤ 100 ∧ (b9 = false → a2 = 0 ∧ b2 = 0 ∧ t2 = ⟨#[]⟩) ∧ wx.heap[w.heap.size + 1]? = some (M a2 b2 t2)
  below : Below w.heap.size w wx
  lo : w.heap.size + 2 ≤ g
  hB : g < B
  rd : b9 = false → ∃ p, Rdr w.heap.size wx g p ∧ p ≤ q + (bif b1 then 400 else 0) + (bif b5 then 400 else 0) + (bif b6 then 400 else 0)
theorem TT.move {g q : Nat} {w : World} {B : Nat} {a b : Int} {t : ByteArray} {b1 b5 b6 b8 c1 c5 c6 : Bool} {wx w2 : World} (h : TT g q w B a b t b1 b5 b6 b8 false wx) (ha : Apt g wx w2) {p : Nat} (hr : Rdr w.heap.size w2 g p)
    (hp : p ≤ q + (bif c1 then 400 else 0) + (bif c5 then 400 else 0) + (bif c6 then 400 else 0)) : TT g q w B a b t c1 c5 c6 b8 false w2 := by
  obtain ⟨a2, b2, t2, h1, h2, h3⟩ := h.two
  have h4 := h.lo
  have h5 := h.hB
  exact ⟨(ha.block _ (Array.getElem?_eq_some_iff.1 h.loc).1 (by omega)).trans h.loc, (ha.block _ (Array.getElem?_eq_some_iff.1 h.one).1 (by omega)).trans h.one,
    ⟨a2, b2, t2, h1, h2, (ha.block _ (Array.getElem?_eq_some_iff.1 h3).1 (by omega)).trans h3⟩, ha.below h.below (by omega), h.lo, h.hB, fun _ => ⟨p, hr, hp⟩⟩

set_option maxRecDepth 20000 in
theorem cap_le (b1 b5 b6 : Bool) {p q : Nat} (hp : p ≤ q + (bif b1 then 400 else 0) + (bif b5 then 400 else 0) + (bif b6 then 400 else 0)) (hq : q ≤ 1000) : p ≤ 5000 := by
  cases b1 <;> cases b5 <;> cases b6 <;> simp only [cond_true, cond_false] at hp <;> omega
set_option maxRecDepth 20000 in
theorem up1 {p p' q x y : Nat} (h : p ≤ q + (bif false then 400 else 0) + x + y) (h2 : p' ≤ p + 400) : p' ≤ q + (bif true then 400 else 0) + x + y := by
  simp only [cond_true, cond_false] at *
  omega
set_option maxRecDepth 20000 in
theorem up5 {p p' q x y : Nat} (h : p ≤ q + x + (bif false then 400 else 0) + y) (h2 : p' ≤ p + 400) : p' ≤ q + x + (bif true then 400 else 0) + y := by
  simp only [cond_true, cond_false] at *
  omega
set_option maxRecDepth 20000 in
theorem up6 {p p' q x y : Nat} (h : p ≤ q + x + y + (bif false then 400 else 0)) (h2 : p' ≤ p + 400) : p' ≤ q + x + y + (bif true then 400 else 0) := by
  simp only [cond_true, cond_false] at *
  omega

set_option maxHeartbeats 8000000 in
set_option maxRecDepth 100000 in
theorem draw_any (v : Value) (n : Nat) (w : World) (h : ByteArg w v n) :
    Calls Tryd.prog 47 #[v] w (Done w) := by
  have hst := two_start_below w (.cells #[.int .i64 0, .int .i64 0, .string ⟨#[]⟩] 24) (.cells #[.int .i64 0, .int .i64 0, .string ⟨#[]⟩] 24)
  have h1 := h.later hst
  have HO := Lib.hid (open_lo v n _ h1 (lo_of h))
  have HST := Lib.hid hst
  clear h h1 hst
  go_enter Tryd.func47, Tryd.ntmps47
  go_wp2_with fail
  refine HO.out.mono ?_
  rintro e w1 ⟨g, rfl, hr, hb, hg⟩
  have hs2 : w.heap.size + 2 ≤ g := by simp at hg; omega
  have r1 : w1.heap[w.heap.size]? = some (M 0 0 ⟨#[]⟩) := (hb.block _ (by simp; omega)).trans ((Below.heap_alloc _ _ _ (by simp)).trans (heap_alloc_new w _))
  have r2 : w1.heap[w.heap.size + 1]? = some (M 0 0 ⟨#[]⟩) := (hb.block _ (by simp)).trans (by have := heap_alloc_new (w.alloc (.cells #[.int .i64 0, .int .i64 0, .string ⟨#[]⟩] 24)) (.cells #[.int .i64 0, .int .i64 0, .string ⟨#[]⟩] 24); rwa [World.size_alloc] at this)
  have HK1 : Hid (Kr g w w1 [(w.heap.size + 1, M 0 0 ⟨#[]⟩), (w.heap.size, M 0 0 ⟨#[]⟩)]) := by
    refine ⟨fun p hp => ?_, HST.out.trans (hb.mono (by simp; omega)), by omega⟩
    simp only [List.mem_cons, List.not_mem_nil, or_false] at hp
    rcases hp with rfl | rfl
    · exact ⟨by simp only; omega, r2⟩
    · exact ⟨by simp only; omega, r1⟩
  have HP := Lib.hid (pick_r g 0 (by omega) 2 w1 hr)
  clear hr hb hg r1 r2 HO HST
  go_wp2_with fail
  refine HP.out.mono ?_
  rintro e w2 ⟨x, rfl, ⟨hx0, -⟩, hx1, hr, ha⟩
  have HK2 := Lib.hid (HK1.out.later ha)
  have HD := Lib.hid (draw_mat g 1 (by omega) (2 + x) (by omega) (by omega) w2 hr)
  clear hr ha HP HK1
  go_wp2_with fail
  refine HD.out.mono ?_
  rintro e w3 ⟨a, b, t, p, rfl, ha1, hb1, ht, hp1, hp2, hr, ha⟩
  have HK3 := Lib.hid (HK2.out.later ha)
  have HT := Lib.hid (bad_mat g p (by omega) a b t ha1.1 ha1.2 ⟨by omega, by omega⟩ ht.1 ht.2 w3 hr)
  clear hr ha HD HK2 ha1 hb1 ht
  go_wp2_with fail
  refine HT.out.mono ?_
  rintro e w4 ⟨a1, b1, t1, p4, rfl, -, -, ht1, hp3, hp4, hr, ha⟩
  obtain ⟨B6, hB6⟩ : ∃ x, w4.heap.size = x := ⟨_, rfl⟩
  have hg2 : g < B6 := by have := hr.lt; omega
  have HK4 : Hid (Kr g w (w4.alloc (.cells #[.int .i64 a1, .int .i64 b1, .string t1] 24)) [(B6, M a1 b1 t1), (w.heap.size + 1, M 0 0 ⟨#[]⟩), (w.heap.size, M 0 0 ⟨#[]⟩)]) := (HK3.out.later ha).put _ hB6 (by omega)
  have HR4 := Lib.hid (hr.later ((Below.refl w4.heap.size w4).alloc (Nat.le_refl _) (.cells #[.int .i64 a1, .int .i64 b1, .string t1] 24)))
  clear hr ha HT HK3
  go_wp2_with fail
  clear hB6
  generalize w4.alloc (.cells #[.int .i64 a1, .int .i64 b1, .string t1] 24) = w5 at *
  have HTT : Hid (TT g p4 w B6 a1 b1 t1 false false false false false w5.drew) :=
    ⟨HK4.out.drew.at 0 rfl, HK4.out.drew.at 2 rfl, ⟨0, 0, ⟨#[]⟩, by decide, fun _ => ⟨rfl, rfl, rfl⟩, HK4.out.drew.at 1 rfl⟩, HK4.out.drew.below, hs2, hg2, fun _ => ⟨p4, HR4.out.later (drawn_at w5 1), by simp⟩⟩
  have hp5 : p4 ≤ 1000 := by omega
  clear HK4 HR4
  refine wp_region_family (fun | 0 => fun v => v = .pointer (some ⟨g, 0, none⟩) | 1 => fun v => ∃ s : ByteArray, v = .string s ∧ s.size ≤ 3 | 2 => fun v => v = mtx a1 b1 t1 | 3 => fun v => v = .pointer (some ⟨g, 0, none⟩) | 4 => fun v => v = .pointer (some ⟨g, 0, none⟩) | 5 => fun v => ∃ (a b : Int) (t : ByteArray), v = mtx a b t ∧ (1 ≤ a ∧ a ≤ 8) ∧ (1 ≤ b ∧ b ≤ 8) ∧ (1 ≤ t.size ∧ t.size ≤ 64) | 6 => fun v => ∃ (a b : Int) (t : ByteArray), v = mtx a b t ∧ t.size ≤ 100 | 7 => fun v => ∃ s : ByteArray, v = .string s ∧ s.size ≤ 3 | _ => fun _ => True)
    (fun l wx => TT g p4 w B6 a1 b1 t1 (l 1) (l 5) (l 6) (l 8) (l 9) wx) (by kernel_rfl) (by kernel_rfl) rfl HTT.out ?con ?en
  case con =>
    intro i o ho a wx l hT hl hcl hf
    match i, ho with
    | 0, ho =>
      obtain rfl := Option.some.inj ho
      have b5 : a.tmps[5]?.getD undef = .pointer (some ⟨g, 0, none⟩) := hf.2 5 (by kernel_rfl)
      exact wp_value (.pointer (some ⟨g, 0, none⟩)) (by unfold execOp; go_simp) ⟨_, rfl, rfl, hT⟩
    | 1, ho =>
      obtain rfl := Option.some.inj ho
      have h9 : l 9 = false := by
        cases h : l 9 with
        | false => rfl
        | true => have := hcl 9 _ rfl h ⟨1, .phase⟩ (by simp) rfl; rw [hl] at this; cases this
      have hT2 : TT g p4 w B6 a1 b1 t1 (l 1) (l 5) (l 6) (l 8) false wx := by rw [h9] at hT; exact hT
      obtain ⟨p, hr, hp⟩ := hT2.rd rfl
      have hp6 : p ≤ 5000 := cap_le _ _ _ hp hp5
      have e0 : a.tmps[16]?.getD undef = .pointer (some ⟨g, 0, none⟩) := hf.1 ⟨0, .data⟩ (by simp) rfl _ 16 rfl rfl
      refine wp_enterP 98 #[.pointer (some ⟨g, 0, none⟩)] (fun v w' => (∃ s : ByteArray, v = .string s ∧ s.size ≤ 3) ∧ Rdr w.heap.size w' g (p + 1) ∧ Apt g wx w') (by unfold execOp; go_simp)
        ((name_any g p (by omega) wx hr).mono fun e w' h => by obtain ⟨s, he, hs, hr, ha⟩ := h; exact ⟨_, he, ⟨s, rfl, hs⟩, hr, ha⟩) (fun v w' h => ⟨v, rfl, h.1, ?_⟩)
      show TT g p4 w B6 a1 b1 t1 true (l 5) (l 6) (l 8) (l 9) w'
      rw [h9]
      rw [hl] at hp
      exact hT2.move h.2.2 h.2.1 (up1 hp (by omega))
    | 2, ho =>
      obtain rfl := Option.some.inj ho
      have b6 : a.tmps[6]?.getD undef = .pointer (some ⟨B6, 0, none⟩) := hf.2 6 (by kernel_rfl)
      exact wp_load_row 24 (.tmp 6) rfl B6 (eget b6) 24 _ (0, 0) _ hT.loc Tryd.underlying24 rfl minfo3 ⟨_, rfl, rfl, hT⟩
    | 3, ho =>
      obtain rfl := Option.some.inj ho
      have b5 : a.tmps[5]?.getD undef = .pointer (some ⟨g, 0, none⟩) := hf.2 5 (by kernel_rfl)
      exact wp_value (.pointer (some ⟨g, 0, none⟩)) (by unfold execOp; go_simp) ⟨_, rfl, rfl, hT⟩
    | 4, ho =>
      obtain rfl := Option.some.inj ho
      have b5 : a.tmps[5]?.getD undef = .pointer (some ⟨g, 0, none⟩) := hf.2 5 (by kernel_rfl)
      exact wp_value (.pointer (some ⟨g, 0, none⟩)) (by unfold execOp; go_simp) ⟨_, rfl, rfl, hT⟩
    | 5, ho =>
      obtain rfl := Option.some.inj ho
      have h9 : l 9 = false := by
        cases h : l 9 with
        | false => rfl
        | true => have := hcl 9 _ rfl h ⟨5, .phase⟩ (by simp) rfl; rw [hl] at this; cases this
      have hT2 : TT g p4 w B6 a1 b1 t1 (l 1) (l 5) (l 6) (l 8) false wx := by rw [h9] at hT; exact hT
      obtain ⟨p, hr, hp⟩ := hT2.rd rfl
      have hp6 : p ≤ 5000 := cap_le _ _ _ hp hp5
      have e4 : a.tmps[20]?.getD undef = .pointer (some ⟨g, 0, none⟩) := hf.1 ⟨4, .data⟩ (by simp) rfl _ 20 rfl rfl
      refine wp_enterP 84 #[.pointer (some ⟨g, 0, none⟩), .int .i64 2] (fun v w' => (∃ (a b : Int) (t : ByteArray), v = mtx a b t ∧ (1 ≤ a ∧ a ≤ 8) ∧ (1 ≤ b ∧ b ≤ 8) ∧ (1 ≤ t.size ∧ t.size ≤ 64)) ∧ (∃ p', p' ≤ p + 100 ∧ Rdr w.heap.size w' g p') ∧ Apt g wx w') (by unfold execOp; go_simp)
        ((draw_mat g p (by omega) 2 (by omega) (by omega) wx hr).mono fun e w' h => by obtain ⟨a, b, t, p', he, h1, h2, h3, h4, h5, hr, ha⟩ := h; exact ⟨_, he, ⟨a, b, t, rfl, h1, h2, h3⟩, ⟨p', h5, hr⟩, ha⟩) (fun v w' h => ⟨v, rfl, h.1, ?_⟩)
      show TT g p4 w B6 a1 b1 t1 (l 1) true (l 6) (l 8) (l 9) w'
      rw [h9]
      rw [hl] at hp
      obtain ⟨p', hp7, hr7⟩ := h.2.1
      exact hT2.move h.2.2 hr7 (up5 hp (by omega))
    | 6, ho =>
      obtain rfl := Option.some.inj ho
      have h9 : l 9 = false := by
        cases h : l 9 with
        | false => rfl
        | true => have := hcl 9 _ rfl h ⟨6, .phase⟩ (by simp) rfl; rw [hl] at this; cases this
      have hT2 : TT g p4 w B6 a1 b1 t1 (l 1) (l 5) (l 6) (l 8) false wx := by rw [h9] at hT; exact hT
      obtain ⟨p, hr, hp⟩ := hT2.rd rfl
      have hp6 : p ≤ 5000 := cap_le _ _ _ hp hp5
      have e3 : a.tmps[19]?.getD undef = .pointer (some ⟨g, 0, none⟩) := hf.1 ⟨3, .data⟩ (by simp) rfl _ 19 rfl rfl
      obtain ⟨da, db, dt, e5, d1, d2, d3⟩ : ∃ (a' b' : Int) (t' : ByteArray), a.tmps[21]?.getD undef = mtx a' b' t' ∧ (1 ≤ a' ∧ a' ≤ 8) ∧ (1 ≤ b' ∧ b' ≤ 8) ∧ (1 ≤ t'.size ∧ t'.size ≤ 64) := hf.1 ⟨5, .data⟩ (by simp) rfl _ 21 rfl rfl
      refine wp_enterP 103 #[.pointer (some ⟨g, 0, none⟩), mtx da db dt] (fun v w' => (∃ (a b : Int) (t : ByteArray), v = mtx a b t ∧ t.size ≤ 100) ∧ (∃ p', p' ≤ p + 2 ∧ Rdr w.heap.size w' g p') ∧ Apt g wx w') (by unfold execOp; go_simp)
        ((bad_mat g p (by omega) da db dt d1.1 d1.2 ⟨by omega, by omega⟩ d3.1 d3.2 wx hr).mono fun e w' h => by obtain ⟨a, b, t, p', he, _, _, h3, h4, h5, hr, ha⟩ := h; exact ⟨_, he, ⟨a, b, t, rfl, h3⟩, ⟨p', h5, hr⟩, ha⟩) (fun v w' h => ⟨v, rfl, h.1, ?_⟩)
      show TT g p4 w B6 a1 b1 t1 (l 1) (l 5) true (l 8) (l 9) w'
      rw [h9]
      rw [hl] at hp
      obtain ⟨p', hp7, hr7⟩ := h.2.1
      exact hT2.move h.2.2 hr7 (up6 hp (by omega))
    | 7, ho =>
      obtain rfl := Option.some.inj ho
      obtain ⟨s, e1, hs⟩ : ∃ s : ByteArray, a.tmps[17]?.getD undef = .string s ∧ s.size ≤ 3 := hf.1 ⟨1, .data⟩ (by simp) rfl _ 17 rfl rfl
      exact wp_value (.string s) (by unfold execOp; go_simp) ⟨_, rfl, ⟨s, rfl, hs⟩, hT⟩
    | 8, ho =>
      obtain rfl := Option.some.inj ho
      have b3 : a.tmps[3]?.getD undef = .pointer (some ⟨w.heap.size, 0, none⟩) := hf.2 3 (by kernel_rfl)
      have e2 : a.tmps[18]?.getD undef = mtx a1 b1 t1 := hf.1 ⟨2, .data⟩ (by simp) rfl _ 18 rfl rfl
      have hrow : wx.heap[w.heap.size]? = some (M 0 0 ⟨#[]⟩) := by have := hT.one; rw [hl] at this; exact this
      refine wp_store_row 24 (.tmp 3) (.tmp 18) rfl w.heap.size #[.int .i64 a1, .int .i64 b1, .string t1] (eget b3) (eget e2) 24 _ hrow minfo3 rfl (by simp [Value.oneCell']) ⟨undef, rfl, trivial, ?_⟩
      show TT g p4 w B6 a1 b1 t1 (l 1) (l 5) (l 6) true (l 9) _
      obtain ⟨a2, b2, t2, u1, u2, u3⟩ := hT.two
      have h4 := hT.lo
      have h5 := hT.hB
      exact ⟨(Go.Proofs.YtalechngagkklaaDoor.Free.setRow_other (by omega) _).trans hT.loc, Go.Proofs.YtalechngagkklaaDoor.Free.setRow_kept hrow _, ⟨a2, b2, t2, u1, u2, (Go.Proofs.YtalechngagkklaaDoor.Free.setRow_other (by omega) _).trans u3⟩, Go.Proofs.YtalechngagkklaaDoor.Free.setRow_below hT.below (Nat.le_refl _) _, hT.lo, hT.hB, fun h => (by obtain ⟨p, hr, hp⟩ := hT.rd h; exact ⟨p, rdr_putRow hr _ _ (by omega) (.inr (Nat.le_refl _)), hp⟩)⟩
    | 9, ho =>
      obtain rfl := Option.some.inj ho
      have b4 : a.tmps[4]?.getD undef = .pointer (some ⟨w.heap.size + 1, 0, none⟩) := hf.2 4 (by kernel_rfl)
      obtain ⟨da, db, dt, e6, d1⟩ : ∃ (a' b' : Int) (t' : ByteArray), a.tmps[22]?.getD undef = mtx a' b' t' ∧ t'.size ≤ 100 := hf.1 ⟨6, .data⟩ (by simp) rfl _ 22 rfl rfl
      obtain ⟨a2, b2, t2, u1, u2, u3⟩ := hT.two
      refine wp_store_row 24 (.tmp 4) (.tmp 22) rfl (w.heap.size + 1) #[.int .i64 da, .int .i64 db, .string dt] (eget b4) (eget e6) 24 _ u3 minfo3 rfl (by simp [Value.oneCell']) ⟨undef, rfl, trivial, ?_⟩
      show TT g p4 w B6 a1 b1 t1 (l 1) (l 5) (l 6) (l 8) true _
      have h4 := hT.lo
      have h5 := hT.hB
      exact ⟨(Go.Proofs.YtalechngagkklaaDoor.Free.setRow_other (by omega) _).trans hT.loc, (Go.Proofs.YtalechngagkklaaDoor.Free.setRow_other (by omega) _).trans hT.one, ⟨da, db, dt, d1, fun h => (by cases h), Go.Proofs.YtalechngagkklaaDoor.Free.setRow_kept u3 _⟩, Go.Proofs.YtalechngagkklaaDoor.Free.setRow_below hT.below (by omega) _, hT.lo, hT.hB, fun h => (by cases h)⟩
    | q + 10, ho => simp at ho
  case en =>
    intro vs wx hT hall
    obtain ⟨s, hs, hs3⟩ : ∃ s : ByteArray, vs 7 = .string s ∧ s.size ≤ 3 := hall 7 _ rfl
    have hT2 : TT g p4 w B6 a1 b1 t1 true true true true true wx := hT
    obtain ⟨a2, b2, t2, u1, u2, u3⟩ := hT2.two
    obtain ⟨o0, o1, o2, -, -, -⟩ := cells3 hT2.one
    obtain ⟨q0, q1, q2, -, -, -⟩ := cells3 u3
    have HB := Lib.hid hT2.below
    clear hT hT2 hall u2 u3 HTT
    simp only [fill, Act.put, hs]
    go_simp
    go_wp2_with fail
    exact bodyPost_ret (v := .tuple #[.string s, mtx a1 b1 t1, mtx a2 b2 t2]) (by simp [results, Tryd.results47, go_sem, o0, o1, o2, q0, q1, q2]) rfl ⟨s, a1, b1, t1, a2, b2, t2, rfl, hs3, ht1, u1, HB.out⟩
end Go.Proofs.YtalechngagkklaaDoor.DrawPX

