/-
  Texts of one seat, joined: FreeD, Valid.
-/
import Derived.Test.YtgmhddceeomjbaaGreatDoorJ5
import Derived.Test.YtgmhddceeomjbaaGreatDoorJ2
import Derived.Test.YtgmhddceeomjbaaGreatDoorJ4
import Derived.Lib.Strings
/-
  The law at a region with one draw: one operation reads a number of the reader, the others only make memory, and a store comes last; what they
  yield is told by a relation.
-/
namespace Go.Proofs.YtgmhddceeomjbaaGreatDoor.FreeD
open Go Go.RowKit Go.Proofs.YtgmhddceeomjbaaGreatDoor.Free Go.Proofs.YtgmhddceeomjbaaGreatDoor.FreeL Go.Proofs.YtgmhddceeomjbaaGreatDoor.Rd Go.Proofs.YtgmhddceeomjbaaGreatDoor.Rd2
set_option linter.unusedVariables false

section
variable {ops : Array Oper}

/-- what an operation may know of the slots -/
def FactsV (ops : Array Oper) (a0 : Act) (R : Nat → Value → Prop) (o : Oper) (a : Act) : Prop :=
  (∀ e ∈ o.after, Region.binds .any e = true → ∀ (oj : Oper) (dj : Tmp), ops[e.on]? = some oj → oj.dst = some dj → R e.on (a.tmps[dj]?.getD undef)) ∧
  (∀ k, (ops.toList.all fun o => o.dst != some k) = true → a.tmps[k]?.getD undef = a0.tmps[k]?.getD undef)

/-- THE LAW -/
theorem wp_region_dr {lo : Nat} {id n : Nat} {a0 : Act} {w0 : World} {Q : Exit → Act → World → Prop} (g p : Nat) (R : Nat → Value → Prop) (dr last : Nat) (F : World → World → Prop) (os : Oper)
    (hm : Tryz.prog.follows .mixedOrders = true) (hB : freeB ops n = true) (hn : a0.tmps.size = n) (hs : ops[last]? = some os) (hsd : os.dst = none) (hsz : ops.size = last + 1) (hdl : dr < last)
    (hw : Region.sinkB .any ops last = true) (h0 : Rdr lo w0 g p)
    (hcon : ∀ (i : Nat) (o : Oper), ops[i]? = some o → i < last → i ≠ dr → ∀ (a : Act) (w : World), Apt g w0 w → FactsV ops a0 R o a →
      o.wp Tryz.prog a w (fun a' w' => ∃ v, a' = a.put o.dst v ∧ R i v ∧ Below w.heap.size w w') Q)
    (hdr : ∀ (o : Oper), ops[dr]? = some o → ∀ (a : Act) (w : World), Apt g w0 w → Rdr lo w g p → FactsV ops a0 R o a →
      o.wp Tryz.prog a w (fun a' w' => ∃ v, a' = a.put o.dst v ∧ R dr v ∧ Apt g w w' ∧ Rdr lo w' g (p + 1)) Q)
    (hst : ∀ (a : Act) (w : World), Apt g w0 w → Rdr lo w g (p + 1) → FactsV ops a0 R os a → os.wp Tryz.prog a w (fun a' w' => a' = a ∧ F w w') Q)
    (hend : ∀ (vs : Nat → Value) (w1 w : World), Apt g w0 w1 → Rdr lo w1 g (p + 1) → F w1 w → (∀ (i : Nat) (o : Oper), ops[i]? = some o → i ≠ last → R i (vs i)) → Q .normal (fill ops.toList vs 0 a0) w) :
    (Code.region id ops true).wp Tryz.prog Q a0 w0 := by
  let Y : Nat → Value → Act → World → Prop := fun i v a w => i ≠ last → R i v
  let S : (Nat → Bool) → World → Prop := fun l w => (l last = false → Apt g w0 w ∧ (l dr = false → Rdr lo w g p) ∧ (l dr = true → Rdr lo w g (p + 1))) ∧
    (l last = true → ∃ w1, Apt g w0 w1 ∧ Rdr lo w1 g (p + 1) ∧ F w1 w)
  have facts : ∀ (listed : Array Bool) (o : Oper) (i : Nat) (a : Act) (w : World), ops[i]? = some o → MidL ops a0 Y S listed a w →
      (∀ e ∈ o.after, Region.binds .any e = true → listed.getD e.on false = true) → (∀ e ∈ o.after, Region.binds .any e = true → e.on ≠ last) → FactsV ops a0 R o a := by
    intro listed o i a w ho hM hdl hlt
    refine ⟨fun e he hb oj dj hoj hdj => ?_, fun k hk => ?_⟩
    · obtain ⟨v, hv, hvd⟩ := hM.new e.on oj hoj (hdl e he hb)
      rw [hvd dj hdj]
      exact hv (hlt e he hb)
    · rw [hM.old k fun i o' ho' hd' => ?_]
      have := List.all_eq_true.1 hk o' (by simpa using Array.mem_of_getElem? ho')
      simp [hd'] at this
  have hB2 := hB
  simp only [freeB, Bool.and_eq_true, decide_eq_true_eq] at hB2
  obtain ⟨⟨_, _⟩, h3⟩ := hB2
  have hac : ∀ (i : Nat) (o : Oper), ops[i]? = some o → ∀ e ∈ o.after, Region.binds .any e = true → e.on < i := fun i o ho e he hb => by
    have hi : i < ops.size := (Array.getElem?_eq_some_iff.1 ho).1
    have := List.all_eq_true.1 h3 i (List.mem_range.2 hi)
    rw [ho] at this
    have h5 : (o.after.all fun e => !Region.binds .any e || decide (e.on < i)) = true := this
    have := Array.all_eq_true_iff_forall_mem.1 h5 e he
    simpa [hb] using this
  refine wp_region_freeL (Y := Y) (S := S) hm hB hn ⟨fun _ => ⟨(Apt.refl g w0).drew, fun _ => h0.later (drawn_at w0 1), fun h => (by cases h)⟩, fun h => (by cases h)⟩ ?_ ?_
  · intro i o ho listed a w hM hu hdp
    have hi : i < ops.size := (Array.getElem?_eq_some_iff.1 ho).1
    by_cases hil : i = last
    · subst hil
      obtain rfl : o = os := Option.some.inj (ho.symm.trans hs)
      have hdrl : listed.getD dr false = true := by
        have hd2 : ∃ j, ∃ oj, ops[j]? = some oj ∧ (∃ e ∈ o.after, Region.binds .any e = true ∧ e.on = j) ∧ True := by
          have h4 := List.all_eq_true.1 hw dr (List.mem_range.2 hdl)
          obtain ⟨j, hj, h5⟩ := List.any_eq_true.1 h4
          have hex : ∃ e ∈ o.after, Region.binds .any e = true := by
            have h6 := List.all_eq_true.1 hw (i - 1) (List.mem_range.2 (by omega))
            obtain ⟨j2, hj2, h7⟩ := List.any_eq_true.1 h6
            simp only [Bool.and_eq_true, decide_eq_true_eq] at h7
            have hj2l : j2 < i + 1 := List.mem_range.1 hj2
            obtain ⟨oj, hoj, e2, he2, hb2, hon⟩ := Region.waitsFor_spec h7.2
            have : j2 = i := by
              have := hac j2 oj hoj e2 he2 hb2
              omega
            subst this
            obtain rfl : o = oj := Option.some.inj (ho.symm.trans hoj)
            exact ⟨e2, he2, hb2⟩
          obtain ⟨e, he, hb⟩ := hex
          have hei := hac i o ho e he hb
          exact ⟨e.on, (ops[e.on]'(by omega)), Array.getElem?_eq_getElem (by omega), ⟨e, he, hb, rfl⟩, trivial⟩
        -- all that the store waits for has come; so has what these wait for
        have hcl : ∀ (d k : Nat), i - k ≤ d → k < i → listed.getD k false = true := by
          intro d
          induction d with
          | zero => intro k h1 h2; omega
          | succ d ih =>
            intro k h1 h2
            have h4 := List.all_eq_true.1 hw k (List.mem_range.2 h2)
            obtain ⟨j, hj, h5⟩ := List.any_eq_true.1 h4
            simp only [Bool.and_eq_true, decide_eq_true_eq] at h5
            have hjl : j < i + 1 := List.mem_range.1 hj
            obtain ⟨oj, hoj, e2, he2, hb2, hon⟩ := Region.waitsFor_spec h5.2
            by_cases hji : j = i
            · subst hji
              obtain rfl : o = oj := Option.some.inj (ho.symm.trans hoj)
              have := hdp e2 he2 hb2
              rwa [hon] at this
            · have := hM.closed j oj hoj (ih j (by omega) (by omega)) e2 he2 hb2
              rwa [hon] at this
        exact hcl (i - dr) dr (Nat.le_refl _) hdl
      obtain ⟨hw1, _, hw3⟩ := hM.world.1 hu
      refine Oper.wp_mono ?_ (hst a w hw1 (hw3 hdrl) (facts listed o i a _ ho hM hdp (fun e he hb => Nat.ne_of_lt (hac i o ho e he hb))))
      rintro a' w' ⟨rfl, hf⟩
      exact ⟨undef, by rw [hsd]; rfl, fun h => absurd rfl h, ⟨fun h => (by simp at h), fun _ => ⟨w, hw1, hw3 hdrl, hf⟩⟩, fun j u hj _ hY hjl => hY hjl⟩
    · have hlt : i < last := by omega
      have hnl : listed.getD last false = false := by
        cases hl : listed.getD last false with
        | false => rfl
        | true =>
          exfalso
          have := sink_listed hw hM.closed hl (last - i) i (Nat.le_refl _) (by omega)
          rw [hu] at this
          cases this
      obtain ⟨hw1, hw2, hw3⟩ := hM.world.1 hnl
      have hfc := facts listed o i a w ho hM hdp (fun e he hb => Nat.ne_of_lt (Nat.lt_trans (hac i o ho e he hb) hlt))
      by_cases hid : i = dr
      · subst hid
        refine Oper.wp_mono ?_ (hdr o ho a w hw1 (hw2 hu) hfc)
        rintro a' w' ⟨v, rfl, hv, hb, hr⟩
        refine ⟨v, rfl, fun _ => hv, ⟨fun _ => ⟨hw1.trans hb, fun h => (by simp at h), fun _ => hr⟩, fun h => ?_⟩, fun j u hj _ hY hjl => hY hjl⟩
        dsimp only at h
        rw [if_neg (Ne.symm hil), hnl] at h
        cases h
      · refine Oper.wp_mono ?_ (hcon i o ho hlt hid a w hw1 hfc)
        rintro a' w' ⟨v, rfl, hv, hb⟩
        refine ⟨v, rfl, fun _ => hv, ⟨fun _ => ⟨hw1.trans (Apt.of_below hb), fun h => ?_, fun h => ?_⟩, fun h => ?_⟩, fun j u hj _ hY hjl => hY hjl⟩
        · dsimp only at h
          rw [if_neg (Ne.symm hid)] at h
          exact (hw2 h).later hb
        · dsimp only at h
          rw [if_neg (Ne.symm hid)] at h
          exact (hw3 h).later hb
        · dsimp only at h
          rw [if_neg (Ne.symm hil), hnl] at h
          cases h
  · intro vs w hw1 hall
    obtain ⟨w1, hb1, hr1, hf⟩ := hw1.2 (decide_eq_true (by omega))
    exact hend vs w1 w hb1 hr1 hf fun i o ho hil => hall i o ho hil

/-- THE LAW WITHOUT A DRAW: all but the last only make memory -/
theorem wp_region_val {id n : Nat} {a0 : Act} {w0 : World} {Q : Exit → Act → World → Prop} (R : Nat → Value → Prop) (last : Nat) (F : World → World → Prop) (os : Oper)
    (hm : Tryz.prog.follows .mixedOrders = true) (hB : freeB ops n = true) (hn : a0.tmps.size = n) (hs : ops[last]? = some os) (hsd : os.dst = none) (hsz : ops.size = last + 1)
    (hw : Region.sinkB .any ops last = true)
    (hcon : ∀ (i : Nat) (o : Oper), ops[i]? = some o → i < last → ∀ (a : Act) (w : World), Below w0.heap.size w0 w → FactsV ops a0 R o a →
      o.wp Tryz.prog a w (fun a' w' => ∃ v, a' = a.put o.dst v ∧ R i v ∧ Below w.heap.size w w') Q)
    (hst : ∀ (a : Act) (w : World), Below w0.heap.size w0 w → FactsV ops a0 R os a → os.wp Tryz.prog a w (fun a' w' => a' = a ∧ F w w') Q)
    (hend : ∀ (vs : Nat → Value) (w1 w : World), Below w0.heap.size w0 w1 → F w1 w → (∀ (i : Nat) (o : Oper), ops[i]? = some o → i ≠ last → R i (vs i)) → Q .normal (fill ops.toList vs 0 a0) w) :
    (Code.region id ops true).wp Tryz.prog Q a0 w0 := by
  let Y : Nat → Value → Act → World → Prop := fun i v a w => i ≠ last → R i v
  let S : (Nat → Bool) → World → Prop := fun l w => (l last = false → Below w0.heap.size w0 w) ∧ (l last = true → ∃ w1, Below w0.heap.size w0 w1 ∧ F w1 w)
  have facts : ∀ (listed : Array Bool) (o : Oper) (i : Nat) (a : Act) (w : World), ops[i]? = some o → MidL ops a0 Y S listed a w →
      (∀ e ∈ o.after, Region.binds .any e = true → listed.getD e.on false = true) → (∀ e ∈ o.after, Region.binds .any e = true → e.on ≠ last) → FactsV ops a0 R o a := by
    intro listed o i a w ho hM hdl hlt
    refine ⟨fun e he hb oj dj hoj hdj => ?_, fun k hk => ?_⟩
    · obtain ⟨v, hv, hvd⟩ := hM.new e.on oj hoj (hdl e he hb)
      rw [hvd dj hdj]
      exact hv (hlt e he hb)
    · rw [hM.old k fun i o' ho' hd' => ?_]
      have := List.all_eq_true.1 hk o' (by simpa using Array.mem_of_getElem? ho')
      simp [hd'] at this
  have hB2 := hB
  simp only [freeB, Bool.and_eq_true, decide_eq_true_eq] at hB2
  obtain ⟨⟨_, _⟩, h3⟩ := hB2
  have hac : ∀ (i : Nat) (o : Oper), ops[i]? = some o → ∀ e ∈ o.after, Region.binds .any e = true → e.on < i := fun i o ho e he hb => by
    have hi : i < ops.size := (Array.getElem?_eq_some_iff.1 ho).1
    have := List.all_eq_true.1 h3 i (List.mem_range.2 hi)
    rw [ho] at this
    have h5 : (o.after.all fun e => !Region.binds .any e || decide (e.on < i)) = true := this
    have := Array.all_eq_true_iff_forall_mem.1 h5 e he
    simpa [hb] using this
  refine wp_region_freeL (Y := Y) (S := S) hm hB hn ⟨fun _ => (Below.refl w0.heap.size w0).drew, fun h => (by cases h)⟩ ?_ ?_
  · intro i o ho listed a w hM hu hdp
    have hi : i < ops.size := (Array.getElem?_eq_some_iff.1 ho).1
    by_cases hil : i = last
    · subst hil
      obtain rfl : o = os := Option.some.inj (ho.symm.trans hs)
      have hw1 := hM.world.1 hu
      refine Oper.wp_mono ?_ (hst a w hw1 (facts listed o i a _ ho hM hdp (fun e he hb => Nat.ne_of_lt (hac i o ho e he hb))))
      rintro a' w' ⟨rfl, hf⟩
      exact ⟨undef, by rw [hsd]; rfl, fun h => absurd rfl h, ⟨fun h => (by simp at h), fun _ => ⟨w, hw1, hf⟩⟩, fun j u hj _ hY hjl => hY hjl⟩
    · have hlt : i < last := by omega
      have hnl : listed.getD last false = false := by
        cases hl : listed.getD last false with
        | false => rfl
        | true =>
          exfalso
          have := sink_listed hw hM.closed hl (last - i) i (Nat.le_refl _) (by omega)
          rw [hu] at this
          cases this
      have hw1 := hM.world.1 hnl
      refine Oper.wp_mono ?_ (hcon i o ho hlt a w hw1 (facts listed o i a w ho hM hdp (fun e he hb => Nat.ne_of_lt (Nat.lt_trans (hac i o ho e he hb) hlt))))
      rintro a' w' ⟨v, rfl, hv, hb⟩
      refine ⟨v, rfl, fun _ => hv, ⟨fun _ => hw1.trans (hb.mono hw1.size), fun h => ?_⟩, fun j u hj _ hY hjl => hY hjl⟩
      dsimp only at h
      rw [if_neg (Ne.symm hil), hnl] at h
      cases h
  · intro vs w hw1 hall
    obtain ⟨w1, hb1, hf⟩ := hw1.2 (decide_eq_true (by omega))
    exact hend vs w1 w hb1 hf fun i o ho hil => hall i o ho hil
end
end Go.Proofs.YtgmhddceeomjbaaGreatDoor.FreeD

/-
  When a matrix is valid: the contracts of spec.l1Bits, spec.MatrixValid, impl.MatrixValid.
-/
namespace Go.Proofs.YtgmhddceeomjbaaGreatDoor.Valid
open Go.RowKit Go.Proofs.YtgmhddceeomjbaaGreatDoor.Plain Go.Proofs.YtgmhddceeomjbaaGreatDoor.Base
set_option linter.unusedVariables false

/-- a byte that is a digit of a matrix -/
def isBit (b : UInt8) : Bool := b == 48 || b == 49
/-- all bytes are digits -/
def okB (s : ByteArray) : Bool := s.data.toList.all isBit

theorem okB_true {s : ByteArray} (h : ∀ j (hj : j < s.size), isBit s[j] = true) : okB s = true := by
  unfold okB
  rw [List.all_eq_true]
  intro b hb
  obtain ⟨j, hj, rfl⟩ := List.getElem_of_mem hb
  exact h j (by simpa using hj)
theorem okB_false {s : ByteArray} (k : Nat) (hk : k < s.size) (h : isBit s[k] = false) : okB s = false := by
  unfold okB
  rw [List.all_eq_false]
  exact ⟨s[k], by simp [ByteArray.getElem_eq_getElem_data], by simp [h]⟩
theorem bit_of {b : UInt8} (h : b.toNat = 48 ∨ b.toNat = 49) : isBit b = true := by
  unfold isBit
  rcases h with h | h
  · rw [show b = 48 from UInt8.toNat_inj.1 h]; rfl
  · rw [show b = 49 from UInt8.toNat_inj.1 h]; rfl
theorem bit_not {b : UInt8} (h1 : b.toNat ≠ 48) (h2 : b.toNat ≠ 49) : isBit b = false := by
  unfold isBit
  rw [Bool.or_eq_false_iff]
  exact ⟨beq_eq_false_iff_ne.2 fun e => h1 (by rw [e]; rfl), beq_eq_false_iff_ne.2 fun e => h2 (by rw [e]; rfl)⟩

set_option maxHeartbeats 1000000 in
theorem bits_any (s : ByteArray) (hs : s.size ≤ maxLen) (n : Int) (w : World) :
    Calls Tryz.prog 99 #[.string s, .int .i64 n] w fun e w' => e = .returned (.bool (okB s && ((s.size : Int) == n))) ∧ w = w' := by
  unfold maxLen at hs
  go_enter Tryz.func99, Tryz.ntmps99
  go_wp2_with fail
  go_loop [5] (fun i => ∃ k : Nat, k ≤ s.size ∧ i = .int .i64 (k : Int) ∧ Hid (∀ j (hj : j < s.size), j < k → isBit s[j] = true)) (fun i => s.size - (intOf i).toNat)
  case atStart => exact ⟨0, Nat.zero_le _, rfl, fun j _ h => absurd h (by omega)⟩
  case round =>
    obtain ⟨k, hk, rfl, hall⟩ := hrel
    by_cases hlt : k < s.size
    · by_cases h48 : s[k].toNat = 48
      · have hb1 : ((s[k].toNat : Int) != 48) = false := by rw [h48]; rfl
        have H := Lib.hid h48
        clear h48
        go_wp2_with fail
        go_round
        case rel => exact ⟨k + 1, by omega, by go_num, fun j hj hjk => by
          by_cases e : j = k
          · subst e; exact bit_of (.inl H.out)
          · exact hall.out j hj (by omega)⟩
        case measure => simp [intOf]; omega
      · have hb1 : ((s[k].toNat : Int) != 48) = true := by rw [bne_iff_ne]; omega
        by_cases h49 : s[k].toNat = 49
        · have hb2 : ((s[k].toNat : Int) != 49) = false := by rw [h49]; rfl
          have H := Lib.hid h49
          clear h48 h49
          go_wp2_with fail
          go_round
          case rel => exact ⟨k + 1, by omega, by go_num, fun j hj hjk => by
            by_cases e : j = k
            · subst e; exact bit_of (.inr H.out)
            · exact hall.out j hj (by omega)⟩
          case measure => simp [intOf]; omega
        · have hb2 : ((s[k].toNat : Int) != 49) = true := by rw [bne_iff_ne]; omega
          have HF := Lib.hid (okB_false k hlt (bit_not h48 h49))
          clear h48 h49
          go_wp2_with fail
          go_ret
          exact ⟨by rw [HF.out]; rfl, rfl⟩
    · obtain rfl : k = s.size := by omega
      have HT := Lib.hid (okB_true fun j hj => hall.out j hj hj)
      go_wp2_with fail
      go_ret
      exact ⟨by rw [HT.out]; rfl, rfl⟩

/-- when the reference calls a matrix valid -/
def validB (r c : Int) (s : ByteArray) : Bool := decide (1 ≤ r ∧ r ≤ 8 ∧ 1 ≤ c ∧ c ≤ 8) && (okB s && ((s.size : Int) == r * c))
theorem validB_r {r c : Int} {s : ByteArray} (h : r < 1 ∨ 8 < r) : validB r c s = false := by
  unfold validB; rw [show decide (1 ≤ r ∧ r ≤ 8 ∧ 1 ≤ c ∧ c ≤ 8) = false from decide_eq_false (by omega)]; rfl
theorem validB_c {r c : Int} {s : ByteArray} (h : c < 1 ∨ 8 < c) : validB r c s = false := by
  unfold validB; rw [show decide (1 ≤ r ∧ r ≤ 8 ∧ 1 ≤ c ∧ c ≤ 8) = false from decide_eq_false (by omega)]; rfl
theorem validB_in {r c : Int} {s : ByteArray} (h1 : 1 ≤ r) (h2 : r ≤ 8) (h3 : 1 ≤ c) (h4 : c ≤ 8) : validB r c s = (okB s && ((s.size : Int) == r * c)) := by
  unfold validB; rw [decide_eq_true ⟨h1, h2, h3, h4⟩]; rfl
theorem wrap_prodI (r c : Int) (h1 : 1 ≤ r) (h2 : r ≤ 8) (h3 : 1 ≤ c) (h4 : c ≤ 8) : wrap64 (r * c) = r * c ∧ 1 ≤ r * c ∧ r * c ≤ 64 := by
  obtain ⟨a, rfl⟩ := Int.eq_ofNat_of_zero_le (show 0 ≤ r by omega)
  obtain ⟨b, rfl⟩ := Int.eq_ofNat_of_zero_le (show 0 ≤ c by omega)
  have h := wrap_prod a b (by omega) (by omega)
  have h5 := prod_le (r := a) (c := b) (by omega) (by omega)
  have h6 : 1 ≤ a * b := Nat.mul_le_mul (show 1 ≤ a by omega) (show 1 ≤ b by omega)
  rw [h, Int.natCast_mul]
  rw [← Int.natCast_mul]
  omega

set_option maxHeartbeats 1000000 in
theorem spec_valid (r c : Int) (s : ByteArray) (hs : s.size ≤ maxLen) (w : World) :
    Calls Tryz.prog 62 #[mat r c s] w fun e w' => e = .returned (.bool (validB r c s)) ∧ Below w.heap.size w w' := by
  by_cases hr : r < 1 ∨ 8 < r
  · have HR := Lib.hid hr
    clear hr
    go_enter Tryz.func62, Tryz.ntmps62
    go_wp2_with fail
    refine (l1In_false _ _ _ HR.out _).mono ?_
    rintro e w' ⟨rfl, rfl⟩
    go_wp2_with fail
    go_ret
    exact ⟨by rw [validB_r HR.out]; rfl, by go_grown⟩
  · have h1 : 1 ≤ r := by omega
    have h2 : r ≤ 8 := by omega
    clear hr
    by_cases hc : c < 1 ∨ 8 < c
    · have HC := Lib.hid hc
      clear hc
      go_enter Tryz.func62, Tryz.ntmps62
      go_wp2_with fail
      refine (l1In_true _ _ _ h1 h2 _).mono ?_
      rintro e w' ⟨rfl, rfl⟩
      go_wp2_with fail
      refine (l1In_false _ _ _ HC.out _).mono ?_
      rintro e w' ⟨rfl, rfl⟩
      go_wp2_with fail
      go_ret
      exact ⟨by rw [validB_c HC.out]; rfl, by go_grown⟩
    · have h3 : 1 ≤ c := by omega
      have h4 : c ≤ 8 := by omega
      clear hc
      have HW := Lib.hid (wrap_prodI r c h1 h2 h3 h4)
      go_enter Tryz.func62, Tryz.ntmps62
      go_wp2_with fail
      refine (l1In_true _ _ _ h1 h2 _).mono ?_
      rintro e w' ⟨rfl, rfl⟩
      go_wp2_with fail
      refine (l1In_true _ _ _ h3 h4 _).mono ?_
      rintro e w' ⟨rfl, rfl⟩
      go_wp2_with fail
      refine (bits_any s hs _ _).mono ?_
      rintro e w' ⟨rfl, rfl⟩
      go_wp2_with fail
      go_ret
      exact ⟨by rw [validB_in h1 h2 h3 h4]; rw [HW.out.1]; rfl, by go_grown⟩
end Go.Proofs.YtgmhddceeomjbaaGreatDoor.Valid

