/-
  Texts of one seat, joined: GmS, FreeZ.
-/
import Derived.Test.YtbccachkkflceaaGreatDoorJn1
import Derived.Test.YtbccachkkflceaaGreatDoorJn18
import Derived.Test.YtbccachkkflceaaGreatDoorJn21
import Derived.Test.YtbccachkkflceaaGreatDoorJn11
import Derived.Test.YtbccachkkflceaaGreatDoorJn9
import Derived.Test.YtbccachkkflceaaGreatDoorJn14
import Derived.Test.YtbccachkkflceaaGreatDoorFreeL
/-
  The reference's protocol of a formula.
-/
namespace Go.Proofs.YtbccachkkflceaaGreatDoor.GmS
open Go.RowKit Go.Shelf Go.Proofs.YtbccachkkflceaaGreatDoor.Plain Go.Proofs.YtbccachkkflceaaGreatDoor.Pat Go.Proofs.YtbccachkkflceaaGreatDoor.GmM Go.Proofs.YtbccachkkflceaaGreatDoor.SetW
open Go.Proofs.YtbccachkkflceaaGreatDoor.Fm (F val size deep lets litB sgn dual letK letN letK_lit)
open Go.Proofs.YtbccachkkflceaaGreatDoor.FmB (find_at)
open Go.Proofs.YtbccachkkflceaaGreatDoor.FmSaid (letter_w)
open Go.Proofs.YtbccachkkflceaaGreatDoor.FmParts (parts_w said_true str_data)
open Go.Proofs.YtbccachkkflceaaGreatDoor.Tree (T V3 gN gI gD whoB hexD)
open Go.Proofs.YtbccachkkflceaaGreatDoor.Where (wrap8 or8)
open Go.Proofs.YtbccachkkflceaaGreatDoor.Wq (WQ wq_step wq_nil region_kept drew_at)
set_option linter.unusedVariables false
set_option linter.unusedSimpArgs false

theorem conv_one (w : World) (d : UInt8) (v : Int) (hv : v = (d.toNat : Int)) :
    (convert 22 9 (.slice (some ⟨w.heap.size, 0, none⟩) 1 1)).run Tryz.prog (w.alloc (.cells #[.int .u8 v] 5)) = .ok (.string ⟨#[d]⟩) (w.alloc (.cells #[.int .u8 v] 5)) := by
  have h := run_convert_bytes_back (P := Tryz.prog) (w.alloc (.cells #[.int .u8 v] 5)) 22 9 5 ⟨w.heap.size, 0, none⟩ 1 [d] Tryz.underlying22 Tryz.underlying5 Tryz.underlying9 (fun j hj => by
    obtain rfl : j = 0 := by simpa using hj
    rw [hv]
    exact cell_of_row _ _ 0 _ _ _ (heap_alloc_new w _))
  exact h
set_option maxHeartbeats 1000000 in
theorem dec_v (b : V3) (w : World) : Calls Tryz.prog 49 #[.int .i64 (gI b)] w fun e w' => e = .returned (.string ⟨#[gD b]⟩) ∧ Below w.heap.size w w' := by
  cases b
  · show Calls _ _ #[.int .i64 0] _ fun e w' => e = .returned (.string ⟨#[48]⟩) ∧ _
    have hcv := conv_one w 48 48 (by decide)
    go_enter Tryz.func49, Tryz.ntmps49
    go_wp2_with fail
    go_loop [0, 3] (fun m t => m = .int .i64 0 ∧ t = .string ⟨#[]⟩) (fun _ _ => 0)
    case atStart => exact ⟨rfl, rfl⟩
    case round =>
      obtain ⟨rfl, rfl⟩ := hrel
      go_wp2_with fail
      go_ret
      exact ⟨rfl, by go_grown⟩
  · show Calls _ _ #[.int .i64 1] _ fun e w' => e = .returned (.string ⟨#[49]⟩) ∧ _
    have hcv := conv_one w 49 49 (by decide)
    go_enter Tryz.func49, Tryz.ntmps49
    go_wp2_with fail
    go_loop [0, 3] (fun m t => m = .int .i64 1 ∧ t = .string ⟨#[]⟩) (fun _ _ => 0)
    case atStart => exact ⟨rfl, rfl⟩
    case round =>
      obtain ⟨rfl, rfl⟩ := hrel
      go_wp2_with fail
      go_ret
      exact ⟨rfl, by go_grown⟩
  · show Calls _ _ #[.int .i64 2] _ fun e w' => e = .returned (.string ⟨#[50]⟩) ∧ _
    have hcv := conv_one w 50 50 (by decide)
    go_enter Tryz.func49, Tryz.ntmps49
    go_wp2_with fail
    go_loop [0, 3] (fun m t => m = .int .i64 2 ∧ t = .string ⟨#[]⟩) (fun _ _ => 0)
    case atStart => exact ⟨rfl, rfl⟩
    case round =>
      obtain ⟨rfl, rfl⟩ := hrel
      go_wp2_with fail
      go_ret
      exact ⟨rfl, by go_grown⟩

set_option maxHeartbeats 4000000 in
/-- the numbers of which a formula has a value -/
theorem where_w (f : F) (hw : Fm.wf 3 f) (hl : (Fm.text f).length ≤ 2000) (v : Bool) (w : World) :
    Calls Tryz.prog 52 #[.string (str (Fm.text f)), .bool v] w fun e w' => e = .returned (.int .i64 (askB v f : Int)) ∧ Below w.heap.size w w' := by
  have HT := Lib.hid (fun (n : Nat) (hn : n < 8) => said_true n hn f hw hl)
  generalize str (Fm.text f) = s at *
  unfold askB
  obtain ⟨P, hP⟩ : ∃ P : Nat → Bool, (fun n => val f n == v) = P := ⟨_, rfl⟩
  have HP := Lib.hid (fun n => (congrFun hP n))
  rw [hP]
  clear hP hw hl
  go_enter Tryz.func52, Tryz.ntmps52
  go_wp2_with fail
  go_loopw [5, 6] (fun t i wr => ∃ (k s : Nat), k ≤ 8 ∧ t = .int .i64 (s : Int) ∧ Hid (s = setB P k) ∧ i = .int .i64 (k : Int) ∧ Hid (Below w.heap.size w wr)) (fun _ i _ => 8 - (intOf i).toNat)
  case atStart => exact ⟨0, 0, Nat.zero_le _, rfl, rfl, rfl, Below.refl _ _⟩
  case round =>
    obtain ⟨k, q, hk, rfl, hs, rfl, HB⟩ := hrel
    by_cases hlt : k < 8
    · have hs8 : q < 256 := by rw [hs.out]; exact setB_lt8 P k (by omega)
      have hX : 2 ^ k < 256 := Nat.lt_of_lt_of_le (Nat.pow_lt_pow_right (by decide) hlt) (by decide)
      have HC := Lib.hid (HT.out k hlt wr)
      have hwp : IntKind.i64.wrap (2 ^ k) = ((2 ^ k : Nat) : Int) := by rw [show ((2 : Int) ^ k) = ((2 ^ k : Nat) : Int) by simp]; exact wrap8 _ (by omega)
      have ho := or8 q (2 ^ k) hs8 hX
      have HN : Hid ((if P k = true then q ||| 2 ^ k else q) = setB P (k + 1)) := by
        unfold Hid
        rw [← setB_or, ← hs.out]
        cases P k
        · simp
        · simp
      obtain ⟨b, hb⟩ : ∃ b, val f k = b := ⟨_, rfl⟩
      have hpk : P k = (b == v) := by rw [← HP.out k, hb]
      rw [hpk] at HN
      rw [hb] at HC
      clear hs hb hpk
      generalize 2 ^ k = X at *
      generalize q ||| X = y at *
      cases b <;> cases v
      all_goals
        go_wp2_with fail
        refine HC.out.mono ?_
        rintro e w2 ⟨rfl, hb2⟩
        have HB2 : Hid (Below w.heap.size w w2) := HB.out.trans (hb2.mono HB.out.size)
        clear hb2
        go_wp2_with fail
        go_roundw
        case rel => first | exact ⟨k + 1, q, by omega, rfl, by have h := HN.out; unfold Hid; simpa using h, by go_num, HB2⟩ | exact ⟨k + 1, y, by omega, rfl, by have h := HN.out; unfold Hid; simpa using h, by go_num, HB2⟩
        case measure => simp [intOf]; omega
    · obtain rfl : k = 8 := by omega
      go_wp2_with fail
      go_ret
      exact ⟨by rw [← hs.out]; rfl, HB.out⟩

theorem node_text (a : Bool) (S : Nat) (X Y : T) : str [whoB a] ++ str [hexD (S / 16)] ++ str [hexD (S % 16)] ++ str (Tree.text X) ++ str (Tree.text Y) = str (Tree.text (.say a S X Y)) := by
  rw [str_append, str_append, str_append, str_append]
  rfl
theorem said_node (a : Bool) (S : Nat) (hS : S < 256) (X Y : T) (hX : (Tree.text X).length ≤ 8000000) (hY : (Tree.text Y).length ≤ 8000000) (w : World) :
    Calls Tryz.prog 51 #[.string (str [whoB a]), .int .i64 (S : Int), .string (str (Tree.text X)), .string (str (Tree.text Y))] w fun e w' => e = .returned (.string (str (Tree.text (.say a S X Y)))) ∧ Below w.heap.size w w' := by
  rw [← node_text]
  exact node_said (str [whoB a]) (str (Tree.text X)) (str (Tree.text Y)) S hS (by rw [str_size]; show 1 ≤ 2000; omega) (by rw [str_size]; omega) (by rw [str_size]; omega) w

set_option maxHeartbeats 4000000 in
set_option maxRecDepth 100000 in
/-- the reference's protocol of a formula -/
theorem game_said (t : F) : Fm.wf 3 t → (Fm.text t).length ≤ 200 → ∀ w : World, Calls Tryz.prog 24 #[.string (str (Fm.text t))] w fun e w' => e = .returned (.string (str (Tree.text (gameT t)))) ∧ Below w.heap.size w w' := by
  induction t with
  | lit k v =>
    intro hw _ w
    have hl : (str (Fm.text (.lit k v))).size = 1 := by rw [str_size]; rfl
    obtain ⟨hk, hx⟩ := FmB.at_drop (k := 0) (show (str (Fm.text (.lit k v))).data.toList.drop 0 = litB k v :: [] from str_data _)
    have hk3 : k < 3 := hw
    have HL : Hid (∀ W, Calls Tryz.prog 48 #[.int .u8 (((str (Fm.text (.lit k v)))[0]'hk).toNat : Int)] W fun e w' => e = .returned (.tuple #[.int .i64 (k : Int), .bool (!v)]) ∧ W = w') := fun W => by
      have h := letter_w (litB k v) W
      rw [(letK_lit k v hk3).1, (letK_lit k v hk3).2] at h
      rw [hx]; exact h
    have HD : Hid (∀ W, Calls Tryz.prog 49 #[.int .i64 (k : Int)] W fun e w' => e = .returned (.string (str (Tree.text (gameT (.lit k v))))) ∧ Below W.heap.size W w') := fun W => by
      have h := dec_v (gk k) W
      rw [show gI (gk k) = (k : Int) by unfold gI; rw [gk_N k hk3]] at h
      exact h
    clear hx hw hk3
    generalize str (Tree.text (gameT (.lit k v))) = r at *
    generalize str (Fm.text (.lit k v)) = s at *
    go_enter Tryz.func24, Tryz.ntmps24
    go_wp2_with fail
    refine (HL.out _).mono ?_
    rintro e w1 ⟨rfl, rfl⟩
    go_wp2_with fail
    refine (HD.out _).mono ?_
    rintro e w2 ⟨rfl, hb⟩
    have HB := Lib.hid hb
    clear hb
    go_wp2_with fail
    go_ret
    exact ⟨rfl, HB.out⟩
  | gate a f g ihz iho =>
    intro hw hl w
    have hlz : (Fm.text (.gate a f g)).length = (Fm.text f).length + (Fm.text g).length + 1 := by simp [Fm.text]
    have HZ := Lib.hid (ihz hw.1 (by omega))
    have HO := Lib.hid (iho hw.2 (by omega))
    have HWH := Lib.hid (where_w f hw.1 (by omega) a)
    have pz := Fm.text_pos f
    have pg := Fm.text_pos g
    have HP := Lib.hid (parts_w a f g hw.1 (str (Fm.text (.gate a f g))) (str_data _) (by rw [str_size]; omega))
    have hsz : 2 ≤ (str (Fm.text (.gate a f g))).size := by rw [str_size]; omega
    have hne : (((str (Fm.text (.gate a f g))).size : Int) == 1) = false := beq_false_of_ne (by omega)
    obtain ⟨hk, hx⟩ := FmB.at_drop (k := 0) (show (str (Fm.text (.gate a f g))).data.toList.drop 0 = sgn a :: (Fm.text f ++ Fm.text g) from str_data _)
    have hn0 : ((str (Fm.text (.gate a f g)))[0]'hk).toNat = (sgn a).toNat := by rw [hx]
    have HN := Lib.hid hn0
    have l1 := game_length f (by omega)
    have l2 := game_length g (by omega)
    have HND : Hid (∀ W, Calls Tryz.prog 51 #[.string (str [whoB (!a)]), .int .i64 (askB a f : Int), .string (str (Tree.text (gameT f))), .string (str (Tree.text (gameT g)))] W fun e w' => e = .returned (.string (str (Tree.text (gameT (.gate a f g))))) ∧ Below W.heap.size W w') := said_node (!a) (askB a f) (ask_lt a f) (gameT f) (gameT g) (by omega) (by omega)
    clear ihz iho hx hl hlz hw hn0 pz pg l1 l2
    generalize str (Tree.text (gameT (.gate a f g))) = r at *
    generalize str (Tree.text (gameT f)) = rf at *
    generalize str (Tree.text (gameT g)) = rg at *
    generalize askB a f = S at *
    generalize str (Fm.text (.gate a f g)) = s at *
    generalize str (Fm.text f) = sz at *
    generalize str (Fm.text g) = so at *
    cases a
    · have hn1 : (s[0]'hk).toNat = 124 := HN.out
      clear HN
      go_enter Tryz.func24, Tryz.ntmps24
      go_wp2_with fail
      refine (HP.out _).mono ?_
      rintro e w1 ⟨rfl, hb1⟩
      have HB1 := Lib.hid hb1
      clear hb1
      go_wp2_with fail
      refine (HWH.out _).mono ?_
      rintro e w2 ⟨rfl, hb2⟩
      have HB2 := Lib.hid (HB1.out.trans (hb2.mono HB1.out.size))
      clear hb2 HB1
      go_wp2_with fail
      refine (HZ.out _).mono ?_
      rintro e w3 ⟨rfl, hb3⟩
      have HB3 := Lib.hid (HB2.out.trans (hb3.mono HB2.out.size))
      clear hb3 HB2
      go_wp2_with fail
      refine (HO.out _).mono ?_
      rintro e w4 ⟨rfl, hb4⟩
      have HB4 := Lib.hid (HB3.out.trans (hb4.mono HB3.out.size))
      clear hb4 HB3
      go_wp2_with fail
      refine (HND.out _).mono ?_
      rintro e w5 ⟨rfl, hb5⟩
      have HC := Lib.hid (HB4.out.trans (hb5.mono HB4.out.size))
      clear hb5 HB4
      go_wp2_with fail
      go_ret
      exact ⟨rfl, HC.out⟩
    · have hn1 : (s[0]'hk).toNat = 38 := HN.out
      clear HN
      go_enter Tryz.func24, Tryz.ntmps24
      go_wp2_with fail
      refine (HP.out _).mono ?_
      rintro e w1 ⟨rfl, hb1⟩
      have HB1 := Lib.hid hb1
      clear hb1
      go_wp2_with fail
      refine (HWH.out _).mono ?_
      rintro e w2 ⟨rfl, hb2⟩
      have HB2 := Lib.hid (HB1.out.trans (hb2.mono HB1.out.size))
      clear hb2 HB1
      go_wp2_with fail
      refine (HZ.out _).mono ?_
      rintro e w3 ⟨rfl, hb3⟩
      have HB3 := Lib.hid (HB2.out.trans (hb3.mono HB2.out.size))
      clear hb3 HB2
      go_wp2_with fail
      refine (HO.out _).mono ?_
      rintro e w4 ⟨rfl, hb4⟩
      have HB4 := Lib.hid (HB3.out.trans (hb4.mono HB3.out.size))
      clear hb4 HB3
      go_wp2_with fail
      refine (HND.out _).mono ?_
      rintro e w5 ⟨rfl, hb5⟩
      have HC := Lib.hid (HB4.out.trans (hb5.mono HB4.out.size))
      clear hb5 HB4
      go_wp2_with fail
      go_ret
      exact ⟨rfl, HC.out⟩
end Go.Proofs.YtbccachkkflceaaGreatDoor.GmS

/-
  The law at a region that draws its order, whose operations only make memory, what they yield told by relations to the world, with one store behind them, told by a relation to the slots.
-/
namespace Go.Proofs.YtbccachkkflceaaGreatDoor.FreeZ
open Go Go.RowKit Go.Proofs.YtbccachkkflceaaGreatDoor.Free Go.Proofs.YtbccachkkflceaaGreatDoor.FreeW
open Go.Proofs.YtbccachkkflceaaGreatDoor.FreeL (sink_listed)
set_option linter.unusedVariables false

section
variable {P : Program} {ops : Array Oper}
theorem dst_apart {n : Nat} (hB : freeB ops n = true) : ∀ (i j : Nat) (oi oj : Oper) (d : Tmp), ops[i]? = some oi → ops[j]? = some oj → oi.dst = some d → oj.dst = some d → i = j := by
  simp only [freeB, Bool.and_eq_true, decide_eq_true_eq] at hB
  obtain ⟨⟨h1, h2⟩, h3⟩ := hB
  intro i j oi oj d hi hj di dj
  have hi' : ops.toList[i]? = some oi := by simpa using hi
  have hj' : ops.toList[j]? = some oj := by simpa using hj
  clear h1 h3 hi hj
  generalize ops.toList = l at *
  induction l generalizing i j with
  | nil => simp at hi'
  | cons o l ih =>
    cases i with
    | zero =>
      cases j with
      | zero => rfl
      | succ j =>
        exfalso
        simp only [List.getElem?_cons_zero, Option.some.injEq] at hi'
        subst hi'
        simp only [List.getElem?_cons_succ] at hj'
        rw [List.filterMap_cons_some di, List.nodup_cons] at h2
        exact h2.1 (List.mem_filterMap.2 ⟨oj, List.mem_of_getElem? hj', dj⟩)
    | succ i =>
      cases j with
      | zero =>
        exfalso
        simp only [List.getElem?_cons_zero, Option.some.injEq] at hj'
        subst hj'
        simp only [List.getElem?_cons_succ] at hi'
        rw [List.filterMap_cons_some dj, List.nodup_cons] at h2
        exact h2.1 (List.mem_filterMap.2 ⟨oi, List.mem_of_getElem? hi', di⟩)
      | succ j =>
        simp only [List.getElem?_cons_succ] at hi' hj'
        have : (l.filterMap (·.dst)).Nodup := by
          cases hod : o.dst with
          | none => rwa [List.filterMap_cons_none hod] at h2
          | some x => rw [List.filterMap_cons_some hod, List.nodup_cons] at h2; exact h2.2
        rw [ih i j this hi' hj']
theorem dst_lt {n : Nat} (hB : freeB ops n = true) (i : Nat) (o : Oper) (d : Tmp) (ho : ops[i]? = some o) (hd : o.dst = some d) : d < n := by
  simp only [freeB, Bool.and_eq_true, decide_eq_true_eq] at hB
  have := List.all_eq_true.1 hB.1.1 o (by simpa using Array.mem_of_getElem? ho)
  simp only [Bool.and_eq_true, hd] at this
  simpa using this.2

/-- what an operation may know of the slots -/
def FactsZ (ops : Array Oper) (a0 : Act) (R : Nat → Value → World → Prop) (o : Oper) (a : Act) (w : World) : Prop :=
  (∀ e ∈ o.after, Region.binds .any e = true → ∀ (oj : Oper) (dj : Tmp), ops[e.on]? = some oj → oj.dst = some dj → R e.on (a.tmps[dj]?.getD undef) w) ∧
  (∀ k, (ops.toList.all fun o => o.dst != some k) = true → a.tmps[k]?.getD undef = a0.tmps[k]?.getD undef)
theorem put_get {a : Act} {d k : Tmp} {v : Value} (h : d ≠ k) : (a.put (some d) v).tmps[k]? = a.tmps[k]? := by
  simp [Act.put, Array.getElem?_setIfInBounds_ne h]
theorem put_new {a : Act} {d : Tmp} {v : Value} (h : d < a.tmps.size) : (a.put (some d) v).tmps[d]? = some v := by
  simp [Act.put, h]

/-- THE LAW -/
theorem wp_region_lastR {id n : Nat} {a0 : Act} {w0 : World} {Q : Exit → Act → World → Prop} (R : Nat → Value → World → Prop) (F : Act → World → World → Prop) (last : Nat) (os : Oper)
    (hm : P.follows .mixedOrders = true) (hB : freeB ops n = true) (hn : a0.tmps.size = n) (hs : ops[last]? = some os) (hsd : os.dst = none) (hsz : ops.size = last + 1)
    (hw : Region.sinkB .any ops last = true)
    (hR : ∀ i v w w', R i v w → Below w.heap.size w w' → R i v w')
    (hcon : ∀ (i : Nat) (o : Oper), ops[i]? = some o → i < last → ∀ (a : Act) (w : World), Below w0.heap.size w0 w → FactsZ ops a0 R o a w →
      o.wp P a w (fun a' w' => ∃ v, a' = a.put o.dst v ∧ R i v w' ∧ Below w.heap.size w w') Q)
    (hst : ∀ (a : Act) (w : World), Below w0.heap.size w0 w → FactsZ ops a0 R os a w → os.wp P a w (fun a' w' => a' = a ∧ F a w w') Q)
    (hend : ∀ (vs : Nat → Value) (w1 w : World), Below w0.heap.size w0 w1 → (∀ (i : Nat) (o : Oper) (d : Tmp), ops[i]? = some o → i < last → o.dst = some d → R i (vs i) w1) → F (fill ops.toList vs 0 a0) w1 w → Q .normal (fill ops.toList vs 0 a0) w) :
    (Code.region id ops true).wp P Q a0 w0 := by
  have hdd := dst_apart hB
  have hdl := dst_lt hB
  let Y : Nat → Value → Act → World → Prop := fun i v a w => ∀ (o : Oper) (d : Tmp), ops[i]? = some o → o.dst = some d → a.tmps[d]? = some v
  let S : (Nat → Bool) → Act → World → Prop := fun l a w =>
    (l last = false → Below w0.heap.size w0 w ∧ ∀ (i : Nat) (o : Oper) (d : Tmp), l i = true → ops[i]? = some o → i < last → o.dst = some d → R i (a.tmps[d]?.getD undef) w) ∧
    (l last = true → ∃ w1, Below w0.heap.size w0 w1 ∧ (∀ (i : Nat) (o : Oper) (d : Tmp), ops[i]? = some o → i < last → o.dst = some d → R i (a.tmps[d]?.getD undef) w1) ∧ F a w1 w)
  have hB2 := hB
  simp only [freeB, Bool.and_eq_true, decide_eq_true_eq] at hB2
  obtain ⟨⟨_, _⟩, h3⟩ := hB2
  have hac : ∀ (i : Nat) (o : Oper), ops[i]? = some o → ∀ e ∈ o.after, Region.binds .any e = true → e.on < i := fun i o ho e he hb => by
    have hi : i < ops.size := (Array.getElem?_eq_some_iff.1 ho).1
    have := List.all_eq_true.1 h3 i (List.mem_range.2 hi)
    rw [ho] at this
    have h5 : (o.after.all fun e => !Region.binds .any e || decide (e.on < i)) = true := this
    have := Array.all_eq_true_iff_forall_mem.1 h5 e he
    simpa [hb] using this
  have facts : ∀ (listed : Array Bool) (o : Oper) (i : Nat) (a : Act) (w : World), ops[i]? = some o → i ≤ last → MidA ops a0 Y S listed a w → listed.getD last false = false →
      (∀ e ∈ o.after, Region.binds .any e = true → listed.getD e.on false = true) → FactsZ ops a0 R o a w := by
    intro listed o i a w ho hi hM hnl hdl'
    refine ⟨fun e he hb oj dj hoj hdj => ?_, fun k hk => ?_⟩
    · have := hac i o ho e he hb
      exact (hM.world.1 hnl).2 e.on oj dj (hdl' e he hb) hoj (by omega) hdj
    · rw [hM.old k fun i o' ho' hd' => ?_]
      have := List.all_eq_true.1 hk o' (by simpa using Array.mem_of_getElem? ho')
      simp [hd'] at this
  refine wp_region_freeA (Y := Y) (S := S) hm hB hn ⟨fun _ => ⟨(Below.refl w0.heap.size w0).drew, fun i o d h => (by cases h)⟩, fun h => (by cases h)⟩ ?_ ?_
  · intro i o ho listed a w hM hu hdp
    have hi : i < ops.size := (Array.getElem?_eq_some_iff.1 ho).1
    by_cases hil : i = last
    · subst hil
      obtain rfl : o = os := Option.some.inj (ho.symm.trans hs)
      obtain ⟨hw1, hall⟩ := hM.world.1 hu
      have hlisted : ∀ j, j < i → listed.getD j false = true := by
        have hs2 : ∀ (d j : Nat), i - j ≤ d → j < i → listed.getD j false = true := by
          intro d
          induction d with
          | zero => intro j h1 h2; omega
          | succ d ih =>
            intro j h1 h2
            have h3 := List.all_eq_true.1 hw j (List.mem_range.2 h2)
            obtain ⟨k, hk, h4⟩ := List.any_eq_true.1 h3
            simp only [Bool.and_eq_true, decide_eq_true_eq] at h4
            have hki' : k < i + 1 := List.mem_range.1 hk
            obtain ⟨ok, hok, e, he, hee, hon⟩ := Region.waitsFor_spec h4.2
            by_cases hki : k = i
            · subst hki
              obtain rfl : ok = o := Option.some.inj (hok.symm.trans ho)
              have := hdp e he hee
              rwa [hon] at this
            · have h6 := ih k (by omega) (by omega)
              have := hM.closed k ok hok h6 e he hee
              rwa [hon] at this
        exact fun j hj => hs2 i j (by omega) hj
      refine Oper.wp_mono ?_ (hst a w hw1 (facts listed o i a _ ho (Nat.le_refl _) hM hu hdp))
      rintro a' w' ⟨rfl, hF⟩
      refine ⟨undef, by rw [hsd]; rfl, fun o' d ho' hd' => ?_, ⟨fun h => (by simp at h), fun _ => ⟨w, hw1, fun j oj d hoj hj hd' => hall j oj d (hlisted j hj) hoj hj hd', hF⟩⟩, fun j u hj _ hY => hY⟩
      obtain rfl : o' = o := Option.some.inj (ho'.symm.trans ho)
      rw [hsd] at hd'
      cases hd'
    · have hlt : i < last := by omega
      have hnl : listed.getD last false = false := by
        cases hl : listed.getD last false with
        | false => rfl
        | true =>
          exfalso
          have := sink_listed hw hM.closed hl (last - i) i (Nat.le_refl _) (by omega)
          rw [hu] at this
          cases this
      obtain ⟨hw1, hall⟩ := hM.world.1 hnl
      refine Oper.wp_mono ?_ (hcon i o ho hlt a w hw1 (facts listed o i a _ ho (by omega) hM hnl hdp))
      rintro a' w' ⟨v, rfl, hv, hb⟩
      have hkeep : ∀ (j : Nat) (oj : Oper) (d : Tmp), j ≠ i → ops[j]? = some oj → oj.dst = some d → (a.put o.dst v).tmps[d]? = a.tmps[d]? := by
        intro j oj d hj hoj hdj
        cases hod : o.dst with
        | none => rfl
        | some d' =>
          refine put_get ?_
          rintro rfl
          exact hj (hdd j i oj o d' hoj ho hdj hod)
      have hnew : ∀ d, o.dst = some d → (a.put o.dst v).tmps[d]? = some v := fun d hd' => by
        rw [hd']
        exact put_new (by rw [hM.size, hn]; exact hdl i o d ho hd')
      refine ⟨v, rfl, fun o' d ho' hd' => ?_, ⟨fun _ => ⟨hw1.trans (hb.mono hw1.size), fun j oj d hlj hoj hj hdj => ?_⟩, fun h => ?_⟩, fun j u hj hlj hY oj d hoj hdj => ?_⟩
      · obtain rfl : o' = o := Option.some.inj (ho'.symm.trans ho)
        exact hnew d hd'
      · by_cases hji : j = i
        · subst hji
          obtain rfl : oj = o := Option.some.inj (hoj.symm.trans ho)
          rw [hnew d hdj]
          exact hv
        · rw [hkeep j oj d hji hoj hdj]
          simp only [if_neg hji] at hlj
          exact hR j _ w w' (hall j oj d hlj hoj hj hdj) hb
      · dsimp only at h
        rw [if_neg (Ne.symm hil), hnl] at h
        cases h
      · rw [hkeep j oj d hj hoj hdj]
        exact hY oj d hoj hdj
  · intro vs w hS hY
    obtain ⟨w1, hb, hall, hF⟩ := hS.2 (decide_eq_true (by omega))
    refine hend vs w1 w hb (fun i o d ho hi hd' => ?_) hF
    have h1 := hall i o d ho hi hd'
    have h2 := hY i o ho o d ho hd'
    rw [h2] at h1
    exact h1
theorem wp_valR {o : Oper} {a : Act} {w : World} {Q : Exit → Act → World → Prop} {i : Nat} {R : Nat → Value → World → Prop} (v : Value) (h : (execOp a.eval o).run P w = .ok (.value v) w) (hR : R i v w) : o.wp P a w (fun a' w' => ∃ v, a' = a.put o.dst v ∧ R i v w' ∧ Below w.heap.size w w') Q := by
  unfold Oper.wp
  rw [h]
  exact ⟨v, rfl, hR, Below.refl _ _⟩
theorem wp_newR {o : Oper} {a : Act} {w w1 : World} {Q : Exit → Act → World → Prop} {i : Nat} {R : Nat → Value → World → Prop} (v : Value) (h : (execOp a.eval o).run P w = .ok (.value v) w1) (hb : Below w.heap.size w w1) (hR : R i v w1) : o.wp P a w (fun a' w' => ∃ v, a' = a.put o.dst v ∧ R i v w' ∧ Below w.heap.size w w') Q := by
  unfold Oper.wp
  rw [h]
  exact ⟨v, rfl, hR, hb⟩
theorem wp_callR {o : Oper} {a : Act} {w : World} {Q : Exit → Act → World → Prop} {i : Nat} {R : Nat → Value → World → Prop} (f : FuncId) (args : Array Value) (h : (execOp a.eval o).run P w = .ok (.enter f args) w)
    (hc : Calls P f args w fun e w' => ∃ v, e = .returned v ∧ R i v w' ∧ Below w.heap.size w w') : o.wp P a w (fun a' w' => ∃ v, a' = a.put o.dst v ∧ R i v w' ∧ Below w.heap.size w w') Q := by
  unfold Oper.wp
  rw [h]
  refine Calls.mono hc ?_
  rintro e w' ⟨v, rfl, hR, hb⟩
  exact ⟨v, rfl, hR, hb⟩
end
end Go.Proofs.YtbccachkkflceaaGreatDoor.FreeZ

