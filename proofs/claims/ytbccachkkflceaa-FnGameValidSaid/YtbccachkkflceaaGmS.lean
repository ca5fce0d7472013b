/-
  The reference's protocol of a formula.
-/
import Derived.Test.YtbccachkkflceaaGmM
import Derived.Test.YtbccachkkflceaaGSetW
import Derived.Test.YtbccachkkflceaaFmParts
import Derived.Test.YtbccachkkflceaaWq
import Derived.Test.YtbccachkkflceaaWhere
namespace Go.Proofs.Ytbccachkkflceaa.GmS
open Go.RowKit Go.Shelf Go.Proofs.Ytbccachkkflceaa.Plain Go.Proofs.Ytbccachkkflceaa.Pat Go.Proofs.Ytbccachkkflceaa.GmM Go.Proofs.Ytbccachkkflceaa.SetW
open Go.Proofs.Ytbccachkkflceaa.Fm (F val size deep lets litB sgn dual letK letN letK_lit)
open Go.Proofs.Ytbccachkkflceaa.FmB (find_at)
open Go.Proofs.Ytbccachkkflceaa.FmSaid (letter_w)
open Go.Proofs.Ytbccachkkflceaa.FmParts (parts_w said_true str_data)
open Go.Proofs.Ytbccachkkflceaa.Tree (T V3 gN gI gD whoB hexD)
open Go.Proofs.Ytbccachkkflceaa.Where (wrap8 or8)
open Go.Proofs.Ytbccachkkflceaa.Wq (WQ wq_step wq_nil region_kept drew_at)
set_option linter.unusedVariables false
set_option linter.unusedSimpArgs false

theorem conv_one (w : World) (d : UInt8) (v : Int) (hv : v = (d.toNat : Int)) :
    (convert 26 9 (.slice (some ⟨w.heap.size, 0, none⟩) 1 1)).run Try.prog (w.alloc (.cells #[.int .u8 v] 5)) = .ok (.string ⟨#[d]⟩) (w.alloc (.cells #[.int .u8 v] 5)) := by
  have h := run_convert_bytes_back (P := Try.prog) (w.alloc (.cells #[.int .u8 v] 5)) 26 9 5 ⟨w.heap.size, 0, none⟩ 1 [d] Try.underlying26 Try.underlying5 Try.underlying9 (fun j hj => by
    obtain rfl : j = 0 := by simpa using hj
    rw [hv]
    exact cell_of_row _ _ 0 _ _ _ (heap_alloc_new w _))
  exact h
set_option maxHeartbeats 1000000 in
theorem dec_v (b : V3) (w : World) : Calls Try.prog 35 #[.int .i64 (gI b)] w fun e w' => e = .returned (.string ⟨#[gD b]⟩) ∧ Below w.heap.size w w' := by
  cases b
  · show Calls _ _ #[.int .i64 0] _ fun e w' => e = .returned (.string ⟨#[48]⟩) ∧ _
    have hcv := conv_one w 48 48 (by decide)
    go_enter Try.func35, Try.ntmps35
    go_wp2_with fail
    go_loop [0, 3] (fun m t => m = .int .i64 0 ∧ t = .string ⟨#[]⟩) (fun _ _ => 0)
    case atStart => exact ⟨rfl, rfl⟩
    case round =>
      obtain ⟨rfl, rfl⟩ := hrel
      go_wp2_with fail
      go_ret
      exact ⟨rfl, by go_grown⟩
  · show Calls _ _ #[.int .i64 1] _ fun e w' => e = .returned (.string ⟨#[49]⟩) ∧ _
    have hcv := conv_one w 49 49 (by decide)
    go_enter Try.func35, Try.ntmps35
    go_wp2_with fail
    go_loop [0, 3] (fun m t => m = .int .i64 1 ∧ t = .string ⟨#[]⟩) (fun _ _ => 0)
    case atStart => exact ⟨rfl, rfl⟩
    case round =>
      obtain ⟨rfl, rfl⟩ := hrel
      go_wp2_with fail
      go_ret
      exact ⟨rfl, by go_grown⟩
  · show Calls _ _ #[.int .i64 2] _ fun e w' => e = .returned (.string ⟨#[50]⟩) ∧ _
    have hcv := conv_one w 50 50 (by decide)
    go_enter Try.func35, Try.ntmps35
    go_wp2_with fail
    go_loop [0, 3] (fun m t => m = .int .i64 2 ∧ t = .string ⟨#[]⟩) (fun _ _ => 0)
    case atStart => exact ⟨rfl, rfl⟩
    case round =>
      obtain ⟨rfl, rfl⟩ := hrel
      go_wp2_with fail
      go_ret
      exact ⟨rfl, by go_grown⟩

set_option maxHeartbeats 4000000 in
/-- the numbers of which a formula has a value -/
theorem where_w (f : F) (hw : Fm.wf 3 f) (hl : (Fm.text f).length ≤ 2000) (v : Bool) (w : World) :
    Calls Try.prog 38 #[.string (str (Fm.text f)), .bool v] w fun e w' => e = .returned (.int .i64 (askB v f : Int)) ∧ Below w.heap.size w w' := by
  have HT := Lib.hid (fun (n : Nat) (hn : n < 8) => said_true n hn f hw hl)
  generalize str (Fm.text f) = s at *
  unfold askB
  obtain ⟨P, hP⟩ : ∃ P : Nat → Bool, (fun n => val f n == v) = P := ⟨_, rfl⟩
  have HP := Lib.hid (fun n => (congrFun hP n))
  rw [hP]
  clear hP hw hl
  go_enter Try.func38, Try.ntmps38
  go_wp2_with fail
  go_loopw [5, 6] (fun t i wr => ∃ (k s : Nat), k ≤ 8 ∧ t = .int .i64 (s : Int) ∧ Hid (s = setB P k) ∧ i = .int .i64 (k : Int) ∧ Hid (Below w.heap.size w wr)) (fun _ i _ => 8 - (intOf i).toNat)
  case atStart => exact ⟨0, 0, Nat.zero_le _, rfl, rfl, rfl, Below.refl _ _⟩
  case round =>
    obtain ⟨k, q, hk, rfl, hs, rfl, HB⟩ := hrel
    by_cases hlt : k < 8
    · have hs8 : q < 256 := by rw [hs.out]; exact setB_lt8 P k (by omega)
      have hX : 2 ^ k < 256 := Nat.lt_of_lt_of_le (Nat.pow_lt_pow_right (by decide) hlt) (by decide)
      have HC := Lib.hid (HT.out k hlt wr)
      have hwp : IntKind.i64.wrap (2 ^ k) = ((2 ^ k : Nat) : Int) := by rw [show ((2 : Int) ^ k) = ((2 ^ k : Nat) : Int) by simp]; exact wrap8 _ (by omega)
      have ho := or8 q (2 ^ k) hs8 hX
      have HN : Hid ((if P k = true then q ||| 2 ^ k else q) = setB P (k + 1)) := by
        unfold Hid
        rw [← setB_or, ← hs.out]
        cases P k
        · simp
        · simp
      obtain ⟨b, hb⟩ : ∃ b, val f k = b := ⟨_, rfl⟩
      have hpk : P k = (b == v) := by rw [← HP.out k, hb]
      rw [hpk] at HN
      rw [hb] at HC
      clear hs hb hpk
      generalize 2 ^ k = X at *
      generalize q ||| X = y at *
      cases b <;> cases v
      all_goals
        go_wp2_with fail
        refine HC.out.mono ?_
        rintro e w2 ⟨rfl, hb2⟩
        have HB2 : Hid (Below w.heap.size w w2) := HB.out.trans (hb2.mono HB.out.size)
        clear hb2
        go_wp2_with fail
        go_roundw
        case rel => first | exact ⟨k + 1, q, by omega, rfl, by have h := HN.out; unfold Hid; simpa using h, by go_num, HB2⟩ | exact ⟨k + 1, y, by omega, rfl, by have h := HN.out; unfold Hid; simpa using h, by go_num, HB2⟩
        case measure => simp [intOf]; omega
    · obtain rfl : k = 8 := by omega
      go_wp2_with fail
      go_ret
      exact ⟨by rw [← hs.out]; rfl, HB.out⟩

theorem node_text (a : Bool) (S : Nat) (X Y : T) : str [whoB a] ++ str [hexD (S / 16)] ++ str [hexD (S % 16)] ++ str (Tree.text X) ++ str (Tree.text Y) = str (Tree.text (.say a S X Y)) := by
  rw [str_append, str_append, str_append, str_append]
  rfl
theorem said_node (a : Bool) (S : Nat) (hS : S < 256) (X Y : T) (hX : (Tree.text X).length ≤ 8000000) (hY : (Tree.text Y).length ≤ 8000000) (w : World) :
    Calls Try.prog 37 #[.string (str [whoB a]), .int .i64 (S : Int), .string (str (Tree.text X)), .string (str (Tree.text Y))] w fun e w' => e = .returned (.string (str (Tree.text (.say a S X Y)))) ∧ Below w.heap.size w w' := by
  rw [← node_text]
  exact node_said (str [whoB a]) (str (Tree.text X)) (str (Tree.text Y)) S hS (by rw [str_size]; show 1 ≤ 2000; omega) (by rw [str_size]; omega) (by rw [str_size]; omega) w

set_option maxHeartbeats 4000000 in
set_option maxRecDepth 100000 in
/-- the reference's protocol of a formula -/
theorem game_said (t : F) : Fm.wf 3 t → (Fm.text t).length ≤ 200 → ∀ w : World, Calls Try.prog 22 #[.string (str (Fm.text t))] w fun e w' => e = .returned (.string (str (Tree.text (gameT t)))) ∧ Below w.heap.size w w' := by
  induction t with
  | lit k v =>
    intro hw _ w
    have hl : (str (Fm.text (.lit k v))).size = 1 := by rw [str_size]; rfl
    obtain ⟨hk, hx⟩ := FmB.at_drop (k := 0) (show (str (Fm.text (.lit k v))).data.toList.drop 0 = litB k v :: [] from str_data _)
    have hk3 : k < 3 := hw
    have HL : Hid (∀ W, Calls Try.prog 34 #[.int .u8 (((str (Fm.text (.lit k v)))[0]'hk).toNat : Int)] W fun e w' => e = .returned (.tuple #[.int .i64 (k : Int), .bool (!v)]) ∧ W = w') := fun W => by
      have h := letter_w (litB k v) W
      rw [(letK_lit k v hk3).1, (letK_lit k v hk3).2] at h
      rw [hx]; exact h
    have HD : Hid (∀ W, Calls Try.prog 35 #[.int .i64 (k : Int)] W fun e w' => e = .returned (.string (str (Tree.text (gameT (.lit k v))))) ∧ Below W.heap.size W w') := fun W => by
      have h := dec_v (gk k) W
      rw [show gI (gk k) = (k : Int) by unfold gI; rw [gk_N k hk3]] at h
      exact h
    clear hx hw hk3
    generalize str (Tree.text (gameT (.lit k v))) = r at *
    generalize str (Fm.text (.lit k v)) = s at *
    go_enter Try.func22, Try.ntmps22
    go_wp2_with fail
    refine (HL.out _).mono ?_
    rintro e w1 ⟨rfl, rfl⟩
    go_wp2_with fail
    refine (HD.out _).mono ?_
    rintro e w2 ⟨rfl, hb⟩
    have HB := Lib.hid hb
    clear hb
    go_wp2_with fail
    go_ret
    exact ⟨rfl, HB.out⟩
  | gate a f g ihz iho =>
    intro hw hl w
    have hlz : (Fm.text (.gate a f g)).length = (Fm.text f).length + (Fm.text g).length + 1 := by simp [Fm.text]
    have HZ := Lib.hid (ihz hw.1 (by omega))
    have HO := Lib.hid (iho hw.2 (by omega))
    have HWH := Lib.hid (where_w f hw.1 (by omega) a)
    have pz := Fm.text_pos f
    have pg := Fm.text_pos g
    have HP := Lib.hid (parts_w a f g hw.1 (str (Fm.text (.gate a f g))) (str_data _) (by rw [str_size]; omega))
    have hsz : 2 ≤ (str (Fm.text (.gate a f g))).size := by rw [str_size]; omega
    have hne : (((str (Fm.text (.gate a f g))).size : Int) == 1) = false := beq_false_of_ne (by omega)
    obtain ⟨hk, hx⟩ := FmB.at_drop (k := 0) (show (str (Fm.text (.gate a f g))).data.toList.drop 0 = sgn a :: (Fm.text f ++ Fm.text g) from str_data _)
    have hn0 : ((str (Fm.text (.gate a f g)))[0]'hk).toNat = (sgn a).toNat := by rw [hx]
    have HN := Lib.hid hn0
    have l1 := game_length f (by omega)
    have l2 := game_length g (by omega)
    have HND : Hid (∀ W, Calls Try.prog 37 #[.string (str [whoB (!a)]), .int .i64 (askB a f : Int), .string (str (Tree.text (gameT f))), .string (str (Tree.text (gameT g)))] W fun e w' => e = .returned (.string (str (Tree.text (gameT (.gate a f g))))) ∧ Below W.heap.size W w') := said_node (!a) (askB a f) (ask_lt a f) (gameT f) (gameT g) (by omega) (by omega)
    clear ihz iho hx hl hlz hw hn0 pz pg l1 l2
    generalize str (Tree.text (gameT (.gate a f g))) = r at *
    generalize str (Tree.text (gameT f)) = rf at *
    generalize str (Tree.text (gameT g)) = rg at *
    generalize askB a f = S at *
    generalize str (Fm.text (.gate a f g)) = s at *
    generalize str (Fm.text f) = sz at *
    generalize str (Fm.text g) = so at *
    cases a
    · have hn1 : (s[0]'hk).toNat = 124 := HN.out
      clear HN
      go_enter Try.func22, Try.ntmps22
      go_wp2_with fail
      refine (HP.out _).mono ?_
      rintro e w1 ⟨rfl, hb1⟩
      have HB1 := Lib.hid hb1
      clear hb1
      go_wp2_with fail
      refine (HWH.out _).mono ?_
      rintro e w2 ⟨rfl, hb2⟩
      have HB2 := Lib.hid (HB1.out.trans (hb2.mono HB1.out.size))
      clear hb2 HB1
      go_wp2_with fail
      refine (HZ.out _).mono ?_
      rintro e w3 ⟨rfl, hb3⟩
      have HB3 := Lib.hid (HB2.out.trans (hb3.mono HB2.out.size))
      clear hb3 HB2
      go_wp2_with fail
      refine (HO.out _).mono ?_
      rintro e w4 ⟨rfl, hb4⟩
      have HB4 := Lib.hid (HB3.out.trans (hb4.mono HB3.out.size))
      clear hb4 HB3
      go_wp2_with fail
      refine (HND.out _).mono ?_
      rintro e w5 ⟨rfl, hb5⟩
      have HC := Lib.hid (HB4.out.trans (hb5.mono HB4.out.size))
      clear hb5 HB4
      go_wp2_with fail
      go_ret
      exact ⟨rfl, HC.out⟩
    · have hn1 : (s[0]'hk).toNat = 38 := HN.out
      clear HN
      go_enter Try.func22, Try.ntmps22
      go_wp2_with fail
      refine (HP.out _).mono ?_
      rintro e w1 ⟨rfl, hb1⟩
      have HB1 := Lib.hid hb1
      clear hb1
      go_wp2_with fail
      refine (HWH.out _).mono ?_
      rintro e w2 ⟨rfl, hb2⟩
      have HB2 := Lib.hid (HB1.out.trans (hb2.mono HB1.out.size))
      clear hb2 HB1
      go_wp2_with fail
      refine (HZ.out _).mono ?_
      rintro e w3 ⟨rfl, hb3⟩
      have HB3 := Lib.hid (HB2.out.trans (hb3.mono HB2.out.size))
      clear hb3 HB2
      go_wp2_with fail
      refine (HO.out _).mono ?_
      rintro e w4 ⟨rfl, hb4⟩
      have HB4 := Lib.hid (HB3.out.trans (hb4.mono HB3.out.size))
      clear hb4 HB3
      go_wp2_with fail
      refine (HND.out _).mono ?_
      rintro e w5 ⟨rfl, hb5⟩
      have HC := Lib.hid (HB4.out.trans (hb5.mono HB4.out.size))
      clear hb5 HB4
      go_wp2_with fail
      go_ret
      exact ⟨rfl, HC.out⟩
end Go.Proofs.Ytbccachkkflceaa.GmS
