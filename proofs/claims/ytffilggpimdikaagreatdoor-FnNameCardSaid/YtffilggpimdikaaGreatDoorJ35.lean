/-
  Texts of one seat, joined: SaidName, NameI, NameN, NmLaw.
-/
import Derived.Test.YtffilggpimdikaaGreatDoorJ1
import Derived.Test.YtffilggpimdikaaGreatDoorJ34
import Derived.Test.YtffilggpimdikaaGreatDoorJ30
import Derived.Test.YtffilggpimdikaaGreatDoorJ4
import Derived.Test.YtffilggpimdikaaGreatDoorJ5
import Derived.Test.YtffilggpimdikaaGreatDoorJ9
import Derived.Test.YtffilggpimdikaaGreatDoorJ16
import Derived.Test.YtffilggpimdikaaGreatDoorJ31
import Derived.Test.YtffilggpimdikaaGreatDoorJ29
import Derived.Test.YtffilggpimdikaaGreatDoorJ22
import Derived.Test.YtffilggpimdikaaGreatDoorJ32
import Derived.Test.YtffilggpimdikaaGreatDoorLgB
import Derived.Test.YtffilggpimdikaaGreatDoorTrimPWalk
import Derived.Test.YtffilggpimdikaaGreatDoorJ17
/-
  The reference's protocol in which a player names a row.
-/
namespace Go.Proofs.YtffilggpimdikaaGreatDoor.SaidName
open Go.RowKit Go.Proofs.YtffilggpimdikaaGreatDoor.Plain Go.Proofs.YtffilggpimdikaaGreatDoor.Base Go.Proofs.YtffilggpimdikaaGreatDoor.Valid Go.Proofs.YtffilggpimdikaaGreatDoor.Law Go.Proofs.YtffilggpimdikaaGreatDoor.Entry Go.Proofs.YtffilggpimdikaaGreatDoor.Pat Go.Proofs.YtffilggpimdikaaGreatDoor.Tree Go.Proofs.YtffilggpimdikaaGreatDoor.Cols Go.Proofs.YtffilggpimdikaaGreatDoor.SetW Go.Proofs.YtffilggpimdikaaGreatDoor.First Go.Proofs.YtffilggpimdikaaGreatDoor.NameT Go.Proofs.YtffilggpimdikaaGreatDoor.FreeL
open Go.Proofs.YtffilggpimdikaaGreatDoor.Where (wrap8 or8)
open Go.Proofs.YtffilggpimdikaaGreatDoor.Free (fill wp_value wp_enter wp_load_row freeB)
set_option linter.unusedVariables false
set_option linter.unusedSimpArgs false

theorem eval_get {a : Act} {d : Tmp} {v : Value} (h : a.tmps[d]?.getD undef = v) : a.eval (.tmp d) = v := by
  rw [← h]
  show a.tmps.getD d undef = _
  simp [Array.getD_eq_getD_getElem?]
theorem minfo : (Tryz.prog.info? 24).map (·.size) = some 3 := by kernel_rfl
theorem node_text (a : Bool) (S : Nat) (X Y : T) : str [whoB a] ++ str [hexD (S / 16)] ++ str [hexD (S % 16)] ++ str (text X) ++ str (text Y) = str (text (.say a S X Y)) := by
  rw [str_append, str_append, str_append, str_append]
  rfl
theorem said_node (a : Bool) (S : Nat) (hS : S < 256) (X Y : T) (hX : (text X).length ≤ 8000000) (hY : (text Y).length ≤ 8000000) (w : World) :
    Calls Tryz.prog 74 #[.string (str [whoB a]), .int .i64 (S : Int), .string (str (text X)), .string (str (text Y))] w fun e w' => e = .returned (.string (str (text (.say a S X Y)))) ∧ Below w.heap.size w w' := by
  rw [← node_text]
  exact node_said (str [whoB a]) (str (text X)) (str (text Y)) S hS (by rw [str_size]; show 1 ≤ 2000; omega) (by rw [str_size]; omega) (by rw [str_size]; omega) w
theorem wrap_pow (x : Nat) (hx : x ≤ 8) : IntKind.i64.wrap (2 ^ x) = ((2 ^ x : Nat) : Int) := by
  have h8 : (2 : Nat) ^ x ≤ 256 := Nat.le_trans (Nat.pow_le_pow_right (by decide) hx) (by decide)
  rw [show ((2 : Int) ^ x) = ((2 ^ x : Nat) : Int) by simp]
  exact wrap8 _ h8

set_option maxHeartbeats 2000000 in
theorem reply_said (E : Nat → Nat → Bool) (r c : Nat) (h1 : 1 ≤ r) (h2 : r ≤ 8) (h3 : 1 ≤ c) (h4 : c ≤ 8) (x : Nat) (hx : x < r) (w : World) :
    Calls Tryz.prog 72 #[mat r c (str (rowsB E r c)), .int .i64 (x : Int)] w fun e w' => e = .returned (.string (str (text (replyT E c x)))) ∧ Below w.heap.size w w' := by
  have hX : 2 ^ x < 256 := Nat.lt_of_lt_of_le (Nat.pow_lt_pow_right (by decide) (show x < 8 by omega)) (by decide)
  have hY : 2 ^ c ≤ 256 := Nat.le_trans (Nat.pow_le_pow_right (by decide) h4) (by decide)
  have hY1 : 0 < 2 ^ c := Nat.two_pow_pos c
  have hC0 : ∀ W : World, Calls Tryz.prog 95 #[mat r c (str (rowsB E r c)), .int .i64 ((2 ^ x : Nat) : Int), .int .i64 1] W fun e w' => e = .returned (.int .i64 (onesN E c x : Int)) ∧ Below W.heap.size W w' := fun W => by
    have h := cols_any E r c h1 h2 h3 h4 (2 ^ x) hX true W
    rw [ones_all E r c x hx] at h
    exact h
  have HC := Lib.hid hC0
  have hlt := ones_lt E c x h4
  have hN0 : ∀ W : World, Calls Tryz.prog 74 #[.string ⟨#[66]⟩, .int .i64 (onesN E c x : Int), .string ⟨#[48]⟩, .string ⟨#[49]⟩] W fun e w' => e = .returned (.string (str (text (.say false (onesN E c x) (.leaf false) (.leaf true))))) ∧ Below W.heap.size W w' := fun W => said_node false (onesN E c x) hlt (.leaf false) (.leaf true) (by simp [text]) (by simp [text]) W
  have HN := Lib.hid hN0
  have HRT : Hid (replyT E c x = if onesN E c x = 0 then .leaf false else if onesN E c x = 2 ^ c - 1 then .leaf true else .say false (onesN E c x) (.leaf false) (.leaf true)) := rfl
  have hw := wrap_pow x (by omega)
  have hwc := wrap_pow c h4
  clear hC0 hN0
  generalize onesN E c x = u at *
  generalize replyT E c x = tt at *
  generalize str (rowsB E r c) = s at *
  obtain ⟨X, hXe⟩ : ∃ X : Nat, X = 2 ^ x := ⟨_, rfl⟩
  obtain ⟨Y, hYe⟩ : ∃ Y : Nat, Y = 2 ^ c := ⟨_, rfl⟩
  rw [← hXe] at hw hX HC
  rw [← hYe] at hwc hY HRT hY1
  have hwy : IntKind.i64.wrap ((Y : Int) - 1) = ((Y - 1 : Nat) : Int) := by
    have : (Y : Int) - 1 = ((Y - 1 : Nat) : Int) := by omega
    rw [this]
    exact wrap8 _ (by omega)
  have HM : Hid (∀ W' : World, Below (w.alloc (.cells #[.int .i64 (r : Int), .int .i64 (c : Int), .string s] 24)).heap.size (w.alloc (.cells #[.int .i64 (r : Int), .int .i64 (c : Int), .string s] 24)) W' → W'.heap[w.heap.size]? = some (.cells #[.int .i64 (r : Int), .int .i64 (c : Int), .string s] 24 (0, 0))) := fun W' hb => box_later hb
  clear hXe hYe
  generalize Y - 1 = Z at *
  go_enter Tryz.func72, Tryz.ntmps72
  go_wp2_with fail
  refine (HC.out _).mono ?_
  rintro e w1 ⟨rfl, hb1⟩
  obtain ⟨m0, m1, m2⟩ := cells3 (HM.out _ hb1)
  have HB := Lib.hid (below_grown hb1)
  clear hb1 HC HM
  by_cases g0 : u = 0
  · subst g0
    have HT : Hid (tt = .leaf false) := HRT.out
    clear HRT HN
    go_wp2_with fail
    go_ret
    exact ⟨by rw [HT.out]; rfl, HB.out⟩
  have g0i : ¬ ((u : Int) = 0) := by omega
  by_cases g1 : u = Z
  · subst g1
    have HT : Hid (tt = .leaf true) := by have h := HRT.out; rw [if_neg g0, if_pos rfl] at h; exact h
    clear HRT HN g0
    go_wp2_with fail
    go_ret
    exact ⟨by rw [HT.out]; rfl, HB.out⟩
  have g1i : ¬ ((u : Int) = (Z : Int)) := by omega
  have HT : Hid (tt = .say false u (.leaf false) (.leaf true)) := by have h := HRT.out; rw [if_neg g0, if_neg g1] at h; exact h
  clear HRT g0 g1
  go_wp2_with fail
  refine (HN.out _).mono ?_
  rintro e w2 ⟨rfl, hb2⟩
  have HB2 := Lib.hid (HB.out.trans (hb2.mono HB.out.size))
  clear hb2
  go_wp2_with fail
  go_ret
  exact ⟨by rw [HT.out]; rfl, HB2.out⟩

/-- the box of the matrix and the list of rows -/
structure Nb (w wr : World) (B : Nat) (r c : Nat) (s : ByteArray) (b o : Nat) (l : List Nat) : Prop where
  box : wr.heap[B]? = some (.cells #[.int .i64 (r : Int), .int .i64 (c : Int), .string s] 24 (0, 0))
  lt : b < wr.heap.size
  list : ∀ (j : Nat) (hj : j < l.length), wr.cell? ⟨b, o + j, none⟩ = some (.int .i64 (l[j] : Int))
  below : Below w.heap.size w wr
theorem Nb.later {w wr w2 : World} {B r c : Nat} {s : ByteArray} {b o : Nat} {l : List Nat} (h : Nb w wr B r c s b o l) (hb : Below wr.heap.size wr w2) : Nb w w2 B r c s b o l :=
  ⟨(hb.block _ (Array.getElem?_eq_some_iff.1 h.box).1).trans h.box, Nat.lt_of_lt_of_le h.lt hb.size, fun j hj => (hb.cell (p := ⟨b, o + j, none⟩) h.lt).trans (h.list j hj), h.below.trans (hb.mono h.below.size)⟩

/-- the numbers found so far, and the row k if one of the list is equal to it up to j -/
def upTo (E : Nat → Nat → Bool) (c : Nat) (l : List Nat) (H k u j : Nat) : Nat := u ||| (if ((l.drop H).take (j - H)).any (fun i => rowB E i c == rowB E k c) then 2 ^ k else 0)
theorem upTo_start (E : Nat → Nat → Bool) (c : Nat) (l : List Nat) (H k u : Nat) : upTo E c l H k u H = u := by simp [upTo]
theorem upTo_lt (E : Nat → Nat → Bool) (c : Nat) (l : List Nat) (H k u j : Nat) (hu : u < 256) (hX : 2 ^ k < 256) : upTo E c l H k u j < 256 := by
  unfold upTo
  split
  · exact Nat.or_lt_two_pow (n := 8) hu hX
  · exact Nat.or_lt_two_pow (n := 8) hu (by decide)
theorem upTo_step (E : Nat → Nat → Bool) (c : Nat) (l : List Nat) (H k u j : Nat) (hj : j < l.length) (hh : H ≤ j) : (if (rowB E l[j] c == rowB E k c) = true then upTo E c l H k u j ||| 2 ^ k else upTo E c l H k u j) = upTo E c l H k u (j + 1) := by
  unfold upTo
  rw [any_step l H j hj hh]
  cases ((l.drop H).take (j - H)).any (fun i => rowB E i c == rowB E k c) <;> cases (rowB E l[j] c == rowB E k c) <;> simp [Nat.or_assoc]
theorem upTo_all (E : Nat → Nat → Bool) (c : Nat) (l : List Nat) (H k : Nat) : upTo E c l H k (setB (anyRow E c (l.drop H)) k) l.length = setB (anyRow E c (l.drop H)) (k + 1) := by
  unfold upTo
  rw [List.take_of_length_le (by rw [List.length_drop]; omega), ← setB_or]
  rfl

def Named (E : Nat → Nat → Bool) (r c : Nat) (l : List Nat) (t : T) : Prop :=
  ∀ (b o cap : Nat) (w : World), l.length ≤ cap → b < w.heap.size → (∀ (j : Nat) (hj : j < l.length), w.cell? ⟨b, o + j, none⟩ = some (.int .i64 (l[j] : Int))) →
    Calls Tryz.prog 36 #[mat r c (str (rowsB E r c)), .slice (some ⟨b, o, none⟩) l.length cap] w fun e w' => e = .returned (.string (str (text t))) ∧ Below w.heap.size w w'

set_option maxHeartbeats 2000000 in
set_option maxRecDepth 100000 in
theorem name_one (E : Nat → Nat → Bool) (r c : Nat) (h1 : 1 ≤ r) (h2 : r ≤ 8) (h3 : 1 ≤ c) (h4 : c ≤ 8) (x : Nat) (hx : x < r) : Named E r c [x] (replyT E c x) := by
  intro b o cap w hcap hb hl
  have HR := Lib.hid (fun W => reply_said E r c h1 h2 h3 h4 x hx W)
  have h0 := hl 0 (by simp)
  generalize str (text (replyT E c x)) = st at *
  generalize str (rowsB E r c) = s at *
  have HK : Hid (∀ W' : World, Below (w.alloc (.cells #[.int .i64 (r : Int), .int .i64 (c : Int), .string s] 24)).heap.size (w.alloc (.cells #[.int .i64 (r : Int), .int .i64 (c : Int), .string s] 24)) W' → W'.heap[w.heap.size]? = some (.cells #[.int .i64 (r : Int), .int .i64 (c : Int), .string s] 24 (0, 0)) ∧ W'.cell? ⟨b, o, none⟩ = some (.int .i64 (x : Int))) := fun W' hb2 =>
    ⟨box_later hb2, ((below_grown hb2).cell (p := ⟨b, o, none⟩) hb).trans h0⟩
  clear hl h0
  show Calls _ _ #[_, .slice (some ⟨b, o, none⟩) 1 cap] _ _
  obtain ⟨B, hB⟩ : ∃ B, w.heap.size = B := ⟨_, rfl⟩
  go_enter Tryz.func36, Tryz.ntmps36
  go_wp2_with fail
  rw [hB] at HK
  try rw [hB]
  refine wp_region_below (fun | 0 => mat r c s | 1 => .slice (some ⟨b, o, none⟩) 1 cap | 2 => .pointer (some ⟨b, o, none⟩) | 3 => .int .i64 (x : Int) | 4 => .string st | 5 => .string st | _ => undef) (by kernel_rfl) (by kernel_rfl) rfl ?conA ?enA
  case conA =>
    intro i oo ho a wx hb2 hf
    match i, ho with
    | 0, ho =>
      obtain rfl := Option.some.inj ho
      have b2 : a.tmps[2]?.getD undef = .pointer (some ⟨B, 0, none⟩) := hf.2 2 (by kernel_rfl)
      exact wp_load_row 24 (.tmp 2) rfl B (eval_get b2) 24 _ (0, 0) _ ((HK.out _ hb2).1) Tryz.underlying24 rfl minfo ⟨rfl, Below.refl _ _⟩
    | 1, ho =>
      obtain rfl := Option.some.inj ho
      have b1 : a.tmps[1]?.getD undef = .slice (some ⟨b, o, none⟩) 1 cap := hf.2 1 (by kernel_rfl)
      exact wp_value (.slice (some ⟨b, o, none⟩) 1 cap) (by unfold execOp; go_simp) ⟨rfl, Below.refl _ _⟩
    | 2, ho =>
      obtain rfl := Option.some.inj ho
      have e13 : a.tmps[13]?.getD undef = .slice (some ⟨b, o, none⟩) 1 cap := hf.1 ⟨1, .data⟩ (by simp) rfl _ 13 rfl rfl
      exact wp_value (.pointer (some ⟨b, o, none⟩)) (by unfold execOp; go_simp) ⟨rfl, Below.refl _ _⟩
    | 3, ho =>
      obtain rfl := Option.some.inj ho
      have e14 : a.tmps[14]?.getD undef = .pointer (some ⟨b, o, none⟩) := hf.1 ⟨2, .data⟩ (by simp) rfl _ 14 rfl rfl
      have cx := (HK.out _ hb2).2
      exact wp_value (.int .i64 (x : Int)) (by unfold execOp; go_simp) ⟨rfl, Below.refl _ _⟩
    | 4, ho =>
      obtain rfl := Option.some.inj ho
      have e12 : a.tmps[12]?.getD undef = mat r c s := hf.1 ⟨0, .data⟩ (by simp) rfl _ 12 rfl rfl
      have e15 : a.tmps[15]?.getD undef = .int .i64 (x : Int) := hf.1 ⟨3, .data⟩ (by simp) rfl _ 15 rfl rfl
      exact wp_enter 72 #[mat r c s, .int .i64 (x : Int)] (.string st) _ (by unfold execOp; go_simp) (HR.out wx) (fun w' h => ⟨rfl, h⟩)
    | 5, ho =>
      obtain rfl := Option.some.inj ho
      have e16 : a.tmps[16]?.getD undef = .string st := hf.1 ⟨4, .data⟩ (by simp) rfl _ 16 rfl rfl
      exact wp_value (.string st) (by unfold execOp; go_simp) ⟨rfl, Below.refl _ _⟩
    | q + 6, ho => simp at ho
  case enA =>
    intro w2 hb2
    have HB := Lib.hid (below_grown hb2)
    clear hb2
    simp only [fill, Act.put]
    go_simp
    go_wp2_with fail
    go_ret
    exact ⟨rfl, HB.out⟩

set_option maxHeartbeats 8000000 in
set_option maxRecDepth 100000 in
theorem name_said (E : Nat → Nat → Bool) (r c : Nat) (h1 : 1 ≤ r) (h2 : r ≤ 8) (h3 : 1 ≤ c) (h4 : c ≤ 8) : ∀ (n : Nat) (l : List Nat), 1 ≤ l.length → l.length ≤ n + 1 → l.length ≤ 8 → (∀ x ∈ l, x < r) → Named E r c l (nameT E r c n l) := by
  intro n
  induction n with
  | zero =>
    intro l a1 a2 a3 hm
    obtain ⟨x, rfl⟩ := List.length_eq_one_iff.1 (show l.length = 1 by omega)
    exact name_one E r c h1 h2 h3 h4 x (hm x (by simp))
  | succ n ih =>
    intro l a1 a2 a3 hm
    by_cases a4 : l.length = 1
    · obtain ⟨x, rfl⟩ := List.length_eq_one_iff.1 a4
      exact name_one E r c h1 h2 h3 h4 x (hm x (by simp))
    intro b o cap w hcap hb hl
    obtain ⟨H, hH⟩ : ∃ H, (l.length + 1) / 2 = H := ⟨_, rfl⟩
    have hH1 : 1 ≤ H := by omega
    have hH2 : H < l.length := by omega
    have hlt : (l.take H).length = H := by rw [List.length_take]; omega
    have hld : (l.drop H).length = l.length - H := by rw [List.length_drop]
    have iA := ih (l.take H) (by omega) (by omega) (by omega) (fun x hx => hm x (List.mem_of_mem_take hx))
    have iB := ih (l.drop H) (by omega) (by omega) (by omega) (fun x hx => hm x (List.mem_of_mem_drop hx))
    have nA := name_len E r c n (l.take H) (by omega) (by omega)
    have nB := name_len E r c n (l.drop H) (by omega) (by omega)
    rw [hlt] at nA
    rw [hld] at nB
    have hS := say_lt E r c (l.drop H) h2
    have hNN := fun W => said_node true (sayN E r c (l.drop H)) hS (nameT E r c n (l.take H)) (nameT E r c n (l.drop H)) (by omega) (by omega) W
    have HRT : nameT E r c (n + 1) l = .say true (sayN E r c (l.drop H)) (nameT E r c n (l.take H)) (nameT E r c n (l.drop H)) := by
      show (if l.length = 1 then _ else _) = _
      rw [if_neg a4, hH]
    rw [HRT]
    clear HRT nA nB hS ih
    obtain ⟨tA, htA⟩ : ∃ t, nameT E r c n (l.take H) = t := ⟨_, rfl⟩
    obtain ⟨tB, htB⟩ : ∃ t, nameT E r c n (l.drop H) = t := ⟨_, rfl⟩
    rw [htA] at iA
    rw [htB] at iB
    rw [htA, htB] at hNN ⊢
    clear htA htB
    have HA : Hid (∀ W : World, b < W.heap.size → (∀ (j : Nat) (hj : j < l.length), W.cell? ⟨b, o + j, none⟩ = some (.int .i64 (l[j] : Int))) → Calls Tryz.prog 36 #[mat r c (str (rowsB E r c)), .slice (some ⟨b, o, none⟩) H cap] W fun e w' => e = .returned (.string (str (text tA))) ∧ Below W.heap.size W w') := fun W g1 g2 => by
      have h := iA b o cap W (by omega) g1 (fun j hj => by rw [List.getElem_take]; exact g2 j (by omega))
      rw [hlt] at h
      exact h
    have HBn : Hid (∀ W : World, b < W.heap.size → (∀ (j : Nat) (hj : j < l.length), W.cell? ⟨b, o + j, none⟩ = some (.int .i64 (l[j] : Int))) → Calls Tryz.prog 36 #[mat r c (str (rowsB E r c)), .slice (some ⟨b, o + H, none⟩) (l.length - H) (cap - H)] W fun e w' => e = .returned (.string (str (text tB))) ∧ Below W.heap.size W w') := fun W g1 g2 => by
      have h := iB b (o + H) (cap - H) W (by omega) g1 (fun j hj => by rw [List.getElem_drop, Nat.add_assoc]; exact g2 (H + j) (by omega))
      rw [hld] at h
      exact h
    have HSAY : Hid (sayN E r c (l.drop H) = setB (anyRow E c (l.drop H)) r) := rfl
    obtain ⟨S, hSe⟩ : ∃ S, sayN E r c (l.drop H) = S := ⟨_, rfl⟩
    rw [hSe] at hNN HSAY ⊢
    obtain ⟨s3, hs3⟩ : ∃ q, str (text (.say true S tA tB)) = q := ⟨_, rfl⟩
    rw [hs3] at hNN ⊢
    have hNN2 : ∀ W : World, Calls Tryz.prog 74 #[.string ⟨#[65]⟩, .int .i64 (S : Int), .string (str (text tA)), .string (str (text tB))] W fun e w' => e = .returned (.string s3) ∧ Below W.heap.size W w' := hNN
    have HNN := Lib.hid hNN2
    clear iA iB hNN hNN2 hlt hld hSe hs3
    generalize str (text tA) = sA at *
    generalize str (text tB) = sB at *
    have HR : Hid (∀ (k : Nat), k < r → ∀ W, Calls Tryz.prog 73 #[mat r c (str (rowsB E r c)), .int .i64 (k : Int)] W fun e w' => e = .returned (.string (str (rowB E k c))) ∧ Below W.heap.size W w') := fun k hk W => row_any E r c k h2 h4 hk W
    have HSF : Hid (∀ i k, ((str (rowB E k c)).toList == (str (rowB E i c)).toList) = (rowB E i c == rowB E k c)) := fun i k => by
      rw [Bool.eq_iff_iff, beq_iff_eq, beq_iff_eq, ByteArray.toList_eq, ByteArray.toList_eq]
      constructor
      · intro e; exact (str_inj (ByteArray.ext (Array.ext' e))).symm
      · intro e; rw [e]
    generalize str (rowsB E r c) = s at *
    have HK : Hid (Nb w (w.alloc (.cells #[.int .i64 (r : Int), .int .i64 (c : Int), .string s] 24)) w.heap.size r c s b o l) := ⟨heap_alloc_new w _, by simp; omega, fun j hj => (((Below.refl w.heap.size w).alloc (Nat.le_refl _) _).cell (p := ⟨b, o + j, none⟩) hb).trans (hl j hj), (Below.refl w.heap.size w).alloc (Nat.le_refl _) _⟩
    have HHi : Hid (((l.length : Int) + 1) / 2 = (H : Int)) := by unfold Hid; omega
    have hLi : ¬ (l.length : Int) = 1 := by omega
    have hLb : ((l.length : Int) == 1) = false := by simpa using hLi
    have hL1 : IntKind.i64.wrap ((l.length : Int) + 1) = (l.length : Int) + 1 := by rw [IntKind.wrap_i64]; omega
    clear hl hb
    obtain ⟨B, hB⟩ : ∃ B, w.heap.size = B := ⟨_, rfl⟩
    go_enter Tryz.func36, Tryz.ntmps36
    go_wp2_with fail
    rw [hB] at HK
    try rw [hB]
    try simp only [hLb]
    go_loopw [6, 7] (fun t x wr => ∃ (k u : Nat), k ≤ r ∧ t = .int .i64 (u : Int) ∧ Hid (u = setB (anyRow E c (l.drop H)) k) ∧ x = .int .i64 (k : Int) ∧ Nb w wr B r c s b o l) (fun _ x _ => r - (intOf x).toNat)
    case atStart => exact ⟨0, 0, Nat.zero_le _, rfl, rfl, rfl, HK.out⟩
    case round =>
      clear HK
      obtain ⟨k, u, hk, rfl, hu, rfl, hnb⟩ := hrel
      have HK := Lib.hid hnb
      obtain ⟨m0, m1, m2⟩ := cells3 hnb.box
      clear hnb
      by_cases hlt : k < r
      · have hu8 : u < 256 := by rw [hu.out]; exact setB_lt8 _ k (by omega)
        have hX : 2 ^ k < 256 := Nat.lt_of_lt_of_le (Nat.pow_lt_pow_right (by decide) (show k < 8 by omega)) (by decide)
        go_wp2_with fail
        clear m0 m1 m2
        go_loopw [6, 8] (fun t i wr => ∃ (j v : Nat), H ≤ j ∧ j ≤ l.length ∧ t = .int .i64 (v : Int) ∧ Hid (v = upTo E c l H k u j) ∧ i = .int .i64 (j : Int) ∧ Nb w wr B r c s b o l) (fun _ i _ => l.length - (intOf i).toNat)
        case atStart => exact ⟨H, u, Nat.le_refl _, by omega, rfl, by unfold Hid; exact (upTo_start E c l H k u).symm, by rw [HHi.out], HK.out⟩
        case round =>
          clear HK
          obtain ⟨j, v, hj1, hj2, rfl, hv, rfl, hnb⟩ := hrel
          have HK := Lib.hid hnb
          have hcl := hnb.list j
          obtain ⟨m0, m1, m2⟩ := cells3 hnb.box
          have hblt := hnb.lt
          clear hnb
          by_cases hlt2 : j < l.length
          · have hwp := wrap_pow k (by omega)
            have hv8 : v < 256 := by rw [hv.out]; exact upTo_lt E c l H k u j hu8 hX
            have ho2 := or8 v (2 ^ k) hv8 hX
            have hx := hcl hlt2
            have hxm : l[j] < r := hm _ (List.getElem_mem hlt2)
            have hV := upTo_step E c l H k u j hlt2 hj1
            rw [← hv.out] at hV
            have HX := Lib.hid (HR.out k hlt)
            have HY := Lib.hid (HR.out l[j] hxm)
            have HE := HSF.out l[j] k
            generalize l[j] = y at *
            generalize str (rowB E k c) = sx at *
            generalize str (rowB E y c) = sy at *
            rw [← HE] at hV
            obtain ⟨q, hq⟩ : ∃ q, (sx.toList == sy.toList) = q := ⟨_, rfl⟩
            rw [hq] at hV
            have HQ := Lib.hid hq
            obtain ⟨X, hXe⟩ : ∃ X, 2 ^ k = X := ⟨_, rfl⟩
            rw [hXe] at hwp ho2 hV
            obtain ⟨vX, hvX⟩ : ∃ vX, v ||| X = vX := ⟨_, rfl⟩
            rw [hvX] at ho2 hV
            have HV := Lib.hid hV
            have HCL : Hid (∀ W' : World, Below wr.heap.size wr W' → W'.heap[B]? = some (.cells #[.int .i64 (r : Int), .int .i64 (c : Int), .string s] 24 (0, 0)) ∧ W'.cell? ⟨b, o + j, none⟩ = some (.int .i64 (y : Int))) := fun W' hb2 => ⟨(HK.out.later hb2).box, (hb2.cell (p := ⟨b, o + j, none⟩) hblt).trans hx⟩
            have hjl : (j : Int) < (l.length : Int) := by omega
            have hj0 : (0 : Int) ≤ (j : Int) := Int.natCast_nonneg j
            clear HE hq hV hcl hx hv hblt hXe hvX hxm
            go_wp2_with fail
            refine wp_region_below (fun | 0 => mat r c s | 1 => .int .i64 (k : Int) | 2 => .string sx | 3 => mat r c s | 4 => .slice (some ⟨b, o, none⟩) l.length cap | 5 => .int .i64 (j : Int) | 6 => .pointer (some ⟨b, o + j, none⟩) | 7 => .int .i64 (y : Int) | 8 => .string sy | 9 => .bool q | _ => undef) (by kernel_rfl) (by kernel_rfl) rfl ?conB ?enB
            case conB =>
              intro i oo ho a wx hb2 hf
              match i, ho with
              | 0, ho =>
                obtain rfl := Option.some.inj ho
                have b2 : a.tmps[2]?.getD undef = .pointer (some ⟨B, 0, none⟩) := hf.2 2 (by kernel_rfl)
                exact wp_load_row 24 (.tmp 2) rfl B (eval_get b2) 24 _ (0, 0) _ ((HCL.out _ hb2).1) Tryz.underlying24 rfl minfo ⟨rfl, Below.refl _ _⟩
              | 1, ho =>
                obtain rfl := Option.some.inj ho
                have b7 : a.tmps[7]?.getD undef = .int .i64 (k : Int) := hf.2 7 (by kernel_rfl)
                exact wp_value (.int .i64 (k : Int)) (by unfold execOp; go_simp) ⟨rfl, Below.refl _ _⟩
              | 2, ho =>
                obtain rfl := Option.some.inj ho
                have e34 : a.tmps[34]?.getD undef = mat r c s := hf.1 ⟨0, .data⟩ (by simp) rfl _ 34 rfl rfl
                have e35 : a.tmps[35]?.getD undef = .int .i64 (k : Int) := hf.1 ⟨1, .data⟩ (by simp) rfl _ 35 rfl rfl
                exact wp_enter 73 #[mat r c s, .int .i64 (k : Int)] (.string sx) _ (by unfold execOp; go_simp) (HX.out wx) (fun w' h => ⟨rfl, h⟩)
              | 3, ho =>
                obtain rfl := Option.some.inj ho
                have b2 : a.tmps[2]?.getD undef = .pointer (some ⟨B, 0, none⟩) := hf.2 2 (by kernel_rfl)
                exact wp_load_row 24 (.tmp 2) rfl B (eval_get b2) 24 _ (0, 0) _ ((HCL.out _ hb2).1) Tryz.underlying24 rfl minfo ⟨rfl, Below.refl _ _⟩
              | 4, ho =>
                obtain rfl := Option.some.inj ho
                have b1 : a.tmps[1]?.getD undef = .slice (some ⟨b, o, none⟩) l.length cap := hf.2 1 (by kernel_rfl)
                exact wp_value (.slice (some ⟨b, o, none⟩) l.length cap) (by unfold execOp; go_simp) ⟨rfl, Below.refl _ _⟩
              | 5, ho =>
                obtain rfl := Option.some.inj ho
                have b8 : a.tmps[8]?.getD undef = .int .i64 (j : Int) := hf.2 8 (by kernel_rfl)
                exact wp_value (.int .i64 (j : Int)) (by unfold execOp; go_simp) ⟨rfl, Below.refl _ _⟩
              | 6, ho =>
                obtain rfl := Option.some.inj ho
                have e38 : a.tmps[38]?.getD undef = .slice (some ⟨b, o, none⟩) l.length cap := hf.1 ⟨4, .data⟩ (by simp) rfl _ 38 rfl rfl
                have e39 : a.tmps[39]?.getD undef = .int .i64 (j : Int) := hf.1 ⟨5, .data⟩ (by simp) rfl _ 39 rfl rfl
                exact wp_value (.pointer (some ⟨b, o + j, none⟩)) (by unfold execOp; go_simp) ⟨rfl, Below.refl _ _⟩
              | 7, ho =>
                obtain rfl := Option.some.inj ho
                have e40 : a.tmps[40]?.getD undef = .pointer (some ⟨b, o + j, none⟩) := hf.1 ⟨6, .data⟩ (by simp) rfl _ 40 rfl rfl
                have cx := (HCL.out _ hb2).2
                exact wp_value (.int .i64 (y : Int)) (by unfold execOp; go_simp) ⟨rfl, Below.refl _ _⟩
              | 8, ho =>
                obtain rfl := Option.some.inj ho
                have e37 : a.tmps[37]?.getD undef = mat r c s := hf.1 ⟨3, .data⟩ (by simp) rfl _ 37 rfl rfl
                have e41 : a.tmps[41]?.getD undef = .int .i64 (y : Int) := hf.1 ⟨7, .data⟩ (by simp) rfl _ 41 rfl rfl
                exact wp_enter 73 #[mat r c s, .int .i64 (y : Int)] (.string sy) _ (by unfold execOp; go_simp) (HY.out wx) (fun w' h => ⟨rfl, h⟩)
              | 9, ho =>
                obtain rfl := Option.some.inj ho
                have e36 : a.tmps[36]?.getD undef = .string sx := hf.1 ⟨2, .data⟩ (by simp) rfl _ 36 rfl rfl
                have e42 : a.tmps[42]?.getD undef = .string sy := hf.1 ⟨8, .data⟩ (by simp) rfl _ 42 rfl rfl
                have cq := HQ.out
                exact wp_value (.bool q) (by unfold execOp; go_simp) ⟨rfl, Below.refl _ _⟩
              | q + 10, ho => simp at ho
            case enB =>
              intro w2 hb2
              have HK2 := Lib.hid (HK.out.later hb2)
              clear hb2 HCL HX HY HK m0 m1 m2
              simp only [fill, Act.put]
              go_simp
              cases q
              · go_wp2_with fail
                go_roundw
                case rel => exact ⟨j + 1, v, by omega, by omega, rfl, by unfold Hid; have h := HV.out; simpa using h, by go_num, HK2.out⟩
                case measure => simp [intOf]; omega
              · go_wp2_with fail
                go_roundw
                case rel => exact ⟨j + 1, vX, by omega, by omega, rfl, by unfold Hid; have h := HV.out; simpa using h, by go_num, HK2.out⟩
                case measure => simp [intOf]; omega
          · obtain rfl : j = l.length := by omega
            have HN : Hid (v = setB (anyRow E c (l.drop H)) (k + 1)) := by
              unfold Hid
              rw [hv.out, hu.out]
              exact upTo_all E c l H k
            clear hcl hv
            go_wp2_with fail
            go_roundw
            case rel => exact ⟨k + 1, v, by omega, rfl, HN.out, by go_num, HK.out⟩
            case measure => simp [intOf]; omega
      · obtain rfl : k = r := by omega
        have hu2 : u = S := by rw [HSAY.out]; exact hu.out
        rw [← hu2] at HNN
        clear hu hu2 HSAY HR HSF
        have HA2 : Hid (∀ W' : World, Below wr.heap.size wr W' → W'.heap[B]? = some (.cells #[.int .i64 (k : Int), .int .i64 (c : Int), .string s] 24 (0, 0)) ∧ b < W'.heap.size ∧ (∀ (j : Nat) (hj : j < l.length), W'.cell? ⟨b, o + j, none⟩ = some (.int .i64 (l[j] : Int)))) := fun W' hb2 => ⟨(HK.out.later hb2).box, (HK.out.later hb2).lt, (HK.out.later hb2).list⟩
        have n4 : ¬ cap = H := by omega
        have n5 : ¬ cap = 0 := by omega
        go_wp2_with fail
        refine wp_region_below (fun | 0 => .int .i64 (u : Int) | 1 => mat k c s | 2 => .slice (some ⟨b, o, none⟩) l.length cap | 3 => .int .i64 (H : Int) | 4 => .slice (some ⟨b, o, none⟩) H cap | 5 => .string sA | 6 => mat k c s | 7 => .slice (some ⟨b, o, none⟩) l.length cap | 8 => .int .i64 (H : Int) | 9 => .slice (some ⟨b, o + H, none⟩) (l.length - H) (cap - H) | 10 => .string sB | 11 => .string s3 | 12 => .string s3 | _ => undef) (by kernel_rfl) (by kernel_rfl) rfl ?conC ?enC
        case conC =>
          intro i oo ho a wx hb2 hf
          match i, ho with
          | 0, ho =>
            obtain rfl := Option.some.inj ho
            have b6 : a.tmps[6]?.getD undef = .int .i64 (u : Int) := hf.2 6 (by kernel_rfl)
            exact wp_value (.int .i64 (u : Int)) (by unfold execOp; go_simp) ⟨rfl, Below.refl _ _⟩
          | 1, ho =>
            obtain rfl := Option.some.inj ho
            have b2 : a.tmps[2]?.getD undef = .pointer (some ⟨B, 0, none⟩) := hf.2 2 (by kernel_rfl)
            exact wp_load_row 24 (.tmp 2) rfl B (eval_get b2) 24 _ (0, 0) _ ((HA2.out _ hb2).1) Tryz.underlying24 rfl minfo ⟨rfl, Below.refl _ _⟩
          | 2, ho =>
            obtain rfl := Option.some.inj ho
            have b1 : a.tmps[1]?.getD undef = .slice (some ⟨b, o, none⟩) l.length cap := hf.2 1 (by kernel_rfl)
            exact wp_value (.slice (some ⟨b, o, none⟩) l.length cap) (by unfold execOp; go_simp) ⟨rfl, Below.refl _ _⟩
          | 3, ho =>
            obtain rfl := Option.some.inj ho
            have b5 : a.tmps[5]?.getD undef = .int .i64 (H : Int) := (hf.2 5 (by kernel_rfl)).trans (congrArg (Value.int .i64) HHi.out)
            exact wp_value (.int .i64 (H : Int)) (by unfold execOp; go_simp) ⟨rfl, Below.refl _ _⟩
          | 4, ho =>
            obtain rfl := Option.some.inj ho
            have e51 : a.tmps[51]?.getD undef = .slice (some ⟨b, o, none⟩) l.length cap := hf.1 ⟨2, .data⟩ (by simp) rfl _ 51 rfl rfl
            have e52 : a.tmps[52]?.getD undef = .int .i64 (H : Int) := hf.1 ⟨3, .data⟩ (by simp) rfl _ 52 rfl rfl
            exact wp_value (.slice (some ⟨b, o, none⟩) H cap) (by unfold execOp; go_simp; intro hq; exact absurd hq (by omega)) ⟨rfl, Below.refl _ _⟩
          | 5, ho =>
            obtain rfl := Option.some.inj ho
            have e50 : a.tmps[50]?.getD undef = mat k c s := hf.1 ⟨1, .data⟩ (by simp) rfl _ 50 rfl rfl
            have e53 : a.tmps[53]?.getD undef = .slice (some ⟨b, o, none⟩) H cap := hf.1 ⟨4, .data⟩ (by simp) rfl _ 53 rfl rfl
            exact wp_enter 36 #[mat k c s, .slice (some ⟨b, o, none⟩) H cap] (.string sA) _ (by unfold execOp; go_simp) (HA.out wx (HA2.out _ hb2).2.1 (HA2.out _ hb2).2.2) (fun w' h => ⟨rfl, h⟩)
          | 6, ho =>
            obtain rfl := Option.some.inj ho
            have b2 : a.tmps[2]?.getD undef = .pointer (some ⟨B, 0, none⟩) := hf.2 2 (by kernel_rfl)
            exact wp_load_row 24 (.tmp 2) rfl B (eval_get b2) 24 _ (0, 0) _ ((HA2.out _ hb2).1) Tryz.underlying24 rfl minfo ⟨rfl, Below.refl _ _⟩
          | 7, ho =>
            obtain rfl := Option.some.inj ho
            have b1 : a.tmps[1]?.getD undef = .slice (some ⟨b, o, none⟩) l.length cap := hf.2 1 (by kernel_rfl)
            exact wp_value (.slice (some ⟨b, o, none⟩) l.length cap) (by unfold execOp; go_simp) ⟨rfl, Below.refl _ _⟩
          | 8, ho =>
            obtain rfl := Option.some.inj ho
            have b5 : a.tmps[5]?.getD undef = .int .i64 (H : Int) := (hf.2 5 (by kernel_rfl)).trans (congrArg (Value.int .i64) HHi.out)
            exact wp_value (.int .i64 (H : Int)) (by unfold execOp; go_simp) ⟨rfl, Below.refl _ _⟩
          | 9, ho =>
            obtain rfl := Option.some.inj ho
            have e56 : a.tmps[56]?.getD undef = .slice (some ⟨b, o, none⟩) l.length cap := hf.1 ⟨7, .data⟩ (by simp) rfl _ 56 rfl rfl
            have e57 : a.tmps[57]?.getD undef = .int .i64 (H : Int) := hf.1 ⟨8, .data⟩ (by simp) rfl _ 57 rfl rfl
            exact wp_value (.slice (some ⟨b, o + H, none⟩) (l.length - H) (cap - H)) (by unfold execOp; go_simp; intro hq; exact absurd hq (by omega)) ⟨rfl, Below.refl _ _⟩
          | 10, ho =>
            obtain rfl := Option.some.inj ho
            have e55 : a.tmps[55]?.getD undef = mat k c s := hf.1 ⟨6, .data⟩ (by simp) rfl _ 55 rfl rfl
            have e58 : a.tmps[58]?.getD undef = .slice (some ⟨b, o + H, none⟩) (l.length - H) (cap - H) := hf.1 ⟨9, .data⟩ (by simp) rfl _ 58 rfl rfl
            exact wp_enter 36 #[mat k c s, .slice (some ⟨b, o + H, none⟩) (l.length - H) (cap - H)] (.string sB) _ (by unfold execOp; go_simp) (HBn.out wx (HA2.out _ hb2).2.1 (HA2.out _ hb2).2.2) (fun w' h => ⟨rfl, h⟩)
          | 11, ho =>
            obtain rfl := Option.some.inj ho
            have e49 : a.tmps[49]?.getD undef = .int .i64 (u : Int) := hf.1 ⟨0, .data⟩ (by simp) rfl _ 49 rfl rfl
            have e54 : a.tmps[54]?.getD undef = .string sA := hf.1 ⟨5, .data⟩ (by simp) rfl _ 54 rfl rfl
            have e59 : a.tmps[59]?.getD undef = .string sB := hf.1 ⟨10, .data⟩ (by simp) rfl _ 59 rfl rfl
            exact wp_enter 74 #[.string ⟨#[65]⟩, .int .i64 (u : Int), .string sA, .string sB] (.string s3) _ (by unfold execOp; go_simp) (HNN.out wx) (fun w' h => ⟨rfl, h⟩)
          | 12, ho =>
            obtain rfl := Option.some.inj ho
            have e60 : a.tmps[60]?.getD undef = .string s3 := hf.1 ⟨11, .data⟩ (by simp) rfl _ 60 rfl rfl
            exact wp_value (.string s3) (by unfold execOp; go_simp) ⟨rfl, Below.refl _ _⟩
          | q + 13, ho => simp at ho
        case enC =>
          intro w2 hb2
          have HK2 := Lib.hid (HK.out.later hb2)
          clear hb2
          simp only [fill, Act.put]
          go_simp
          go_wp2_with fail
          go_ret
          exact ⟨rfl, HK2.out.below⟩
end Go.Proofs.YtffilggpimdikaaGreatDoor.SaidName

/-
  The program's sayRows, sayEntry and byHalves.
-/
namespace Go.Proofs.YtffilggpimdikaaGreatDoor.NameI
open Go.RowKit Go.Proofs.YtffilggpimdikaaGreatDoor.Plain Go.Proofs.YtffilggpimdikaaGreatDoor.Base Go.Proofs.YtffilggpimdikaaGreatDoor.Valid Go.Proofs.YtffilggpimdikaaGreatDoor.Law Go.Proofs.YtffilggpimdikaaGreatDoor.GridPlain Go.Proofs.YtffilggpimdikaaGreatDoor.Grid Go.Proofs.YtffilggpimdikaaGreatDoor.Entry Go.Proofs.YtffilggpimdikaaGreatDoor.App Go.Proofs.YtffilggpimdikaaGreatDoor.First Go.Proofs.YtffilggpimdikaaGreatDoor.Line Go.Proofs.YtffilggpimdikaaGreatDoor.FreeL Go.Proofs.YtffilggpimdikaaGreatDoor.Pat Go.Proofs.YtffilggpimdikaaGreatDoor.Tree Go.Proofs.YtffilggpimdikaaGreatDoor.Read Go.Proofs.YtffilggpimdikaaGreatDoor.Rect Go.Proofs.YtffilggpimdikaaGreatDoor.TurnC Go.Proofs.YtffilggpimdikaaGreatDoor.TrimT Go.Proofs.YtffilggpimdikaaGreatDoor.TrimI Go.Proofs.YtffilggpimdikaaGreatDoor.NameT Go.Proofs.YtffilggpimdikaaGreatDoor.NameC
open Go.Proofs.YtffilggpimdikaaGreatDoor.NodeH (there_row all2 all4 info_two)
open Go.Proofs.YtffilggpimdikaaGreatDoor.Count (cells4)
open Go.Proofs.YtffilggpimdikaaGreatDoor.NameC (eval_get)
open Go.Proofs.YtffilggpimdikaaGreatDoor.Where (wrap8 where_any Says)
open Go.Proofs.YtffilggpimdikaaGreatDoor.Free (fill wp_value wp_enter wp_load_row freeB)
set_option linter.unusedVariables false
set_option linter.unusedSimpArgs false

/-- a line is its row's bytes -/
theorem same_row (F : Nat → Nat → Bool) (c x1 x2 : Nat) (hc8 : c ≤ 8) (g h : Nat → Int) (hg : ∀ i, i < 8 → g i = if i < c then bitI (F x1 i) else 0) (hh : ∀ i, i < 8 → h i = if i < c then bitI (F x2 i) else 0) :
    sameL g h = (rowB F x1 c == rowB F x2 c) := by
  have e1 : sameL g h = true ↔ ∀ i, i < c → F x1 i = F x2 i := by
    unfold sameL
    rw [List.all_eq_true]
    constructor
    · intro h1 i hi
      have := h1 i (List.mem_range.2 (by omega))
      rw [beq_iff_eq, hg i (by omega), hh i (by omega), if_pos hi, if_pos hi] at this
      revert this
      cases F x1 i <;> cases F x2 i <;> simp [bitI]
    · intro h1 i hi
      have h8 := List.mem_range.1 hi
      rw [beq_iff_eq, hg i h8, hh i h8]
      by_cases hic : i < c
      · rw [if_pos hic, if_pos hic, h1 i hic]
      · rw [if_neg hic, if_neg hic]
  have e2 : (rowB F x1 c == rowB F x2 c) = true ↔ ∀ i, i < c → F x1 i = F x2 i := by
    rw [beq_iff_eq]
    constructor
    · intro h1 i hi
      have := congrArg (fun l : List UInt8 => l[i]?) h1
      simp only [rowB_get F x1 c i hi, rowB_get F x2 c i hi, Option.some.injEq] at this
      revert this
      cases F x1 i <;> cases F x2 i <;> simp [dig]
    · intro h1
      unfold rowB
      refine List.map_congr_left fun i hi => ?_
      rw [h1 i (List.mem_range.1 hi)]
  rw [Bool.eq_iff_iff, e1, e2]
theorem grid_row (E : Nat → Nat → Bool) (r c x i : Nat) (hx : x < r) (hi : i < 8) (hc8 : c ≤ 8) : gpart E c (r * c) (x * 8 + i) = if i < c then bitI (E x i) else 0 := by
  by_cases h : i < c
  · rw [if_pos h, Nat.mul_comm x 8]
    exact gpart_all E r c x i hx h hc8
  · rw [if_neg h]
    unfold gpart
    rw [if_neg]
    have : (x * 8 + i) % 8 = i := by omega
    omega
theorem any_rows (E : Nat → Nat → Bool) (r c : Nat) (hc8 : c ≤ 8) (l : List Nat) (hl : ∀ x ∈ l, x < r) (x : Nat) (hx : x < r) : (l.any fun j => sameL (ln (gpart E c (r * c)) j) (ln (gpart E c (r * c)) x)) = anyRow E c l x := by
  unfold anyRow
  rw [Bool.eq_iff_iff, List.any_eq_true, List.any_eq_true]
  have h : ∀ j ∈ l, sameL (ln (gpart E c (r * c)) j) (ln (gpart E c (r * c)) x) = (rowB E j c == rowB E x c) := fun j hj =>
    same_row E c j x hc8 _ _ (fun i hi => grid_row E r c j i (hl j hj) hi hc8) (fun i hi => grid_row E r c x i hx hi hc8)
  constructor
  · rintro ⟨j, hj, e⟩
    exact ⟨j, hj, by rw [← h j hj]; exact e⟩
  · rintro ⟨j, hj, e⟩
    exact ⟨j, hj, by rw [h j hj]; exact e⟩
theorem info_four (a b c d : Value) : (Tryz.prog.info? 93).map (·.size) = some (#[a, b, c, d] : Array Value).size := by kernel_rfl
theorem all4n (a b : Int) : (#[.int .u8 a, .int .i64 b, .nilIface, .nilIface] : Array Value).all (·.oneCell') = true := by simp [Value.oneCell']
/-- a slice of these numbers lies there -/
structure Ls (W : World) (b o : Nat) (l : List Nat) : Prop where
  lt : b < W.heap.size
  list : ∀ (j : Nat) (hj : j < l.length), W.cell? ⟨b, o + j, none⟩ = some (.int .i64 (l[j] : Int))
theorem Ls.later {W W' : World} {b o : Nat} {l : List Nat} (h : Ls W b o l) (hb : Below W.heap.size W W') : Ls W' b o l :=
  ⟨Nat.lt_of_lt_of_le h.lt hb.size, fun j hj => (hb.cell (p := ⟨b, o + j, none⟩) h.lt).trans (h.list j hj)⟩

set_option maxHeartbeats 4000000 in
set_option maxRecDepth 100000 in
theorem say_rows (E : Nat → Nat → Bool) (r c : Nat) (h1 : 1 ≤ r) (h2 : r ≤ 8) (h3 : 1 ≤ c) (h4 : c ≤ 8) (l : List Nat) (hlen : l.length ≤ 8) (hl : ∀ x ∈ l, x < r) (b o cap : Nat) (w : World) (hs : Ls w b o l) :
    Calls Tryz.prog 33 #[gval r c (gpart E c (r * c)), .slice (some ⟨b, o, none⟩) l.length cap] w fun e w' => e = .returned (.agg #[.int .u8 65, .int .i64 (sayN E r c l : Int), .nilIface, .nilIface]) ∧ Below w.heap.size w w' := by
  obtain ⟨W3, hW3⟩ : ∃ W3, W3 = ((w.alloc (.cells (gcells r c (gpart E c (r * c))) 52)).alloc (.cells #[.slice (some ⟨b, o, none⟩) l.length cap] 58)).alloc (.cells #[.int .u8 0, .int .i64 0, .nilIface, .nilIface] 93) := ⟨_, rfl⟩
  have b3 : Below w.heap.size w W3 := by rw [hW3]; exact (((Below.refl w.heap.size w).alloc (Nat.le_refl _) _).alloc (by simp) _).alloc (by simp; omega) _
  have e1 : W3.heap[w.heap.size]? = some (.cells (gcells r c (gpart E c (r * c))) 52 (0, 0)) := by
    rw [hW3, Below.heap_alloc _ _ _ (by simp; omega), Below.heap_alloc _ _ _ (by simp)]; exact heap_alloc_new w _
  have e2 : W3.heap[w.heap.size + 1]? = some (.cells #[.slice (some ⟨b, o, none⟩) l.length cap] 58 (0, 0)) := by
    have h := heap_alloc_new (w.alloc (.cells (gcells r c (gpart E c (r * c))) 52)) (.cells #[.slice (some ⟨b, o, none⟩) l.length cap] 58)
    rw [World.size_alloc] at h
    rw [hW3, Below.heap_alloc _ _ _ (by simp)]; exact h
  have e3 : W3.heap[w.heap.size + 2]? = some (.cells #[.int .u8 0, .int .i64 0, .nilIface, .nilIface] 93 (0, 0)) := by
    have h := heap_alloc_new ((w.alloc (.cells (gcells r c (gpart E c (r * c))) 52)).alloc (.cells #[.slice (some ⟨b, o, none⟩) l.length cap] 58)) (.cells #[.int .u8 0, .int .i64 0, .nilIface, .nilIface] 93)
    rw [World.size_alloc, World.size_alloc] at h
    rw [hW3]; exact h
  have hsz : W3.heap.size = w.heap.size + 3 := by rw [hW3]; simp
  have hk : Kb W3 (w.heap.size + 1) w.heap.size b o cap r c (gpart E c (r * c)) l :=
    ⟨cell_of_row _ _ 0 _ _ _ e2, by omega, e1, (hs.later b3).lt, (hs.later b3).list⟩
  have hsay : Says 66 #[.pointer (some ⟨w.heap.size + 1, 0, none⟩), .pointer (some ⟨w.heap.size, 0, none⟩)] r (anyRow E c l) W3 := fun W x hx hb => by
    have h := rows_clos r c (gpart E c (r * c)) l hlen (fun x hx => by have := hl x hx; omega) x (by omega) _ _ b o cap W (hk.later hb)
    rw [any_rows E r c h4 l hl x hx] at h
    exact h
  have HS := Lib.hid (where_any 66 #[.pointer (some ⟨w.heap.size + 1, 0, none⟩), .pointer (some ⟨w.heap.size, 0, none⟩)] r h2 (anyRow E c l) W3 rows_clos_enters (Lib.hid hsay))
  have HN : Hid (setB (anyRow E c l) r = sayN E r c l) := rfl
  have c0 : W3.cell? ⟨w.heap.size, 0, none⟩ = some (.int .i64 (r : Int)) := cell_of_row _ _ 0 _ _ _ e1
  have HB3 := Lib.hid b3
  have HE3 := Lib.hid e3
  have HSZ := Lib.hid hsz
  rw [hW3] at c0
  have HW3 := Lib.hid hW3
  clear hk hsay b3 e1 e2 e3 hsz hW3 hs
  go_enter Tryz.func33, Tryz.ntmps33
  go_wp2_with fail
  rw [← HW3.out]
  clear c0
  refine HS.out.mono ?_
  rintro e w4 ⟨rfl, hb4⟩
  rw [HN.out]
  have k4 := (hb4.block _ (Array.getElem?_eq_some_iff.1 HE3.out).1).trans HE3.out
  have HB4 := Lib.hid (HB3.out.trans (hb4.mono HB3.out.size))
  have HK4 := Lib.hid k4
  clear hb4 k4
  go_wp2_with (have X := HK4.out; refine wpList_store_row rfl 93 (.tmp 4) (.tmp 9) rfl (w.heap.size + 2) _ rfl rfl 93 _ X (info_four _ _ _ _) rfl (all4n _ _) ?_; clear X)
  refine bodyPost_ret (v := .agg #[.int .u8 65, .int .i64 (sayN E r c l : Int), .nilIface, .nilIface]) (results_cell_row Tryz.results33 _ _ (w.heap.size + 2) 93 _ (0, 0) _ rfl (setRow_at HK4.out _) Tryz.underlying93 rfl (info_four _ _ _ _)) rfl ⟨rfl, below_setRow HB4.out (by omega) _⟩

/-- the boxes of sayEntry, and the bit that b says -/
structure Eb (w W : World) (r c : Nat) (E : Nat → Nat → Bool) (g h B x u : Nat) : Prop where
  grid : W.heap[g]? = some (.cells (gcells r c (gpart E c (r * c))) 52 (0, 0))
  row : W.heap[h]? = some (.cells #[.int .i64 (x : Int)] 3 (0, 0))
  bit : W.heap[B]? = some (.cells #[.int .u8 66, .int .i64 (u : Int), .iface 81 (.int .i64 0), .iface 81 (.int .i64 1)] 93 (0, 0))
  below : Below w.heap.size w W
theorem Eb.later {w W W' : World} {r c : Nat} {E : Nat → Nat → Bool} {g h B x u : Nat} (e : Eb w W r c E g h B x u) (hb : Below W.heap.size W W') : Eb w W' r c E g h B x u :=
  ⟨(hb.block _ (Array.getElem?_eq_some_iff.1 e.grid).1).trans e.grid, (hb.block _ (Array.getElem?_eq_some_iff.1 e.row).1).trans e.row, (hb.block _ (Array.getElem?_eq_some_iff.1 e.bit).1).trans e.bit, e.below.trans (hb.mono e.below.size)⟩
theorem wrap_pow (x : Nat) (hx : x ≤ 8) : IntKind.i64.wrap (2 ^ x) = ((2 ^ x : Nat) : Int) := by
  have h8 : (2 : Nat) ^ x ≤ 256 := Nat.le_trans (Nat.pow_le_pow_right (by decide) hx) (by decide)
  rw [show ((2 : Int) ^ x) = ((2 ^ x : Nat) : Int) by simp]
  exact wrap8 _ h8

set_option maxHeartbeats 4000000 in
set_option maxRecDepth 100000 in
theorem say_entry (E : Nat → Nat → Bool) (r c : Nat) (h1 : 1 ≤ r) (h2 : r ≤ 8) (h3 : 1 ≤ c) (h4 : c ≤ 8) (x : Nat) (hx : x < r) (w : World) :
    Calls Tryz.prog 34 #[gval r c (gpart E c (r * c)), .int .i64 (x : Int)] w fun e w' => e = .returned (tree (replyT E c x)) ∧ Below w.heap.size w w' := by
  obtain ⟨W3, hW3⟩ : ∃ W3, W3 = (w.alloc (.cells (gcells r c (gpart E c (r * c))) 52)).alloc (.cells #[.int .i64 (x : Int)] 3) := ⟨_, rfl⟩
  have b3 : Below w.heap.size w W3 := by rw [hW3]; exact ((Below.refl w.heap.size w).alloc (Nat.le_refl _) _).alloc (by simp) _
  have e1 : W3.heap[w.heap.size]? = some (.cells (gcells r c (gpart E c (r * c))) 52 (0, 0)) := by
    rw [hW3, Below.heap_alloc _ _ _ (by simp)]; exact heap_alloc_new w _
  have e2 : W3.heap[w.heap.size + 1]? = some (.cells #[.int .i64 (x : Int)] 3 (0, 0)) := by
    have h := heap_alloc_new (w.alloc (.cells (gcells r c (gpart E c (r * c))) 52)) (.cells #[.int .i64 (x : Int)] 3)
    rw [World.size_alloc] at h
    rw [hW3]; exact h
  have hsz : W3.heap.size = w.heap.size + 2 := by rw [hW3]; simp
  have hsay : Says 68 #[.pointer (some ⟨w.heap.size, 0, none⟩), .pointer (some ⟨w.heap.size + 1, 0, none⟩)] c (fun y => E x y) W3 := fun W y hy hb =>
    entry_clos r c E h2 h4 w.heap.size (w.heap.size + 1) x y hx hy W ((hb.block _ (by omega)).trans e1) (cell_of_row _ _ 0 _ _ _ ((hb.block _ (by omega)).trans e2))
  have HS := Lib.hid (where_any 68 #[.pointer (some ⟨w.heap.size, 0, none⟩), .pointer (some ⟨w.heap.size + 1, 0, none⟩)] c h4 (fun y => E x y) W3 entry_clos_enters (Lib.hid hsay))
  have HN : Hid (setB (fun y => E x y) c = onesN E c x) := rfl
  have hul := ones_lt E c x h4
  have hX : 2 ^ x < 256 := Nat.lt_of_lt_of_le (Nat.pow_lt_pow_right (by decide) (show x < 8 by omega)) (by decide)
  have hY : 2 ^ c ≤ 256 := Nat.le_trans (Nat.pow_le_pow_right (by decide) h4) (by decide)
  have hX1 : 0 < 2 ^ x := Nat.two_pow_pos x
  have hY1 : 2 ≤ 2 ^ c := Nat.le_trans (by decide : 2 ≤ 2 ^ 1) (Nat.pow_le_pow_right (by decide) h3)
  have hT0 := say_trim false (onesN E c x) (.leaf false) (.leaf true) (trim_to _) (trim_to _)
  have HT : Hid (∀ W : World, Calls Tryz.prog 69 #[.agg #[.int .u8 66, .int .i64 (onesN E c x : Int), .iface 81 (.int .i64 0), .iface 81 (.int .i64 1)], rect ((2 ^ x : Nat) : Int) ((2 ^ c - 1 : Nat) : Int)] W fun e w' => e = .returned (tree (replyT E c x)) ∧ Below W.heap.size W w') := fun W => by
    have h := hT0 (2 ^ x) (2 ^ c - 1) W hX (by omega) hX1 (by omega)
    rw [trim_reply E c x h4] at h
    exact h
  have hw := wrap_pow x (by omega)
  have hwc := wrap_pow c h4
  obtain ⟨X, hXe⟩ : ∃ X : Nat, X = 2 ^ x := ⟨_, rfl⟩
  obtain ⟨Y, hYe⟩ : ∃ Y : Nat, Y = 2 ^ c := ⟨_, rfl⟩
  rw [← hXe] at hw hX HT
  rw [← hYe] at hwc hY HT hY1
  have hwy : IntKind.i64.wrap ((Y : Int) - 1) = ((Y - 1 : Nat) : Int) := by
    have : (Y : Int) - 1 = ((Y - 1 : Nat) : Int) := by omega
    rw [this]
    exact wrap8 _ (by omega)
  generalize Y - 1 = Z at *
  have c0 : W3.cell? ⟨w.heap.size, 1, none⟩ = some (.int .i64 (c : Int)) := cell_of_row _ _ 1 _ _ _ e1
  have HB3 := Lib.hid b3
  have HE1 := Lib.hid e1
  have HE2 := Lib.hid e2
  rw [hW3] at c0
  have HW3 := Lib.hid hW3
  have HRes : Hid (∃ q, tree (replyT E c x) = q) := ⟨_, rfl⟩
  obtain ⟨ty, tv, hty⟩ := tree_iface (replyT E c x)
  rw [hty] at HT ⊢
  clear hsay b3 e1 e2 hsz hW3 hT0 hXe hYe hty HRes hX1
  go_enter Tryz.func34, Tryz.ntmps34
  go_wp2_with fail
  rw [← HW3.out]
  clear c0
  refine HS.out.mono ?_
  rintro e w4 ⟨rfl, hb4⟩
  rw [HN.out]
  obtain ⟨u, hu⟩ : ∃ u, onesN E c x = u := ⟨_, rfl⟩
  rw [hu] at HT hul ⊢
  have k1 := (hb4.block _ (Array.getElem?_eq_some_iff.1 HE1.out).1).trans HE1.out
  have k2 := (hb4.block _ (Array.getElem?_eq_some_iff.1 HE2.out).1).trans HE2.out
  have HB4 := Lib.hid (HB3.out.trans (hb4.mono HB3.out.size))
  obtain ⟨B, hB⟩ : ∃ B, w4.heap.size = B := ⟨_, rfl⟩
  have n1 := heap_alloc_new w4 (.cells #[.int .u8 66, .int .i64 (u : Int), .iface 81 (.int .i64 0), .iface 81 (.int .i64 1)] 93)
  rw [hB] at n1
  have HE : Hid (Eb w (w4.alloc (.cells #[.int .u8 66, .int .i64 (u : Int), .iface 81 (.int .i64 0), .iface 81 (.int .i64 1)] 93)) r c E w.heap.size (w.heap.size + 1) B x u) :=
    ⟨(heap_alloc_old w4 _ (Array.getElem?_eq_some_iff.1 k1).1).trans k1, (heap_alloc_old w4 _ (Array.getElem?_eq_some_iff.1 k2).1).trans k2, n1, HB4.out.alloc HB4.out.size _⟩
  clear hb4 k1 k2 n1 HS HW3 HB3 HE1 HE2 HN HB4 hu
  obtain ⟨g, hg⟩ : ∃ g, w.heap.size = g := ⟨_, rfl⟩
  rw [hg] at HE
  go_wp2_with fail
  generalize w4.alloc (.cells #[.int .u8 66, .int .i64 (u : Int), .iface 81 (.int .i64 0), .iface 81 (.int .i64 1)] 93) = w5 at *
  refine wp_region_below (fun | 0 => .agg #[.int .u8 66, .int .i64 (u : Int), .iface 81 (.int .i64 0), .iface 81 (.int .i64 1)] | 1 => .int .i64 (x : Int) | 2 => .int .i64 (X : Int) | 3 => .pointer (some ⟨g, 1, none⟩) | 4 => .int .i64 (c : Int) | 5 => .int .i64 (Y : Int) | 6 => .int .i64 (Z : Int) | 7 => rect (X : Int) (Z : Int) | 8 => .iface ty tv | 9 => .iface ty tv | _ => undef) (by kernel_rfl) (by kernel_rfl) rfl ?conA ?enA
  case conA =>
    intro i oo ho a wx hb2 hf
    match i, ho with
    | 0, ho =>
      obtain rfl := Option.some.inj ho
      have b6 : a.tmps[6]?.getD undef = .pointer (some ⟨B, 0, none⟩) := hf.2 6 (by kernel_rfl)
      exact wp_load_row 93 (.tmp 6) rfl B (eval_get b6) 93 _ (0, 0) _ ((HE.out.later hb2).bit) Tryz.underlying93 rfl (info_four _ _ _ _) ⟨rfl, Below.refl _ _⟩
    | 1, ho =>
      obtain rfl := Option.some.inj ho
      have b3 : a.tmps[3]?.getD undef = .pointer (some ⟨g + 1, 0, none⟩) := hf.2 3 (by kernel_rfl)
      have cx : wx.cell? ⟨g + 1, 0, none⟩ = some (.int .i64 (x : Int)) := cell_of_row _ _ 0 _ _ _ (HE.out.later hb2).row
      exact wp_value (.int .i64 (x : Int)) (by unfold execOp; go_simp) ⟨rfl, Below.refl _ _⟩
    | 2, ho =>
      obtain rfl := Option.some.inj ho
      have e17 : a.tmps[17]?.getD undef = .int .i64 (x : Int) := hf.1 ⟨1, .data⟩ (by simp) rfl _ 17 rfl rfl
      exact wp_value (.int .i64 (X : Int)) (by unfold execOp; go_simp) ⟨rfl, Below.refl _ _⟩
    | 3, ho =>
      obtain rfl := Option.some.inj ho
      have b2 : a.tmps[2]?.getD undef = .pointer (some ⟨g, 0, none⟩) := hf.2 2 (by kernel_rfl)
      exact wp_value (.pointer (some ⟨g, 1, none⟩)) (by unfold execOp; go_simp) ⟨rfl, Below.refl _ _⟩
    | 4, ho =>
      obtain rfl := Option.some.inj ho
      have e19 : a.tmps[19]?.getD undef = .pointer (some ⟨g, 1, none⟩) := hf.1 ⟨3, .data⟩ (by simp) rfl _ 19 rfl rfl
      have cc : wx.cell? ⟨g, 1, none⟩ = some (.int .i64 (c : Int)) := cell_of_row _ _ 1 _ _ _ (HE.out.later hb2).grid
      exact wp_value (.int .i64 (c : Int)) (by unfold execOp; go_simp) ⟨rfl, Below.refl _ _⟩
    | 5, ho =>
      obtain rfl := Option.some.inj ho
      have e20 : a.tmps[20]?.getD undef = .int .i64 (c : Int) := hf.1 ⟨4, .data⟩ (by simp) rfl _ 20 rfl rfl
      exact wp_value (.int .i64 (Y : Int)) (by unfold execOp; go_simp) ⟨rfl, Below.refl _ _⟩
    | 6, ho =>
      obtain rfl := Option.some.inj ho
      have e21 : a.tmps[21]?.getD undef = .int .i64 (Y : Int) := hf.1 ⟨5, .data⟩ (by simp) rfl _ 21 rfl rfl
      exact wp_value (.int .i64 (Z : Int)) (by unfold execOp; go_simp) ⟨rfl, Below.refl _ _⟩
    | 7, ho =>
      obtain rfl := Option.some.inj ho
      have e18 : a.tmps[18]?.getD undef = .int .i64 (X : Int) := hf.1 ⟨2, .data⟩ (by simp) rfl _ 18 rfl rfl
      have e22 : a.tmps[22]?.getD undef = .int .i64 (Z : Int) := hf.1 ⟨6, .data⟩ (by simp) rfl _ 22 rfl rfl
      exact wp_value (rect (X : Int) (Z : Int)) (by unfold execOp; go_simp) ⟨rfl, Below.refl _ _⟩
    | 8, ho =>
      obtain rfl := Option.some.inj ho
      have e16 : a.tmps[16]?.getD undef = .agg #[.int .u8 66, .int .i64 (u : Int), .iface 81 (.int .i64 0), .iface 81 (.int .i64 1)] := hf.1 ⟨0, .data⟩ (by simp) rfl _ 16 rfl rfl
      have e23 : a.tmps[23]?.getD undef = rect (X : Int) (Z : Int) := hf.1 ⟨7, .data⟩ (by simp) rfl _ 23 rfl rfl
      exact wp_enter 69 #[.agg #[.int .u8 66, .int .i64 (u : Int), .iface 81 (.int .i64 0), .iface 81 (.int .i64 1)], rect (X : Int) (Z : Int)] (.iface ty tv) _ (by unfold execOp; go_simp) (HT.out wx) (fun w' h => ⟨rfl, h⟩)
    | 9, ho =>
      obtain rfl := Option.some.inj ho
      have e24 : a.tmps[24]?.getD undef = .iface ty tv := hf.1 ⟨8, .data⟩ (by simp) rfl _ 24 rfl rfl
      exact wp_value (.iface ty tv) (by unfold execOp; go_simp) ⟨rfl, Below.refl _ _⟩
    | q + 10, ho => simp at ho
  case enA =>
    intro w6 hb6
    have HE6 := Lib.hid (HE.out.later hb6)
    clear hb6
    simp only [fill, Act.put]
    go_simp
    go_wp2_with fail
    go_ret
    exact ⟨rfl, HE6.out.below⟩

theorem rows_enters (args : Array Value) (W : World) : (callFunc 33 args).run Tryz.prog W = .ok (.enter 33 args) W := by kernel_rfl
theorem entry_enters (args : Array Value) (W : World) : (callFunc 34 args).run Tryz.prog W = .ok (.enter 34 args) W := by kernel_rfl

def Halved (E : Nat → Nat → Bool) (r c : Nat) (l : List Nat) (t : T) : Prop :=
  ∀ (b o cap : Nat) (w : World), l.length ≤ cap → Ls w b o l →
    Calls Tryz.prog 30 #[.slice (some ⟨b, o, none⟩) l.length cap, .func (.func 33) #[gval r c (gpart E c (r * c))] #[], .func (.func 34) #[gval r c (gpart E c (r * c))] #[]] w fun e w' => e = .returned (tree t) ∧ Below w.heap.size w w'

set_option maxHeartbeats 2000000 in
set_option maxRecDepth 100000 in
theorem half_one (E : Nat → Nat → Bool) (r c : Nat) (h1 : 1 ≤ r) (h2 : r ≤ 8) (h3 : 1 ≤ c) (h4 : c ≤ 8) (x : Nat) (hx : x < r) : Halved E r c [x] (replyT E c x) := by
  intro b o cap w hcap hs
  have HE := Lib.hid (fun W => say_entry E r c h1 h2 h3 h4 x hx W)
  have c0 := hs.list 0 (by simp)
  have c1 : w.cell? ⟨b, o, none⟩ = some (.int .i64 (x : Int)) := c0
  have he := entry_enters
  generalize gval r c (gpart E c (r * c)) = gvv at *
  clear hs c0
  show Calls _ _ #[.slice (some ⟨b, o, none⟩) 1 cap, _, _] _ _
  go_enter Tryz.func30, Tryz.ntmps30
  go_wp2_with fail
  refine (HE.out _).mono ?_
  rintro e w1 ⟨rfl, hb1⟩
  have HB := Lib.hid hb1
  clear hb1
  go_wp2_with fail
  go_ret
  exact ⟨rfl, HB.out⟩

/-- the list and the bit's block -/
structure Hv (w W : World) (b o : Nat) (l : List Nat) (B S : Nat) : Prop where
  node : W.heap[B]? = some (.cells #[.int .u8 65, .int .i64 (S : Int), .nilIface, .nilIface] 93 (0, 0))
  list : Ls W b o l
  below : Below w.heap.size w W
theorem Hv.later {w W W' : World} {b o : Nat} {l : List Nat} {B S : Nat} (h : Hv w W b o l B S) (hb : Below W.heap.size W W') : Hv w W' b o l B S :=
  ⟨(hb.block _ (Array.getElem?_eq_some_iff.1 h.node).1).trans h.node, h.list.later hb, h.below.trans (hb.mono h.below.size)⟩

set_option maxHeartbeats 8000000 in
set_option maxRecDepth 100000 in
theorem halved (E : Nat → Nat → Bool) (r c : Nat) (h1 : 1 ≤ r) (h2 : r ≤ 8) (h3 : 1 ≤ c) (h4 : c ≤ 8) : ∀ (n : Nat) (l : List Nat), 1 ≤ l.length → l.length ≤ n + 1 → l.length ≤ 8 → (∀ x ∈ l, x < r) → Halved E r c l (nameT E r c n l) := by
  intro n
  induction n with
  | zero =>
    intro l a1 a2 a3 hm
    obtain ⟨x, rfl⟩ := List.length_eq_one_iff.1 (show l.length = 1 by omega)
    exact half_one E r c h1 h2 h3 h4 x (hm x (by simp))
  | succ n ih =>
    intro l a1 a2 a3 hm
    by_cases a4 : l.length = 1
    · obtain ⟨x, rfl⟩ := List.length_eq_one_iff.1 a4
      exact half_one E r c h1 h2 h3 h4 x (hm x (by simp))
    intro b o cap w hcap hs
    obtain ⟨H, hH⟩ : ∃ H, (l.length + 1) / 2 = H := ⟨_, rfl⟩
    have hH1 : 1 ≤ H := by omega
    have hH2 : H < l.length := by omega
    have hlt : (l.take H).length = H := by rw [List.length_take]; omega
    have hld : (l.drop H).length = l.length - H := by rw [List.length_drop]
    have hmB : ∀ x ∈ l.drop H, x < r := fun x hx => hm x (List.mem_of_mem_drop hx)
    have iA := ih (l.take H) (by omega) (by omega) (by omega) (fun x hx => hm x (List.mem_of_mem_take hx))
    have iB := ih (l.drop H) (by omega) (by omega) (by omega) hmB
    have lA : ∀ W, Ls W b o l → Ls W b o (l.take H) := fun W h => ⟨h.lt, fun j hj => by rw [List.getElem_take]; exact h.list j (by omega)⟩
    have lB : ∀ W, Ls W b o l → Ls W b (o + H) (l.drop H) := fun W h => ⟨h.lt, fun j hj => by rw [List.getElem_drop, Nat.add_assoc]; exact h.list (H + j) (by omega)⟩
    have HRT : nameT E r c (n + 1) l = .say true (sayN E r c (l.drop H)) (nameT E r c n (l.take H)) (nameT E r c n (l.drop H)) := by
      show (if l.length = 1 then _ else _) = _
      rw [if_neg a4, hH]
    rw [HRT]
    clear HRT ih
    have hS : ∀ W : World, Ls W b o l → Calls Tryz.prog 33 #[gval r c (gpart E c (r * c)), .slice (some ⟨b, o + H, none⟩) (l.length - H) (cap - H)] W fun e w' => e = .returned (.agg #[.int .u8 65, .int .i64 (sayN E r c (l.drop H) : Int), .nilIface, .nilIface]) ∧ Below W.heap.size W w' := fun W h => by
      have g := say_rows E r c h1 h2 h3 h4 (l.drop H) (by omega) hmB b (o + H) (cap - H) W (lB W h)
      rw [hld] at g
      exact g
    have hA : ∀ W : World, Ls W b o l → Calls Tryz.prog 30 #[.slice (some ⟨b, o, none⟩) H cap, .func (.func 33) #[gval r c (gpart E c (r * c))] #[], .func (.func 34) #[gval r c (gpart E c (r * c))] #[]] W fun e w' => e = .returned (tree (nameT E r c n (l.take H))) ∧ Below W.heap.size W w' := fun W h => by
      have g := iA b o cap W (by omega) (lA W h)
      rw [hlt] at g
      exact g
    have hB : ∀ W : World, Ls W b o l → Calls Tryz.prog 30 #[.slice (some ⟨b, o + H, none⟩) (l.length - H) (cap - H), .func (.func 33) #[gval r c (gpart E c (r * c))] #[], .func (.func 34) #[gval r c (gpart E c (r * c))] #[]] W fun e w' => e = .returned (tree (nameT E r c n (l.drop H))) ∧ Below W.heap.size W w' := fun W h => by
      have g := iB b (o + H) (cap - H) W (by omega) (lB W h)
      rw [hld] at g
      exact g
    clear iA iB lA lB hlt hld hmB hm
    show Calls _ _ _ _ fun e w' => e = .returned (sayV true (sayN E r c (l.drop H)) (tree (nameT E r c n (l.take H))) (tree (nameT E r c n (l.drop H)))) ∧ _
    obtain ⟨tyA, vA, hvA⟩ := tree_iface (nameT E r c n (l.take H))
    obtain ⟨tyB, vB, hvB⟩ := tree_iface (nameT E r c n (l.drop H))
    rw [hvA] at hA ⊢
    rw [hvB] at hB ⊢
    generalize sayN E r c (l.drop H) = S at *
    generalize gval r c (gpart E c (r * c)) = gvv at *
    have HS := Lib.hid hS
    have HA := Lib.hid hA
    have HB := Lib.hid hB
    have he := rows_enters
    have hHi : ((l.length : Int) + 1) / 2 = (H : Int) := by omega
    have hLi : ¬ (l.length : Int) = 1 := by omega
    have hHl : (H : Int) ≤ (l.length : Int) := by omega
    have hH0 : (0 : Int) ≤ (H : Int) := Int.natCast_nonneg H
    have hL1 : IntKind.i64.wrap ((l.length : Int) + 1) = (l.length : Int) + 1 := by rw [IntKind.wrap_i64]; omega
    have n4 : ¬ cap = H := by omega
    have n5 : ¬ cap = 0 := by omega
    have HL := Lib.hid hs
    clear hS hA hB hvA hvB hs
    go_enter Tryz.func30, Tryz.ntmps30
    go_wp2_with fail
    refine (HS.out _ HL.out).mono ?_
    rintro e w1 ⟨rfl, hb1⟩
    obtain ⟨B, hB⟩ : ∃ B, w1.heap.size = B := ⟨_, rfl⟩
    have n1 := heap_alloc_new w1 (.cells #[.int .u8 65, .int .i64 (S : Int), .nilIface, .nilIface] 93)
    rw [hB] at n1
    have HV : Hid (Hv w (w1.alloc (.cells #[.int .u8 65, .int .i64 (S : Int), .nilIface, .nilIface] 93)) b o l B S) :=
      ⟨n1, (HL.out.later hb1).later ((Below.refl _ _).alloc (Nat.le_refl _) _), hb1.alloc hb1.size _⟩
    have HBB : Hid (w.heap.size ≤ B) := by unfold Hid; rw [← hB]; exact hb1.size
    clear hb1 n1 HS HL
    go_wp2_with fail
    generalize w1.alloc (.cells #[.int .u8 65, .int .i64 (S : Int), .nilIface, .nilIface] 93) = w2 at *
    refine wp_region_last (fun | 0 => .slice (some ⟨b, o, none⟩) l.length cap | 1 => .int .i64 (H : Int) | 2 => .slice (some ⟨b, o, none⟩) H cap | 3 => .func (.func 33) #[gvv] #[] | 4 => .func (.func 34) #[gvv] #[] | 5 => .iface tyA vA | 6 => .slice (some ⟨b, o, none⟩) l.length cap | 7 => .int .i64 (H : Int) | 8 => .slice (some ⟨b, o + H, none⟩) (l.length - H) (cap - H) | 9 => .func (.func 33) #[gvv] #[] | 10 => .func (.func 34) #[gvv] #[] | 11 => .iface tyB vB | 12 => .agg #[.iface tyA vA, .iface tyB vB] | 13 => .pointer (some ⟨B, 2, none⟩) | _ => undef) 14 (fun wx => wx.setRow B #[.int .u8 65, .int .i64 (S : Int), .iface tyA vA, .iface tyB vB]) _ (by kernel_rfl) (by kernel_rfl) rfl rfl rfl rfl (by kernel_rfl) ?conB ?stB ?enB
    case conB =>
      intro i oo ho hlt a wx hb2 hf
      match i, ho with
      | 0, ho =>
        obtain rfl := Option.some.inj ho
        have b0 : a.tmps[0]?.getD undef = .slice (some ⟨b, o, none⟩) l.length cap := hf.2 0 (by kernel_rfl)
        exact wp_value (.slice (some ⟨b, o, none⟩) l.length cap) (by unfold execOp; go_simp) ⟨rfl, Below.refl _ _⟩
      | 1, ho =>
        obtain rfl := Option.some.inj ho
        have b7 : a.tmps[7]?.getD undef = .int .i64 (H : Int) := hf.2 7 (by kernel_rfl)
        exact wp_value (.int .i64 (H : Int)) (by unfold execOp; go_simp) ⟨rfl, Below.refl _ _⟩
      | 2, ho =>
        obtain rfl := Option.some.inj ho
        have e26 : a.tmps[26]?.getD undef = .slice (some ⟨b, o, none⟩) l.length cap := hf.1 ⟨0, .data⟩ (by simp) rfl _ 26 rfl rfl
        have e27 : a.tmps[27]?.getD undef = .int .i64 (H : Int) := hf.1 ⟨1, .data⟩ (by simp) rfl _ 27 rfl rfl
        exact wp_value (.slice (some ⟨b, o, none⟩) H cap) (by unfold execOp; go_simp; try (intro hq; exact absurd hq (by omega))) ⟨rfl, Below.refl _ _⟩
      | 3, ho =>
        obtain rfl := Option.some.inj ho
        have b1 : a.tmps[1]?.getD undef = .func (.func 33) #[gvv] #[] := hf.2 1 (by kernel_rfl)
        exact wp_value (.func (.func 33) #[gvv] #[]) (by unfold execOp; go_simp) ⟨rfl, Below.refl _ _⟩
      | 4, ho =>
        obtain rfl := Option.some.inj ho
        have b2 : a.tmps[2]?.getD undef = .func (.func 34) #[gvv] #[] := hf.2 2 (by kernel_rfl)
        exact wp_value (.func (.func 34) #[gvv] #[]) (by unfold execOp; go_simp) ⟨rfl, Below.refl _ _⟩
      | 5, ho =>
        obtain rfl := Option.some.inj ho
        have e28 : a.tmps[28]?.getD undef = .slice (some ⟨b, o, none⟩) H cap := hf.1 ⟨2, .data⟩ (by simp) rfl _ 28 rfl rfl
        have e29 : a.tmps[29]?.getD undef = .func (.func 33) #[gvv] #[] := hf.1 ⟨3, .data⟩ (by simp) rfl _ 29 rfl rfl
        have e30 : a.tmps[30]?.getD undef = .func (.func 34) #[gvv] #[] := hf.1 ⟨4, .data⟩ (by simp) rfl _ 30 rfl rfl
        exact wp_enter 30 #[.slice (some ⟨b, o, none⟩) H cap, .func (.func 33) #[gvv] #[], .func (.func 34) #[gvv] #[]] (.iface tyA vA) _ (by unfold execOp; go_simp) (HA.out wx (HV.out.later hb2).list) (fun w' h => ⟨rfl, h⟩)
      | 6, ho =>
        obtain rfl := Option.some.inj ho
        have b0 : a.tmps[0]?.getD undef = .slice (some ⟨b, o, none⟩) l.length cap := hf.2 0 (by kernel_rfl)
        exact wp_value (.slice (some ⟨b, o, none⟩) l.length cap) (by unfold execOp; go_simp) ⟨rfl, Below.refl _ _⟩
      | 7, ho =>
        obtain rfl := Option.some.inj ho
        have b7 : a.tmps[7]?.getD undef = .int .i64 (H : Int) := hf.2 7 (by kernel_rfl)
        exact wp_value (.int .i64 (H : Int)) (by unfold execOp; go_simp) ⟨rfl, Below.refl _ _⟩
      | 8, ho =>
        obtain rfl := Option.some.inj ho
        have e32 : a.tmps[32]?.getD undef = .slice (some ⟨b, o, none⟩) l.length cap := hf.1 ⟨6, .data⟩ (by simp) rfl _ 32 rfl rfl
        have e33 : a.tmps[33]?.getD undef = .int .i64 (H : Int) := hf.1 ⟨7, .data⟩ (by simp) rfl _ 33 rfl rfl
        exact wp_value (.slice (some ⟨b, o + H, none⟩) (l.length - H) (cap - H)) (by unfold execOp; go_simp; try (intro hq; exact absurd hq (by omega))) ⟨rfl, Below.refl _ _⟩
      | 9, ho =>
        obtain rfl := Option.some.inj ho
        have b1 : a.tmps[1]?.getD undef = .func (.func 33) #[gvv] #[] := hf.2 1 (by kernel_rfl)
        exact wp_value (.func (.func 33) #[gvv] #[]) (by unfold execOp; go_simp) ⟨rfl, Below.refl _ _⟩
      | 10, ho =>
        obtain rfl := Option.some.inj ho
        have b2 : a.tmps[2]?.getD undef = .func (.func 34) #[gvv] #[] := hf.2 2 (by kernel_rfl)
        exact wp_value (.func (.func 34) #[gvv] #[]) (by unfold execOp; go_simp) ⟨rfl, Below.refl _ _⟩
      | 11, ho =>
        obtain rfl := Option.some.inj ho
        have e34 : a.tmps[34]?.getD undef = .slice (some ⟨b, o + H, none⟩) (l.length - H) (cap - H) := hf.1 ⟨8, .data⟩ (by simp) rfl _ 34 rfl rfl
        have e35 : a.tmps[35]?.getD undef = .func (.func 33) #[gvv] #[] := hf.1 ⟨9, .data⟩ (by simp) rfl _ 35 rfl rfl
        have e36 : a.tmps[36]?.getD undef = .func (.func 34) #[gvv] #[] := hf.1 ⟨10, .data⟩ (by simp) rfl _ 36 rfl rfl
        exact wp_enter 30 #[.slice (some ⟨b, o + H, none⟩) (l.length - H) (cap - H), .func (.func 33) #[gvv] #[], .func (.func 34) #[gvv] #[]] (.iface tyB vB) _ (by unfold execOp; go_simp) (HB.out wx (HV.out.later hb2).list) (fun w' h => ⟨rfl, h⟩)
      | 12, ho =>
        obtain rfl := Option.some.inj ho
        have e31 : a.tmps[31]?.getD undef = .iface tyA vA := hf.1 ⟨5, .data⟩ (by simp) rfl _ 31 rfl rfl
        have e37 : a.tmps[37]?.getD undef = .iface tyB vB := hf.1 ⟨11, .data⟩ (by simp) rfl _ 37 rfl rfl
        exact wp_value (.agg #[.iface tyA vA, .iface tyB vB]) (by unfold execOp; go_simp) ⟨rfl, Below.refl _ _⟩
      | 13, ho =>
        obtain rfl := Option.some.inj ho
        have b8 : a.tmps[8]?.getD undef = .pointer (some ⟨B, 0, none⟩) := hf.2 8 (by kernel_rfl)
        exact wp_value (.pointer (some ⟨B, 2, none⟩)) (by unfold execOp; go_simp) ⟨rfl, Below.refl _ _⟩
      | 14, ho => exact absurd hlt (by omega)
      | q + 15, ho => simp at ho
    case stB =>
      intro a wx hb2 hf
      have e39 : a.tmps[39]?.getD undef = .pointer (some ⟨B, 2, none⟩) := hf.1 ⟨13, .data⟩ (by simp) rfl _ 39 rfl rfl
      have e38 : a.tmps[38]?.getD undef = .agg #[.iface tyA vA, .iface tyB vB] := hf.1 ⟨12, .data⟩ (by simp) rfl _ 38 rfl rfl
      exact wp_store_mid 91 (.tmp 39) (.tmp 38) rfl B 2 #[.iface tyA vA, .iface tyB vB] (eval_get e39) (eval_get e38) (there_row (HV.out.later hb2).node) (info_two _ _) (all2 _ _ _ _) ⟨rfl, set2 (HV.out.later hb2).node _ _⟩
    case enB =>
      intro w5 hb5
      have HR : Hid ((w5.setRow B #[.int .u8 65, .int .i64 (S : Int), .iface tyA vA, .iface tyB vB]).heap[B]? = some (.cells #[.int .u8 65, .int .i64 (S : Int), .iface tyA vA, .iface tyB vB] 93 (0, 0))) := setRow_at' (HV.out.later hb5).node
      have HB5 : Hid (Below w.heap.size w (w5.setRow B #[.int .u8 65, .int .i64 (S : Int), .iface tyA vA, .iface tyB vB])) := setRow_below' (HV.out.later hb5).below HBB.out _
      clear hb5 HV HA HB
      simp only [fill, Act.put]
      go_simp
      generalize w5.setRow B #[.int .u8 65, .int .i64 (S : Int), .iface tyA vA, .iface tyB vB] = w6 at *
      obtain ⟨c0, c1, c2, c3⟩ := cells4 HR.out
      clear HR
      go_wp2_with fail
      go_ret
      exact ⟨rfl, HB5.out⟩
end Go.Proofs.YtffilggpimdikaaGreatDoor.NameI

/-
  NameProtocol: the reference's and the program's.
-/
namespace Go.Proofs.YtffilggpimdikaaGreatDoor.NameN
open Go.RowKit Go.Proofs.YtffilggpimdikaaGreatDoor.Plain Go.Proofs.YtffilggpimdikaaGreatDoor.Base Go.Proofs.YtffilggpimdikaaGreatDoor.Valid Go.Proofs.YtffilggpimdikaaGreatDoor.Law Go.Proofs.YtffilggpimdikaaGreatDoor.GridPlain Go.Proofs.YtffilggpimdikaaGreatDoor.Grid Go.Proofs.YtffilggpimdikaaGreatDoor.Entry Go.Proofs.YtffilggpimdikaaGreatDoor.App Go.Proofs.YtffilggpimdikaaGreatDoor.First Go.Proofs.YtffilggpimdikaaGreatDoor.Line Go.Proofs.YtffilggpimdikaaGreatDoor.Tree Go.Proofs.YtffilggpimdikaaGreatDoor.Read Go.Proofs.YtffilggpimdikaaGreatDoor.NameT Go.Proofs.YtffilggpimdikaaGreatDoor.SaidName Go.Proofs.YtffilggpimdikaaGreatDoor.NameI Go.Proofs.YtffilggpimdikaaGreatDoor.TextOf Go.Proofs.YtffilggpimdikaaGreatDoor.FreeL Go.Proofs.YtffilggpimdikaaGreatDoor.FreeS
open Go.Proofs.YtffilggpimdikaaGreatDoor.FirstI (firsts_of Lines)
open Go.Proofs.YtffilggpimdikaaGreatDoor.NameC (ln)
open Go.Proofs.YtffilggpimdikaaGreatDoor.SaidName (eval_get)
open Go.Proofs.YtffilggpimdikaaGreatDoor.Free (fill wp_value wp_enter wp_load_row freeB)
set_option linter.unusedVariables false
set_option linter.unusedSimpArgs false

/-- v is a slice of these numbers -/
def NL (l : List Nat) (v : Value) (w : World) : Prop := ∃ b o cap, v = .slice (some ⟨b, o, none⟩) l.length cap ∧ l.length ≤ cap ∧ Ls w b o l
theorem NL.later {l : List Nat} {v : Value} {w w' : World} (h : NL l v w) (hb : Below w.heap.size w w') : NL l v w' := by
  obtain ⟨b, o, cap, h1, h2, h3⟩ := h
  exact ⟨b, o, cap, h1, h2, h3.later hb⟩
theorem NL.own {w0 w : World} {v : Value} {l : List Nat} (h : App.Own w0 w 3 1 v l.length (nums l)) (h1 : 1 ≤ l.length) : NL l v w := by
  rcases h.row.2 with ⟨e1, e2⟩ | ⟨g, cap, cur, e1, e2, e3, e4, _⟩
  · omega
  · subst e1
    refine ⟨g, 0, cap, rfl, e4, (Array.getElem?_eq_some_iff.1 e3).1, fun j hj => ?_⟩
    obtain ⟨g', e, _, h5⟩ := FirstI.cell_own h j hj
    obtain rfl : g = g' := by simpa using e
    rw [Nat.zero_add]
    exact h5
theorem row_enters (args : Array Value) (W : World) : (callFunc 32 args).run Tryz.prog W = .ok (.enter 32 args) W := by kernel_rfl
/-- the rows that are equal to none before them -/
def firstL (E : Nat → Nat → Bool) (r c : Nat) : List Nat := firsts (fun x => rowB E x c) r
/-- the text -/
def nameS (E : Nat → Nat → Bool) (r c : Nat) : ByteArray := str (text (nameT E r c 8 (firstL E r c)))

set_option maxHeartbeats 4000000 in
set_option maxRecDepth 100000 in
theorem name_spec (E : Nat → Nat → Bool) (r c : Nat) (h1 : 1 ≤ r) (h2 : r ≤ 8) (h3 : 1 ≤ c) (h4 : c ≤ 8) (hs : (str (rowsB E r c)).size ≤ maxLen) (hv : validB r c (str (rowsB E r c)) = true) (w : World) :
    Calls Tryz.prog 8 #[mat r c (str (rowsB E r c))] w fun e w' => e = .returned (.tuple #[.string (nameS E r c), .bool true]) ∧ Below w.heap.size w w' := by
  have hl1 := firsts_one (fun x => rowB E x c) r h1
  have hl8 := firsts_len (fun x => rowB E x c) r
  have hlm := firsts_lt (fun x => rowB E x c) r
  have HF : Hid (∀ W : World, Calls Tryz.prog 37 #[mat r c (str (rowsB E r c))] W fun e w' => ∃ v, e = .returned v ∧ (NL (firstL E r c) v w' ∧ Below W.heap.size W w')) := fun W =>
    (first_any E r c h2 h4 W).mono fun e w' h => by
      obtain ⟨v, g1, g2⟩ := h
      exact ⟨v, g1, NL.own g2 hl1, below_grown g2.below⟩
  have HN : Hid (Named E r c (firstL E r c) (nameT E r c 8 (firstL E r c))) := name_said E r c h1 h2 h3 h4 8 (firstL E r c) hl1 (by show (firsts _ r).length ≤ _; omega) (by show (firsts _ r).length ≤ _; omega) hlm
  have HV := Lib.hid hv
  unfold Named at HN
  unfold nameS
  generalize str (text (nameT E r c 8 (firstL E r c))) = st at *
  generalize firstL E r c = L at *
  generalize str (rowsB E r c) = s at *
  clear hl1 hl8 hlm hv
  go_enter Tryz.func8, Tryz.ntmps8
  go_wp2_with fail
  refine (spec_valid _ _ s hs _).mono ?_
  rintro e w1 ⟨rfl, hb1⟩
  rw [HV.out]
  have HK : Hid (∀ W' : World, Below w1.heap.size w1 W' → W'.heap[w.heap.size]? = some (.cells #[.int .i64 (r : Int), .int .i64 (c : Int), .string s] 24 (0, 0))) := fun W' hb => (hb.block _ (by have := hb1.size; simp at this; omega)).trans (box_later hb1)
  have HB := Lib.hid (below_grown hb1)
  clear hb1
  obtain ⟨B, hB⟩ : ∃ B, w.heap.size = B := ⟨_, rfl⟩
  rw [hB] at HK
  go_wp2_with fail
  refine wp_region_rels (fun | 0 => fun v _ => v = mat r c s | 1 => fun v _ => v = mat r c s | 2 => fun v wx => NL L v wx | 3 => fun v _ => v = .string st | 4 => fun v _ => v = .string st | 5 => fun v _ => v = .bool true | _ => fun _ _ => True) ?hR (by kernel_rfl) (by kernel_rfl) rfl ?con ?en
  case hR =>
    intro i v wa wb ho h
    match i, h with
    | 0, h => exact h
    | 1, h => exact h
    | 2, h => exact NL.later h ho
    | 3, h => exact h
    | 4, h => exact h
    | 5, h => exact h
    | k + 6, h => trivial
  case con =>
    intro i oo ho a wx hb2 hf
    match i, ho with
    | 0, ho =>
      obtain rfl := Option.some.inj ho
      have b1 : a.tmps[1]?.getD undef = .pointer (some ⟨B, 0, none⟩) := hf.2 1 (by kernel_rfl)
      exact wp_load_row 24 (.tmp 1) rfl B (eval_get b1) 24 _ (0, 0) _ (HK.out _ hb2) Tryz.underlying24 rfl minfo ⟨_, rfl, rfl, Below.refl _ _⟩
    | 1, ho =>
      obtain rfl := Option.some.inj ho
      have b1 : a.tmps[1]?.getD undef = .pointer (some ⟨B, 0, none⟩) := hf.2 1 (by kernel_rfl)
      exact wp_load_row 24 (.tmp 1) rfl B (eval_get b1) 24 _ (0, 0) _ (HK.out _ hb2) Tryz.underlying24 rfl minfo ⟨_, rfl, rfl, Below.refl _ _⟩
    | 2, ho =>
      obtain rfl := Option.some.inj ho
      have e8 : a.tmps[8]?.getD undef = mat r c s := hf.1 ⟨1, .data⟩ (by simp) rfl _ 8 rfl rfl
      exact wp_enterE 37 #[mat r c s] (fun v w' => NL L v w' ∧ Below wx.heap.size wx w') (by unfold execOp; go_simp) (HF.out wx) (fun v w' h => ⟨_, rfl, h.1, h.2⟩)
    | 3, ho =>
      obtain rfl := Option.some.inj ho
      have e7 : a.tmps[7]?.getD undef = mat r c s := hf.1 ⟨0, .data⟩ (by simp) rfl _ 7 rfl rfl
      obtain ⟨b, o, cap, e9, hcap, hls⟩ : NL L (a.tmps[9]?.getD undef) wx := hf.1 ⟨2, .data⟩ (by simp) rfl _ 9 rfl rfl
      exact wp_enter 36 #[mat r c s, .slice (some ⟨b, o, none⟩) L.length cap] (.string st) _ (by unfold execOp; go_simp) (HN.out b o cap wx hcap hls.lt hls.list) (fun w' h => ⟨_, rfl, rfl, h⟩)
    | 4, ho =>
      obtain rfl := Option.some.inj ho
      have e10 : a.tmps[10]?.getD undef = .string st := hf.1 ⟨3, .data⟩ (by simp) rfl _ 10 rfl rfl
      exact wp_value (.string st) (by unfold execOp; go_simp) ⟨_, rfl, rfl, Below.refl _ _⟩
    | 5, ho =>
      obtain rfl := Option.some.inj ho
      exact wp_value (.bool true) (by unfold execOp; go_simp) ⟨_, rfl, rfl, Below.refl _ _⟩
    | q + 6, ho => simp at ho
  case en =>
    intro vs w2 hb2 hall
    have e4 : vs 4 = .string st := hall 4 _ rfl
    have e5 : vs 5 = .bool true := hall 5 _ rfl
    have HB2 := Lib.hid (HB.out.trans (hb2.mono HB.out.size))
    clear hb2 hall
    simp only [fill, Act.put]
    rw [e4, e5]
    clear e4 e5
    go_simp
    go_wp2_with fail
    go_returns
    exact ⟨rfl, HB2.out⟩

set_option maxHeartbeats 1000000 in
theorem name_spec_no (r c : Int) (s : ByteArray) (hs : s.size ≤ maxLen) (hv : validB r c s = false) (w : World) :
    Calls Tryz.prog 8 #[mat r c s] w fun e w' => e = .returned (.tuple #[.string ⟨#[]⟩, .bool false]) ∧ Below w.heap.size w w' := by
  have HV := Lib.hid hv
  clear hv
  go_enter Tryz.func8, Tryz.ntmps8
  go_wp2_with fail
  refine (spec_valid _ _ s hs _).mono ?_
  rintro e w1 ⟨rfl, hb1⟩
  rw [HV.out]
  have HB := Lib.hid (below_grown hb1)
  clear hb1
  go_wp2_with fail
  go_returns
  exact ⟨rfl, HB.out⟩

set_option maxHeartbeats 1000000 in
theorem name_impl_no (r c : Int) (s : ByteArray) (hs : s.size ≤ maxLen) (hv : validB r c s = false) (w : World) :
    Calls Tryz.prog 7 #[mat r c s] w fun e w' => e = .returned (.tuple #[.string ⟨#[]⟩, .bool false]) ∧ Below w.heap.size w w' := by
  have HG := Lib.hid (fun W => grid_no r c s hs hv W)
  clear hv
  generalize (fun _ => (0 : Int)) = f at *
  go_enter Tryz.func7, Tryz.ntmps7
  go_wp2_with fail
  refine (HG.out _).mono ?_
  rintro e w1 ⟨rfl, hb1⟩
  have HB := Lib.hid (below_grown hb1)
  clear hb1
  have HB2 := Lib.hid (HB.out.alloc HB.out.size (.cells (gcells 0 0 f) 52))
  have k0 : (w1.alloc (.cells (gcells 0 0 f) 52)).cell? ⟨w1.heap.size, 0, none⟩ = some (.int .i64 0) := cell_of_row _ _ 0 _ _ _ (heap_alloc_new w1 _)
  have K0 := Lib.hid k0
  clear k0
  go_wp2_with (refine wpList_store_row rfl 52 (.tmp 4) (.tmp 6) rfl w1.heap.size (gcells 0 0 f) rfl rfl 52 _ (heap_alloc_new w1 _) (ginfo' _ _ _) (by rw [gzero, gsize, gsize]) (gone _ _ _) ?_; rw [World.setRow_alloc_new]; generalize w1.alloc (.cells (gcells 0 0 f) 52) = w2 at *; have k0 := K0.out)
  go_returns
  exact ⟨rfl, HB2.out⟩

set_option maxHeartbeats 8000000 in
set_option maxRecDepth 100000 in
theorem name_impl (E : Nat → Nat → Bool) (r c : Nat) (h1 : 1 ≤ r) (h2 : r ≤ 8) (h3 : 1 ≤ c) (h4 : c ≤ 8) (hs : (str (rowsB E r c)).size ≤ maxLen) (hv : validB r c (str (rowsB E r c)) = true) (w : World) :
    Calls Tryz.prog 7 #[mat r c (str (rowsB E r c))] w fun e w' => e = .returned (.tuple #[.string (nameS E r c), .bool true]) ∧ Below w.heap.size w w' := by
  have hsz : (str (rowsB E r c)).size ≤ 64 := by rw [str_size, rowsB_length]; exact prod_le h2 h4
  have HG := Lib.hid (fun W => grid_yes E r c h1 h2 h3 h4 _ rfl hs hsz hv W)
  have hl1 := firsts_one (fun x => rowB E x c) r h1
  have hl8 := firsts_len (fun x => rowB E x c) r
  have hlm := firsts_lt (fun x => rowB E x c) r
  have hlines : Lines 32 (gval r c (gpart E c (r * c))) r (fun x y => gpart E c (r * c) (x * 8 + y)) := ⟨row_enters, fun x hx W => row_line r c _ x (by omega) W⟩
  have HF : Hid (∀ W : World, Calls Tryz.prog 31 #[.int .i64 (r : Int), .func (.func 32) #[gval r c (gpart E c (r * c))] #[]] W fun e w' => ∃ v, e = .returned v ∧ (NL (firstL E r c) v w' ∧ Below W.heap.size W w')) := fun W =>
    (firsts_of _ _ r h2 _ hlines (fun x => rowB E x c) (fun i j hi hj => same_row E c j i h4 _ _ (fun q hq => grid_row E r c j q hj hq h4) (fun q hq => grid_row E r c i q hi hq h4)) W).mono fun e w' h => by
      obtain ⟨v, g1, g2⟩ := h
      exact ⟨v, g1, NL.own g2 hl1, below_grown g2.below⟩
  have HN : Hid (Halved E r c (firstL E r c) (nameT E r c 8 (firstL E r c))) := halved E r c h1 h2 h3 h4 8 (firstL E r c) hl1 (by show (firsts _ r).length ≤ _; omega) (by show (firsts _ r).length ≤ _; omega) hlm
  have hlen := name_len E r c 8 (firstL E r c) hl1 (by show (firsts _ r).length ≤ _; omega)
  have hl8' : (firstL E r c).length ≤ r := hl8
  have HT : Hid (∀ W : World, Calls Tryz.prog 29 #[tree (nameT E r c 8 (firstL E r c))] W fun e w' => e = .returned (.tuple #[.string (nameS E r c), .bool true]) ∧ Below W.heap.size W w') := fun W => by
    have h := text_of (nameT E r c 8 (firstL E r c)) (name_wf E r c h2 h4 8 _) (by omega) W
    unfold textV at h
    rw [if_pos (by omega)] at h
    exact h
  unfold Halved at HN
  obtain ⟨ty, tv, htv⟩ := tree_iface (nameT E r c 8 (firstL E r c))
  rw [htv] at HN HT
  generalize nameS E r c = st at *
  generalize firstL E r c = L at *
  generalize str (rowsB E r c) = s at *
  clear hl1 hl8 hl8' hlm hv hlines hlen htv hsz
  generalize gpart E c (r * c) = f at *
  have hr0 : ¬ (r : Int) = 0 := by omega
  go_enter Tryz.func7, Tryz.ntmps7
  go_wp2_with fail
  refine (HG.out _).mono ?_
  rintro e w1 ⟨rfl, hb1⟩
  have HB := Lib.hid (below_grown hb1)
  clear hb1
  have HB2 := Lib.hid (HB.out.alloc HB.out.size (.cells (gcells r c f) 52))
  have h2 := heap_alloc_new w1 (.cells (gcells r c f) 52)
  have k0 : (w1.alloc (.cells (gcells r c f) 52)).cell? ⟨w1.heap.size, 0, none⟩ = some (.int .i64 (r : Int)) := cell_of_row _ _ 0 _ _ _ h2
  have K0 := Lib.hid k0
  have H2 := Lib.hid h2
  clear k0 h2
  go_wp2_with (refine wpList_store_row rfl 52 (.tmp 4) (.tmp 6) rfl w1.heap.size (gcells r c f) rfl rfl 52 _ (heap_alloc_new w1 _) (ginfo' _ _ _) (by rw [gzero, gsize, gsize]) (gone _ _ _) ?_; rw [World.setRow_alloc_new]; generalize w1.alloc (.cells (gcells r c f) 52) = w2 at *; have k0 := K0.out)
  clear k0 K0 HB HG
  generalize w1.heap.size = D at *
  have HK : Hid (∀ W' : World, Below w2.heap.size w2 W' → W'.heap[D]? = some (.cells (gcells r c f) 52 (0, 0))) := fun W' hb => (hb.block _ (Array.getElem?_eq_some_iff.1 H2.out).1).trans H2.out
  clear H2
  refine wp_region_rels (fun | 0 => fun v _ => v = .pointer (some ⟨D, 0, none⟩) | 1 => fun v _ => v = .int .i64 (r : Int) | 2 => fun v _ => v = gval r c f | 3 => fun v _ => v = .func (.func 32) #[gval r c f] #[] | 4 => fun v wx => NL L v wx | 5 => fun v _ => v = gval r c f | 6 => fun v _ => v = .func (.func 33) #[gval r c f] #[] | 7 => fun v _ => v = gval r c f | 8 => fun v _ => v = .func (.func 34) #[gval r c f] #[] | 9 => fun v _ => v = .iface ty tv | 10 => fun v _ => v = .tuple #[.string st, .bool true] | 11 => fun v _ => v = .string st | 12 => fun v _ => v = .bool true | 13 => fun v _ => v = .string st | 14 => fun v _ => v = .bool true | _ => fun _ _ => True) ?hR (by kernel_rfl) (by kernel_rfl) rfl ?con ?en
  case hR =>
    intro i v wa wb ho h
    match i, h with
    | 0, h => exact h
    | 1, h => exact h
    | 2, h => exact h
    | 3, h => exact h
    | 4, h => exact NL.later h ho
    | 5, h => exact h
    | 6, h => exact h
    | 7, h => exact h
    | 8, h => exact h
    | 9, h => exact h
    | 10, h => exact h
    | 11, h => exact h
    | 12, h => exact h
    | 13, h => exact h
    | 14, h => exact h
    | k + 15, h => trivial
  case con =>
    intro i oo ho a wx hb2 hf
    match i, ho with
    | 0, ho =>
      obtain rfl := Option.some.inj ho
      have b4 : a.tmps[4]?.getD undef = .pointer (some ⟨D, 0, none⟩) := hf.2 4 (by kernel_rfl)
      exact wp_value (.pointer (some ⟨D, 0, none⟩)) (by unfold execOp; go_simp) ⟨_, rfl, rfl, Below.refl _ _⟩
    | 1, ho =>
      obtain rfl := Option.some.inj ho
      have e10 : a.tmps[10]?.getD undef = .pointer (some ⟨D, 0, none⟩) := hf.1 ⟨0, .data⟩ (by simp) rfl _ 10 rfl rfl
      have cr : wx.cell? ⟨D, 0, none⟩ = some (.int .i64 (r : Int)) := cell_of_row _ _ 0 _ _ _ (HK.out _ hb2)
      exact wp_value (.int .i64 (r : Int)) (by unfold execOp; go_simp) ⟨_, rfl, rfl, Below.refl _ _⟩
    | 2, ho =>
      obtain rfl := Option.some.inj ho
      have b4 : a.tmps[4]?.getD undef = .pointer (some ⟨D, 0, none⟩) := hf.2 4 (by kernel_rfl)
      exact wp_load_row 52 (.tmp 4) rfl D (eval_get b4) 52 _ (0, 0) _ (HK.out _ hb2) Tryz.underlying52 rfl (ginfo' _ _ _) ⟨_, rfl, rfl, Below.refl _ _⟩
    | 3, ho =>
      obtain rfl := Option.some.inj ho
      have e12 : a.tmps[12]?.getD undef = gval r c f := hf.1 ⟨2, .data⟩ (by simp) rfl _ 12 rfl rfl
      exact wp_value (.func (.func 32) #[gval r c f] #[]) (by unfold execOp; go_simp) ⟨_, rfl, rfl, Below.refl _ _⟩
    | 4, ho =>
      obtain rfl := Option.some.inj ho
      have e11 : a.tmps[11]?.getD undef = .int .i64 (r : Int) := hf.1 ⟨1, .data⟩ (by simp) rfl _ 11 rfl rfl
      have e13 : a.tmps[13]?.getD undef = .func (.func 32) #[gval r c f] #[] := hf.1 ⟨3, .data⟩ (by simp) rfl _ 13 rfl rfl
      exact wp_enterE 31 #[.int .i64 (r : Int), .func (.func 32) #[gval r c f] #[]] (fun v w' => NL L v w' ∧ Below wx.heap.size wx w') (by unfold execOp; go_simp) (HF.out wx) (fun v w' h => ⟨_, rfl, h.1, h.2⟩)
    | 5, ho =>
      obtain rfl := Option.some.inj ho
      have b4 : a.tmps[4]?.getD undef = .pointer (some ⟨D, 0, none⟩) := hf.2 4 (by kernel_rfl)
      exact wp_load_row 52 (.tmp 4) rfl D (eval_get b4) 52 _ (0, 0) _ (HK.out _ hb2) Tryz.underlying52 rfl (ginfo' _ _ _) ⟨_, rfl, rfl, Below.refl _ _⟩
    | 6, ho =>
      obtain rfl := Option.some.inj ho
      have e15 : a.tmps[15]?.getD undef = gval r c f := hf.1 ⟨5, .data⟩ (by simp) rfl _ 15 rfl rfl
      exact wp_value (.func (.func 33) #[gval r c f] #[]) (by unfold execOp; go_simp) ⟨_, rfl, rfl, Below.refl _ _⟩
    | 7, ho =>
      obtain rfl := Option.some.inj ho
      have b4 : a.tmps[4]?.getD undef = .pointer (some ⟨D, 0, none⟩) := hf.2 4 (by kernel_rfl)
      exact wp_load_row 52 (.tmp 4) rfl D (eval_get b4) 52 _ (0, 0) _ (HK.out _ hb2) Tryz.underlying52 rfl (ginfo' _ _ _) ⟨_, rfl, rfl, Below.refl _ _⟩
    | 8, ho =>
      obtain rfl := Option.some.inj ho
      have e17 : a.tmps[17]?.getD undef = gval r c f := hf.1 ⟨7, .data⟩ (by simp) rfl _ 17 rfl rfl
      exact wp_value (.func (.func 34) #[gval r c f] #[]) (by unfold execOp; go_simp) ⟨_, rfl, rfl, Below.refl _ _⟩
    | 9, ho =>
      obtain rfl := Option.some.inj ho
      obtain ⟨b, o, cap, e14, hcap, hls⟩ : NL L (a.tmps[14]?.getD undef) wx := hf.1 ⟨4, .data⟩ (by simp) rfl _ 14 rfl rfl
      have e16 : a.tmps[16]?.getD undef = .func (.func 33) #[gval r c f] #[] := hf.1 ⟨6, .data⟩ (by simp) rfl _ 16 rfl rfl
      have e18 : a.tmps[18]?.getD undef = .func (.func 34) #[gval r c f] #[] := hf.1 ⟨8, .data⟩ (by simp) rfl _ 18 rfl rfl
      exact wp_enter 30 #[.slice (some ⟨b, o, none⟩) L.length cap, .func (.func 33) #[gval r c f] #[], .func (.func 34) #[gval r c f] #[]] (.iface ty tv) _ (by unfold execOp; go_simp) (HN.out b o cap wx hcap hls) (fun w' h => ⟨_, rfl, rfl, h⟩)
    | 10, ho =>
      obtain rfl := Option.some.inj ho
      have e19 : a.tmps[19]?.getD undef = .iface ty tv := hf.1 ⟨9, .data⟩ (by simp) rfl _ 19 rfl rfl
      exact wp_enter 29 #[.iface ty tv] (.tuple #[.string st, .bool true]) _ (by unfold execOp; go_simp) (HT.out wx) (fun w' h => ⟨_, rfl, rfl, h⟩)
    | 11, ho =>
      obtain rfl := Option.some.inj ho
      have e20 : a.tmps[20]?.getD undef = .tuple #[.string st, .bool true] := hf.1 ⟨10, .data⟩ (by simp) rfl _ 20 rfl rfl
      exact wp_value (.string st) (by unfold execOp; go_simp) ⟨_, rfl, rfl, Below.refl _ _⟩
    | 12, ho =>
      obtain rfl := Option.some.inj ho
      have e20 : a.tmps[20]?.getD undef = .tuple #[.string st, .bool true] := hf.1 ⟨10, .data⟩ (by simp) rfl _ 20 rfl rfl
      exact wp_value (.bool true) (by unfold execOp; go_simp) ⟨_, rfl, rfl, Below.refl _ _⟩
    | 13, ho =>
      obtain rfl := Option.some.inj ho
      have e21 : a.tmps[21]?.getD undef = .string st := hf.1 ⟨11, .data⟩ (by simp) rfl _ 21 rfl rfl
      exact wp_value (.string st) (by unfold execOp; go_simp) ⟨_, rfl, rfl, Below.refl _ _⟩
    | 14, ho =>
      obtain rfl := Option.some.inj ho
      have e22 : a.tmps[22]?.getD undef = .bool true := hf.1 ⟨12, .data⟩ (by simp) rfl _ 22 rfl rfl
      exact wp_value (.bool true) (by unfold execOp; go_simp) ⟨_, rfl, rfl, Below.refl _ _⟩
    | q + 15, ho => simp at ho
  case en =>
    intro vs w3 hb2 hall
    have e4 : vs 13 = .string st := hall 13 _ rfl
    have e5 : vs 14 = .bool true := hall 14 _ rfl
    have HB3 := Lib.hid (HB2.out.trans (hb2.mono HB2.out.size))
    clear hb2 hall
    simp only [fill, Act.put]
    rw [e4, e5]
    clear e4 e5
    go_simp
    go_wp2_with fail
    go_returns
    exact ⟨rfl, HB3.out⟩
end Go.Proofs.YtffilggpimdikaaGreatDoor.NameN

/-
  The walk of the drawn law on NameProtocol.
-/
namespace Go.Proofs.YtffilggpimdikaaGreatDoor.fnName
open Go.RowKit Go.Shelf Go.Proofs.YtffilggpimdikaaGreatDoor.Plain Go.Proofs.YtffilggpimdikaaGreatDoor.Base Go.Proofs.YtffilggpimdikaaGreatDoor.Valid Go.Proofs.YtffilggpimdikaaGreatDoor.Law Go.Proofs.YtffilggpimdikaaGreatDoor.GridPlain Go.Proofs.YtffilggpimdikaaGreatDoor.Grid Go.Proofs.YtffilggpimdikaaGreatDoor.Tree Go.Proofs.YtffilggpimdikaaGreatDoor.Read Go.Proofs.YtffilggpimdikaaGreatDoor.Parts Go.Proofs.YtffilggpimdikaaGreatDoor.TreeOf Go.Proofs.YtffilggpimdikaaGreatDoor.TreeIn Go.Proofs.YtffilggpimdikaaGreatDoor.TrimT Go.Proofs.YtffilggpimdikaaGreatDoor.Talk Go.Proofs.YtffilggpimdikaaGreatDoor.Rd Go.Proofs.YtffilggpimdikaaGreatDoor.NameT Go.Proofs.YtffilggpimdikaaGreatDoor.NameM Go.Proofs.YtffilggpimdikaaGreatDoor.NameQ Go.Proofs.YtffilggpimdikaaGreatDoor.NameN Go.Proofs.YtffilggpimdikaaGreatDoor.Kept
open Go.Proofs.YtffilggpimdikaaGreatDoor.CompM (comp_true)
open Go.Proofs.YtffilggpimdikaaGreatDoor.Entry (valid_form)
open Go.Proofs.YtffilggpimdikaaGreatDoor.First (firsts firsts_one firsts_len)
open Go.Proofs.YtffilggpimdikaaGreatDoor.ErrB (len_E rows_valid)
open Go.Proofs.YtffilggpimdikaaGreatDoor.Bits (IsBits)
open Go.Proofs.YtffilggpimdikaaGreatDoor.LgB (lgB lgB_is bits_for)
open Go.Proofs.YtffilggpimdikaaGreatDoor.Rd5 (cells3)
set_option linter.unusedVariables false
set_option linter.unusedSimpArgs false

/-- which matrices there are: both answer none, or the matrix is told by its entries -/
theorem cases (a b : Int) (t : ByteArray) (hs : t.size ≤ maxLen) :
    ((∀ w, Calls Tryz.prog 7 #[mat a b t] w fun e w' => e = .returned (.tuple #[.string ⟨#[]⟩, .bool false]) ∧ Below w.heap.size w w') ∧
     (∀ w, Calls Tryz.prog 8 #[mat a b t] w fun e w' => e = .returned (.tuple #[.string ⟨#[]⟩, .bool false]) ∧ Below w.heap.size w w')) ∨
    (∃ (R C : Nat) (E : Nat → Nat → Bool), a = R ∧ b = C ∧ t = str (rowsB E R C) ∧ 1 ≤ R ∧ R ≤ 8 ∧ 1 ≤ C ∧ C ≤ 8) := by
  by_cases hv : validB a b t = true
  · obtain ⟨R, C, E, rfl, rfl, h1, h2, h3, h4, rfl⟩ := valid_form hv
    exact .inr ⟨R, C, E, rfl, rfl, rfl, h1, h2, h3, h4⟩
  · have hv' : validB a b t = false := by simpa using hv
    exact .inl ⟨fun w => name_impl_no a b t hs hv' w, fun w => name_spec_no a b t hs hv' w⟩

/-- all that is asked of the named row's protocol -/
theorem facts (E : Nat → Nat → Bool) (R C : Nat) (h1 : 1 ≤ R) (h2 : R ≤ 8) (h3 : 1 ≤ C) (h4 : C ≤ 8) : ∃ (s : ByteArray) (n k nb ne : Nat), 1 ≤ n ∧ n ≤ 8 ∧ k ≤ 3 ∧ nb ≤ k + 1 ∧ k ≤ nb ∧ ne ≤ 2 * n ∧
    (∀ w, Calls Tryz.prog 7 #[mat R C (str (rowsB E R C))] w fun e w' => e = .returned (.tuple #[.string s, .bool true]) ∧ Below w.heap.size w w') ∧
    (∀ w, Calls Tryz.prog 8 #[mat R C (str (rowsB E R C))] w fun e w' => e = .returned (.tuple #[.string s, .bool true]) ∧ Below w.heap.size w w') ∧
    (∀ w, Calls Tryz.prog 9 #[mat R C (str (rowsB E R C))] w fun e w' => e = .returned (.int .i64 (n : Int)) ∧ Below w.heap.size w w') ∧
    (∀ w, Calls Tryz.prog 10 #[.string s, .int .i64 (R : Int), .int .i64 (C : Int)] w fun e w' => e = .returned (.tuple #[.string s, .bool true]) ∧ Below w.heap.size w w') ∧
    (∀ w, Calls Tryz.prog 11 #[.string s, mat R C (str (rowsB E R C))] w fun e w' => e = .returned (.bool true) ∧ Below w.heap.size w w') ∧
    (∀ w, Calls Tryz.prog 12 #[.string s] w fun e w' => e = .returned (.int .i64 (nb : Int)) ∧ Below w.heap.size w w') ∧
    (∀ w, Calls Tryz.prog 13 #[.int .i64 (n : Int)] w fun e w' => e = .returned (.int .i64 (k : Int)) ∧ Below w.heap.size w w') ∧
    (∀ w, Calls Tryz.prog 14 #[.string s] w fun e w' => e = .returned (.int .i64 (ne : Int)) ∧ Below w.heap.size w w') := by
  have hs := (len_E E h2 h4).2
  have hsz := (len_E E h2 h4).1
  have hv := rows_valid E R C h1 h2 h3 h4
  have hn1 : 1 ≤ (firstL E R C).length := firsts_one _ R h1
  have hn8 : (firstL E R C).length ≤ 8 := Nat.le_trans (firsts_len _ R) h2
  have hb := lgB_is _ hn8
  have hwf : wf (nameT E R C 8 (firstL E R C)) := name_wf E R C h2 h4 8 (firstL E R C)
  have hlen := name_len E R C 8 (firstL E R C) hn1 (by omega)
  have hz : (nameS E R C).size ≤ 2000 := by unfold nameS; rw [str_size]; omega
  have hd : (nameS E R C).data.toList = text (nameT E R C 8 (firstL E R C)) := str_data _
  have htrim := fun w => fnExactTrimProtocol.impl_yes (nameS E R C) _ hwf hd hz R C ⟨h1, h2⟩ ⟨h3, h4⟩ w
  unfold allN at htrim
  rw [show trimT (nameT E R C 8 (firstL E R C)) (2 ^ R - 1) (2 ^ C - 1) = nameT E R C 8 (firstL E R C) from trim_all E R C h1 h2 h3 h4] at htrim
  refine ⟨nameS E R C, (firstL E R C).length, lgB (firstL E R C).length, Tree.bits (nameT E R C 8 (firstL E R C)), ends (nameT E R C 8 (firstL E R C)), hn1, hn8, hb.2, name_bits_le E R C 8 _ _ hn1 (by omega) hb.1.1, ?_, name_ends E R C 8 _ hn1 (by omega),
    fun w => name_impl E R C h1 h2 h3 h4 hs hv w, fun w => name_spec E R C h1 h2 h3 h4 hs hv w, fun w => ?_, htrim, fun w => ?_, fun w => fnExactBitsOf.impl_yes _ _ hwf hd hz w, fun w => bits_for _ hn8 w, fun w => fnExactLeavesOf.impl_yes _ _ hwf hd hz w⟩
  · apply Classical.byContradiction
    intro hlt
    have g1 := name_bits_ge E R C 8 (firstL E R C) hn1 (by omega)
    have g2 := hb.1.2 _ (Nat.lt_of_not_le hlt)
    omega
  · exact fnExactDifferentRows.impl_diff R C h1 h2 _ _ R C _ (fun W => grid_yes E R C h1 h2 h3 h4 _ rfl hs hsz hv W) (fun W => Go.Proofs.YtffilggpimdikaaGreatDoor.ShrM.firsts_rows E R C h2 h4 0 W (Nat.zero_le _)) w
  · exact comp_true _ _ hwf hd hz E R C h1 h2 h3 h4 (fun x y hx hy => name_talk E R C x y hx hy 8 _ hn1 (by omega) (any_row.1 (firsts_cover E R C x hx))) w

set_option maxHeartbeats 8000000 in
set_option maxRecDepth 100000 in
theorem walk (v : Value) (n : Nat) (w : World) (h : ByteArg w v n) :
    Calls Tryz.prog 3 #[v] w fun e w' => e = .returned (.bool true) ∧ Below w.heap.size w w' := by
  obtain ⟨hn0, a, cap, rfl, hc, hb0⟩ := id h
  clear hb0
  have HD := Lib.hid (DrawNm.draw_any _ n w h)
  clear h
  by_cases hbig : 1048576 < n
  · have hbi : (1048576 : Int) < (n : Int) := by omega
    go_enter Tryz.func3, Tryz.ntmps3
    go_wp2_with fail
    go_ret
    exact ⟨rfl, Below.refl _ _⟩
  · have hbi : ¬ (1048576 : Int) < (n : Int) := by omega
    go_enter Tryz.func3, Tryz.ntmps3
    go_wp2_with fail
    refine HD.out.mono ?_
    rintro e w1 ⟨a, b, t, rfl, -, -, ht, hb⟩
    clear HD hbig hbi
    have hcase := cases a b t (by unfold maxLen; omega)
    obtain ⟨B, hB⟩ : ∃ B, w1.heap.size = B := ⟨_, rfl⟩
    have HK1 := Lib.hid ((Kp.nil w).later hb |>.put (.cells #[.int .i64 a, .int .i64 b, .string t] 24) hB)
    clear hb
    rcases hcase with ⟨hni, hns⟩ | ⟨R, C, E, rfl, rfl, rfl, h1, h2, h3, h4⟩
    · have HNI := Lib.hid hni
      have HNS := Lib.hid hns
      clear hni hns
      generalize (⟨#[]⟩ : ByteArray) = z at *
      obtain ⟨cB0, cB1, cB2, -, -, -⟩ := cells3 (HK1.out.at 0 rfl)
      go_wp2_with fail
      refine (HNI.out _).mono ?_
      rintro e w2 ⟨rfl, hb2⟩
      have HK2 := Lib.hid (HK1.out.later hb2)
      clear hb2 HK1
      clear hB cB0 cB1 cB2
      obtain ⟨cB0, cB1, cB2, -, -, -⟩ := cells3 (HK2.out.at 0 rfl)
      go_wp2_with fail
      refine (HNS.out _).mono ?_
      rintro e w3 ⟨rfl, hb3⟩
      have HK3 := Lib.hid (HK2.out.later hb3)
      clear hb3 HK2
      clear cB0 cB1 cB2
      go_wp2_with fail
      go_ret
      exact ⟨rfl, HK3.out.below⟩
    · obtain ⟨s, n, k, nb, ne, n1, n8, k3, c1, c2, c3, hni, hns, hdr, htr, hco, hbo, hbf, hlo⟩ := facts E R C h1 h2 h3 h4
      generalize str (rowsB E R C) = sm at *
      have d1 : ((nb : Int) ≤ (k : Int) + 1) := by omega
      have d2 : ((k : Int) ≤ (nb : Int)) := by omega
      have d3 : ((ne : Int) ≤ 2 * (n : Int)) := by omega
      have d4 : IntKind.i64.wrap (2 * (n : Int)) = 2 * (n : Int) := IntWalk.i64_in _ ⟨by omega, by omega⟩
      have d5 : IntKind.i64.wrap ((k : Int) + 1) = (k : Int) + 1 := IntWalk.i64_in _ ⟨by omega, by omega⟩
      have HNI := Lib.hid hni
      have HNS := Lib.hid hns
      have HDR := Lib.hid hdr
      have HTR := Lib.hid htr
      have HCO := Lib.hid hco
      have HBO := Lib.hid hbo
      have HBF := Lib.hid hbf
      have HLO := Lib.hid hlo
      clear hni hns hdr htr hco hbo hbf hlo h1 h2 h3 h4 n1 c1 c2 c3
      obtain ⟨cB0, cB1, cB2, -, -, -⟩ := cells3 (HK1.out.at 0 rfl)
      go_wp2_with fail
      refine (HNI.out _).mono ?_
      rintro e w2 ⟨rfl, hb2⟩
      have HK2 := Lib.hid (HK1.out.later hb2)
      clear hb2 HK1
      clear hB cB0 cB1 cB2
      obtain ⟨cB0, cB1, cB2, -, -, -⟩ := cells3 (HK2.out.at 0 rfl)
      go_wp2_with fail
      refine (HNS.out _).mono ?_
      rintro e w3 ⟨rfl, hb3⟩
      have HK3 := Lib.hid (HK2.out.later hb3)
      clear hb3 HK2
      clear cB0 cB1 cB2
      obtain ⟨cB0, cB1, cB2, -, -, -⟩ := cells3 (HK3.out.at 0 rfl)
      go_wp2_with fail
      refine (HDR.out _).mono ?_
      rintro e w4 ⟨rfl, hb4⟩
      have HK4 := Lib.hid (HK3.out.later hb4)
      clear hb4 HK3
      clear cB0 cB1 cB2
      obtain ⟨cB0, cB1, cB2, -, -, -⟩ := cells3 (HK4.out.at 0 rfl)
      go_wp2_with fail
      refine (HTR.out _).mono ?_
      rintro e w5 ⟨rfl, hb5⟩
      have HK5 := Lib.hid (HK4.out.later hb5)
      clear hb5 HK4
      clear cB0 cB1 cB2
      obtain ⟨cB0, cB1, cB2, -, -, -⟩ := cells3 (HK5.out.at 0 rfl)
      go_wp2_with fail
      refine (HCO.out _).mono ?_
      rintro e w6 ⟨rfl, hb6⟩
      have HK6 := Lib.hid (HK5.out.later hb6)
      clear hb6 HK5
      clear cB0 cB1 cB2
      obtain ⟨cB0, cB1, cB2, -, -, -⟩ := cells3 (HK6.out.at 0 rfl)
      go_wp2_with fail
      refine (HBO.out _).mono ?_
      rintro e w7 ⟨rfl, hb7⟩
      have HK7 := Lib.hid (HK6.out.later hb7)
      clear hb7 HK6
      clear cB0 cB1 cB2
      obtain ⟨cB0, cB1, cB2, -, -, -⟩ := cells3 (HK7.out.at 0 rfl)
      go_wp2_with fail
      refine (HBF.out _).mono ?_
      rintro e w8 ⟨rfl, hb8⟩
      have HK8 := Lib.hid (HK7.out.later hb8)
      clear hb8 HK7
      clear cB0 cB1 cB2
      obtain ⟨cB0, cB1, cB2, -, -, -⟩ := cells3 (HK8.out.at 0 rfl)
      go_wp2_with fail
      refine (HBO.out _).mono ?_
      rintro e w9 ⟨rfl, hb9⟩
      have HK9 := Lib.hid (HK8.out.later hb9)
      clear hb9 HK8
      clear cB0 cB1 cB2
      obtain ⟨cB0, cB1, cB2, -, -, -⟩ := cells3 (HK9.out.at 0 rfl)
      go_wp2_with fail
      refine (HBF.out _).mono ?_
      rintro e w10 ⟨rfl, hb10⟩
      have HK10 := Lib.hid (HK9.out.later hb10)
      clear hb10 HK9
      clear cB0 cB1 cB2
      obtain ⟨cB0, cB1, cB2, -, -, -⟩ := cells3 (HK10.out.at 0 rfl)
      go_wp2_with fail
      refine (HLO.out _).mono ?_
      rintro e w11 ⟨rfl, hb11⟩
      have HK11 := Lib.hid (HK10.out.later hb11)
      clear hb11 HK10
      clear cB0 cB1 cB2
      go_wp2_with fail
      go_ret
      exact ⟨rfl, HK11.out.below⟩
end Go.Proofs.YtffilggpimdikaaGreatDoor.fnName

