/-
  Texts of one seat, joined: NameT, SaidName.
-/
import Derived.Test.YtgfhahlkffagaaaDoorTrimT
import Derived.Test.YtgfhahlkffagaaaDoorCols
import Derived.Test.YtgfhahlkffagaaaDoorFirst
import Derived.Test.YtgfhahlkffagaaaDoorSetW
import Derived.Test.YtgfhahlkffagaaaDoorFreeL
/-
  The protocol in which a player names a row: its tree. Nothing of the program.
-/
namespace Go.Proofs.YtgfhahlkffagaaaDoor.NameT
open Go.RowKit Go.Proofs.YtgfhahlkffagaaaDoor.Plain Go.Proofs.YtgfhahlkffagaaaDoor.Tree Go.Proofs.YtgfhahlkffagaaaDoor.TrimT Go.Proofs.YtgfhahlkffagaaaDoor.Pat Go.Proofs.YtgfhahlkffagaaaDoor.Law Go.Proofs.YtgfhahlkffagaaaDoor.Cols
set_option linter.unusedVariables false

/-- the columns that have a 1 in a row -/
def onesN (E : Nat → Nat → Bool) (c x : Nat) : Nat := setB (fun y => E x y) c
/-- what is told of a row that is known -/
def replyT (E : Nat → Nat → Bool) (c x : Nat) : T :=
  if onesN E c x = 0 then .leaf false else if onesN E c x = 2 ^ c - 1 then .leaf true else .say false (onesN E c x) (.leaf false) (.leaf true)
/-- a row is equal to one of these -/
def anyRow (E : Nat → Nat → Bool) (c : Nat) (l : List Nat) (x : Nat) : Bool := l.any fun i => rowB E i c == rowB E x c
def sayN (E : Nat → Nat → Bool) (r c : Nat) (l : List Nat) : Nat := setB (anyRow E c l) r
/-- by halves -/
def nameT (E : Nat → Nat → Bool) (r c : Nat) : Nat → List Nat → T
  | 0, l => replyT E c (l.headD 0)
  | n + 1, l => if l.length = 1 then replyT E c (l.headD 0) else
    .say true (sayN E r c (l.drop ((l.length + 1) / 2))) (nameT E r c n (l.take ((l.length + 1) / 2))) (nameT E r c n (l.drop ((l.length + 1) / 2)))

theorem ones_lt (E : Nat → Nat → Bool) (c x : Nat) (hc : c ≤ 8) : onesN E c x < 256 := setB_lt8 _ c hc
theorem say_lt (E : Nat → Nat → Bool) (r c : Nat) (l : List Nat) (hr : r ≤ 8) : sayN E r c l < 256 := setB_lt8 _ r hr
theorem reply_wf (E : Nat → Nat → Bool) (c x : Nat) (hc : c ≤ 8) : wf (replyT E c x) := by
  unfold replyT
  split
  · trivial
  · split
    · trivial
    · exact ⟨ones_lt E c x hc, trivial, trivial⟩
theorem name_wf (E : Nat → Nat → Bool) (r c : Nat) (hr : r ≤ 8) (hc : c ≤ 8) : ∀ n l, wf (nameT E r c n l)
  | 0, l => reply_wf E c _ hc
  | n + 1, l => by
    unfold nameT
    split
    · exact reply_wf E c _ hc
    · exact ⟨say_lt E r c _ hr, name_wf E r c hr hc n _, name_wf E r c hr hc n _⟩
theorem reply_len (E : Nat → Nat → Bool) (c x : Nat) : (text (replyT E c x)).length ≤ 5 := by
  unfold replyT
  split
  · simp [text]
  · split
    · simp [text]
    · simp [text]
theorem name_len (E : Nat → Nat → Bool) (r c : Nat) : ∀ n l, 1 ≤ l.length → l.length ≤ n + 1 → (text (nameT E r c n l)).length + 3 ≤ 8 * l.length
  | 0, l, h1, h2 => by
    have := reply_len E c (l.headD 0)
    show (text (replyT E c (l.headD 0))).length + 3 ≤ _
    omega
  | n + 1, l, h1, h2 => by
    unfold nameT
    by_cases h : l.length = 1
    · rw [if_pos h]
      have := reply_len E c (l.headD 0)
      omega
    · rw [if_neg h]
      have a := name_len E r c n (l.take ((l.length + 1) / 2)) (by rw [List.length_take]; omega) (by rw [List.length_take]; omega)
      have b := name_len E r c n (l.drop ((l.length + 1) / 2)) (by rw [List.length_drop]; omega) (by rw [List.length_drop]; omega)
      rw [List.length_take] at a
      rw [List.length_drop] at b
      simp only [text, List.length_cons, List.length_append]
      omega

theorem meet_full (c s : Nat) (hc : c ≤ 8) (hs : s < 2 ^ c) : meetN (2 ^ c - 1) s = s ∧ (minusN (2 ^ c - 1) s = 0 ↔ s = 2 ^ c - 1) := by
  have h8 : (2 : Nat) ^ c ≤ 256 := Nat.le_trans (Nat.pow_le_pow_right (by decide) hc) (by decide)
  have hm : meetN (2 ^ c - 1) s = s := by
    unfold meetN
    rw [BitVec.toNat_and, BitVec.toNat_ofNat, BitVec.toNat_ofNat, Nat.mod_eq_of_lt (by omega), Nat.mod_eq_of_lt (by omega), Nat.and_comm, Nat.and_two_pow_sub_one_eq_mod, Nat.mod_eq_of_lt hs]
  refine ⟨hm, ?_⟩
  have key : ∀ i, i < 64 → (BitVec.ofNat 64 (2 ^ c - 1) &&& ~~~ BitVec.ofNat 64 s).getLsbD i = ((2 ^ c - 1).testBit i && !s.testBit i) := by
    intro i hi
    rw [BitVec.getLsbD_and, BitVec.getLsbD_not, BitVec.getLsbD_ofNat, BitVec.getLsbD_ofNat]
    simp [hi]
  constructor
  · intro h
    apply Nat.eq_of_testBit_eq
    intro i
    by_cases hi : i < 64
    · have h0 : (BitVec.ofNat 64 (2 ^ c - 1) &&& ~~~ BitVec.ofNat 64 s) = 0#64 := BitVec.eq_of_toNat_eq (by unfold minusN at h; rw [h]; rfl)
      have hk := key i hi
      rw [h0, BitVec.getLsbD_zero, Nat.testBit_two_pow_sub_one] at hk
      rw [Nat.testBit_two_pow_sub_one]
      by_cases hic : i < c
      · rw [decide_eq_true hic] at hk ⊢
        revert hk
        cases s.testBit i <;> simp
      · rw [decide_eq_false hic, Pat.bit_beyond s i c hs (by omega)]
    · rw [Pat.bit_beyond s i c hs (by omega), Nat.testBit_two_pow_sub_one, decide_eq_false (by omega)]
  · intro h
    have h0 : (BitVec.ofNat 64 (2 ^ c - 1) &&& ~~~ BitVec.ofNat 64 s) = 0#64 := by
      apply BitVec.eq_of_getLsbD_eq
      intro i hi
      rw [key i hi, h, BitVec.getLsbD_zero]
      simp
    unfold minusN
    rw [h0]; rfl
/-- nothing is said of what all know -/
theorem trim_reply (E : Nat → Nat → Bool) (c x : Nat) (hc : c ≤ 8) : trimT (.say false (onesN E c x) (.leaf false) (.leaf true)) (2 ^ x) (2 ^ c - 1) = replyT E c x := by
  have hs : onesN E c x < 2 ^ c := setB_lt _ c
  have hp : 0 < 2 ^ x := Nat.two_pow_pos x
  unfold replyT
  generalize onesN E c x = s at *
  obtain ⟨h1, h2⟩ := meet_full c s hc hs
  simp only [trimT, inR, inC, outR, outC, if_false, Bool.false_eq_true, h1]
  by_cases h : s = 0
  · rw [if_pos (.inr h), if_pos h]
  · rw [if_neg (by omega), if_neg h]
    by_cases g : s = 2 ^ c - 1
    · rw [if_pos (.inr (h2.2 g)), if_pos g]
    · rw [if_neg (fun e => e.elim (by omega) (fun e => g (h2.1 e))), if_neg g]
/-- the reference's columns -/
theorem ones_all (E : Nat → Nat → Bool) (r c x : Nat) (hx : x < r) : setB (fun y => allTo E (2 ^ x) true y r) c = onesN E c x := by
  unfold onesN
  congr 1
  funext y
  have h := allTo_iff E (2 ^ x) true y r
  have : (∀ x', x' < r → (2 ^ x).testBit x' = true → E x' y = true) ↔ E x y = true := by
    constructor
    · intro h; exact h x hx (by simp)
    · intro h x' _ hb
      rw [Nat.testBit_two_pow] at hb
      have : x = x' := by simpa using hb
      rw [← this]; exact h
  rw [this] at h
  rw [Bool.eq_iff_iff]
  exact h
/-- one of the list from h on, up to i -/
theorem any_step {f : Nat → Bool} (l : List Nat) (h i : Nat) (hi : i < l.length) (hh : h ≤ i) : ((l.drop h).take (i + 1 - h)).any f = (((l.drop h).take (i - h)).any f || f l[i]) := by
  have e : i + 1 - h = (i - h) + 1 := by omega
  have hl : i - h < (l.drop h).length := by rw [List.length_drop]; omega
  rw [e, List.take_add_one, List.any_append, List.getElem?_eq_getElem hl, List.getElem_drop]
  simp only [Option.toList_some, List.any_cons, List.any_nil, Bool.or_false]
  congr 2
  congr 1
  omega
end Go.Proofs.YtgfhahlkffagaaaDoor.NameT

/-
  The reference's protocol in which a player names a row.
-/
namespace Go.Proofs.YtgfhahlkffagaaaDoor.SaidName
open Go.RowKit Go.Proofs.YtgfhahlkffagaaaDoor.Plain Go.Proofs.YtgfhahlkffagaaaDoor.Base Go.Proofs.YtgfhahlkffagaaaDoor.Valid Go.Proofs.YtgfhahlkffagaaaDoor.Law Go.Proofs.YtgfhahlkffagaaaDoor.Entry Go.Proofs.YtgfhahlkffagaaaDoor.Pat Go.Proofs.YtgfhahlkffagaaaDoor.Tree Go.Proofs.YtgfhahlkffagaaaDoor.Cols Go.Proofs.YtgfhahlkffagaaaDoor.SetW Go.Proofs.YtgfhahlkffagaaaDoor.First Go.Proofs.YtgfhahlkffagaaaDoor.NameT Go.Proofs.YtgfhahlkffagaaaDoor.FreeL
open Go.Proofs.YtgfhahlkffagaaaDoor.Where (wrap8 or8)
open Go.Proofs.YtgfhahlkffagaaaDoor.Free (fill wp_value wp_enter wp_load_row freeB)
set_option linter.unusedVariables false
set_option linter.unusedSimpArgs false

theorem eval_get {a : Act} {d : Tmp} {v : Value} (h : a.tmps[d]?.getD undef = v) : a.eval (.tmp d) = v := by
  rw [← h]
  show a.tmps.getD d undef = _
  simp [Array.getD_eq_getD_getElem?]
theorem minfo : (Tryd.prog.info? 27).map (·.size) = some 3 := by kernel_rfl
theorem node_text (a : Bool) (S : Nat) (X Y : T) : str [whoB a] ++ str [hexD (S / 16)] ++ str [hexD (S % 16)] ++ str (text X) ++ str (text Y) = str (text (.say a S X Y)) := by
  rw [str_append, str_append, str_append, str_append]
  rfl
theorem said_node (a : Bool) (S : Nat) (hS : S < 256) (X Y : T) (hX : (text X).length ≤ 8000000) (hY : (text Y).length ≤ 8000000) (w : World) :
    Calls Tryd.prog 55 #[.string (str [whoB a]), .int .i64 (S : Int), .string (str (text X)), .string (str (text Y))] w fun e w' => e = .returned (.string (str (text (.say a S X Y)))) ∧ Below w.heap.size w w' := by
  rw [← node_text]
  exact node_said (str [whoB a]) (str (text X)) (str (text Y)) S hS (by rw [str_size]; show 1 ≤ 2000; omega) (by rw [str_size]; omega) (by rw [str_size]; omega) w
theorem wrap_pow (x : Nat) (hx : x ≤ 8) : IntKind.i64.wrap (2 ^ x) = ((2 ^ x : Nat) : Int) := by
  have h8 : (2 : Nat) ^ x ≤ 256 := Nat.le_trans (Nat.pow_le_pow_right (by decide) hx) (by decide)
  rw [show ((2 : Int) ^ x) = ((2 ^ x : Nat) : Int) by simp]
  exact wrap8 _ h8

set_option maxHeartbeats 2000000 in
theorem reply_said (E : Nat → Nat → Bool) (r c : Nat) (h1 : 1 ≤ r) (h2 : r ≤ 8) (h3 : 1 ≤ c) (h4 : c ≤ 8) (x : Nat) (hx : x < r) (w : World) :
    Calls Tryd.prog 53 #[mat r c (str (rowsB E r c)), .int .i64 (x : Int)] w fun e w' => e = .returned (.string (str (text (replyT E c x)))) ∧ Below w.heap.size w w' := by
  have hX : 2 ^ x < 256 := Nat.lt_of_lt_of_le (Nat.pow_lt_pow_right (by decide) (show x < 8 by omega)) (by decide)
  have hY : 2 ^ c ≤ 256 := Nat.le_trans (Nat.pow_le_pow_right (by decide) h4) (by decide)
  have hY1 : 0 < 2 ^ c := Nat.two_pow_pos c
  have hC0 : ∀ W : World, Calls Tryd.prog 84 #[mat r c (str (rowsB E r c)), .int .i64 ((2 ^ x : Nat) : Int), .int .i64 1] W fun e w' => e = .returned (.int .i64 (onesN E c x : Int)) ∧ Below W.heap.size W w' := fun W => by
    have h := cols_any E r c h1 h2 h3 h4 (2 ^ x) hX true W
    rw [ones_all E r c x hx] at h
    exact h
  have HC := Lib.hid hC0
  have hlt := ones_lt E c x h4
  have hN0 : ∀ W : World, Calls Tryd.prog 55 #[.string ⟨#[66]⟩, .int .i64 (onesN E c x : Int), .string ⟨#[48]⟩, .string ⟨#[49]⟩] W fun e w' => e = .returned (.string (str (text (.say false (onesN E c x) (.leaf false) (.leaf true))))) ∧ Below W.heap.size W w' := fun W => said_node false (onesN E c x) hlt (.leaf false) (.leaf true) (by simp [text]) (by simp [text]) W
  have HN := Lib.hid hN0
  have HRT : Hid (replyT E c x = if onesN E c x = 0 then .leaf false else if onesN E c x = 2 ^ c - 1 then .leaf true else .say false (onesN E c x) (.leaf false) (.leaf true)) := rfl
  have hw := wrap_pow x (by omega)
  have hwc := wrap_pow c h4
  clear hC0 hN0
  generalize onesN E c x = u at *
  generalize replyT E c x = tt at *
  generalize str (rowsB E r c) = s at *
  obtain ⟨X, hXe⟩ : ∃ X : Nat, X = 2 ^ x := ⟨_, rfl⟩
  obtain ⟨Y, hYe⟩ : ∃ Y : Nat, Y = 2 ^ c := ⟨_, rfl⟩
  rw [← hXe] at hw hX HC
  rw [← hYe] at hwc hY HRT hY1
  have hwy : IntKind.i64.wrap ((Y : Int) - 1) = ((Y - 1 : Nat) : Int) := by
    have : (Y : Int) - 1 = ((Y - 1 : Nat) : Int) := by omega
    rw [this]
    exact wrap8 _ (by omega)
  have HM : Hid (∀ W' : World, Below (w.alloc (.cells #[.int .i64 (r : Int), .int .i64 (c : Int), .string s] 27)).heap.size (w.alloc (.cells #[.int .i64 (r : Int), .int .i64 (c : Int), .string s] 27)) W' → W'.heap[w.heap.size]? = some (.cells #[.int .i64 (r : Int), .int .i64 (c : Int), .string s] 27 (0, 0))) := fun W' hb => box_later hb
  clear hXe hYe
  generalize Y - 1 = Z at *
  go_enter Tryd.func53, Tryd.ntmps53
  go_wp2_with fail
  refine (HC.out _).mono ?_
  rintro e w1 ⟨rfl, hb1⟩
  obtain ⟨m0, m1, m2⟩ := cells3 (HM.out _ hb1)
  have HB := Lib.hid (below_grown hb1)
  clear hb1 HC HM
  by_cases g0 : u = 0
  · subst g0
    have HT : Hid (tt = .leaf false) := HRT.out
    clear HRT HN
    go_wp2_with fail
    go_ret
    exact ⟨by rw [HT.out]; rfl, HB.out⟩
  have g0i : ¬ ((u : Int) = 0) := by omega
  by_cases g1 : u = Z
  · subst g1
    have HT : Hid (tt = .leaf true) := by have h := HRT.out; rw [if_neg g0, if_pos rfl] at h; exact h
    clear HRT HN g0
    go_wp2_with fail
    go_ret
    exact ⟨by rw [HT.out]; rfl, HB.out⟩
  have g1i : ¬ ((u : Int) = (Z : Int)) := by omega
  have HT : Hid (tt = .say false u (.leaf false) (.leaf true)) := by have h := HRT.out; rw [if_neg g0, if_neg g1] at h; exact h
  clear HRT g0 g1
  go_wp2_with fail
  refine (HN.out _).mono ?_
  rintro e w2 ⟨rfl, hb2⟩
  have HB2 := Lib.hid (HB.out.trans (hb2.mono HB.out.size))
  clear hb2
  go_wp2_with fail
  go_ret
  exact ⟨by rw [HT.out]; rfl, HB2.out⟩

/-- the box of the matrix and the list of rows -/
structure Nb (w wr : World) (B : Nat) (r c : Nat) (s : ByteArray) (b o : Nat) (l : List Nat) : Prop where
  box : wr.heap[B]? = some (.cells #[.int .i64 (r : Int), .int .i64 (c : Int), .string s] 27 (0, 0))
  lt : b < wr.heap.size
  list : ∀ (j : Nat) (hj : j < l.length), wr.cell? ⟨b, o + j, none⟩ = some (.int .i64 (l[j] : Int))
  below : Below w.heap.size w wr
theorem Nb.later {w wr w2 : World} {B r c : Nat} {s : ByteArray} {b o : Nat} {l : List Nat} (h : Nb w wr B r c s b o l) (hb : Below wr.heap.size wr w2) : Nb w w2 B r c s b o l :=
  ⟨(hb.block _ (Array.getElem?_eq_some_iff.1 h.box).1).trans h.box, Nat.lt_of_lt_of_le h.lt hb.size, fun j hj => (hb.cell (p := ⟨b, o + j, none⟩) h.lt).trans (h.list j hj), h.below.trans (hb.mono h.below.size)⟩

/-- the numbers found so far, and the row k if one of the list is equal to it up to j -/
def upTo (E : Nat → Nat → Bool) (c : Nat) (l : List Nat) (H k u j : Nat) : Nat := u ||| (if ((l.drop H).take (j - H)).any (fun i => rowB E i c == rowB E k c) then 2 ^ k else 0)
theorem upTo_start (E : Nat → Nat → Bool) (c : Nat) (l : List Nat) (H k u : Nat) : upTo E c l H k u H = u := by simp [upTo]
theorem upTo_lt (E : Nat → Nat → Bool) (c : Nat) (l : List Nat) (H k u j : Nat) (hu : u < 256) (hX : 2 ^ k < 256) : upTo E c l H k u j < 256 := by
  unfold upTo
  split
  · exact Nat.or_lt_two_pow (n := 8) hu hX
  · exact Nat.or_lt_two_pow (n := 8) hu (by decide)
theorem upTo_step (E : Nat → Nat → Bool) (c : Nat) (l : List Nat) (H k u j : Nat) (hj : j < l.length) (hh : H ≤ j) : (if (rowB E l[j] c == rowB E k c) = true then upTo E c l H k u j ||| 2 ^ k else upTo E c l H k u j) = upTo E c l H k u (j + 1) := by
  unfold upTo
  rw [any_step l H j hj hh]
  cases ((l.drop H).take (j - H)).any (fun i => rowB E i c == rowB E k c) <;> cases (rowB E l[j] c == rowB E k c) <;> simp [Nat.or_assoc]
theorem upTo_all (E : Nat → Nat → Bool) (c : Nat) (l : List Nat) (H k : Nat) : upTo E c l H k (setB (anyRow E c (l.drop H)) k) l.length = setB (anyRow E c (l.drop H)) (k + 1) := by
  unfold upTo
  rw [List.take_of_length_le (by rw [List.length_drop]; omega), ← setB_or]
  rfl

def Named (E : Nat → Nat → Bool) (r c : Nat) (l : List Nat) (t : T) : Prop :=
  ∀ (b o cap : Nat) (w : World), l.length ≤ cap → b < w.heap.size → (∀ (j : Nat) (hj : j < l.length), w.cell? ⟨b, o + j, none⟩ = some (.int .i64 (l[j] : Int))) →
    Calls Tryd.prog 27 #[mat r c (str (rowsB E r c)), .slice (some ⟨b, o, none⟩) l.length cap] w fun e w' => e = .returned (.string (str (text t))) ∧ Below w.heap.size w w'

set_option maxHeartbeats 2000000 in
set_option maxRecDepth 100000 in
theorem name_one (E : Nat → Nat → Bool) (r c : Nat) (h1 : 1 ≤ r) (h2 : r ≤ 8) (h3 : 1 ≤ c) (h4 : c ≤ 8) (x : Nat) (hx : x < r) : Named E r c [x] (replyT E c x) := by
  intro b o cap w hcap hb hl
  have HR := Lib.hid (fun W => reply_said E r c h1 h2 h3 h4 x hx W)
  have h0 := hl 0 (by simp)
  generalize str (text (replyT E c x)) = st at *
  generalize str (rowsB E r c) = s at *
  have HK : Hid (∀ W' : World, Below (w.alloc (.cells #[.int .i64 (r : Int), .int .i64 (c : Int), .string s] 27)).heap.size (w.alloc (.cells #[.int .i64 (r : Int), .int .i64 (c : Int), .string s] 27)) W' → W'.heap[w.heap.size]? = some (.cells #[.int .i64 (r : Int), .int .i64 (c : Int), .string s] 27 (0, 0)) ∧ W'.cell? ⟨b, o, none⟩ = some (.int .i64 (x : Int))) := fun W' hb2 =>
    ⟨box_later hb2, ((below_grown hb2).cell (p := ⟨b, o, none⟩) hb).trans h0⟩
  clear hl h0
  show Calls _ _ #[_, .slice (some ⟨b, o, none⟩) 1 cap] _ _
  obtain ⟨B, hB⟩ : ∃ B, w.heap.size = B := ⟨_, rfl⟩
  go_enter Tryd.func27, Tryd.ntmps27
  go_wp2_with fail
  rw [hB] at HK
  try rw [hB]
  refine wp_region_below (fun | 0 => mat r c s | 1 => .slice (some ⟨b, o, none⟩) 1 cap | 2 => .pointer (some ⟨b, o, none⟩) | 3 => .int .i64 (x : Int) | 4 => .string st | 5 => .string st | _ => undef) (by kernel_rfl) (by kernel_rfl) rfl ?conA ?enA
  case conA =>
    intro i oo ho a wx hb2 hf
    match i, ho with
    | 0, ho =>
      obtain rfl := Option.some.inj ho
      have b2 : a.tmps[2]?.getD undef = .pointer (some ⟨B, 0, none⟩) := hf.2 2 (by kernel_rfl)
      exact wp_load_row 27 (.tmp 2) rfl B (eval_get b2) 27 _ (0, 0) _ ((HK.out _ hb2).1) Tryd.underlying27 rfl minfo ⟨rfl, Below.refl _ _⟩
    | 1, ho =>
      obtain rfl := Option.some.inj ho
      have b1 : a.tmps[1]?.getD undef = .slice (some ⟨b, o, none⟩) 1 cap := hf.2 1 (by kernel_rfl)
      exact wp_value (.slice (some ⟨b, o, none⟩) 1 cap) (by unfold execOp; go_simp) ⟨rfl, Below.refl _ _⟩
    | 2, ho =>
      obtain rfl := Option.some.inj ho
      have e13 : a.tmps[13]?.getD undef = .slice (some ⟨b, o, none⟩) 1 cap := hf.1 ⟨1, .data⟩ (by simp) rfl _ 13 rfl rfl
      exact wp_value (.pointer (some ⟨b, o, none⟩)) (by unfold execOp; go_simp) ⟨rfl, Below.refl _ _⟩
    | 3, ho =>
      obtain rfl := Option.some.inj ho
      have e14 : a.tmps[14]?.getD undef = .pointer (some ⟨b, o, none⟩) := hf.1 ⟨2, .data⟩ (by simp) rfl _ 14 rfl rfl
      have cx := (HK.out _ hb2).2
      exact wp_value (.int .i64 (x : Int)) (by unfold execOp; go_simp) ⟨rfl, Below.refl _ _⟩
    | 4, ho =>
      obtain rfl := Option.some.inj ho
      have e12 : a.tmps[12]?.getD undef = mat r c s := hf.1 ⟨0, .data⟩ (by simp) rfl _ 12 rfl rfl
      have e15 : a.tmps[15]?.getD undef = .int .i64 (x : Int) := hf.1 ⟨3, .data⟩ (by simp) rfl _ 15 rfl rfl
      exact wp_enter 53 #[mat r c s, .int .i64 (x : Int)] (.string st) _ (by unfold execOp; go_simp) (HR.out wx) (fun w' h => ⟨rfl, h⟩)
    | 5, ho =>
      obtain rfl := Option.some.inj ho
      have e16 : a.tmps[16]?.getD undef = .string st := hf.1 ⟨4, .data⟩ (by simp) rfl _ 16 rfl rfl
      exact wp_value (.string st) (by unfold execOp; go_simp) ⟨rfl, Below.refl _ _⟩
    | q + 6, ho => simp at ho
  case enA =>
    intro w2 hb2
    have HB := Lib.hid (below_grown hb2)
    clear hb2
    simp only [fill, Act.put]
    go_simp
    go_wp2_with fail
    go_ret
    exact ⟨rfl, HB.out⟩

set_option maxHeartbeats 8000000 in
set_option maxRecDepth 100000 in
theorem name_said (E : Nat → Nat → Bool) (r c : Nat) (h1 : 1 ≤ r) (h2 : r ≤ 8) (h3 : 1 ≤ c) (h4 : c ≤ 8) : ∀ (n : Nat) (l : List Nat), 1 ≤ l.length → l.length ≤ n + 1 → l.length ≤ 8 → (∀ x ∈ l, x < r) → Named E r c l (nameT E r c n l) := by
  intro n
  induction n with
  | zero =>
    intro l a1 a2 a3 hm
    obtain ⟨x, rfl⟩ := List.length_eq_one_iff.1 (show l.length = 1 by omega)
    exact name_one E r c h1 h2 h3 h4 x (hm x (by simp))
  | succ n ih =>
    intro l a1 a2 a3 hm
    by_cases a4 : l.length = 1
    · obtain ⟨x, rfl⟩ := List.length_eq_one_iff.1 a4
      exact name_one E r c h1 h2 h3 h4 x (hm x (by simp))
    intro b o cap w hcap hb hl
    obtain ⟨H, hH⟩ : ∃ H, (l.length + 1) / 2 = H := ⟨_, rfl⟩
    have hH1 : 1 ≤ H := by omega
    have hH2 : H < l.length := by omega
    have hlt : (l.take H).length = H := by rw [List.length_take]; omega
    have hld : (l.drop H).length = l.length - H := by rw [List.length_drop]
    have iA := ih (l.take H) (by omega) (by omega) (by omega) (fun x hx => hm x (List.mem_of_mem_take hx))
    have iB := ih (l.drop H) (by omega) (by omega) (by omega) (fun x hx => hm x (List.mem_of_mem_drop hx))
    have nA := name_len E r c n (l.take H) (by omega) (by omega)
    have nB := name_len E r c n (l.drop H) (by omega) (by omega)
    rw [hlt] at nA
    rw [hld] at nB
    have hS := say_lt E r c (l.drop H) h2
    have hNN := fun W => said_node true (sayN E r c (l.drop H)) hS (nameT E r c n (l.take H)) (nameT E r c n (l.drop H)) (by omega) (by omega) W
    have HRT : nameT E r c (n + 1) l = .say true (sayN E r c (l.drop H)) (nameT E r c n (l.take H)) (nameT E r c n (l.drop H)) := by
      show (if l.length = 1 then _ else _) = _
      rw [if_neg a4, hH]
    rw [HRT]
    clear HRT nA nB hS ih
    obtain ⟨tA, htA⟩ : ∃ t, nameT E r c n (l.take H) = t := ⟨_, rfl⟩
    obtain ⟨tB, htB⟩ : ∃ t, nameT E r c n (l.drop H) = t := ⟨_, rfl⟩
    rw [htA] at iA
    rw [htB] at iB
    rw [htA, htB] at hNN ⊢
    clear htA htB
    have HA : Hid (∀ W : World, b < W.heap.size → (∀ (j : Nat) (hj : j < l.length), W.cell? ⟨b, o + j, none⟩ = some (.int .i64 (l[j] : Int))) → Calls Tryd.prog 27 #[mat r c (str (rowsB E r c)), .slice (some ⟨b, o, none⟩) H cap] W fun e w' => e = .returned (.string (str (text tA))) ∧ Below W.heap.size W w') := fun W g1 g2 => by
      have h := iA b o cap W (by omega) g1 (fun j hj => by rw [List.getElem_take]; exact g2 j (by omega))
      rw [hlt] at h
      exact h
    have HBn : Hid (∀ W : World, b < W.heap.size → (∀ (j : Nat) (hj : j < l.length), W.cell? ⟨b, o + j, none⟩ = some (.int .i64 (l[j] : Int))) → Calls Tryd.prog 27 #[mat r c (str (rowsB E r c)), .slice (some ⟨b, o + H, none⟩) (l.length - H) (cap - H)] W fun e w' => e = .returned (.string (str (text tB))) ∧ Below W.heap.size W w') := fun W g1 g2 => by
      have h := iB b (o + H) (cap - H) W (by omega) g1 (fun j hj => by rw [List.getElem_drop, Nat.add_assoc]; exact g2 (H + j) (by omega))
      rw [hld] at h
      exact h
    have HSAY : Hid (sayN E r c (l.drop H) = setB (anyRow E c (l.drop H)) r) := rfl
    obtain ⟨S, hSe⟩ : ∃ S, sayN E r c (l.drop H) = S := ⟨_, rfl⟩
    rw [hSe] at hNN HSAY ⊢
    obtain ⟨s3, hs3⟩ : ∃ q, str (text (.say true S tA tB)) = q := ⟨_, rfl⟩
    rw [hs3] at hNN ⊢
    have hNN2 : ∀ W : World, Calls Tryd.prog 55 #[.string ⟨#[65]⟩, .int .i64 (S : Int), .string (str (text tA)), .string (str (text tB))] W fun e w' => e = .returned (.string s3) ∧ Below W.heap.size W w' := hNN
    have HNN := Lib.hid hNN2
    clear iA iB hNN hNN2 hlt hld hSe hs3
    generalize str (text tA) = sA at *
    generalize str (text tB) = sB at *
    have HR : Hid (∀ (k : Nat), k < r → ∀ W, Calls Tryd.prog 54 #[mat r c (str (rowsB E r c)), .int .i64 (k : Int)] W fun e w' => e = .returned (.string (str (rowB E k c))) ∧ Below W.heap.size W w') := fun k hk W => row_any E r c k h2 h4 hk W
    have HSF : Hid (∀ i k, ((str (rowB E k c)).toList == (str (rowB E i c)).toList) = (rowB E i c == rowB E k c)) := fun i k => by
      rw [Bool.eq_iff_iff, beq_iff_eq, beq_iff_eq, ByteArray.toList_eq, ByteArray.toList_eq]
      constructor
      · intro e; exact (str_inj (ByteArray.ext (Array.ext' e))).symm
      · intro e; rw [e]
    generalize str (rowsB E r c) = s at *
    have HK : Hid (Nb w (w.alloc (.cells #[.int .i64 (r : Int), .int .i64 (c : Int), .string s] 27)) w.heap.size r c s b o l) := ⟨heap_alloc_new w _, by simp; omega, fun j hj => (((Below.refl w.heap.size w).alloc (Nat.le_refl _) _).cell (p := ⟨b, o + j, none⟩) hb).trans (hl j hj), (Below.refl w.heap.size w).alloc (Nat.le_refl _) _⟩
    have HHi : Hid (((l.length : Int) + 1) / 2 = (H : Int)) := by unfold Hid; omega
    have hLi : ¬ (l.length : Int) = 1 := by omega
    have hLb : ((l.length : Int) == 1) = false := by simpa using hLi
    have hL1 : IntKind.i64.wrap ((l.length : Int) + 1) = (l.length : Int) + 1 := by rw [IntKind.wrap_i64]; omega
    clear hl hb
    obtain ⟨B, hB⟩ : ∃ B, w.heap.size = B := ⟨_, rfl⟩
    go_enter Tryd.func27, Tryd.ntmps27
    go_wp2_with fail
    rw [hB] at HK
    try rw [hB]
    try simp only [hLb]
    go_loopw [6, 7] (fun t x wr => ∃ (k u : Nat), k ≤ r ∧ t = .int .i64 (u : Int) ∧ Hid (u = setB (anyRow E c (l.drop H)) k) ∧ x = .int .i64 (k : Int) ∧ Nb w wr B r c s b o l) (fun _ x _ => r - (intOf x).toNat)
    case atStart => exact ⟨0, 0, Nat.zero_le _, rfl, rfl, rfl, HK.out⟩
    case round =>
      clear HK
      obtain ⟨k, u, hk, rfl, hu, rfl, hnb⟩ := hrel
      have HK := Lib.hid hnb
      obtain ⟨m0, m1, m2⟩ := cells3 hnb.box
      clear hnb
      by_cases hlt : k < r
      · have hu8 : u < 256 := by rw [hu.out]; exact setB_lt8 _ k (by omega)
        have hX : 2 ^ k < 256 := Nat.lt_of_lt_of_le (Nat.pow_lt_pow_right (by decide) (show k < 8 by omega)) (by decide)
        go_wp2_with fail
        clear m0 m1 m2
        go_loopw [6, 8] (fun t i wr => ∃ (j v : Nat), H ≤ j ∧ j ≤ l.length ∧ t = .int .i64 (v : Int) ∧ Hid (v = upTo E c l H k u j) ∧ i = .int .i64 (j : Int) ∧ Nb w wr B r c s b o l) (fun _ i _ => l.length - (intOf i).toNat)
        case atStart => exact ⟨H, u, Nat.le_refl _, by omega, rfl, by unfold Hid; exact (upTo_start E c l H k u).symm, by rw [HHi.out], HK.out⟩
        case round =>
          clear HK
          obtain ⟨j, v, hj1, hj2, rfl, hv, rfl, hnb⟩ := hrel
          have HK := Lib.hid hnb
          have hcl := hnb.list j
          obtain ⟨m0, m1, m2⟩ := cells3 hnb.box
          have hblt := hnb.lt
          clear hnb
          by_cases hlt2 : j < l.length
          · have hwp := wrap_pow k (by omega)
            have hv8 : v < 256 := by rw [hv.out]; exact upTo_lt E c l H k u j hu8 hX
            have ho2 := or8 v (2 ^ k) hv8 hX
            have hx := hcl hlt2
            have hxm : l[j] < r := hm _ (List.getElem_mem hlt2)
            have hV := upTo_step E c l H k u j hlt2 hj1
            rw [← hv.out] at hV
            have HX := Lib.hid (HR.out k hlt)
            have HY := Lib.hid (HR.out l[j] hxm)
            have HE := HSF.out l[j] k
            generalize l[j] = y at *
            generalize str (rowB E k c) = sx at *
            generalize str (rowB E y c) = sy at *
            rw [← HE] at hV
            obtain ⟨q, hq⟩ : ∃ q, (sx.toList == sy.toList) = q := ⟨_, rfl⟩
            rw [hq] at hV
            have HQ := Lib.hid hq
            obtain ⟨X, hXe⟩ : ∃ X, 2 ^ k = X := ⟨_, rfl⟩
            rw [hXe] at hwp ho2 hV
            obtain ⟨vX, hvX⟩ : ∃ vX, v ||| X = vX := ⟨_, rfl⟩
            rw [hvX] at ho2 hV
            have HV := Lib.hid hV
            have HCL : Hid (∀ W' : World, Below wr.heap.size wr W' → W'.heap[B]? = some (.cells #[.int .i64 (r : Int), .int .i64 (c : Int), .string s] 27 (0, 0)) ∧ W'.cell? ⟨b, o + j, none⟩ = some (.int .i64 (y : Int))) := fun W' hb2 => ⟨(HK.out.later hb2).box, (hb2.cell (p := ⟨b, o + j, none⟩) hblt).trans hx⟩
            have hjl : (j : Int) < (l.length : Int) := by omega
            have hj0 : (0 : Int) ≤ (j : Int) := Int.natCast_nonneg j
            clear HE hq hV hcl hx hv hblt hXe hvX hxm
            go_wp2_with fail
            refine wp_region_below (fun | 0 => mat r c s | 1 => .int .i64 (k : Int) | 2 => .string sx | 3 => mat r c s | 4 => .slice (some ⟨b, o, none⟩) l.length cap | 5 => .int .i64 (j : Int) | 6 => .pointer (some ⟨b, o + j, none⟩) | 7 => .int .i64 (y : Int) | 8 => .string sy | 9 => .bool q | _ => undef) (by kernel_rfl) (by kernel_rfl) rfl ?conB ?enB
            case conB =>
              intro i oo ho a wx hb2 hf
              match i, ho with
              | 0, ho =>
                obtain rfl := Option.some.inj ho
                have b2 : a.tmps[2]?.getD undef = .pointer (some ⟨B, 0, none⟩) := hf.2 2 (by kernel_rfl)
                exact wp_load_row 27 (.tmp 2) rfl B (eval_get b2) 27 _ (0, 0) _ ((HCL.out _ hb2).1) Tryd.underlying27 rfl minfo ⟨rfl, Below.refl _ _⟩
              | 1, ho =>
                obtain rfl := Option.some.inj ho
                have b7 : a.tmps[7]?.getD undef = .int .i64 (k : Int) := hf.2 7 (by kernel_rfl)
                exact wp_value (.int .i64 (k : Int)) (by unfold execOp; go_simp) ⟨rfl, Below.refl _ _⟩
              | 2, ho =>
                obtain rfl := Option.some.inj ho
                have e34 : a.tmps[34]?.getD undef = mat r c s := hf.1 ⟨0, .data⟩ (by simp) rfl _ 34 rfl rfl
                have e35 : a.tmps[35]?.getD undef = .int .i64 (k : Int) := hf.1 ⟨1, .data⟩ (by simp) rfl _ 35 rfl rfl
                exact wp_enter 54 #[mat r c s, .int .i64 (k : Int)] (.string sx) _ (by unfold execOp; go_simp) (HX.out wx) (fun w' h => ⟨rfl, h⟩)
              | 3, ho =>
                obtain rfl := Option.some.inj ho
                have b2 : a.tmps[2]?.getD undef = .pointer (some ⟨B, 0, none⟩) := hf.2 2 (by kernel_rfl)
                exact wp_load_row 27 (.tmp 2) rfl B (eval_get b2) 27 _ (0, 0) _ ((HCL.out _ hb2).1) Tryd.underlying27 rfl minfo ⟨rfl, Below.refl _ _⟩
              | 4, ho =>
                obtain rfl := Option.some.inj ho
                have b1 : a.tmps[1]?.getD undef = .slice (some ⟨b, o, none⟩) l.length cap := hf.2 1 (by kernel_rfl)
                exact wp_value (.slice (some ⟨b, o, none⟩) l.length cap) (by unfold execOp; go_simp) ⟨rfl, Below.refl _ _⟩
              | 5, ho =>
                obtain rfl := Option.some.inj ho
                have b8 : a.tmps[8]?.getD undef = .int .i64 (j : Int) := hf.2 8 (by kernel_rfl)
                exact wp_value (.int .i64 (j : Int)) (by unfold execOp; go_simp) ⟨rfl, Below.refl _ _⟩
              | 6, ho =>
                obtain rfl := Option.some.inj ho
                have e38 : a.tmps[38]?.getD undef = .slice (some ⟨b, o, none⟩) l.length cap := hf.1 ⟨4, .data⟩ (by simp) rfl _ 38 rfl rfl
                have e39 : a.tmps[39]?.getD undef = .int .i64 (j : Int) := hf.1 ⟨5, .data⟩ (by simp) rfl _ 39 rfl rfl
                exact wp_value (.pointer (some ⟨b, o + j, none⟩)) (by unfold execOp; go_simp) ⟨rfl, Below.refl _ _⟩
              | 7, ho =>
                obtain rfl := Option.some.inj ho
                have e40 : a.tmps[40]?.getD undef = .pointer (some ⟨b, o + j, none⟩) := hf.1 ⟨6, .data⟩ (by simp) rfl _ 40 rfl rfl
                have cx := (HCL.out _ hb2).2
                exact wp_value (.int .i64 (y : Int)) (by unfold execOp; go_simp) ⟨rfl, Below.refl _ _⟩
              | 8, ho =>
                obtain rfl := Option.some.inj ho
                have e37 : a.tmps[37]?.getD undef = mat r c s := hf.1 ⟨3, .data⟩ (by simp) rfl _ 37 rfl rfl
                have e41 : a.tmps[41]?.getD undef = .int .i64 (y : Int) := hf.1 ⟨7, .data⟩ (by simp) rfl _ 41 rfl rfl
                exact wp_enter 54 #[mat r c s, .int .i64 (y : Int)] (.string sy) _ (by unfold execOp; go_simp) (HY.out wx) (fun w' h => ⟨rfl, h⟩)
              | 9, ho =>
                obtain rfl := Option.some.inj ho
                have e36 : a.tmps[36]?.getD undef = .string sx := hf.1 ⟨2, .data⟩ (by simp) rfl _ 36 rfl rfl
                have e42 : a.tmps[42]?.getD undef = .string sy := hf.1 ⟨8, .data⟩ (by simp) rfl _ 42 rfl rfl
                have cq := HQ.out
                exact wp_value (.bool q) (by unfold execOp; go_simp) ⟨rfl, Below.refl _ _⟩
              | q + 10, ho => simp at ho
            case enB =>
              intro w2 hb2
              have HK2 := Lib.hid (HK.out.later hb2)
              clear hb2 HCL HX HY HK m0 m1 m2
              simp only [fill, Act.put]
              go_simp
              cases q
              · go_wp2_with fail
                go_roundw
                case rel => exact ⟨j + 1, v, by omega, by omega, rfl, by unfold Hid; have h := HV.out; simpa using h, by go_num, HK2.out⟩
                case measure => simp [intOf]; omega
              · go_wp2_with fail
                go_roundw
                case rel => exact ⟨j + 1, vX, by omega, by omega, rfl, by unfold Hid; have h := HV.out; simpa using h, by go_num, HK2.out⟩
                case measure => simp [intOf]; omega
          · obtain rfl : j = l.length := by omega
            have HN : Hid (v = setB (anyRow E c (l.drop H)) (k + 1)) := by
              unfold Hid
              rw [hv.out, hu.out]
              exact upTo_all E c l H k
            clear hcl hv
            go_wp2_with fail
            go_roundw
            case rel => exact ⟨k + 1, v, by omega, rfl, HN.out, by go_num, HK.out⟩
            case measure => simp [intOf]; omega
      · obtain rfl : k = r := by omega
        have hu2 : u = S := by rw [HSAY.out]; exact hu.out
        rw [← hu2] at HNN
        clear hu hu2 HSAY HR HSF
        have HA2 : Hid (∀ W' : World, Below wr.heap.size wr W' → W'.heap[B]? = some (.cells #[.int .i64 (k : Int), .int .i64 (c : Int), .string s] 27 (0, 0)) ∧ b < W'.heap.size ∧ (∀ (j : Nat) (hj : j < l.length), W'.cell? ⟨b, o + j, none⟩ = some (.int .i64 (l[j] : Int)))) := fun W' hb2 => ⟨(HK.out.later hb2).box, (HK.out.later hb2).lt, (HK.out.later hb2).list⟩
        have n4 : ¬ cap = H := by omega
        have n5 : ¬ cap = 0 := by omega
        go_wp2_with fail
        refine wp_region_below (fun | 0 => .int .i64 (u : Int) | 1 => mat k c s | 2 => .slice (some ⟨b, o, none⟩) l.length cap | 3 => .int .i64 (H : Int) | 4 => .slice (some ⟨b, o, none⟩) H cap | 5 => .string sA | 6 => mat k c s | 7 => .slice (some ⟨b, o, none⟩) l.length cap | 8 => .int .i64 (H : Int) | 9 => .slice (some ⟨b, o + H, none⟩) (l.length - H) (cap - H) | 10 => .string sB | 11 => .string s3 | 12 => .string s3 | _ => undef) (by kernel_rfl) (by kernel_rfl) rfl ?conC ?enC
        case conC =>
          intro i oo ho a wx hb2 hf
          match i, ho with
          | 0, ho =>
            obtain rfl := Option.some.inj ho
            have b6 : a.tmps[6]?.getD undef = .int .i64 (u : Int) := hf.2 6 (by kernel_rfl)
            exact wp_value (.int .i64 (u : Int)) (by unfold execOp; go_simp) ⟨rfl, Below.refl _ _⟩
          | 1, ho =>
            obtain rfl := Option.some.inj ho
            have b2 : a.tmps[2]?.getD undef = .pointer (some ⟨B, 0, none⟩) := hf.2 2 (by kernel_rfl)
            exact wp_load_row 27 (.tmp 2) rfl B (eval_get b2) 27 _ (0, 0) _ ((HA2.out _ hb2).1) Tryd.underlying27 rfl minfo ⟨rfl, Below.refl _ _⟩
          | 2, ho =>
            obtain rfl := Option.some.inj ho
            have b1 : a.tmps[1]?.getD undef = .slice (some ⟨b, o, none⟩) l.length cap := hf.2 1 (by kernel_rfl)
            exact wp_value (.slice (some ⟨b, o, none⟩) l.length cap) (by unfold execOp; go_simp) ⟨rfl, Below.refl _ _⟩
          | 3, ho =>
            obtain rfl := Option.some.inj ho
            have b5 : a.tmps[5]?.getD undef = .int .i64 (H : Int) := (hf.2 5 (by kernel_rfl)).trans (congrArg (Value.int .i64) HHi.out)
            exact wp_value (.int .i64 (H : Int)) (by unfold execOp; go_simp) ⟨rfl, Below.refl _ _⟩
          | 4, ho =>
            obtain rfl := Option.some.inj ho
            have e51 : a.tmps[51]?.getD undef = .slice (some ⟨b, o, none⟩) l.length cap := hf.1 ⟨2, .data⟩ (by simp) rfl _ 51 rfl rfl
            have e52 : a.tmps[52]?.getD undef = .int .i64 (H : Int) := hf.1 ⟨3, .data⟩ (by simp) rfl _ 52 rfl rfl
            exact wp_value (.slice (some ⟨b, o, none⟩) H cap) (by unfold execOp; go_simp; intro hq; exact absurd hq (by omega)) ⟨rfl, Below.refl _ _⟩
          | 5, ho =>
            obtain rfl := Option.some.inj ho
            have e50 : a.tmps[50]?.getD undef = mat k c s := hf.1 ⟨1, .data⟩ (by simp) rfl _ 50 rfl rfl
            have e53 : a.tmps[53]?.getD undef = .slice (some ⟨b, o, none⟩) H cap := hf.1 ⟨4, .data⟩ (by simp) rfl _ 53 rfl rfl
            exact wp_enter 27 #[mat k c s, .slice (some ⟨b, o, none⟩) H cap] (.string sA) _ (by unfold execOp; go_simp) (HA.out wx (HA2.out _ hb2).2.1 (HA2.out _ hb2).2.2) (fun w' h => ⟨rfl, h⟩)
          | 6, ho =>
            obtain rfl := Option.some.inj ho
            have b2 : a.tmps[2]?.getD undef = .pointer (some ⟨B, 0, none⟩) := hf.2 2 (by kernel_rfl)
            exact wp_load_row 27 (.tmp 2) rfl B (eval_get b2) 27 _ (0, 0) _ ((HA2.out _ hb2).1) Tryd.underlying27 rfl minfo ⟨rfl, Below.refl _ _⟩
          | 7, ho =>
            obtain rfl := Option.some.inj ho
            have b1 : a.tmps[1]?.getD undef = .slice (some ⟨b, o, none⟩) l.length cap := hf.2 1 (by kernel_rfl)
            exact wp_value (.slice (some ⟨b, o, none⟩) l.length cap) (by unfold execOp; go_simp) ⟨rfl, Below.refl _ _⟩
          | 8, ho =>
            obtain rfl := Option.some.inj ho
            have b5 : a.tmps[5]?.getD undef = .int .i64 (H : Int) := (hf.2 5 (by kernel_rfl)).trans (congrArg (Value.int .i64) HHi.out)
            exact wp_value (.int .i64 (H : Int)) (by unfold execOp; go_simp) ⟨rfl, Below.refl _ _⟩
          | 9, ho =>
            obtain rfl := Option.some.inj ho
            have e56 : a.tmps[56]?.getD undef = .slice (some ⟨b, o, none⟩) l.length cap := hf.1 ⟨7, .data⟩ (by simp) rfl _ 56 rfl rfl
            have e57 : a.tmps[57]?.getD undef = .int .i64 (H : Int) := hf.1 ⟨8, .data⟩ (by simp) rfl _ 57 rfl rfl
            exact wp_value (.slice (some ⟨b, o + H, none⟩) (l.length - H) (cap - H)) (by unfold execOp; go_simp; intro hq; exact absurd hq (by omega)) ⟨rfl, Below.refl _ _⟩
          | 10, ho =>
            obtain rfl := Option.some.inj ho
            have e55 : a.tmps[55]?.getD undef = mat k c s := hf.1 ⟨6, .data⟩ (by simp) rfl _ 55 rfl rfl
            have e58 : a.tmps[58]?.getD undef = .slice (some ⟨b, o + H, none⟩) (l.length - H) (cap - H) := hf.1 ⟨9, .data⟩ (by simp) rfl _ 58 rfl rfl
            exact wp_enter 27 #[mat k c s, .slice (some ⟨b, o + H, none⟩) (l.length - H) (cap - H)] (.string sB) _ (by unfold execOp; go_simp) (HBn.out wx (HA2.out _ hb2).2.1 (HA2.out _ hb2).2.2) (fun w' h => ⟨rfl, h⟩)
          | 11, ho =>
            obtain rfl := Option.some.inj ho
            have e49 : a.tmps[49]?.getD undef = .int .i64 (u : Int) := hf.1 ⟨0, .data⟩ (by simp) rfl _ 49 rfl rfl
            have e54 : a.tmps[54]?.getD undef = .string sA := hf.1 ⟨5, .data⟩ (by simp) rfl _ 54 rfl rfl
            have e59 : a.tmps[59]?.getD undef = .string sB := hf.1 ⟨10, .data⟩ (by simp) rfl _ 59 rfl rfl
            exact wp_enter 55 #[.string ⟨#[65]⟩, .int .i64 (u : Int), .string sA, .string sB] (.string s3) _ (by unfold execOp; go_simp) (HNN.out wx) (fun w' h => ⟨rfl, h⟩)
          | 12, ho =>
            obtain rfl := Option.some.inj ho
            have e60 : a.tmps[60]?.getD undef = .string s3 := hf.1 ⟨11, .data⟩ (by simp) rfl _ 60 rfl rfl
            exact wp_value (.string s3) (by unfold execOp; go_simp) ⟨rfl, Below.refl _ _⟩
          | q + 13, ho => simp at ho
        case enC =>
          intro w2 hb2
          have HK2 := Lib.hid (HK.out.later hb2)
          clear hb2
          simp only [fill, Act.put]
          go_simp
          go_wp2_with fail
          go_ret
          exact ⟨rfl, HK2.out.below⟩
end Go.Proofs.YtgfhahlkffagaaaDoor.SaidName

