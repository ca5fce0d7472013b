/-
  Texts of one seat, joined: DrawT, Tree, Hex, Shelf.
-/
import Derived.Test.YtbbgibbpeibhiaaGreatDoorJn1
import Derived.Lib.IndexLaws
import Derived.Lib.IndexAny
import Derived.Test.YtbbgibbpeibhiaaGreatDoorRows
import Derived.WalkKit
import Derived.WalkSpells
import Derived.Lib.Hide
import Derived.Handy
import Derived.Outline
import Derived.Shelf.Strings.Trim
import Derived.Shelf.Small.Utf8
import Derived.Shelf.Small.Strs
import Derived.Shelf.Utf8.RuneCount
import Derived.Shelf.Strings.Search1
import Derived.Shelf.Strings.Search2
import Derived.Shelf.Strings.Search3
import Derived.Shelf.Strings.Count
import Derived.Shelf.LaysM
import Derived.Shelf.Strings.Shaped
import Derived.Shelf.Strings.Split
import Derived.Shelf.Unicode.Decode
import Derived.Shelf.Strings.Runes
import Derived.Shelf.Strings.RuneCount
import Derived.Shelf.Strings.AsciiSet
import Derived.Shelf.Unicode.DecodeSlow
import Derived.Shelf.Unicode.DecodeAny
import Derived.Shelf.Unicode.DecodeLast
import Derived.Test.YtbbgibbpeibhiaaGreatDoorProg
/-
  The drawing functions: an element of a list of strings; a rectangle of a valid matrix.
-/
namespace Go.Proofs.YtbbgibbpeibhiaaGreatDoor.DrawT
open Go.RowKit Go.Proofs.YtbbgibbpeibhiaaGreatDoor.Plain Go.Proofs.YtbbgibbpeibhiaaGreatDoor.Rd Go.Proofs.YtbbgibbpeibhiaaGreatDoor.Rd2 Go.Proofs.YtbbgibbpeibhiaaGreatDoor.Rd3
set_option linter.unusedVariables false

set_option maxHeartbeats 1000000 in
theorem of_any {lo : Nat} (g p : Nat) (hp : p < 1048576) (xs : List ByteArray) (h1 : 1 ≤ xs.length) (h8 : xs.length ≤ 1000) (b c : Nat) (hbg : b ≠ g) (w : World) (h : Rdr lo w g p) (hbl : b < w.heap.size)
    (hc : ∀ j (hj : j < xs.length), w.cell? ⟨b, j, none⟩ = some (.string xs[j])) :
    Calls Tryz.prog 15 #[.pointer (some ⟨g, 0, none⟩), .slice (some ⟨b, 0, none⟩) xs.length c] w fun e w' => ∃ x : ByteArray, e = .returned (.string x) ∧ x ∈ xs ∧ Rdr lo w' g (p + 1) ∧ Apt g w w' := by
  have HC := Lib.hid hc
  have HP := Lib.hid (pick_r g p hp (xs.length : Int) w h)
  clear hc h
  go_enter Tryz.func15, Tryz.ntmps15
  go_wp2_with fail
  refine HP.out.mono ?_
  rintro e w1 ⟨x, rfl, ⟨hx0, hxm⟩, hx1, hr, ha⟩
  obtain ⟨k, rfl⟩ := Int.eq_ofNat_of_zero_le hx0
  have hk : k < xs.length := by omega
  have hkl : (k : Int) < (xs.length : Int) := by omega
  have hcell : w1.cell? ⟨b, k, none⟩ = some (.string xs[k]) := (ha.cell (p := ⟨b, k, none⟩) hbl hbg).trans (HC.out k hk)
  have HM : Hid (xs[k] ∈ xs) := List.getElem_mem hk
  have HR := Lib.hid hr
  have HA := Lib.hid ha
  generalize xs[k] = y at hcell HM
  clear hr ha hx1
  go_wp2_with fail
  go_ret
  exact ⟨y, rfl, HM.out, HR.out, HA.out⟩

theorem shift_le (n : Nat) (h : n ≤ 8) : wrap64 (wrap64 (2 ^ n) - 1) ≤ 255 := by
  have h2 : ∀ k : Fin 9, wrap64 (wrap64 (2 ^ k.val) - 1) ≤ 255 := by decide +kernel
  exact h2 ⟨n, by omega⟩
end Go.Proofs.YtbbgibbpeibhiaaGreatDoor.DrawT

/-
  Protocols as trees: their texts, what is read of a text, and what is told of a tree. Nothing of the program.
-/
namespace Go.Proofs.YtbbgibbpeibhiaaGreatDoor.Tree
open Go.RowKit Go.Proofs.YtbbgibbpeibhiaaGreatDoor.Plain
set_option linter.unusedVariables false

/-- a protocol: an end, or a bit of a player (true: the first one) about a set, with what follows -/
inductive T where
  | leaf (b : Bool)
  | say (a : Bool) (s : Nat) (z o : T)

/-- the digits of 16 values -/
def hexL : List UInt8 := [48, 49, 50, 51, 52, 53, 54, 55, 56, 57, 97, 98, 99, 100, 101, 102]
def hexD (n : Nat) : UInt8 := hexL.getD n 0
def hexV (c : UInt8) : Int := Lib.indexByte hexL c
/-- the letter of a player -/
def whoB (a : Bool) : UInt8 := if a then 65 else 66

theorem hexV_D (n : Nat) (h : n < 16) : hexV (hexD n) = (n : Int) := by
  have : ∀ k : Fin 16, hexV (hexD k.1) = (k.1 : Int) := by decide
  exact this ⟨n, h⟩
theorem hexV_ge (c : UInt8) : -1 ≤ hexV c := Lib.indexByte_ge hexL c
theorem hexD_V (c : UInt8) (h : 0 ≤ hexV c) : hexD (hexV c).toNat = c ∧ (hexV c).toNat < 16 := by
  obtain ⟨o, ho⟩ : ∃ o : Nat, hexV c = o := ⟨(hexV c).toNat, by omega⟩
  have h1 := (Lib.indexByte_some (l := hexL) (c := c) (o := o) ho).1
  have h2 : o < hexL.length := (List.getElem?_eq_some_iff.1 h1).1
  rw [ho]
  refine ⟨?_, h2⟩
  show hexL.getD o 0 = c
  rw [List.getD_eq_getElem?_getD, h1]
  rfl

theorem idx_hi (c : UInt8) : hexV c < 16 := by
  by_cases h : 0 ≤ hexV c
  · have := (hexD_V c h).2
    omega
  · omega

/-- the text of a protocol -/
def text : T → List UInt8
  | .leaf b => [dig b]
  | .say a s z o => whoB a :: hexD (s / 16) :: hexD (s % 16) :: (text z ++ text o)
/-- its sets are told by two digits -/
def wf : T → Prop
  | .leaf _ => True
  | .say _ s z o => s < 256 ∧ wf z ∧ wf o
/-- no protocol stands at the begin of a text -/
def No (l : List UInt8) : Prop := ∀ t r, wf t → l ≠ text t ++ r
theorem yes_or_no (l : List UInt8) : (∃ t r, wf t ∧ l = text t ++ r) ∨ No l := by
  by_cases h : ∃ t r, wf t ∧ l = text t ++ r
  · exact .inl h
  · exact .inr fun t r hw e => h ⟨t, r, hw, e⟩
/-- a text is a protocol -/
def Is (l : List UInt8) : Prop := ∃ t, wf t ∧ l = text t

theorem text_pos (t : T) : 0 < (text t).length := by cases t <;> simp [text]
theorem No.nil : No [] := by
  intro t r _ e
  have := text_pos t
  have h := congrArg List.length e
  simp at h
  omega
theorem text_head (t : T) (r : List UInt8) : (∃ b, t = .leaf b ∧ text t ++ r = dig b :: r) ∨
    (∃ a s z o, t = .say a s z o ∧ text t ++ r = whoB a :: hexD (s / 16) :: hexD (s % 16) :: (text z ++ (text o ++ r))) := by
  cases t with
  | leaf b => exact .inl ⟨b, rfl, rfl⟩
  | say a s z o => exact .inr ⟨a, s, z, o, rfl, by simp [text]⟩
theorem dig_or (c : UInt8) (h : c = 48 ∨ c = 49) : ∃ b, c = dig b := by
  rcases h with rfl | rfl
  · exact ⟨false, rfl⟩
  · exact ⟨true, rfl⟩
theorem who_or (c : UInt8) (h : c = 65 ∨ c = 66) : ∃ a, c = whoB a := by
  rcases h with rfl | rfl
  · exact ⟨true, rfl⟩
  · exact ⟨false, rfl⟩
theorem No.not_dig {c : UInt8} {r : List UInt8} (h : No (c :: r)) : c ≠ 48 ∧ c ≠ 49 := by
  constructor
  · rintro rfl; exact h (.leaf false) r trivial rfl
  · rintro rfl; exact h (.leaf true) r trivial rfl
/-- a letter, two digits and two protocols are a protocol -/
theorem No.say {a : Bool} {x y : UInt8} {z o : T} {r : List UInt8} (h : No (whoB a :: x :: y :: (text z ++ (text o ++ r)))) (hx : 0 ≤ hexV x) (hy : 0 ≤ hexV y) (hz : wf z) (ho : wf o) : False := by
  obtain ⟨ex, lx⟩ := hexD_V x hx
  obtain ⟨ey, ly⟩ := hexD_V y hy
  refine h (.say a (16 * (hexV x).toNat + (hexV y).toNat) z o) r ⟨by omega, hz, ho⟩ ?_
  have e1 : (16 * (hexV x).toNat + (hexV y).toNat) / 16 = (hexV x).toNat := by omega
  have e2 : (16 * (hexV x).toNat + (hexV y).toNat) % 16 = (hexV y).toNat := by omega
  simp only [text, e1, e2, ex, ey, List.cons_append, List.append_assoc]
theorem set_hex (s : Nat) (h : s < 256) : (16 * (hexV (hexD (s / 16))) + hexV (hexD (s % 16)) : Int) = s := by
  rw [hexV_D _ (by omega), hexV_D _ (by omega)]
  omega

/-- two texts that begin with a protocol: the same protocol -/
theorem text_inj : ∀ (t u : T) (r q : List UInt8), wf t → wf u → text t ++ r = text u ++ q → t = u ∧ r = q
  | .leaf b, u, r, q, _, hu, e => by
    rcases text_head u q with ⟨b2, rfl, h2⟩ | ⟨a, s, z, o, rfl, h2⟩
    · rw [h2] at e
      simp only [text, List.singleton_append, List.cons.injEq] at e
      refine ⟨?_, e.2⟩
      have := e.1
      cases b <;> cases b2 <;> simp [dig] at this ⊢
    · rw [h2] at e
      simp only [text, List.singleton_append, List.cons.injEq] at e
      have := e.1
      cases b <;> cases a <;> simp [dig, whoB] at this
  | .say a s z o, u, r, q, ht, hu, e => by
    rcases text_head u q with ⟨b2, rfl, h2⟩ | ⟨a2, s2, z2, o2, rfl, h2⟩
    · rw [h2] at e
      simp only [text, List.cons_append, List.cons.injEq] at e
      have := e.1
      cases b2 <;> cases a <;> simp [dig, whoB] at this
    · rw [h2] at e
      simp only [text, List.cons_append, List.append_assoc, List.cons.injEq] at e
      obtain ⟨e1, e2, e3, e4⟩ := e
      obtain ⟨ez, e5⟩ := text_inj z z2 _ _ ht.2.1 hu.2.1 e4
      obtain ⟨eo, e6⟩ := text_inj o o2 _ _ ht.2.2 hu.2.2 e5
      have ha : a = a2 := by cases a <;> cases a2 <;> simp [whoB] at e1 ⊢
      have hs : s = s2 := by
        have h1 := set_hex s ht.1
        have h3 := set_hex s2 hu.1
        rw [e2, e3] at h1
        omega
      exact ⟨by rw [ha, hs, ez, eo], e6⟩

/-- the greatest number of bits -/
def bits : T → Nat
  | .leaf _ => 0
  | .say _ _ z o => 1 + max (bits z) (bits o)
/-- the number of ends -/
def ends : T → Nat
  | .leaf _ => 1
  | .say _ _ z o => ends z + ends o
theorem bits_lt : ∀ t, bits t < (text t).length
  | .leaf _ => by simp [bits, text]
  | .say _ _ z o => by
    have h1 := bits_lt z
    have h2 := bits_lt o
    simp only [bits, text, List.length_cons, List.length_append]
    omega
theorem ends_le : ∀ t, ends t ≤ (text t).length
  | .leaf _ => by simp [ends, text]
  | .say _ _ z o => by
    have h1 := ends_le z
    have h2 := ends_le o
    simp only [ends, text, List.length_cons, List.length_append]
    omega
/-- players exchanged -/
def turnT : T → T
  | .leaf b => .leaf b
  | .say a s z o => .say (!a) s (turnT z) (turnT o)
theorem turn_wf : ∀ t, wf t → wf (turnT t)
  | .leaf _, _ => trivial
  | .say _ _ z o, h => ⟨h.1, turn_wf z h.2.1, turn_wf o h.2.2⟩
theorem turn_length : ∀ t, (text (turnT t)).length = (text t).length
  | .leaf _ => rfl
  | .say _ _ z o => by simp only [turnT, text, List.length_cons, List.length_append, turn_length z, turn_length o]
/-- other protocols at the ends -/
def graftT (zero one : T) : T → T
  | .leaf b => if b then one else zero
  | .say a s z o => .say a s (graftT zero one z) (graftT zero one o)
theorem graft_wf (zero one : T) (h0 : wf zero) (h1 : wf one) : ∀ t, wf t → wf (graftT zero one t)
  | .leaf b, _ => by cases b <;> assumption
  | .say _ _ z o, h => ⟨h.1, graft_wf zero one h0 h1 z h.2.1, graft_wf zero one h0 h1 o h.2.2⟩
/-- how many ends have a value -/
def endsOf (v : Bool) : T → Nat
  | .leaf b => if b = v then 1 else 0
  | .say _ _ z o => endsOf v z + endsOf v o
theorem ends_sum : ∀ t, endsOf false t + endsOf true t = ends t
  | .leaf b => by cases b <;> rfl
  | .say _ _ z o => by
    have h1 := ends_sum z
    have h2 := ends_sum o
    simp only [endsOf, ends]
    omega
theorem graft_length (zero one : T) : ∀ t, (text (graftT zero one t)).length = (text t).length + endsOf false t * ((text zero).length - 1) + endsOf true t * ((text one).length - 1)
  | .leaf b => by
    have h0 := text_pos zero
    have h1 := text_pos one
    cases b <;> simp [graftT, endsOf, text] <;> omega
  | .say _ _ z o => by
    have h1 := graft_length zero one z
    have h2 := graft_length zero one o
    simp only [graftT, endsOf, text, List.length_cons, List.length_append, Nat.add_mul, h1, h2]
    omega
end Go.Proofs.YtbbgibbpeibhiaaGreatDoor.Tree

/-
  The reference's digits of 16 values, and where a protocol ends that begins at an index of a text.
-/
namespace Go.Proofs.YtbbgibbpeibhiaaGreatDoor.Hex
open Go.RowKit Go.Proofs.YtbbgibbpeibhiaaGreatDoor.Plain Go.Proofs.YtbbgibbpeibhiaaGreatDoor.Tree
set_option linter.unusedVariables false

theorem idx_first : ∀ (l : List UInt8) (c : UInt8) (k : Nat) (hk : k < l.length), (∀ j (hj : j < l.length), j < k → l[j] ≠ c) → l[k] = c → Lib.indexByte l c = (k : Int)
  | [], _, _, hk, _, _ => by simp at hk
  | b :: l, c, 0, _, _, he => by
    have he' : b = c := he
    rw [Lib.indexByte, he']
    simp
  | b :: l, c, k + 1, hk, hn, he => by
    have h0 : b ≠ c := hn 0 (by simp) (by omega)
    have ih := idx_first l c k (by simpa using hk) (fun j hj hjk => hn (j + 1) (by simpa using hj) (by omega)) (by simpa using he)
    rw [Lib.indexByte, ih, if_neg (by simpa using h0), if_neg (by simp <;> omega)]
    omega
theorem idx_none : ∀ (l : List UInt8) (c : UInt8), (∀ j (hj : j < l.length), l[j] ≠ c) → Lib.indexByte l c = -1
  | [], _, _ => rfl
  | b :: l, c, hn => by
    have h0 : b ≠ c := hn 0 (by simp)
    have ih := idx_none l c (fun j hj => hn (j + 1) (by simpa using hj))
    rw [Lib.indexByte, ih, if_neg (by simpa using h0)]
    rfl
/-- the byte at a place as a number -/
theorem byte_ne {s : ByteArray} {k : Nat} (hk : k < s.size) (c : UInt8) : ((s[k].toNat : Int) == (c.toNat : Int)) = decide (s.data.toList[k]'(by simpa using hk) = c) := by
  have e : s.data.toList[k]'(by simpa using hk) = s[k] := by simp; rfl
  rw [e, Bool.eq_iff_iff, beq_iff_eq, decide_eq_true_iff]
  constructor
  · intro h; exact UInt8.toNat_inj.1 (by omega)
  · intro h; rw [h]

set_option maxHeartbeats 1000000 in
theorem find_at (s : ByteArray) (hs : s.size ≤ maxLen) (c : UInt8) (w : World) :
    Calls Tryz.prog 65 #[.string s, .int .u8 (c.toNat : Int)] w fun e w' => e = .returned (.int .i64 (Lib.indexByte s.data.toList c)) ∧ w = w' := by
  unfold maxLen at hs
  obtain ⟨cn, hcn⟩ : ∃ cn, (c.toNat : Int) = cn := ⟨_, rfl⟩
  have HC := Lib.hid hcn
  rw [hcn]
  clear hcn
  go_enter Tryz.func65, Tryz.ntmps65
  go_wp2_with fail
  go_loop [5] (fun i => ∃ k : Nat, k ≤ s.size ∧ i = .int .i64 (k : Int) ∧ Hid (∀ j (hj : j < s.data.toList.length), j < k → s.data.toList[j] ≠ c)) (fun i => s.size - (intOf i).toNat)
  case atStart => exact ⟨0, Nat.zero_le _, rfl, fun j _ h => absurd h (by omega)⟩
  case round =>
    obtain ⟨k, hk, rfl, hno⟩ := hrel
    by_cases hkl : k < s.size
    · have HE := Lib.hid (byte_ne hkl c)
      have hkl' : k < s.data.toList.length := by simpa using hkl
      obtain ⟨b, hb⟩ : ∃ b, ((s[k].toNat : Int) == cn) = b := ⟨_, rfl⟩
      have HB := Lib.hid hb
      cases b
      · have HN : Hid (∀ j (hj : j < s.data.toList.length), j < k + 1 → s.data.toList[j] ≠ c) := fun j hj hjk => by
          by_cases e : j = k
          · subst e
            have h := HE.out
            rw [HC.out, HB.out] at h
            exact of_decide_eq_false h.symm
          · exact hno.out j hj (by omega)
        clear hno HE
        go_wp2_with fail
        go_round
        case rel => exact ⟨k + 1, by omega, by go_num, HN⟩
        case measure => simp [intOf]; omega
      · have HI : Hid (Lib.indexByte s.data.toList c = (k : Int)) := by
          have h := HE.out
          rw [HC.out, HB.out] at h
          exact idx_first _ _ k hkl' (fun j hj hjk => hno.out j hj hjk) (of_decide_eq_true h.symm)
        clear hno HE
        go_wp2_with fail
        go_ret
        exact ⟨by rw [HI.out]; rfl, rfl⟩
    · obtain rfl : k = s.size := by omega
      have HI : Hid (Lib.indexByte s.data.toList c = -1) := idx_none _ _ fun j hj => hno.out j hj (by simpa using hj)
      clear hno
      go_wp2_with fail
      go_ret
      exact ⟨by rw [HI.out]; rfl, rfl⟩

set_option maxHeartbeats 400000 in
theorem hex_w (c : UInt8) (w : World) :
    Calls Tryz.prog 52 #[.int .u8 (c.toNat : Int)] w fun e w' => e = .returned (.int .i64 (hexV c)) ∧ w = w' := by
  go_enter Tryz.func52, Tryz.ntmps52
  go_wp2_with fail
  refine (find_at _ (by decide) c _).mono ?_
  rintro e w' ⟨rfl, rfl⟩
  go_wp2_with fail
  go_ret
  exact ⟨rfl, rfl⟩

/-- the byte at an index, told by what stands from there on -/
theorem at_drop {s : ByteArray} {k : Nat} {c : UInt8} {r : List UInt8} (h : s.data.toList.drop k = c :: r) : ∃ hk : k < s.size, s[k] = c := by
  have hk : k < s.data.toList.length := by
    apply Classical.byContradiction
    intro hn
    rw [List.drop_eq_nil_of_le (by omega)] at h
    cases h
  have hk2 : k < s.size := by simpa using hk
  refine ⟨hk2, ?_⟩
  have e : s.data.toList[k]'hk = s[k] := by simp; rfl
  rw [← e]
  have := List.drop_eq_getElem_cons hk
  rw [this] at h
  exact (List.cons.inj h).1
theorem drop_more {s : ByteArray} {k : Nat} (n : Nat) {x r : List UInt8} (h : s.data.toList.drop k = x ++ r) (hn : x.length = n) : s.data.toList.drop (k + n) = r := by
  rw [← List.drop_drop, h, ← hn, List.drop_left]
theorem drop_len {s : ByteArray} {k : Nat} {x r : List UInt8} (hk : k ≤ s.size) (h : s.data.toList.drop k = x ++ r) : k + x.length + r.length = s.size := by
  have := congrArg List.length h
  simp at this
  omega

set_option maxHeartbeats 2000000 in
set_option maxRecDepth 100000 in
/-- where a protocol stands, its end is found -/
theorem end_yes (s : ByteArray) (hs : s.size ≤ 1048576) (t : T) : wf t → ∀ (k : Nat) (hk : k ≤ s.size) (r : List UInt8) (h : s.data.toList.drop k = text t ++ r) (w : World),
    Calls Tryz.prog 37 #[.string s, .int .i64 (k : Int)] w fun e w' => e = .returned (.int .i64 ((k + (text t).length : Nat) : Int)) ∧ w = w' := by
  induction t with
  | leaf b =>
    intro hw k hk0 r h w
    obtain ⟨hk, hx⟩ := at_drop (show _ = dig b :: r from h)
    have hn : (s[k]'hk).toNat = (dig b).toNat := by rw [hx]
    clear hx h hk0
    cases b
    · replace hn : (s[k]'hk).toNat = 48 := hn
      go_enter Tryz.func37, Tryz.ntmps37
      go_wp2
      go_ret
      exact ⟨by simp [text], rfl⟩
    · replace hn : (s[k]'hk).toNat = 49 := hn
      go_enter Tryz.func37, Tryz.ntmps37
      go_wp2
      go_ret
      exact ⟨by simp [text], rfl⟩
  | say a v z o ihz iho =>
    intro hw k hk0 r h w
    have h0 : s.data.toList.drop k = [whoB a, hexD (v / 16), hexD (v % 16)] ++ (text z ++ (text o ++ r)) := by rw [h]; simp [text]
    have h1 : s.data.toList.drop (k + 1) = hexD (v / 16) :: (hexD (v % 16) :: (text z ++ (text o ++ r))) := drop_more (x := [whoB a]) 1 h0 rfl
    have h2 : s.data.toList.drop (k + 2) = hexD (v % 16) :: (text z ++ (text o ++ r)) := drop_more (x := [whoB a, hexD (v / 16)]) 2 h0 rfl
    have h3 : s.data.toList.drop (k + 3) = text z ++ (text o ++ r) := drop_more 3 h0 rfl
    have h4 : s.data.toList.drop (k + 3 + (text z).length) = text o ++ r := drop_more _ h3 rfl
    obtain ⟨hk, hx0⟩ := at_drop (show _ = whoB a :: (hexD (v / 16) :: (hexD (v % 16) :: (text z ++ (text o ++ r)))) from h0)
    obtain ⟨hk1, hx1⟩ := at_drop h1
    obtain ⟨hk2, hx2⟩ := at_drop h2
    have l3 := drop_len (by omega) h3
    rw [List.length_append] at l3
    have HZ := Lib.hid fun W => ihz hw.2.1 (k + 3) (by omega) _ h3 W
    have HO := Lib.hid fun W => iho hw.2.2 (k + 3 + (text z).length) (by omega) _ h4 W
    have hv : v < 256 := hw.1
    have e1 := hexV_D (v / 16) (by omega)
    have e2 := hexV_D (v % 16) (by omega)
    have H1 : Hid (∀ W, Calls Tryz.prog 52 #[.int .u8 ((s[k + 1]'hk1).toNat : Int)] W fun e w' => e = .returned (.int .i64 ((v / 16 : Nat) : Int)) ∧ W = w') := fun W => by rw [← e1, ← hx1]; exact hex_w _ W
    have H2 : Hid (∀ W, Calls Tryz.prog 52 #[.int .u8 ((s[k + 2]'hk2).toNat : Int)] W fun e w' => e = .returned (.int .i64 ((v % 16 : Nat) : Int)) ∧ W = w') := fun W => by rw [← e2, ← hx2]; exact hex_w _ W
    have HL : Hid ((text (.say a v z o)).length = 3 + (text z).length + (text o).length) := by show _ = _; simp only [text, List.length_cons, List.length_append]; omega
    have hn : (s[k]'hk).toNat = (whoB a).toNat := by rw [hx0]
    generalize (text (.say a v z o)).length = la at *
    generalize v / 16 = v1 at *
    generalize v % 16 = v2 at *
    generalize (text z).length = lz at *
    generalize (text o).length = lo at *
    have HN := Lib.hid hn
    have LA := HL.out
    clear h0 h1 h2 h3 h4 hx0 hx1 hx2 e1 e2 h hv ihz iho hw hn HL
    cases a
    all_goals
      first
        | (have hn : (s[k]'hk).toNat = 66 := HN.out)
        | (have hn : (s[k]'hk).toNat = 65 := HN.out)
      clear HN
      go_enter Tryz.func37, Tryz.ntmps37
      go_wp2_with fail
      refine (H1.out _).mono ?_
      rintro e w' ⟨rfl, rfl⟩
      go_wp2_with fail
      refine (H2.out _).mono ?_
      rintro e w' ⟨rfl, rfl⟩
      go_wp2_with fail
      refine (HZ.out _).mono ?_
      rintro e w' ⟨rfl, rfl⟩
      go_wp2_with fail
      refine (HO.out _).mono ?_
      rintro e w' ⟨rfl, rfl⟩
      go_wp2_with fail
      go_ret
      have E : ((k : Int) + 3 + lz + lo) = ((k + la : Nat) : Int) := by omega
      have E2 : ((k + 3 + lz + lo : Nat) : Int) = ((k + la : Nat) : Int) := by omega
      exact ⟨by first | (rw [E]; rfl) | (rw [E2]; rfl), rfl⟩

theorem at_drop' {s : ByteArray} {k : Nat} (hk : k < s.size) : s.data.toList.drop k = s[k] :: s.data.toList.drop (k + 1) := by
  have hk' : k < s.data.toList.length := by simpa using hk
  rw [List.drop_eq_getElem_cons hk']
  congr 1
theorem not_byte {x : UInt8} {n : UInt8} (h : x ≠ n) : ((x.toNat : Int) == (n.toNat : Int)) = false := by
  apply beq_false_of_ne
  intro e
  exact h (UInt8.toNat_inj.1 (by omega))

set_option maxHeartbeats 4000000 in
set_option maxRecDepth 100000 in
/-- where none stands, -1 is answered -/
theorem end_no (s : ByteArray) (hs : s.size ≤ 1048576) : ∀ (n k : Nat) (hk : k ≤ s.size) (hn : s.size - k ≤ n) (h : No (s.data.toList.drop k)) (w : World),
    Calls Tryz.prog 37 #[.string s, .int .i64 (k : Int)] w fun e w' => e = .returned (.int .i64 (-1)) ∧ w = w' := by
  have HB : Hid (∀ W : World, Calls Tryz.prog 37 #[.string s, .int .i64 (-1)] W fun e w' => e = .returned (.int .i64 (-1)) ∧ W = w') := by
    intro W
    go_enter Tryz.func37, Tryz.ntmps37
    go_wp2
    go_ret
    exact ⟨rfl, rfl⟩
  intro n
  induction n with
  | zero =>
    intro k hk hn h w
    have hks : s.size ≤ k := by omega
    clear h HB
    go_enter Tryz.func37, Tryz.ntmps37
    go_wp2
    go_ret
    exact ⟨rfl, rfl⟩
  | succ n ih =>
    intro k hk hn h w
    by_cases hks : s.size ≤ k
    · clear h HB ih
      go_enter Tryz.func37, Tryz.ntmps37
      go_wp2
      go_ret
      exact ⟨rfl, rfl⟩
    have hk1 : k < s.size := by omega
    have hd := at_drop' hk1
    have hdig : s[k] ≠ 48 ∧ s[k] ≠ 49 := by rw [hd] at h; exact h.not_dig
    have N48 : (((s[k]'hk1).toNat : Int) == 48) = false := not_byte (n := 48) hdig.1
    have N49 : (((s[k]'hk1).toNat : Int) == 49) = false := not_byte (n := 49) hdig.2
    by_cases hwho : ¬ (s[k] = 65 ∨ s[k] = 66)
    · have N65 : (((s[k]'hk1).toNat : Int) == 65) = false := not_byte (n := 65) (fun e => hwho (.inl e))
      have N66 : (((s[k]'hk1).toNat : Int) == 66) = false := not_byte (n := 66) (fun e => hwho (.inr e))
      clear h HB ih hd hdig hwho
      go_enter Tryz.func37, Tryz.ntmps37
      go_wp2_with fail
      go_ret
      exact ⟨rfl, rfl⟩
    replace hwho := Classical.not_not.1 hwho
    by_cases hk3 : s.size ≤ k + 2
    · have HW := Lib.hid hwho
      clear h HB ih hd hdig hwho
      obtain ⟨x, hx⟩ : ∃ x : Nat, (s[k]'hk1).toNat = x := ⟨_, rfl⟩
      have hx2 : x = 65 ∨ x = 66 := by rcases HW.out with e | e <;> rw [← hx, e] <;> simp
      clear HW N48 N49
      rcases hx2 with rfl | rfl
      all_goals
        go_enter Tryz.func37, Tryz.ntmps37
        go_wp2_with fail
        go_ret
        exact ⟨rfl, rfl⟩
    have hk1' : k + 1 < s.size := by omega
    have hk2' : k + 2 < s.size := by omega
    have hd1 := at_drop' hk1'
    have hd2 := at_drop' hk2'
    have H1 : Hid (∀ W, Calls Tryz.prog 52 #[.int .u8 ((s[k + 1]'hk1').toNat : Int)] W fun e w' => e = .returned (.int .i64 (hexV (s[k + 1]'hk1'))) ∧ W = w') := fun W => hex_w _ W
    have H2 : Hid (∀ W, Calls Tryz.prog 52 #[.int .u8 ((s[k + 2]'hk2').toNat : Int)] W fun e w' => e = .returned (.int .i64 (hexV (s[k + 2]'hk2'))) ∧ W = w') := fun W => hex_w _ W
    -- what is answered about the first part, and about the second one
    have HE : Hid (0 ≤ hexV (s[k + 1]'hk1') → 0 ≤ hexV (s[k + 2]'hk2') → ∃ at1 : Int, (∀ W : World, Calls Tryz.prog 37 #[.string s, .int .i64 ((k : Int) + 3)] W fun e w' => e = .returned (.int .i64 at1) ∧ W = w') ∧
        (∀ W : World, Calls Tryz.prog 37 #[.string s, .int .i64 at1] W fun e w' => e = .returned (.int .i64 (-1)) ∧ W = w')) := by
      intro g1 g2
      rcases yes_or_no (s.data.toList.drop (k + 3)) with ⟨z, r1, hz, e1⟩ | hno
      · have hl := drop_len (s := s) (k := k + 3) (by omega) e1
        refine ⟨((k + 3 + (text z).length : Nat) : Int), fun W => end_yes s hs z hz (k + 3) (by omega) r1 e1 W, fun W => ?_⟩
        have e2 : s.data.toList.drop (k + 3 + (text z).length) = r1 := drop_more _ e1 rfl
        refine ih (k + 3 + (text z).length) (by omega) (by omega) ?_ W
        rw [e2]
        intro o r2 ho e3
        obtain ⟨a, ha⟩ := who_or _ hwho
        refine No.say (a := a) (x := s[k + 1]'hk1') (y := s[k + 2]'hk2') (z := z) (o := o) (r := r2) ?_ g1 g2 hz ho
        rw [← e3, ← e1, ← hd2, ← hd1, ← ha, ← hd]
        exact h
      · refine ⟨-1, fun W => ih (k + 3) (by omega) (by omega) hno W, HB.out⟩
    have HW := Lib.hid hwho
    have g1 := hexV_ge (s[k + 1]'hk1')
    have g2 := hexV_ge (s[k + 2]'hk2')
    generalize hexV (s[k + 1]'hk1') = v1 at *
    generalize hexV (s[k + 2]'hk2') = v2 at *
    clear h HB ih hd hd1 hd2 hdig hwho N48 N49
    obtain ⟨x, hx⟩ : ∃ x : Nat, (s[k]'hk1).toNat = x := ⟨_, rfl⟩
    have hx2 : x = 65 ∨ x = 66 := by rcases HW.out with e | e <;> rw [← hx, e] <;> simp
    clear HW
    by_cases hv : 0 ≤ v1 ∧ 0 ≤ v2
    · obtain ⟨at1, HC1, HC2⟩ := HE.out hv.1 hv.2
      have HC1 := Lib.hid HC1
      have HC2 := Lib.hid HC2
      clear HE
      obtain ⟨hv1, hv2⟩ := hv
      rcases hx2 with rfl | rfl
      all_goals
        go_enter Tryz.func37, Tryz.ntmps37
        go_wp2_with fail
        refine (H1.out _).mono ?_
        rintro e w' ⟨rfl, rfl⟩
        go_wp2_with fail
        refine (H2.out _).mono ?_
        rintro e w' ⟨rfl, rfl⟩
        go_wp2_with fail
        refine (HC1.out _).mono ?_
        rintro e w' ⟨rfl, rfl⟩
        go_wp2_with fail
        refine (HC2.out _).mono ?_
        rintro e w' ⟨rfl, rfl⟩
        go_wp2_with fail
        go_ret
        exact ⟨rfl, rfl⟩
    · clear HE
      by_cases hv1 : v1 < 0
      · clear hv
        rcases hx2 with rfl | rfl
        all_goals
          go_enter Tryz.func37, Tryz.ntmps37
          go_wp2_with fail
          refine (H1.out _).mono ?_
          rintro e w' ⟨rfl, rfl⟩
          go_wp2_with fail
          go_ret
          exact ⟨rfl, rfl⟩
      · have hv2 : v2 < 0 := by omega
        have hv1 : 0 ≤ v1 := by omega
        clear hv
        rcases hx2 with rfl | rfl
        all_goals
          go_enter Tryz.func37, Tryz.ntmps37
          go_wp2_with fail
          refine (H1.out _).mono ?_
          rintro e w' ⟨rfl, rfl⟩
          go_wp2_with fail
          refine (H2.out _).mono ?_
          rintro e w' ⟨rfl, rfl⟩
          go_wp2_with fail
          go_ret
          exact ⟨rfl, rfl⟩
end Go.Proofs.YtbbgibbpeibhiaaGreatDoor.Hex

/-
  The numbers of the library's functions in this program, by which the library's contracts are taken; laid by program.
-/
namespace Go.Proofs
open Go.Shelf
def Tryz.lays160_ren : Go.Shelf.Ren := ⟨fun | 160 => 70 | 232 => 76 | 231 => 75 | 227 => 77 | 234 => 79 | 233 => 78 | 236 => 81 | 235 => 80 | 228 => 84 | 271 => 87 | 151 => 86 | 197 => 85 | 120 => 93 | 152 => 92 | 260 => 91 | 137 => 66 | 119 => 95 | 224 => 89 | 225 => 88 | 217 => 74 | 266 => 83 | n => n, fun | 9 => 9 | 4 => 4 | 3 => 3 | 5 => 5 | 117 => 121 | 116 => 120 | 0 => 0 | 124 => 124 | 21 => 21 | 105 => 126 | 46 => 41 | 119 => 133 | 139 => 136 | 138 => 135 | n => n, fun | 3 => 1 | 4 => 2 | n => n⟩
theorem Tryz.lays160 : Go.Proofs.Lays.n160 Tryz.prog Tryz.lays160_ren := {
  mixed := by kernel_rfl
  f119 := Tryz.func95.trans (congrArg some (by kernel_rfl))
  f120 := Tryz.func93.trans (congrArg some (by kernel_rfl))
  f137 := Tryz.func66.trans (congrArg some (by kernel_rfl))
  f151 := Tryz.func86.trans (congrArg some (by kernel_rfl))
  f152 := Tryz.func92.trans (congrArg some (by kernel_rfl))
  f160 := Tryz.func70.trans (congrArg some (by kernel_rfl))
  f197 := Tryz.func85.trans (congrArg some (by kernel_rfl))
  f217 := Tryz.func74.trans (congrArg some (by kernel_rfl))
  f224 := Tryz.func89.trans (congrArg some (by kernel_rfl))
  f225 := Tryz.func88.trans (congrArg some (by kernel_rfl))
  f227 := Tryz.func77.trans (congrArg some (by kernel_rfl))
  f228 := Tryz.func84.trans (congrArg some (by kernel_rfl))
  f231 := Tryz.func75.trans (congrArg some (by kernel_rfl))
  f232 := Tryz.func76.trans (congrArg some (by kernel_rfl))
  f233 := Tryz.func78.trans (congrArg some (by kernel_rfl))
  f234 := Tryz.func79.trans (congrArg some (by kernel_rfl))
  f235 := Tryz.func80.trans (congrArg some (by kernel_rfl))
  f236 := Tryz.func81.trans (congrArg some (by kernel_rfl))
  f260 := Tryz.func91.trans (congrArg some (by kernel_rfl))
  f266 := Tryz.func83.trans (congrArg some (by kernel_rfl))
  f271 := Tryz.func87.trans (congrArg some (by kernel_rfl))
  t0 := Tryz.underlying0
  a0 := Tryz.isAgg0
  z0 := Tryz.sizeOf0
  v0 := Tryz.zeroValue0
  t3 := Tryz.underlying3
  a3 := Tryz.isAgg3
  z3 := Tryz.sizeOf3
  v3 := Tryz.zeroValue3
  t4 := Tryz.underlying4
  a4 := Tryz.isAgg4
  z4 := Tryz.sizeOf4
  v4 := Tryz.zeroValue4
  t5 := Tryz.underlying5
  a5 := Tryz.isAgg5
  z5 := Tryz.sizeOf5
  v5 := Tryz.zeroValue5
  t9 := Tryz.underlying9
  a9 := Tryz.isAgg9
  z9 := Tryz.sizeOf9
  v9 := Tryz.zeroValue9
  t21 := Tryz.underlying21
  a21 := Tryz.isAgg21
  z21 := Tryz.sizeOf21
  v21 := Tryz.zeroValue21
  t46 := Tryz.underlying41
  a46 := Tryz.isAgg41
  z46 := Tryz.sizeOf41
  v46 := Tryz.zeroValue41
  t105 := Tryz.underlying126
  a105 := Tryz.isAgg126
  z105 := Tryz.sizeOf126
  v105 := Tryz.zeroValue126
  t116 := Tryz.underlying120
  a116 := Tryz.isAgg120
  z116 := Tryz.sizeOf120
  t117 := Tryz.underlying121
  a117 := Tryz.isAgg121
  z117 := Tryz.sizeOf121
  v117 := Tryz.zeroValue121
  t119 := Tryz.underlying133
  a119 := Tryz.isAgg133
  z119 := Tryz.sizeOf133
  t124 := Tryz.underlying124
  a124 := Tryz.isAgg124
  z124 := Tryz.sizeOf124
  v124 := Tryz.zeroValue124
  t138 := Tryz.underlying135
  a138 := Tryz.isAgg135
  z138 := Tryz.sizeOf135
  v138 := Tryz.zeroValue135
  t139 := Tryz.underlying136
  a139 := Tryz.isAgg136
  z139 := Tryz.sizeOf136
  v139 := Tryz.zeroValue136
  g3 := by kernel_rfl
  g4 := by kernel_rfl }
def Tryz.lays137_ren : Go.Shelf.Ren := ⟨fun | 137 => 66 | 217 => 74 | 266 => 83 | n => n, fun | 9 => 9 | 5 => 5 | 3 => 3 | n => n, fun | n => n⟩
theorem Tryz.lays137 : Go.Proofs.Lays.n137 Tryz.prog Tryz.lays137_ren := {
  mixed := by kernel_rfl
  f137 := Tryz.func66.trans (congrArg some (by kernel_rfl))
  f217 := Tryz.func74.trans (congrArg some (by kernel_rfl))
  f266 := Tryz.func83.trans (congrArg some (by kernel_rfl))
  t3 := Tryz.underlying3
  a3 := Tryz.isAgg3
  z3 := Tryz.sizeOf3
  v3 := Tryz.zeroValue3
  t5 := Tryz.underlying5
  a5 := Tryz.isAgg5
  z5 := Tryz.sizeOf5
  v5 := Tryz.zeroValue5
  t9 := Tryz.underlying9
  a9 := Tryz.isAgg9
  z9 := Tryz.sizeOf9
  v9 := Tryz.zeroValue9 }
def Tryz.lays138_ren : Go.Shelf.Ren := ⟨fun | 138 => 63 | 195 => 71 | 218 => 72 | 143 => 73 | 219 => 82 | 217 => 74 | 225 => 88 | 224 => 89 | 267 => 90 | 266 => 83 | 314 => 94 | n => n, fun | 9 => 9 | 3 => 3 | 4 => 4 | 5 => 5 | 0 => 0 | 46 => 41 | 146 => 131 | 51 => 130 | n => n, fun | 1 => 0 | n => n⟩
theorem Tryz.lays138 : Go.Proofs.Lays.n138 Tryz.prog Tryz.lays138_ren := {
  mixed := by kernel_rfl
  f138 := Tryz.func63.trans (congrArg some (by kernel_rfl))
  f143 := Tryz.func73.trans (congrArg some (by kernel_rfl))
  f195 := Tryz.func71.trans (congrArg some (by kernel_rfl))
  f217 := Tryz.func74.trans (congrArg some (by kernel_rfl))
  f218 := Tryz.func72.trans (congrArg some (by kernel_rfl))
  f219 := Tryz.func82.trans (congrArg some (by kernel_rfl))
  f224 := Tryz.func89.trans (congrArg some (by kernel_rfl))
  f225 := Tryz.func88.trans (congrArg some (by kernel_rfl))
  f266 := Tryz.func83.trans (congrArg some (by kernel_rfl))
  f267 := Tryz.func90.trans (congrArg some (by kernel_rfl))
  f314 := Tryz.func94.trans (congrArg some (by kernel_rfl))
  t0 := Tryz.underlying0
  a0 := Tryz.isAgg0
  z0 := Tryz.sizeOf0
  v0 := Tryz.zeroValue0
  t3 := Tryz.underlying3
  a3 := Tryz.isAgg3
  z3 := Tryz.sizeOf3
  v3 := Tryz.zeroValue3
  t4 := Tryz.underlying4
  a4 := Tryz.isAgg4
  z4 := Tryz.sizeOf4
  v4 := Tryz.zeroValue4
  t5 := Tryz.underlying5
  a5 := Tryz.isAgg5
  z5 := Tryz.sizeOf5
  v5 := Tryz.zeroValue5
  t9 := Tryz.underlying9
  a9 := Tryz.isAgg9
  z9 := Tryz.sizeOf9
  v9 := Tryz.zeroValue9
  t46 := Tryz.underlying41
  a46 := Tryz.isAgg41
  z46 := Tryz.sizeOf41
  v46 := Tryz.zeroValue41
  t51 := Tryz.underlying130
  a51 := Tryz.isAgg130
  z51 := Tryz.sizeOf130
  v51 := Tryz.zeroValue130
  t146 := Tryz.underlying131
  a146 := Tryz.isAgg131
  z146 := Tryz.sizeOf131
  v146 := Tryz.zeroValue131
  g1 := by kernel_rfl }
end Go.Proofs

