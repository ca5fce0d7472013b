/-
  Texts of one seat, joined: Valid, Shelf, Valid2.
-/
import Derived.Test.YtohkllmhknjkoaaDoorJp1
import Derived.Lib.Strings
import Derived.Shelf.Strings.Trim
import Derived.Shelf.Small.Utf8
import Derived.Shelf.Small.Strs
import Derived.Shelf.Utf8.RuneCount
import Derived.Shelf.Strings.Search1
import Derived.Shelf.Strings.Search2
import Derived.Shelf.Strings.Search3
import Derived.Shelf.Strings.Count
import Derived.Shelf.LaysM
import Derived.Shelf.Strings.Shaped
import Derived.Shelf.Strings.Split
import Derived.Shelf.Unicode.Decode
import Derived.Shelf.Strings.Runes
import Derived.Shelf.Strings.RuneCount
import Derived.Shelf.Strings.AsciiSet
import Derived.Shelf.Unicode.DecodeSlow
import Derived.Shelf.Unicode.DecodeAny
import Derived.Shelf.Unicode.DecodeLast
import Derived.Ground.Names2Prog
import Derived.Shelf.Slices.Clone
import Derived.Ground.SlgnProg
import Derived.Shelf.SlicesE.Clone
import Derived.Test.YtohkllmhknjkoaaDoorProg
import Derived.Shelf.Strings.SlTrimAscii
/-
  When a matrix is valid: the contracts of spec.l1Bits, spec.MatrixValid, impl.MatrixValid.
-/
namespace Go.Proofs.YtohkllmhknjkoaaDoor.Valid
open Go.RowKit Go.Proofs.YtohkllmhknjkoaaDoor.Plain Go.Proofs.YtohkllmhknjkoaaDoor.Base
set_option linter.unusedVariables false

/-- a byte that is a digit of a matrix -/
def isBit (b : UInt8) : Bool := b == 48 || b == 49
/-- all bytes are digits -/
def okB (s : ByteArray) : Bool := s.data.toList.all isBit

theorem okB_true {s : ByteArray} (h : ∀ j (hj : j < s.size), isBit s[j] = true) : okB s = true := by
  unfold okB
  rw [List.all_eq_true]
  intro b hb
  obtain ⟨j, hj, rfl⟩ := List.getElem_of_mem hb
  exact h j (by simpa using hj)
theorem okB_false {s : ByteArray} (k : Nat) (hk : k < s.size) (h : isBit s[k] = false) : okB s = false := by
  unfold okB
  rw [List.all_eq_false]
  exact ⟨s[k], by simp [ByteArray.getElem_eq_getElem_data], by simp [h]⟩
theorem bit_of {b : UInt8} (h : b.toNat = 48 ∨ b.toNat = 49) : isBit b = true := by
  unfold isBit
  rcases h with h | h
  · rw [show b = 48 from UInt8.toNat_inj.1 h]; rfl
  · rw [show b = 49 from UInt8.toNat_inj.1 h]; rfl
theorem bit_not {b : UInt8} (h1 : b.toNat ≠ 48) (h2 : b.toNat ≠ 49) : isBit b = false := by
  unfold isBit
  rw [Bool.or_eq_false_iff]
  exact ⟨beq_eq_false_iff_ne.2 fun e => h1 (by rw [e]; rfl), beq_eq_false_iff_ne.2 fun e => h2 (by rw [e]; rfl)⟩

set_option maxHeartbeats 1000000 in
theorem bits_any (s : ByteArray) (hs : s.size ≤ maxLen) (n : Int) (w : World) :
    Calls Tryd.prog 114 #[.string s, .int .i64 n] w fun e w' => e = .returned (.bool (okB s && ((s.size : Int) == n))) ∧ w = w' := by
  unfold maxLen at hs
  go_enter Tryd.func114, Tryd.ntmps114
  go_wp2_with fail
  go_loop [5] (fun i => ∃ k : Nat, k ≤ s.size ∧ i = .int .i64 (k : Int) ∧ Hid (∀ j (hj : j < s.size), j < k → isBit s[j] = true)) (fun i => s.size - (intOf i).toNat)
  case atStart => exact ⟨0, Nat.zero_le _, rfl, fun j _ h => absurd h (by omega)⟩
  case round =>
    obtain ⟨k, hk, rfl, hall⟩ := hrel
    by_cases hlt : k < s.size
    · by_cases h48 : s[k].toNat = 48
      · have hb1 : ((s[k].toNat : Int) != 48) = false := by rw [h48]; rfl
        have H := Lib.hid h48
        clear h48
        go_wp2_with fail
        go_round
        case rel => exact ⟨k + 1, by omega, by go_num, fun j hj hjk => by
          by_cases e : j = k
          · subst e; exact bit_of (.inl H.out)
          · exact hall.out j hj (by omega)⟩
        case measure => simp [intOf]; omega
      · have hb1 : ((s[k].toNat : Int) != 48) = true := by rw [bne_iff_ne]; omega
        by_cases h49 : s[k].toNat = 49
        · have hb2 : ((s[k].toNat : Int) != 49) = false := by rw [h49]; rfl
          have H := Lib.hid h49
          clear h48 h49
          go_wp2_with fail
          go_round
          case rel => exact ⟨k + 1, by omega, by go_num, fun j hj hjk => by
            by_cases e : j = k
            · subst e; exact bit_of (.inr H.out)
            · exact hall.out j hj (by omega)⟩
          case measure => simp [intOf]; omega
        · have hb2 : ((s[k].toNat : Int) != 49) = true := by rw [bne_iff_ne]; omega
          have HF := Lib.hid (okB_false k hlt (bit_not h48 h49))
          clear h48 h49
          go_wp2_with fail
          go_ret
          exact ⟨by rw [HF.out]; rfl, rfl⟩
    · obtain rfl : k = s.size := by omega
      have HT := Lib.hid (okB_true fun j hj => hall.out j hj hj)
      go_wp2_with fail
      go_ret
      exact ⟨by rw [HT.out]; rfl, rfl⟩

/-- when the reference calls a matrix valid -/
def validB (r c : Int) (s : ByteArray) : Bool := decide (1 ≤ r ∧ r ≤ 8 ∧ 1 ≤ c ∧ c ≤ 8) && (okB s && ((s.size : Int) == r * c))
theorem validB_r {r c : Int} {s : ByteArray} (h : r < 1 ∨ 8 < r) : validB r c s = false := by
  unfold validB; rw [show decide (1 ≤ r ∧ r ≤ 8 ∧ 1 ≤ c ∧ c ≤ 8) = false from decide_eq_false (by omega)]; rfl
theorem validB_c {r c : Int} {s : ByteArray} (h : c < 1 ∨ 8 < c) : validB r c s = false := by
  unfold validB; rw [show decide (1 ≤ r ∧ r ≤ 8 ∧ 1 ≤ c ∧ c ≤ 8) = false from decide_eq_false (by omega)]; rfl
theorem validB_in {r c : Int} {s : ByteArray} (h1 : 1 ≤ r) (h2 : r ≤ 8) (h3 : 1 ≤ c) (h4 : c ≤ 8) : validB r c s = (okB s && ((s.size : Int) == r * c)) := by
  unfold validB; rw [decide_eq_true ⟨h1, h2, h3, h4⟩]; rfl
theorem wrap_prodI (r c : Int) (h1 : 1 ≤ r) (h2 : r ≤ 8) (h3 : 1 ≤ c) (h4 : c ≤ 8) : wrap64 (r * c) = r * c ∧ 1 ≤ r * c ∧ r * c ≤ 64 := by
  obtain ⟨a, rfl⟩ := Int.eq_ofNat_of_zero_le (show 0 ≤ r by omega)
  obtain ⟨b, rfl⟩ := Int.eq_ofNat_of_zero_le (show 0 ≤ c by omega)
  have h := wrap_prod a b (by omega) (by omega)
  have h5 := prod_le (r := a) (c := b) (by omega) (by omega)
  have h6 : 1 ≤ a * b := Nat.mul_le_mul (show 1 ≤ a by omega) (show 1 ≤ b by omega)
  rw [h, Int.natCast_mul]
  rw [← Int.natCast_mul]
  omega

set_option maxHeartbeats 1000000 in
theorem spec_valid (r c : Int) (s : ByteArray) (hs : s.size ≤ maxLen) (w : World) :
    Calls Tryd.prog 68 #[mat r c s] w fun e w' => e = .returned (.bool (validB r c s)) ∧ Below w.heap.size w w' := by
  by_cases hr : r < 1 ∨ 8 < r
  · have HR := Lib.hid hr
    clear hr
    go_enter Tryd.func68, Tryd.ntmps68
    go_wp2_with fail
    refine (l1In_false _ _ _ HR.out _).mono ?_
    rintro e w' ⟨rfl, rfl⟩
    go_wp2_with fail
    go_ret
    exact ⟨by rw [validB_r HR.out]; rfl, by go_grown⟩
  · have h1 : 1 ≤ r := by omega
    have h2 : r ≤ 8 := by omega
    clear hr
    by_cases hc : c < 1 ∨ 8 < c
    · have HC := Lib.hid hc
      clear hc
      go_enter Tryd.func68, Tryd.ntmps68
      go_wp2_with fail
      refine (l1In_true _ _ _ h1 h2 _).mono ?_
      rintro e w' ⟨rfl, rfl⟩
      go_wp2_with fail
      refine (l1In_false _ _ _ HC.out _).mono ?_
      rintro e w' ⟨rfl, rfl⟩
      go_wp2_with fail
      go_ret
      exact ⟨by rw [validB_c HC.out]; rfl, by go_grown⟩
    · have h3 : 1 ≤ c := by omega
      have h4 : c ≤ 8 := by omega
      clear hc
      have HW := Lib.hid (wrap_prodI r c h1 h2 h3 h4)
      go_enter Tryd.func68, Tryd.ntmps68
      go_wp2_with fail
      refine (l1In_true _ _ _ h1 h2 _).mono ?_
      rintro e w' ⟨rfl, rfl⟩
      go_wp2_with fail
      refine (l1In_true _ _ _ h3 h4 _).mono ?_
      rintro e w' ⟨rfl, rfl⟩
      go_wp2_with fail
      refine (bits_any s hs _ _).mono ?_
      rintro e w' ⟨rfl, rfl⟩
      go_wp2_with fail
      go_ret
      exact ⟨by rw [validB_in h1 h2 h3 h4]; rw [HW.out.1]; rfl, by go_grown⟩
end Go.Proofs.YtohkllmhknjkoaaDoor.Valid

/-
  The numbers of the library's functions in this program, by which the library's contracts are taken; laid by program.
-/
namespace Go.Proofs
open Go.Shelf
def Tryd.lays160_ren : Go.Shelf.Ren := ⟨fun | 160 => 75 | 232 => 119 | 231 => 118 | 227 => 120 | 234 => 122 | 233 => 121 | 236 => 124 | 235 => 123 | 228 => 152 | 271 => 155 | 151 => 154 | 197 => 153 | 120 => 167 | 152 => 166 | 260 => 165 | 137 => 175 | 119 => 176 | 224 => 170 | 225 => 169 | 217 => 168 | 266 => 177 | n => n, fun | 9 => 9 | 4 => 4 | 3 => 3 | 5 => 5 | 117 => 136 | 116 => 135 | 0 => 0 | 124 => 139 | 21 => 21 | 105 => 162 | 46 => 99 | 119 => 183 | 139 => 186 | 138 => 185 | n => n, fun | 3 => 1 | 4 => 2 | n => n⟩
theorem Tryd.lays160 : Go.Proofs.Lays.n160 Tryd.prog Tryd.lays160_ren := {
  mixed := by kernel_rfl
  f119 := Tryd.func176.trans (congrArg some (by kernel_rfl))
  f120 := Tryd.func167.trans (congrArg some (by kernel_rfl))
  f137 := Tryd.func175.trans (congrArg some (by kernel_rfl))
  f151 := Tryd.func154.trans (congrArg some (by kernel_rfl))
  f152 := Tryd.func166.trans (congrArg some (by kernel_rfl))
  f160 := Tryd.func75.trans (congrArg some (by kernel_rfl))
  f197 := Tryd.func153.trans (congrArg some (by kernel_rfl))
  f217 := Tryd.func168.trans (congrArg some (by kernel_rfl))
  f224 := Tryd.func170.trans (congrArg some (by kernel_rfl))
  f225 := Tryd.func169.trans (congrArg some (by kernel_rfl))
  f227 := Tryd.func120.trans (congrArg some (by kernel_rfl))
  f228 := Tryd.func152.trans (congrArg some (by kernel_rfl))
  f231 := Tryd.func118.trans (congrArg some (by kernel_rfl))
  f232 := Tryd.func119.trans (congrArg some (by kernel_rfl))
  f233 := Tryd.func121.trans (congrArg some (by kernel_rfl))
  f234 := Tryd.func122.trans (congrArg some (by kernel_rfl))
  f235 := Tryd.func123.trans (congrArg some (by kernel_rfl))
  f236 := Tryd.func124.trans (congrArg some (by kernel_rfl))
  f260 := Tryd.func165.trans (congrArg some (by kernel_rfl))
  f266 := Tryd.func177.trans (congrArg some (by kernel_rfl))
  f271 := Tryd.func155.trans (congrArg some (by kernel_rfl))
  t0 := Tryd.underlying0
  a0 := Tryd.isAgg0
  z0 := Tryd.sizeOf0
  v0 := Tryd.zeroValue0
  t3 := Tryd.underlying3
  a3 := Tryd.isAgg3
  z3 := Tryd.sizeOf3
  v3 := Tryd.zeroValue3
  t4 := Tryd.underlying4
  a4 := Tryd.isAgg4
  z4 := Tryd.sizeOf4
  v4 := Tryd.zeroValue4
  t5 := Tryd.underlying5
  a5 := Tryd.isAgg5
  z5 := Tryd.sizeOf5
  v5 := Tryd.zeroValue5
  t9 := Tryd.underlying9
  a9 := Tryd.isAgg9
  z9 := Tryd.sizeOf9
  v9 := Tryd.zeroValue9
  t21 := Tryd.underlying21
  a21 := Tryd.isAgg21
  z21 := Tryd.sizeOf21
  v21 := Tryd.zeroValue21
  t46 := Tryd.underlying99
  a46 := Tryd.isAgg99
  z46 := Tryd.sizeOf99
  v46 := Tryd.zeroValue99
  t105 := Tryd.underlying162
  a105 := Tryd.isAgg162
  z105 := Tryd.sizeOf162
  v105 := Tryd.zeroValue162
  t116 := Tryd.underlying135
  a116 := Tryd.isAgg135
  z116 := Tryd.sizeOf135
  t117 := Tryd.underlying136
  a117 := Tryd.isAgg136
  z117 := Tryd.sizeOf136
  v117 := Tryd.zeroValue136
  t119 := Tryd.underlying183
  a119 := Tryd.isAgg183
  z119 := Tryd.sizeOf183
  t124 := Tryd.underlying139
  a124 := Tryd.isAgg139
  z124 := Tryd.sizeOf139
  v124 := Tryd.zeroValue139
  t138 := Tryd.underlying185
  a138 := Tryd.isAgg185
  z138 := Tryd.sizeOf185
  v138 := Tryd.zeroValue185
  t139 := Tryd.underlying186
  a139 := Tryd.isAgg186
  z139 := Tryd.sizeOf186
  v139 := Tryd.zeroValue186
  g3 := by kernel_rfl
  g4 := by kernel_rfl }
def Tryd.lays138_ren : Go.Shelf.Ren := ⟨fun | 138 => 89 | 195 => 130 | 218 => 131 | 143 => 132 | 219 => 156 | 217 => 168 | 225 => 169 | 224 => 170 | 267 => 171 | 266 => 177 | 314 => 178 | n => n, fun | 9 => 9 | 3 => 3 | 4 => 4 | 5 => 5 | 0 => 0 | 46 => 99 | 146 => 189 | 51 => 188 | n => n, fun | 1 => 0 | n => n⟩
theorem Tryd.lays138 : Go.Proofs.Lays.n138 Tryd.prog Tryd.lays138_ren := {
  mixed := by kernel_rfl
  f138 := Tryd.func89.trans (congrArg some (by kernel_rfl))
  f143 := Tryd.func132.trans (congrArg some (by kernel_rfl))
  f195 := Tryd.func130.trans (congrArg some (by kernel_rfl))
  f217 := Tryd.func168.trans (congrArg some (by kernel_rfl))
  f218 := Tryd.func131.trans (congrArg some (by kernel_rfl))
  f219 := Tryd.func156.trans (congrArg some (by kernel_rfl))
  f224 := Tryd.func170.trans (congrArg some (by kernel_rfl))
  f225 := Tryd.func169.trans (congrArg some (by kernel_rfl))
  f266 := Tryd.func177.trans (congrArg some (by kernel_rfl))
  f267 := Tryd.func171.trans (congrArg some (by kernel_rfl))
  f314 := Tryd.func178.trans (congrArg some (by kernel_rfl))
  t0 := Tryd.underlying0
  a0 := Tryd.isAgg0
  z0 := Tryd.sizeOf0
  v0 := Tryd.zeroValue0
  t3 := Tryd.underlying3
  a3 := Tryd.isAgg3
  z3 := Tryd.sizeOf3
  v3 := Tryd.zeroValue3
  t4 := Tryd.underlying4
  a4 := Tryd.isAgg4
  z4 := Tryd.sizeOf4
  v4 := Tryd.zeroValue4
  t5 := Tryd.underlying5
  a5 := Tryd.isAgg5
  z5 := Tryd.sizeOf5
  v5 := Tryd.zeroValue5
  t9 := Tryd.underlying9
  a9 := Tryd.isAgg9
  z9 := Tryd.sizeOf9
  v9 := Tryd.zeroValue9
  t46 := Tryd.underlying99
  a46 := Tryd.isAgg99
  z46 := Tryd.sizeOf99
  v46 := Tryd.zeroValue99
  t51 := Tryd.underlying188
  a51 := Tryd.isAgg188
  z51 := Tryd.sizeOf188
  v51 := Tryd.zeroValue188
  t146 := Tryd.underlying189
  a146 := Tryd.isAgg189
  z146 := Tryd.sizeOf189
  v146 := Tryd.zeroValue189
  g1 := by kernel_rfl }
end Go.Proofs

/-
  When the program calls a matrix valid: the contract of impl.MatrixValid. strings.Trim by the library's contract.
-/
namespace Go.Proofs.YtohkllmhknjkoaaDoor.Valid
open Go.RowKit Go.Proofs.YtohkllmhknjkoaaDoor.Plain Go.Proofs.YtohkllmhknjkoaaDoor.Base
set_option linter.unusedVariables false

theorem has_bit (b : UInt8) : ([48, 49] : List UInt8).contains b = isBit b := by
  unfold isBit
  rw [Bool.eq_iff_iff]
  simp
theorem drop_all {l : List UInt8} {p : UInt8 → Bool} : l.dropWhile p = [] ↔ l.all p = true := by
  induction l with
  | nil => simp
  | cons a l ih =>
    by_cases h : p a = true
    · rw [List.dropWhile_cons_of_pos h, ih, List.all_cons, h, Bool.true_and]
    · rw [List.dropWhile_cons_of_neg h]
      simp [h]
theorem trim_none (s : ByteArray) : (Lib.trimS s.data.toList [48, 49] = []) ↔ okB s = true := by
  unfold Lib.trimS Lib.trimLeftS Lib.trimRightS okB
  rw [show (fun x => ([48, 49] : List UInt8).contains x) = isBit from funext has_bit]
  constructor
  · intro h
    rw [drop_all, List.all_reverse] at h
    by_cases h2 : (s.data.toList.reverse.dropWhile isBit) = []
    · rw [drop_all, List.all_reverse] at h2; exact h2
    · exfalso
      have h3 := List.head_dropWhile_not (p := isBit) h2
      rw [List.all_eq_true] at h
      have h4 := h _ (List.head_mem h2)
      rw [h3] at h4
      cases h4
  · intro h
    have h2 : s.data.toList.reverse.dropWhile isBit = [] := by rw [drop_all, List.all_reverse]; exact h
    rw [h2]
    rfl

theorem toList_str (l : List UInt8) : (str l).toList = l := by
  rw [Lib.toList_data]; rfl
theorem trim_test (s : ByteArray) (x : Int) : (str (Lib.trimS s.data.toList [48, 49])).toList.isEmpty = (okB s && (x == x)) := by
  rw [toList_str, beq_self_eq_true, Bool.and_true, Bool.eq_iff_iff, List.isEmpty_iff]
  exact trim_none s
/-- the program's strings.Trim at the two digits -/
theorem trim_any (s : ByteArray) (hs : s.size ≤ maxLen) (w : World) :
    Calls Tryd.prog 75 #[.string s, .string ⟨#[48, 49]⟩] w fun e w' => e = .returned (.string (str (Lib.trimS s.data.toList [48, 49]))) ∧ Below w.heap.size w w' := by
  unfold maxLen at hs
  exact Any.strings_Trim_laid Tryd.lays160 (by kernel_rfl) s ⟨#[48, 49]⟩ w (by omega) (by decide) (ascii_of_all (by decide))

set_option maxHeartbeats 1000000 in
theorem impl_valid (r c : Int) (s : ByteArray) (hs : s.size ≤ maxLen) (w : World) :
    Calls Tryd.prog 26 #[mat r c s] w fun e w' => e = .returned (.bool (validB r c s)) ∧ Below w.heap.size w w' := by
  by_cases hr : r < 1 ∨ 8 < r
  · have HR := Lib.hid hr
    clear hr
    go_enter Tryd.func26, Tryd.ntmps26
    go_wp2_with fail
    refine (side_false _ HR.out _).mono ?_
    rintro e w' ⟨rfl, rfl⟩
    go_wp2_with fail
    go_ret
    exact ⟨by rw [validB_r HR.out]; rfl, by go_grown⟩
  · have h1 : 1 ≤ r := by omega
    have h2 : r ≤ 8 := by omega
    clear hr
    by_cases hc : c < 1 ∨ 8 < c
    · have HC := Lib.hid hc
      clear hc
      go_enter Tryd.func26, Tryd.ntmps26
      go_wp2_with fail
      refine (side_true _ h1 h2 _).mono ?_
      rintro e w' ⟨rfl, rfl⟩
      go_wp2_with fail
      refine (side_false _ HC.out _).mono ?_
      rintro e w' ⟨rfl, rfl⟩
      go_wp2_with fail
      go_ret
      exact ⟨by rw [validB_c HC.out]; rfl, by go_grown⟩
    · have h3 : 1 ≤ c := by omega
      have h4 : c ≤ 8 := by omega
      clear hc
      have HW := Lib.hid (wrap_prodI r c h1 h2 h3 h4)
      obtain ⟨b, hb⟩ : ∃ b : Bool, ((s.size : Int) != wrap64 (r * c)) = b := ⟨_, rfl⟩
      cases b
      · have hlen : (s.size : Int) = r * c := by rw [bne_eq_false_iff_eq] at hb; rw [hb, HW.out.1]
        have HL := Lib.hid hlen
        clear hlen
        go_enter Tryd.func26, Tryd.ntmps26
        go_wp2_with fail
        refine (side_true _ h1 h2 _).mono ?_
        rintro e w' ⟨rfl, rfl⟩
        go_wp2_with fail
        refine (side_true _ h3 h4 _).mono ?_
        rintro e w' ⟨rfl, rfl⟩
        go_wp2_with fail
        refine (trim_any s hs _).mono ?_
        rintro e w1 ⟨rfl, hb1⟩
        go_wp2_with fail
        go_ret
        exact ⟨by rw [validB_in h1 h2 h3 h4, HL.out]; exact congrArg (fun b => Ending.returned (.bool b)) (trim_test s _), (((Below.refl _ _).alloc (Nat.le_refl _) _).trans (hb1.mono (by simp)))⟩
      · have hlen : (s.size : Int) ≠ r * c := by rw [bne_iff_ne, HW.out.1] at hb; exact hb
        have HL := Lib.hid hlen
        clear hlen
        go_enter Tryd.func26, Tryd.ntmps26
        go_wp2_with fail
        refine (side_true _ h1 h2 _).mono ?_
        rintro e w' ⟨rfl, rfl⟩
        go_wp2_with fail
        refine (side_true _ h3 h4 _).mono ?_
        rintro e w' ⟨rfl, rfl⟩
        go_wp2_with fail
        go_ret
        exact ⟨by rw [validB_in h1 h2 h3 h4, beq_eq_false_iff_ne.2 HL.out, Bool.and_false]; rfl, by go_grown⟩
end Go.Proofs.YtohkllmhknjkoaaDoor.Valid

