/-
  Texts of one seat, joined: Plain, Rd.
-/
import Derived.Below
import Derived.WalkKit
import Derived.Test.YtbccachkkflceaaGreatDoorRows
import Derived.Laws.Rows
import Derived.Lib.Hide
import Derived.IntWalk
import Derived.Laws.BitsAllLaws
import Derived.Laws.Tables
import Derived.BigQuiet
/-
  Plain facts on lists of digits; nothing of the program.
-/
namespace Go.Proofs.YtbccachkkflceaaGreatDoor.Plain
open Go.RowKit

/-- the digit of a truth value -/
def dig (b : Bool) : UInt8 := if b then 49 else 48
/-- a truth value as a number -/
def bitI (b : Bool) : Int := if b then 1 else 0
theorem bitI_false : bitI false = 0 := rfl
theorem bitI_true : bitI true = 1 := rfl
/-- the digits of a row -/
def rowB (E : Nat → Nat → Bool) (x c : Nat) : List UInt8 := (List.range c).map fun y => dig (E x y)
/-- the digits of so many rows -/
def rowsB (E : Nat → Nat → Bool) (r c : Nat) : List UInt8 := (List.range r).flatMap fun x => rowB E x c

theorem rowB_zero (E : Nat → Nat → Bool) (x : Nat) : rowB E x 0 = [] := rfl
theorem rowB_succ (E : Nat → Nat → Bool) (x c : Nat) : rowB E x (c + 1) = rowB E x c ++ [dig (E x c)] := by
  simp [rowB, List.range_succ]
theorem rowsB_zero (E : Nat → Nat → Bool) (c : Nat) : rowsB E 0 c = [] := rfl
theorem rowsB_succ (E : Nat → Nat → Bool) (r c : Nat) : rowsB E (r + 1) c = rowsB E r c ++ rowB E r c := by
  simp [rowsB, List.range_succ]
theorem rowB_length (E : Nat → Nat → Bool) (x c : Nat) : (rowB E x c).length = c := by simp [rowB]
theorem rowsB_length (E : Nat → Nat → Bool) (r c : Nat) : (rowsB E r c).length = r * c := by
  induction r with
  | zero => simp [rowsB_zero]
  | succ r ih => rw [rowsB_succ, List.length_append, ih, rowB_length, Nat.succ_mul]
theorem rowB_congr {E F : Nat → Nat → Bool} {x c : Nat} (h : ∀ y, y < c → E x y = F x y) : rowB E x c = rowB F x c := by
  unfold rowB
  apply List.map_congr_left
  intro y hy
  rw [h y (List.mem_range.1 hy)]
theorem rowsB_congr {E F : Nat → Nat → Bool} {r c : Nat} (h : ∀ x y, x < r → y < c → E x y = F x y) : rowsB E r c = rowsB F r c := by
  induction r with
  | zero => rfl
  | succ r ih => rw [rowsB_succ, rowsB_succ, ih (fun x y hx hy => h x y (by omega) hy), rowB_congr (fun y hy => h r y (by omega) hy)]

/-- the number of ones of a number below 8 -/
def ones (n : Nat) : Nat := n % 2 + n / 2 % 2 + n / 4 % 2

/-- a string of so many digits -/
def str (l : List UInt8) : ByteArray := ⟨l.toArray⟩
theorem str_append (l m : List UInt8) : str l ++ str m = str (l ++ m) := by
  apply ByteArray.ext
  simp [str]
theorem str_nil : str [] = ByteArray.empty := rfl
theorem str_one (u : UInt8) : (⟨#[u]⟩ : ByteArray) = str [u] := rfl
theorem str_size (l : List UInt8) : (str l).size = l.length := by simp [str, ByteArray.size]
theorem part_size (E : Nat → Nat → Bool) {k j r c : Nat} (hr : r ≤ 8) (hc : c ≤ 8) (hk : k < r) (hj : j < c) : (str (rowsB E k c ++ rowB E k j)).size ≤ 64 := by
  rw [str_size, List.length_append, rowsB_length, rowB_length]
  have : k * c ≤ 7 * 8 := Nat.mul_le_mul (by omega) hc
  omega
theorem part_next (E : Nat → Nat → Bool) (k j c : Nat) : str (rowsB E k c ++ rowB E k j) ++ ⟨#[dig (E k j)]⟩ = str (rowsB E k c ++ rowB E k (j + 1)) := by
  rw [str_one, str_append, rowB_succ, List.append_assoc]
theorem part_done (E : Nat → Nat → Bool) (k c : Nat) : str (rowsB E k c ++ rowB E k c) = str (rowsB E (k + 1) c) := by rw [rowsB_succ]
theorem part_start (E : Nat → Nat → Bool) (k c : Nat) : str (rowsB E k c) = str (rowsB E k c ++ rowB E k 0) := by rw [rowB_zero, List.append_nil]
theorem prod_le {r c : Nat} (hr : r ≤ 8) (hc : c ≤ 8) : r * c ≤ 64 := Nat.mul_le_mul hr hc
theorem wrap_prod (r c : Nat) (hr : r ≤ 8) (hc : c ≤ 8) : wrap64 ((r : Int) * (c : Int)) = ((r * c : Nat) : Int) := by
  have h := prod_le hr hc
  rw [← Int.natCast_mul]
  unfold wrap64
  omega
end Go.Proofs.YtbccachkkflceaaGreatDoor.Plain

/-
  The drawing functions' reader: a block that holds a slice of bytes and a count; pick and num; what they leave as it was.
-/
namespace Go.Proofs.YtbccachkkflceaaGreatDoor.Rd
open Go.RowKit Go.Proofs.YtbccachkkflceaaGreatDoor.Plain
set_option linter.unusedVariables false

/-- all blocks but g lie as they lay -/
structure Apt (g : Nat) (w w' : World) : Prop where
  os : w'.os = w.os
  tape : w'.tape = w.tape
  output : w'.output = w.output
  size : w.heap.size ≤ w'.heap.size
  block : ∀ k, k < w.heap.size → k ≠ g → w'.heap[k]? = w.heap[k]?
theorem Apt.refl (g : Nat) (w : World) : Apt g w w := ⟨rfl, rfl, rfl, Nat.le_refl _, fun _ _ _ => rfl⟩
theorem Apt.trans {g : Nat} {w w1 w2 : World} (h : Apt g w w1) (h2 : Apt g w1 w2) : Apt g w w2 :=
  ⟨h2.os.trans h.os, h2.tape.trans h.tape, h2.output.trans h.output, Nat.le_trans h.size h2.size, fun k hk hg => (h2.block k (Nat.lt_of_lt_of_le hk h.size) hg).trans (h.block k hk hg)⟩
theorem Apt.of_below {g : Nat} {w w1 : World} (h : Below w.heap.size w w1) : Apt g w w1 := ⟨h.os, h.tape, h.output, h.size, fun k hk _ => h.block k hk⟩
theorem Apt.below {g : Nat} {w0 w w1 : World} (h : Apt g w w1) (hb : Below w0.heap.size w0 w) (hg : w0.heap.size ≤ g) : Below w0.heap.size w0 w1 :=
  hb.trans ⟨h.os, h.tape, h.output, h.size, fun k hk => h.block k (Nat.lt_of_lt_of_le hk hb.size) (by omega)⟩
theorem Apt.cell {g : Nat} {w w' : World} (h : Apt g w w') {p : Addr} (hp : p.block < w.heap.size) (hg : p.block ≠ g) : w'.cell? p = w.cell? p := by
  simp only [World.cell?, h.block p.block hp hg]
theorem Apt.drew {g : Nat} {w w' : World} (h : Apt g w w') : Apt g w w'.drew := ⟨h.os, h.tape, h.output, h.size, h.block⟩

/-- bytes to read: so many, in a block that is not g -/
def Bytes (w : World) (g : Nat) (v : Value) (n : Nat) : Prop :=
  n ≤ 2000 ∧ ∃ a c, v = .slice a n c ∧ (n = 0 ∨ ∃ b off, a = some ⟨b, off, none⟩ ∧ b < g ∧ b < w.heap.size ∧ ∀ j, j < n → ∃ x : Int, 0 ≤ x ∧ x < 256 ∧ w.cell? ⟨b, off + j, none⟩ = some (.int .u8 x))
theorem Bytes.later {w w' : World} {g : Nat} {v : Value} {n : Nat} (h : Bytes w g v n) (hb : Apt g w w') : Bytes w' g v n := by
  obtain ⟨h0, a, c, rfl, h1⟩ := h
  refine ⟨h0, a, c, rfl, ?_⟩
  rcases h1 with h1 | ⟨b, off, h1, h2, h3, h4⟩
  · exact .inl h1
  · refine .inr ⟨b, off, h1, h2, Nat.lt_of_lt_of_le h3 hb.size, fun j hj => ?_⟩
    obtain ⟨x, hx0, hx1, hx⟩ := h4 j hj
    exact ⟨x, hx0, hx1, (hb.cell (p := ⟨b, off + j, none⟩) h3 (Nat.ne_of_lt h2)).trans hx⟩
/-- the law's argument: so many bytes, in a block of this world -/
def ByteArg (w : World) (v : Value) (n : Nat) : Prop :=
  n ≤ 9223372036854775807 ∧ ∃ a c, v = .slice a n c ∧ n ≤ c ∧ (n = 0 ∨ ∃ b off, a = some ⟨b, off, none⟩ ∧ b < w.heap.size ∧ ∀ j, j < n → ∃ x : Int, 0 ≤ x ∧ x < 256 ∧ w.cell? ⟨b, off + j, none⟩ = some (.int .u8 x))
theorem ByteArg.later {w w' : World} {v : Value} {n : Nat} (h : ByteArg w v n) (hb : Below w.heap.size w w') : ByteArg w' v n := by
  obtain ⟨h0, a, c, rfl, hc, h1⟩ := h
  refine ⟨h0, a, c, rfl, hc, ?_⟩
  rcases h1 with h1 | ⟨b, off, h1, h3, h4⟩
  · exact .inl h1
  · refine .inr ⟨b, off, h1, Nat.lt_of_lt_of_le h3 hb.size, fun j hj => ?_⟩
    obtain ⟨x, hx0, hx1, hx⟩ := h4 j hj
    exact ⟨x, hx0, hx1, (hb.cell (p := ⟨b, off + j, none⟩) h3).trans hx⟩
/-- block g is a reader of these bytes that has given so many numbers -/
structure RdAt (w : World) (g : Nat) (v : Value) (n p : Nat) : Prop where
  cells : w.heap[g]? = some (.cells #[v, .int .i64 (p : Int)] 117 (0, 0))
  bytes : Bytes w g v n
theorem RdAt.later {w w' : World} {g : Nat} {v : Value} {n p : Nat} (h : RdAt w g v n p) (hb : Below w.heap.size w w') : RdAt w' g v n p :=
  ⟨(hb.block g (Array.getElem?_eq_some_iff.1 h.cells).1).trans h.cells, h.bytes.later (Apt.of_below hb)⟩
theorem RdAt.lt {w : World} {g : Nat} {v : Value} {n p : Nat} (h : RdAt w g v n p) : g < w.heap.size := (Array.getElem?_eq_some_iff.1 h.cells).1
theorem i64_xor_nat (a b : Nat) (ha : a < 4611686018427387904) (hb : b < 4611686018427387904) : bits .xor .i64 (a : Int) (b : Int) = ((a ^^^ b : Nat) : Int) := by
  have hx : a ^^^ b < 2 ^ 62 := Nat.xor_lt_two_pow (by omega) (by omega)
  show IntKind.i64.wrap ((BitVec.ofInt 64 (a : Int) ^^^ BitVec.ofInt 64 (b : Int)).toNat : Int) = _
  rw [BitVec.toNat_xor, ofInt_u64 a (by omega), ofInt_u64 b (by omega)]
  exact IntWalk.i64_in _ ⟨by omega, by omega⟩
theorem i64_xor_in (a b : Int) (h1 : 0 ≤ a) (h2 : a < 4611686018427387904) (h3 : 0 ≤ b) (h4 : b < 4611686018427387904) : 0 ≤ bits .xor .i64 a b ∧ bits .xor .i64 a b < 4611686018427387904 := by
  obtain ⟨A, rfl⟩ := Int.eq_ofNat_of_zero_le h1
  obtain ⟨B, rfl⟩ := Int.eq_ofNat_of_zero_le h3
  rw [i64_xor_nat A B (by omega) (by omega)]
  have hx : A ^^^ B < 2 ^ 62 := Nat.xor_lt_two_pow (by omega) (by omega)
  omega
theorem Apt.setCell (g : Nat) (w : World) (i : Nat) (x : Value) : Apt g w (w.setCell ⟨g, i, none⟩ x) :=
  ⟨rfl, rfl, rfl, by simp, fun k hk hg => heap_setCell_other _ _ _ _ (by simpa using hg)⟩
/-- the count goes on -/
theorem RdAt.count {w : World} {g : Nat} {v : Value} {n p : Nat} (h : RdAt w g v n p) : RdAt (w.setCell ⟨g, 1, none⟩ (.int .i64 ((p : Int) + 1))) g v n (p + 1) :=
  ⟨(heap_setCell_same _ _ _ _ _ _ h.cells).trans (by simp), h.bytes.later (Apt.setCell g w 1 _)⟩
theorem RdAt.at_ {w : World} {g : Nat} {v : Value} {n p : Nat} (h : RdAt w g v n p) : w.cell? ⟨g, 0, none⟩ = some v ∧ w.cell? ⟨g, 1, none⟩ = some (.int .i64 (p : Int)) ∧ w.frozen? ⟨g, 1, none⟩ = false :=
  ⟨cell_of_row _ _ 0 _ _ _ h.cells, cell_of_row _ _ 1 _ _ _ h.cells, frozen_of_row _ _ 1 _ _ h.cells⟩
theorem drawn_at (w : World) (q : Nat) : Below w.heap.size w (w.drewN q) := ⟨rfl, rfl, rfl, Nat.le_refl _, fun _ _ => rfl⟩
theorem mod_le (x m : Int) (h0 : 0 ≤ x) (h1 : 1 ≤ m) : x % m ≤ x ∧ x.tmod m ≤ x := by
  obtain ⟨X, rfl⟩ := Int.eq_ofNat_of_zero_le h0
  obtain ⟨M, rfl⟩ := Int.eq_ofNat_of_zero_le (show 0 ≤ m by omega)
  have := Nat.mod_le X M
  rw [Int.tmod_eq_emod_of_nonneg h0, ← Int.natCast_emod]
  omega
theorem tmod_in (x m : Int) (h0 : 0 ≤ x) (h1 : 1 ≤ m) : 0 ≤ x.tmod m ∧ x.tmod m < m := by
  rw [Int.tmod_eq_emod_of_nonneg h0]
  exact ⟨Int.emod_nonneg _ (by omega), Int.emod_lt_of_pos _ (by omega)⟩

set_option maxHeartbeats 1000000 in
theorem pick_any (g : Nat) (v : Value) (n p : Nat) (hp : p < 1048576) (m : Int) (w : World) (h : RdAt w g v n p) :
    Calls Tryz.prog 57 #[.pointer (some ⟨g, 0, none⟩), .int .i64 m] w fun e w' => ∃ x : Int, e = .returned (.int .i64 x) ∧ (0 ≤ x ∧ x < 4611686018427387904) ∧ (x < m ∨ x = 0) ∧ RdAt w' g v n (p + 1) ∧ Apt g w w' := by
  obtain ⟨c0, c1, f1⟩ := h.at_
  have HC := Lib.hid h.count
  obtain ⟨hn, a, c, rfl, hb⟩ := h.bytes
  clear h
  by_cases h1 : m < 1
  · go_enter Tryz.func57, Tryz.ntmps57
    go_wp2_with fail
    go_ret
    exact ⟨0, rfl, ⟨by omega, by omega⟩, .inr rfl, HC.out, Apt.setCell _ _ _ _⟩
  rcases hb with rfl | ⟨b, off, rfl, hbg, hbl, hby⟩
  · go_enter Tryz.func57, Tryz.ntmps57
    go_wp2_with fail
    go_ret
    exact ⟨0, rfl, ⟨by omega, by omega⟩, .inr rfl, HC.out, Apt.setCell _ _ _ _⟩
  by_cases h0 : n = 0
  · subst h0
    go_enter Tryz.func57, Tryz.ntmps57
    go_wp2_with fail
    go_ret
    exact ⟨0, rfl, ⟨by omega, by omega⟩, .inr rfl, HC.out, Apt.setCell _ _ _ _⟩
  have hm0 : ¬ m = 0 := by omega
  have hnb : ¬ b = g := Nat.ne_of_lt hbg
  have hp0 : (0 : Int) ≤ (p : Int) := Int.natCast_nonneg p
  by_cases hlt : p < n
  · obtain ⟨x, hx0, hx1, hx⟩ := hby p hlt
    have hpi : (p : Int) < (n : Int) := by omega
    obtain ⟨t0, t1⟩ := tmod_in x m hx0 (by omega)
    clear hby
    go_enter Tryz.func57, Tryz.ntmps57
    go_wp2_with fail
    go_ret
    exact ⟨x % m, rfl, ⟨Int.emod_nonneg _ (by omega), by have := (mod_le x m hx0 h1).1; omega⟩, .inl (Int.emod_lt_of_pos _ (by omega)), HC.out, Apt.setCell _ _ _ _⟩
  · have hn0 : ¬ (n : Int) = 0 := by omega
    have hnp : (0 : Int) < (n : Int) := by omega
    obtain ⟨x, hx0, hx1, hx⟩ := hby (p % n) (Nat.mod_lt _ (by omega))
    obtain ⟨y, hy0, hy1, hy⟩ := hby ((p * 7 + 3) % n) (Nat.mod_lt _ (by omega))
    have hi1 : ((p % n : Nat) : Int) < (n : Int) := by exact_mod_cast Nat.mod_lt p (show 0 < n by omega)
    have hi2 : (((p * 7 + 3) % n : Nat) : Int) < (n : Int) := by exact_mod_cast Nat.mod_lt (p * 7 + 3) (show 0 < n by omega)
    have hd : ((p / n : Nat) : Int) ≤ (p : Int) := by exact_mod_cast Nat.div_le_self p n
    have e3 : (p : Int).tmod (n : Int) = ((p % n : Nat) : Int) := rfl
    have e4 : ((p : Int) * 7 + 3).tmod (n : Int) = (((p * 7 + 3) % n : Nat) : Int) := by
      rw [show (p : Int) * 7 + 3 = ((p * 7 + 3 : Nat) : Int) by push_cast; rfl]; rfl
    generalize p % n = i at *
    generalize (p * 7 + 3) % n = k at *
    have q1 : (p : Int).tdiv (n : Int) = ((p / n : Nat) : Int) := rfl
    have q2 : (p : Int) / (n : Int) = ((p / n : Nat) : Int) := (Int.natCast_ediv p n).symm
    generalize p / n = d at *
    have i0 : (0 : Int) ≤ (i : Int) := Int.natCast_nonneg i
    have k0 : (0 : Int) ≤ (k : Int) := Int.natCast_nonneg k
    have d0 : (0 : Int) ≤ (d : Int) := Int.natCast_nonneg d
    have e5 : IntKind.i64.wrap ((p : Int).tdiv (n : Int)) = (d : Int) := by rw [q1]; exact IntWalk.i64_in _ ⟨by omega, by omega⟩
    have e6 : IntKind.i64.wrap ((p : Int) / (n : Int)) = (d : Int) := by rw [q2]; exact IntWalk.i64_in _ ⟨by omega, by omega⟩
    clear q1 q2
    have tx : Int.toNat (i : Int) = i := rfl
    have a1 : IntKind.i64.wrap ((p : Int) * 7) = (p : Int) * 7 := IntWalk.i64_in _ ⟨by omega, by omega⟩
    have a2 : IntKind.i64.wrap ((p : Int) * 7 + 3) = (p : Int) * 7 + 3 := IntWalk.i64_in _ ⟨by omega, by omega⟩
    have a3 : IntKind.i64.wrap (x * 131) = x * 131 := IntWalk.i64_in _ ⟨by omega, by omega⟩
    have a4 : IntKind.i64.wrap (y * 1117) = y * 1117 := IntWalk.i64_in _ ⟨by omega, by omega⟩
    have a5 : IntKind.i64.wrap (x * 131 + y * 1117) = x * 131 + y * 1117 := IntWalk.i64_in _ ⟨by omega, by omega⟩
    have a6 : IntKind.i64.wrap ((p : Int) * 29) = (p : Int) * 29 := IntWalk.i64_in _ ⟨by omega, by omega⟩
    have a7 : IntKind.i64.wrap (x * 131 + y * 1117 + (p : Int) * 29) = x * 131 + y * 1117 + (p : Int) * 29 := IntWalk.i64_in _ ⟨by omega, by omega⟩
    have a8 : IntKind.i64.wrap ((d : Int) * 53) = (d : Int) * 53 := IntWalk.i64_in _ ⟨by omega, by omega⟩
    obtain ⟨X, hX⟩ : ∃ X, x * 131 + y * 1117 + (p : Int) * 29 + (d : Int) * 53 = X := ⟨_, rfl⟩
    have X0 : 0 ≤ X := by omega
    have X1 : X < 4611686018427387904 := by omega
    have a9 : IntKind.i64.wrap (x * 131 + y * 1117 + (p : Int) * 29 + (d : Int) * 53) = X := by rw [hX]; exact IntWalk.i64_in _ ⟨by omega, by omega⟩
    have HXR := Lib.hid (i64_xor_in X (X / 64) X0 X1 (by omega) (by omega))
    clear hby hX
    go_enter Tryz.func57, Tryz.ntmps57
    go_wp2_with fail
    go_quiet (fail)
    clear a1 a2 a3 a4 a5 a6 a7 a8 a9 e3 e4 e5 e6
    go_wp2_with fail
    go_ret
    obtain ⟨t0, t1⟩ := tmod_in _ m HXR.out.1 (by omega)
    exact ⟨_, rfl, ⟨t0, by have := (mod_le _ m HXR.out.1 (by omega)).2; have := HXR.out.2; omega⟩, .inl t1, HC.out.later (drawn_at _ _), (Apt.setCell _ _ _ _).trans (Apt.of_below (drawn_at _ _))⟩
end Go.Proofs.YtbccachkkflceaaGreatDoor.Rd

