/-
  The program's IsFooling: what it asks of each entry.
-/
import Derived.Test.YtgmhddceeomjbaaDoorFoolsW
import Derived.Test.YtgmhddceeomjbaaDoorFoolM
import Derived.Test.YtgmhddceeomjbaaDoorInts
import Derived.Test.YtgmhddceeomjbaaDoorRValid
import Derived.Test.YtgmhddceeomjbaaDoorColF
namespace Go.Proofs.YtgmhddceeomjbaaDoor.IsFool
open Go.RowKit Go.Proofs.YtgmhddceeomjbaaDoor.Plain Go.Proofs.YtgmhddceeomjbaaDoor.Base Go.Proofs.YtgmhddceeomjbaaDoor.Valid Go.Proofs.YtgmhddceeomjbaaDoor.Law Go.Proofs.YtgmhddceeomjbaaDoor.Entry Go.Proofs.YtgmhddceeomjbaaDoor.Pat Go.Proofs.YtgmhddceeomjbaaDoor.Rect Go.Proofs.YtgmhddceeomjbaaDoor.Patch Go.Proofs.YtgmhddceeomjbaaDoor.Board Go.Proofs.YtgmhddceeomjbaaDoor.BoardM Go.Proofs.YtgmhddceeomjbaaDoor.RValid Go.Proofs.YtgmhddceeomjbaaDoor.FoolM Go.Proofs.YtgmhddceeomjbaaDoor.Kept
open Go.Proofs.YtgmhddceeomjbaaDoor.Cell (cell_any cells4)
open Go.Proofs.YtgmhddceeomjbaaDoor.Apart (apart_any)
open Go.Proofs.YtgmhddceeomjbaaDoor.FoolsW (fools_any)
open Go.Proofs.YtgmhddceeomjbaaDoor.Meet (impl_hullC orZero)
open Go.Proofs.YtgmhddceeomjbaaDoor.Ints (IV are_any okI_true okI_get)
open Go.Proofs.YtgmhddceeomjbaaDoor.Rd5 (cells3)
open Go.Proofs.YtgmhddceeomjbaaDoor.ColF (rows_max rows_small valid_rows)
set_option linter.unusedVariables false
set_option linter.unusedSectionVars false

theorem isbit_any (v : Int) (w : World) :
    Calls Tryd.prog 59 #[.int .i64 v] w fun e w' => e = .returned (.bool (v == 0 || v == 1)) ∧ w = w' := by
  obtain ⟨b, hb⟩ : ∃ b, (v == 0) = b := ⟨_, rfl⟩
  obtain ⟨d, hd⟩ : ∃ d, (v == 1) = d := ⟨_, rfl⟩
  rw [hb, hd]
  cases b <;> cases d
  all_goals
    go_enter Tryd.func59, Tryd.ntmps59
    go_wp2_with fail
    go_ret
    exact ⟨rfl, rfl⟩
/-- the entries with a value -/
def VE (E : Nat → Nat → Bool) (b : Bool) : Nat → Nat → Bool := fun x y => E x y == b
section
variable (E : Nat → Nat → Bool) (R C : Nat) (h1 : 1 ≤ R) (h2 : R ≤ 8) (h3 : 1 ≤ C) (h4 : C ≤ 8) (b : Bool)
include h1 h2 h3 h4
theorem plain_b (RS CS : Nat) (k5 : RS < 256) (k6 : CS < 256) (w : World) :
    Calls Tryd.prog 92 #[brd R C (pat (onB (fun x y => !E x y) R C) 8) (pat (onB E R C) 8), rect RS CS, .int .i64 (bitI b)] w fun e w' => e = .returned (.bool (plB (VE E b) R C RS CS)) ∧ Below w.heap.size w w' := by
  have z64 := pat64 (onB (fun x y => !E x y) R C) (onB_lt _ R C h4)
  have o64 := pat64 (onB E R C) (onB_lt _ R C h4)
  cases b with
  | false =>
    have e : VE E false = fun x y => !E x y := by funext x y; unfold VE; cases E x y <;> rfl
    rw [e]
    exact plain0 R C _ _ z64 o64 RS CS k5 k6 w
  | true =>
    have e : VE E true = E := by funext x y; unfold VE; cases E x y <;> rfl
    rw [e]
    exact plain1 R C _ _ z64 o64 RS CS k5 k6 w
theorem apart_b (i j : Nat) (hi : i < R * C) (hj : j < R * C) (w : World) :
    Calls Tryd.prog 121 #[brd R C (pat (onB (fun x y => !E x y) R C) 8) (pat (onB E R C) 8), .int .i64 (i : Int), .int .i64 (j : Int), .int .i64 (bitI b)] w fun e w' => e = .returned (.bool (!plB (VE E b) R C (2 ^ (i / C) ||| 2 ^ (j / C)) (2 ^ (i % C) ||| 2 ^ (j % C)))) ∧ Below w.heap.size w w' := by
  have d : i / C < R := Nat.div_lt_of_lt_mul (by rwa [Nat.mul_comm] at hi)
  have m : i % C < C := Nat.mod_lt i (by omega)
  have d2 : j / C < R := Nat.div_lt_of_lt_mul (by rwa [Nat.mul_comm] at hj)
  have m2 : j % C < C := Nat.mod_lt j (by omega)
  have a1 := pow_lt (i / C) (by omega)
  have a2 := pow_lt (i % C) (by omega)
  have a3 := pow_lt (j / C) (by omega)
  have a4 := pow_lt (j % C) (by omega)
  have b1 := or_lt (i / C) (j / C) (by omega) (by omega)
  have b2 := or_lt (i % C) (j % C) (by omega) (by omega)
  have p1 := Nat.one_le_two_pow (n := i / C)
  have p2 := Nat.one_le_two_pow (n := i % C)
  have p3 := Nat.one_le_two_pow (n := j / C)
  have p4 := Nat.one_le_two_pow (n := j % C)
  refine apart_any R C _ _ i j (bitI b) _ _ _ _ _ _ true _ (fun W => cell_any R C _ _ i h3 h4 hi h2 W) (fun W => cell_any R C _ _ j h3 h4 hj h2 W) (fun W => ?_) (fun W => plain_b E R C h1 h2 h3 h4 b _ _ b1 b2 W) w
  have h := impl_hullC ((2 ^ (i / C) : Nat) : Int) ((2 ^ (i % C) : Nat) : Int) ((2 ^ (j / C) : Nat) : Int) ((2 ^ (j % C) : Nat) : Int) ((someB_iff _ _).2 (by omega)) ((someB_iff _ _).2 (by omega)) W
  have o1 : Go.bits .or .i64 ((2 ^ (i / C) : Nat) : Int) ((2 ^ (j / C) : Nat) : Int) = ((2 ^ (i / C) ||| 2 ^ (j / C) : Nat) : Int) := (bits_nat .i64 8 (by decide) (fun n h0 h1 => by rw [IntKind.wrap_i64]; omega) _ _ (by omega) (by omega)).2
  have o2 : Go.bits .or .i64 ((2 ^ (i % C) : Nat) : Int) ((2 ^ (j % C) : Nat) : Int) = ((2 ^ (i % C) ||| 2 ^ (j % C) : Nat) : Int) := (bits_nat .i64 8 (by decide) (fun n h0 h1 => by rw [IntKind.wrap_i64]; omega) _ _ (by omega) (by omega)).2
  rw [o1, o2] at h
  have q1 : 1 ≤ 2 ^ (i / C) ||| 2 ^ (j / C) := Nat.le_trans p1 Nat.left_le_or
  have q2 : 1 ≤ 2 ^ (i % C) ||| 2 ^ (j % C) := Nat.le_trans p2 Nat.left_le_or
  rw [(someB_iff _ _).2 (by omega : (1 ≤ ((2 ^ (i / C) ||| 2 ^ (j / C) : Nat) : Int) ∧ ((2 ^ (i / C) ||| 2 ^ (j / C) : Nat) : Int) ≤ 255) ∧ 1 ≤ ((2 ^ (i % C) ||| 2 ^ (j % C) : Nat) : Int) ∧ ((2 ^ (i % C) ||| 2 ^ (j % C) : Nat) : Int) ≤ 255)] at h
  exact h
theorem fools_b (l : List Nat) (hl : ∀ x ∈ l, x < R * C) (hlen : l.length ≤ 1048576) (i : Nat) (hi : i < R * C) (pt : Option Addr) (cc : Nat) (w : World)
    (hc : ∀ (j : Nat) (hj : j < l.length), ∃ g off, pt = some ⟨g, off, none⟩ ∧ g < w.heap.size ∧ w.cell? ⟨g, off + j, none⟩ = some (.int .i64 (l[j] : Int))) :
    Calls Tryd.prog 62 #[brd R C (pat (onB (fun x y => !E x y) R C) 8) (pat (onB E R C) 8), .slice pt l.length cc, .int .i64 (i : Int), .int .i64 (bitI b)] w fun e w' => e = .returned (.bool (okI (VE E b) R C l i)) ∧ Below w.heap.size w w' := by
  have d : i / C < R := Nat.div_lt_of_lt_mul (by rwa [Nat.mul_comm] at hi)
  have m : i % C < C := Nat.mod_lt i (by omega)
  exact fools_any R C _ _ i (bitI b) _ _ _ l (by omega) _ pt cc w (fun W => cell_any R C _ _ i h3 h4 hi h2 W) (fun W => plain_b E R C h1 h2 h3 h4 b _ _ (pow_lt _ (by omega)) (pow_lt _ (by omega)) W) (fun j hj W => apart_b E R C h1 h2 h3 h4 b i j hi (hl j hj) W) hc
end
/-- a false one stays false -/
theorem allI_false (P : Nat → Nat → Bool) (R C : Nat) (l : List Nat) (k : Nat) (h : allI P R C l k = false) : ∀ n, k ≤ n → allI P R C l n = false
  | 0, hn => by
    obtain rfl : k = 0 := by omega
    exact h
  | n + 1, hn => by
    by_cases e : k = n + 1
    · subst e; exact h
    · rw [allI, allI_false P R C l k h n (by omega)]; rfl
theorem allS_false (P : Nat → Nat → Bool) (C : Nat) (l : List Nat) (k : Nat) (h : allS P C l k = false) : ∀ n, k ≤ n → allS P C l n = false
  | 0, hn => by
    obtain rfl : k = 0 := by omega
    exact h
  | n + 1, hn => by
    by_cases e : k = n + 1
    · subst e; exact h
    · rw [allS, allS_false P C l k h n (by omega)]; rfl
/-- the numbers -/
abbrev nat (xs : List Int) : List Nat := xs.map Int.toNat
/-- a list that may be cut short -/
def IVc (w : World) (B : Nat) (v : Value) (xs : List Int) : Prop := IV w B v xs ∧ ∃ p c, v = .slice p xs.length c ∧ xs.length ≤ c
theorem IVc.later {w w1 : World} {B : Nat} {v : Value} {xs : List Int} (h : IVc w B v xs) (hB : B ≤ w.heap.size) (hb : Below w.heap.size w w1) : IVc w1 B v xs := ⟨h.1.later hB hb, h.2⟩
theorem IVc.mono {w : World} {B B' : Nat} {v : Value} {xs : List Int} (h : IVc w B v xs) (hB : B ≤ B') : IVc w B' v xs := ⟨h.1.mono hB, h.2⟩

set_option maxHeartbeats 4000000 in
set_option maxRecDepth 100000 in
theorem impl_fool (E : Nat → Nat → Bool) (R C : Nat) (h1 : 1 ≤ R) (h2 : R ≤ 8) (h3 : 1 ≤ C) (h4 : C ≤ 8) (b : Bool) (xs : List Int) (hlen : xs.length ≤ 1048576) (v : Value) (w : World) (hiv : IVc w w.heap.size v xs) :
    Calls Tryd.prog 15 #[mat R C (str (rowsB E R C)), .int .i64 (bitI b), v] w fun e w' => e = .returned (.bool (Ints.okI xs ((R * C : Nat) : Int) && allI (VE E b) R C (nat xs) xs.length)) ∧ Below w.heap.size w w' := by
  obtain ⟨hi1, pt, cc, rfl, hcc⟩ := hiv
  have HV := Lib.hid (fun W => Go.Proofs.YtgmhddceeomjbaaDoor.Valid.impl_valid R C (str (rowsB E R C)) (rows_max E R C h2 h4) W)
  rw [valid_rows E R C h1 h2 h3 h4] at HV
  have hb01 : (bitI b == 0 || bitI b == 1) = true := by cases b <;> rfl
  have HBI := Lib.hid (fun W => isbit_any (bitI b) W)
  rw [hb01] at HBI
  have hsz : (str (rowsB E R C)).size = R * C := by rw [str_size, rowsB_length]
  have HBD := Lib.hid (fun W => board_yes R C E h1 h2 h3 h4 (rows_max E R C h2 h4) (valid_rows E R C h1 h2 h3 h4) W)
  have HFW := Lib.hid (fun l hl hlen i hi pt cc W hc => fools_b E R C h1 h2 h3 h4 b l hl hlen i hi pt cc W hc)
  have HBV : Hid (0 ≤ bitI b ∧ bitI b ≤ 1) := by cases b <;> exact ⟨by decide, by decide⟩
  generalize bitI b = bv at *
  generalize VE E b = P at *
  generalize str (rowsB E R C) = s at *
  generalize pat (onB (fun x y => !E x y) R C) 8 = z at *
  generalize pat (onB E R C) 8 = o at *
  have h64 : R * C ≤ 64 := prod_le h2 h4
  generalize hN : R * C = N at *
  have HNN := Lib.hid hN
  clear hN hb01
  obtain ⟨hl9, hiv2⟩ := id hi1
  have HIV := Lib.hid hi1
  have HS := Lib.hid hsz
  have hsl : (s.size : Int) = (N : Int) := by rw [hsz]
  obtain ⟨ok, hok⟩ : ∃ ok, Ints.okI xs (N : Int) = ok := ⟨_, rfl⟩
  rw [hok]
  have HAR : Hid (∀ W, IV W W.heap.size (.slice pt xs.length cc) xs → Calls Tryd.prog 60 #[.slice pt xs.length cc, .int .i64 (s.size : Int)] W fun e w' => e = .returned (.bool ok) ∧ W = w') := fun W h => by
    have := are_any xs (.slice pt xs.length cc) (N : Int) W h
    rw [hok, ← hsl] at this
    exact this
  have HOK := Lib.hid hok
  clear hi1 hsz hok hsl
  obtain ⟨B, hB⟩ : ∃ B, w.heap.size = B := ⟨_, rfl⟩
  have HK1 := Lib.hid ((Kp.nil w).put (.cells #[.int .i64 (R : Int), .int .i64 (C : Int), .string s] 27) hB)
  go_enter Tryd.func15, Tryd.ntmps15
  obtain ⟨c0, c1, c2, -, -, -⟩ := cells3 (HK1.out.at 0 rfl)
  go_wp2_with fail
  refine (HV.out _).mono ?_
  rintro e w2 ⟨rfl, hb2⟩
  have HK2 := Lib.hid (HK1.out.later hb2)
  clear hb2 HK1 hB c0 c1 c2
  obtain ⟨c0, c1, c2, -, -, -⟩ := cells3 (HK2.out.at 0 rfl)
  go_wp2_with fail
  refine (HBI.out _).mono ?_
  rintro e w' ⟨rfl, rfl⟩
  go_wp2_with fail
  have hiw := (HIV.out.later (Nat.le_refl _) HK2.out.below).mono HK2.out.below.size
  refine (HAR.out _ hiw).mono ?_
  rintro e w' ⟨rfl, rfl⟩
  clear hiw
  cases ok
  · go_wp2_with fail
    go_ret
    exact ⟨rfl, HK2.out.below⟩
  · have hge := fun j hj => okI_get HOK.out j hj
    have hlN : ∀ x ∈ nat xs, x < N := fun x hx => by
      obtain ⟨y, hy, rfl⟩ := List.mem_map.1 hx
      obtain ⟨j, hj, rfl⟩ := List.getElem_of_mem hy
      have := hge j hj
      omega
    have HLN := Lib.hid hlN
    have HGE := Lib.hid hge
    clear hlN hge
    go_wp2_with fail
    refine (HBD.out _).mono ?_
    rintro e w3 ⟨rfl, hb3⟩
    obtain ⟨D, hD⟩ : ∃ D, w3.heap.size = D := ⟨_, rfl⟩
    have HK3 := Lib.hid ((HK2.out.later hb3).put (.cells #[.int .i64 (R : Int), .int .i64 (C : Int), .int .u64 (z : Int), .int .u64 (o : Int)] 70) hD)
    clear hb3 HK2 c0 c1 c2
    go_wp2_with fail
    clear hD
    go_loopw [30] (fun i wr => ∃ k : Nat, k ≤ xs.length ∧ i = .int .i64 (k : Int) ∧ Hid (allI P R C (nat xs) k = true) ∧ Hid (Kp w wr [(D, .cells #[.int .i64 (R : Int), .int .i64 (C : Int), .int .u64 (z : Int), .int .u64 (o : Int)] 70 (0, 0)), (B, .cells #[.int .i64 (R : Int), .int .i64 (C : Int), .string s] 27 (0, 0))])) (fun i _ => xs.length - (intOf i).toNat)
    case atStart => exact ⟨0, by omega, rfl, rfl, HK3⟩
    case round =>
      obtain ⟨k, hk, rfl, HA, HR⟩ := hrel
      clear HK3
      by_cases hlt : k < xs.length
      · rcases hiv2 with ⟨-, h0⟩ | ⟨q, off, c', e, hq, hcs⟩
        · rw [h0] at hlt; exact absurd hlt (by simp)
        injection e with e1 _ e3
        subst e1 e3
        obtain ⟨g0, g1⟩ := HGE.out k hlt
        obtain ⟨X, hX⟩ := Int.eq_ofNat_of_zero_le g0
        have hXN : X < N := by omega
        have hgetD : (nat xs).getD k 0 = X := by
          rw [List.getD_eq_getElem?_getD, List.getElem?_map, List.getElem?_eq_getElem hlt, hX]
          rfl
        have hnx : allI P R C (nat xs) (k + 1) = okI P R C ((nat xs).take k) X := by rw [allI, HA.out, hgetD, Bool.true_and]
        have htl : ((nat xs).take k).length = k := by rw [List.length_take, List.length_map]; omega
        have hfw : ∀ W, Kp w W [(D, .cells #[.int .i64 (R : Int), .int .i64 (C : Int), .int .u64 (z : Int), .int .u64 (o : Int)] 70 (0, 0)), (B, .cells #[.int .i64 (R : Int), .int .i64 (C : Int), .string s] 27 (0, 0))] → Calls Tryd.prog 62 #[brd R C z o, .slice (some ⟨q, off, none⟩) k cc, .int .i64 (X : Int), .int .i64 bv] W fun e w' => e = .returned (.bool (okI P R C ((nat xs).take k) X)) ∧ Below W.heap.size W w' := fun W hW => by
          have hh := HFW.out ((nat xs).take k) (fun x hx => HLN.out x (List.mem_of_mem_take hx)) (by rw [htl]; omega) X hXN (some ⟨q, off, none⟩) cc W (fun j hj => by
            rw [htl] at hj
            refine ⟨q, off, rfl, Nat.lt_of_lt_of_le hq hW.below.size, ?_⟩
            rw [hW.below.cell (p := ⟨q, off + j, none⟩) hq, hcs j (by omega), List.getElem_take, List.getElem_map]
            have := (HGE.out j (by omega)).1
            congr 2
            omega)
          rw [htl] at hh
          exact hh
        have hcell := hcs k hlt
        rw [hX] at hcell
        have HCE : Hid (∀ W, Kp w W [(D, .cells #[.int .i64 (R : Int), .int .i64 (C : Int), .int .u64 (z : Int), .int .u64 (o : Int)] 70 (0, 0)), (B, .cells #[.int .i64 (R : Int), .int .i64 (C : Int), .string s] 27 (0, 0))] → W.cell? ⟨q, off + k, none⟩ = some (.int .i64 (X : Int))) := fun W hW => (hW.below.cell (p := ⟨q, off + k, none⟩) hq).trans hcell
        have hnot : okI P R C ((nat xs).take k) X = false → allI P R C (nat xs) xs.length = false := fun h => allI_false P R C _ (k + 1) (by rw [hnx, h]) _ (by omega)
        generalize okI P R C ((nat xs).take k) X = ans at hnx hfw hnot
        have HFL := Lib.hid hfw
        have HNX := Lib.hid hnx
        have HNO := Lib.hid hnot
        clear hnx hfw hnot hcell hcs htl hgetD hX g0 g1 hq
        have hkl : (k : Int) < (xs.length : Int) := by omega
        have hkc : (k : Int) ≤ (cc : Int) := by omega
        have r1 := HCE.out _ HR.out
        go_wp2_with fail
        clear r1
        refine region_kept (C := fun wx => Kp w wx [(D, .cells #[.int .i64 (R : Int), .int .i64 (C : Int), .int .u64 (z : Int), .int .u64 (o : Int)] 70 (0, 0)), (B, .cells #[.int .i64 (R : Int), .int .i64 (C : Int), .string s] 27 (0, 0))]) HR.out.drew (by kernel_rfl) (by kernel_rfl) ?_
        repeat
          (refine wq_step (fun K hK => ?_)
           go_simp
           first
             | (refine hK _ ?_; clear hK K)
             | (apply Exists.intro
                refine ⟨fun wx hC => ?_, hK _ ?_⟩
                · first
                  | with_reducible rfl
                  | with_reducible exact hC.call (HFL.out wx hC)
                  | (obtain ⟨d0, d1, d2, d3⟩ := cells4 (hC.at 0 rfl); go_simp; first | done | rfl)
                clear hK K))
        refine wq_nil ?_
        intro w20 hC
        have HR2 := Lib.hid hC
        clear hC HR
        cases ans
        · go_wp2_with fail
          go_ret
          exact ⟨by rw [HNO.out (by trivial)]; rfl, HR2.out.below⟩
        · go_wp2_with fail
          go_roundw
          case rel => exact ⟨k + 1, by omega, by go_num, HNX, HR2⟩
          case measure => simp [intOf]; omega
      · obtain rfl : k = xs.length := by omega
        go_wp2_with fail
        go_ret
        exact ⟨by rw [HA.out]; rfl, HR.out.below⟩
end Go.Proofs.YtgmhddceeomjbaaDoor.IsFool
