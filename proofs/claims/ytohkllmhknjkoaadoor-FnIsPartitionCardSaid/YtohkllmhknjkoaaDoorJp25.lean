/-
  Texts of one seat, joined: IpM, AreaI, IpLaw.
-/
import Derived.Test.YtohkllmhknjkoaaDoorJp1
import Derived.Test.YtohkllmhknjkoaaDoorJp23
import Derived.Test.YtohkllmhknjkoaaDoorJp24
import Derived.Test.YtohkllmhknjkoaaDoorJp16
import Derived.WalkSmall
import Derived.Test.YtohkllmhknjkoaaDoorJp21
import Derived.Test.YtohkllmhknjkoaaDoorJp14
import Derived.Test.YtohkllmhknjkoaaDoorJp15
import Derived.Test.YtohkllmhknjkoaaDoorJp2
/-
  The rectangles of a partition with one value cover its entries, and their areas are as many as these.
-/
namespace Go.Proofs.YtohkllmhknjkoaaDoor.IpM
open Go.RowKit Go.Proofs.YtohkllmhknjkoaaDoor.Plain Go.Proofs.YtohkllmhknjkoaaDoor.Base Go.Proofs.YtohkllmhknjkoaaDoor.Valid Go.Proofs.YtohkllmhknjkoaaDoor.Law Go.Proofs.YtohkllmhknjkoaaDoor.Pat Go.Proofs.YtohkllmhknjkoaaDoor.Rect Go.Proofs.YtohkllmhknjkoaaDoor.Patch Go.Proofs.YtohkllmhknjkoaaDoor.Board Go.Proofs.YtohkllmhknjkoaaDoor.BoardM Go.Proofs.YtohkllmhknjkoaaDoor.RValid Go.Proofs.YtohkllmhknjkoaaDoor.Bal Go.Proofs.YtohkllmhknjkoaaDoor.Colour Go.Proofs.YtohkllmhknjkoaaDoor.Rects Go.Proofs.YtohkllmhknjkoaaDoor.Cover Go.Proofs.YtohkllmhknjkoaaDoor.CoverS Go.Proofs.YtohkllmhknjkoaaDoor.CovM Go.Proofs.YtohkllmhknjkoaaDoor.PartS Go.Proofs.YtohkllmhknjkoaaDoor.PartI Go.Proofs.YtohkllmhknjkoaaDoor.PartM Go.Proofs.YtohkllmhknjkoaaDoor.IcM
set_option linter.unusedVariables false

/-- the areas together -/
def areaL (xs : List (Int × Int)) : Nat := (xs.map fun r => pop8 r.1.toNat * pop8 r.2.toNat).sum
theorem areaTo_L (xs : List (Int × Int)) : ∀ k, k ≤ xs.length → areaTo xs k = areaL (xs.take k)
  | 0, _ => rfl
  | k + 1, hk => by
    rw [areaTo_next xs k (by omega), areaTo_L xs k (by omega), List.take_succ_eq_append_getElem (show k < xs.length by omega)]
    simp only [areaL, List.map_append, List.sum_append, List.map_cons, List.map_nil, List.sum_cons, List.sum_nil, Nat.add_zero]
theorem sum_pad (f : Nat → Nat) (R : Nat) (h : ∀ x, R ≤ x → f x = 0) : ∀ d, sumN f (R + d) = sumN f R
  | 0 => rfl
  | d + 1 => by rw [← Nat.add_assoc, sumN, sum_pad f R h d, h _ (by omega)]; rfl
theorem ones_pop (E : Nat → Nat → Bool) (R C : Nat) (h2 : R ≤ 8) (h4 : C ≤ 8) : sumN (fun x => pop8 (onB E R C x)) 8 = sumN (fun x => sumN (fun y => (E x y).toNat) C) R := by
  obtain ⟨d, hd⟩ : ∃ d, 8 = R + d := ⟨8 - R, by omega⟩
  rw [hd, sum_pad _ R (fun x hx => by unfold onB; rw [if_neg (by omega)]; decide)]
  refine sumN_congr _ _ R fun x hx => ?_
  rw [pop8_bits _ (onB_lt E R C h4 x)]
  obtain ⟨c, hc⟩ : ∃ c, 8 = C + c := ⟨8 - C, by omega⟩
  rw [hc, sum_pad _ C (fun y hy => by rw [onB_bit, decide_eq_false (show ¬ y < C by omega)]; simp)]
  refine sumN_congr _ _ C fun y hy => ?_
  rw [onB_bit, decide_eq_true hx, decide_eq_true hy]
  rfl

/-- what a partition is, by its rectangles -/
structure Parts (E : Nat → Nat → Bool) (R C : Nat) (xs : List (Int × Int)) : Prop where
  col : ∀ r ∈ xs, colR E R C r.1 r.2 = 0 ∨ colR E R C r.1 r.2 = 1
  apart : xs.Pairwise fun a b => meetB b a = false
  all : ∀ x, x < R → ∀ y, y < C → ∃ r ∈ xs, r.1.toNat.testBit x = true ∧ r.2.toNat.testBit y = true
theorem parts_of (E : Nat → Nat → Bool) (R C : Nat) (h1 : 1 ≤ R) (h2 : R ≤ 8) (h4 : C ≤ 8) (xs : List (Int × Int)) (h : partS (colR E R C) xs (R * C) = true) : Parts E R C xs := by
  have hI := h
  rw [part_eq E R C h1 h2 h4 xs] at hI
  unfold partS at h
  simp only [Bool.and_eq_true, decide_eq_true_iff, beq_iff_eq] at h
  obtain ⟨hp, ha, _⟩ := h
  unfold partI at hI
  simp only [Bool.and_eq_true, decide_eq_true_iff, beq_iff_eq] at hI
  have hcov := hI.2.2
  rw [all_or E R C h4] at hcov
  have hn := fun j hj => hp_any (E := E) h2 h4 ((col_plain E R C h2 h4 _ _).1 (hp j hj))
  have hb2 : ∀ j (hj : j < xs.length), xs[j].2.toNat < 256 := fun j hj => by
    obtain ⟨RS, CS, e1, e2, _, _, _, _, k5, k6⟩ := hn j hj
    rw [e2, Int.toNat_natCast]; exact k6
  rw [covTo_pat xs hb2 _ (Nat.le_refl _)] at hcov
  have hx := pat_inj 8 _ _ (covB_lt xs hb2 _ (Nat.le_refl _)) (allB_lt R C h4) hcov
  refine ⟨fun r hr => ?_, ?_, fun x hxR y hyC => ?_⟩
  · obtain ⟨j, hj, rfl⟩ := List.getElem_of_mem hr
    have h0 := hp j hj
    have hle : colR E R C xs[j].1 xs[j].2 ≤ 1 := by
      unfold colR colV
      split
      · split
        · omega
        · split <;> omega
      · omega
    omega
  · rw [List.pairwise_iff_getElem]
    intro i j hi hj hij
    exact ha j hj i hi hij
  · have e := hx x (by omega)
    have hb : (covB xs xs.length x).testBit y = true := by rw [e, allB_bit, decide_eq_true hxR, decide_eq_true hyC]; rfl
    obtain ⟨i, hi, _, b1, b2⟩ := (covB_bit xs x y _ (Nat.le_refl _)).1 hb
    exact ⟨xs[i], List.getElem_mem hi, b1, b2⟩
/-- a rectangle with a value has only such entries -/
theorem col_in (E : Nat → Nat → Bool) (bt : Bool) (R C : Nat) (h2 : R ≤ 8) (h4 : C ≤ 8) (r : Int × Int) (h : colR E R C r.1 r.2 = bitI bt) (x y : Nat) (hx : r.1.toNat.testBit x = true) (hy : r.2.toNat.testBit y = true) : (x < R ∧ y < C) ∧ E x y = bt := by
  have key : ∀ P : Nat → Nat → Bool, hpB R C (pat (onB P R C) 8) r.1 r.2 = true → (x < R ∧ y < C) ∧ P x y = true := fun P hp => by
    unfold hpB at hp
    rw [Bool.and_eq_true] at hp
    obtain ⟨RS, CS, e1, e2, k1, k2, k3, k4, k5, k6⟩ := rv_nat h2 h4 hp.1
    have hp2 := hp.2
    rw [e1, e2, Int.toNat_natCast, Int.toNat_natCast] at hp2
    rw [e1, Int.toNat_natCast] at hx
    rw [e2, Int.toNat_natCast] at hy
    exact (plain_pat P R C RS CS h2 h4 k5 k6).1 (of_decide_eq_true hp2) x y hx hy
  cases bt with
  | false =>
    have hc := colR_zero E R C h2 h4 r.1 r.2
    rw [h] at hc
    obtain ⟨a, b⟩ := key _ hc.symm
    exact ⟨a, by simpa using b⟩
  | true =>
    have hc := colR_one E R C h2 h4 r.1 r.2
    rw [h] at hc
    exact key _ hc.symm
theorem part_good (E : Nat → Nat → Bool) (bt : Bool) (R C : Nat) (h2 : R ≤ 8) (h4 : C ≤ 8) (xs : List (Int × Int)) (h : Parts E R C xs) :
    goodB E bt (xs.filter fun r => colR E R C r.1 r.2 == bitI bt) R C = true := by
  have hgo : ∀ P : Nat → Nat → Bool, (∀ x y, P x y = (E x y == bt)) → (∀ r c, (colR E R C r c == bitI bt) = hpB R C (pat (onB P R C) 8) r c) → goodB E bt (xs.filter fun r => colR E R C r.1 r.2 == bitI bt) R C = true := fun P hP hc => by
    rw [← cov_good E bt P hP R C h2 h4 _ hc, Bool.and_eq_true]
    constructor
    · rw [List.all_eq_true]
      intro r hr
      exact (List.mem_filter.1 hr).2
    · unfold cellsAll
      rw [decide_eq_true_iff]
      intro x hx y hy
      rw [cell_any E _ _ x y _ (Nat.le_refl _), List.take_length]
      by_cases he : E x y = bt
      · obtain ⟨r, hr, b1, b2⟩ := h.all x hx y hy
        have hcr : colR E R C r.1 r.2 = bitI bt := by
          rcases h.col r hr with h0 | h0
          · have := (col_in E false R C h2 h4 r h0 x y b1 b2).2
            rw [h0, ← he, this]
            rfl
          · have := (col_in E true R C h2 h4 r h0 x y b1 b2).2
            rw [h0, ← he, this]
            rfl
        rw [Bool.or_eq_true]
        exact .inr (List.any_eq_true.2 ⟨r, List.mem_filter.2 ⟨hr, by rw [hcr]; simp⟩, by rw [b1, b2]; rfl⟩)
      · have : (bitI (E x y) != bitI bt) = true := by
          cases h5 : E x y <;> cases bt
          · exact absurd h5 he
          · rfl
          · rfl
          · exact absurd h5 he
        rw [this]
        rfl
  cases bt with
  | false => exact hgo (fun x y => !E x y) (fun x y => by cases E x y <;> rfl) (colR_zero E R C h2 h4)
  | true => exact hgo E (fun x y => by cases E x y <;> rfl) (colR_one E R C h2 h4)
/-- as many ones as the areas of the rectangles of ones -/
theorem part_ones (E : Nat → Nat → Bool) (R C : Nat) (h2 : R ≤ 8) (h4 : C ≤ 8) (xs : List (Int × Int)) (h : Parts E R C xs) :
    areaL (xs.filter fun r => colR E R C r.1 r.2 == 1) = sumN (fun x => sumN (fun y => (E x y).toNat) C) R := by
  rw [← ones_pop E R C h2 h4]
  obtain ⟨ys, hys⟩ : ∃ ys, (xs.filter fun r => colR E R C r.1 r.2 == 1) = ys := ⟨_, rfl⟩
  have hmem : ∀ r, r ∈ ys ↔ r ∈ xs ∧ colR E R C r.1 r.2 = 1 := fun r => by rw [← hys, List.mem_filter, beq_iff_eq]
  have hpw : ys.Pairwise fun a b => meetB b a = false := by rw [← hys]; exact h.apart.filter _
  rw [hys]
  have hn : ∀ j (hj : j < ys.length), ∃ RS CS : Nat, ys[j].1 = (RS : Int) ∧ ys[j].2 = (CS : Int) ∧ RS < 256 ∧ CS < 256 := fun j hj => by
    have hc := ((hmem _).1 (List.getElem_mem hj)).2
    obtain ⟨RS, CS, e1, e2, k1, k2, k3, k4, k5, k6⟩ := hp_any (E := E) h2 h4 ((col_plain E R C h2 h4 _ _).1 (show 0 ≤ colR E R C ys[j].1 ys[j].2 by omega))
    exact ⟨RS, CS, e1, e2, k5, k6⟩
  have hb1 : ∀ j (hj : j < ys.length), ys[j].1.toNat < 256 := fun j hj => by
    obtain ⟨RS, CS, e1, e2, k5, k6⟩ := hn j hj
    rw [e1, Int.toNat_natCast]; exact k5
  have hb2 : ∀ j (hj : j < ys.length), ys[j].2.toNat < 256 := fun j hj => by
    obtain ⟨RS, CS, e1, e2, k5, k6⟩ := hn j hj
    rw [e2, Int.toNat_natCast]; exact k6
  have hap := fun k hk => (apart_iff ys hb1 hb2 k hk).2 fun i hi hik => (List.pairwise_iff_getElem.1 hpw) i k hi hk hik
  have har := area_cov ys hb1 hb2 hap _ (Nat.le_refl _)
  rw [areaTo_L ys _ (Nat.le_refl _), List.take_length] at har
  rw [← har]
  refine sumN_congr _ _ 8 fun x hx => ?_
  have : covB ys ys.length x = onB E R C x := Nat.eq_of_testBit_eq fun y => by
    rw [Bool.eq_iff_iff, covB_bit ys x y _ (Nat.le_refl _), onB_bit, Bool.and_eq_true, Bool.and_eq_true, decide_eq_true_iff, decide_eq_true_iff]
    constructor
    · rintro ⟨i, hi, _, b1, b2⟩
      have := col_in E true R C h2 h4 ys[i] ((hmem _).1 (List.getElem_mem hi)).2 x y b1 b2
      exact ⟨this.1.1, this.1.2, this.2⟩
    · rintro ⟨hxR, hyC, he⟩
      obtain ⟨r, hr, b1, b2⟩ := h.all x hxR y hyC
      have hcr : colR E R C r.1 r.2 = 1 := by
        rcases h.col r hr with h0 | h0
        · have := (col_in E false R C h2 h4 r h0 x y b1 b2).2
          rw [he] at this
          cases this
        · exact h0
      obtain ⟨i, hi, rfl⟩ := List.getElem_of_mem ((hmem r).2 ⟨hr, hcr⟩)
      exact ⟨i, hi, hi, b1, b2⟩
  rw [this]
end Go.Proofs.YtohkllmhknjkoaaDoor.IpM

/-
  The program's AreaOf.
-/
namespace Go.Proofs.YtohkllmhknjkoaaDoor.AreaI
open Go.RowKit Go.Proofs.YtohkllmhknjkoaaDoor.Plain Go.Proofs.YtohkllmhknjkoaaDoor.Pat Go.Proofs.YtohkllmhknjkoaaDoor.Rect Go.Proofs.YtohkllmhknjkoaaDoor.Patch
set_option linter.unusedVariables false

set_option maxHeartbeats 1000000 in
theorem impl_area (R C : Nat) (hR1 : 1 ≤ R) (hR : R < 256) (hC1 : 1 ≤ C) (hC : C < 256) (w : World) :
    Calls Tryd.prog 34 #[rect R C] w fun e w' => e = .returned (.int .i64 ((pop8 R * pop8 C : Nat) : Int)) ∧ Below w.heap.size w w' := by
  have HS := Lib.hid (show someB R C = true by rw [someB_iff]; omega)
  have HP := Lib.hid (patch_any R C hR hC)
  have HZ := Lib.hid (size_any (rectB R C) (rectB_lt R C hC))
  rw [area_pop R C hR] at HZ
  generalize pat (rectB R C) 8 = p at *
  go_enter Tryd.func34, Tryd.ntmps34
  go_wp2_with fail
  refine (rect_any _ _ _).mono ?_
  rintro e w1 ⟨rfl, hb1⟩
  rw [HS.out]
  obtain ⟨c0, c1, hz, HB⟩ := box2 hb1
  clear hb1
  go_wp2_with fail
  refine (HP.out _).mono ?_
  rintro e w2 ⟨rfl, hb2⟩
  have HB2 := Lib.hid (rstep HB.out hb2)
  clear hb2 HB
  go_wp2_with fail
  refine (HZ.out _).mono ?_
  rintro e w' ⟨rfl, rfl⟩
  go_wp2_with fail
  go_ret
  exact ⟨rfl, HB2.out⟩
set_option maxHeartbeats 1000000 in
theorem impl_area_no (r c : Int) (h : someB r c = false) (w : World) :
    Calls Tryd.prog 34 #[rect r c] w fun e w' => e = .returned (.int .i64 (-1)) ∧ Below w.heap.size w w' := by
  have HS := Lib.hid h
  clear h
  go_enter Tryd.func34, Tryd.ntmps34
  go_wp2_with fail
  refine (rect_any _ _ _).mono ?_
  rintro e w1 ⟨rfl, hb1⟩
  rw [HS.out]
  obtain ⟨c0, c1, hz, HB⟩ := box2 hb1
  clear hb1
  go_wp2_with fail
  go_ret
  exact ⟨rfl, HB.out⟩
end Go.Proofs.YtohkllmhknjkoaaDoor.AreaI

/-
  The walk of the drawn law on IsPartition.
-/
namespace Go.Proofs.YtohkllmhknjkoaaDoor.fnIsPartition
open Go Go.RowKit Go.Proofs.YtohkllmhknjkoaaDoor.Plain Go.Proofs.YtohkllmhknjkoaaDoor.Base Go.Proofs.YtohkllmhknjkoaaDoor.Valid Go.Proofs.YtohkllmhknjkoaaDoor.Law Go.Proofs.YtohkllmhknjkoaaDoor.GridPlain Go.Proofs.YtohkllmhknjkoaaDoor.Grid Go.Proofs.YtohkllmhknjkoaaDoor.Entry Go.Proofs.YtohkllmhknjkoaaDoor.Pat Go.Proofs.YtohkllmhknjkoaaDoor.Rect Go.Proofs.YtohkllmhknjkoaaDoor.Patch Go.Proofs.YtohkllmhknjkoaaDoor.Board Go.Proofs.YtohkllmhknjkoaaDoor.BoardM Go.Proofs.YtohkllmhknjkoaaDoor.RValid Go.Proofs.YtohkllmhknjkoaaDoor.Bal Go.Proofs.YtohkllmhknjkoaaDoor.Colour Go.Proofs.YtohkllmhknjkoaaDoor.Rects Go.Proofs.YtohkllmhknjkoaaDoor.Cover Go.Proofs.YtohkllmhknjkoaaDoor.CoverS Go.Proofs.YtohkllmhknjkoaaDoor.CovM Go.Proofs.YtohkllmhknjkoaaDoor.PartS Go.Proofs.YtohkllmhknjkoaaDoor.PartI Go.Proofs.YtohkllmhknjkoaaDoor.PartM Go.Proofs.YtohkllmhknjkoaaDoor.IcM Go.Proofs.YtohkllmhknjkoaaDoor.IpM Go.Proofs.YtohkllmhknjkoaaDoor.Rd
open Go.Proofs.YtohkllmhknjkoaaDoor.DrawIC (own_apt own_slice flat_app flat_length rv_own)
open Go.Proofs.YtohkllmhknjkoaaDoor.KeysI (infoK two_new flat)
open Go.Proofs.YtohkllmhknjkoaaDoor.Kept (region_kept wq_step wq_nil)
open Go.Proofs.YtohkllmhknjkoaaDoor.fnExactCountOnes (cntI impl_count)
set_option linter.unusedVariables false
set_option linter.unusedSimpArgs false
set_option linter.unusedSectionVars false

theorem row_cnt (E : Nat → Nat → Bool) (x : Nat) : ∀ c, (rowB E x c).count 49 = sumN (fun y => (E x y).toNat) c
  | 0 => rfl
  | c + 1 => by rw [rowB_succ, List.count_append, row_cnt E x c, sumN]; cases E x c <;> rfl
def onesN (E : Nat → Nat → Bool) (r c : Nat) : Nat := sumN (fun x => sumN (fun y => (E x y).toNat) c) r
theorem rows_cnt (E : Nat → Nat → Bool) (c : Nat) : ∀ r, (rowsB E r c).count 49 = onesN E r c
  | 0 => rfl
  | r + 1 => by
    have := rows_cnt E c r
    unfold onesN at this ⊢
    rw [rowsB_succ, List.count_append, this, sumN, row_cnt]
theorem wpList_append_all {P : Program} {w : World} {ops : Array Oper} {rest : List Oper} {o : Oper} {a : Act} {Q : Exit → Act → World → Prop} (hgd : o.guard = none) (s x : Operand) (t : TypeId)
    (ho : o.op = .call { callee := .builtin .append, args := #[s, x], argTypes := #[t, t] })
    (base : Nat) (e : TypeId) (i : TypeInfo) (z : Value) (size bytes : Nat) (ht : P.underlying t = some (.slice e)) (hi : P.info? e = some i) (hz : i.zero = some z)
    (hsize : i.size = size) (hby : i.bytes = bytes) (hzs : z.cells.size = size) (hsz : 0 < size) (v : Value) (n : Nat) (xs : List Value) (hs : a.eval s = v) (hown : w.ownsRow base e size v n xs)
    (ad : Addr) (m c : Nat) (news : List Value) (hx : a.eval x = .slice (some ad) m c) (hl : news.length = m * size) (hnews : ∀ j u, news[j]? = some u → w.cell? (ad.add j) = some u) (h1 : ∀ u ∈ news, u.oneCell' = true)
    (h63 : n + m ≤ maxLen) (hbytes : (n + m) * bytes ≤ 140737488355328) (hbase : base ≤ w.heap.size)
    (h : ∀ v' w', w'.ownsRow base e size v' (n + m) (xs ++ news) → w.grownBy w' v.ownBlock → (v'.ownBlock = v.ownBlock ∨ v'.ownBlock = some w.heap.size) → wpList P ops Q rest (a.put o.dst v') w') : wpList P ops Q (o :: rest) a w :=
  wpList_plain hgd fun _ hK => Go.Proofs.YtohkllmhknjkoaaDoor.Apy.wp_append_all s x t ho base e i z size bytes ht hi hz hsize hby hzs hsz v n xs hs hown ad m c news hx hl hnews h1 h63 hbytes hbase fun v' w' h2 h3 h4 _ => hK _ _ (h v' w' h2 h3 h4)

section
variable (E : Nat → Nat → Bool) (R C : Nat) (h1 : 1 ≤ R) (h2 : R ≤ 8) (h3 : 1 ≤ C) (h4 : C ≤ 8) (hv : validB R C (str (rowsB E R C)) = true) (hs : (str (rowsB E R C)).size ≤ maxLen)
include h1 h2 h3 h4 hv hs
theorem count_yes (w : World) : Calls Tryd.prog 35 #[mat R C (str (rowsB E R C))] w fun e w' => e = .returned (.int .i64 ((onesN E R C : Nat) : Int)) ∧ Below w.heap.size w w' := by
  have := impl_count R C _ hs w
  unfold cntI Lib.countByte at this
  rw [hv, if_pos rfl, show (str (rowsB E R C)).data.toList = rowsB E R C by simp [str], rows_cnt] at this
  exact this
theorem col_impl (bt : Bool) (r c : Int) (h : colR E R C r c = bitI bt) (w : World) : Calls Tryd.prog 33 #[mat R C (str (rowsB E R C)), rect r c] w fun e w' => e = .returned (.int .i64 (bitI bt)) ∧ Below w.heap.size w w' := by
  have hz := colR_zero E R C h2 h4 r c
  have ho := colR_one E R C h2 h4 r c
  have ht : rvB R C r c = true := by
    cases ht : rvB R C r c with
    | true => rfl
    | false =>
      unfold colR at h
      rw [ht, if_neg (by decide)] at h
      cases bt <;> cases h
  unfold hpB at hz ho
  rw [ht, Bool.true_and] at hz ho
  obtain ⟨RS, CS, rfl, rfl, k1, k2, k3, k4, k5, k6⟩ := rv_nat h2 h4 ht
  rw [Int.toNat_natCast, Int.toNat_natCast] at hz ho
  have hbd := fun W => board_yes R C E h1 h2 h3 h4 hs hv W
  have him := impl_col_yes R C h2 h4 _ _ (pat64 _ (onB_lt _ R C h4)) (pat64 _ (onB_lt _ R C h4)) _ _ _ RS CS k5 k6 hbd ht _ _ hz.symm ho.symm w
  rw [h] at him
  cases bt with
  | false => exact him
  | true => exact him
theorem area_impl (bt : Bool) (r c : Int) (h : colR E R C r c = bitI bt) (w : World) : Calls Tryd.prog 34 #[rect r c] w fun e w' => e = .returned (.int .i64 ((pop8 r.toNat * pop8 c.toNat : Nat) : Int)) ∧ Below w.heap.size w w' := by
  have ht : rvB R C r c = true := by
    cases ht : rvB R C r c with
    | true => rfl
    | false =>
      unfold colR at h
      rw [ht, if_neg (by decide)] at h
      cases bt <;> cases h
  obtain ⟨RS, CS, rfl, rfl, k1, k2, k3, k4, k5, k6⟩ := rv_nat h2 h4 ht
  rw [Int.toNat_natCast, Int.toNat_natCast]
  exact Go.Proofs.YtohkllmhknjkoaaDoor.AreaI.impl_area RS CS k1 k5 k3 k6 w
theorem cover_impl (bt : Bool) (xs : List (Int × Int)) (v : Value) (w : World) (hiv : RV w w.heap.size v xs) : Calls Tryd.prog 24 #[mat R C (str (rowsB E R C)), .int .i64 (bitI bt), v] w fun e w' => e = .returned (.bool (goodB E bt xs R C)) ∧ Below w.heap.size w w' := by
  have hbd := fun W => board_yes R C E h1 h2 h3 h4 hs hv W
  have z64 := pat64 (onB (fun x y => !E x y) R C) (onB_lt _ R C h4)
  have o64 := pat64 (onB E R C) (onB_lt _ R C h4)
  cases bt with
  | false =>
    rw [← cov_good E false (fun x y => !E x y) (fun x y => by cases E x y <;> rfl) R C h2 h4 xs (colR_zero E R C h2 h4)]
    have := impl_cover R C h1 h2 h4 _ _ _ z64 0 (.inl ⟨rfl, rfl⟩) _ _ _ hbd (fun RS CS k5 k6 W => plain0 R C _ _ z64 o64 RS CS k5 k6 W) xs v w hiv
    rw [← cover_eq E (fun x y => !E x y) 0 (fun x y => by cases E x y <;> rfl) R C h2 h4 xs (colR_zero E R C h2 h4)] at this
    exact this
  | true =>
    rw [← cov_good E true E (fun x y => by cases E x y <;> rfl) R C h2 h4 xs (colR_one E R C h2 h4)]
    have := impl_cover R C h1 h2 h4 _ _ _ o64 1 (.inr ⟨rfl, rfl⟩) _ _ _ hbd (fun RS CS k5 k6 W => plain1 R C _ _ z64 o64 RS CS k5 k6 W) xs v w hiv
    rw [← cover_eq E E 1 (fun x y => by cases E x y <;> rfl) R C h2 h4 xs (colR_one E R C h2 h4)] at this
    exact this
end
/-- both find one truth value, and where it is true there is a partition -/
theorem part2 (r c : Int) (s : ByteArray) (hs : s.size ≤ maxLen) (xs : List (Int × Int)) (hn : xs.length ≤ 1048576) : ∃ t : Bool,
    (∀ v w, RV w w.heap.size v xs → Calls Tryd.prog 32 #[mat r c s, v] w fun e w' => e = .returned (.bool t) ∧ Below w.heap.size w w') ∧
    (∀ v w, RV w w.heap.size v xs → Calls Tryd.prog 31 #[mat r c s, v] w fun e w' => e = .returned (.bool t) ∧ Below w.heap.size w w') ∧
    (t = false ∨ ∃ (R C : Nat) (E : Nat → Nat → Bool), r = R ∧ c = C ∧ s = str (rowsB E R C) ∧ 1 ≤ R ∧ R ≤ 8 ∧ 1 ≤ C ∧ C ≤ 8 ∧ validB R C (str (rowsB E R C)) = true ∧ Parts E R C xs) := by
  by_cases hv : validB r c s = true
  · obtain ⟨R, C, E, rfl, rfl, h1, h2, h3, h4, rfl⟩ := valid_form hv
    have hbd := fun W => board_yes R C E h1 h2 h3 h4 hs hv W
    have z64 := pat64 (onB (fun x y => !E x y) R C) (onB_lt _ R C h4)
    have o64 := pat64 (onB E R C) (onB_lt _ R C h4)
    have hcv : ∀ r c, 0 ≤ colR E R C r c → ∃ RS CS : Nat, r = (RS : Int) ∧ c = (CS : Int) ∧ 1 ≤ RS ∧ RS < 256 ∧ 1 ≤ CS ∧ CS < 256 := fun r c h => by
      obtain ⟨RS, CS, e1, e2, k1, k2, k3, k4, k5, k6⟩ := hp_any (E := E) h2 h4 ((col_plain E R C h2 h4 r c).1 h)
      exact ⟨RS, CS, e1, e2, k1, k5, k3, k6⟩
    refine ⟨partS (colR E R C) xs (R * C), fun v w hiv => ?_, fun v w hiv => ?_, ?_⟩
    · have := spec_part R C (R * C) (prod_le h2 h4) _ hs true hv (fun _ => wrap_prod R C h2 h4) _ (fun r c W => colR_any E R C h1 h2 h3 h4 hs hv r c W) hcv xs hn v w hiv
      rw [Bool.true_and] at this
      exact this
    · rw [part_eq E R C h1 h2 h4 xs]
      exact impl_part R C h2 h4 _ _ z64 o64 (.inl h1) _ _ _ hbd xs v w hiv
    · cases hp : partS (colR E R C) xs (R * C) with
      | false => exact .inl rfl
      | true => exact .inr ⟨R, C, E, rfl, rfl, rfl, h1, h2, h3, h4, hv, parts_of E R C h1 h2 h4 xs hp⟩
  · have hv' : validB r c s = false := by simpa using hv
    obtain ⟨t, q1, q2⟩ := fnExactIsPartition.both r c s hs xs
    have q3 := fun v w hiv => spec_part r c 0 (by omega) s hs false hv' (fun h => by cases h) (fun _ _ => -2) (fun x y W => by
      have h := spec_col r c s x y false 0 (fun W => spec_rv_no r c s hs hv' x y W) (fun h => by cases h) W
      rw [if_neg (by decide)] at h
      exact h) (fun _ _ h => absurd h (by decide)) xs hn v w hiv
    refine ⟨false, q3, fun v w hiv => ?_, .inl rfl⟩
    have h := impl_part 0 0 (by omega) (by omega) 0 0 (by omega) (by omega) (.inr ⟨rfl, rfl, rfl, rfl⟩) r c s (fun W => ?_) xs v w hiv
    · rw [show partI 0 0 0 0 xs = false from ?_] at h
      · exact h
      · unfold partI
        rw [decide_eq_false (show ¬ (1 ≤ 0) by omega), Bool.false_and, Bool.and_false]
    · have h := board_no r c s hs hv' W
      rw [show pat (onB (fun _ _ => true) 0 0) 8 = 0 from (pat_zero 8 _).2 fun x _ => by unfold onB; rw [if_neg (by omega)], show pat (onB (fun _ _ => false) 0 0) 8 = 0 from (pat_zero 8 _).2 fun x _ => by unfold onB; rw [if_neg (by omega)]] at h
      exact h

/-- what lies all the time: the matrix' box -/
structure LS (w1 : World) (a b : Int) (t : ByteArray) (r0 : Nat) (W : World) : Prop where
  box : W.heap[r0]? = some (.cells #[.int .i64 a, .int .i64 b, .string t] 26 (0, 0))
  below : Below w1.heap.size w1 W
theorem LS.later {w1 W W' : World} {a b : Int} {t : ByteArray} {r0 : Nat} (h : LS w1 a b t r0 W) (hb : Below W.heap.size W W') : LS w1 a b t r0 W' :=
  ⟨(hb.block _ (Array.getElem?_eq_some_iff.1 h.box).1).trans h.box, h.below.trans (hb.mono h.below.size)⟩
theorem LS.cells {w1 W : World} {a b : Int} {t : ByteArray} {r0 : Nat} (h : LS w1 a b t r0 W) : W.cell? ⟨r0, 0, none⟩ = some (.int .i64 a) ∧ W.cell? ⟨r0, 1, none⟩ = some (.int .i64 b) ∧ W.cell? ⟨r0, 2, none⟩ = some (.string t) :=
  ⟨cell_of_row _ _ 0 _ _ _ h.box, cell_of_row _ _ 1 _ _ _ h.box, cell_of_row _ _ 2 _ _ _ h.box⟩
/-- two lists of the law's own beside it -/
structure L2 (w1 : World) (a b : Int) (t : ByteArray) (r0 B : Nat) (v u : Value) (ys zs : List (Int × Int)) (W : World) : Prop where
  ls : LS w1 a b t r0 W
  one : W.ownsRow B 39 2 v ys.length (flat ys)
  two : W.ownsRow B 39 2 u zs.length (flat zs)
  apart : v.ownBlock ≠ u.ownBlock
  bs : B ≤ W.heap.size
theorem L2.later {w1 W W' : World} {a b : Int} {t : ByteArray} {r0 B : Nat} {v u : Value} {ys zs : List (Int × Int)} (h : L2 w1 a b t r0 B v u ys zs W) (hb : Below W.heap.size W W') (hB : 0 < B) : L2 w1 a b t r0 B v u ys zs W' :=
  ⟨h.ls.later hb, own_apt h.one (Apt.of_below (g := 0) hb) hB, own_apt h.two (Apt.of_below (g := 0) hb) hB, h.apart, Nat.le_trans h.bs hb.size⟩
theorem L2.swap {w1 W : World} {a b : Int} {t : ByteArray} {r0 B : Nat} {v u : Value} {ys zs : List (Int × Int)} (h : L2 w1 a b t r0 B v u ys zs W) : L2 w1 a b t r0 B u v zs ys W := ⟨h.ls, h.two, h.one, h.apart.symm, h.bs⟩
theorem L2.push {w1 W w7 : World} {a b : Int} {t : ByteArray} {r0 B : Nat} {v u v2 : Value} {ys zs : List (Int × Int)} {y z : Int} (h : L2 w1 a b t r0 B v u ys zs W) (hg : (W.alloc (.cells #[.int .i64 y, .int .i64 z] 39)).grownBy w7 v.ownBlock)
    (ho : w7.ownsRow B 39 2 v2 (ys.length + 1) (flat ys ++ [.int .i64 y, .int .i64 z])) (hw : v2.ownBlock = v.ownBlock ∨ v2.ownBlock = some (W.alloc (.cells #[.int .i64 y, .int .i64 z] 39)).heap.size) (hr : r0 < B) (h1 : w1.heap.size ≤ B) : L2 w1 a b t r0 B v2 u (ys ++ [(y, z)]) zs w7 := by
  have hal : Below W.heap.size W (W.alloc (.cells #[.int .i64 y, .int .i64 z] 39)) := (Below.refl _ _).alloc (Nat.le_refl _) _
  have h' := h.later hal (by omega)
  have hb : ∀ q, v.ownBlock = some q → B ≤ q := fun q hq => (h.one.lt q hq).1
  refine ⟨⟨(hg.block _ (Array.getElem?_eq_some_iff.1 h'.ls.box).1 (fun e => by have := hb _ e.symm; omega)).trans h'.ls.box, h'.ls.below.grown hg h'.ls.below.size (fun k hk => by have := hb k hk; omega)⟩, ?_, h'.two.kept hg ?_, ?_, Nat.le_trans h'.bs hg.size⟩
  · rw [List.length_append, flat_app]
    exact ho
  · cases hu : u.ownBlock with
    | none => exact .inl rfl
    | some k => exact .inr (by rw [← hu]; exact h.apart.symm)
  · rcases hw with e | e
    · rw [e]; exact h.apart
    · rw [e]
      intro e2
      have := (h.two.lt _ e2.symm).2
      simp at this
      omega
theorem take_filter {α : Type} (xs : List α) (p : α → Bool) (j : Nat) (h : j < xs.length) : (xs.take (j + 1)).filter p = (xs.take j).filter p ++ (if p xs[j] then [xs[j]] else []) := by
  rw [List.take_succ_eq_append_getElem h, List.filter_append]
  congr 1
  cases hp : p xs[j] <;> simp [hp]
theorem area_le (ys : List (Int × Int)) : areaL ys ≤ 64 * ys.length := by
  induction ys with
  | nil => exact Nat.le_refl _
  | cons r l ih =>
    have h := Nat.mul_le_mul (pop8_le r.1.toNat) (pop8_le r.2.toNat)
    have e : areaL (r :: l) = pop8 r.1.toNat * pop8 r.2.toNat + areaL l := by simp [areaL]
    rw [e, List.length_cons]
    generalize pop8 r.1.toNat * pop8 r.2.toNat = q at *
    omega
theorem area_push (ys : List (Int × Int)) (r : Int × Int) : areaL (ys ++ [r]) = areaL ys + pop8 r.1.toNat * pop8 r.2.toNat := by
  simp [areaL]

set_option maxHeartbeats 8000000 in
set_option maxRecDepth 100000 in
theorem walk (v : Value) (n : Nat) (w : World) (h : ByteArg w v n) :
    Calls Tryd.prog 8 #[v] w fun e w' => e = .returned (.bool true) ∧ Below w.heap.size w w' := by
  obtain ⟨i0, hi, hz0, hz1, hz2⟩ := info_parts infoK
  obtain ⟨hn0, a, c, rfl, hc, hb0⟩ := id h
  clear hb0
  have HD := Lib.hid (Go.Proofs.YtohkllmhknjkoaaDoor.DrawIP.draw_any _ n w h)
  clear h
  by_cases hbig : 1048576 < n
  · have hbi : (1048576 : Int) < (n : Int) := by omega
    go_enter Tryd.func8, Tryd.ntmps8
    go_wp2_with fail
    go_ret
    exact ⟨rfl, Below.refl _ _⟩
  · have hbi : ¬ (1048576 : Int) < (n : Int) := by omega
    go_enter Tryd.func8, Tryd.ntmps8
    go_wp2_with fail
    refine HD.out.mono ?_
    rintro e w1 ⟨ma, mb, mt, u, xs, rfl, wa, wb, ht, hl, hrv, hb⟩
    obtain ⟨p, k, rfl⟩ := hrv.slice
    have hts : mt.size ≤ maxLen := by unfold maxLen; omega
    obtain ⟨tv, hspec, himpl, hcase⟩ := part2 ma mb mt hts xs (by omega)
    have HB1 := Lib.hid hb
    have hbx : Below w1.heap.size w1 (w1.alloc (.cells #[.int .i64 ma, .int .i64 mb, .string mt] 26)) := (Below.refl _ _).alloc (Nat.le_refl _) _
    have HP1 : Hid (LS w1 ma mb mt w1.heap.size (w1.alloc (.cells #[.int .i64 ma, .int .i64 mb, .string mt] 26)) ∧ (w1.alloc (.cells #[.int .i64 ma, .int .i64 mb, .string mt] 26)).heap.size = w1.heap.size + 1) := ⟨⟨heap_alloc_new w1 _, hbx⟩, by simp⟩
    have HRV : Hid (∀ W, Below w1.heap.size w1 W → RV W W.heap.size (.slice p xs.length k) xs) := fun W hW => (hrv.later (Nat.le_refl _) hW).mono hW.size
    have HXJ : Hid (∀ j (hj : j < xs.length), ∃ b off, p = some ⟨b, off, none⟩ ∧ ∀ W, Below w1.heap.size w1 W → W.cell? ⟨b, off + j * 2, none⟩ = some (.int .i64 xs[j].1) ∧ W.cell? ⟨b, off + j * 2 + 1, none⟩ = some (.int .i64 xs[j].2)) := fun j hj => by
      rcases hrv.2 with ⟨-, h0⟩ | ⟨q, off, cc, e, hq, hcs⟩
      · rw [h0] at hj; exact absurd hj (by simp)
      injection e with e1 _ _
      exact ⟨q, off, e1, fun W hW => ⟨(hW.cell (p := ⟨q, off + j * 2, none⟩) hq).trans (hcs j hj).1, (hW.cell (p := ⟨q, off + j * 2 + 1, none⟩) hq).trans (hcs j hj).2⟩⟩
    have HI := Lib.hid himpl
    have HS := Lib.hid hspec
    have HCS := Lib.hid hcase
    clear hrv hb HD hbig hbi hbx himpl hspec hcase wa wb
    go_wp2_with fail
    obtain ⟨w2, hw2⟩ : ∃ w2, w1.alloc (.cells #[.int .i64 ma, .int .i64 mb, .string mt] 26) = w2 := ⟨_, rfl⟩
    rw [hw2] at HP1
    first | rw [hw2] | skip
    clear hw2
    obtain ⟨r0, hr0⟩ : ∃ r0, w1.heap.size = r0 := ⟨_, rfl⟩
    have HR0 := Lib.hid hr0
    rw [hr0] at HP1
    first | rw [hr0] | skip
    clear hr0
    have HP2 := Lib.hid HP1.out.1
    have hs2 := HP1.out.2
    clear HP1
    refine (HI.out _ _ (HRV.out _ HP2.out.below)).mono ?_
    rintro e w3 ⟨rfl, hb3⟩
    have HP3 := Lib.hid (HP2.out.later hb3)
    obtain ⟨d0, d1, d2⟩ := HP3.out.cells
    have hs3 := hb3.size
    clear hb3 HP2 HI
    go_wp2_with fail
    refine (HS.out _ _ (HRV.out _ HP3.out.below)).mono ?_
    rintro e w4 ⟨rfl, hb4⟩
    have HP4 := Lib.hid (HP3.out.later hb4)
    obtain ⟨d0, d1, d2⟩ := HP4.out.cells
    have hs4 := hb4.size
    clear hb4 HP3
    cases tv with
    | false =>
      go_wp2_with fail
      refine (HS.out _ _ (HRV.out _ HP4.out.below)).mono ?_
      rintro e w6 ⟨rfl, hb6⟩
      have HP6 := Lib.hid (HP4.out.later hb6)
      clear hb6 HP4 d0 d1 d2
      go_wp2_with fail
      go_ret
      exact ⟨by simp, HB1.out.trans (HP6.out.below.mono HB1.out.size)⟩
    | true =>
      obtain ⟨R, C, E, rfl, rfl, rfl, h1, h2, h3, h4, hv, hparts⟩ : ∃ (R C : Nat) (E : Nat → Nat → Bool), ma = R ∧ mb = C ∧ mt = str (rowsB E R C) ∧ 1 ≤ R ∧ R ≤ 8 ∧ 1 ≤ C ∧ C ≤ 8 ∧ validB R C (str (rowsB E R C)) = true ∧ Parts E R C xs := by
        rcases HCS.out with h | h
        · cases h
        · exact h
      have HCV := Lib.hid (fun bt ys v W hiv => cover_impl E R C h1 h2 h3 h4 hv hts bt ys v W hiv)
      have HCN := Lib.hid (fun W => count_yes E R C h1 h2 h3 h4 hv hts W)
      have HCO := Lib.hid (fun bt r c hh W => col_impl E R C h1 h2 h3 h4 hv hts bt r c hh W)
      have HAR := Lib.hid (fun bt r c hh W => area_impl E R C h1 h2 h3 h4 hv hts bt r c hh W)
      have HG1 := Lib.hid (part_good E true R C h2 h4 xs hparts)
      have HG0 := Lib.hid (part_good E false R C h2 h4 xs hparts)
      have HON : Hid (areaL (xs.filter fun r => colR E R C r.1 r.2 == bitI true) = onesN E R C) := part_ones E R C h2 h4 xs hparts
      have HPA := Lib.hid hparts.col
      obtain ⟨N1, hN1⟩ : ∃ N, onesN E R C = N := ⟨_, rfl⟩
      rw [hN1] at HON HCN
      clear hv hparts HCS HS hts hN1
      obtain ⟨s, hs⟩ : ∃ s, str (rowsB E R C) = s := ⟨_, rfl⟩
      rw [hs] at HP4 HCV HCN HCO d2
      first | rw [hs] | skip
      clear hs ht
      have HS2 : Hid (∃ W, (w4.alloc (.cells #[] 39)).alloc (.cells #[] 39) = W ∧ L2 w1 R C s r0 (r0 + 1) (.slice (some ⟨w4.heap.size, 0, none⟩) 0 0) (.slice (some ⟨w4.heap.size + 1, 0, none⟩) 0 0) [] [] W) := by
        have hb2 : Below w4.heap.size w4 ((w4.alloc (.cells #[] 39)).alloc (.cells #[] 39)) := ((Below.refl _ _).alloc (Nat.le_refl _) _).trans ((Below.refl _ _).alloc (by simp) _)
        have o1 := World.ownsRow_made w4 (base := r0 + 1) (e := 39) (size := 2) #[] 0 (by omega) (by decide) rfl
        have o2 := World.ownsRow_made (w4.alloc (.cells #[] 39)) (base := r0 + 1) (e := 39) (size := 2) #[] 0 (by simp; omega) (by decide) rfl
        rw [World.size_alloc] at o2
        exact ⟨_, rfl, HP4.out.later hb2, own_apt o1 (Apt.of_below (g := 0) ((Below.refl _ _).alloc (Nat.le_refl _) _)) (by omega), o2, by simp [Value.ownBlock], by simp; omega⟩
      clear HP4
      go_wp2_with fail
      clear d0 d1 d2
      obtain ⟨W5, hW5, HL0⟩ := HS2.out
      first | rw [hW5] | skip
      have HL := Lib.hid HL0
      clear hW5 HS2 HL0
      go_loopw [6, 7, 8, 9] (fun l m sm x wr => ∃ j : Nat, j ≤ xs.length ∧ sm = .int .i64 ((areaL ((xs.take j).filter fun r => colR E R C r.1 r.2 == bitI true) : Nat) : Int) ∧ x = .int .i64 (j : Int) ∧ Hid (L2 w1 R C s r0 (r0 + 1) l m ((xs.take j).filter fun r => colR E R C r.1 r.2 == bitI true) ((xs.take j).filter fun r => colR E R C r.1 r.2 == bitI false) wr)) (fun _ _ _ x _ => xs.length - (intOf x).toNat)
      case atStart => exact ⟨0, Nat.zero_le _, rfl, rfl, HL⟩
      case round =>
        obtain ⟨j, hj, rfl, rfl, HT⟩ := hrel
        clear HL
        obtain ⟨pa, ka, ha⟩ := own_slice HT.out.one
        subst ha
        obtain ⟨pb, kb, hb⟩ := own_slice HT.out.two
        subst hb
        by_cases hjt : j < xs.length
        · obtain ⟨b, off, rfl, hcs⟩ := HXJ.out j hjt
          have hn1 := take_filter xs (fun r => colR E R C r.1 r.2 == bitI true) j hjt
          have hn0 := take_filter xs (fun r => colR E R C r.1 r.2 == bitI false) j hjt
          have hly : ((xs.take j).filter fun r => colR E R C r.1 r.2 == bitI true).length ≤ 1000 := Nat.le_trans (List.length_filter_le _ _) (by rw [List.length_take]; omega)
          have hlz : ((xs.take j).filter fun r => colR E R C r.1 r.2 == bitI false).length ≤ 1000 := Nat.le_trans (List.length_filter_le _ _) (by rw [List.length_take]; omega)
          obtain ⟨bt, hbt⟩ : ∃ bt, colR E R C xs[j].1 xs[j].2 = bitI bt := by
            rcases HPA.out xs[j] (List.getElem_mem hjt) with h | h
            · exact ⟨false, h⟩
            · exact ⟨true, h⟩
          have hm1 : ((xs.take (j + 1)).filter fun r => colR E R C r.1 r.2 == bitI true) = ((xs.take j).filter fun r => colR E R C r.1 r.2 == bitI true) ++ (if bt then [xs[j]] else []) := by
            rw [hn1, hbt]; cases bt <;> rfl
          have hm0 : ((xs.take (j + 1)).filter fun r => colR E R C r.1 r.2 == bitI false) = ((xs.take j).filter fun r => colR E R C r.1 r.2 == bitI false) ++ (if bt then [] else [xs[j]]) := by
            rw [hn0, hbt]; cases bt <;> rfl
          obtain ⟨ys, hys⟩ : ∃ ys, ((xs.take j).filter fun r => colR E R C r.1 r.2 == bitI true) = ys := ⟨_, rfl⟩
          obtain ⟨zs, hzs⟩ : ∃ zs, ((xs.take j).filter fun r => colR E R C r.1 r.2 == bitI false) = zs := ⟨_, rfl⟩
          rw [hys] at hm1 hly HT
          rw [hzs] at hm0 hlz HT
          first | rw [hys] | skip
          first | rw [hzs] | skip
          obtain ⟨q, hq⟩ : ∃ q, xs[j] = q := ⟨_, rfl⟩
          rw [hq] at hm1 hm0 hbt
          have HCS : Hid (∀ W, Below w1.heap.size w1 W → W.cell? ⟨b, off + j * 2, none⟩ = some (.int .i64 q.1) ∧ W.cell? ⟨b, off + j * 2 + 1, none⟩ = some (.int .i64 q.2)) := by rw [← hq]; exact hcs
          obtain ⟨q0, q1⟩ := q
          have HM1 := Lib.hid hm1
          have HM0 := Lib.hid hm0
          have HQC := Lib.hid (fun W => HCO.out bt q0 q1 hbt W)
          have HQA := Lib.hid (fun W => HAR.out bt q0 q1 hbt W)
          have HAP := Lib.hid (area_push ys (q0, q1))
          have hal := area_le ys
          have har : pop8 q0.toNat * pop8 q1.toNat ≤ 64 := Nat.mul_le_mul (pop8_le q0.toNat) (pop8_le q1.toNat)
          obtain ⟨S0, hS0⟩ : ∃ z, areaL ys = z := ⟨_, rfl⟩
          obtain ⟨A0, hA0⟩ : ∃ z, pop8 q0.toNat * pop8 q1.toNat = z := ⟨_, rfl⟩
          rw [hS0] at hal
          rw [hA0] at har HQA
          have HAP2 : Hid (areaL (ys ++ [(q0, q1)]) = S0 + A0) := by rw [← hS0, ← hA0]; exact HAP.out
          first | rw [hS0] | skip
          have HS0 := Lib.hid hS0
          clear hcs hn1 hn0 hbt hq hm1 hm0 hys hzs hS0 hA0 HAP
          have HLS : Hid (∀ W, Below w1.heap.size w1 W → True) := fun _ _ => trivial
          cases bt
          all_goals
            go_wp2_with fail
            refine region_kept (C := fun wx => L2 w1 R C s r0 (r0 + 1) (.slice pa ys.length ka) (.slice pb zs.length kb) ys zs wx) (HT.out.later (drawn_at _ 1) (by omega)) (by kernel_rfl) (by kernel_rfl) ?_
            repeat
              (refine wq_step (fun K hK => ?_)
               go_simp
               first
                 | (refine hK _ ?_; clear hK K)
                 | (refine hK ?_; clear hK K)
                 | (apply Exists.intro
                    refine ⟨fun wx hC => ?_, hK _ ?_⟩
                    · first
                      | with_reducible rfl
                      | with_reducible exact (HQC.out wx).mono fun e w' hh => ⟨hh.1, hC.later hh.2 (by omega)⟩
                      | (obtain ⟨d0, d1, d2⟩ := hC.ls.cells; obtain ⟨c0, c1⟩ := HCS.out wx hC.ls.below; (try simp only at c0 c1); go_simp; first | done | rfl)
                    clear hK K))
            refine wq_nil ?_
            intro WA hC
            have HA : Hid (L2 w1 R C s r0 (r0 + 1) (.slice pa ys.length ka) (.slice pb zs.length kb) ys zs WA) := hC
            clear hC HT HQC
            go_simp
            have hbsA := HA.out.bs
            obtain ⟨c0, c1⟩ := HCS.out _ HA.out.ls.below
            try simp only at c0 c1
            have HAL : Hid (Below WA.heap.size WA (WA.alloc (.cells #[.int .i64 q0, .int .i64 q1] 39))) := (Below.refl _ _).alloc (Nat.le_refl _) _
            have hr1 : w1.heap.size ≤ r0 + 1 := by rw [HR0.out]; omega
          · go_wp2_with (at_builtin; refine wpList_append_all rfl (.tmp 64) (.tmp 69) 32 rfl (r0 + 1) 39 i0 (.agg #[.int .i64 0, .int .i64 0]) 2 16 Tryd.underlying32 hi hz0 hz1 hz2 rfl (by decide) _ _ _ rfl (own_apt HA.out.two (Apt.of_below (g := 0) HAL.out) (by omega)) ⟨WA.heap.size, 0, none⟩ 1 1 [.int .i64 q0, .int .i64 q1] rfl rfl ?k1 ?k2 ?k3 ?k4 ?k5 ?k6; go_must (case k1 => exact (two_new _ _ _ _)); go_must (case k2 => simp [Value.oneCell']); go_must (case k3 => unfold maxLen; omega); go_must (case k4 => omega); go_must (case k5 => simp; omega); go_must (intro v' w7 hown7 hgrow7 hwh7; have HN := Lib.hid (HA.out.swap.push hgrow7 hown7 hwh7 (by omega) hr1).swap; clear hown7 hgrow7 hwh7))
            clear HA HAL c0 c1
            first | (go_wp2_with fail) | skip
            go_roundw
            case rel => exact ⟨j + 1, by omega, by rw [HM1.out]; simp [HS0.out], by go_num, by rw [HM1.out, HM0.out]; simpa using HN⟩
            case measure => simp [intOf]; omega
          · go_wp2_with (at_builtin; refine wpList_append_all rfl (.tmp 50) (.tmp 55) 32 rfl (r0 + 1) 39 i0 (.agg #[.int .i64 0, .int .i64 0]) 2 16 Tryd.underlying32 hi hz0 hz1 hz2 rfl (by decide) _ _ _ rfl (own_apt HA.out.one (Apt.of_below (g := 0) HAL.out) (by omega)) ⟨WA.heap.size, 0, none⟩ 1 1 [.int .i64 q0, .int .i64 q1] rfl rfl ?m1 ?m2 ?m3 ?m4 ?m5 ?m6; go_must (case m1 => exact (two_new _ _ _ _)); go_must (case m2 => simp [Value.oneCell']); go_must (case m3 => unfold maxLen; omega); go_must (case m4 => omega); go_must (case m5 => simp; omega); go_must (intro v' w7 hown7 hgrow7 hwh7; have HN := Lib.hid (HA.out.push hgrow7 hown7 hwh7 (by omega) hr1); obtain ⟨c0, c1⟩ := HCS.out _ HN.out.ls.below; (try simp only at c0 c1); clear hown7 hgrow7 hwh7))
            clear HA HAL
            first | (go_wp2_with fail) | skip
            refine (HQA.out _).mono ?_
            rintro e w9 ⟨rfl, hb9⟩
            have HN2 := Lib.hid (HN.out.later hb9 (by omega))
            clear hb9 HN c0 c1 HQA
            go_wp2_with fail
            go_roundw
            case rel => exact ⟨j + 1, by omega, by rw [HM1.out]; simp [HAP2.out], by go_num, by rw [HM1.out, HM0.out]; simpa using HN2⟩
            case measure => simp [intOf]; omega
        · obtain rfl : j = xs.length := by omega
          rw [List.take_length] at HT
          rw [List.take_length]
          rw [HON.out]
          have hlA : (xs.filter fun r => colR E R C r.1 r.2 == bitI true).length ≤ 1048576 := Nat.le_trans (List.length_filter_le _ _) (by omega)
          have hlB : (xs.filter fun r => colR E R C r.1 r.2 == bitI false).length ≤ 1048576 := Nat.le_trans (List.length_filter_le _ _) (by omega)
          have HGA : Hid (∀ W v, RV W W.heap.size v (xs.filter fun r => colR E R C r.1 r.2 == bitI true) → Calls Tryd.prog 24 #[mat R C s, .int .i64 1, v] W fun e w' => e = .returned (.bool true) ∧ Below W.heap.size W w') := fun W v hv => by
            have := HCV.out true _ v W hv
            rw [HG1.out] at this
            exact this
          have HGB : Hid (∀ W v, RV W W.heap.size v (xs.filter fun r => colR E R C r.1 r.2 == bitI false) → Calls Tryd.prog 24 #[mat R C s, .int .i64 0, v] W fun e w' => e = .returned (.bool true) ∧ Below W.heap.size W w') := fun W v hv => by
            have := HCV.out false _ v W hv
            rw [HG0.out] at this
            exact this
          generalize (xs.filter fun r => colR E R C r.1 r.2 == bitI true) = ya at *
          generalize (xs.filter fun r => colR E R C r.1 r.2 == bitI false) = yb at *
          obtain ⟨d0, d1, d2⟩ := HT.out.ls.cells
          go_wp2_with fail
          refine (HGA.out _ _ (rv_own HT.out.one hlA)).mono ?_
          rintro e w20 ⟨rfl, hb20⟩
          have HT2 := Lib.hid (HT.out.later hb20 (by omega))
          obtain ⟨d0, d1, d2⟩ := HT2.out.ls.cells
          clear hb20 HT HGA
          go_wp2_with fail
          refine (HGB.out _ _ (rv_own HT2.out.two hlB)).mono ?_
          rintro e w21 ⟨rfl, hb21⟩
          have HT3 := Lib.hid (HT2.out.later hb21 (by omega))
          obtain ⟨d0, d1, d2⟩ := HT3.out.ls.cells
          clear hb21 HT2 HGB
          go_wp2_with fail
          refine (HCN.out _).mono ?_
          rintro e w22 ⟨rfl, hb22⟩
          have HT4 := Lib.hid (HT3.out.later hb22 (by omega))
          clear hb22 HT3 d0 d1 d2
          go_wp2_with fail
          go_ret
          exact ⟨by simp, HB1.out.trans (HT4.out.ls.below.mono HB1.out.size)⟩
end Go.Proofs.YtohkllmhknjkoaaDoor.fnIsPartition

