/-
  The walk of the drawn law on HeavyRect.
-/
import Derived.Test.YtgfhahlkffagaaaJ1
import Derived.Test.YtgfhahlkffagaaaHeavyWalk
import Derived.Test.YtgfhahlkffagaaaHvM
import Derived.Test.YtgfhahlkffagaaaJ3
import Derived.Test.YtgfhahlkffagaaaJ2
import Derived.Test.YtgfhahlkffagaaaMeet
namespace Go.Proofs.Ytgfhahlkffagaaa.fnHeavyRect
open Go.RowKit Go.Shelf Go.Proofs.Ytgfhahlkffagaaa.Plain Go.Proofs.Ytgfhahlkffagaaa.Tree Go.Proofs.Ytgfhahlkffagaaa.Rect Go.Proofs.Ytgfhahlkffagaaa.Read Go.Proofs.Ytgfhahlkffagaaa.Parts Go.Proofs.Ytgfhahlkffagaaa.TreeOf Go.Proofs.Ytgfhahlkffagaaa.TreeIn Go.Proofs.Ytgfhahlkffagaaa.TrimT Go.Proofs.Ytgfhahlkffagaaa.FreeL Go.Proofs.Ytgfhahlkffagaaa.Rd Go.Proofs.Ytgfhahlkffagaaa.Rd2 Go.Proofs.Ytgfhahlkffagaaa.Rd3 Go.Proofs.Ytgfhahlkffagaaa.DrawT Go.Proofs.Ytgfhahlkffagaaa.CutT Go.Proofs.Ytgfhahlkffagaaa.HvM Go.Proofs.Ytgfhahlkffagaaa.HvI Go.Proofs.Ytgfhahlkffagaaa.Leaf Go.Proofs.Ytgfhahlkffagaaa.DrawP5 Go.Proofs.Ytgfhahlkffagaaa.DrawB5 Go.Proofs.Ytgfhahlkffagaaa.Marks Go.Proofs.Ytgfhahlkffagaaa.SetW
open Go.Proofs.Ytgfhahlkffagaaa.Rects (RV)
open Go.Proofs.Ytgfhahlkffagaaa.NodeH (eval_get)
open Go.Proofs.Ytgfhahlkffagaaa.Meet (impl_meetC orZero)
open Go.Proofs.Ytgfhahlkffagaaa.TrimI (some_yes some_no)
open Go.Proofs.Ytgfhahlkffagaaa.Split (cells2 info_rect one_rect)
open Go.Proofs.Ytgfhahlkffagaaa.Free (fill wp_value wp_enter wp_load_row freeB wp_region_one get_of)
set_option linter.unusedVariables false
set_option linter.unusedSimpArgs false

theorem two_le (u : ByteArray) (h : u ∈ ([⟨#[65]⟩, ⟨#[66]⟩] : List ByteArray)) : u.size ≤ 1 := by
  simp only [List.mem_cons, List.not_mem_nil, or_false] at h
  rcases h with rfl | rfl <;> decide
theorem bit_le (u : ByteArray) (h : u ∈ ([⟨#[48]⟩, ⟨#[49]⟩] : List ByteArray)) : u.size ≤ 1 := by
  simp only [List.mem_cons, List.not_mem_nil, or_false] at h
  rcases h with rfl | rfl <;> decide
theorem pow_wrap (k : Nat) (h : k < 5) : wrap64 ((2 : Int) ^ k) = ((2 ^ k : Nat) : Int) ∧ 2 ^ k < 256 := by
  have e : ∀ j : Fin 5, wrap64 ((2 : Int) ^ j.1) = ((2 ^ j.1 : Nat) : Int) ∧ 2 ^ j.1 < 256 := by decide +kernel
  exact e ⟨k, h⟩

set_option maxHeartbeats 4000000 in
set_option maxRecDepth 100000 in
theorem draw_bal (v : Value) (n : Nat) (w : World) (h : ByteArg w v n) :
    Calls Try.prog 40 #[v] w fun e w' => ∃ (s : ByteArray) (r c : Int), e = .returned (.tuple #[.string s, .int .i64 r, .int .i64 c]) ∧ s.size ≤ 1000 ∧ (-1 ≤ r ∧ r ≤ 9223372036854775807) ∧ (-1 ≤ c ∧ c ≤ 9223372036854775807) ∧ Below w.heap.size w w' := by
  have HO := Lib.hid (open_any v n w h)
  have HD := Lib.hid (fun w1 (hb : Below w.heap.size w w1) => draw_mat5 v n w1 (h.later hb))
  clear h
  go_enter Try.func40, Try.ntmps40
  go_wp2_with fail
  refine HO.out.mono ?_
  rintro e w1 ⟨g, rfl, hr, hb, hg⟩
  have HB := Lib.hid hb
  have HG := Lib.hid hg
  have HR := Lib.hid hr
  have HM := Lib.hid (HD.out w1 hb)
  clear hr hb hg HO HD
  go_wp2_with fail
  refine HM.out.mono ?_
  rintro e w2 ⟨s, r, c, rfl, hs, hrr, hcc, hb2⟩
  have HB2 : Hid (Below w.heap.size w w2) := HB.out.trans (hb2.mono HB.out.size)
  have HP := Lib.hid (pick_r g 0 (by omega) 3 w2 (HR.out.later hb2))
  have HRC := Lib.hid (And.intro hrr hcc)
  clear hb2 HM HR HB hrr hcc
  go_wp2_with fail
  refine HP.out.mono ?_
  rintro e w3 ⟨q, rfl, ⟨hq0, -⟩, hq1, hr, ha⟩
  have HB3 : Hid (Below w.heap.size w w3) := ha.below HB2.out HG.out
  by_cases h0 : (0 : Int) < q
  · clear hr ha HP HB2 hq0 hq1
    go_wp2_with fail
    go_returns
    exact ⟨s, r, c, rfl, hs, HRC.out.1, HRC.out.2, HB3.out⟩
  · have HN := Lib.hid (of_lit g (0 + 1) (by omega) [⟨#[48]⟩, ⟨#[49]⟩] (by decide) (by decide) 2 w3 hr)
    clear hr ha HP HB2 hq0 hq1
    go_wp2_with fail
    refine HN.out.mono ?_
    rintro e w4 ⟨u, rfl, hu, hr, ha⟩
    have hu1 := bit_le u hu
    have HB4 : Hid (Below w.heap.size w w4) := ha.below HB3.out HG.out
    have HP2 := Lib.hid (pick_r g (0 + 1 + 1) (by omega) 5 w4 hr)
    clear hr ha hu HN HB3 h0
    go_wp2_with fail
    refine HP2.out.mono ?_
    rintro e w5 ⟨k0, rfl, ⟨hk0, -⟩, hk1, hr, ha⟩
    have HB5 : Hid (Below w.heap.size w w5) := ha.below HB4.out HG.out
    obtain ⟨k0, rfl⟩ := Int.eq_ofNat_of_zero_le hk0
    have hk5 : k0 < 5 := by omega
    have HR5 := Lib.hid hr
    clear hr ha HP2 HB4 hk0 hk1
    go_wp2_with fail
    go_loopw [9, 10] (fun x y wr => ∃ (z : ByteArray) (k p : Nat), x = .string z ∧ y = .int .i64 (k : Int) ∧ k ≤ 5 ∧ z.size + 4 * k ≤ 30 ∧ p + 3 * k ≤ 30 ∧ Hid (Rdr w.heap.size wr g p) ∧ Hid (Below w.heap.size w wr)) (fun _ y _ => (intOf y).toNat)
    case atStart => exact ⟨u, k0 + 1, _, rfl, by go_num, by omega, by omega, by omega, HR5.out, HB5.out⟩
    case round =>
      rename_i wr
      obtain ⟨z, k, p, rfl, rfl, hk, hz, hp, HR, HBr⟩ := hrel
      clear HR5 HB5
      by_cases hk0 : 0 < k
      · have hk0i : (0 : Int) < (k : Int) := by omega
        have HN := Lib.hid (of_lit g p (by omega) [⟨#[65]⟩, ⟨#[66]⟩] (by decide) (by decide) 2 wr HR.out)
        go_wp2_with fail
        refine HN.out.mono ?_
        rintro e w6 ⟨ua, rfl, hua, hr, ha⟩
        have hua1 := two_le ua hua
        have HB6 : Hid (Below w.heap.size w w6) := ha.below HBr.out HG.out
        have HP6 := Lib.hid (pick_r g (p + 1) (by omega) 5 w6 hr)
        clear hr ha hua HN HBr HR
        go_wp2_with fail
        refine HP6.out.mono ?_
        rintro e w7 ⟨j, rfl, ⟨hj0, -⟩, hj1, hr, ha⟩
        have HB7 : Hid (Below w.heap.size w w7) := ha.below HB6.out HG.out
        obtain ⟨j, rfl⟩ := Int.eq_ofNat_of_zero_le hj0
        obtain ⟨hpw, hp256⟩ := pow_wrap j (by omega)
        have HN7 := Lib.hid (of_lit g (p + 1 + 1) (by omega) [⟨#[48]⟩, ⟨#[49]⟩] (by decide) (by decide) 2 w7 hr)
        obtain ⟨M, hM⟩ : ∃ M : Nat, 2 ^ j = M := ⟨_, rfl⟩
        rw [hM] at hpw hp256
        clear hr ha HP6 HB6 hj0 hM
        have hj5 : j < 5 := by omega
        clear hj1
        go_wp2_with fail
        refine HN7.out.mono ?_
        rintro e w8 ⟨ub, rfl, hub, hr, ha⟩
        have hub1 := bit_le ub hub
        have HB8 : Hid (Below w.heap.size w w8) := ha.below HB7.out HG.out
        have HR8 := Lib.hid hr
        have HNo := Lib.hid (node_said ua z ub M hp256 (by omega) (by omega) (by omega) w8)
        obtain ⟨qn, hqn⟩ : ∃ q, ua ++ str [hexD (M / 16)] ++ str [hexD (M % 16)] ++ z ++ ub = q := ⟨_, rfl⟩
        have hqs : qn.size ≤ z.size + 4 := by
          rw [← hqn]
          simp only [ByteArray.size_append, str_size, List.length_singleton]
          omega
        rw [hqn] at HNo
        clear hr ha hub HN7 HB7 hqn
        go_wp2_with fail
        refine HNo.out.mono ?_
        rintro e w9 ⟨rfl, hb9⟩
        have HB9 : Hid (Below w.heap.size w w9) := HB8.out.trans (hb9.mono HB8.out.size)
        have HR9 := Lib.hid (HR8.out.later hb9)
        clear hb9 HNo HB8 HR8
        have hkm : (k : Int) - 1 = ((k - 1 : Nat) : Int) := by omega
        have HKM := Lib.hid hkm
        clear hkm
        go_wp2_with fail
        go_roundw
        case rel => exact ⟨qn, k - 1, p + 1 + 1 + 1, rfl, by rw [HKM.out], by omega, by omega, by omega, HR9.out, HB9.out⟩
        case measure => simp [intOf]; omega
      · obtain hk00 : k = 0 := by omega
        subst hk00
        go_wp2_with fail
        go_returns
        exact ⟨z, 5, 5, rfl, by omega, by omega, by omega, HBr.out⟩

set_option maxHeartbeats 1000000 in
theorem draw_hv (v : Value) (n : Nat) (w : World) (h : ByteArg w v n) :
    Calls Try.prog 19 #[v] w fun e w' => ∃ (s : ByteArray) (r c : Int), e = .returned (.tuple #[.string s, .int .i64 r, .int .i64 c]) ∧ s.size ≤ 1000 ∧ (-1 ≤ r ∧ r ≤ 9223372036854775807) ∧ (-1 ≤ c ∧ c ≤ 9223372036854775807) ∧ Below w.heap.size w w' := by
  have HD := Lib.hid (draw_bal v n w h)
  clear h
  go_enter Try.func19, Try.ntmps19
  go_wp2_with fail
  refine HD.out.mono ?_
  rintro e w1 ⟨s, r, c, rfl, hs, hr, hc, hb⟩
  have HB := Lib.hid hb
  clear hb HD
  go_wp2_with fail
  go_returns
  exact ⟨s, r, c, rfl, hs, hr, hc, HB.out⟩

/-- what both answer -/
theorem cases (s : ByteArray) (hs : s.size ≤ 1048576) (r c : Int) :
    (∃ A B : Int, (∀ w, Calls Try.prog 7 #[.string s, .int .i64 r, .int .i64 c] w fun e w' => e = .returned (.tuple #[rect A B, .bool false]) ∧ Below w.heap.size w w') ∧
      (∀ w, Calls Try.prog 8 #[.string s, .int .i64 r, .int .i64 c] w fun e w' => e = .returned (.tuple #[rect A B, .bool false]) ∧ Below w.heap.size w w')) ∨
    (∃ (t : T) (r' c' : Nat), r = (r' : Int) ∧ c = (c' : Int) ∧ wf t ∧ s.data.toList = text t ∧ s.size ≤ 2000 ∧ (1 ≤ r' ∧ r' ≤ 8) ∧ (1 ≤ c' ∧ c' ≤ 8) ∧ 2 ≤ ends (trimT t (allN r') (allN c')) ∧
      (∀ w, Calls Try.prog 7 #[.string s, .int .i64 r, .int .i64 c] w fun e w' => e = .returned (.tuple #[rect (cutT (ends (trimT t (allN r') (allN c'))) (trimT t (allN r') (allN c')) (allN r') (allN c')).rows (cutT (ends (trimT t (allN r') (allN c'))) (trimT t (allN r') (allN c')) (allN r') (allN c')).cols, .bool true]) ∧ Below w.heap.size w w') ∧
      (∀ w, Calls Try.prog 8 #[.string s, .int .i64 r, .int .i64 c] w fun e w' => e = .returned (.tuple #[rect (cutT (ends (trimT t (allN r') (allN c'))) (trimT t (allN r') (allN c')) (allN r') (allN c')).rows (cutT (ends (trimT t (allN r') (allN c'))) (trimT t (allN r') (allN c')) (allN r') (allN c')).cols, .bool true]) ∧ Below w.heap.size w w')) := by
  have hz : ∀ (A B : Int) (b : Bool), b = false → True := fun _ _ _ _ => trivial
  by_cases hsd : Sides r c
  · obtain ⟨⟨r1, r2⟩, c1, c2⟩ := hsd
    obtain ⟨r', rfl⟩ : ∃ r' : Nat, r = (r' : Int) := ⟨r.toNat, by omega⟩
    obtain ⟨c', rfl⟩ : ∃ c' : Nat, c = (c' : Int) := ⟨c.toNat, by omega⟩
    have hr : 1 ≤ r' ∧ r' ≤ 8 := by omega
    have hc : 1 ≤ c' ∧ c' ≤ 8 := by omega
    obtain ⟨_, p2, p3⟩ := pow_facts r' hr
    obtain ⟨_, q2, q3⟩ := pow_facts c' hc
    rcases ok_or s with ⟨t, h1, h2, h3⟩ | h
    · have hl : (text (trimT t (allN r') (allN c'))).length ≤ 2000 := by
        have e1 := trim_length t (allN r') (allN c')
        have e2 : (text t).length = s.size := by rw [← h2]; simp
        omega
      have hS := fnExactHeavyRect.spec_some s r' c' hr hc _ (trim_wf t _ _ p3 q3 h1) hl (fnExactTrimProtocol.spec_yes s t h1 h2 h3 r' c' hr hc)
      have hI := heavy_some s r' c' _ hl _ _ p3 q3 (trimmed_yes s t h1 h2 h3 r' c' hr hc)
      unfold heavyV at hS hI
      by_cases he : ends (trimT t (allN r') (allN c')) < 2
      · rw [if_pos he] at hS hI
        exact .inl ⟨0, 0, hS, hI⟩
      · rw [if_neg he] at hS hI
        exact .inr ⟨t, r', c', rfl, rfl, h1, h2, h3, hr, hc, by omega, hS, hI⟩
    · exact .inl ⟨0, 0, fnExactHeavyRect.spec_nil s r' c' _ (fnExactTrimProtocol.spec_no s h hs r' c'), heavy_nil s r' c' 0 0 (trimmed_nil s r' c' _ _ (in_yes s .nilIface (tree_no s h hs) r' c' hr hc))⟩
  · have hi := heavy_nil s r c 0 0 (trimmed_nil s r c 0 0 (fun W => in_bad s r c hsd W))
    rcases ok_or s with ⟨t, h1, h2, h3⟩ | h
    · exact .inl ⟨0, 0, fnExactHeavyRect.spec_nil s r c _ (fnExactTrimProtocol.spec_bad s true (valid_said s t h1 h2 h3) r c hsd), hi⟩
    · exact .inl ⟨0, 0, fnExactHeavyRect.spec_nil s r c _ (fnExactTrimProtocol.spec_bad s false (valid_no s h hs) r c hsd), hi⟩

def pairs (l : List (Nat × Nat × Bool)) : List (Int × Int) := l.map fun p => ((p.1 : Int), (p.2.1 : Int))
theorem flat_pairs (l : List (Nat × Nat × Bool)) : flat (pairs l) = cellsR l := by
  simp only [flat, pairs, cellsR, List.flatMap_map]
theorem pairs_len (l : List (Nat × Nat × Bool)) : (pairs l).length = l.length := by simp [pairs]
theorem rv_on {w w1 : World} {v : Value} {xs : List (Int × Int)} (h : RV w w.heap.size v xs) (hb : Below w.heap.size w w1) : RV w1 w1.heap.size v xs := (h.later (Nat.le_refl _) hb).mono hb.size
/-- the law's blocks: the rectangle of the part, and the list of the ends' rectangles -/
structure Lp (w wr : World) (D x y : Nat) (v : Value) (xs : List (Int × Int)) : Prop where
  part : wr.heap[D]? = some (.cells #[.int .i64 (x : Int), .int .i64 (y : Int)] 23 (0, 0))
  list : RV wr wr.heap.size v xs
  below : Below w.heap.size w wr
theorem Lp.later {w wr w2 : World} {D x y : Nat} {v : Value} {xs : List (Int × Int)} (h : Lp w wr D x y v xs) (hb : Below wr.heap.size wr w2) : Lp w w2 D x y v xs :=
  ⟨(hb.block _ (Array.getElem?_eq_some_iff.1 h.part).1).trans h.part, rv_on h.list hb, h.below.trans (hb.mono h.below.size)⟩
/-- what two rectangles have in common -/
theorem meet_two (p1 p2 x y : Nat) (h : (1 ≤ p1 ∧ p1 < 256) ∧ (1 ≤ p2 ∧ p2 < 256)) (k : (1 ≤ x ∧ x < 256) ∧ (1 ≤ y ∧ y < 256)) (b : Bool) (hh : (!(meetN p1 x == 0) && !(meetN p2 y == 0)) = b) (w : World) :
    Calls Try.prog 21 #[rect p1 p2, rect x y] w fun e w' => e = .returned (.tuple #[if b then rect (meetN p1 x) (meetN p2 y) else rect 0 0, .bool b]) ∧ Below w.heap.size w w' := by
  have hm := impl_meetC p1 p2 x y (some_yes h.1.1 h.1.2 h.2.1 h.2.2) (some_yes k.1.1 k.1.2 k.2.1 k.2.2) w
  rw [bit_and p1 x h.1.2, bit_and p2 y h.2.2] at hm
  have l1 := meet_le p1 x h.1.2
  have l2 := meet_le p2 y h.2.2
  have hs : someB (meetN p1 x : Int) (meetN p2 y : Int) = b := by
    rw [← hh]
    by_cases z1 : meetN p1 x = 0
    · rw [some_no (.inl z1), z1]; rfl
    · by_cases z2 : meetN p2 y = 0
      · rw [some_no (.inr z2), z2]; simp
      · rw [some_yes (by omega) (by omega) (by omega) (by omega), beq_false_of_ne z1, beq_false_of_ne z2]; rfl
  unfold orZero at hm
  rw [hs] at hm
  exact hm

set_option maxHeartbeats 8000000 in
set_option maxRecDepth 100000 in
theorem walk (v : Value) (n : Nat) (w : World) (h : ByteArg w v n) :
    Calls Try.prog 6 #[v] w fun e w' => e = .returned (.bool true) ∧ Below w.heap.size w w' := by
  obtain ⟨hn0, a, cap, rfl, hc, hb0⟩ := id h
  clear hb0
  have HD := Lib.hid (draw_hv _ n w h)
  clear h
  by_cases hbig : 1048576 < n
  · have hbi : (1048576 : Int) < (n : Int) := by omega
    go_enter Try.func6, Try.ntmps6
    go_wp2_with fail
    go_ret
    exact ⟨rfl, Below.refl _ _⟩
  have hbi : ¬ (1048576 : Int) < (n : Int) := by omega
  go_enter Try.func6, Try.ntmps6
  go_wp2_with fail
  refine HD.out.mono ?_
  rintro e w1 ⟨s, r, c, rfl, hs, hrr, hcc, hb⟩
  have HB1 := Lib.hid hb
  clear HD hbig hbi hb
  rcases cases s (by omega) r c with ⟨A, B, hS, hI⟩ | ⟨t, r', c', rfl, rfl, hw, ht, h2, hr, hc', he, hS, hI⟩
  · have HS := Lib.hid hS
    have HI := Lib.hid hI
    clear hS hI
    go_wp2_with fail
    refine (HI.out _).mono ?_
    rintro e w2 ⟨rfl, hb2⟩
    obtain ⟨D, hD⟩ : ∃ D, w2.heap.size = D := ⟨_, rfl⟩
    have HB2 : Hid (Below w.heap.size w w2) := HB1.out.trans (hb2.mono HB1.out.size)
    have n1 := heap_alloc_new w2 (.cells #[.int .i64 A, .int .i64 B] 23)
    rw [hD] at n1
    have HB3 := Lib.hid (HB2.out.alloc HB2.out.size (.cells #[.int .i64 A, .int .i64 B] 23))
    have HN1 := Lib.hid n1
    clear hb2 n1 HB1 HB2 HI
    go_wp2_with fail
    generalize w2.alloc (.cells #[.int .i64 A, .int .i64 B] 23) = w3 at *
    refine (HS.out _).mono ?_
    rintro e w4 ⟨rfl, hb4⟩
    obtain ⟨F, hF⟩ : ∃ F, w4.heap.size = F := ⟨_, rfl⟩
    have k1 := (hb4.block _ (Array.getElem?_eq_some_iff.1 HN1.out).1).trans HN1.out
    have hlt : D < w4.heap.size := (Array.getElem?_eq_some_iff.1 k1).1
    have k2 := (heap_alloc_old w4 (.cells #[.int .i64 A, .int .i64 B] 23) hlt).trans k1
    have n2 := heap_alloc_new w4 (.cells #[.int .i64 A, .int .i64 B] 23)
    rw [hF] at n2 hlt
    have HB5 : Hid (Below w.heap.size w w4) := HB3.out.trans (hb4.mono HB3.out.size)
    have HB6 := Lib.hid (HB5.out.alloc HB5.out.size (.cells #[.int .i64 A, .int .i64 B] 23))
    obtain ⟨m0, m1, _, _⟩ := cells2 k2
    obtain ⟨f0, f1, _, _⟩ := cells2 n2
    have hne : D ≠ F := by omega
    clear hb4 k1 k2 n2 hlt HN1 HB3 HB5 hD HS
    go_wp2_with fail
    go_ret
    exact ⟨rfl, HB6.out⟩
  obtain ⟨_, p2, p3⟩ := pow_facts r' hr
  obtain ⟨_, q2, q3⟩ := pow_facts c' hc'
  have hbelow := cut_rect (ends (trimT t (allN r') (allN c'))) (trimT t (allN r') (allN c')) _ _ p3 q3 p2 q2 (trim_tight t _ _ p3 q3 p2 q2)
  obtain ⟨hv1, hv2, hv3⟩ := heavy t _ _ p3 q3 p2 q2 he
  have hIn := leaf_in t _ _ p3 q3
  have hlen : (leavesT t (allN r') (allN c')).length ≤ 1000 := by
    have e0 := leaves_length t (allN r') (allN c')
    have e2 : (text t).length = s.size := by rw [← ht]; simp
    omega
  have HLR := Lib.hid (Go.Proofs.Ytgfhahlkffagaaa.LeafRectsI.impl_yes s t hw ht h2 r' c' hr hc')
  obtain ⟨g1, g2, g3, g4, -, -, -, -⟩ := hbelow
  generalize leavesT t (allN r') (allN c') = LV at *
  generalize cutT (ends (trimT t (allN r') (allN c'))) (trimT t (allN r') (allN c')) (allN r') (allN c') = cu at *
  obtain ⟨pa, ra, ca, xa⟩ := cu
  simp only at hS hI hv1 hv2 hv3 g1 g2 g3 g4
  have HS := Lib.hid hS
  have HI := Lib.hid hI
  have HV := Lib.hid (And.intro hv1 (And.intro hv2 hv3))
  have HIn := Lib.hid hIn
  have HG := Lib.hid (And.intro (And.intro g3 g1) (And.intro g4 g2))
  have HLEN := Lib.hid hlen
  clear hS hI hv1 hv2 hv3 hIn g1 g2 g3 g4 he hw ht h2 hr hc' p2 p3 q2 q3 hlen
  go_wp2_with fail
  refine (HI.out _).mono ?_
  rintro e w2 ⟨rfl, hb2⟩
  obtain ⟨D, hD⟩ : ∃ D, w2.heap.size = D := ⟨_, rfl⟩
  have HB2 : Hid (Below w.heap.size w w2) := HB1.out.trans (hb2.mono HB1.out.size)
  have n1 := heap_alloc_new w2 (.cells #[.int .i64 (ra : Int), .int .i64 (ca : Int)] 23)
  rw [hD] at n1
  have HB3 := Lib.hid (HB2.out.alloc HB2.out.size (.cells #[.int .i64 (ra : Int), .int .i64 (ca : Int)] 23))
  have HN1 := Lib.hid n1
  clear hb2 n1 HB1 HB2 HI
  go_wp2_with fail
  generalize w2.alloc (.cells #[.int .i64 (ra : Int), .int .i64 (ca : Int)] 23) = w3 at *
  refine (HS.out _).mono ?_
  rintro e w4 ⟨rfl, hb4⟩
  obtain ⟨F, hF⟩ : ∃ F, w4.heap.size = F := ⟨_, rfl⟩
  have k1 := (hb4.block _ (Array.getElem?_eq_some_iff.1 HN1.out).1).trans HN1.out
  have hlt : D < w4.heap.size := (Array.getElem?_eq_some_iff.1 k1).1
  have k2 := (heap_alloc_old w4 (.cells #[.int .i64 (ra : Int), .int .i64 (ca : Int)] 23) hlt).trans k1
  have n2 := heap_alloc_new w4 (.cells #[.int .i64 (ra : Int), .int .i64 (ca : Int)] 23)
  rw [hF] at n2 hlt
  have HB5 : Hid (Below w.heap.size w w4) := HB3.out.trans (hb4.mono HB3.out.size)
  have HB6 := Lib.hid (HB5.out.alloc HB5.out.size (.cells #[.int .i64 (ra : Int), .int .i64 (ca : Int)] 23))
  have HK2 := Lib.hid k2
  obtain ⟨m0, m1, _, _⟩ := cells2 k2
  obtain ⟨f0, f1, _, _⟩ := cells2 n2
  have hne : D ≠ F := by omega
  clear hb4 k1 k2 n2 hlt HN1 HB3 HB5 hD HS
  go_wp2_with fail
  generalize w4.alloc (.cells #[.int .i64 (ra : Int), .int .i64 (ca : Int)] 23) = w5 at *
  refine (HLR.out _).mono ?_
  rintro e w6 ⟨v, rfl, hO⟩
  have hrow := hO.row
  rw [← flat_pairs, ← pairs_len] at hrow
  have HLP : Hid (Lp w w6 D ra ca v (pairs LV)) := ⟨(hO.below.block _ (Array.getElem?_eq_some_iff.1 HK2.out).1).trans HK2.out, rv_own hrow (by rw [pairs_len]; exact HLEN.out), HB6.out.trans (hO.below.mono HB6.out.size)⟩
  obtain ⟨pv, cv, hvv⟩ := HLP.out.list.slice
  rw [pairs_len] at hvv
  subst hvv
  obtain ⟨L, hL⟩ : ∃ L, LV.length = L := ⟨_, rfl⟩
  rw [hL] at HLP ⊢
  have hL1 : L ≤ 1000 := by have := HLEN.out; omega
  have HHL := Lib.hid hL
  clear hO hrow HK2 HB6 HLR m0 m1 f0 f1 hne hF hL
  go_wp2_with fail
  go_loopw [11, 12] (fun x y wr => ∃ k q : Nat, k ≤ L ∧ q ≤ k ∧ y = .int .i64 (k : Int) ∧ x = .int .i64 (q : Int) ∧ Hid (q = (LV.take k).countP (hits ra ca)) ∧ Hid (Lp w wr D ra ca (.slice pv L cv) (pairs LV))) (fun _ y _ => L - (intOf y).toNat)
  case atStart => exact ⟨0, 0, Nat.zero_le _, Nat.le_refl _, rfl, rfl, rfl, HLP.out⟩
  case round =>
    rename_i wr
    obtain ⟨k, q, hk, hq, rfl, rfl, hn, HE⟩ := hrel
    clear HLP
    by_cases hkL : k < L
    · have hkl : k < LV.length := by have := HHL.out; omega
      obtain ⟨gin, -, -⟩ := HIn.out LV[k] (List.getElem_mem hkl)
      have hhit := HV.out.1 LV[k] (List.getElem_mem hkl)
      have hcnt : (LV.take (k + 1)).countP (hits ra ca) = (LV.take k).countP (hits ra ca) + (if hits ra ca LV[k] then 1 else 0) := by
        rw [List.take_succ_eq_append_getElem hkl, List.countP_append]
        simp [List.countP_cons]
      obtain ⟨b, off, cc, hbv, hbl, hcell⟩ : ∃ b off cc, (Value.slice pv L cv) = .slice (some ⟨b, off, none⟩) L cc ∧ b < wr.heap.size ∧ (∀ j (hj : j < (pairs LV).length), wr.cell? ⟨b, off + j * 2, none⟩ = some (.int .i64 (pairs LV)[j].1) ∧ wr.cell? ⟨b, off + j * 2 + 1, none⟩ = some (.int .i64 (pairs LV)[j].2)) := by
        rcases HE.out.list.2 with ⟨_, h0⟩ | ⟨b, off, cc, h1, h2, h3⟩
        · have := congrArg List.length h0
          rw [pairs_len] at this
          simp at this
          simp [this] at hkl
        · rw [pairs_len, HHL.out] at h1
          exact ⟨b, off, cc, h1, h2, h3⟩
      have hck := hcell k (by rw [pairs_len]; exact hkl)
      have hpk : (pairs LV)[k]'(by rw [pairs_len]; exact hkl) = ((LV[k].1 : Int), (LV[k].2.1 : Int)) := by simp [pairs]
      rw [hpk] at hck
      injection hbv with hbv1 _ hbv3
      subst hbv1 hbv3
      generalize LV[k] = p at *
      obtain ⟨x1, x2, bv⟩ := p
      simp only at hck gin hhit hcnt
      have HC := Lib.hid hck
      have HBL := Lib.hid hbl
      have hkLi : (k : Int) < (L : Int) := by omega
      have HCN := Lib.hid hcnt
      have hm := meet_two x1 x2 ra ca ⟨⟨gin.1, gin.2.1⟩, gin.2.2.1, gin.2.2.2⟩ HG.out
      clear hck hbl hcnt hcell hkl gin hpk
      by_cases hh : hits ra ca (x1, x2, bv) = true
      · have hm2 := hm true (by unfold hits at hh; exact hh)
        rw [if_pos rfl, (hhit hh).1, (hhit hh).2] at hm2
        have HM := Lib.hid hm2
        have HQ : Hid (q + 1 = (LV.take (k + 1)).countP (hits ra ca)) := by
          show _ = _
          rw [HCN.out, if_pos hh, ← hn.out]
        clear hm hm2 hhit hh
        go_wp2_with fail
        refine wp_region_one (fun | 0 => .slice (some ⟨b, off, none⟩) L cv | 1 => .int .i64 (k : Int) | 2 => .pointer (some ⟨b, off + k * 2, none⟩) | 3 => rect x1 x2 | 4 => rect ra ca | 5 => .tuple #[rect x1 x2, .bool true] | 6 => .tuple #[rect x1 x2, .bool true] | 7 => rect x1 x2 | 8 => .bool true | 11 => .bool true | _ => undef) 9 10 13 23 #[.int .i64 0, .int .i64 0] #[.int .i64 (x1 : Int), .int .i64 (x2 : Int)] _ _ (by kernel_rfl) (by kernel_rfl) rfl rfl rfl rfl rfl (by decide) ⟨⟨9, .data⟩, (by simp), rfl, rfl⟩ rfl ?alH ?stH ?conH ?enH
        case alH =>
          intro a w
          unfold execOp
          go_simp
        case stH =>
          intro a wx b old hf hp hg hsz
          have e75 : a.tmps[75]?.getD undef = rect x1 x2 := get_of (hf.1 ⟨7, .data⟩ (by simp) rfl _ 75 rfl rfl (by decide) (by decide))
          refine wp_store_row 23 (.tmp 13) (.tmp 75) rfl b #[.int .i64 (x1 : Int), .int .i64 (x2 : Int)] hp (eval_get e75) 23 old hg (info_rect _ _) hsz (one_rect _ _) ⟨rfl, rfl⟩
        case conH =>
          intro i o ho n1 n2 a wx hb hf
          match i, ho with
          | 0, ho =>
            obtain rfl := Option.some.inj ho
            have b10 : a.tmps[10]?.getD undef = .slice (some ⟨b, off, none⟩) L cv := get_of (hf.2 10 (by kernel_rfl))
            exact wp_value (.slice (some ⟨b, off, none⟩) L cv) (by unfold execOp; go_simp) ⟨rfl, Below.refl _ _⟩
          | 1, ho =>
            obtain rfl := Option.some.inj ho
            have b12 : a.tmps[12]?.getD undef = .int .i64 (k : Int) := get_of (hf.2 12 (by kernel_rfl))
            exact wp_value (.int .i64 (k : Int)) (by unfold execOp; go_simp) ⟨rfl, Below.refl _ _⟩
          | 2, ho =>
            obtain rfl := Option.some.inj ho
            have e69 : a.tmps[69]?.getD undef = .slice (some ⟨b, off, none⟩) L cv := get_of (hf.1 ⟨0, .data⟩ (by simp) rfl _ 69 rfl rfl (by decide) (by decide))
            have e70 : a.tmps[70]?.getD undef = .int .i64 (k : Int) := get_of (hf.1 ⟨1, .data⟩ (by simp) rfl _ 70 rfl rfl (by decide) (by decide))
            exact wp_value (.pointer (some ⟨b, off + k * 2, none⟩)) (by unfold execOp; go_simp; first | done | simp) ⟨rfl, Below.refl _ _⟩
          | 3, ho =>
            obtain rfl := Option.some.inj ho
            have e71 : a.tmps[71]?.getD undef = .pointer (some ⟨b, off + k * 2, none⟩) := get_of (hf.1 ⟨2, .data⟩ (by simp) rfl _ 71 rfl rfl (by decide) (by decide))
            have c0 := (hb.cell (p := ⟨b, off + k * 2, none⟩) HBL.out).trans HC.out.1
            have c1 := (hb.cell (p := ⟨b, off + k * 2 + 1, none⟩) HBL.out).trans HC.out.2
            exact wp_value (rect x1 x2) (by unfold execOp; go_simp) ⟨rfl, Below.refl _ _⟩
          | 4, ho =>
            obtain rfl := Option.some.inj ho
            have b6 : a.tmps[6]?.getD undef = .pointer (some ⟨D, 0, none⟩) := get_of (hf.2 6 (by kernel_rfl))
            exact wp_load_row 23 (.tmp 6) rfl D (eval_get b6) 23 _ (0, 0) _ ((HE.out.later hb).part) Try.underlying23 rfl (info_rect _ _) ⟨rfl, Below.refl _ _⟩
          | 5, ho =>
            obtain rfl := Option.some.inj ho
            have e72 : a.tmps[72]?.getD undef = rect x1 x2 := get_of (hf.1 ⟨3, .data⟩ (by simp) rfl _ 72 rfl rfl (by decide) (by decide))
            have e73 : a.tmps[73]?.getD undef = rect ra ca := get_of (hf.1 ⟨4, .data⟩ (by simp) rfl _ 73 rfl rfl (by decide) (by decide))
            exact wp_enter 21 #[rect x1 x2, rect ra ca] (.tuple #[rect x1 x2, .bool true]) _ (by unfold execOp; go_simp) (HM.out wx) (fun w' h => ⟨rfl, h⟩)
          | 6, ho =>
            obtain rfl := Option.some.inj ho
            have e74 : a.tmps[74]?.getD undef = .tuple #[rect x1 x2, .bool true] := get_of (hf.1 ⟨5, .data⟩ (by simp) rfl _ 74 rfl rfl (by decide) (by decide))
            exact wp_value (.tuple #[rect x1 x2, .bool true]) (by unfold execOp; go_simp) ⟨rfl, Below.refl _ _⟩
          | 7, ho =>
            obtain rfl := Option.some.inj ho
            have e68 : a.tmps[68]?.getD undef = .tuple #[rect x1 x2, .bool true] := get_of (hf.1 ⟨6, .data⟩ (by simp) rfl _ 68 rfl rfl (by decide) (by decide))
            exact wp_value (rect x1 x2) (by unfold execOp; go_simp) ⟨rfl, Below.refl _ _⟩
          | 8, ho =>
            obtain rfl := Option.some.inj ho
            have e68 : a.tmps[68]?.getD undef = .tuple #[rect x1 x2, .bool true] := get_of (hf.1 ⟨6, .data⟩ (by simp) rfl _ 68 rfl rfl (by decide) (by decide))
            exact wp_value (.bool true) (by unfold execOp; go_simp) ⟨rfl, Below.refl _ _⟩
          | 9, ho => exact absurd rfl n1
          | 10, ho => exact absurd rfl n2
          | 11, ho =>
            obtain rfl := Option.some.inj ho
            have e76 : a.tmps[76]?.getD undef = .bool true := get_of (hf.1 ⟨8, .data⟩ (by simp) rfl _ 76 rfl rfl (by decide) (by decide))
            exact wp_value (.bool true) (by unfold execOp; go_simp) ⟨rfl, Below.refl _ _⟩
          | q + 12, ho => simp at ho
        case enH =>
          intro G w7 hb7 hle hcell7
          have HE7 := Lib.hid (HE.out.later hb7)
          have c0 := (hb7.cell (p := ⟨b, off + k * 2, none⟩) HBL.out).trans HC.out.1
          have c1 := (hb7.cell (p := ⟨b, off + k * 2 + 1, none⟩) HBL.out).trans HC.out.2
          obtain ⟨d0, d1, _, _⟩ := cells2 hcell7
          clear hb7 hle hcell7 HE HC HBL HM
          simp only [fill, Act.put]
          go_simp
          go_wp2_with fail
          go_quiet (fail)
          have HE8 : Hid (∀ n, Lp w (w7.drewN n) D ra ca (.slice (some ⟨b, off, none⟩) L cv) (pairs LV)) := fun n => HE7.out.later (Go.Proofs.Ytgfhahlkffagaaa.Read.drawn_at w7 n)
          clear HE7 c0 c1 d0 d1
          go_wp2_with fail
          go_roundw
          case rel => exact ⟨k + 1, q + 1, by omega, by omega, by go_num, by go_num, HQ.out, HE8.out _⟩
          case measure => simp [intOf]; omega
      · have hm2 := hm false (by unfold hits at hh; rw [Bool.not_eq_true] at hh; exact hh)
        rw [if_neg (by decide)] at hm2
        have HM := Lib.hid hm2
        have HQ : Hid (q = (LV.take (k + 1)).countP (hits ra ca)) := by
          show _ = _
          rw [HCN.out, if_neg hh, ← hn.out]
          rfl
        clear hm hm2 hhit hh
        go_wp2_with fail
        refine wp_region_one (fun | 0 => .slice (some ⟨b, off, none⟩) L cv | 1 => .int .i64 (k : Int) | 2 => .pointer (some ⟨b, off + k * 2, none⟩) | 3 => rect x1 x2 | 4 => rect ra ca | 5 => .tuple #[rect 0 0, .bool false] | 6 => .tuple #[rect 0 0, .bool false] | 7 => rect 0 0 | 8 => .bool false | 11 => .bool false | _ => undef) 9 10 13 23 #[.int .i64 0, .int .i64 0] #[.int .i64 0, .int .i64 0] _ _ (by kernel_rfl) (by kernel_rfl) rfl rfl rfl rfl rfl (by decide) ⟨⟨9, .data⟩, (by simp), rfl, rfl⟩ rfl ?alN ?stN ?conN ?enN
        case alN =>
          intro a w
          unfold execOp
          go_simp
        case stN =>
          intro a wx b old hf hp hg hsz
          have e75 : a.tmps[75]?.getD undef = rect 0 0 := get_of (hf.1 ⟨7, .data⟩ (by simp) rfl _ 75 rfl rfl (by decide) (by decide))
          refine wp_store_row 23 (.tmp 13) (.tmp 75) rfl b #[.int .i64 0, .int .i64 0] hp (eval_get e75) 23 old hg (info_rect _ _) hsz (one_rect _ _) ⟨rfl, rfl⟩
        case conN =>
          intro i o ho n1 n2 a wx hb hf
          match i, ho with
          | 0, ho =>
            obtain rfl := Option.some.inj ho
            have b10 : a.tmps[10]?.getD undef = .slice (some ⟨b, off, none⟩) L cv := get_of (hf.2 10 (by kernel_rfl))
            exact wp_value (.slice (some ⟨b, off, none⟩) L cv) (by unfold execOp; go_simp) ⟨rfl, Below.refl _ _⟩
          | 1, ho =>
            obtain rfl := Option.some.inj ho
            have b12 : a.tmps[12]?.getD undef = .int .i64 (k : Int) := get_of (hf.2 12 (by kernel_rfl))
            exact wp_value (.int .i64 (k : Int)) (by unfold execOp; go_simp) ⟨rfl, Below.refl _ _⟩
          | 2, ho =>
            obtain rfl := Option.some.inj ho
            have e69 : a.tmps[69]?.getD undef = .slice (some ⟨b, off, none⟩) L cv := get_of (hf.1 ⟨0, .data⟩ (by simp) rfl _ 69 rfl rfl (by decide) (by decide))
            have e70 : a.tmps[70]?.getD undef = .int .i64 (k : Int) := get_of (hf.1 ⟨1, .data⟩ (by simp) rfl _ 70 rfl rfl (by decide) (by decide))
            exact wp_value (.pointer (some ⟨b, off + k * 2, none⟩)) (by unfold execOp; go_simp; first | done | simp) ⟨rfl, Below.refl _ _⟩
          | 3, ho =>
            obtain rfl := Option.some.inj ho
            have e71 : a.tmps[71]?.getD undef = .pointer (some ⟨b, off + k * 2, none⟩) := get_of (hf.1 ⟨2, .data⟩ (by simp) rfl _ 71 rfl rfl (by decide) (by decide))
            have c0 := (hb.cell (p := ⟨b, off + k * 2, none⟩) HBL.out).trans HC.out.1
            have c1 := (hb.cell (p := ⟨b, off + k * 2 + 1, none⟩) HBL.out).trans HC.out.2
            exact wp_value (rect x1 x2) (by unfold execOp; go_simp) ⟨rfl, Below.refl _ _⟩
          | 4, ho =>
            obtain rfl := Option.some.inj ho
            have b6 : a.tmps[6]?.getD undef = .pointer (some ⟨D, 0, none⟩) := get_of (hf.2 6 (by kernel_rfl))
            exact wp_load_row 23 (.tmp 6) rfl D (eval_get b6) 23 _ (0, 0) _ ((HE.out.later hb).part) Try.underlying23 rfl (info_rect _ _) ⟨rfl, Below.refl _ _⟩
          | 5, ho =>
            obtain rfl := Option.some.inj ho
            have e72 : a.tmps[72]?.getD undef = rect x1 x2 := get_of (hf.1 ⟨3, .data⟩ (by simp) rfl _ 72 rfl rfl (by decide) (by decide))
            have e73 : a.tmps[73]?.getD undef = rect ra ca := get_of (hf.1 ⟨4, .data⟩ (by simp) rfl _ 73 rfl rfl (by decide) (by decide))
            exact wp_enter 21 #[rect x1 x2, rect ra ca] (.tuple #[rect 0 0, .bool false]) _ (by unfold execOp; go_simp) (HM.out wx) (fun w' h => ⟨rfl, h⟩)
          | 6, ho =>
            obtain rfl := Option.some.inj ho
            have e74 : a.tmps[74]?.getD undef = .tuple #[rect 0 0, .bool false] := get_of (hf.1 ⟨5, .data⟩ (by simp) rfl _ 74 rfl rfl (by decide) (by decide))
            exact wp_value (.tuple #[rect 0 0, .bool false]) (by unfold execOp; go_simp) ⟨rfl, Below.refl _ _⟩
          | 7, ho =>
            obtain rfl := Option.some.inj ho
            have e68 : a.tmps[68]?.getD undef = .tuple #[rect 0 0, .bool false] := get_of (hf.1 ⟨6, .data⟩ (by simp) rfl _ 68 rfl rfl (by decide) (by decide))
            exact wp_value (rect 0 0) (by unfold execOp; go_simp) ⟨rfl, Below.refl _ _⟩
          | 8, ho =>
            obtain rfl := Option.some.inj ho
            have e68 : a.tmps[68]?.getD undef = .tuple #[rect 0 0, .bool false] := get_of (hf.1 ⟨6, .data⟩ (by simp) rfl _ 68 rfl rfl (by decide) (by decide))
            exact wp_value (.bool false) (by unfold execOp; go_simp) ⟨rfl, Below.refl _ _⟩
          | 9, ho => exact absurd rfl n1
          | 10, ho => exact absurd rfl n2
          | 11, ho =>
            obtain rfl := Option.some.inj ho
            have e76 : a.tmps[76]?.getD undef = .bool false := get_of (hf.1 ⟨8, .data⟩ (by simp) rfl _ 76 rfl rfl (by decide) (by decide))
            exact wp_value (.bool false) (by unfold execOp; go_simp) ⟨rfl, Below.refl _ _⟩
          | q + 12, ho => simp at ho
        case enN =>
          intro G w7 hb7 hle hcell7
          have HE7 := Lib.hid (HE.out.later hb7)
          have c0 := (hb7.cell (p := ⟨b, off + k * 2, none⟩) HBL.out).trans HC.out.1
          have c1 := (hb7.cell (p := ⟨b, off + k * 2 + 1, none⟩) HBL.out).trans HC.out.2
          obtain ⟨d0, d1, _, _⟩ := cells2 hcell7
          clear hb7 hle hcell7 HE HC HBL HM
          simp only [fill, Act.put]
          go_simp
          go_wp2_with fail
          go_quiet (fail)
          have HE8 : Hid (∀ n, Lp w (w7.drewN n) D ra ca (.slice (some ⟨b, off, none⟩) L cv) (pairs LV)) := fun n => HE7.out.later (Go.Proofs.Ytgfhahlkffagaaa.Read.drawn_at w7 n)
          clear HE7 c0 c1 d0 d1
          go_wp2_with fail
          go_roundw
          case rel => exact ⟨k + 1, q, by omega, by omega, by go_num, rfl, HQ.out, HE8.out _⟩
          case measure => simp [intOf]; omega
    · obtain hkL' : k = L := by omega
      have HF : Hid (3 * q ≤ 2 * L ∧ L ≤ 3 * q) := by
        have h := hn.out
        have hl := HHL.out
        rw [List.take_of_length_le (by omega)] at h
        have h2 := HV.out.2
        rw [hl, ← h] at h2
        exact h2
      obtain ⟨u1, u2⟩ := HF.out
      have m1 : IntKind.i64.wrap (3 * (q : Int)) = 3 * (q : Int) := by simp only [IntKind.wrap_i64]; omega
      have m2 : IntKind.i64.wrap (2 * (L : Int)) = 2 * (L : Int) := by simp only [IntKind.wrap_i64]; omega
      have i1 : 3 * (q : Int) ≤ 2 * (L : Int) := by omega
      have i2 : (L : Int) ≤ 3 * (q : Int) := by omega
      go_wp2_with fail
      go_ret
      exact ⟨rfl, HE.out.below⟩
end Go.Proofs.Ytgfhahlkffagaaa.fnHeavyRect
