/-
  The walk of the drawn law on TrimProtocol.
-/
import Derived.Test.YtffilggpimdikaaGreatDoorJ24
import Derived.Test.YtffilggpimdikaaGreatDoorJ22
import Derived.Test.YtffilggpimdikaaGreatDoorTnM
import Derived.Test.YtffilggpimdikaaGreatDoorTrimPWalk
import Derived.Test.YtffilggpimdikaaGreatDoorJ27
import Derived.Test.YtffilggpimdikaaGreatDoorJ10
import Derived.Test.YtffilggpimdikaaGreatDoorJ16
import Derived.Test.YtffilggpimdikaaGreatDoorJ17
import Derived.Test.YtffilggpimdikaaGreatDoorJ9
namespace Go.Proofs.YtffilggpimdikaaGreatDoor.fnTrim
open Go.RowKit Go.Shelf Go.Proofs.YtffilggpimdikaaGreatDoor.Plain Go.Proofs.YtffilggpimdikaaGreatDoor.Base Go.Proofs.YtffilggpimdikaaGreatDoor.Tree Go.Proofs.YtffilggpimdikaaGreatDoor.Read Go.Proofs.YtffilggpimdikaaGreatDoor.Rect Go.Proofs.YtffilggpimdikaaGreatDoor.Parts Go.Proofs.YtffilggpimdikaaGreatDoor.TreeOf Go.Proofs.YtffilggpimdikaaGreatDoor.TreeIn Go.Proofs.YtffilggpimdikaaGreatDoor.TrimT Go.Proofs.YtffilggpimdikaaGreatDoor.Leaf Go.Proofs.YtffilggpimdikaaGreatDoor.FreeL Go.Proofs.YtffilggpimdikaaGreatDoor.Talk Go.Proofs.YtffilggpimdikaaGreatDoor.Rd Go.Proofs.YtffilggpimdikaaGreatDoor.DrawT Go.Proofs.YtffilggpimdikaaGreatDoor.DrawB5 Go.Proofs.YtffilggpimdikaaGreatDoor.TnM Go.Proofs.YtffilggpimdikaaGreatDoor.HvM Go.Proofs.YtffilggpimdikaaGreatDoor.Kept
open Go.Proofs.YtffilggpimdikaaGreatDoor.Rects (RV RV.slice range_two range_on rinfo2)
open Go.Proofs.YtffilggpimdikaaGreatDoor.Marks (flat rv_own)
open Go.Proofs.YtffilggpimdikaaGreatDoor.CompM (comp_true)
open Go.Proofs.YtffilggpimdikaaGreatDoor.ErrB (found_mat)
open Go.Proofs.YtffilggpimdikaaGreatDoor.Rd5 (cells3)
open Go.Proofs.YtffilggpimdikaaGreatDoor.NodeH (eval_get)
open Go.Proofs.YtffilggpimdikaaGreatDoor.Free (fill wp_value wp_enter wp_load_row freeB)
set_option linter.unusedVariables false
set_option linter.unusedSimpArgs false

set_option maxHeartbeats 1000000 in
theorem draw_tr (v : Value) (n : Nat) (w : World) (h : ByteArg w v n) :
    Calls Tryz.prog 15 #[v] w fun e w' => ∃ (s : ByteArray) (r c : Int), e = .returned (.tuple #[.string s, .int .i64 r, .int .i64 c]) ∧ s.size ≤ 1000 ∧ (-1 ≤ r ∧ r ≤ 9223372036854775807) ∧ (-1 ≤ c ∧ c ≤ 9223372036854775807) ∧ Below w.heap.size w w' := by
  have HD := Lib.hid (draw_mat5 v n w h)
  clear h
  go_enter Tryz.func15, Tryz.ntmps15
  go_wp2_with fail
  refine HD.out.mono ?_
  rintro e w1 ⟨s, r, c, rfl, hs, hr, hc, hb⟩
  have HB := Lib.hid hb
  clear hb HD
  go_wp2_with fail
  go_returns
  exact ⟨s, r, c, rfl, hs, hr, hc, HB.out⟩

/-- which arguments there are: both answer none, or it is a protocol and sides -/
theorem cases (s : ByteArray) (hs : s.size ≤ 1048576) (r c : Int) :
    ((∀ w, Calls Tryz.prog 10 #[.string s, .int .i64 r, .int .i64 c] w fun e w' => e = .returned (.tuple #[.string (str []), .bool false]) ∧ Below w.heap.size w w') ∧
     (∀ w, Calls Tryz.prog 16 #[.string s, .int .i64 r, .int .i64 c] w fun e w' => e = .returned (.tuple #[.string (str []), .bool false]) ∧ Below w.heap.size w w')) ∨
    (∃ (t : T) (r' c' : Nat), r = (r' : Int) ∧ c = (c' : Int) ∧ wf t ∧ s.data.toList = text t ∧ s.size ≤ 2000 ∧ (1 ≤ r' ∧ r' ≤ 8) ∧ (1 ≤ c' ∧ c' ≤ 8)) := by
  by_cases hsd : Sides r c
  · obtain ⟨⟨r1, r2⟩, c1, c2⟩ := hsd
    obtain ⟨r', rfl⟩ : ∃ r' : Nat, r = (r' : Int) := ⟨r.toNat, by omega⟩
    obtain ⟨c', rfl⟩ : ∃ c' : Nat, c = (c' : Int) := ⟨c.toNat, by omega⟩
    rcases ok_or s with ⟨t, h1, h2, h3⟩ | h
    · exact .inr ⟨t, r', c', rfl, rfl, h1, h2, h3, by omega, by omega⟩
    · exact .inl ⟨fnExactTrimProtocol.impl_nil s r' c' (allN r') (allN c') (in_yes s .nilIface (tree_no s h hs) r' c' (by omega) (by omega)), fnExactTrimProtocol.spec_no s h hs r' c'⟩
  · have hi := fnExactTrimProtocol.impl_nil s r c 0 0 (fun W => in_bad s r c hsd W)
    rcases ok_or s with ⟨t, h1, h2, h3⟩ | h
    · exact .inl ⟨hi, fnExactTrimProtocol.spec_bad s true (valid_said s t h1 h2 h3) r c hsd⟩
    · exact .inl ⟨hi, fnExactTrimProtocol.spec_bad s false (valid_no s h hs) r c hsd⟩

def pairs (l : List (Nat × Nat × Bool)) : List (Int × Int) := l.map fun p => ((p.1 : Int), (p.2.1 : Int))
theorem flat_pairs (l : List (Nat × Nat × Bool)) : flat (pairs l) = cellsR l := by
  simp only [flat, pairs, cellsR, List.flatMap_map]
theorem pairs_len (l : List (Nat × Nat × Bool)) : (pairs l).length = l.length := by simp [pairs]
theorem rv_on {w w1 : World} {v : Value} {xs : List (Int × Int)} (h : RV w w.heap.size v xs) (hb : Below w.heap.size w w1) : RV w1 w1.heap.size v xs := (h.later (Nat.le_refl _) hb).mono hb.size
/-- blocks that are kept, and two lists of the same rectangles -/
structure Lt (w wr : World) (l : List (Nat × Obj)) (v u : Value) (xs : List (Int × Int)) : Prop where
  kp : Kp w wr l
  one : RV wr wr.heap.size v xs
  two : RV wr wr.heap.size u xs
theorem Lt.later {w wr w2 : World} {l : List (Nat × Obj)} {v u : Value} {xs : List (Int × Int)} (h : Lt w wr l v u xs) (hb : Below wr.heap.size wr w2) : Lt w w2 l v u xs := ⟨h.kp.later hb, rv_on h.one hb, rv_on h.two hb⟩
theorem rv_cell {w : World} {v : Value} {xs : List (Int × Int)} (h : RV w w.heap.size v xs) (j : Nat) (hj : j < xs.length) : ∃ b off c, v = .slice (some ⟨b, off, none⟩) xs.length c ∧ w.rangeAt b (off + j * 2) [.int .i64 xs[j].1, .int .i64 xs[j].2] := by
  rcases h.2 with ⟨_, rfl⟩ | ⟨b, off, c, rfl, hlt, hc⟩
  · cases hj
  · exact ⟨b, off, c, rfl, range_two (hc j hj).1 (hc j hj).2⟩

set_option maxHeartbeats 8000000 in
set_option maxRecDepth 100000 in
theorem walk (v : Value) (n : Nat) (w : World) (h : ByteArg w v n) :
    Calls Tryz.prog 4 #[v] w fun e w' => e = .returned (.bool true) ∧ Below w.heap.size w w' := by
  obtain ⟨hn0, a, cap, rfl, hc, hb0⟩ := id h
  clear hb0
  have HD := Lib.hid (draw_tr _ n w h)
  clear h
  by_cases hbig : 1048576 < n
  · have hbi : (1048576 : Int) < (n : Int) := by omega
    go_enter Tryz.func4, Tryz.ntmps4
    go_wp2_with fail
    go_ret
    exact ⟨rfl, Below.refl _ _⟩
  · have hbi : ¬ (1048576 : Int) < (n : Int) := by omega
    go_enter Tryz.func4, Tryz.ntmps4
    go_wp2_with fail
    refine HD.out.mono ?_
    rintro e w1 ⟨s, r, c, rfl, hs, -, -, hb⟩
    have hcase := cases s (by omega) r c
    have HK1 := Lib.hid ((Kp.nil w).later hb)
    clear HD hbig hbi hb
    rcases hcase with ⟨hti, hts⟩ | ⟨t, r, c, rfl, rfl, g1, g2, g3, hr, hc⟩
    · have HTI := Lib.hid hti
      have HTS := Lib.hid hts
      clear hti hts hs
      generalize str [] = z at *
      go_wp2_with fail
      refine (HTI.out _).mono ?_
      rintro e w2 ⟨rfl, hb2⟩
      have HK2 := Lib.hid (HK1.out.later hb2)
      clear hb2 HK1
      go_wp2_with fail
      refine (HTS.out _).mono ?_
      rintro e w3 ⟨rfl, hb3⟩
      have HK3 := Lib.hid (HK2.out.later hb3)
      clear hb3 HK2
      go_wp2_with fail
      go_ret
      exact ⟨rfl, HK3.out.below⟩
    · obtain ⟨_, p2, p3⟩ := pow_facts r hr
      obtain ⟨_, q2, q3⟩ := pow_facts c hc
      have hl : (text t).length = s.size := by rw [← g2]; simp
      have lq : (str (text (trimT t (allN r) (allN c)))).size ≤ 2000 := by
        have := trim_length t (allN r) (allN c)
        rw [str_size]; omega
      have wq := trim_wf t (allN r) (allN c) p3 q3 g1
      have hti := fun W => fnExactTrimProtocol.impl_yes s t g1 g2 g3 r c hr hc W
      have hts := fun W => fnExactTrimProtocol.spec_yes s t g1 g2 g3 r c hr hc W
      have hm := fun W => found_mat s t g1 g2 g3 r c hr hc W
      have hag := fun W => fnExactTrimProtocol.impl_yes (str (text (trimT t (allN r) (allN c)))) _ wq (str_data _) lq r c hr hc W
      rw [trim_again t _ _ p3 q3 p2 q2] at hag
      have hla : ∀ W, Calls Tryz.prog 18 #[.string s, .int .i64 (r : Int), .int .i64 (c : Int)] W fun e w' => ∃ v, e = .returned v ∧ Go.Proofs.YtffilggpimdikaaGreatDoor.App.Own W w' 41 2 v (pairs (leavesT t (allN r) (allN c))).length (flat (pairs (leavesT t (allN r) (allN c)))) := by
        rw [pairs_len, flat_pairs]
        exact fun W => Go.Proofs.YtffilggpimdikaaGreatDoor.LeafRectsI.impl_yes s t g1 g2 g3 r c hr hc W
      have hlb : ∀ W, Calls Tryz.prog 18 #[.string (str (text (trimT t (allN r) (allN c)))), .int .i64 (r : Int), .int .i64 (c : Int)] W fun e w' => ∃ v, e = .returned v ∧ Go.Proofs.YtffilggpimdikaaGreatDoor.App.Own W w' 41 2 v (pairs (leavesT t (allN r) (allN c))).length (flat (pairs (leavesT t (allN r) (allN c)))) := by
        rw [pairs_len, flat_pairs]
        have h := fun W => Go.Proofs.YtffilggpimdikaaGreatDoor.LeafRectsI.impl_yes (str (text (trimT t (allN r) (allN c)))) _ wq (str_data _) lq r c hr hc W
        rw [leaves_trim t _ _ p3 q3 p2 q2] at h
        exact h
      have hco := fun W => comp_true (str (text (trimT t (allN r) (allN c)))) _ wq (str_data _) lq (fun x y => (talkT t x y).2) r c hr.1 hr.2 hc.1 hc.2 (fun x y hx hy => trim_talk t _ _ x y p3 q3 (all_bit r x hx) (all_bit c y hy)) W
      have hlo := fun W => fnExactLeavesOf.impl_yes (str (text (trimT t (allN r) (allN c)))) _ wq (str_data _) lq W
      rw [trim_count t _ _ p3 q3 p2 q2, ← pairs_len] at hlo
      have hbq := fun W => fnExactBitsOf.impl_yes (str (text (trimT t (allN r) (allN c)))) _ wq (str_data _) lq W
      have hbp := fun W => fnExactBitsOf.impl_yes s t g1 g2 g3 W
      have hle : (Tree.bits (trimT t (allN r) (allN c)) : Int) ≤ (Tree.bits t : Int) := by have := trim_bits t (allN r) (allN c); omega
      have hlen : (pairs (leavesT t (allN r) (allN c))).length ≤ 1000 := by
        rw [pairs_len]
        have := leaves_length t (allN r) (allN c)
        omega
      clear lq wq hl g1 g2 g3 hs hr hc p2 p3 q2 q3
      generalize pairs (leavesT t (allN r) (allN c)) = xs at *
      generalize Tree.bits (trimT t (allN r) (allN c)) = nq at *
      generalize Tree.bits t = nb at *
      generalize str (text (trimT t (allN r) (allN c))) = q at *
      generalize str (rowsB (fun x y => (talkT t x y).2) r c) = sm at *
      have HTI := Lib.hid hti
      have HTS := Lib.hid hts
      have HM := Lib.hid hm
      have HAG := Lib.hid hag
      have HLA := Lib.hid hla
      have HLB := Lib.hid hlb
      have HCO := Lib.hid hco
      have HLO := Lib.hid hlo
      have HBQ := Lib.hid hbq
      have HBP := Lib.hid hbp
      have HLEN := Lib.hid hlen
      clear hti hts hm hag hla hlb hco hlo hbq hbp hlen
      go_wp2_with fail
      refine (HTI.out _).mono ?_
      rintro e w2 ⟨rfl, hb2⟩
      have HK2 := Lib.hid (HK1.out.later hb2)
      clear hb2 HK1
      go_wp2_with fail
      refine (HTS.out _).mono ?_
      rintro e w3 ⟨rfl, hb3⟩
      have HK3 := Lib.hid (HK2.out.later hb3)
      clear hb3 HK2
      go_wp2_with fail
      refine (HM.out _).mono ?_
      rintro e w4 ⟨rfl, hb4⟩
      obtain ⟨bm, hbm⟩ : ∃ x, w4.heap.size = x := ⟨_, rfl⟩
      have HK4 := Lib.hid ((HK3.out.later hb4).put (.cells #[.int .i64 (r : Int), .int .i64 (c : Int), .string sm] 24) hbm)
      clear hb4 HK3
      go_wp2_with fail
      refine (HAG.out _).mono ?_
      rintro e w5 ⟨rfl, hb5⟩
      have HK5 := Lib.hid (HK4.out.later hb5)
      clear hb5 HK4
      clear hbm
      go_wp2_with fail
      refine (HLA.out _).mono ?_
      rintro e w20 ⟨va, rfl, hoa⟩
      have RA := Lib.hid (rv_own hoa.row HLEN.out)
      have HK20 := Lib.hid (HK5.out.later hoa.below)
      obtain ⟨pa, ka, hva⟩ := RA.out.slice
      subst hva
      clear hoa HK5 HLA
      go_wp2_with fail
      refine (HLB.out _).mono ?_
      rintro e w21 ⟨vb, rfl, hob⟩
      have RB := rv_own hob.row HLEN.out
      have RA2 := rv_on RA.out hob.below
      obtain ⟨pb, kb, hvb⟩ := RB.slice
      subst hvb
      have HL : Hid (Lt w w21 [(bm, .cells #[.int .i64 (r : Int), .int .i64 (c : Int), .string sm] 24)] (.slice pa xs.length ka) (.slice pb xs.length kb) xs) := ⟨HK20.out.later hob.below, RA2, RB⟩
      clear hob RB RA2 HK20 RA HLB
      obtain ⟨L, hL⟩ : ∃ L, xs.length = L := ⟨_, rfl⟩
      have HHL := Lib.hid hL
      have hL1 : L ≤ 1000 := by have := HLEN.out; omega
      rw [hL] at HL HLO ⊢
      clear hL
      go_wp2_with fail
      go_loopw [16] (fun x wr => ∃ k : Nat, k ≤ L ∧ x = .int .i64 (k : Int) ∧ Hid (Lt w wr [(bm, .cells #[.int .i64 (r : Int), .int .i64 (c : Int), .string sm] 24)] (.slice pa L ka) (.slice pb L kb) xs)) (fun x _ => L - (intOf x).toNat)
      case atStart => exact ⟨0, Nat.zero_le _, rfl, HL⟩
      case round =>
        rename_i wr
        obtain ⟨k, hk, rfl, HE⟩ := hrel
        clear HL
        by_cases hkL : k < L
        · have hkx : k < xs.length := by have := HHL.out; omega
          obtain ⟨b, off, c0, e, R1⟩ := rv_cell HE.out.one k hkx
          rw [HHL.out] at e
          injection e with e1 e2 e3
          subst e1 e3
          obtain ⟨b', off', c0', e, R2⟩ := rv_cell HE.out.two k hkx
          rw [HHL.out] at e
          injection e with e1 e2 e3
          subst e1 e3
          replace R1 := Lib.hid R1
          replace R2 := Lib.hid R2
          generalize xs[k].1 = x at *
          generalize xs[k].2 = y at *
          have hkLi : (k : Int) < (L : Int) := by omega
          go_wp2_with fail
          refine wp_region_below (fun | 0 => .slice (some ⟨b, off, none⟩) L ka | 1 => .int .i64 (k : Int) | 2 => .pointer (some ⟨b, off + k * 2, none⟩) | 3 => rect x y | 4 => Value.slice (some ⟨b', off', none⟩) L kb | 5 => .int .i64 (k : Int) | 6 => Value.pointer (some ⟨b', off' + k * 2, none⟩) | 7 => rect x y | 8 => .bool false | _ => undef) (by kernel_rfl) (by kernel_rfl) rfl ?con ?en
          case con =>
            intro i o ho a wx hb hf
            match i, ho with
            | 0, ho =>
              obtain rfl := Option.some.inj ho
              have b14 : a.tmps[14]?.getD undef = .slice (some ⟨b, off, none⟩) L ka := hf.2 14 (by kernel_rfl)
              exact wp_value (.slice (some ⟨b, off, none⟩) L ka) (by unfold execOp; go_simp) ⟨rfl, Below.refl _ _⟩
            | 1, ho =>
              obtain rfl := Option.some.inj ho
              have b16 : a.tmps[16]?.getD undef = .int .i64 (k : Int) := hf.2 16 (by kernel_rfl)
              exact wp_value (.int .i64 (k : Int)) (by unfold execOp; go_simp) ⟨rfl, Below.refl _ _⟩
            | 2, ho =>
              obtain rfl := Option.some.inj ho
              have e93 : a.tmps[93]?.getD undef = .slice (some ⟨b, off, none⟩) L ka := hf.1 ⟨0, .data⟩ (by simp) rfl _ 93 rfl rfl
              have e94 : a.tmps[94]?.getD undef = .int .i64 (k : Int) := hf.1 ⟨1, .data⟩ (by simp) rfl _ 94 rfl rfl
              exact wp_value (.pointer (some ⟨b, off + k * 2, none⟩)) (by unfold execOp; go_simp) ⟨rfl, Below.refl _ _⟩
            | 3, ho =>
              obtain rfl := Option.some.inj ho
              have e95 : a.tmps[95]?.getD undef = .pointer (some ⟨b, off + k * 2, none⟩) := hf.1 ⟨2, .data⟩ (by simp) rfl _ 95 rfl rfl
              exact wp_load_mid 41 (.tmp 95) rfl b (off + k * 2) (eval_get e95) [.int .i64 x, .int .i64 y] _ (range_on R1.out hb) Tryz.underlying41 rfl rinfo2 ⟨rfl, Below.refl _ _⟩
            | 4, ho =>
              obtain rfl := Option.some.inj ho
              have b15 : a.tmps[15]?.getD undef = Value.slice (some ⟨b', off', none⟩) L kb := hf.2 15 (by kernel_rfl)
              exact wp_value (Value.slice (some ⟨b', off', none⟩) L kb) (by unfold execOp; go_simp) ⟨rfl, Below.refl _ _⟩
            | 5, ho =>
              obtain rfl := Option.some.inj ho
              have b16 : a.tmps[16]?.getD undef = .int .i64 (k : Int) := hf.2 16 (by kernel_rfl)
              exact wp_value (.int .i64 (k : Int)) (by unfold execOp; go_simp) ⟨rfl, Below.refl _ _⟩
            | 6, ho =>
              obtain rfl := Option.some.inj ho
              have e97 : a.tmps[97]?.getD undef = Value.slice (some ⟨b', off', none⟩) L kb := hf.1 ⟨4, .data⟩ (by simp) rfl _ 97 rfl rfl
              have e98 : a.tmps[98]?.getD undef = .int .i64 (k : Int) := hf.1 ⟨5, .data⟩ (by simp) rfl _ 98 rfl rfl
              exact wp_value (Value.pointer (some ⟨b', off' + k * 2, none⟩)) (by unfold execOp; go_simp) ⟨rfl, Below.refl _ _⟩
            | 7, ho =>
              obtain rfl := Option.some.inj ho
              have e99 : a.tmps[99]?.getD undef = Value.pointer (some ⟨b', off' + k * 2, none⟩) := hf.1 ⟨6, .data⟩ (by simp) rfl _ 99 rfl rfl
              exact wp_load_mid 41 (.tmp 99) rfl b' (off' + k * 2) (eval_get e99) [.int .i64 x, .int .i64 y] _ (range_on R2.out hb) Tryz.underlying41 rfl rinfo2 ⟨rfl, Below.refl _ _⟩
            | 8, ho =>
              obtain rfl := Option.some.inj ho
              have e96 : a.tmps[96]?.getD undef = rect x y := hf.1 ⟨3, .data⟩ (by simp) rfl _ 96 rfl rfl
              have e100 : a.tmps[100]?.getD undef = rect x y := hf.1 ⟨7, .data⟩ (by simp) rfl _ 100 rfl rfl
              exact wp_value (.bool false) (by unfold execOp; go_simp; first | done | rfl | simp) ⟨rfl, Below.refl _ _⟩
            | q + 9, ho => simp at ho
          case en =>
            intro w22 hb22
            have HE2 := Lib.hid (HE.out.later hb22)
            clear hb22 HE R1 R2
            simp only [fill, Act.put]
            go_simp
            go_wp2_with fail
            go_roundw
            case rel => exact ⟨k + 1, by omega, by go_num, HE2⟩
            case measure => simp [intOf]; omega
        · obtain rfl : k = L := by omega
          have HKe := Lib.hid HE.out.kp
          clear HE
          obtain ⟨cbm0, cbm1, cbm2, -, -, -⟩ := cells3 (HKe.out.at 0 rfl)
          go_wp2_with fail
          refine (HCO.out _).mono ?_
          rintro e w30 ⟨rfl, hb30⟩
          have HK30 := Lib.hid (HKe.out.later hb30)
          clear hb30 HKe
          clear cbm0 cbm1 cbm2
          go_wp2_with fail
          refine (HLO.out _).mono ?_
          rintro e w31 ⟨rfl, hb31⟩
          have HK31 := Lib.hid (HK30.out.later hb31)
          clear hb31 HK30
          go_wp2_with fail
          refine (HBQ.out _).mono ?_
          rintro e w32 ⟨rfl, hb32⟩
          have HK32 := Lib.hid (HK31.out.later hb32)
          clear hb32 HK31
          go_wp2_with fail
          refine (HBP.out _).mono ?_
          rintro e w33 ⟨rfl, hb33⟩
          have HK33 := Lib.hid (HK32.out.later hb33)
          clear hb33 HK32
          go_wp2_with fail
          go_ret
          exact ⟨rfl, HK33.out.below⟩
end Go.Proofs.YtffilggpimdikaaGreatDoor.fnTrim
