/-
  Tables that are drawn: l9Some, DrawIsMonotone.
-/
import Derived.Test.YtbhkfibbepocfaaDoorDrawFm
import Derived.Test.YtbhkfibbepocfaaDoorBase
namespace Go.Proofs.YtbhkfibbepocfaaDoor.DrawMo
open Go.RowKit Go.Proofs.YtbhkfibbepocfaaDoor.Plain Go.Proofs.YtbhkfibbepocfaaDoor.Base Go.Proofs.YtbhkfibbepocfaaDoor.Rd Go.Proofs.YtbhkfibbepocfaaDoor.Rd2 Go.Proofs.YtbhkfibbepocfaaDoor.Rd3 Go.Proofs.YtbhkfibbepocfaaDoor.DrawT Go.Proofs.YtbhkfibbepocfaaDoor.DrawFm
set_option linter.unusedVariables false
set_option linter.unusedSimpArgs false

set_option maxHeartbeats 8000000 in
set_option maxRecDepth 100000 in
theorem some_any {lo : Nat} (g p : Nat) (hp : p ≤ 50000) (w : World) (h : Rdr lo w g p) :
    Calls Tryd.prog 30 #[.pointer (some ⟨g, 0, none⟩)] w fun e w' => ∃ (s : ByteArray) (p' : Nat), e = .returned (.string s) ∧ s.size ≤ 100 ∧ Rdr lo w' g p' ∧ p' ≤ p + 100 ∧ Apt g w w' := by
  have HN := Lib.hid (num_lit g p (by omega) [2, 3, 1, 2] (by decide) (by decide) 4 w h)
  clear h
  go_enter Tryd.func30, Tryd.ntmps30
  go_wp2_with fail
  refine HN.out.mono ?_
  rintro e w1 ⟨x, rfl, hx, hr, ha⟩
  have hx3 : x = 1 ∨ x = 2 ∨ x = 3 := by simp at hx; omega
  have HA := Lib.hid ha
  have HR := Lib.hid hr
  clear hr ha HN hx
  obtain ⟨N, hN, hN2, hN8⟩ : ∃ N : Nat, (x = 1 ∧ N = 2 ∨ x = 2 ∧ N = 4 ∨ x = 3 ∧ N = 8) ∧ 2 ≤ N ∧ N ≤ 8 := by
    rcases hx3 with rfl | rfl | rfl
    · exact ⟨2, .inl ⟨rfl, rfl⟩, by omega, by omega⟩
    · exact ⟨4, .inr (.inl ⟨rfl, rfl⟩), by omega, by omega⟩
    · exact ⟨8, .inr (.inr ⟨rfl, rfl⟩), by omega, by omega⟩
  clear hx3
  rcases hN with ⟨rfl, rfl⟩ | ⟨rfl, rfl⟩ | ⟨rfl, rfl⟩
  · go_wp2_with fail
    go_loopw [3, 4] (fun o i wr => ∃ (k : Nat) (q : ByteArray), k ≤ 2 ∧ o = .string q ∧ q.size + k = 2 ∧ i = .int .i64 (k : Int) ∧ Rdr lo wr g (p + 1 + (2 - k)) ∧ Apt g w wr) (fun _ i _ => (intOf i).toNat)
    case atStart => exact ⟨2, ⟨#[]⟩, by omega, rfl, rfl, rfl, by simpa using HR.out, HA.out⟩
    case round =>
      obtain ⟨k, q, hk, rfl, hq, rfl, hr, ha⟩ := hrel
      have HAr := Lib.hid ha
      clear ha
      by_cases hlt : 0 < k
      · have HP := Lib.hid (pick_r g (p + 1 + (2 - k)) (by omega) 2 _ hr)
        clear hr HR HA
        go_wp2_with fail
        refine HP.out.mono ?_
        rintro e w3 ⟨y, rfl, ⟨hy0, -⟩, hy1, hr, ha⟩
        have HR3 := Lib.hid hr
        have HA3 := Lib.hid (HAr.out.trans ha)
        obtain ⟨d, hd⟩ : ∃ d : Bool, (y == 0) = d := ⟨_, rfl⟩
        have hcat := fun W => run_string_add_sum (P := Tryd.prog) (w := W) q ⟨#[dig d]⟩ (by show _ + 1 ≤ _; omega)
        have hsz : (q ++ ⟨#[dig d]⟩).size + (k - 1) = 2 := by rw [ByteArray.size_append]; show q.size + 1 + (k - 1) = 2; omega
        have HSZ := Lib.hid hsz
        have HRN : Hid (Rdr lo w3 g (p + 1 + (2 - (k - 1)))) := by unfold Hid; rw [show p + 1 + (2 - (k - 1)) = p + 1 + (2 - k) + 1 by omega]; exact HR3.out
        clear hr ha HP HAr HR3 hsz
        go_wp2_with fail
        refine (l1Bit_any d _).mono ?_
        rintro e w4 ⟨rfl, rfl⟩
        go_wp2_with fail
        go_roundw
        case rel => exact ⟨k - 1, _, by omega, rfl, HSZ.out, by go_num, HRN.out, HA3.out⟩
        case measure => simp [intOf]; omega
      · obtain rfl : k = 0 := by omega
        have HP := Lib.hid (pick_r g (p + 1 + 2) (by omega) 24 _ hr)
        clear hr HR HA
        have hsq : q.size = 2 := hq
        clear hq
        go_wp2_with fail
        refine HP.out.mono ?_
        rintro e w3 ⟨y, rfl, ⟨hy0, -⟩, hy1, hr, ha⟩
        have HR3 := Lib.hid hr
        have HA3 := Lib.hid (HAr.out.trans ha)
        clear hr ha HP HAr
        by_cases h0 : y = 0
        · subst h0
          clear hy0 hy1
          have hcat := fun W => run_string_add_sum (P := Tryd.prog) (w := W) q (⟨#[48]⟩ : ByteArray) (by show _ + 1 ≤ _; omega)
          have HSZ : Hid ((q ++ (⟨#[48]⟩ : ByteArray)).size ≤ 100) := by unfold Hid; rw [ByteArray.size_append]; show q.size + 1 ≤ 100; omega
          go_wp2_with fail
          go_ret
          exact ⟨_, p + 1 + 2 + 1, rfl, HSZ.out, HR3.out, by omega, HA3.out⟩
        by_cases h1 : y = 1
        · subst h1
          clear hy0 hy1 h0
          have hex : (q.extract 1 2).size ≤ 8 := by rw [ByteArray.size_extract]; omega
          have hcat := fun W => run_string_add_sum (P := Tryd.prog) (w := W) (⟨#[50]⟩ : ByteArray) (q.extract 1 2) (by show 1 + _ ≤ _; omega)
          have HSZ : Hid (((⟨#[50]⟩ : ByteArray) ++ q.extract 1 2).size ≤ 100) := by unfold Hid; rw [ByteArray.size_append]; show 1 + _ ≤ 100; omega
          have h1q : (1 : Int) ≤ 2 := by omega
          go_wp2_with fail
          go_ret
          exact ⟨_, p + 1 + 2 + 1, rfl, HSZ.out, HR3.out, by omega, HA3.out⟩
        · have b0 : (y == 0) = false := beq_false_of_ne h0
          have b1 : (y == 1) = false := beq_false_of_ne h1
          clear hy0 hy1 h0 h1
          go_wp2_with fail
          go_ret
          exact ⟨q, p + 1 + 2 + 1, rfl, by omega, HR3.out, by omega, HA3.out⟩
  · go_wp2_with fail
    go_loopw [3, 4] (fun o i wr => ∃ (k : Nat) (q : ByteArray), k ≤ 4 ∧ o = .string q ∧ q.size + k = 4 ∧ i = .int .i64 (k : Int) ∧ Rdr lo wr g (p + 1 + (4 - k)) ∧ Apt g w wr) (fun _ i _ => (intOf i).toNat)
    case atStart => exact ⟨4, ⟨#[]⟩, by omega, rfl, rfl, rfl, by simpa using HR.out, HA.out⟩
    case round =>
      obtain ⟨k, q, hk, rfl, hq, rfl, hr, ha⟩ := hrel
      have HAr := Lib.hid ha
      clear ha
      by_cases hlt : 0 < k
      · have HP := Lib.hid (pick_r g (p + 1 + (4 - k)) (by omega) 2 _ hr)
        clear hr HR HA
        go_wp2_with fail
        refine HP.out.mono ?_
        rintro e w3 ⟨y, rfl, ⟨hy0, -⟩, hy1, hr, ha⟩
        have HR3 := Lib.hid hr
        have HA3 := Lib.hid (HAr.out.trans ha)
        obtain ⟨d, hd⟩ : ∃ d : Bool, (y == 0) = d := ⟨_, rfl⟩
        have hcat := fun W => run_string_add_sum (P := Tryd.prog) (w := W) q ⟨#[dig d]⟩ (by show _ + 1 ≤ _; omega)
        have hsz : (q ++ ⟨#[dig d]⟩).size + (k - 1) = 4 := by rw [ByteArray.size_append]; show q.size + 1 + (k - 1) = 4; omega
        have HSZ := Lib.hid hsz
        have HRN : Hid (Rdr lo w3 g (p + 1 + (4 - (k - 1)))) := by unfold Hid; rw [show p + 1 + (4 - (k - 1)) = p + 1 + (4 - k) + 1 by omega]; exact HR3.out
        clear hr ha HP HAr HR3 hsz
        go_wp2_with fail
        refine (l1Bit_any d _).mono ?_
        rintro e w4 ⟨rfl, rfl⟩
        go_wp2_with fail
        go_roundw
        case rel => exact ⟨k - 1, _, by omega, rfl, HSZ.out, by go_num, HRN.out, HA3.out⟩
        case measure => simp [intOf]; omega
      · obtain rfl : k = 0 := by omega
        have HP := Lib.hid (pick_r g (p + 1 + 4) (by omega) 24 _ hr)
        clear hr HR HA
        have hsq : q.size = 4 := hq
        clear hq
        go_wp2_with fail
        refine HP.out.mono ?_
        rintro e w3 ⟨y, rfl, ⟨hy0, -⟩, hy1, hr, ha⟩
        have HR3 := Lib.hid hr
        have HA3 := Lib.hid (HAr.out.trans ha)
        clear hr ha HP HAr
        by_cases h0 : y = 0
        · subst h0
          clear hy0 hy1
          have hcat := fun W => run_string_add_sum (P := Tryd.prog) (w := W) q (⟨#[48]⟩ : ByteArray) (by show _ + 1 ≤ _; omega)
          have HSZ : Hid ((q ++ (⟨#[48]⟩ : ByteArray)).size ≤ 100) := by unfold Hid; rw [ByteArray.size_append]; show q.size + 1 ≤ 100; omega
          go_wp2_with fail
          go_ret
          exact ⟨_, p + 1 + 4 + 1, rfl, HSZ.out, HR3.out, by omega, HA3.out⟩
        by_cases h1 : y = 1
        · subst h1
          clear hy0 hy1 h0
          have hex : (q.extract 1 4).size ≤ 8 := by rw [ByteArray.size_extract]; omega
          have hcat := fun W => run_string_add_sum (P := Tryd.prog) (w := W) (⟨#[50]⟩ : ByteArray) (q.extract 1 4) (by show 1 + _ ≤ _; omega)
          have HSZ : Hid (((⟨#[50]⟩ : ByteArray) ++ q.extract 1 4).size ≤ 100) := by unfold Hid; rw [ByteArray.size_append]; show 1 + _ ≤ 100; omega
          have h1q : (1 : Int) ≤ 4 := by omega
          go_wp2_with fail
          go_ret
          exact ⟨_, p + 1 + 4 + 1, rfl, HSZ.out, HR3.out, by omega, HA3.out⟩
        · have b0 : (y == 0) = false := beq_false_of_ne h0
          have b1 : (y == 1) = false := beq_false_of_ne h1
          clear hy0 hy1 h0 h1
          go_wp2_with fail
          go_ret
          exact ⟨q, p + 1 + 4 + 1, rfl, by omega, HR3.out, by omega, HA3.out⟩
  · go_wp2_with fail
    go_loopw [3, 4] (fun o i wr => ∃ (k : Nat) (q : ByteArray), k ≤ 8 ∧ o = .string q ∧ q.size + k = 8 ∧ i = .int .i64 (k : Int) ∧ Rdr lo wr g (p + 1 + (8 - k)) ∧ Apt g w wr) (fun _ i _ => (intOf i).toNat)
    case atStart => exact ⟨8, ⟨#[]⟩, by omega, rfl, rfl, rfl, by simpa using HR.out, HA.out⟩
    case round =>
      obtain ⟨k, q, hk, rfl, hq, rfl, hr, ha⟩ := hrel
      have HAr := Lib.hid ha
      clear ha
      by_cases hlt : 0 < k
      · have HP := Lib.hid (pick_r g (p + 1 + (8 - k)) (by omega) 2 _ hr)
        clear hr HR HA
        go_wp2_with fail
        refine HP.out.mono ?_
        rintro e w3 ⟨y, rfl, ⟨hy0, -⟩, hy1, hr, ha⟩
        have HR3 := Lib.hid hr
        have HA3 := Lib.hid (HAr.out.trans ha)
        obtain ⟨d, hd⟩ : ∃ d : Bool, (y == 0) = d := ⟨_, rfl⟩
        have hcat := fun W => run_string_add_sum (P := Tryd.prog) (w := W) q ⟨#[dig d]⟩ (by show _ + 1 ≤ _; omega)
        have hsz : (q ++ ⟨#[dig d]⟩).size + (k - 1) = 8 := by rw [ByteArray.size_append]; show q.size + 1 + (k - 1) = 8; omega
        have HSZ := Lib.hid hsz
        have HRN : Hid (Rdr lo w3 g (p + 1 + (8 - (k - 1)))) := by unfold Hid; rw [show p + 1 + (8 - (k - 1)) = p + 1 + (8 - k) + 1 by omega]; exact HR3.out
        clear hr ha HP HAr HR3 hsz
        go_wp2_with fail
        refine (l1Bit_any d _).mono ?_
        rintro e w4 ⟨rfl, rfl⟩
        go_wp2_with fail
        go_roundw
        case rel => exact ⟨k - 1, _, by omega, rfl, HSZ.out, by go_num, HRN.out, HA3.out⟩
        case measure => simp [intOf]; omega
      · obtain rfl : k = 0 := by omega
        have HP := Lib.hid (pick_r g (p + 1 + 8) (by omega) 24 _ hr)
        clear hr HR HA
        have hsq : q.size = 8 := hq
        clear hq
        go_wp2_with fail
        refine HP.out.mono ?_
        rintro e w3 ⟨y, rfl, ⟨hy0, -⟩, hy1, hr, ha⟩
        have HR3 := Lib.hid hr
        have HA3 := Lib.hid (HAr.out.trans ha)
        clear hr ha HP HAr
        by_cases h0 : y = 0
        · subst h0
          clear hy0 hy1
          have hcat := fun W => run_string_add_sum (P := Tryd.prog) (w := W) q (⟨#[48]⟩ : ByteArray) (by show _ + 1 ≤ _; omega)
          have HSZ : Hid ((q ++ (⟨#[48]⟩ : ByteArray)).size ≤ 100) := by unfold Hid; rw [ByteArray.size_append]; show q.size + 1 ≤ 100; omega
          go_wp2_with fail
          go_ret
          exact ⟨_, p + 1 + 8 + 1, rfl, HSZ.out, HR3.out, by omega, HA3.out⟩
        by_cases h1 : y = 1
        · subst h1
          clear hy0 hy1 h0
          have hex : (q.extract 1 8).size ≤ 8 := by rw [ByteArray.size_extract]; omega
          have hcat := fun W => run_string_add_sum (P := Tryd.prog) (w := W) (⟨#[50]⟩ : ByteArray) (q.extract 1 8) (by show 1 + _ ≤ _; omega)
          have HSZ : Hid (((⟨#[50]⟩ : ByteArray) ++ q.extract 1 8).size ≤ 100) := by unfold Hid; rw [ByteArray.size_append]; show 1 + _ ≤ 100; omega
          have h1q : (1 : Int) ≤ 8 := by omega
          go_wp2_with fail
          go_ret
          exact ⟨_, p + 1 + 8 + 1, rfl, HSZ.out, HR3.out, by omega, HA3.out⟩
        · have b0 : (y == 0) = false := beq_false_of_ne h0
          have b1 : (y == 1) = false := beq_false_of_ne h1
          clear hy0 hy1 h0 h1
          go_wp2_with fail
          go_ret
          exact ⟨q, p + 1 + 8 + 1, rfl, by omega, HR3.out, by omega, HA3.out⟩

theorem eight_le (u : ByteArray) (h : u ∈ ([⟨#[48, 48, 48, 48, 48, 49, 49, 49]⟩, ⟨#[48, 48, 48, 49, 48, 49, 49, 49]⟩, ⟨#[48, 48, 48, 49]⟩, ⟨#[48, 49, 49, 49]⟩, ⟨#[48, 49]⟩, ⟨#[48, 48, 48, 48, 48, 48, 48, 48]⟩, ⟨#[48, 49, 49, 49, 49, 49, 49, 49]⟩, ⟨#[48, 48, 49, 49]⟩] : List ByteArray)) : u.size ≤ 8 := by
  simp only [List.mem_cons, List.not_mem_nil, or_false] at h
  rcases h with rfl | rfl | rfl | rfl | rfl | rfl | rfl | rfl <;> decide
set_option maxHeartbeats 2000000 in
set_option maxRecDepth 100000 in
theorem draw_mono (v : Value) (n : Nat) (w : World) (h : ByteArg w v n) :
    Calls Tryd.prog 13 #[v] w fun e w' => ∃ (s : ByteArray), e = .returned (.string s) ∧ s.size ≤ 100 ∧ Below w.heap.size w w' := by
  have HO := Lib.hid (open_any v n w h)
  clear h
  go_enter Tryd.func13, Tryd.ntmps13
  go_wp2_with fail
  refine HO.out.mono ?_
  rintro e w1 ⟨g, rfl, hr, hb, hg⟩
  have HB := Lib.hid hb
  have HG := Lib.hid hg
  have HP := Lib.hid (pick_r g 0 (by omega) 3 w1 hr)
  clear hr hb hg HO
  go_wp2_with fail
  refine HP.out.mono ?_
  rintro e w2 ⟨y, rfl, ⟨hy0, -⟩, hy1, hr, ha⟩
  have HB2 : Hid (Below w.heap.size w w2) := ha.below HB.out HG.out
  clear ha HP HB
  by_cases h0 : y = 0
  · subst h0
    have HN := Lib.hid (of_lit g (0 + 1) (by omega) ([⟨#[48, 48, 48, 48, 48, 49, 49, 49]⟩, ⟨#[48, 48, 48, 49, 48, 49, 49, 49]⟩, ⟨#[48, 48, 48, 49]⟩, ⟨#[48, 49, 49, 49]⟩, ⟨#[48, 49]⟩, ⟨#[48, 48, 48, 48, 48, 48, 48, 48]⟩, ⟨#[48, 49, 49, 49, 49, 49, 49, 49]⟩, ⟨#[48, 48, 49, 49]⟩] : List ByteArray) (by decide) (by decide) 8 w2 hr)
    clear hr hy0 hy1
    go_wp2_with fail
    refine HN.out.mono ?_
    rintro e w3 ⟨u, rfl, hu, hr, ha⟩
    have hu8 := eight_le u hu
    have HB3 : Hid (Below w.heap.size w w3) := ha.below HB2.out HG.out
    clear hr ha hu HN HB2
    go_wp2_with fail
    go_ret
    exact ⟨u, rfl, by omega, HB3.out⟩
  · have b0 : (y == 0) = false := beq_false_of_ne h0
    have HS := Lib.hid (some_any g (0 + 1) (by omega) w2 hr)
    clear hr hy0 hy1 h0
    go_wp2_with fail
    refine HS.out.mono ?_
    rintro e w3 ⟨s, p3, rfl, hs, hr, hp3, ha⟩
    have HB3 : Hid (Below w.heap.size w w3) := ha.below HB2.out HG.out
    clear hr ha HS HB2
    go_wp2_with fail
    go_ret
    exact ⟨s, rfl, hs, HB3.out⟩
end Go.Proofs.YtbhkfibbepocfaaDoor.DrawMo
