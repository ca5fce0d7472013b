/-
  Texts of one seat, joined: DrawMo, DrawPg.
-/
import Derived.Test.YtbccachkkflceaaGreatDoorJn1
import Derived.Test.YtbccachkkflceaaGreatDoorJn5
import Derived.Test.YtbccachkkflceaaGreatDoorJn8
import Derived.Test.YtbccachkkflceaaGreatDoorJn37
import Derived.Test.YtbccachkkflceaaGreatDoorJn17
/-
  Tables that are drawn: l9Some, DrawIsMonotone.
-/
namespace Go.Proofs.YtbccachkkflceaaGreatDoor.DrawMo
open Go.RowKit Go.Proofs.YtbccachkkflceaaGreatDoor.Plain Go.Proofs.YtbccachkkflceaaGreatDoor.Base Go.Proofs.YtbccachkkflceaaGreatDoor.Rd Go.Proofs.YtbccachkkflceaaGreatDoor.Rd2 Go.Proofs.YtbccachkkflceaaGreatDoor.Rd3 Go.Proofs.YtbccachkkflceaaGreatDoor.DrawT Go.Proofs.YtbccachkkflceaaGreatDoor.DrawFm
set_option linter.unusedVariables false
set_option linter.unusedSimpArgs false

set_option maxHeartbeats 8000000 in
set_option maxRecDepth 100000 in
theorem some_any {lo : Nat} (g p : Nat) (hp : p ≤ 50000) (w : World) (h : Rdr lo w g p) :
    Calls Tryz.prog 60 #[.pointer (some ⟨g, 0, none⟩)] w fun e w' => ∃ (s : ByteArray) (p' : Nat), e = .returned (.string s) ∧ s.size ≤ 100 ∧ Rdr lo w' g p' ∧ p' ≤ p + 100 ∧ Apt g w w' := by
  have HN := Lib.hid (num_lit g p (by omega) [2, 3, 1, 2] (by decide) (by decide) 4 w h)
  clear h
  go_enter Tryz.func60, Tryz.ntmps60
  go_wp2_with fail
  refine HN.out.mono ?_
  rintro e w1 ⟨x, rfl, hx, hr, ha⟩
  have hx3 : x = 1 ∨ x = 2 ∨ x = 3 := by simp at hx; omega
  have HA := Lib.hid ha
  have HR := Lib.hid hr
  clear hr ha HN hx
  obtain ⟨N, hN, hN2, hN8⟩ : ∃ N : Nat, (x = 1 ∧ N = 2 ∨ x = 2 ∧ N = 4 ∨ x = 3 ∧ N = 8) ∧ 2 ≤ N ∧ N ≤ 8 := by
    rcases hx3 with rfl | rfl | rfl
    · exact ⟨2, .inl ⟨rfl, rfl⟩, by omega, by omega⟩
    · exact ⟨4, .inr (.inl ⟨rfl, rfl⟩), by omega, by omega⟩
    · exact ⟨8, .inr (.inr ⟨rfl, rfl⟩), by omega, by omega⟩
  clear hx3
  rcases hN with ⟨rfl, rfl⟩ | ⟨rfl, rfl⟩ | ⟨rfl, rfl⟩
  · go_wp2_with fail
    go_loopw [3, 4] (fun o i wr => ∃ (k : Nat) (q : ByteArray), k ≤ 2 ∧ o = .string q ∧ q.size + k = 2 ∧ i = .int .i64 (k : Int) ∧ Rdr lo wr g (p + 1 + (2 - k)) ∧ Apt g w wr) (fun _ i _ => (intOf i).toNat)
    case atStart => exact ⟨2, ⟨#[]⟩, by omega, rfl, rfl, rfl, by simpa using HR.out, HA.out⟩
    case round =>
      obtain ⟨k, q, hk, rfl, hq, rfl, hr, ha⟩ := hrel
      have HAr := Lib.hid ha
      clear ha
      by_cases hlt : 0 < k
      · have HP := Lib.hid (pick_r g (p + 1 + (2 - k)) (by omega) 2 _ hr)
        clear hr HR HA
        go_wp2_with fail
        refine HP.out.mono ?_
        rintro e w3 ⟨y, rfl, ⟨hy0, -⟩, hy1, hr, ha⟩
        have HR3 := Lib.hid hr
        have HA3 := Lib.hid (HAr.out.trans ha)
        obtain ⟨d, hd⟩ : ∃ d : Bool, (y == 0) = d := ⟨_, rfl⟩
        have hcat := fun W => run_string_add_sum (P := Tryz.prog) (w := W) q ⟨#[dig d]⟩ (by show _ + 1 ≤ _; omega)
        have hsz : (q ++ ⟨#[dig d]⟩).size + (k - 1) = 2 := by rw [ByteArray.size_append]; show q.size + 1 + (k - 1) = 2; omega
        have HSZ := Lib.hid hsz
        have HRN : Hid (Rdr lo w3 g (p + 1 + (2 - (k - 1)))) := by unfold Hid; rw [show p + 1 + (2 - (k - 1)) = p + 1 + (2 - k) + 1 by omega]; exact HR3.out
        clear hr ha HP HAr HR3 hsz
        go_wp2_with fail
        refine (l1Bit_any d _).mono ?_
        rintro e w4 ⟨rfl, rfl⟩
        go_wp2_with fail
        go_roundw
        case rel => exact ⟨k - 1, _, by omega, rfl, HSZ.out, by go_num, HRN.out, HA3.out⟩
        case measure => simp [intOf]; omega
      · obtain rfl : k = 0 := by omega
        have HP := Lib.hid (pick_r g (p + 1 + 2) (by omega) 24 _ hr)
        clear hr HR HA
        have hsq : q.size = 2 := hq
        clear hq
        go_wp2_with fail
        refine HP.out.mono ?_
        rintro e w3 ⟨y, rfl, ⟨hy0, -⟩, hy1, hr, ha⟩
        have HR3 := Lib.hid hr
        have HA3 := Lib.hid (HAr.out.trans ha)
        clear hr ha HP HAr
        by_cases h0 : y = 0
        · subst h0
          clear hy0 hy1
          have hcat := fun W => run_string_add_sum (P := Tryz.prog) (w := W) q (⟨#[48]⟩ : ByteArray) (by show _ + 1 ≤ _; omega)
          have HSZ : Hid ((q ++ (⟨#[48]⟩ : ByteArray)).size ≤ 100) := by unfold Hid; rw [ByteArray.size_append]; show q.size + 1 ≤ 100; omega
          go_wp2_with fail
          go_ret
          exact ⟨_, p + 1 + 2 + 1, rfl, HSZ.out, HR3.out, by omega, HA3.out⟩
        by_cases h1 : y = 1
        · subst h1
          clear hy0 hy1 h0
          have hex : (q.extract 1 2).size ≤ 8 := by rw [ByteArray.size_extract]; omega
          have hcat := fun W => run_string_add_sum (P := Tryz.prog) (w := W) (⟨#[50]⟩ : ByteArray) (q.extract 1 2) (by show 1 + _ ≤ _; omega)
          have HSZ : Hid (((⟨#[50]⟩ : ByteArray) ++ q.extract 1 2).size ≤ 100) := by unfold Hid; rw [ByteArray.size_append]; show 1 + _ ≤ 100; omega
          have h1q : (1 : Int) ≤ 2 := by omega
          go_wp2_with fail
          go_ret
          exact ⟨_, p + 1 + 2 + 1, rfl, HSZ.out, HR3.out, by omega, HA3.out⟩
        · have b0 : (y == 0) = false := beq_false_of_ne h0
          have b1 : (y == 1) = false := beq_false_of_ne h1
          clear hy0 hy1 h0 h1
          go_wp2_with fail
          go_ret
          exact ⟨q, p + 1 + 2 + 1, rfl, by omega, HR3.out, by omega, HA3.out⟩
  · go_wp2_with fail
    go_loopw [3, 4] (fun o i wr => ∃ (k : Nat) (q : ByteArray), k ≤ 4 ∧ o = .string q ∧ q.size + k = 4 ∧ i = .int .i64 (k : Int) ∧ Rdr lo wr g (p + 1 + (4 - k)) ∧ Apt g w wr) (fun _ i _ => (intOf i).toNat)
    case atStart => exact ⟨4, ⟨#[]⟩, by omega, rfl, rfl, rfl, by simpa using HR.out, HA.out⟩
    case round =>
      obtain ⟨k, q, hk, rfl, hq, rfl, hr, ha⟩ := hrel
      have HAr := Lib.hid ha
      clear ha
      by_cases hlt : 0 < k
      · have HP := Lib.hid (pick_r g (p + 1 + (4 - k)) (by omega) 2 _ hr)
        clear hr HR HA
        go_wp2_with fail
        refine HP.out.mono ?_
        rintro e w3 ⟨y, rfl, ⟨hy0, -⟩, hy1, hr, ha⟩
        have HR3 := Lib.hid hr
        have HA3 := Lib.hid (HAr.out.trans ha)
        obtain ⟨d, hd⟩ : ∃ d : Bool, (y == 0) = d := ⟨_, rfl⟩
        have hcat := fun W => run_string_add_sum (P := Tryz.prog) (w := W) q ⟨#[dig d]⟩ (by show _ + 1 ≤ _; omega)
        have hsz : (q ++ ⟨#[dig d]⟩).size + (k - 1) = 4 := by rw [ByteArray.size_append]; show q.size + 1 + (k - 1) = 4; omega
        have HSZ := Lib.hid hsz
        have HRN : Hid (Rdr lo w3 g (p + 1 + (4 - (k - 1)))) := by unfold Hid; rw [show p + 1 + (4 - (k - 1)) = p + 1 + (4 - k) + 1 by omega]; exact HR3.out
        clear hr ha HP HAr HR3 hsz
        go_wp2_with fail
        refine (l1Bit_any d _).mono ?_
        rintro e w4 ⟨rfl, rfl⟩
        go_wp2_with fail
        go_roundw
        case rel => exact ⟨k - 1, _, by omega, rfl, HSZ.out, by go_num, HRN.out, HA3.out⟩
        case measure => simp [intOf]; omega
      · obtain rfl : k = 0 := by omega
        have HP := Lib.hid (pick_r g (p + 1 + 4) (by omega) 24 _ hr)
        clear hr HR HA
        have hsq : q.size = 4 := hq
        clear hq
        go_wp2_with fail
        refine HP.out.mono ?_
        rintro e w3 ⟨y, rfl, ⟨hy0, -⟩, hy1, hr, ha⟩
        have HR3 := Lib.hid hr
        have HA3 := Lib.hid (HAr.out.trans ha)
        clear hr ha HP HAr
        by_cases h0 : y = 0
        · subst h0
          clear hy0 hy1
          have hcat := fun W => run_string_add_sum (P := Tryz.prog) (w := W) q (⟨#[48]⟩ : ByteArray) (by show _ + 1 ≤ _; omega)
          have HSZ : Hid ((q ++ (⟨#[48]⟩ : ByteArray)).size ≤ 100) := by unfold Hid; rw [ByteArray.size_append]; show q.size + 1 ≤ 100; omega
          go_wp2_with fail
          go_ret
          exact ⟨_, p + 1 + 4 + 1, rfl, HSZ.out, HR3.out, by omega, HA3.out⟩
        by_cases h1 : y = 1
        · subst h1
          clear hy0 hy1 h0
          have hex : (q.extract 1 4).size ≤ 8 := by rw [ByteArray.size_extract]; omega
          have hcat := fun W => run_string_add_sum (P := Tryz.prog) (w := W) (⟨#[50]⟩ : ByteArray) (q.extract 1 4) (by show 1 + _ ≤ _; omega)
          have HSZ : Hid (((⟨#[50]⟩ : ByteArray) ++ q.extract 1 4).size ≤ 100) := by unfold Hid; rw [ByteArray.size_append]; show 1 + _ ≤ 100; omega
          have h1q : (1 : Int) ≤ 4 := by omega
          go_wp2_with fail
          go_ret
          exact ⟨_, p + 1 + 4 + 1, rfl, HSZ.out, HR3.out, by omega, HA3.out⟩
        · have b0 : (y == 0) = false := beq_false_of_ne h0
          have b1 : (y == 1) = false := beq_false_of_ne h1
          clear hy0 hy1 h0 h1
          go_wp2_with fail
          go_ret
          exact ⟨q, p + 1 + 4 + 1, rfl, by omega, HR3.out, by omega, HA3.out⟩
  · go_wp2_with fail
    go_loopw [3, 4] (fun o i wr => ∃ (k : Nat) (q : ByteArray), k ≤ 8 ∧ o = .string q ∧ q.size + k = 8 ∧ i = .int .i64 (k : Int) ∧ Rdr lo wr g (p + 1 + (8 - k)) ∧ Apt g w wr) (fun _ i _ => (intOf i).toNat)
    case atStart => exact ⟨8, ⟨#[]⟩, by omega, rfl, rfl, rfl, by simpa using HR.out, HA.out⟩
    case round =>
      obtain ⟨k, q, hk, rfl, hq, rfl, hr, ha⟩ := hrel
      have HAr := Lib.hid ha
      clear ha
      by_cases hlt : 0 < k
      · have HP := Lib.hid (pick_r g (p + 1 + (8 - k)) (by omega) 2 _ hr)
        clear hr HR HA
        go_wp2_with fail
        refine HP.out.mono ?_
        rintro e w3 ⟨y, rfl, ⟨hy0, -⟩, hy1, hr, ha⟩
        have HR3 := Lib.hid hr
        have HA3 := Lib.hid (HAr.out.trans ha)
        obtain ⟨d, hd⟩ : ∃ d : Bool, (y == 0) = d := ⟨_, rfl⟩
        have hcat := fun W => run_string_add_sum (P := Tryz.prog) (w := W) q ⟨#[dig d]⟩ (by show _ + 1 ≤ _; omega)
        have hsz : (q ++ ⟨#[dig d]⟩).size + (k - 1) = 8 := by rw [ByteArray.size_append]; show q.size + 1 + (k - 1) = 8; omega
        have HSZ := Lib.hid hsz
        have HRN : Hid (Rdr lo w3 g (p + 1 + (8 - (k - 1)))) := by unfold Hid; rw [show p + 1 + (8 - (k - 1)) = p + 1 + (8 - k) + 1 by omega]; exact HR3.out
        clear hr ha HP HAr HR3 hsz
        go_wp2_with fail
        refine (l1Bit_any d _).mono ?_
        rintro e w4 ⟨rfl, rfl⟩
        go_wp2_with fail
        go_roundw
        case rel => exact ⟨k - 1, _, by omega, rfl, HSZ.out, by go_num, HRN.out, HA3.out⟩
        case measure => simp [intOf]; omega
      · obtain rfl : k = 0 := by omega
        have HP := Lib.hid (pick_r g (p + 1 + 8) (by omega) 24 _ hr)
        clear hr HR HA
        have hsq : q.size = 8 := hq
        clear hq
        go_wp2_with fail
        refine HP.out.mono ?_
        rintro e w3 ⟨y, rfl, ⟨hy0, -⟩, hy1, hr, ha⟩
        have HR3 := Lib.hid hr
        have HA3 := Lib.hid (HAr.out.trans ha)
        clear hr ha HP HAr
        by_cases h0 : y = 0
        · subst h0
          clear hy0 hy1
          have hcat := fun W => run_string_add_sum (P := Tryz.prog) (w := W) q (⟨#[48]⟩ : ByteArray) (by show _ + 1 ≤ _; omega)
          have HSZ : Hid ((q ++ (⟨#[48]⟩ : ByteArray)).size ≤ 100) := by unfold Hid; rw [ByteArray.size_append]; show q.size + 1 ≤ 100; omega
          go_wp2_with fail
          go_ret
          exact ⟨_, p + 1 + 8 + 1, rfl, HSZ.out, HR3.out, by omega, HA3.out⟩
        by_cases h1 : y = 1
        · subst h1
          clear hy0 hy1 h0
          have hex : (q.extract 1 8).size ≤ 8 := by rw [ByteArray.size_extract]; omega
          have hcat := fun W => run_string_add_sum (P := Tryz.prog) (w := W) (⟨#[50]⟩ : ByteArray) (q.extract 1 8) (by show 1 + _ ≤ _; omega)
          have HSZ : Hid (((⟨#[50]⟩ : ByteArray) ++ q.extract 1 8).size ≤ 100) := by unfold Hid; rw [ByteArray.size_append]; show 1 + _ ≤ 100; omega
          have h1q : (1 : Int) ≤ 8 := by omega
          go_wp2_with fail
          go_ret
          exact ⟨_, p + 1 + 8 + 1, rfl, HSZ.out, HR3.out, by omega, HA3.out⟩
        · have b0 : (y == 0) = false := beq_false_of_ne h0
          have b1 : (y == 1) = false := beq_false_of_ne h1
          clear hy0 hy1 h0 h1
          go_wp2_with fail
          go_ret
          exact ⟨q, p + 1 + 8 + 1, rfl, by omega, HR3.out, by omega, HA3.out⟩

theorem eight_le (u : ByteArray) (h : u ∈ ([⟨#[48, 48, 48, 48, 48, 49, 49, 49]⟩, ⟨#[48, 48, 48, 49, 48, 49, 49, 49]⟩, ⟨#[48, 48, 48, 49]⟩, ⟨#[48, 49, 49, 49]⟩, ⟨#[48, 49]⟩, ⟨#[48, 48, 48, 48, 48, 48, 48, 48]⟩, ⟨#[48, 49, 49, 49, 49, 49, 49, 49]⟩, ⟨#[48, 48, 49, 49]⟩] : List ByteArray)) : u.size ≤ 8 := by
  simp only [List.mem_cons, List.not_mem_nil, or_false] at h
  rcases h with rfl | rfl | rfl | rfl | rfl | rfl | rfl | rfl <;> decide
end Go.Proofs.YtbccachkkflceaaGreatDoor.DrawMo

/-
  Protocols and tables that are drawn: DrawPlaysGame, DrawGameFormula.
-/
namespace Go.Proofs.YtbccachkkflceaaGreatDoor.DrawPg
open Go.RowKit Go.Proofs.YtbccachkkflceaaGreatDoor.Plain Go.Proofs.YtbccachkkflceaaGreatDoor.Rd Go.Proofs.YtbccachkkflceaaGreatDoor.Rd2 Go.Proofs.YtbccachkkflceaaGreatDoor.Rd3 Go.Proofs.YtbccachkkflceaaGreatDoor.DrawT
set_option linter.unusedVariables false
set_option linter.unusedSimpArgs false

set_option maxHeartbeats 8000000 in
set_option maxRecDepth 100000 in
theorem draw_plays (v : Value) (n : Nat) (w : World) (h : ByteArg w v n) :
    Calls Tryz.prog 33 #[v] w fun e w' => ∃ (s q : ByteArray), e = .returned (.tuple #[.string s, .string q]) ∧ s.size ≤ 1000 ∧ q.size ≤ 1000 ∧ Below w.heap.size w w' := by
  have HO := Lib.hid (open_any v n w h)
  clear h
  go_enter Tryz.func33, Tryz.ntmps33
  go_wp2_with fail
  refine HO.out.mono ?_
  rintro e w0 ⟨g, rfl, hr, hb, hg⟩
  have HB := Lib.hid hb
  have HG := Lib.hid hg
  have HP1 := Lib.hid (pick_r g 0 (by omega) 3 w0 hr)
  clear hr hb HO hg
  go_wp2_with fail
  refine HP1.out.mono ?_
  rintro e w1 ⟨x, rfl, ⟨hx0, hxm⟩, hx1, hr, ha⟩
  have HA1 := Lib.hid ha
  have HP2 := Lib.hid (pick_r g (0 + 1) (by omega) 3 w1 hr)
  obtain ⟨kx, rfl⟩ := Int.eq_ofNat_of_zero_le hx0
  have hkx : kx < 3 := by omega
  clear hr ha HP1 hx0 hxm hx1
  go_wp2_with fail
  refine HP2.out.mono ?_
  rintro e w2 ⟨y, rfl, ⟨hy0, hym⟩, hy1, hr, ha⟩
  have HA2 := Lib.hid (HA1.out.trans ha)
  obtain ⟨ky, rfl⟩ := Int.eq_ofNat_of_zero_le hy0
  have hky : ky < 3 := by omega
  have ex : (1 : Int) + (kx : Int) = ((kx + 1 : Nat) : Int) := by omega
  have ey : (1 : Int) + (ky : Int) = ((ky + 1 : Nat) : Int) := by omega
  have hcy : DrawFm.cost (ky + 1) ≤ 400 := DrawFm.cost_le ⟨ky + 1, by omega⟩
  have HD := Lib.hid (DrawFm.draw_tree (kx + 1) (by omega) (by omega) (ky + 1) (by omega) g (0 + 1 + 1) (by omega) w2 hr)
  have HTB := Lib.hid (fun (t : Fm.F) (hw : Fm.wf 3 t) (hl : (Fm.text t).length ≤ 2000) W => FmTab.said_table (kx + 1) (2 ^ (kx + 1)) (by omega) (by omega) rfl t hw hl W)
  have hN : 2 ^ (kx + 1) ≤ 8 := by
    have : ∀ k : Fin 3, 2 ^ (k.1 + 1) ≤ 8 := by decide
    exact this ⟨kx, hkx⟩
  obtain ⟨X, hX⟩ : ∃ X : Int, ((kx + 1 : Nat) : Int) = X := ⟨_, rfl⟩
  obtain ⟨Y, hY⟩ : ∃ Y : Int, ((ky + 1 : Nat) : Int) = Y := ⟨_, rfl⟩
  rw [hX] at ex HTB
  rw [hY] at ey
  have hkx3 : kx + 1 ≤ 3 := by omega
  have hky3 : ky + 1 ≤ 3 := by omega
  rw [hX, hY] at HD
  clear hr ha HP2 hy0 hym hy1 HA1 hX hY
  go_wp2_with fail
  refine HD.out.mono ?_
  rintro e w3 ⟨t, p3, rfl, hwt, hdt, hr, hp3, ha⟩
  have HA3 := Lib.hid (HA2.out.trans ha)
  have hl := DrawFm.len_pow t (ky + 1) hdt (by omega)
  have hwf := Fm.wf_mono hkx3 t hwt
  have HGM := Lib.hid (GmS.game_said t hwf (by omega))
  have HTT := Lib.hid (HTB.out t hwf (by omega))
  have hlen := GmM.game_length t (by omega)
  have h2 : (str (Tree.text (GmM.gameT t))).size ≤ 400 := by rw [str_size]; omega
  have h3 : (str (FmTab.tabL t (2 ^ (kx + 1)))).size ≤ 8 := by rw [str_size, FmTab.tabL_length]; exact hN
  have HP4 := Lib.hid (pick_r g p3 (by omega) 5 w3 hr)
  generalize str (Tree.text (GmM.gameT t)) = s0 at *
  generalize str (FmTab.tabL t (2 ^ (kx + 1))) = q0 at *
  generalize str (Fm.text t) = f0 at *
  clear hr ha HD HA2 HTB hl hwf hlen hwt hdt ex ey hkx hky hkx3 hky3 hN
  go_wp2_with fail
  refine HP4.out.mono ?_
  rintro e w5 ⟨z, rfl, ⟨hz0, hzm⟩, hz1, hr, ha⟩
  have HA5 := Lib.hid (HA3.out.trans ha)
  have HR5 := Lib.hid hr
  have hp5 : p3 ≤ 402 := by omega
  clear hr ha HP4 HA3 hp3 hcy
  by_cases hzz : z = 0
  · subst hzz
    have HO1 := Lib.hid (DrawGm.open10_any g (p3 + 1) (by omega) w5 HR5.out)
    clear hz0 hzm hz1 HGM HTT h2 h3
    go_wp2_with fail
    refine HO1.out.mono ?_
    rintro e w6 ⟨s, p6, rfl, hs, hr, hp6, ha⟩
    have HA6 := Lib.hid (HA5.out.trans ha)
    have HS := Lib.hid (DrawMo.some_any g p6 (by omega) w6 hr)
    clear hr ha HO1 HA5 HR5
    go_wp2_with fail
    refine HS.out.mono ?_
    rintro e w7 ⟨q, p7, rfl, hq, hr, hp7, ha⟩
    have HB7 : Hid (Below w.heap.size w w7) := (HA6.out.trans ha).below HB.out HG.out
    clear hr ha HS HA6 HB HG
    go_wp2_with fail
    go_returns
    exact ⟨s, q, rfl, hs, by omega, HB7.out⟩
  · have HB5 : Hid (Below w.heap.size w w5) := HA5.out.below HB.out HG.out
    clear hz0 hzm hz1 HA5 HB HG HR5
    go_wp2_with fail
    refine (HGM.out _).mono ?_
    rintro e w6 ⟨rfl, hb6⟩
    have HB6 : Hid (Below w.heap.size w w6) := HB5.out.trans (hb6.mono HB5.out.size)
    clear hb6 HB5
    go_wp2_with fail
    refine (HTT.out _).mono ?_
    rintro e w7 ⟨rfl, hb7⟩
    have HB7 : Hid (Below w.heap.size w w7) := HB6.out.trans (hb7.mono HB6.out.size)
    clear hb7 HB6
    go_wp2_with fail
    go_returns
    exact ⟨s0, q0, rfl, by omega, by omega, HB7.out⟩
set_option maxHeartbeats 1000000 in
theorem draw_gf (v : Value) (n : Nat) (w : World) (h : ByteArg w v n) :
    Calls Tryz.prog 15 #[v] w fun e w' => ∃ (s q : ByteArray), e = .returned (.tuple #[.string s, .string q]) ∧ s.size ≤ 1000 ∧ q.size ≤ 1000 ∧ Below w.heap.size w w' := by
  have HO := Lib.hid (draw_plays v n w h)
  clear h
  go_enter Tryz.func15, Tryz.ntmps15
  go_wp2_with fail
  refine HO.out.mono ?_
  rintro e w1 ⟨s, q, rfl, hs, hq, hb⟩
  have HB := Lib.hid hb
  clear hb
  go_wp2_with fail
  go_returns
  exact ⟨s, q, rfl, hs, hq, HB.out⟩
end Go.Proofs.YtbccachkkflceaaGreatDoor.DrawPg

