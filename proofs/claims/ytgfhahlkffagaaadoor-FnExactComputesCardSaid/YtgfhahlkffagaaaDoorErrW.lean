/-
  For how many inputs a protocol finds another value: the program and the reference.
-/
import Derived.Test.YtgfhahlkffagaaaDoorMatrixOfWalk
import Derived.Test.YtgfhahlkffagaaaDoorJoinWalk
import Derived.Test.YtgfhahlkffagaaaDoorCountWalk
import Derived.Test.YtgfhahlkffagaaaDoorJ8
import Derived.Deep.QuietTactic
import Derived.BigQuiet
namespace Go.Proofs.YtgfhahlkffagaaaDoor.ErrW
open Go.RowKit Go.Shelf Go.Proofs.YtgfhahlkffagaaaDoor.Plain Go.Proofs.YtgfhahlkffagaaaDoor.Base Go.Proofs.YtgfhahlkffagaaaDoor.Valid Go.Proofs.YtgfhahlkffagaaaDoor.Entry Go.Proofs.YtgfhahlkffagaaaDoor.Tree Go.Proofs.YtgfhahlkffagaaaDoor.Read Go.Proofs.YtgfhahlkffagaaaDoor.TreeOf Go.Proofs.YtgfhahlkffagaaaDoor.TreeIn Go.Proofs.YtgfhahlkffagaaaDoor.FreeL Go.Proofs.YtgfhahlkffagaaaDoor.Talk Go.Proofs.YtgfhahlkffagaaaDoor.Join Go.Proofs.YtgfhahlkffagaaaDoor.Ops
open Go.Proofs.YtgfhahlkffagaaaDoor.NodeH (eval_get)
open Go.Proofs.YtgfhahlkffagaaaDoor.SaidMat (mtx said_matrix)
open Go.Proofs.YtgfhahlkffagaaaDoor.Split (wp_skip)
open Go.Proofs.YtgfhahlkffagaaaDoor.fnExactCountOnes (cntI impl_count l1Int_any count_next)
open Go.Proofs.YtgfhahlkffagaaaDoor.Free (fill wp_value wp_enter wp_load_row freeB)
set_option linter.unusedVariables false
set_option linter.unusedSimpArgs false
set_option maxRecDepth 100000

def xorS : ByteArray := ⟨#[120, 111, 114]⟩
theorem known_xor : opKnown xorS = true := by unfold opKnown xorS; rw [ByteArray.toList_eq]; rfl
theorem opB_xor (a b : Bool) : opB xorS a b = !(a == b) := by unfold opB xorS; rw [ByteArray.toList_eq]; cases a <;> cases b <;> rfl
theorem cells3 {w : World} {b : Nat} {c0 c1 c2 : Value} {ty : TypeId} (h : w.heap[b]? = some (.cells #[c0, c1, c2] ty (0, 0))) : w.cell? ⟨b, 0, none⟩ = some c0 ∧ w.cell? ⟨b, 1, none⟩ = some c1 ∧ w.cell? ⟨b, 2, none⟩ = some c2 :=
  ⟨cell_of_row _ _ 0 _ _ _ h, cell_of_row _ _ 1 _ _ _ h, cell_of_row _ _ 2 _ _ _ h⟩
theorem zero_cnt : cntI 0 0 (str []) = -1 := by unfold cntI validB; simp
/-- two values differ where their sum is 1 -/
theorem differ (F E : Nat → Nat → Bool) (r c : Nat) (hc : 1 ≤ c) (k : Nat) (hk : k < r * c) (f e j : ByteArray) (hf : f = str (rowsB F r c)) (he : e = str (rowsB E r c)) (hj : j = str (rowsB (joinE xorS F E) r c)) (h1 : k < f.size) (h2 : k < e.size) (h3 : k < j.size) :
    ((j[k].toNat : Int) == 49) = !((f[k].toNat : Int) == (e[k].toNat : Int)) := by
  have hx : k / c < r := by
    rw [Nat.div_lt_iff_lt_mul (by omega)]
    exact hk
  have hy : k % c < c := Nat.mod_lt _ (by omega)
  have hkk : k / c * c + k % c = k := by rw [Nat.mul_comm]; exact Nat.div_add_mod k c
  have a1 : f[k].toNat = if F (k / c) (k % c) then 49 else 48 := by
    have := byte_xy F r c (k / c) (k % c) f hf hx hy (by rw [hkk]; exact h1)
    simpa only [hkk] using this
  have a2 : e[k].toNat = if E (k / c) (k % c) then 49 else 48 := by
    have := byte_xy E r c (k / c) (k % c) e he hx hy (by rw [hkk]; exact h2)
    simpa only [hkk] using this
  have a3 : j[k].toNat = if joinE xorS F E (k / c) (k % c) then 49 else 48 := by
    have := byte_xy (joinE xorS F E) r c (k / c) (k % c) j hj hx hy (by rw [hkk]; exact h3)
    simpa only [hkk] using this
  rw [a1, a2, a3]
  unfold joinE
  rw [opB_xor]
  cases F (k / c) (k % c) <;> cases E (k / c) (k % c) <;> rfl

set_option maxHeartbeats 2000000 in
theorem impl_err (s : ByteArray) (r c : Int) (ms : ByteArray) (A B : Int) (u : ByteArray) (b : Bool) (A2 B2 : Int) (u2 : ByteArray) (b2 : Bool) (hu2 : u2.size ≤ maxLen)
    (hM : ∀ W : World, Calls Tryd.prog 39 #[.string s, .int .i64 r, .int .i64 c] W fun e w' => e = .returned (.tuple #[mat A B u, .bool b]) ∧ Below W.heap.size W w')
    (hJ : ∀ W : World, Calls Tryd.prog 40 #[.string ⟨#[120, 111, 114]⟩, mat A B u, mat r c ms] W fun e w' => e = .returned (.tuple #[mat A2 B2 u2, .bool b2]) ∧ Below W.heap.size W w') (w : World) :
    Calls Tryd.prog 15 #[.string s, mat r c ms] w fun e w' => e = .returned (.int .i64 (cntI A2 B2 u2)) ∧ Below w.heap.size w w' := by
  have HM := Lib.hid hM
  have HJ := Lib.hid hJ
  have HC := Lib.hid (fun W => impl_count A2 B2 u2 hu2 W)
  generalize cntI A2 B2 u2 = n at *
  obtain ⟨D, hD⟩ : ∃ D, w.heap.size = D := ⟨_, rfl⟩
  clear hM hJ hu2
  go_enter Tryd.func15, Tryd.ntmps15
  go_wp2_with fail
  refine (HM.out _).mono ?_
  rintro e w1 ⟨rfl, hb1⟩
  have n0 := heap_alloc_new w (.cells #[.int .i64 r, .int .i64 c, .string ms] 27)
  have k0 := (hb1.block _ (Array.getElem?_eq_some_iff.1 n0).1).trans n0
  have hB1 := ((Below.refl w.heap.size w).alloc (Nat.le_refl _) (.cells #[.int .i64 r, .int .i64 c, .string ms] 27)).trans (hb1.mono (by simp))
  rw [hD] at k0
  obtain ⟨G, hG⟩ : ∃ G, w1.heap.size = G := ⟨_, rfl⟩
  have hlt : D < w1.heap.size := (Array.getElem?_eq_some_iff.1 k0).1
  have k1 := (heap_alloc_old w1 (.cells #[.int .i64 A, .int .i64 B, .string u] 27) hlt).trans k0
  have n1 := heap_alloc_new w1 (.cells #[.int .i64 A, .int .i64 B, .string u] 27)
  rw [hG] at n1 hlt
  have HB1 := Lib.hid (hB1.alloc hB1.size (.cells #[.int .i64 A, .int .i64 B, .string u] 27))
  obtain ⟨m0, m1, m2⟩ := cells3 k1
  obtain ⟨f0, f1, f2⟩ := cells3 n1
  have hne : D ≠ G := by omega
  have hne2 : G ≠ D := by omega
  clear hb1 n0 k0 hB1 k1 n1 hlt HM hD
  go_wp2_with fail
  generalize w1.alloc (.cells #[.int .i64 A, .int .i64 B, .string u] 27) = w2 at *
  refine (HJ.out _).mono ?_
  rintro e w3 ⟨rfl, hb3⟩
  have HB3 := Lib.hid (HB1.out.trans (hb3.mono HB1.out.size))
  have HB4 := Lib.hid (HB3.out.alloc HB3.out.size (.cells #[.int .i64 A2, .int .i64 B2, .string u2] 27))
  clear hb3 HJ m0 m1 m2 f0 f1 f2 hG
  go_wp2_with fail
  refine (HC.out _).mono ?_
  rintro e w5 ⟨rfl, hb5⟩
  have HB5 := Lib.hid (HB4.out.trans (hb5.mono HB4.out.size))
  clear hb5
  go_wp2_with fail
  go_ret
  exact ⟨rfl, HB5.out⟩

/-- the blocks of the reference's call: the matrix, and the one that is found -/
structure Eb (w wr : World) (B D : Nat) (r c : Int) (ms fs : ByteArray) : Prop where
  arg : wr.heap[B]? = some (.cells #[.int .i64 r, .int .i64 c, .string ms] 27 (0, 0))
  found : wr.heap[D]? = some (.cells #[.int .i64 r, .int .i64 c, .string fs] 27 (0, 0))
  below : Below w.heap.size w wr
theorem Eb.later {w wr w2 : World} {B D : Nat} {r c : Int} {ms fs : ByteArray} (h : Eb w wr B D r c ms fs) (hb : Below wr.heap.size wr w2) : Eb w w2 B D r c ms fs :=
  have k : ∀ {g : Nat} {o : Obj}, wr.heap[g]? = some o → w2.heap[g]? = some o := fun e => (hb.block _ (Array.getElem?_eq_some_iff.1 e).1).trans e
  ⟨k h.arg, k h.found, h.below.trans (hb.mono h.below.size)⟩

set_option maxHeartbeats 4000000 in
theorem spec_no (s : ByteArray) (r c : Int) (ms : ByteArray) (hms : ms.size ≤ maxLen) (b : Bool) (hV : ∀ W : World, Calls Tryd.prog 36 #[.string s] W fun e w' => e = .returned (.bool b) ∧ W = w') (hb : b = false ∨ validB r c ms = false) (w : World) :
    Calls Tryd.prog 14 #[.string s, mat r c ms] w fun e w' => e = .returned (.int .i64 (-1)) ∧ Below w.heap.size w w' := by
  have HV := Lib.hid hV
  have HM := Lib.hid (fun W => spec_valid r c ms hms W)
  obtain ⟨v, hv⟩ : ∃ v, validB r c ms = v := ⟨_, rfl⟩
  rw [hv] at HM hb
  clear hV hv
  cases b
  · clear HM hb
    go_enter Tryd.func14, Tryd.ntmps14
    go_wp2_with fail
    refine (HV.out _).mono ?_
    rintro e w1 ⟨rfl, rfl⟩
    go_wp2_with fail
    go_ret
    exact ⟨rfl, (Below.refl _ _).alloc (Nat.le_refl _) _⟩
  · obtain rfl : v = false := by rcases hb with h | h; cases h; exact h
    clear hb
    obtain ⟨D, hD⟩ : ∃ D, w.heap.size = D := ⟨_, rfl⟩
    have n0 := heap_alloc_new w (.cells #[.int .i64 r, .int .i64 c, .string ms] 27)
    rw [hD] at n0
    obtain ⟨m0, m1, m2⟩ := cells3 n0
    go_enter Tryd.func14, Tryd.ntmps14
    go_wp2_with fail
    refine (HV.out _).mono ?_
    rintro e w1 ⟨rfl, rfl⟩
    go_wp2_with fail
    refine (HM.out _).mono ?_
    rintro e w2 ⟨rfl, hb2⟩
    have HB := Lib.hid (((Below.refl w.heap.size w).alloc (Nat.le_refl _) (.cells #[.int .i64 r, .int .i64 c, .string ms] 27)).trans (hb2.mono (by simp)))
    clear hb2
    go_wp2_with fail
    go_ret
    exact ⟨rfl, HB.out⟩

set_option maxHeartbeats 8000000 in
theorem spec_yes (s : ByteArray) (t : T) (hw : wf t) (h : s.data.toList = text t) (hs : s.size ≤ 2000) (E : Nat → Nat → Bool) (r c : Nat) (hr : 1 ≤ r ∧ r ≤ 8) (hc : 1 ≤ c ∧ c ≤ 8) (hv : validB r c (str (rowsB E r c)) = true) (w : World) :
    Calls Tryd.prog 14 #[.string s, mat r c (str (rowsB E r c))] w fun e w' => e = .returned (.int .i64 ((Lib.countByte (str (rowsB (joinE xorS (fun x y => (talkT t x y).2) E) r c)).data.toList 49 : Nat) : Int)) ∧ Below w.heap.size w w' := by
  have HV := Lib.hid (valid_said s t hw h hs)
  have hl : (text t).length = s.size := by rw [← h]; simp
  have hsE : (str (rowsB E r c)).size = r * c := by rw [str_size, rowsB_length]
  have hsF : (str (rowsB (fun x y => (talkT t x y).2) r c)).size = r * c := by rw [str_size, rowsB_length]
  have hsJ : (str (rowsB (joinE xorS (fun x y => (talkT t x y).2) E) r c)).size = r * c := by rw [str_size, rowsB_length]
  have hrc : r * c ≤ 64 := prod_le hr.2 hc.2
  have HM := Lib.hid (fun W => spec_valid r c (str (rowsB E r c)) (by unfold maxLen; omega) W)
  rw [hv] at HM
  have HF0 := Lib.hid (fun W => said_matrix t hw (by omega) r c hr.2 hc.2 W)
  have HD : Hid (∀ k, k < r * c → ∀ (h1 : k < (str (rowsB (fun x y => (talkT t x y).2) r c)).size) (h2 : k < (str (rowsB E r c)).size) (h3 : k < (str (rowsB (joinE xorS (fun x y => (talkT t x y).2) E) r c)).size), (((str (rowsB (joinE xorS (fun x y => (talkT t x y).2) E) r c))[k].toNat : Int) == 49) = !(((str (rowsB (fun x y => (talkT t x y).2) r c))[k].toNat : Int) == ((str (rowsB E r c))[k].toNat : Int))) :=
    fun k hk h1 h2 h3 => differ (fun x y => (talkT t x y).2) E r c hc.1 k hk _ _ _ rfl rfl rfl h1 h2 h3
  have e : s = str (text t) := eq_str h
  rw [← e] at HF0
  generalize str (rowsB (joinE xorS (fun x y => (talkT t x y).2) E) r c) = js at *
  generalize str (rowsB (fun x y => (talkT t x y).2) r c) = fs at *
  generalize str (rowsB E r c) = ms at *
  unfold mtx at HF0
  generalize hL : r * c = L at *
  obtain ⟨B, hB⟩ : ∃ B, w.heap.size = B := ⟨_, rfl⟩
  have n0 := heap_alloc_new w (.cells #[.int .i64 (r : Int), .int .i64 (c : Int), .string ms] 27)
  rw [hB] at n0
  have HN0 := Lib.hid n0
  obtain ⟨m0, m1, m2⟩ := cells3 n0
  clear n0 h hl e hw hs hv hL
  go_enter Tryd.func14, Tryd.ntmps14
  go_wp2_with fail
  refine (HV.out _).mono ?_
  rintro e w1 ⟨rfl, rfl⟩
  go_wp2_with fail
  refine (HM.out _).mono ?_
  rintro e w2 ⟨rfl, hb2⟩
  have k0 := (hb2.block _ (Array.getElem?_eq_some_iff.1 HN0.out).1).trans HN0.out
  have HB2 := Lib.hid (((Below.refl w.heap.size w).alloc (Nat.le_refl _) (.cells #[.int .i64 (r : Int), .int .i64 (c : Int), .string ms] 27)).trans (hb2.mono (by simp)))
  have HK0 := Lib.hid k0
  clear m0 m1 m2
  obtain ⟨m0, m1, m2⟩ := cells3 k0
  clear hb2 k0 HN0 HM HV
  go_wp2_with fail
  refine (HF0.out _).mono ?_
  rintro e w3 ⟨rfl, hb3⟩
  obtain ⟨D, hD⟩ : ∃ D, w3.heap.size = D := ⟨_, rfl⟩
  have k1 := (hb3.block _ (Array.getElem?_eq_some_iff.1 HK0.out).1).trans HK0.out
  have hlt : B < w3.heap.size := (Array.getElem?_eq_some_iff.1 k1).1
  have n1 := heap_alloc_new w3 (.cells #[.int .i64 (r : Int), .int .i64 (c : Int), .string fs] 27)
  rw [hD] at n1
  have HB3 := Lib.hid (HB2.out.trans (hb3.mono HB2.out.size))
  have HEB : Hid (Eb w (w3.alloc (.cells #[.int .i64 (r : Int), .int .i64 (c : Int), .string fs] 27)) B D r c ms fs) := ⟨(heap_alloc_old w3 _ hlt).trans k1, n1, HB3.out.alloc HB3.out.size _⟩
  clear hb3 k1 n1 hlt HB3 HB2 HK0 m0 m1 m2 HF0 hB
  go_wp2_with fail
  generalize w3.alloc (.cells #[.int .i64 (r : Int), .int .i64 (c : Int), .string fs] 27) = w4 at *
  clear hD
  go_loopw [5, 7] (fun n i wr => ∃ k q : Nat, k ≤ L ∧ q ≤ k ∧ i = .int .i64 (k : Int) ∧ n = .int .i64 (q : Int) ∧ Hid (q = Lib.countByte (js.data.toList.take k) 49) ∧ Hid (Eb w wr B D r c ms fs)) (fun _ i _ => L - (intOf i).toNat)
  case atStart => exact ⟨0, 0, Nat.zero_le _, Nat.le_refl _, rfl, rfl, rfl, HEB.out⟩
  case round =>
    rename_i wr
    obtain ⟨k, q, hk, hq, rfl, rfl, hn, HE⟩ := hrel
    clear HEB
    obtain ⟨m0, m1, m2⟩ := cells3 HE.out.arg
    by_cases hlt : k < L
    · obtain ⟨b, hb⟩ : ∃ b, (((js[k]'(by omega)).toNat : Int) == 49) = b := ⟨_, rfl⟩
      have HN := Lib.hid (count_next js k (by omega) b hb)
      have hd := HD.out k hlt (by omega) (by omega) (by omega)
      rw [hb] at hd
      have hbt : 0 ≤ bitI b ∧ bitI b ≤ 1 := by cases b <;> simp [bitI]
      have HI : Hid (∀ W : World, Calls Tryd.prog 38 #[.bool b] W fun e w' => e = .returned (.int .i64 (bitI b)) ∧ w' = W) := fun W => (l1Int_any b W).mono fun e w' h => ⟨h.1, h.2.symm⟩
      have HX : Hid (((q : Int) + bitI b) = ((q + (bitI b).toNat : Nat) : Int)) := by show _ = _; omega
      have hwx : IntKind.i64.wrap ((q : Int) + bitI b) = (q : Int) + bitI b := by simp only [IntKind.wrap_i64]; omega
      obtain ⟨bi, hbi⟩ : ∃ x, bitI b = x := ⟨_, rfl⟩
      rw [hbi] at HI hbt HX hwx HN
      have HBI := Lib.hid hbi
      have hkf : k < fs.size := by omega
      have hkm : k < ms.size := by omega
      have hkfi : (k : Int) < (fs.size : Int) := by omega
      have hkmi : (k : Int) < (ms.size : Int) := by omega
      obtain ⟨xf, hxf⟩ : ∃ x : Nat, (fs[k]'hkf).toNat = x := ⟨_, rfl⟩
      obtain ⟨xm, hxm⟩ : ∃ x : Nat, (ms[k]'hkm).toNat = x := ⟨_, rfl⟩
      rw [hxf, hxm] at hd
      have hd2 : ((xf : Int) != (xm : Int)) = b := hd.symm
      clear hb hd hbi
      go_wp2_with fail
      obtain ⟨f0, f1, f2⟩ := cells3 HE.out.found
      go_quiet ((go_at_call 38; exact Calls.quiet_of_same (HI.out _)))
      have HE5 : Hid (∀ n, Eb w (wr.drewN n) B D r c ms fs) := fun n => HE.out.later (Go.Proofs.YtgfhahlkffagaaaDoor.Read.drawn_at wr n)
      clear HE HI m0 m1 m2 f0 f1 f2
      go_wp2_with fail
      go_roundw
      case rel => exact ⟨k + 1, q + bi.toNat, by omega, by omega, by go_num, by rw [HX.out], by have := HN.out; have := hn.out; unfold Hid; omega, HE5.out _⟩
      case measure => simp [intOf]; omega
    · obtain hkL : k = L := by omega
      have HQ : Hid (q = Lib.countByte js.data.toList 49) := by
        have h := hn.out
        rw [List.take_of_length_le (by simp; omega)] at h
        exact h
      go_wp2_with fail
      go_ret
      exact ⟨by rw [HQ.out]; rfl, HE.out.below⟩
end Go.Proofs.YtgfhahlkffagaaaDoor.ErrW
