/-
  What the reference says of a talk: the bits for two inputs, and the value.
-/
import Derived.Test.YtbccachkkflceaaDoorGSetW
import Derived.Test.YtbccachkkflceaaDoorRect
namespace Go.Proofs.YtbccachkkflceaaDoor.Talk
open Go.RowKit Go.Shelf Go.Proofs.YtbccachkkflceaaDoor.Plain Go.Proofs.YtbccachkkflceaaDoor.Tree Go.Proofs.YtbccachkkflceaaDoor.Hex Go.Proofs.YtbccachkkflceaaDoor.Read Go.Proofs.YtbccachkkflceaaDoor.Parts Go.Proofs.YtbccachkkflceaaDoor.SetW Go.Proofs.YtbccachkkflceaaDoor.Rect
set_option linter.unusedVariables false
set_option linter.unusedSimpArgs false

/-- whether a bit is 1 -/
def saysB (a : Bool) (s x y : Nat) : Bool := if a then s.testBit x else s.testBit y
/-- the bits that are said for two inputs, and the value -/
def talkT : T → Nat → Nat → List Bool × V3
  | .leaf b, _, _ => ([], b)
  | .say a s z o, x, y => if saysB a s x y then (true :: (talkT o x y).1, (talkT o x y).2) else (false :: (talkT z x y).1, (talkT z x y).2)
theorem talk_length : ∀ (t : T) (x y : Nat), (talkT t x y).1.length ≤ (text t).length
  | .leaf _, _, _ => by simp [talkT]
  | .say a s z o, x, y => by
    have h1 := talk_length z x y
    have h2 := talk_length o x y
    unfold talkT
    split <;> simp only [text, List.length_cons, List.length_append] <;> omega
/-- bits as a text -/
def bitsS (l : List Bool) : ByteArray := str (l.map dig)
theorem bitsS_next (l : List Bool) (b : Bool) : bitsS l ++ ⟨#[dig b]⟩ = bitsS (l ++ [b]) := by
  unfold bitsS
  rw [str_one, str_append, List.map_append]
  rfl
theorem bitsS_size (l : List Bool) : (bitsS l).size = l.length := by unfold bitsS; rw [str_size]; simp

set_option maxHeartbeats 2000000 in
set_option maxRecDepth 100000 in
theorem says_w (a : Bool) (v : Nat) (z o : T) (hv : v < 256) (s : ByteArray) (h : s.data.toList = text (.say a v z o)) (hs : s.size ≤ 1048576) (x y : Nat) (hx : x < 8) (hy : y < 8) (w : World) :
    Calls Tryd.prog 61 #[.string s, .int .i64 (x : Int), .int .i64 (y : Int)] w fun e w' => e = .returned (.bool (saysB a v x y)) ∧ Below w.heap.size w w' := by
  have HS := Lib.hid (set_said a v z o hv s h hs)
  obtain ⟨hk, hx0⟩ := at_drop (s := s) (k := 0) (c := whoB a) (r := hexD (v / 16) :: hexD (v % 16) :: (text z ++ text o)) (by rw [List.drop_zero, h]; rfl)
  have hn : (s[0]'hk).toNat = (whoB a).toNat := by rw [hx0]
  have HN := Lib.hid hn
  have HX := Lib.hid (l2In_any v x hv hx)
  have HY := Lib.hid (l2In_any v y hv hy)
  clear h hx0 hn
  cases a
  · have hn : (s[0]'hk).toNat = 66 := HN.out
    show Calls _ _ _ _ fun e w' => e = .returned (.bool (v.testBit y)) ∧ _
    go_enter Tryd.func61, Tryd.ntmps61
    go_wp2_with fail
    refine (HS.out _).mono ?_
    rintro e w1 ⟨rfl, hb1⟩
    have HB := Lib.hid hb1
    clear hb1
    go_wp2_with fail
    refine (HY.out _).mono ?_
    rintro e w2 ⟨rfl, rfl⟩
    go_wp2_with fail
    go_ret
    exact ⟨rfl, HB.out⟩
  · have hn : (s[0]'hk).toNat = 65 := HN.out
    show Calls _ _ _ _ fun e w' => e = .returned (.bool (v.testBit x)) ∧ _
    go_enter Tryd.func61, Tryd.ntmps61
    go_wp2_with fail
    refine (HS.out _).mono ?_
    rintro e w1 ⟨rfl, hb1⟩
    have HB := Lib.hid hb1
    clear hb1
    go_wp2_with fail
    refine (HX.out _).mono ?_
    rintro e w2 ⟨rfl, rfl⟩
    go_wp2_with fail
    go_ret
    exact ⟨rfl, HB.out⟩

set_option maxHeartbeats 4000000 in
set_option maxRecDepth 100000 in
theorem said_talk (t : T) (hw : wf t) (hl : (text t).length ≤ 2000) (x y : Nat) (hx : x < 8) (hy : y < 8) (w : World) :
    Calls Tryd.prog 40 #[.string (str (text t)), .int .i64 (x : Int), .int .i64 (y : Int)] w fun e w' => e = .returned (.tuple #[.string (bitsS (talkT t x y).1), .int .i64 (gI (talkT t x y).2)]) ∧ Below w.heap.size w w' := by
  have hlen := Nat.le_trans (talk_length t x y) hl
  obtain ⟨res, hres⟩ : ∃ res, talkT t x y = res := ⟨_, rfl⟩
  rw [hres] at hlen ⊢
  have HR := Lib.hid hres
  clear hres
  go_enter Tryd.func40, Tryd.ntmps40
  go_wp2_with fail
  go_loopw [0, 8] (fun p l wr => ∃ (u : T) (d : List Bool), Hid (wf u ∧ (text u).length ≤ 2000 ∧ d ++ (talkT u x y).1 = res.1 ∧ (talkT u x y).2 = res.2) ∧ p = .string (str (text u)) ∧ l = .string (bitsS d) ∧ Hid (Below w.heap.size w wr)) (fun p _ _ => match p with | .string s => s.size | _ => 0)
  case atStart => exact ⟨t, [], ⟨hw, hl, by rw [HR.out]; rfl, by rw [HR.out]⟩, rfl, rfl, Below.refl _ _⟩
  case round =>
    obtain ⟨u, d, HU, rfl, rfl, HB⟩ := hrel
    cases u with
    | leaf b =>
      have HL : Hid (∀ W, Calls Tryd.prog 46 #[.string (str (text (.leaf b)))] W fun e w' => e = .returned (.bool true) ∧ W = w') := leaf_yes _ (by rw [str_size]; rfl)
      obtain ⟨hk, hx0⟩ := at_drop (s := str (text (.leaf b))) (k := 0) (c := gD b) (r := []) (by rw [str_data]; rfl)
      have hn : ((str (text (.leaf b)))[0]'hk).toNat = (gD b).toNat := by rw [hx0]
      have hd : d = res.1 := by have := HU.out.2.2.1; simpa [talkT] using this
      have hb : b = res.2 := HU.out.2.2.2
      have HD := Lib.hid hd
      have HE := Lib.hid hb
      have HO : Hid (bitsS res.1 = bitsS d) := by show _ = _; rw [hd]
      have i0 : (0 : Int) < ((str (text (.leaf b))).size : Int) := by omega
      generalize str (text (.leaf b)) = s at *
      generalize bitsS d = o at *
      clear hx0 hd hb HU hw hl
      cases b
      · have hn' : (s[0]'hk).toNat = 48 := hn
        clear hn
        go_wp2_with fail
        refine (HL.out _).mono ?_
        rintro e w' ⟨rfl, rfl⟩
        go_wp2_with fail
        go_quiet (fail)
        go_wp2_with fail
        go_returns
        exact ⟨by rw [HO.out, ← HE.out]; rfl, HB.out.trans ((drawn_at _ _).mono HB.out.size)⟩
      · have hn' : (s[0]'hk).toNat = 49 := hn
        clear hn
        go_wp2_with fail
        refine (HL.out _).mono ?_
        rintro e w' ⟨rfl, rfl⟩
        go_wp2_with fail
        go_quiet (fail)
        go_wp2_with fail
        go_returns
        exact ⟨by rw [HO.out, ← HE.out]; rfl, HB.out.trans ((drawn_at _ _).mono HB.out.size)⟩
      · have hn' : (s[0]'hk).toNat = 50 := hn
        clear hn
        go_wp2_with fail
        refine (HL.out _).mono ?_
        rintro e w' ⟨rfl, rfl⟩
        go_wp2_with fail
        go_quiet (fail)
        go_wp2_with fail
        go_returns
        exact ⟨by rw [HO.out, ← HE.out]; rfl, HB.out.trans ((drawn_at _ _).mono HB.out.size)⟩
    | say a v z o =>
      obtain ⟨hwu, hlu, hd, hr⟩ := HU.out
      have hlz : (text (.say a v z o)).length = (text z).length + (text o).length + 3 := by simp [text]
      have HL : Hid (∀ W, Calls Tryd.prog 46 #[.string (str (text (.say a v z o)))] W fun e w' => e = .returned (.bool false) ∧ W = w') := leaf_no _ (by rw [str_size]; omega)
      have HP := Lib.hid (parts_w a v z o hwu.2.1 (str (text (.say a v z o))) (str_data _) (by rw [str_size]; omega))
      have HSy := Lib.hid (says_w a v z o hwu.1 (str (text (.say a v z o))) (str_data _) (by rw [str_size]; omega) x y hx hy)
      have hdl : d.length ≤ 2000 := by have := congrArg List.length hd; rw [List.length_append] at this; omega
      have hds : (bitsS d).size ≤ 2000 := by rw [bitsS_size]; exact hdl
      have k1 := fun W => run_string_add_sum (P := Tryd.prog) (w := W) (bitsS d) (⟨#[49]⟩ : ByteArray) (by show _ + 1 ≤ _; omega)
      have k0 := fun W => run_string_add_sum (P := Tryd.prog) (w := W) (bitsS d) (⟨#[48]⟩ : ByteArray) (by show _ + 1 ≤ _; omega)
      have HN1 : Hid (bitsS d ++ (⟨#[49]⟩ : ByteArray) = bitsS (d ++ [true])) := bitsS_next d true
      have HN0 : Hid (bitsS d ++ (⟨#[48]⟩ : ByteArray) = bitsS (d ++ [false])) := bitsS_next d false
      have m1 : (str (text o)).size < (str (text (.say a v z o))).size := by rw [str_size, str_size]; omega
      have m0 : (str (text z)).size < (str (text (.say a v z o))).size := by rw [str_size, str_size]; omega
      have M1 := Lib.hid m1
      have M0 := Lib.hid m0
      obtain ⟨b, hb⟩ : ∃ b, saysB a v x y = b := ⟨_, rfl⟩
      rw [hb] at HSy
      have ht : talkT (.say a v z o) x y = if b then (true :: (talkT o x y).1, (talkT o x y).2) else (false :: (talkT z x y).1, (talkT z x y).2) := by rw [← hb]; rfl
      rw [ht] at hd hr
      have G1 : Hid (b = true → wf o ∧ (text o).length ≤ 2000 ∧ (d ++ [true]) ++ (talkT o x y).1 = res.1 ∧ (talkT o x y).2 = res.2) := fun e => by subst e; exact ⟨hwu.2.2, by omega, by rw [List.append_assoc]; exact hd, hr⟩
      have G0 : Hid (b = false → wf z ∧ (text z).length ≤ 2000 ∧ (d ++ [false]) ++ (talkT z x y).1 = res.1 ∧ (talkT z x y).2 = res.2) := fun e => by subst e; exact ⟨hwu.2.1, by omega, by rw [List.append_assoc]; exact hd, hr⟩
      clear HU hwu hlu hd hr hlz hdl m1 m0 hb ht hw hl
      obtain ⟨so, hso⟩ : ∃ so, str (text o) = so := ⟨_, rfl⟩
      obtain ⟨sz, hsz⟩ : ∃ sz, str (text z) = sz := ⟨_, rfl⟩
      have HSO := Lib.hid hso
      have HSZ := Lib.hid hsz
      rw [hso, hsz] at HP
      rw [hso] at M1
      rw [hsz] at M0
      generalize str (text (.say a v z o)) = st at *
      generalize bitsS d = bd at *
      clear hso hsz
      cases b
      · clear k1 G1 HN1
        go_wp2_with fail
        refine (HL.out _).mono ?_
        rintro e w' ⟨rfl, rfl⟩
        go_wp2_with fail
        refine (HP.out _).mono ?_
        rintro e w1 ⟨rfl, hb1⟩
        have HB1 := Lib.hid (HB.out.trans (hb1.mono HB.out.size))
        clear hb1 HB
        go_wp2_with fail
        refine (HSy.out _).mono ?_
        rintro e w2 ⟨rfl, hb2⟩
        have HB2 := Lib.hid (HB1.out.trans (hb2.mono HB1.out.size))
        clear hb2 HB1
        go_wp2_with fail
        go_roundw
        case rel => exact ⟨z, d ++ [false], G0.out (by trivial), by rw [HSZ.out], by rw [← HN0.out], HB2.out⟩
        case measure => exact M0.out
      · clear k0 G0 HN0
        go_wp2_with fail
        refine (HL.out _).mono ?_
        rintro e w' ⟨rfl, rfl⟩
        go_wp2_with fail
        refine (HP.out _).mono ?_
        rintro e w1 ⟨rfl, hb1⟩
        have HB1 := Lib.hid (HB.out.trans (hb1.mono HB.out.size))
        clear hb1 HB
        go_wp2_with fail
        refine (HSy.out _).mono ?_
        rintro e w2 ⟨rfl, hb2⟩
        have HB2 := Lib.hid (HB1.out.trans (hb2.mono HB1.out.size))
        clear hb2 HB1
        go_wp2_with fail
        go_roundw
        case rel => exact ⟨o, d ++ [true], G1.out (by trivial), by rw [HSO.out], by rw [← HN1.out], HB2.out⟩
        case measure => exact M1.out
end Go.Proofs.YtbccachkkflceaaDoor.Talk
