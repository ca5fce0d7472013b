/-
  Texts of one seat, joined: GLeaf, GTalk.
-/
import Derived.Test.YtbccachkkflceaaGreatDoorJn1
import Derived.Test.YtbccachkkflceaaGreatDoorJn26
import Derived.Test.YtbccachkkflceaaGreatDoorJn13
import Derived.Laws.AppendOwnNone
import Derived.Test.YtbccachkkflceaaGreatDoorJn21
import Derived.Test.YtbccachkkflceaaGreatDoorJn6
/-
  The ends that the inputs of a rectangle reach; slices that own their elements, one appended to another.
-/
namespace Go.Proofs.YtbccachkkflceaaGreatDoor.Leaf
open Go.RowKit Go.Proofs.YtbccachkkflceaaGreatDoor.Plain Go.Proofs.YtbccachkkflceaaGreatDoor.Tree Go.Proofs.YtbccachkkflceaaGreatDoor.TrimT Go.Proofs.YtbccachkkflceaaGreatDoor.App
set_option linter.unusedVariables false
set_option linter.unusedSimpArgs false

/-- the ends that are reached, from left to right -/
def leavesT : T → Nat → Nat → List (Nat × Nat × V3)
  | .leaf b, R, C => if R = 0 ∨ C = 0 then [] else [(R, C, b)]
  | .say a s z o, R, C => leavesT z (outR a s R) (outC a s C) ++ leavesT o (inR a s R) (inC a s C)
theorem minus_zero (s : Nat) : minusN 0 s = 0 := Nat.le_zero.1 (minus_le 0 s (by omega))
theorem meet_zero (s : Nat) : meetN 0 s = 0 := Nat.le_zero.1 (meet_le 0 s (by omega))
theorem leaves_none : ∀ (t : T) (R C : Nat), R = 0 ∨ C = 0 → leavesT t R C = []
  | .leaf _, R, C, h => by simp only [leavesT]; rw [if_pos h]
  | .say a s z o, R, C, h => by
    have h1 : outR a s R = 0 ∨ outC a s C = 0 := by
      rcases h with rfl | rfl
      · left; unfold outR; split
        · exact minus_zero s
        · rfl
      · right; unfold outC; split
        · rfl
        · exact minus_zero s
    have h2 : inR a s R = 0 ∨ inC a s C = 0 := by
      rcases h with rfl | rfl
      · left; unfold inR; split
        · exact meet_zero s
        · rfl
      · right; unfold inC; split
        · rfl
        · exact meet_zero s
    simp only [leavesT, leaves_none z _ _ h1, leaves_none o _ _ h2, List.append_nil]
theorem leaves_length : ∀ (t : T) (R C : Nat), (leavesT t R C).length ≤ (text t).length
  | .leaf _, R, C => by simp only [leavesT]; split <;> simp [text]
  | .say a s z o, R, C => by
    have h1 := leaves_length z (outR a s R) (outC a s C)
    have h2 := leaves_length o (inR a s R) (inC a s C)
    simp only [leavesT, text, List.length_append, List.length_cons]
    omega
/-- rectangles, and ends, as cells -/
def cellsR (l : List (Nat × Nat × V3)) : List Value := l.flatMap fun p => [.int .i64 (p.1 : Int), .int .i64 (p.2.1 : Int)]
def cellsL (l : List (Nat × Nat × V3)) : List Value := l.flatMap fun p => [.int .i64 (p.1 : Int), .int .i64 (p.2.1 : Int), .int .i64 (gI p.2.2)]
theorem cellsR_append (l m : List (Nat × Nat × V3)) : cellsR (l ++ m) = cellsR l ++ cellsR m := by simp [cellsR]
theorem cellsL_append (l m : List (Nat × Nat × V3)) : cellsL (l ++ m) = cellsL l ++ cellsL m := by simp [cellsL]
theorem cellsR_length (l : List (Nat × Nat × V3)) : (cellsR l).length = l.length * 2 := by
  induction l with
  | nil => rfl
  | cons p l ih => simp only [cellsR, List.flatMap_cons, List.length_append, List.length_cons] at ih ⊢; simp only [List.length_nil]; omega
theorem cellsL_length (l : List (Nat × Nat × V3)) : (cellsL l).length = l.length * 3 := by
  induction l with
  | nil => rfl
  | cons p l ih => simp only [cellsL, List.flatMap_cons, List.length_append, List.length_cons] at ih ⊢; simp only [List.length_nil]; omega
theorem cellsR_one (l : List (Nat × Nat × V3)) : ∀ u ∈ cellsR l, u.oneCell' = true := by
  intro u hu
  simp only [cellsR, List.mem_flatMap] at hu
  obtain ⟨p, _, hu⟩ := hu
  simp at hu
  rcases hu with rfl | rfl <;> simp [Value.oneCell']
theorem cellsL_one (l : List (Nat × Nat × V3)) : ∀ u ∈ cellsL l, u.oneCell' = true := by
  intro u hu
  simp only [cellsL, List.mem_flatMap] at hu
  obtain ⟨p, _, hu⟩ := hu
  simp at hu
  rcases hu with rfl | rfl | rfl <;> simp [Value.oneCell']

/-- told of an older world -/
theorem Own.lower {w0 w1 w2 : World} {e : TypeId} {k n : Nat} {v : Value} {xs : List Value} (h : Own w1 w2 e k v n xs) (hb : Below w0.heap.size w0 w1) : Own w0 w2 e k v n xs := by
  refine ⟨⟨h.row.1, ?_⟩, hb.trans (h.below.mono hb.size)⟩
  rcases h.row.2 with h1 | ⟨g, cap, cur, h2, h3, h4⟩
  · exact .inl h1
  · exact .inr ⟨g, cap, cur, h2, Nat.le_trans hb.size h3, h4⟩
theorem wp_append_none {o : Oper} {a : Act} {w : World} {K : Act → World → Prop} {Q : Exit → Act → World → Prop} (s x : Operand) (t : TypeId)
    (ho : o.op = .call { callee := .builtin .append, args := #[s, x], argTypes := #[t, t] })
    (base : Nat) (e : TypeId) (i : TypeInfo) (size : Nat) (ht : Tryz.prog.underlying t = some (.slice e)) (hi : Tryz.prog.info? e = some i)
    (v : Value) (n : Nat) (xs : List Value) (hs : a.eval s = v) (hown : w.ownsRow base e size v n xs) (hx : a.eval x = .slice none 0 0)
    (h : K (a.put o.dst v) w) : o.wp Tryz.prog a w K Q := by
  have hrun := run_append_owned_none (P := Tryz.prog) (w := w) base t o.type e i size ht hi v n xs hown
  unfold Oper.wp
  simp [execOp, ho, resolve, invoke, builtin, hs, hx, hrun, Result.andThen]
  exact h
/-- one slice appended to another, both owned -/
theorem wp_append_two {o : Oper} {a : Act} {w0 w : World} {K : Act → World → Prop} {Q : Exit → Act → World → Prop} (s x : Operand) (t : TypeId)
    (ho : o.op = .call { callee := .builtin .append, args := #[s, x], argTypes := #[t, t] })
    (e : TypeId) (i : TypeInfo) (z : Value) (size bytes : Nat) (ht : Tryz.prog.underlying t = some (.slice e)) (hi : Tryz.prog.info? e = some i) (hz : i.zero = some z)
    (hsize : i.size = size) (hby : i.bytes = bytes) (hzs : z.cells.size = size) (hsz : 0 < size)
    (v u : Value) (n m : Nat) (xs ys : List Value) (hs : a.eval s = v) (hv : Own w0 w e size v n xs) (hx : a.eval x = u) (hu : Own w0 w e size u m ys)
    (hl : ys.length = m * size) (h1 : ∀ u ∈ ys, u.oneCell' = true) (hb : n + m ≤ 8000) (hbb : bytes ≤ 100)
    (h : ∀ v' w', Own w0 w' e size v' (n + m) (xs ++ ys) → K (a.put o.dst v') w') : o.wp Tryz.prog a w K Q := by
  have hbytes : (n + m) * bytes ≤ 140737488355328 := by
    have : (n + m) * bytes ≤ 8000 * 100 := Nat.mul_le_mul hb hbb
    omega
  rcases hu.row.2 with ⟨rfl, rfl⟩ | ⟨g, cap, cur, rfl, hg1, hg2, hg3⟩
  · have hy : ys = [] := List.length_eq_zero_iff.1 (by omega)
    subst hy
    refine wp_append_none s x t ho w0.heap.size e i size ht hi v n xs hs hv.row hx ?_
    exact h v w (by rw [List.append_nil]; exact hv)
  · refine wp_append_own w s x t ho w0.heap.size e i z size bytes ht hi hz hsize hby hzs hsz v n xs hs hv.row ⟨g, 0, none⟩ m cap ys hx hl (fun j y hj => ?_) h1 (by unfold maxLen; omega) hbytes hv.below.size (fun v3 w3 hown3 hgrow3 _ => ?_)
    · have hjl : j < ys.length := (List.getElem?_eq_some_iff.1 hj).1
      obtain ⟨g', hg', _, _, hc⟩ := hu.cell j (by omega)
      simp only [Option.some.injEq, Addr.mk.injEq, and_true] at hg'
      subst hg'
      have ea : ((⟨g, 0, none⟩ : Addr).add j) = ⟨g, j, none⟩ := by
        simp [Addr.add]
        try exact fun h => h.symm
      rw [ea, hc, hj]
    · exact h v3 w3 ⟨hown3, hv.below.grown hgrow3 hv.below.size fun j hj => (hv.row.lt j hj).1⟩
end Go.Proofs.YtbccachkkflceaaGreatDoor.Leaf

/-
  What the reference says of a talk: the bits for two inputs, and the value.
-/
namespace Go.Proofs.YtbccachkkflceaaGreatDoor.Talk
open Go.RowKit Go.Shelf Go.Proofs.YtbccachkkflceaaGreatDoor.Plain Go.Proofs.YtbccachkkflceaaGreatDoor.Tree Go.Proofs.YtbccachkkflceaaGreatDoor.Hex Go.Proofs.YtbccachkkflceaaGreatDoor.Read Go.Proofs.YtbccachkkflceaaGreatDoor.Parts Go.Proofs.YtbccachkkflceaaGreatDoor.SetW Go.Proofs.YtbccachkkflceaaGreatDoor.Rect
set_option linter.unusedVariables false
set_option linter.unusedSimpArgs false

/-- whether a bit is 1 -/
def saysB (a : Bool) (s x y : Nat) : Bool := if a then s.testBit x else s.testBit y
/-- the bits that are said for two inputs, and the value -/
def talkT : T → Nat → Nat → List Bool × V3
  | .leaf b, _, _ => ([], b)
  | .say a s z o, x, y => if saysB a s x y then (true :: (talkT o x y).1, (talkT o x y).2) else (false :: (talkT z x y).1, (talkT z x y).2)
theorem talk_length : ∀ (t : T) (x y : Nat), (talkT t x y).1.length ≤ (text t).length
  | .leaf _, _, _ => by simp [talkT]
  | .say a s z o, x, y => by
    have h1 := talk_length z x y
    have h2 := talk_length o x y
    unfold talkT
    split <;> simp only [text, List.length_cons, List.length_append] <;> omega
/-- bits as a text -/
def bitsS (l : List Bool) : ByteArray := str (l.map dig)
theorem bitsS_next (l : List Bool) (b : Bool) : bitsS l ++ ⟨#[dig b]⟩ = bitsS (l ++ [b]) := by
  unfold bitsS
  rw [str_one, str_append, List.map_append]
  rfl
theorem bitsS_size (l : List Bool) : (bitsS l).size = l.length := by unfold bitsS; rw [str_size]; simp

set_option maxHeartbeats 2000000 in
set_option maxRecDepth 100000 in
theorem says_w (a : Bool) (v : Nat) (z o : T) (hv : v < 256) (s : ByteArray) (h : s.data.toList = text (.say a v z o)) (hs : s.size ≤ 1048576) (x y : Nat) (hx : x < 8) (hy : y < 8) (w : World) :
    Calls Tryz.prog 97 #[.string s, .int .i64 (x : Int), .int .i64 (y : Int)] w fun e w' => e = .returned (.bool (saysB a v x y)) ∧ Below w.heap.size w w' := by
  have HS := Lib.hid (set_said a v z o hv s h hs)
  obtain ⟨hk, hx0⟩ := at_drop (s := s) (k := 0) (c := whoB a) (r := hexD (v / 16) :: hexD (v % 16) :: (text z ++ text o)) (by rw [List.drop_zero, h]; rfl)
  have hn : (s[0]'hk).toNat = (whoB a).toNat := by rw [hx0]
  have HN := Lib.hid hn
  have HX := Lib.hid (l2In_any v x hv hx)
  have HY := Lib.hid (l2In_any v y hv hy)
  clear h hx0 hn
  cases a
  · have hn : (s[0]'hk).toNat = 66 := HN.out
    show Calls _ _ _ _ fun e w' => e = .returned (.bool (v.testBit y)) ∧ _
    go_enter Tryz.func97, Tryz.ntmps97
    go_wp2_with fail
    refine (HS.out _).mono ?_
    rintro e w1 ⟨rfl, hb1⟩
    have HB := Lib.hid hb1
    clear hb1
    go_wp2_with fail
    refine (HY.out _).mono ?_
    rintro e w2 ⟨rfl, rfl⟩
    go_wp2_with fail
    go_ret
    exact ⟨rfl, HB.out⟩
  · have hn : (s[0]'hk).toNat = 65 := HN.out
    show Calls _ _ _ _ fun e w' => e = .returned (.bool (v.testBit x)) ∧ _
    go_enter Tryz.func97, Tryz.ntmps97
    go_wp2_with fail
    refine (HS.out _).mono ?_
    rintro e w1 ⟨rfl, hb1⟩
    have HB := Lib.hid hb1
    clear hb1
    go_wp2_with fail
    refine (HX.out _).mono ?_
    rintro e w2 ⟨rfl, rfl⟩
    go_wp2_with fail
    go_ret
    exact ⟨rfl, HB.out⟩

set_option maxHeartbeats 4000000 in
set_option maxRecDepth 100000 in
theorem said_talk (t : T) (hw : wf t) (hl : (text t).length ≤ 2000) (x y : Nat) (hx : x < 8) (hy : y < 8) (w : World) :
    Calls Tryz.prog 67 #[.string (str (text t)), .int .i64 (x : Int), .int .i64 (y : Int)] w fun e w' => e = .returned (.tuple #[.string (bitsS (talkT t x y).1), .int .i64 (gI (talkT t x y).2)]) ∧ Below w.heap.size w w' := by
  have hlen := Nat.le_trans (talk_length t x y) hl
  obtain ⟨res, hres⟩ : ∃ res, talkT t x y = res := ⟨_, rfl⟩
  rw [hres] at hlen ⊢
  have HR := Lib.hid hres
  clear hres
  go_enter Tryz.func67, Tryz.ntmps67
  go_wp2_with fail
  go_loopw [0, 8] (fun p l wr => ∃ (u : T) (d : List Bool), Hid (wf u ∧ (text u).length ≤ 2000 ∧ d ++ (talkT u x y).1 = res.1 ∧ (talkT u x y).2 = res.2) ∧ p = .string (str (text u)) ∧ l = .string (bitsS d) ∧ Hid (Below w.heap.size w wr)) (fun p _ _ => match p with | .string s => s.size | _ => 0)
  case atStart => exact ⟨t, [], ⟨hw, hl, by rw [HR.out]; rfl, by rw [HR.out]⟩, rfl, rfl, Below.refl _ _⟩
  case round =>
    obtain ⟨u, d, HU, rfl, rfl, HB⟩ := hrel
    cases u with
    | leaf b =>
      have HL : Hid (∀ W, Calls Tryz.prog 70 #[.string (str (text (.leaf b)))] W fun e w' => e = .returned (.bool true) ∧ W = w') := leaf_yes _ (by rw [str_size]; rfl)
      obtain ⟨hk, hx0⟩ := at_drop (s := str (text (.leaf b))) (k := 0) (c := gD b) (r := []) (by rw [str_data]; rfl)
      have hn : ((str (text (.leaf b)))[0]'hk).toNat = (gD b).toNat := by rw [hx0]
      have hd : d = res.1 := by have := HU.out.2.2.1; simpa [talkT] using this
      have hb : b = res.2 := HU.out.2.2.2
      have HD := Lib.hid hd
      have HE := Lib.hid hb
      have HO : Hid (bitsS res.1 = bitsS d) := by show _ = _; rw [hd]
      have i0 : (0 : Int) < ((str (text (.leaf b))).size : Int) := by omega
      generalize str (text (.leaf b)) = s at *
      generalize bitsS d = o at *
      clear hx0 hd hb HU hw hl
      cases b
      · have hn' : (s[0]'hk).toNat = 48 := hn
        clear hn
        go_wp2_with fail
        refine (HL.out _).mono ?_
        rintro e w' ⟨rfl, rfl⟩
        go_wp2_with fail
        go_quiet (fail)
        go_wp2_with fail
        go_returns
        exact ⟨by rw [HO.out, ← HE.out]; rfl, HB.out.trans ((drawn_at _ _).mono HB.out.size)⟩
      · have hn' : (s[0]'hk).toNat = 49 := hn
        clear hn
        go_wp2_with fail
        refine (HL.out _).mono ?_
        rintro e w' ⟨rfl, rfl⟩
        go_wp2_with fail
        go_quiet (fail)
        go_wp2_with fail
        go_returns
        exact ⟨by rw [HO.out, ← HE.out]; rfl, HB.out.trans ((drawn_at _ _).mono HB.out.size)⟩
      · have hn' : (s[0]'hk).toNat = 50 := hn
        clear hn
        go_wp2_with fail
        refine (HL.out _).mono ?_
        rintro e w' ⟨rfl, rfl⟩
        go_wp2_with fail
        go_quiet (fail)
        go_wp2_with fail
        go_returns
        exact ⟨by rw [HO.out, ← HE.out]; rfl, HB.out.trans ((drawn_at _ _).mono HB.out.size)⟩
    | say a v z o =>
      obtain ⟨hwu, hlu, hd, hr⟩ := HU.out
      have hlz : (text (.say a v z o)).length = (text z).length + (text o).length + 3 := by simp [text]
      have HL : Hid (∀ W, Calls Tryz.prog 70 #[.string (str (text (.say a v z o)))] W fun e w' => e = .returned (.bool false) ∧ W = w') := leaf_no _ (by rw [str_size]; omega)
      have HP := Lib.hid (parts_w a v z o hwu.2.1 (str (text (.say a v z o))) (str_data _) (by rw [str_size]; omega))
      have HSy := Lib.hid (says_w a v z o hwu.1 (str (text (.say a v z o))) (str_data _) (by rw [str_size]; omega) x y hx hy)
      have hdl : d.length ≤ 2000 := by have := congrArg List.length hd; rw [List.length_append] at this; omega
      have hds : (bitsS d).size ≤ 2000 := by rw [bitsS_size]; exact hdl
      have k1 := fun W => run_string_add_sum (P := Tryz.prog) (w := W) (bitsS d) (⟨#[49]⟩ : ByteArray) (by show _ + 1 ≤ _; omega)
      have k0 := fun W => run_string_add_sum (P := Tryz.prog) (w := W) (bitsS d) (⟨#[48]⟩ : ByteArray) (by show _ + 1 ≤ _; omega)
      have HN1 : Hid (bitsS d ++ (⟨#[49]⟩ : ByteArray) = bitsS (d ++ [true])) := bitsS_next d true
      have HN0 : Hid (bitsS d ++ (⟨#[48]⟩ : ByteArray) = bitsS (d ++ [false])) := bitsS_next d false
      have m1 : (str (text o)).size < (str (text (.say a v z o))).size := by rw [str_size, str_size]; omega
      have m0 : (str (text z)).size < (str (text (.say a v z o))).size := by rw [str_size, str_size]; omega
      have M1 := Lib.hid m1
      have M0 := Lib.hid m0
      obtain ⟨b, hb⟩ : ∃ b, saysB a v x y = b := ⟨_, rfl⟩
      rw [hb] at HSy
      have ht : talkT (.say a v z o) x y = if b then (true :: (talkT o x y).1, (talkT o x y).2) else (false :: (talkT z x y).1, (talkT z x y).2) := by rw [← hb]; rfl
      rw [ht] at hd hr
      have G1 : Hid (b = true → wf o ∧ (text o).length ≤ 2000 ∧ (d ++ [true]) ++ (talkT o x y).1 = res.1 ∧ (talkT o x y).2 = res.2) := fun e => by subst e; exact ⟨hwu.2.2, by omega, by rw [List.append_assoc]; exact hd, hr⟩
      have G0 : Hid (b = false → wf z ∧ (text z).length ≤ 2000 ∧ (d ++ [false]) ++ (talkT z x y).1 = res.1 ∧ (talkT z x y).2 = res.2) := fun e => by subst e; exact ⟨hwu.2.1, by omega, by rw [List.append_assoc]; exact hd, hr⟩
      clear HU hwu hlu hd hr hlz hdl m1 m0 hb ht hw hl
      obtain ⟨so, hso⟩ : ∃ so, str (text o) = so := ⟨_, rfl⟩
      obtain ⟨sz, hsz⟩ : ∃ sz, str (text z) = sz := ⟨_, rfl⟩
      have HSO := Lib.hid hso
      have HSZ := Lib.hid hsz
      rw [hso, hsz] at HP
      rw [hso] at M1
      rw [hsz] at M0
      generalize str (text (.say a v z o)) = st at *
      generalize bitsS d = bd at *
      clear hso hsz
      cases b
      · clear k1 G1 HN1
        go_wp2_with fail
        refine (HL.out _).mono ?_
        rintro e w' ⟨rfl, rfl⟩
        go_wp2_with fail
        refine (HP.out _).mono ?_
        rintro e w1 ⟨rfl, hb1⟩
        have HB1 := Lib.hid (HB.out.trans (hb1.mono HB.out.size))
        clear hb1 HB
        go_wp2_with fail
        refine (HSy.out _).mono ?_
        rintro e w2 ⟨rfl, hb2⟩
        have HB2 := Lib.hid (HB1.out.trans (hb2.mono HB1.out.size))
        clear hb2 HB1
        go_wp2_with fail
        go_roundw
        case rel => exact ⟨z, d ++ [false], G0.out (by trivial), by rw [HSZ.out], by rw [← HN0.out], HB2.out⟩
        case measure => exact M0.out
      · clear k0 G0 HN0
        go_wp2_with fail
        refine (HL.out _).mono ?_
        rintro e w' ⟨rfl, rfl⟩
        go_wp2_with fail
        refine (HP.out _).mono ?_
        rintro e w1 ⟨rfl, hb1⟩
        have HB1 := Lib.hid (HB.out.trans (hb1.mono HB.out.size))
        clear hb1 HB
        go_wp2_with fail
        refine (HSy.out _).mono ?_
        rintro e w2 ⟨rfl, hb2⟩
        have HB2 := Lib.hid (HB1.out.trans (hb2.mono HB1.out.size))
        clear hb2 HB1
        go_wp2_with fail
        go_roundw
        case rel => exact ⟨o, d ++ [true], G1.out (by trivial), by rw [HSO.out], by rw [← HN1.out], HB2.out⟩
        case measure => exact M1.out
end Go.Proofs.YtbccachkkflceaaGreatDoor.Talk

