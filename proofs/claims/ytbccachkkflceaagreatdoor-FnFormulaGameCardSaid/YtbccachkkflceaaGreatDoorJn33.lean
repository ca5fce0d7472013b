/-
  Texts of one seat, joined: PlN, PlS.
-/
import Derived.Test.YtbccachkkflceaaGreatDoorJn1
import Derived.Test.YtbccachkkflceaaGreatDoorJn28
import Derived.Test.YtbccachkkflceaaGreatDoorJn32
import Derived.Test.YtbccachkkflceaaGreatDoorJn9
/-
  The numbers of both players in the game of a table.
-/
namespace Go.Proofs.YtbccachkkflceaaGreatDoor.PlN
open Go.RowKit Go.Shelf Go.Proofs.YtbccachkkflceaaGreatDoor.Plain Go.Proofs.YtbccachkkflceaaGreatDoor.Base Go.Proofs.YtbccachkkflceaaGreatDoor.Valid Go.Proofs.YtbccachkkflceaaGreatDoor.Pat Go.Proofs.YtbccachkkflceaaGreatDoor.Tree Go.Proofs.YtbccachkkflceaaGreatDoor.Talk Go.Proofs.YtbccachkkflceaaGreatDoor.PlM Go.Proofs.YtbccachkkflceaaGreatDoor.Wid Go.Proofs.YtbccachkkflceaaGreatDoor.Rect
open Go.Proofs.YtbccachkkflceaaGreatDoor.Where (Says where_any)
set_option linter.unusedVariables false
set_option linter.unusedSimpArgs false

/-- the value of a number in a table -/
def onB (s : ByteArray) (n : Nat) : Bool := decide ((s.data.toList.getD n 0).toNat = 49)
def onesN (s : ByteArray) : Nat := setB (onB s) s.size
def zerosN (s : ByteArray) : Nat := setB (fun n => !onB s n) s.size
theorem byte_at (s : ByteArray) (k : Nat) (hk : k < s.size) : s.data.toList.getD k 0 = s[k] := by
  have hk' : k < s.data.toList.length := by simpa using hk
  simp only [List.getD_eq_getElem?_getD, List.getElem?_eq_getElem hk']
  simp
  rfl
theorem on_at (s : ByteArray) (k : Nat) (hk : k < s.size) : onB s k = decide ((s[k]).toNat = 49) := by unfold onB; rw [byte_at s k hk]
theorem both_sum (Q : Nat → Bool) : ∀ n, setB Q n + setB (fun k => !Q k) n + 1 = 2 ^ n
  | 0 => rfl
  | n + 1 => by
    have ih := both_sum Q n
    simp only [setB, Nat.pow_succ]
    rcases Bool.eq_false_or_eq_true (Q n) with h | h
    · simp [h]; omega
    · simp [h]; omega
theorem zeros_eq (s : ByteArray) : onesN s + zerosN s + 1 = 2 ^ s.size := both_sum (onB s) s.size
theorem ones_lt (s : ByteArray) (h : s.size ≤ 8) : onesN s < 256 := setB_lt8 _ _ h
theorem zeros_lt (s : ByteArray) (h : s.size ≤ 8) : zerosN s < 256 := setB_lt8 _ _ h
/-- the bytes of a table -/
theorem bit_bytes (s : ByteArray) (h : okB s = true) (k : Nat) (hk : k < s.size) : (s[k]).toNat = if onB s k then 49 else 48 := by
  have h1 : isBit s[k] = true := by
    cases hb : isBit s[k] with
    | true => rfl
    | false => rw [okB_false k hk hb] at h; cases h
  rw [on_at s k hk]
  have h2 : s[k] = 48 ∨ s[k] = 49 := by
    unfold isBit at h1
    simpa using h1
  rcases h2 with e | e
  · rw [e]; decide
  · rw [e]; decide

theorem ones_enters (args : Array Value) (W : World) : (callFunc 92 args).run Tryz.prog W = .ok (.enter 92 args) W := by kernel_rfl
set_option maxHeartbeats 1000000 in
theorem ones_clos (s : ByteArray) (n : Nat) (hn : n < s.size) (X : Nat) (w : World) (h : w.cell? ⟨X, 0, none⟩ = some (.string s)) :
    Calls Tryz.prog 92 #[.int .i64 (n : Int), .pointer (some ⟨X, 0, none⟩)] w fun e w' => e = .returned (.bool (onB s n)) ∧ Below w.heap.size w w' := by
  have hb : (((s[n]'hn).toNat : Int) == 49) = onB s n := by
    rw [on_at s n hn]
    by_cases e : (s[n]'hn).toNat = 49
    · rw [e]; rfl
    · rw [decide_eq_false e]; exact beq_false_of_ne (by omega)
  have HB := Lib.hid hb
  clear hb
  go_enter Tryz.func92, Tryz.ntmps92
  go_wp2_with fail
  go_ret
  exact ⟨by rw [← HB.out]; rfl, by go_grown⟩
set_option maxHeartbeats 1000000 in
theorem ones_of (s : ByteArray) (hs : s.size ≤ 8) (w : World) : Calls Tryz.prog 56 #[.string s] w fun e w' => e = .returned (.int .i64 (onesN s : Int)) ∧ Below w.heap.size w w' := by
  have hr := heap_alloc_new w (.cells #[.string s] 9)
  have c0 := cell_of_row _ _ 0 _ _ _ hr
  have hl : w.heap.size < (w.alloc (.cells #[.string s] 9)).heap.size := by simp
  have HB0 := Lib.hid ((Below.refl w.heap.size w).alloc (Nat.le_refl _) (.cells #[.string s] 9))
  have hS : Says 92 #[.pointer (some ⟨w.heap.size, 0, none⟩)] s.size (onB s) (w.alloc (.cells #[.string s] 9)) := fun W i hi hb => ones_clos s i hi w.heap.size W ((hb.cell (p := ⟨w.heap.size, 0, none⟩) hl).trans c0)
  have HW := Lib.hid (where_any 92 #[.pointer (some ⟨w.heap.size, 0, none⟩)] s.size hs (onB s) _ ones_enters (Lib.hid hS))
  have HN : Hid (setB (onB s) s.size = onesN s) := rfl
  clear hr hS hl
  go_enter Tryz.func56, Tryz.ntmps56
  go_wp2_with fail
  refine HW.out.mono ?_
  rintro e w2 ⟨rfl, hb⟩
  have HB := Lib.hid (HB0.out.trans (hb.mono HB0.out.size))
  clear hb HB0 HW
  go_wp2_with fail
  go_ret
  exact ⟨by rw [← HN.out]; rfl, HB.out⟩
theorem info_rect (x y : Int) : (Tryz.prog.info? 51).map (·.size) = some (#[.int .i64 x, .int .i64 y] : Array Value).size := by kernel_rfl
theorem one_rect (x y : Int) : (#[.int .i64 x, .int .i64 y] : Array Value).all (·.oneCell') = true := by simp [Value.oneCell']
theorem setRow_at' {w : World} {B : Nat} {cs cs' : Array Value} {T : TypeId} (h : w.heap[B]? = some (.cells cs T (0, 0))) : (w.setRow B cs').heap[B]? = some (.cells cs' T (0, 0)) := by
  simp [World.setRow, Array.getElem?_modify, h]
theorem setRow_below' {b : Nat} {w w1 : World} {B : Nat} (h : Below b w w1) (hB : b ≤ B) (cs : Array Value) : Below b w (w1.setRow B cs) :=
  h.trans ⟨rfl, rfl, rfl, by simp [World.setRow], fun k hk => by simp only [World.setRow, Array.getElem?_modify]; rw [if_neg (by omega)]⟩
theorem pow_small (n : Nat) (h : n ≤ 8) : IntKind.i64.wrap (2 ^ n) = ((2 ^ n : Nat) : Int) ∧ 2 ^ n ≤ 256 := by
  have : ∀ k : Fin 9, IntKind.i64.wrap (2 ^ k.1) = ((2 ^ k.1 : Nat) : Int) ∧ 2 ^ k.1 ≤ 256 := by decide
  exact this ⟨n, by omega⟩
/-- where there is a table: both sets -/
def numV (s : ByteArray) : Value := if tabV s then rect (onesN s) (zerosN s) else rect 0 0
theorem tab_size (s : ByteArray) (h : tabV s = true) : ∃ b : Nat, 1 ≤ b ∧ b ≤ 3 ∧ s.size = 2 ^ b ∧ okB s = true ∧ widthV s = (b : Int) ∧ s.size ≤ 8 := by
  rcases width_or s with ⟨b, N, h1, h2, h3, h4, h5, h6, h7, h8⟩ | h0
  · exact ⟨b, h1, h2, by omega, h7, h8, by omega⟩
  · unfold tabV at h
    rw [h0] at h
    cases h
set_option maxHeartbeats 2000000 in
theorem numbers (s : ByteArray) (hs : s.size ≤ maxLen) (w : World) : Calls Tryz.prog 31 #[.string s] w fun e w' => e = .returned (numV s) ∧ Below w.heap.size w w' := by
  have HT := Lib.hid (impl_tabv s hs)
  have hr := heap_alloc_new w (.cells #[.int .i64 0, .int .i64 0] 51)
  have HR := Lib.hid hr
  have HB0 := Lib.hid ((Below.refl w.heap.size w).alloc (Nat.le_refl _) (.cells #[.int .i64 0, .int .i64 0] 51))
  have HNV : Hid (numV s = if tabV s then rect (onesN s) (zerosN s) else rect 0 0) := rfl
  have htab := tab_size s
  have HON : Hid (s.size ≤ 8 → ∀ W, Calls Tryz.prog 56 #[.string s] W fun e w' => e = .returned (.int .i64 (onesN s : Int)) ∧ Below W.heap.size W w') := fun h W => ones_of s h W
  have hze := zeros_eq s
  have hps := pow_small s.size
  have hol := ones_lt s
  have hzl := zeros_lt s
  generalize numV s = nv at *
  generalize onesN s = on at *
  generalize zerosN s = ze at *
  obtain ⟨tv, htv⟩ : ∃ tv, tabV s = tv := ⟨_, rfl⟩
  rw [htv] at HT HNV htab
  clear hr htv
  cases tv
  · have HV : Hid (nv = .agg #[.int .i64 0, .int .i64 0]) := HNV.out
    clear HNV htab HON hze hps hol hzl
    go_enter Tryz.func31, Tryz.ntmps31
    go_wp2_with fail
    refine (HT.out _).mono ?_
    rintro e w2 ⟨rfl, hb⟩
    have HR2 : Hid (w2.heap[w.heap.size]? = some (.cells #[.int .i64 0, .int .i64 0] 51 (0, 0))) := (hb.block _ (by simp)).trans HR.out
    have HB2 := Lib.hid (HB0.out.trans (hb.mono HB0.out.size))
    clear hb HB0 HR
    go_wp2_with (have Z := HR2.out; refine wpList_store_row rfl 51 (.tmp 2) (.tmp 7) rfl w.heap.size _ rfl rfl 51 _ Z (info_rect _ _) rfl (one_rect _ _) ?_; clear Z)
    refine bodyPost_ret (v := .agg #[.int .i64 0, .int .i64 0]) (results_cell_row Tryz.results31 _ _ w.heap.size 51 _ (0, 0) _ rfl (setRow_at' HR2.out) Tryz.underlying51 rfl (info_rect _ _)) rfl ⟨by rw [HV.out], setRow_below' HB2.out (Nat.le_refl _) _⟩
  · obtain ⟨b, h1, h2, h3, h4, h5, h6⟩ := htab rfl
    have HV : Hid (nv = .agg #[.int .i64 (on : Int), .int .i64 (ze : Int)]) := HNV.out
    have HO := Lib.hid (HON.out h6)
    obtain ⟨q1, q2⟩ := hps h6
    have hz2 := hzl h6
    have ho2 := hol h6
    obtain ⟨X, hX⟩ : ∃ X, 2 ^ s.size = X := ⟨_, rfl⟩
    rw [hX] at hze q1 q2
    have e1 : (X : Int) - 1 - (on : Int) = (ze : Int) := by omega
    clear HNV htab HON hps hol hzl h1 h2 h3 h4 h5 hX hze
    go_enter Tryz.func31, Tryz.ntmps31
    go_wp2_with fail
    refine (HT.out _).mono ?_
    rintro e w2 ⟨rfl, hb⟩
    have HR2 : Hid (w2.heap[w.heap.size]? = some (.cells #[.int .i64 0, .int .i64 0] 51 (0, 0))) := (hb.block _ (by simp)).trans HR.out
    have HB2 := Lib.hid (HB0.out.trans (hb.mono HB0.out.size))
    clear hb HB0 HR
    go_wp2_with fail
    refine (HO.out _).mono ?_
    rintro e w3 ⟨rfl, hb⟩
    have HR3 : Hid (w3.heap[w.heap.size]? = some (.cells #[.int .i64 0, .int .i64 0] 51 (0, 0))) := (hb.block _ (Array.getElem?_eq_some_iff.1 HR2.out).1).trans HR2.out
    have HB3 := Lib.hid (HB2.out.trans (hb.mono HB2.out.size))
    clear hb HB2 HR2
    go_wp2_with (have Z := HR3.out; refine wpList_store_row rfl 51 (.tmp 2) (.tmp 17) rfl w.heap.size _ rfl rfl 51 _ Z (info_rect _ _) rfl (one_rect _ _) ?_; clear Z)
    refine bodyPost_ret (v := .agg #[.int .i64 (on : Int), .int .i64 (ze : Int)]) (results_cell_row Tryz.results31 _ _ w.heap.size 51 _ (0, 0) _ rfl (setRow_at' HR3.out) Tryz.underlying51 rfl (info_rect _ _)) rfl ⟨by rw [HV.out], setRow_below' HB3.out (Nat.le_refl _) _⟩
end Go.Proofs.YtbccachkkflceaaGreatDoor.PlN

/-
  Whether a protocol plays, of the reference.
-/
namespace Go.Proofs.YtbccachkkflceaaGreatDoor.PlS
open Go.RowKit Go.Shelf Go.Proofs.YtbccachkkflceaaGreatDoor.Plain Go.Proofs.YtbccachkkflceaaGreatDoor.Base Go.Proofs.YtbccachkkflceaaGreatDoor.Valid Go.Proofs.YtbccachkkflceaaGreatDoor.Pat Go.Proofs.YtbccachkkflceaaGreatDoor.Tree Go.Proofs.YtbccachkkflceaaGreatDoor.Talk Go.Proofs.YtbccachkkflceaaGreatDoor.PlM Go.Proofs.YtbccachkkflceaaGreatDoor.PlN Go.Proofs.YtbccachkkflceaaGreatDoor.Wid Go.Proofs.YtbccachkkflceaaGreatDoor.Rect
set_option linter.unusedVariables false
set_option linter.unusedSimpArgs false

/-- what is asked of two numbers -/
def okP (t : T) (s : ByteArray) (b x y : Nat) : Bool := !onB s x || onB s y || (decide (gN (talkT t x y).2 < b) && (x.testBit (gN (talkT t x y).2) != y.testBit (gN (talkT t x y).2)))
def rowP (t : T) (s : ByteArray) (b x n : Nat) : Bool := (List.range n).all fun y => okP t s b x y
def specP (t : T) (s : ByteArray) (b n : Nat) : Bool := (List.range n).all fun x => rowP t s b x s.size
theorem row_next (t : T) (s : ByteArray) (b x n : Nat) : rowP t s b x (n + 1) = (rowP t s b x n && okP t s b x n) := by simp [rowP, List.range_succ]
theorem spec_next (t : T) (s : ByteArray) (b n : Nat) : specP t s b (n + 1) = (specP t s b n && rowP t s b n s.size) := by simp [specP, List.range_succ]
theorem row_bad {t : T} {s : ByteArray} {b x y : Nat} (hy : y < s.size) (h : okP t s b x y = false) : rowP t s b x s.size = false := by
  unfold rowP
  cases he : (List.range s.size).all fun y => okP t s b x y with
  | false => rfl
  | true => rw [List.all_eq_true] at he; have := he y (List.mem_range.2 hy); rw [h] at this; cases this
theorem spec_bad {t : T} {s : ByteArray} {b x : Nat} (hx : x < s.size) (h : rowP t s b x s.size = false) : specP t s b s.size = false := by
  unfold specP
  cases he : (List.range s.size).all fun x => rowP t s b x s.size with
  | false => rfl
  | true => rw [List.all_eq_true] at he; have := he x (List.mem_range.2 hx); rw [h] at this; cases this
/-- both sides agree -/
theorem plays_same (t : T) (s : ByteArray) (b : Nat) (hb : s.size = 2 ^ b) (h8 : s.size ≤ 8) : playB t (onesN s) (zerosN s) = specP t s b s.size := by
  have hk := play_iff t (onesN s) (zerosN s) (ones_lt s h8) (zeros_lt s h8)
  have hs : specP t s b s.size = true ↔ ∀ x y, (onesN s).testBit x = true → (zerosN s).testBit y = true → x.testBit (gN (talkT t x y).2) ≠ y.testBit (gN (talkT t x y).2) := by
    unfold specP rowP okP
    simp only [List.all_eq_true, List.mem_range]
    constructor
    · intro h x y hx hy
      unfold onesN at hx
      unfold zerosN at hy
      rw [setB_bit, Bool.and_eq_true, decide_eq_true_iff] at hx hy
      have := h x hx.1 y hy.1
      rw [hx.2] at this
      rw [Bool.not_eq_true'] at hy
      rw [hy.2] at this
      simp only [Bool.not_true, Bool.false_or, Bool.and_eq_true, bne_iff_ne] at this
      exact this.2
    · intro h x hx y hy
      cases hox : onB s x with
      | false => rfl
      | true =>
        cases hoy : onB s y with
        | true => rfl
        | false =>
          simp only [Bool.not_true, Bool.false_or, Bool.and_eq_true, decide_eq_true_iff, bne_iff_ne]
          have h1 := h x y (by unfold onesN; rw [setB_bit, decide_eq_true hx, hox]; rfl) (by unfold zerosN; rw [setB_bit, decide_eq_true hy, hoy]; rfl)
          refine ⟨?_, h1⟩
          apply Classical.byContradiction
          intro hge
          apply h1
          have hpw : 2 ^ b ≤ 2 ^ gN (talkT t x y).2 := Nat.pow_le_pow_right (by decide) (by omega)
          rw [Nat.testBit_lt_two_pow (by omega), Nat.testBit_lt_two_pow (by omega)]
  exact Bool.eq_iff_iff.2 (hk.trans hs.symm)

set_option maxHeartbeats 8000000 in
set_option maxRecDepth 100000 in
theorem spec_plays (t : T) (hw : wf t) (hl : (text t).length ≤ 2000) (s : ByteArray) (b : Nat) (hsb : s.size = 2 ^ b) (h8 : s.size ≤ 8) (hok : okB s = true) (hwd : widthV s = (b : Int)) (hb3 : b ≤ 3) (w : World) :
    Calls Tryz.prog 38 #[.string (str (text t)), .string s] w fun e w' => e = .returned (.bool (specP t s b s.size)) ∧ Below w.heap.size w w' := by
  have HTK := Lib.hid (fun (x y : Nat) (hx : x < 8) (hy : y < 8) => said_talk t hw hl x y hx hy)
  have HWD := Lib.hid (fun W => spec_width s (by unfold maxLen; omega) W)
  rw [hwd] at HWD
  have HBY := Lib.hid (bit_bytes s hok)
  obtain ⟨res, hres⟩ : ∃ res, specP t s b s.size = res := ⟨_, rfl⟩
  rw [hres]
  have HRS := Lib.hid hres
  clear hres hsb hwd hok hl hw
  generalize str (text t) = st at *
  go_enter Tryz.func38, Tryz.ntmps38
  go_wp2_with fail
  go_loopw [5] (fun i wr => ∃ x : Nat, x ≤ s.size ∧ i = .int .i64 (x : Int) ∧ Hid (specP t s b x = true) ∧ Hid (Below w.heap.size w wr)) (fun i _ => s.size - (intOf i).toNat)
  case atStart => exact ⟨0, Nat.zero_le _, rfl, rfl, Below.refl _ _⟩
  case round =>
    obtain ⟨x, hx, rfl, HP, HB⟩ := hrel
    by_cases hlt : x < s.size
    · go_wp2_with fail
      go_loopw [6] (fun i wr => ∃ y : Nat, y ≤ s.size ∧ i = .int .i64 (y : Int) ∧ Hid (rowP t s b x y = true) ∧ Hid (Below w.heap.size w wr)) (fun i _ => s.size - (intOf i).toNat)
      case atStart => exact ⟨0, Nat.zero_le _, rfl, rfl, HB⟩
      case round =>
        obtain ⟨y, hy, rfl, HR, HB⟩ := hrel
        by_cases hly : y < s.size
        · have bx := HBY.out x hlt
          have bY := HBY.out y hly
          have HN : Hid (okP t s b x y = true → rowP t s b x (y + 1) = true) := fun h => by rw [row_next, HR.out, h]; rfl
          have HF : Hid (okP t s b x y = false → res = false) := fun h => by rw [← HRS.out]; exact spec_bad hlt (row_bad hly h)
          have hO : okP t s b x y = (!onB s x || onB s y || (decide (gN (talkT t x y).2 < b) && (x.testBit (gN (talkT t x y).2) != y.testBit (gN (talkT t x y).2)))) := rfl
          cases hox : onB s x
          · rw [hox] at bx hO
            have hO2 : okP t s b x y = true := hO
            have HN2 := Lib.hid (HN.out hO2)
            have bx2 : (s[x]).toNat = 48 := bx
            clear bx bY hO hO2 HN HF
            go_wp2_with fail
            go_roundw
            case rel => exact ⟨y + 1, by omega, by go_num, HN2, HB⟩
            case measure => simp [intOf]; omega
          have bx2 : (s[x]).toNat = 49 := by rw [hox] at bx; exact bx
          cases hoy : onB s y
          · have by2 : (s[y]).toNat = 48 := by rw [hoy] at bY; exact bY
            rw [hox, hoy] at hO
            have HT := Lib.hid (HTK.out x y (by omega) (by omega))
            have hg3 := gN_lt (talkT t x y).2
            have hgi : gI (talkT t x y).2 = (gN (talkT t x y).2 : Int) := rfl
            rw [hgi] at HT
            have HIX := Lib.hid (fun (i : Nat) (hi : i < 8) W => l2In_any x i (by omega) hi W)
            have HIY := Lib.hid (fun (i : Nat) (hi : i < 8) W => l2In_any y i (by omega) hi W)
            generalize bitsS (talkT t x y).1 = bs at *
            generalize gN (talkT t x y).2 = g at *
            clear bx bY hgi
            by_cases hgb : b ≤ g
            · have hgbi : (b : Int) ≤ (g : Int) := by omega
              have HR2 := Lib.hid (HF.out (by rw [hO, decide_eq_false (by omega)]; rfl))
              clear hO HN HF
              go_wp2_with fail
              refine (HT.out _).mono ?_
              rintro e w2 ⟨rfl, hb2⟩
              have HB2 := Lib.hid (HB.out.trans (hb2.mono HB.out.size))
              clear hb2
              go_wp2_with fail
              refine (HWD.out _).mono ?_
              rintro e w3 ⟨rfl, rfl⟩
              go_wp2_with fail
              go_ret
              exact ⟨by rw [HR2.out]; rfl, HB2.out⟩
            · have hgbi : ¬ (b : Int) ≤ (g : Int) := by omega
              have hgl : g < 8 := by omega
              have HX := Lib.hid (HIX.out g hgl)
              have HY := Lib.hid (HIY.out g hgl)
              rw [decide_eq_true (by omega), Bool.true_and] at hO
              generalize x.testBit g = p at *
              generalize y.testBit g = q at *
              clear HIX HIY hgb
              cases p <;> cases q
              · have HR2 := Lib.hid (HF.out hO)
                clear hO HN HF
                go_wp2_with fail
                refine (HT.out _).mono ?_
                rintro e w2 ⟨rfl, hb2⟩
                have HB2 := Lib.hid (HB.out.trans (hb2.mono HB.out.size))
                clear hb2
                go_wp2_with fail
                refine (HWD.out _).mono ?_
                rintro e w3 ⟨rfl, rfl⟩
                go_wp2_with fail
                refine (HX.out _).mono ?_
                rintro e w3 ⟨rfl, rfl⟩
                go_wp2_with fail
                refine (HY.out _).mono ?_
                rintro e w3 ⟨rfl, rfl⟩
                go_wp2_with fail
                go_ret
                exact ⟨by rw [HR2.out]; rfl, HB2.out⟩
              · have HN2 := Lib.hid (HN.out hO)
                clear hO HN HF
                go_wp2_with fail
                refine (HT.out _).mono ?_
                rintro e w2 ⟨rfl, hb2⟩
                have HB2 := Lib.hid (HB.out.trans (hb2.mono HB.out.size))
                clear hb2
                go_wp2_with fail
                refine (HWD.out _).mono ?_
                rintro e w3 ⟨rfl, rfl⟩
                go_wp2_with fail
                refine (HX.out _).mono ?_
                rintro e w3 ⟨rfl, rfl⟩
                go_wp2_with fail
                refine (HY.out _).mono ?_
                rintro e w3 ⟨rfl, rfl⟩
                go_wp2_with fail
                go_roundw
                case rel => exact ⟨y + 1, by omega, by go_num, HN2, HB2⟩
                case measure => simp [intOf]; omega
              · have HN2 := Lib.hid (HN.out hO)
                clear hO HN HF
                go_wp2_with fail
                refine (HT.out _).mono ?_
                rintro e w2 ⟨rfl, hb2⟩
                have HB2 := Lib.hid (HB.out.trans (hb2.mono HB.out.size))
                clear hb2
                go_wp2_with fail
                refine (HWD.out _).mono ?_
                rintro e w3 ⟨rfl, rfl⟩
                go_wp2_with fail
                refine (HX.out _).mono ?_
                rintro e w3 ⟨rfl, rfl⟩
                go_wp2_with fail
                refine (HY.out _).mono ?_
                rintro e w3 ⟨rfl, rfl⟩
                go_wp2_with fail
                go_roundw
                case rel => exact ⟨y + 1, by omega, by go_num, HN2, HB2⟩
                case measure => simp [intOf]; omega
              · have HR2 := Lib.hid (HF.out hO)
                clear hO HN HF
                go_wp2_with fail
                refine (HT.out _).mono ?_
                rintro e w2 ⟨rfl, hb2⟩
                have HB2 := Lib.hid (HB.out.trans (hb2.mono HB.out.size))
                clear hb2
                go_wp2_with fail
                refine (HWD.out _).mono ?_
                rintro e w3 ⟨rfl, rfl⟩
                go_wp2_with fail
                refine (HX.out _).mono ?_
                rintro e w3 ⟨rfl, rfl⟩
                go_wp2_with fail
                refine (HY.out _).mono ?_
                rintro e w3 ⟨rfl, rfl⟩
                go_wp2_with fail
                go_ret
                exact ⟨by rw [HR2.out]; rfl, HB2.out⟩
          · have by2 : (s[y]).toNat = 49 := by rw [hoy] at bY; exact bY
            rw [hox, hoy] at hO
            have hO2 : okP t s b x y = true := hO
            have HN2 := Lib.hid (HN.out hO2)
            clear bx bY hO hO2 HN HF
            go_wp2_with fail
            go_roundw
            case rel => exact ⟨y + 1, by omega, by go_num, HN2, HB⟩
            case measure => simp [intOf]; omega
        · obtain rfl : y = s.size := by omega
          have HN2 : Hid (specP t s b (x + 1) = true) := by show _ = _; rw [spec_next, HP.out, HR.out]; rfl
          clear HR HP
          go_wp2_with fail
          go_roundw
          case rel => exact ⟨x + 1, by omega, by go_num, HN2, HB⟩
          case measure => simp [intOf]; omega
    · obtain rfl : x = s.size := by omega
      have HR2 : Hid (res = true) := by show _ = _; rw [← HRS.out]; exact HP.out
      clear HP
      go_wp2_with fail
      go_ret
      exact ⟨by rw [HR2.out]; rfl, HB.out⟩
end Go.Proofs.YtbccachkkflceaaGreatDoor.PlS

