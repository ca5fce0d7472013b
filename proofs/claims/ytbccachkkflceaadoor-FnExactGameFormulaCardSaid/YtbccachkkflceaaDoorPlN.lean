/-
  The numbers of both players in the game of a table.
-/
import Derived.Test.YtbccachkkflceaaDoorPlM
import Derived.Test.YtbccachkkflceaaDoorWid
import Derived.Test.YtbccachkkflceaaDoorWhere
namespace Go.Proofs.YtbccachkkflceaaDoor.PlN
open Go.RowKit Go.Shelf Go.Proofs.YtbccachkkflceaaDoor.Plain Go.Proofs.YtbccachkkflceaaDoor.Base Go.Proofs.YtbccachkkflceaaDoor.Valid Go.Proofs.YtbccachkkflceaaDoor.Pat Go.Proofs.YtbccachkkflceaaDoor.Tree Go.Proofs.YtbccachkkflceaaDoor.Talk Go.Proofs.YtbccachkkflceaaDoor.PlM Go.Proofs.YtbccachkkflceaaDoor.Wid Go.Proofs.YtbccachkkflceaaDoor.Rect
open Go.Proofs.YtbccachkkflceaaDoor.Where (Says where_any)
set_option linter.unusedVariables false
set_option linter.unusedSimpArgs false

/-- the value of a number in a table -/
def onB (s : ByteArray) (n : Nat) : Bool := decide ((s.data.toList.getD n 0).toNat = 49)
def onesN (s : ByteArray) : Nat := setB (onB s) s.size
def zerosN (s : ByteArray) : Nat := setB (fun n => !onB s n) s.size
theorem byte_at (s : ByteArray) (k : Nat) (hk : k < s.size) : s.data.toList.getD k 0 = s[k] := by
  have hk' : k < s.data.toList.length := by simpa using hk
  simp only [List.getD_eq_getElem?_getD, List.getElem?_eq_getElem hk']
  simp
  rfl
theorem on_at (s : ByteArray) (k : Nat) (hk : k < s.size) : onB s k = decide ((s[k]).toNat = 49) := by unfold onB; rw [byte_at s k hk]
theorem both_sum (Q : Nat → Bool) : ∀ n, setB Q n + setB (fun k => !Q k) n + 1 = 2 ^ n
  | 0 => rfl
  | n + 1 => by
    have ih := both_sum Q n
    simp only [setB, Nat.pow_succ]
    rcases Bool.eq_false_or_eq_true (Q n) with h | h
    · simp [h]; omega
    · simp [h]; omega
theorem zeros_eq (s : ByteArray) : onesN s + zerosN s + 1 = 2 ^ s.size := both_sum (onB s) s.size
theorem ones_lt (s : ByteArray) (h : s.size ≤ 8) : onesN s < 256 := setB_lt8 _ _ h
theorem zeros_lt (s : ByteArray) (h : s.size ≤ 8) : zerosN s < 256 := setB_lt8 _ _ h
/-- the bytes of a table -/
theorem bit_bytes (s : ByteArray) (h : okB s = true) (k : Nat) (hk : k < s.size) : (s[k]).toNat = if onB s k then 49 else 48 := by
  have h1 : isBit s[k] = true := by
    cases hb : isBit s[k] with
    | true => rfl
    | false => rw [okB_false k hk hb] at h; cases h
  rw [on_at s k hk]
  have h2 : s[k] = 48 ∨ s[k] = 49 := by
    unfold isBit at h1
    simpa using h1
  rcases h2 with e | e
  · rw [e]; decide
  · rw [e]; decide

theorem ones_enters (args : Array Value) (W : World) : (callFunc 67 args).run Tryd.prog W = .ok (.enter 67 args) W := by kernel_rfl
set_option maxHeartbeats 1000000 in
theorem ones_clos (s : ByteArray) (n : Nat) (hn : n < s.size) (X : Nat) (w : World) (h : w.cell? ⟨X, 0, none⟩ = some (.string s)) :
    Calls Tryd.prog 67 #[.int .i64 (n : Int), .pointer (some ⟨X, 0, none⟩)] w fun e w' => e = .returned (.bool (onB s n)) ∧ Below w.heap.size w w' := by
  have hb : (((s[n]'hn).toNat : Int) == 49) = onB s n := by
    rw [on_at s n hn]
    by_cases e : (s[n]'hn).toNat = 49
    · rw [e]; rfl
    · rw [decide_eq_false e]; exact beq_false_of_ne (by omega)
  have HB := Lib.hid hb
  clear hb
  go_enter Tryd.func67, Tryd.ntmps67
  go_wp2_with fail
  go_ret
  exact ⟨by rw [← HB.out]; rfl, by go_grown⟩
set_option maxHeartbeats 1000000 in
theorem ones_of (s : ByteArray) (hs : s.size ≤ 8) (w : World) : Calls Tryd.prog 45 #[.string s] w fun e w' => e = .returned (.int .i64 (onesN s : Int)) ∧ Below w.heap.size w w' := by
  have hr := heap_alloc_new w (.cells #[.string s] 9)
  have c0 := cell_of_row _ _ 0 _ _ _ hr
  have hl : w.heap.size < (w.alloc (.cells #[.string s] 9)).heap.size := by simp
  have HB0 := Lib.hid ((Below.refl w.heap.size w).alloc (Nat.le_refl _) (.cells #[.string s] 9))
  have hS : Says 67 #[.pointer (some ⟨w.heap.size, 0, none⟩)] s.size (onB s) (w.alloc (.cells #[.string s] 9)) := fun W i hi hb => ones_clos s i hi w.heap.size W ((hb.cell (p := ⟨w.heap.size, 0, none⟩) hl).trans c0)
  have HW := Lib.hid (where_any 67 #[.pointer (some ⟨w.heap.size, 0, none⟩)] s.size hs (onB s) _ ones_enters (Lib.hid hS))
  have HN : Hid (setB (onB s) s.size = onesN s) := rfl
  clear hr hS hl
  go_enter Tryd.func45, Tryd.ntmps45
  go_wp2_with fail
  refine HW.out.mono ?_
  rintro e w2 ⟨rfl, hb⟩
  have HB := Lib.hid (HB0.out.trans (hb.mono HB0.out.size))
  clear hb HB0 HW
  go_wp2_with fail
  go_ret
  exact ⟨by rw [← HN.out]; rfl, HB.out⟩
theorem info_rect (x y : Int) : (Tryd.prog.info? 33).map (·.size) = some (#[.int .i64 x, .int .i64 y] : Array Value).size := by kernel_rfl
theorem one_rect (x y : Int) : (#[.int .i64 x, .int .i64 y] : Array Value).all (·.oneCell') = true := by simp [Value.oneCell']
theorem setRow_at' {w : World} {B : Nat} {cs cs' : Array Value} {T : TypeId} (h : w.heap[B]? = some (.cells cs T (0, 0))) : (w.setRow B cs').heap[B]? = some (.cells cs' T (0, 0)) := by
  simp [World.setRow, Array.getElem?_modify, h]
theorem setRow_below' {b : Nat} {w w1 : World} {B : Nat} (h : Below b w w1) (hB : b ≤ B) (cs : Array Value) : Below b w (w1.setRow B cs) :=
  h.trans ⟨rfl, rfl, rfl, by simp [World.setRow], fun k hk => by simp only [World.setRow, Array.getElem?_modify]; rw [if_neg (by omega)]⟩
theorem pow_small (n : Nat) (h : n ≤ 8) : IntKind.i64.wrap (2 ^ n) = ((2 ^ n : Nat) : Int) ∧ 2 ^ n ≤ 256 := by
  have : ∀ k : Fin 9, IntKind.i64.wrap (2 ^ k.1) = ((2 ^ k.1 : Nat) : Int) ∧ 2 ^ k.1 ≤ 256 := by decide
  exact this ⟨n, by omega⟩
/-- where there is a table: both sets -/
def numV (s : ByteArray) : Value := if tabV s then rect (onesN s) (zerosN s) else rect 0 0
theorem tab_size (s : ByteArray) (h : tabV s = true) : ∃ b : Nat, 1 ≤ b ∧ b ≤ 3 ∧ s.size = 2 ^ b ∧ okB s = true ∧ widthV s = (b : Int) ∧ s.size ≤ 8 := by
  rcases width_or s with ⟨b, N, h1, h2, h3, h4, h5, h6, h7, h8⟩ | h0
  · exact ⟨b, h1, h2, by omega, h7, h8, by omega⟩
  · unfold tabV at h
    rw [h0] at h
    cases h
set_option maxHeartbeats 2000000 in
theorem numbers (s : ByteArray) (hs : s.size ≤ maxLen) (w : World) : Calls Tryd.prog 24 #[.string s] w fun e w' => e = .returned (numV s) ∧ Below w.heap.size w w' := by
  have HT := Lib.hid (impl_tabv s hs)
  have hr := heap_alloc_new w (.cells #[.int .i64 0, .int .i64 0] 33)
  have HR := Lib.hid hr
  have HB0 := Lib.hid ((Below.refl w.heap.size w).alloc (Nat.le_refl _) (.cells #[.int .i64 0, .int .i64 0] 33))
  have HNV : Hid (numV s = if tabV s then rect (onesN s) (zerosN s) else rect 0 0) := rfl
  have htab := tab_size s
  have HON : Hid (s.size ≤ 8 → ∀ W, Calls Tryd.prog 45 #[.string s] W fun e w' => e = .returned (.int .i64 (onesN s : Int)) ∧ Below W.heap.size W w') := fun h W => ones_of s h W
  have hze := zeros_eq s
  have hps := pow_small s.size
  have hol := ones_lt s
  have hzl := zeros_lt s
  generalize numV s = nv at *
  generalize onesN s = on at *
  generalize zerosN s = ze at *
  obtain ⟨tv, htv⟩ : ∃ tv, tabV s = tv := ⟨_, rfl⟩
  rw [htv] at HT HNV htab
  clear hr htv
  cases tv
  · have HV : Hid (nv = .agg #[.int .i64 0, .int .i64 0]) := HNV.out
    clear HNV htab HON hze hps hol hzl
    go_enter Tryd.func24, Tryd.ntmps24
    go_wp2_with fail
    refine (HT.out _).mono ?_
    rintro e w2 ⟨rfl, hb⟩
    have HR2 : Hid (w2.heap[w.heap.size]? = some (.cells #[.int .i64 0, .int .i64 0] 33 (0, 0))) := (hb.block _ (by simp)).trans HR.out
    have HB2 := Lib.hid (HB0.out.trans (hb.mono HB0.out.size))
    clear hb HB0 HR
    go_wp2_with (have Z := HR2.out; refine wpList_store_row rfl 33 (.tmp 2) (.tmp 7) rfl w.heap.size _ rfl rfl 33 _ Z (info_rect _ _) rfl (one_rect _ _) ?_; clear Z)
    refine bodyPost_ret (v := .agg #[.int .i64 0, .int .i64 0]) (results_cell_row Tryd.results24 _ _ w.heap.size 33 _ (0, 0) _ rfl (setRow_at' HR2.out) Tryd.underlying33 rfl (info_rect _ _)) rfl ⟨by rw [HV.out], setRow_below' HB2.out (Nat.le_refl _) _⟩
  · obtain ⟨b, h1, h2, h3, h4, h5, h6⟩ := htab rfl
    have HV : Hid (nv = .agg #[.int .i64 (on : Int), .int .i64 (ze : Int)]) := HNV.out
    have HO := Lib.hid (HON.out h6)
    obtain ⟨q1, q2⟩ := hps h6
    have hz2 := hzl h6
    have ho2 := hol h6
    obtain ⟨X, hX⟩ : ∃ X, 2 ^ s.size = X := ⟨_, rfl⟩
    rw [hX] at hze q1 q2
    have e1 : (X : Int) - 1 - (on : Int) = (ze : Int) := by omega
    clear HNV htab HON hps hol hzl h1 h2 h3 h4 h5 hX hze
    go_enter Tryd.func24, Tryd.ntmps24
    go_wp2_with fail
    refine (HT.out _).mono ?_
    rintro e w2 ⟨rfl, hb⟩
    have HR2 : Hid (w2.heap[w.heap.size]? = some (.cells #[.int .i64 0, .int .i64 0] 33 (0, 0))) := (hb.block _ (by simp)).trans HR.out
    have HB2 := Lib.hid (HB0.out.trans (hb.mono HB0.out.size))
    clear hb HB0 HR
    go_wp2_with fail
    refine (HO.out _).mono ?_
    rintro e w3 ⟨rfl, hb⟩
    have HR3 : Hid (w3.heap[w.heap.size]? = some (.cells #[.int .i64 0, .int .i64 0] 33 (0, 0))) := (hb.block _ (Array.getElem?_eq_some_iff.1 HR2.out).1).trans HR2.out
    have HB3 := Lib.hid (HB2.out.trans (hb.mono HB2.out.size))
    clear hb HB2 HR2
    go_wp2_with (have Z := HR3.out; refine wpList_store_row rfl 33 (.tmp 2) (.tmp 17) rfl w.heap.size _ rfl rfl 33 _ Z (info_rect _ _) rfl (one_rect _ _) ?_; clear Z)
    refine bodyPost_ret (v := .agg #[.int .i64 (on : Int), .int .i64 (ze : Int)]) (results_cell_row Tryd.results24 _ _ w.heap.size 33 _ (0, 0) _ rfl (setRow_at' HR3.out) Tryd.underlying33 rfl (info_rect _ _)) rfl ⟨by rw [HV.out], setRow_below' HB3.out (Nat.le_refl _) _⟩
end Go.Proofs.YtbccachkkflceaaDoor.PlN
