/-
  The reference's formula of a protocol that plays a game.
-/
import Derived.Test.YtbccachkkflceaaDoorGfM
import Derived.Test.YtbccachkkflceaaDoorPlN
import Derived.Test.YtbccachkkflceaaDoorGSplit
import Derived.Test.YtbccachkkflceaaDoorFreeL
namespace Go.Proofs.YtbccachkkflceaaDoor.GfS
open Go.RowKit Go.Shelf Go.Proofs.YtbccachkkflceaaDoor.Plain Go.Proofs.YtbccachkkflceaaDoor.Base Go.Proofs.YtbccachkkflceaaDoor.Pat Go.Proofs.YtbccachkkflceaaDoor.Tree Go.Proofs.YtbccachkkflceaaDoor.TrimT Go.Proofs.YtbccachkkflceaaDoor.Talk Go.Proofs.YtbccachkkflceaaDoor.PlM Go.Proofs.YtbccachkkflceaaDoor.PlN Go.Proofs.YtbccachkkflceaaDoor.GfM Go.Proofs.YtbccachkkflceaaDoor.FreeL Go.Proofs.YtbccachkkflceaaDoor.Rect Go.Proofs.YtbccachkkflceaaDoor.Wid
open Go.Proofs.YtbccachkkflceaaDoor.Fm (F val sgn litB)
open Go.Proofs.YtbccachkkflceaaDoor.Parts (leaf_yes leaf_no parts_w str_data)
open Go.Proofs.YtbccachkkflceaaDoor.Hex (at_drop)
open Go.Proofs.YtbccachkkflceaaDoor.Split (split_said)
open Go.Proofs.YtbccachkkflceaaDoor.Where (or8)
open Go.Proofs.YtbccachkkflceaaDoor.Free (fill wp_value wp_enter wp_load_row freeB)
set_option linter.unusedVariables false
set_option linter.unusedSimpArgs false

theorem eval_get {a : Act} {d : Tmp} {v : Value} (h : a.tmps[d]?.getD undef = v) : a.eval (.tmp d) = v := by
  rw [← h]
  show a.tmps.getD d undef = _
  simp [Array.getD_eq_getD_getElem?]
theorem cells2 {w : World} {b : Nat} {c0 c1 : Value} {ty : TypeId} (h : w.heap[b]? = some (.cells #[c0, c1] ty (0, 0))) : w.cell? ⟨b, 0, none⟩ = some c0 ∧ w.cell? ⟨b, 1, none⟩ = some c1 ∧ w.frozen? ⟨b, 0, none⟩ = false ∧ w.frozen? ⟨b, 1, none⟩ = false :=
  ⟨cell_of_row _ _ 0 _ _ _ h, cell_of_row _ _ 1 _ _ _ h, frozen_of_row _ _ _ _ _ h, frozen_of_row _ _ _ _ _ h⟩
theorem set_two {w : World} {g : Nat} {c0 c1 v : Value} {T : TypeId} (i : Nat) (h : w.heap[g]? = some (.cells #[c0, c1] T (0, 0))) : (w.setCell ⟨g, i, none⟩ v).heap[g]? = some (.cells (#[c0, c1].setIfInBounds i v) T (0, 0)) := by
  simp [World.setCell, Array.getElem?_modify, h]
theorem set_other {w : World} {B k i : Nat} {v : Value} (h : k ≠ B) : (w.setCell ⟨B, i, none⟩ v).heap[k]? = w.heap[k]? := by
  simp only [World.setCell, Array.getElem?_modify]
  rw [if_neg (by omega)]
/-- the result's block, and the sets so far -/
structure Sd (w wr : World) (B : Nat) (x y : Int) : Prop where
  res : wr.heap[B]? = some (.cells #[.int .i64 0, .int .i64 0] 33 (0, 0))
  cur : wr.heap[B + 1]? = some (.cells #[.int .i64 x, .int .i64 y] 33 (0, 0))
  below : Below w.heap.size w wr
  low : w.heap.size = B
theorem Sd.put0 {w wr : World} {B : Nat} {x y : Int} (h : Sd w wr B x y) (v : Int) : Sd w (wr.setCell ⟨B + 1, 0, none⟩ (.int .i64 v)) B v y :=
  ⟨(set_other (by omega)).trans h.res, set_two 0 h.cur, h.below.setCell (by have := h.low; show _ ≤ B + 1; omega) _, h.low⟩
theorem Sd.put1 {w wr : World} {B : Nat} {x y : Int} (h : Sd w wr B x y) (v : Int) : Sd w (wr.setCell ⟨B + 1, 1, none⟩ (.int .i64 v)) B x v :=
  ⟨(set_other (by omega)).trans h.res, set_two 1 h.cur, h.below.setCell (by have := h.low; show _ ≤ B + 1; omega) _, h.low⟩

theorem pow64 (k : Nat) (h : k ≤ 8) : wrap64 (2 ^ k) = ((2 ^ k : Nat) : Int) := by
  have h2 : (2 : Nat) ^ k ≤ 256 := Nat.pow_le_pow_right (n := 2) (by decide) h
  rw [show ((2 : Int) ^ k) = ((2 ^ k : Nat) : Int) by simp]
  generalize (2 : Nat) ^ k = X at *
  simp only [wrap64]
  omega
theorem on_byte (s : ByteArray) (k : Nat) (hk : k < s.size) : (((s[k]).toNat : Int) == 49) = onB s k := by
  rw [on_at s k hk]
  by_cases e : (s[k]).toNat = 49
  · rw [e]; rfl
  · rw [decide_eq_false e]; exact beq_false_of_ne (by omega)
set_option maxHeartbeats 4000000 in
set_option maxRecDepth 100000 in
theorem sides_any (s : ByteArray) (hs : s.size ≤ 1048576) (w : World) :
    Calls Tryd.prog 27 #[.string s] w fun e w' => ∃ x y : Int, e = .returned (.agg #[.int .i64 x, .int .i64 y]) ∧ (s.size ≤ 8 → x = (onesN s : Int) ∧ y = (zerosN s : Int)) ∧ Below w.heap.size w w' := by
  have hsd : Sd w ((w.alloc (.cells #[.int .i64 0, .int .i64 0] 33)).alloc (.cells #[.int .i64 0, .int .i64 0] 33)) w.heap.size 0 0 := by
    refine ⟨?_, ?_, ((Below.refl w.heap.size w).alloc (Nat.le_refl _) _).alloc (by simp) _, rfl⟩
    · rw [Below.heap_alloc _ _ _ (by simp)]; exact heap_alloc_new w _
    · have h := heap_alloc_new (w.alloc (.cells #[.int .i64 0, .int .i64 0] 33)) (.cells #[.int .i64 0, .int .i64 0] 33)
      rw [World.size_alloc] at h
      exact h
  have HSD := Lib.hid hsd
  clear hsd
  go_enter Tryd.func27, Tryd.ntmps27
  go_wp2_with fail
  generalize (w.alloc (.cells #[.int .i64 0, .int .i64 0] 33)).alloc (.cells #[.int .i64 0, .int .i64 0] 33) = W2 at *
  obtain ⟨B, hB⟩ : ∃ B, w.heap.size = B := ⟨_, rfl⟩
  rw [hB] at HSD ⊢
  have HB0 := Lib.hid hB
  clear hB
  go_loopw [4] (fun i wr => ∃ (k : Nat) (x y : Int), k ≤ s.size ∧ i = .int .i64 (k : Int) ∧ Hid (k ≤ 8 → x = (setB (onB s) k : Int) ∧ y = (setB (fun n => !onB s n) k : Int)) ∧ Hid (Sd w wr B x y)) (fun i _ => s.size - (intOf i).toNat)
  case atStart => exact ⟨0, 0, 0, Nat.zero_le _, rfl, fun _ => ⟨rfl, rfl⟩, HSD⟩
  case round =>
    obtain ⟨k, x, y, hk, rfl, HE, HS⟩ := hrel
    by_cases hlt : k < s.size
    · have hb := on_byte s k hlt
      have hku : IntKind.u64.wrap (k : Int) = (k : Int) := by rw [IntKind.wrap_u64]; omega
      obtain ⟨Z, hZ⟩ : ∃ Z : Int, wrap64 (2 ^ min k 64) = Z := ⟨_, rfl⟩
      have HZ8 : Hid (k + 1 ≤ 8 → Z = ((2 ^ k : Nat) : Int)) := fun h => by rw [← hZ, show min k 64 = k by omega]; exact pow64 k (by omega)
      obtain ⟨p, hp⟩ : ∃ p, onB s k = p := ⟨_, rfl⟩
      rw [hp] at hb
      have HP := Lib.hid hp
      clear hp
      obtain ⟨c0, c1, f0, f1⟩ := cells2 HS.out.cur
      cases p
      · obtain ⟨V, hV⟩ : ∃ V : Int, Go.bits .or .i64 y Z = V := ⟨_, rfl⟩
        have HN := Lib.hid (HS.out.put1 V)
        have HE2 : Hid (k + 1 ≤ 8 → x = (setB (onB s) (k + 1) : Int) ∧ V = (setB (fun n => !onB s n) (k + 1) : Int)) := fun h => by
          obtain ⟨e1, e2⟩ := HE.out (by omega)
          have hl : setB (fun n => !onB s n) k < 256 := setB_lt8 _ k (by omega)
          have hX : 2 ^ k < 256 := Nat.lt_of_lt_of_le (Nat.pow_lt_pow_right (by decide) (show k < 8 by omega)) (by decide)
          refine ⟨?_, ?_⟩
          · rw [e1, ← setB_or, HP.out]; simp
          · rw [← hV, e2, HZ8.out h, or8 _ _ hl hX, ← setB_or]
            simp [HP.out]
        clear HE HZ8 HP
        go_wp2_with fail
        go_roundw
        case rel => exact ⟨k + 1, x, V, by omega, by go_num, HE2, HN⟩
        case measure => simp [intOf]; omega
      · obtain ⟨V, hV⟩ : ∃ V : Int, Go.bits .or .i64 x Z = V := ⟨_, rfl⟩
        have HN := Lib.hid (HS.out.put0 V)
        have HE2 : Hid (k + 1 ≤ 8 → V = (setB (onB s) (k + 1) : Int) ∧ y = (setB (fun n => !onB s n) (k + 1) : Int)) := fun h => by
          obtain ⟨e1, e2⟩ := HE.out (by omega)
          have hl : setB (onB s) k < 256 := setB_lt8 _ k (by omega)
          have hX : 2 ^ k < 256 := Nat.lt_of_lt_of_le (Nat.pow_lt_pow_right (by decide) (show k < 8 by omega)) (by decide)
          refine ⟨?_, ?_⟩
          · rw [← hV, e1, HZ8.out h, or8 _ _ hl hX, ← setB_or]
            simp [HP.out]
          · rw [e2, ← setB_or, HP.out]; simp
        clear HE HZ8 HP
        go_wp2_with fail
        go_roundw
        case rel => exact ⟨k + 1, V, y, by omega, by go_num, HE2, HN⟩
        case measure => simp [intOf]; omega
    · obtain rfl : k = s.size := by omega
      have HRR : Hid ((wr.setRow B #[.int .i64 x, .int .i64 y]).heap[B]? = some (.cells #[.int .i64 x, .int .i64 y] 33 (0, 0))) := setRow_at' HS.out.res
      have HBB : Hid (Below w.heap.size w (wr.setRow B #[.int .i64 x, .int .i64 y])) := setRow_below' HS.out.below (by rw [HS.out.low]; exact Nat.le_refl _) _
      go_wp2_with (first | (have Z := HS.out.cur; refine wpList_load_row rfl 33 (.tmp 3) rfl (B + 1) rfl 33 _ (0, 0) _ Z Tryd.underlying33 rfl (info_rect _ _) ?_; clear Z) | (have Z := HS.out.res; refine wpList_store_row rfl 33 (.tmp 2) (.tmp 30) rfl B _ rfl rfl 33 _ Z (info_rect _ _) rfl (one_rect _ _) ?_; clear Z))
      refine bodyPost_ret (v := .agg #[.int .i64 x, .int .i64 y]) (results_cell_row Tryd.results27 _ _ B 33 _ (0, 0) _ rfl HRR.out Tryd.underlying33 rfl (info_rect _ _)) rfl ⟨x, y, rfl, HE.out, HBB.out⟩

/-- whether a table has both values -/
def bothB (s : ByteArray) : Bool := tabV s && (decide (onesN s ≠ 0) && decide (zerosN s ≠ 0))
set_option maxHeartbeats 2000000 in
theorem both_w (s : ByteArray) (hs : s.size ≤ 1048576) (w : World) : Calls Tryd.prog 25 #[.string s] w fun e w' => e = .returned (.bool (bothB s)) ∧ Below w.heap.size w w' := by
  have HS := Lib.hid (fun W => sides_any s hs W)
  have HT := Lib.hid (spec_tab s (by unfold maxLen; omega))
  have htab := tab_size s
  unfold bothB
  obtain ⟨tv, htv⟩ : ∃ tv, tabV s = tv := ⟨_, rfl⟩
  rw [htv] at HT htab ⊢
  generalize onesN s = on at *
  generalize zerosN s = ze at *
  clear htv
  go_enter Tryd.func25, Tryd.ntmps25
  go_wp2_with fail
  refine (HS.out _).mono ?_
  rintro e w2 ⟨x, y, rfl, hxy, hb⟩
  have hr := heap_alloc_new w2 (.cells #[.int .i64 x, .int .i64 y] 33)
  obtain ⟨c0, c1, _, _⟩ := cells2 hr
  have HB := Lib.hid (hb.alloc hb.size (.cells #[.int .i64 x, .int .i64 y] 33))
  clear hb hr HS
  cases tv
  · clear hxy htab
    go_wp2_with fail
    refine (HT.out _).mono ?_
    rintro e w3 ⟨rfl, rfl⟩
    go_wp2_with fail
    go_ret
    exact ⟨rfl, HB.out⟩
  · obtain ⟨b, _, _, _, _, _, h8⟩ := htab rfl
    obtain ⟨rfl, rfl⟩ := hxy h8
    clear htab h8
    by_cases h1 : on = 0
    · have e1 : ((on : Int) != 0) = false := by rw [h1]; rfl
      have hdd : decide (on ≠ 0) = false := decide_eq_false (by omega)
      have HD := Lib.hid hdd
      clear h1 hdd
      go_wp2_with fail
      refine (HT.out _).mono ?_
      rintro e w3 ⟨rfl, rfl⟩
      go_wp2_with fail
      go_ret
      exact ⟨by rw [HD.out]; rfl, HB.out⟩
    · have e1 : ((on : Int) != 0) = true := bne_iff_ne.2 (by omega)
      have HD1 : Hid (decide (on ≠ 0) = true) := decide_eq_true h1
      clear h1
      by_cases h2 : ze = 0
      · have e2 : ((ze : Int) != 0) = false := by rw [h2]; rfl
        have HD : Hid (decide (ze ≠ 0) = false) := decide_eq_false (by omega)
        clear h2
        go_wp2_with fail
        refine (HT.out _).mono ?_
        rintro e w3 ⟨rfl, rfl⟩
        go_wp2_with fail
        go_ret
        exact ⟨by rw [HD1.out, HD.out]; rfl, HB.out⟩
      · have e2 : ((ze : Int) != 0) = true := bne_iff_ne.2 (by omega)
        have HD2 : Hid (decide (ze ≠ 0) = true) := decide_eq_true h2
        clear h2
        go_wp2_with fail
        refine (HT.out _).mono ?_
        rintro e w3 ⟨rfl, rfl⟩
        go_wp2_with fail
        go_ret
        exact ⟨by rw [HD1.out, HD2.out]; rfl, HB.out⟩

theorem let_part (k : Nat) (hk : k < 3) : (⟨#[120, 121, 122]⟩ : ByteArray).extract k (k + 1) = str [litB k true] ∧ (⟨#[88, 89, 90]⟩ : ByteArray).extract k (k + 1) = str [litB k false] := by
  have e : ∀ k : Fin 3, ((⟨#[120, 121, 122]⟩ : ByteArray).extract k.1 (k.1 + 1)).data.toList = [litB k.1 true] ∧ ((⟨#[88, 89, 90]⟩ : ByteArray).extract k.1 (k.1 + 1)).data.toList = [litB k.1 false] := by decide
  exact ⟨Read.eq_str (e ⟨k, hk⟩).1, Read.eq_str (e ⟨k, hk⟩).2⟩
set_option maxHeartbeats 4000000 in
set_option maxRecDepth 100000 in
theorem form_leaf (b : V3) (R C : Nat) (hR : R < 256) (hR0 : R ≠ 0) (w : World) :
    Calls Tryd.prog 26 #[.string (str (text (.leaf b))), rect R C] w fun e w' => e = .returned (.string (str (Fm.text (frmS (.leaf b) R C)))) ∧ Below w.heap.size w w' := by
  have HL : Hid (∀ W, Calls Tryd.prog 46 #[.string (str (text (.leaf b)))] W fun e w' => e = .returned (.bool true) ∧ W = w') := leaf_yes _ (by rw [str_size]; rfl)
  obtain ⟨hk, hx0⟩ := at_drop (s := str (text (.leaf b))) (k := 0) (c := gD b) (r := []) (by rw [str_data]; rfl)
  have hn : ((str (text (.leaf b)))[0]'hk).toNat = (gD b).toNat := by rw [hx0]
  obtain ⟨hl1, hl2, hl3⟩ := least_in hR hR0
  have HIN := Lib.hid (fun (x : Nat) (hx : x < 8) W => l2In_any R x hR hx W)
  have HIX := Lib.hid (fun (i : Nat) (hi : i < 8) W => l2In_any (leastN R) i (by omega) hi W)
  have hg3 := gN_lt b
  have hgd : ((gD b).toNat : Int) - 48 = (gN b : Int) := by cases b <;> rfl
  have HRES : Hid (str (Fm.text (frmS (.leaf b) R C)) = str [litB (gN b) ((leastN R).testBit (gN b))]) := rfl
  obtain ⟨p1, p2⟩ := let_part (gN b) hg3
  obtain ⟨res, hres⟩ : ∃ res, str (Fm.text (frmS (.leaf b) R C)) = res := ⟨_, rfl⟩
  rw [hres] at HRES ⊢
  clear hres hx0
  generalize str (text (.leaf b)) = s at *
  generalize (gD b).toNat = d at *
  generalize gN b = g at *
  rw [← hn] at hgd
  clear hn
  have HLA := Lib.hid (And.intro hl1 hl3)
  have HP := Lib.hid (And.intro p1 p2)
  clear hl1 hl3 p1 p2
  generalize leastN R = L at *
  have hb0 := (Below.refl w.heap.size w).alloc (Nat.le_refl _) (.cells #[.int .i64 (R : Int), .int .i64 (C : Int)] 33)
  have hrow := heap_alloc_new w (.cells #[.int .i64 (R : Int), .int .i64 (C : Int)] 33)
  have HB0 := Lib.hid hb0
  have HRW := Lib.hid hrow
  clear hb0 hrow
  go_enter Tryd.func26, Tryd.ntmps26
  go_wp2_with fail
  refine (HL.out _).mono ?_
  rintro e w1 ⟨rfl, rfl⟩
  go_wp2_with fail
  obtain ⟨X, hX⟩ : ∃ X, w.heap.size = X := ⟨_, rfl⟩
  rw [hX] at HRW ⊢
  generalize w.alloc (.cells #[.int .i64 (R : Int), .int .i64 (C : Int)] 33) = W1 at *
  obtain ⟨c0, c1, _, _⟩ := cells2 HRW.out
  have HXX := Lib.hid hX
  clear hX
  go_loop [6] (fun i => ∃ x : Nat, x ≤ L ∧ i = .int .i64 (x : Int)) (fun i => L - (intOf i).toNat)
  case atStart => exact ⟨0, Nat.zero_le _, rfl⟩
  case round =>
    obtain ⟨x, hx, rfl⟩ := hrel
    have HI := Lib.hid (HIN.out x (by omega))
    by_cases hlt : x < L
    · have hbit := HLA.out.2 x hlt
      rw [hbit] at HI
      clear hbit
      go_wp2_with fail
      refine (HI.out _).mono ?_
      rintro e w2 ⟨rfl, rfl⟩
      go_wp2_with fail
      go_round
      case rel => exact ⟨x + 1, by omega, by go_num⟩
      case measure => simp [intOf]; omega
    · obtain rfl : x = L := by omega
      have hbit := HLA.out.1
      rw [hbit] at HI
      have HJ := Lib.hid (HIX.out g (by omega))
      obtain ⟨v, hv⟩ : ∃ v, x.testBit g = v := ⟨_, rfl⟩
      rw [hv] at HJ HRES
      clear hbit hv HIX HIN HLA
      cases v
      · have hpp := HP.out.2
        have HR2 : Hid (res = str [litB g false]) := HRES.out
        generalize str [litB g false] = q at *
        clear HRES HP
        have hg33 : (g : Int) + 1 ≤ 3 := by omega
        go_wp2_with fail
        refine (HI.out _).mono ?_
        rintro e w2 ⟨rfl, rfl⟩
        go_wp2_with fail
        refine (HJ.out _).mono ?_
        rintro e w2 ⟨rfl, rfl⟩
        go_wp2_with fail
        go_ret
        exact ⟨by rw [HR2.out, ← hpp]; rfl, HB0.out⟩
      · have hpp := HP.out.1
        have HR2 : Hid (res = str [litB g true]) := HRES.out
        generalize str [litB g true] = q at *
        clear HRES HP
        have hg33 : (g : Int) + 1 ≤ 3 := by omega
        go_wp2_with fail
        refine (HI.out _).mono ?_
        rintro e w2 ⟨rfl, rfl⟩
        go_wp2_with fail
        refine (HJ.out _).mono ?_
        rintro e w2 ⟨rfl, rfl⟩
        go_wp2_with fail
        go_ret
        exact ⟨by rw [HR2.out, ← hpp]; rfl, HB0.out⟩

set_option maxHeartbeats 8000000 in
set_option maxRecDepth 100000 in
/-- the reference's formula -/
theorem form_said (t : T) : wf t → (text t).length ≤ 2000 → ∀ (R C : Nat), R < 256 → C < 256 → R ≠ 0 → C ≠ 0 → ∀ w : World,
    Calls Tryd.prog 26 #[.string (str (text t)), rect R C] w fun e w' => e = .returned (.string (str (Fm.text (frmS t R C)))) ∧ Below w.heap.size w w' := by
  induction t with
  | leaf b => exact fun _ _ R C hR _ hR0 _ w => form_leaf b R C hR hR0 w
  | say a s z o ihz iho =>
    intro hw hl R C hR hC hR0 hC0 w
    have hlz : (text (.say a s z o)).length = (text z).length + (text o).length + 3 := by simp [text]
    obtain ⟨h1, h2, h3, h4⟩ := parts_lt a s hR hC
    have HL : Hid (∀ W, Calls Tryd.prog 46 #[.string (str (text (.say a s z o)))] W fun e w' => e = .returned (.bool false) ∧ W = w') := leaf_no _ (by rw [str_size]; omega)
    have HPA := Lib.hid (parts_w a s z o hw.2.1 (str (text (.say a s z o))) (str_data _) (by rw [str_size]; omega))
    have HSP := Lib.hid (split_said a s z o hw.1 (str (text (.say a s z o))) (str_data _) (by rw [str_size]; omega) R C hR hC)
    obtain ⟨hk, hx0⟩ := at_drop (s := str (text (.say a s z o))) (k := 0) (c := whoB a) (r := hexD (s / 16) :: hexD (s % 16) :: (text z ++ text o)) (by rw [str_data]; rfl)
    have hn : ((str (text (.say a s z o)))[0]'hk).toNat = (whoB a).toNat := by rw [hx0]
    have HN := Lib.hid hn
    have hZ := fun (g1 : outR a s R ≠ 0) (g2 : outC a s C ≠ 0) => ihz hw.2.1 (by omega) (outR a s R) (outC a s C) h1 h2 g1 g2
    have hO := fun (g1 : inR a s R ≠ 0) (g2 : inC a s C ≠ 0) => iho hw.2.2 (by omega) (inR a s R) (inC a s C) h3 h4 g1 g2
    have HNB := Lib.hid (not_both a s hR hC (by omega) (by omega))
    have hfr : frmS (.say a s z o) R C = if outR a s R = 0 ∨ outC a s C = 0 then frmS o (inR a s R) (inC a s C) else if inR a s R = 0 ∨ inC a s C = 0 then frmS z (outR a s R) (outC a s C) else .gate (!a) (frmS z (outR a s R) (outC a s C)) (frmS o (inR a s R) (inC a s C)) := rfl
    have HNB2 : Hid (outR a s R = 0 ∨ outC a s C = 0 → inR a s R ≠ 0 ∧ inC a s C ≠ 0) := fun h => by
      obtain ⟨e1, e2⟩ := out_none a s R C hR hC hR0 hC0 h
      exact ⟨by rw [e1]; exact hR0, by rw [e2]; exact hC0⟩
    have hszz := frm_size z (outR a s R) (outC a s C) h1 h2
    have hszo := frm_size o (inR a s R) (inC a s C) h3 h4
    rw [hfr]
    generalize str (text (.say a s z o)) = st at *
    generalize str (text z) = sz at *
    generalize str (text o) = so at *
    generalize outR a s R = oR at *
    generalize outC a s C = oC at *
    generalize inR a s R = iR at *
    generalize inC a s C = iC at *
    have hb0 := (Below.refl w.heap.size w).alloc (Nat.le_refl _) (.cells #[.int .i64 (R : Int), .int .i64 (C : Int)] 33)
    have hrow := heap_alloc_new w (.cells #[.int .i64 (R : Int), .int .i64 (C : Int)] 33)
    have HB0 := Lib.hid hb0
    have HRW := Lib.hid hrow
    clear hb0 hrow hx0 hn hl hlz hw ihz iho hfr
    by_cases a1 : oR = 0
    · rw [if_pos (.inl a1)]
      have HO := Lib.hid (hO (HNB2.out (.inl a1)).1 (HNB2.out (.inl a1)).2)
      have z1 : ((oR : Int) == 0) = true := by rw [a1]; rfl
      clear hO hZ HNB HNB2 hszz hszo a1
      go_enter Tryd.func26, Tryd.ntmps26
      go_wp2_with fail
      refine (HL.out _).mono ?_
      rintro e w1 ⟨rfl, rfl⟩
      go_wp2_with fail
      refine (HPA.out _).mono ?_
      rintro e w2 ⟨rfl, hb2⟩
      have HR2 : Hid (w2.heap[w.heap.size]? = some (.cells #[.int .i64 (R : Int), .int .i64 (C : Int)] 33 (0, 0))) := (hb2.block _ (by simp)).trans HRW.out
      have HB2 := Lib.hid (HB0.out.trans (hb2.mono HB0.out.size))
      clear hb2
      go_wp2_with (have Z := HR2.out; refine wpList_load_row rfl 33 (.tmp 3) rfl w.heap.size rfl 33 _ (0, 0) _ Z Tryd.underlying33 rfl (info_rect _ _) ?_; clear Z)
      refine (HSP.out _).mono ?_
      rintro e w3 ⟨rfl, hb3⟩
      have HB3 := Lib.hid (HB2.out.trans (hb3.mono HB2.out.size))
      obtain ⟨D, hD⟩ : ∃ D, w3.heap.size = D := ⟨_, rfl⟩
      have hZA : ((w3.alloc (.cells #[.int .i64 (oR : Int), .int .i64 (oC : Int)] 33)).alloc (.cells #[.int .i64 (iR : Int), .int .i64 (iC : Int)] 33)).heap[D]? = some (.cells #[.int .i64 (oR : Int), .int .i64 (oC : Int)] 33 (0, 0)) := by
        rw [← hD, Below.heap_alloc _ _ _ (by simp)]; exact heap_alloc_new w3 _
      have hZB : ((w3.alloc (.cells #[.int .i64 (oR : Int), .int .i64 (oC : Int)] 33)).alloc (.cells #[.int .i64 (iR : Int), .int .i64 (iC : Int)] 33)).heap[D + 1]? = some (.cells #[.int .i64 (iR : Int), .int .i64 (iC : Int)] 33 (0, 0)) := by
        have h := heap_alloc_new (w3.alloc (.cells #[.int .i64 (oR : Int), .int .i64 (oC : Int)] 33)) (.cells #[.int .i64 (iR : Int), .int .i64 (iC : Int)] 33)
        rw [World.size_alloc] at h
        rw [← hD]; exact h
      have HB4 := Lib.hid ((HB3.out.alloc HB3.out.size (.cells #[.int .i64 (oR : Int), .int .i64 (oC : Int)] 33)).alloc (by have := HB3.out.size; simp; omega) (.cells #[.int .i64 (iR : Int), .int .i64 (iC : Int)] 33))
      have HZA := Lib.hid hZA
      have HZB := Lib.hid hZB
      have HDD := Lib.hid hD
      clear hb3 hZA hZB hD HB3 HB2 HR2 HRW HB0
      go_wp2_with fail
      refine (HO.out _).mono ?_
      rintro e w5 ⟨rfl, hb5⟩
      have HB5 := Lib.hid (HB4.out.trans (hb5.mono HB4.out.size))
      clear hb5
      go_wp2_with fail
      go_ret
      exact ⟨rfl, HB5.out⟩
    by_cases a2 : oC = 0
    · rw [if_pos (.inr a2)]
      have HO := Lib.hid (hO (HNB2.out (.inr a2)).1 (HNB2.out (.inr a2)).2)
      have z1 : ((oR : Int) == 0) = false := beq_false_of_ne (by omega)
      have z2 : ((oC : Int) == 0) = true := by rw [a2]; rfl
      clear hO hZ HNB HNB2 hszz hszo a1 a2
      go_enter Tryd.func26, Tryd.ntmps26
      go_wp2_with fail
      refine (HL.out _).mono ?_
      rintro e w1 ⟨rfl, rfl⟩
      go_wp2_with fail
      refine (HPA.out _).mono ?_
      rintro e w2 ⟨rfl, hb2⟩
      have HR2 : Hid (w2.heap[w.heap.size]? = some (.cells #[.int .i64 (R : Int), .int .i64 (C : Int)] 33 (0, 0))) := (hb2.block _ (by simp)).trans HRW.out
      have HB2 := Lib.hid (HB0.out.trans (hb2.mono HB0.out.size))
      clear hb2
      go_wp2_with (have Z := HR2.out; refine wpList_load_row rfl 33 (.tmp 3) rfl w.heap.size rfl 33 _ (0, 0) _ Z Tryd.underlying33 rfl (info_rect _ _) ?_; clear Z)
      refine (HSP.out _).mono ?_
      rintro e w3 ⟨rfl, hb3⟩
      have HB3 := Lib.hid (HB2.out.trans (hb3.mono HB2.out.size))
      obtain ⟨D, hD⟩ : ∃ D, w3.heap.size = D := ⟨_, rfl⟩
      have hZA : ((w3.alloc (.cells #[.int .i64 (oR : Int), .int .i64 (oC : Int)] 33)).alloc (.cells #[.int .i64 (iR : Int), .int .i64 (iC : Int)] 33)).heap[D]? = some (.cells #[.int .i64 (oR : Int), .int .i64 (oC : Int)] 33 (0, 0)) := by
        rw [← hD, Below.heap_alloc _ _ _ (by simp)]; exact heap_alloc_new w3 _
      have hZB : ((w3.alloc (.cells #[.int .i64 (oR : Int), .int .i64 (oC : Int)] 33)).alloc (.cells #[.int .i64 (iR : Int), .int .i64 (iC : Int)] 33)).heap[D + 1]? = some (.cells #[.int .i64 (iR : Int), .int .i64 (iC : Int)] 33 (0, 0)) := by
        have h := heap_alloc_new (w3.alloc (.cells #[.int .i64 (oR : Int), .int .i64 (oC : Int)] 33)) (.cells #[.int .i64 (iR : Int), .int .i64 (iC : Int)] 33)
        rw [World.size_alloc] at h
        rw [← hD]; exact h
      have HB4 := Lib.hid ((HB3.out.alloc HB3.out.size (.cells #[.int .i64 (oR : Int), .int .i64 (oC : Int)] 33)).alloc (by have := HB3.out.size; simp; omega) (.cells #[.int .i64 (iR : Int), .int .i64 (iC : Int)] 33))
      have HZA := Lib.hid hZA
      have HZB := Lib.hid hZB
      have HDD := Lib.hid hD
      clear hb3 hZA hZB hD HB3 HB2 HR2 HRW HB0
      go_wp2_with fail
      refine (HO.out _).mono ?_
      rintro e w5 ⟨rfl, hb5⟩
      have HB5 := Lib.hid (HB4.out.trans (hb5.mono HB4.out.size))
      clear hb5
      go_wp2_with fail
      go_ret
      exact ⟨rfl, HB5.out⟩
    have z1 : ((oR : Int) == 0) = false := beq_false_of_ne (by omega)
    have z2 : ((oC : Int) == 0) = false := beq_false_of_ne (by omega)
    rw [if_neg (by omega)]
    have HZ := Lib.hid (hZ a1 a2)
    by_cases a3 : iR = 0
    · rw [if_pos (.inl a3)]
      have z3 : ((iR : Int) == 0) = true := by rw [a3]; rfl
      clear hO hZ HNB HNB2 hszz hszo a1 a2 a3
      go_enter Tryd.func26, Tryd.ntmps26
      go_wp2_with fail
      refine (HL.out _).mono ?_
      rintro e w1 ⟨rfl, rfl⟩
      go_wp2_with fail
      refine (HPA.out _).mono ?_
      rintro e w2 ⟨rfl, hb2⟩
      have HR2 : Hid (w2.heap[w.heap.size]? = some (.cells #[.int .i64 (R : Int), .int .i64 (C : Int)] 33 (0, 0))) := (hb2.block _ (by simp)).trans HRW.out
      have HB2 := Lib.hid (HB0.out.trans (hb2.mono HB0.out.size))
      clear hb2
      go_wp2_with (have Z := HR2.out; refine wpList_load_row rfl 33 (.tmp 3) rfl w.heap.size rfl 33 _ (0, 0) _ Z Tryd.underlying33 rfl (info_rect _ _) ?_; clear Z)
      refine (HSP.out _).mono ?_
      rintro e w3 ⟨rfl, hb3⟩
      have HB3 := Lib.hid (HB2.out.trans (hb3.mono HB2.out.size))
      obtain ⟨D, hD⟩ : ∃ D, w3.heap.size = D := ⟨_, rfl⟩
      have hZA : ((w3.alloc (.cells #[.int .i64 (oR : Int), .int .i64 (oC : Int)] 33)).alloc (.cells #[.int .i64 (iR : Int), .int .i64 (iC : Int)] 33)).heap[D]? = some (.cells #[.int .i64 (oR : Int), .int .i64 (oC : Int)] 33 (0, 0)) := by
        rw [← hD, Below.heap_alloc _ _ _ (by simp)]; exact heap_alloc_new w3 _
      have hZB : ((w3.alloc (.cells #[.int .i64 (oR : Int), .int .i64 (oC : Int)] 33)).alloc (.cells #[.int .i64 (iR : Int), .int .i64 (iC : Int)] 33)).heap[D + 1]? = some (.cells #[.int .i64 (iR : Int), .int .i64 (iC : Int)] 33 (0, 0)) := by
        have h := heap_alloc_new (w3.alloc (.cells #[.int .i64 (oR : Int), .int .i64 (oC : Int)] 33)) (.cells #[.int .i64 (iR : Int), .int .i64 (iC : Int)] 33)
        rw [World.size_alloc] at h
        rw [← hD]; exact h
      have HB4 := Lib.hid ((HB3.out.alloc HB3.out.size (.cells #[.int .i64 (oR : Int), .int .i64 (oC : Int)] 33)).alloc (by have := HB3.out.size; simp; omega) (.cells #[.int .i64 (iR : Int), .int .i64 (iC : Int)] 33))
      have HZA := Lib.hid hZA
      have HZB := Lib.hid hZB
      have HDD := Lib.hid hD
      clear hb3 hZA hZB hD HB3 HB2 HR2 HRW HB0
      go_wp2_with fail
      refine (HZ.out _).mono ?_
      rintro e w5 ⟨rfl, hb5⟩
      have HB5 := Lib.hid (HB4.out.trans (hb5.mono HB4.out.size))
      clear hb5
      go_wp2_with fail
      go_ret
      exact ⟨rfl, HB5.out⟩
    by_cases a4 : iC = 0
    · rw [if_pos (.inr a4)]
      have z3 : ((iR : Int) == 0) = false := beq_false_of_ne (by omega)
      have z4 : ((iC : Int) == 0) = true := by rw [a4]; rfl
      clear hO hZ HNB HNB2 hszz hszo a1 a2 a3 a4
      go_enter Tryd.func26, Tryd.ntmps26
      go_wp2_with fail
      refine (HL.out _).mono ?_
      rintro e w1 ⟨rfl, rfl⟩
      go_wp2_with fail
      refine (HPA.out _).mono ?_
      rintro e w2 ⟨rfl, hb2⟩
      have HR2 : Hid (w2.heap[w.heap.size]? = some (.cells #[.int .i64 (R : Int), .int .i64 (C : Int)] 33 (0, 0))) := (hb2.block _ (by simp)).trans HRW.out
      have HB2 := Lib.hid (HB0.out.trans (hb2.mono HB0.out.size))
      clear hb2
      go_wp2_with (have Z := HR2.out; refine wpList_load_row rfl 33 (.tmp 3) rfl w.heap.size rfl 33 _ (0, 0) _ Z Tryd.underlying33 rfl (info_rect _ _) ?_; clear Z)
      refine (HSP.out _).mono ?_
      rintro e w3 ⟨rfl, hb3⟩
      have HB3 := Lib.hid (HB2.out.trans (hb3.mono HB2.out.size))
      obtain ⟨D, hD⟩ : ∃ D, w3.heap.size = D := ⟨_, rfl⟩
      have hZA : ((w3.alloc (.cells #[.int .i64 (oR : Int), .int .i64 (oC : Int)] 33)).alloc (.cells #[.int .i64 (iR : Int), .int .i64 (iC : Int)] 33)).heap[D]? = some (.cells #[.int .i64 (oR : Int), .int .i64 (oC : Int)] 33 (0, 0)) := by
        rw [← hD, Below.heap_alloc _ _ _ (by simp)]; exact heap_alloc_new w3 _
      have hZB : ((w3.alloc (.cells #[.int .i64 (oR : Int), .int .i64 (oC : Int)] 33)).alloc (.cells #[.int .i64 (iR : Int), .int .i64 (iC : Int)] 33)).heap[D + 1]? = some (.cells #[.int .i64 (iR : Int), .int .i64 (iC : Int)] 33 (0, 0)) := by
        have h := heap_alloc_new (w3.alloc (.cells #[.int .i64 (oR : Int), .int .i64 (oC : Int)] 33)) (.cells #[.int .i64 (iR : Int), .int .i64 (iC : Int)] 33)
        rw [World.size_alloc] at h
        rw [← hD]; exact h
      have HB4 := Lib.hid ((HB3.out.alloc HB3.out.size (.cells #[.int .i64 (oR : Int), .int .i64 (oC : Int)] 33)).alloc (by have := HB3.out.size; simp; omega) (.cells #[.int .i64 (iR : Int), .int .i64 (iC : Int)] 33))
      have HZA := Lib.hid hZA
      have HZB := Lib.hid hZB
      have HDD := Lib.hid hD
      clear hb3 hZA hZB hD HB3 HB2 HR2 HRW HB0
      go_wp2_with fail
      refine (HZ.out _).mono ?_
      rintro e w5 ⟨rfl, hb5⟩
      have HB5 := Lib.hid (HB4.out.trans (hb5.mono HB4.out.size))
      clear hb5
      go_wp2_with fail
      go_ret
      exact ⟨rfl, HB5.out⟩
    have z3 : ((iR : Int) == 0) = false := beq_false_of_ne (by omega)
    have z4 : ((iC : Int) == 0) = false := beq_false_of_ne (by omega)
    rw [if_neg (by omega)]
    have HO := Lib.hid (hO a3 a4)
    have hts : (Fm.text (frmS z oR oC)).length ≤ 1000 ∧ (Fm.text (frmS o iR iC)).length ≤ 1000 := by
      have e1 := Fm.text_size (frmS z oR oC)
      have e2 := Fm.text_size (frmS o iR iC)
      have k1 := hszz a1 a2
      have k2 := hszo a3 a4
      have m : ∀ n, cnt n ≤ 8 := fun n => by unfold cnt; exact Nat.le_trans (List.countP_le_length) (by simp)
      have q1 : cnt oR * cnt oC ≤ 8 * 8 := Nat.mul_le_mul (m _) (m _)
      have q2 : cnt iR * cnt iC ≤ 8 * 8 := Nat.mul_le_mul (m _) (m _)
      omega
    have hq : ∀ b : Bool, str [sgn b] ++ str (Fm.text (frmS z oR oC)) ++ str (Fm.text (frmS o iR iC)) = str (Fm.text (.gate b (frmS z oR oC) (frmS o iR iC))) := fun b => by
      rw [str_append, str_append]
      simp [Fm.text]
    have hz1 : (str (Fm.text (frmS z oR oC))).size ≤ 1000 := by rw [str_size]; exact hts.1
    have ho1 : (str (Fm.text (frmS o iR iC))).size ≤ 1000 := by rw [str_size]; exact hts.2
    have HQ := Lib.hid (hq (!a))
    generalize str (Fm.text (.gate (!a) (frmS z oR oC) (frmS o iR iC))) = res at *
    generalize str (Fm.text (frmS z oR oC)) = fz at *
    generalize str (Fm.text (frmS o iR iC)) = fo at *
    clear hO hZ HNB HNB2 hszz hszo a1 a2 a3 a4 hts hq
    cases a
    · have hn' : (st[0]'hk).toNat = 66 := HN.out
      have HQ2 : Hid (⟨#[38]⟩ ++ fz ++ fo = res) := HQ.out
      clear HN HQ
      go_enter Tryd.func26, Tryd.ntmps26
      go_wp2_with fail
      refine (HL.out _).mono ?_
      rintro e w1 ⟨rfl, rfl⟩
      go_wp2_with fail
      refine (HPA.out _).mono ?_
      rintro e w2 ⟨rfl, hb2⟩
      have HR2 : Hid (w2.heap[w.heap.size]? = some (.cells #[.int .i64 (R : Int), .int .i64 (C : Int)] 33 (0, 0))) := (hb2.block _ (by simp)).trans HRW.out
      have HB2 := Lib.hid (HB0.out.trans (hb2.mono HB0.out.size))
      clear hb2
      go_wp2_with (have Z := HR2.out; refine wpList_load_row rfl 33 (.tmp 3) rfl w.heap.size rfl 33 _ (0, 0) _ Z Tryd.underlying33 rfl (info_rect _ _) ?_; clear Z)
      refine (HSP.out _).mono ?_
      rintro e w3 ⟨rfl, hb3⟩
      have HB3 := Lib.hid (HB2.out.trans (hb3.mono HB2.out.size))
      obtain ⟨D, hD⟩ : ∃ D, w3.heap.size = D := ⟨_, rfl⟩
      have hZA : ((w3.alloc (.cells #[.int .i64 (oR : Int), .int .i64 (oC : Int)] 33)).alloc (.cells #[.int .i64 (iR : Int), .int .i64 (iC : Int)] 33)).heap[D]? = some (.cells #[.int .i64 (oR : Int), .int .i64 (oC : Int)] 33 (0, 0)) := by
        rw [← hD, Below.heap_alloc _ _ _ (by simp)]; exact heap_alloc_new w3 _
      have hZB : ((w3.alloc (.cells #[.int .i64 (oR : Int), .int .i64 (oC : Int)] 33)).alloc (.cells #[.int .i64 (iR : Int), .int .i64 (iC : Int)] 33)).heap[D + 1]? = some (.cells #[.int .i64 (iR : Int), .int .i64 (iC : Int)] 33 (0, 0)) := by
        have h := heap_alloc_new (w3.alloc (.cells #[.int .i64 (oR : Int), .int .i64 (oC : Int)] 33)) (.cells #[.int .i64 (iR : Int), .int .i64 (iC : Int)] 33)
        rw [World.size_alloc] at h
        rw [← hD]; exact h
      have HB4 := Lib.hid ((HB3.out.alloc HB3.out.size (.cells #[.int .i64 (oR : Int), .int .i64 (oC : Int)] 33)).alloc (by have := HB3.out.size; simp; omega) (.cells #[.int .i64 (iR : Int), .int .i64 (iC : Int)] 33))
      have HZA := Lib.hid hZA
      have HZB := Lib.hid hZB
      have HDD := Lib.hid hD
      clear hb3 hZA hZB hD HB3 HB2 HR2 HRW HB0
      go_wp2_with fail
      try rw [HDD.out]
      obtain ⟨W4, hW4⟩ : ∃ W4, (w3.alloc (.cells #[.int .i64 (oR : Int), .int .i64 (oC : Int)] 33)).alloc (.cells #[.int .i64 (iR : Int), .int .i64 (iC : Int)] 33) = W4 := ⟨_, rfl⟩
      rw [hW4] at HZA HZB HB4 ⊢
      have HDA : Hid (∀ wx : World, Below W4.heap.size W4 wx → wx.heap[D]? = some (.cells #[.int .i64 (oR : Int), .int .i64 (oC : Int)] 33 (0, 0))) := fun wx h => (h.block _ (Array.getElem?_eq_some_iff.1 HZA.out).1).trans HZA.out
      have HDB : Hid (∀ wx : World, Below W4.heap.size W4 wx → wx.heap[D + 1]? = some (.cells #[.int .i64 (iR : Int), .int .i64 (iC : Int)] 33 (0, 0))) := fun wx h => (h.block _ (Array.getElem?_eq_some_iff.1 HZB.out).1).trans HZB.out
      clear hW4 HZA HZB
      refine wp_region_below (fun | 0 => .string sz | 1 => rect oR oC | 2 => .string fz | 3 => .string (⟨#[38]⟩ ++ fz) | 4 => .string so | 5 => rect iR iC | 6 => .string fo | 7 => .string (⟨#[38]⟩ ++ fz ++ fo) | 8 => .string (⟨#[38]⟩ ++ fz ++ fo) | _ => undef) (by kernel_rfl) (by kernel_rfl) rfl ?conGfalse ?enGfalse
      case conGfalse =>
        intro i o ho a wx hb hf
        match i, ho with
        | 0, ho =>
          obtain rfl := Option.some.inj ho
          have b7 : a.tmps[7]?.getD undef = .string sz := hf.2 7 (by kernel_rfl)
          exact wp_value (.string sz) (by unfold execOp; go_simp) ⟨rfl, Below.refl _ _⟩
        | 1, ho =>
          obtain rfl := Option.some.inj ho
          have b9 : a.tmps[9]?.getD undef = .pointer (some ⟨D, 0, none⟩) := hf.2 9 (by kernel_rfl)
          exact wp_load_row 33 (.tmp 9) rfl D (eval_get b9) 33 _ (0, 0) _ (HDA.out _ hb) Tryd.underlying33 rfl (info_rect _ _) ⟨rfl, Below.refl _ _⟩
        | 2, ho =>
          obtain rfl := Option.some.inj ho
          have e82 : a.tmps[82]?.getD undef = .string sz := hf.1 ⟨0, .data⟩ (by simp) rfl _ 82 rfl rfl
          have e83 : a.tmps[83]?.getD undef = rect oR oC := hf.1 ⟨1, .data⟩ (by simp) rfl _ 83 rfl rfl
          exact wp_enter 26 #[.string sz, rect oR oC] (.string fz) _ (by unfold execOp; go_simp) (HZ.out wx) (fun w' h => ⟨rfl, h⟩)
        | 3, ho =>
          obtain rfl := Option.some.inj ho
          have e84 : a.tmps[84]?.getD undef = .string fz := hf.1 ⟨2, .data⟩ (by simp) rfl _ 84 rfl rfl
          have hcat := run_string_add_sum (P := Tryd.prog) (w := wx) (⟨#[38]⟩ : ByteArray) fz (by show 1 + _ ≤ _; omega)
          exact wp_value (.string (⟨#[38]⟩ ++ fz)) (by unfold execOp; go_simp) ⟨rfl, Below.refl _ _⟩
        | 4, ho =>
          obtain rfl := Option.some.inj ho
          have b8 : a.tmps[8]?.getD undef = .string so := hf.2 8 (by kernel_rfl)
          exact wp_value (.string so) (by unfold execOp; go_simp) ⟨rfl, Below.refl _ _⟩
        | 5, ho =>
          obtain rfl := Option.some.inj ho
          have b10 : a.tmps[10]?.getD undef = .pointer (some ⟨D + 1, 0, none⟩) := hf.2 10 (by kernel_rfl)
          exact wp_load_row 33 (.tmp 10) rfl (D + 1) (eval_get b10) 33 _ (0, 0) _ (HDB.out _ hb) Tryd.underlying33 rfl (info_rect _ _) ⟨rfl, Below.refl _ _⟩
        | 6, ho =>
          obtain rfl := Option.some.inj ho
          have e86 : a.tmps[86]?.getD undef = .string so := hf.1 ⟨4, .data⟩ (by simp) rfl _ 86 rfl rfl
          have e87 : a.tmps[87]?.getD undef = rect iR iC := hf.1 ⟨5, .data⟩ (by simp) rfl _ 87 rfl rfl
          exact wp_enter 26 #[.string so, rect iR iC] (.string fo) _ (by unfold execOp; go_simp) (HO.out wx) (fun w' h => ⟨rfl, h⟩)
        | 7, ho =>
          obtain rfl := Option.some.inj ho
          have e85 : a.tmps[85]?.getD undef = .string (⟨#[38]⟩ ++ fz) := hf.1 ⟨3, .data⟩ (by simp) rfl _ 85 rfl rfl
          have e88 : a.tmps[88]?.getD undef = .string fo := hf.1 ⟨6, .data⟩ (by simp) rfl _ 88 rfl rfl
          have hcat := run_string_add_sum (P := Tryd.prog) (w := wx) (⟨#[38]⟩ ++ fz) fo (by rw [ByteArray.size_append]; show 1 + _ + _ ≤ _; omega)
          exact wp_value (.string (⟨#[38]⟩ ++ fz ++ fo)) (by unfold execOp; go_simp) ⟨rfl, Below.refl _ _⟩
        | 8, ho =>
          obtain rfl := Option.some.inj ho
          have e89 : a.tmps[89]?.getD undef = .string (⟨#[38]⟩ ++ fz ++ fo) := hf.1 ⟨7, .data⟩ (by simp) rfl _ 89 rfl rfl
          exact wp_value (.string (⟨#[38]⟩ ++ fz ++ fo)) (by unfold execOp; go_simp) ⟨rfl, Below.refl _ _⟩
        | q + 9, ho => simp at ho
      case enGfalse =>
        intro w5 hb5
        have HB5 : Hid (Below w.heap.size w w5) := HB4.out.trans (hb5.mono HB4.out.size)
        clear hb5
        simp only [fill, Act.put]
        go_simp
        go_wp2_with fail
        go_ret
        exact ⟨by rw [← HQ2.out]; rfl, HB5.out⟩
    · have hn' : (st[0]'hk).toNat = 65 := HN.out
      have HQ2 : Hid (⟨#[124]⟩ ++ fz ++ fo = res) := HQ.out
      clear HN HQ
      go_enter Tryd.func26, Tryd.ntmps26
      go_wp2_with fail
      refine (HL.out _).mono ?_
      rintro e w1 ⟨rfl, rfl⟩
      go_wp2_with fail
      refine (HPA.out _).mono ?_
      rintro e w2 ⟨rfl, hb2⟩
      have HR2 : Hid (w2.heap[w.heap.size]? = some (.cells #[.int .i64 (R : Int), .int .i64 (C : Int)] 33 (0, 0))) := (hb2.block _ (by simp)).trans HRW.out
      have HB2 := Lib.hid (HB0.out.trans (hb2.mono HB0.out.size))
      clear hb2
      go_wp2_with (have Z := HR2.out; refine wpList_load_row rfl 33 (.tmp 3) rfl w.heap.size rfl 33 _ (0, 0) _ Z Tryd.underlying33 rfl (info_rect _ _) ?_; clear Z)
      refine (HSP.out _).mono ?_
      rintro e w3 ⟨rfl, hb3⟩
      have HB3 := Lib.hid (HB2.out.trans (hb3.mono HB2.out.size))
      obtain ⟨D, hD⟩ : ∃ D, w3.heap.size = D := ⟨_, rfl⟩
      have hZA : ((w3.alloc (.cells #[.int .i64 (oR : Int), .int .i64 (oC : Int)] 33)).alloc (.cells #[.int .i64 (iR : Int), .int .i64 (iC : Int)] 33)).heap[D]? = some (.cells #[.int .i64 (oR : Int), .int .i64 (oC : Int)] 33 (0, 0)) := by
        rw [← hD, Below.heap_alloc _ _ _ (by simp)]; exact heap_alloc_new w3 _
      have hZB : ((w3.alloc (.cells #[.int .i64 (oR : Int), .int .i64 (oC : Int)] 33)).alloc (.cells #[.int .i64 (iR : Int), .int .i64 (iC : Int)] 33)).heap[D + 1]? = some (.cells #[.int .i64 (iR : Int), .int .i64 (iC : Int)] 33 (0, 0)) := by
        have h := heap_alloc_new (w3.alloc (.cells #[.int .i64 (oR : Int), .int .i64 (oC : Int)] 33)) (.cells #[.int .i64 (iR : Int), .int .i64 (iC : Int)] 33)
        rw [World.size_alloc] at h
        rw [← hD]; exact h
      have HB4 := Lib.hid ((HB3.out.alloc HB3.out.size (.cells #[.int .i64 (oR : Int), .int .i64 (oC : Int)] 33)).alloc (by have := HB3.out.size; simp; omega) (.cells #[.int .i64 (iR : Int), .int .i64 (iC : Int)] 33))
      have HZA := Lib.hid hZA
      have HZB := Lib.hid hZB
      have HDD := Lib.hid hD
      clear hb3 hZA hZB hD HB3 HB2 HR2 HRW HB0
      go_wp2_with fail
      try rw [HDD.out]
      obtain ⟨W4, hW4⟩ : ∃ W4, (w3.alloc (.cells #[.int .i64 (oR : Int), .int .i64 (oC : Int)] 33)).alloc (.cells #[.int .i64 (iR : Int), .int .i64 (iC : Int)] 33) = W4 := ⟨_, rfl⟩
      rw [hW4] at HZA HZB HB4 ⊢
      have HDA : Hid (∀ wx : World, Below W4.heap.size W4 wx → wx.heap[D]? = some (.cells #[.int .i64 (oR : Int), .int .i64 (oC : Int)] 33 (0, 0))) := fun wx h => (h.block _ (Array.getElem?_eq_some_iff.1 HZA.out).1).trans HZA.out
      have HDB : Hid (∀ wx : World, Below W4.heap.size W4 wx → wx.heap[D + 1]? = some (.cells #[.int .i64 (iR : Int), .int .i64 (iC : Int)] 33 (0, 0))) := fun wx h => (h.block _ (Array.getElem?_eq_some_iff.1 HZB.out).1).trans HZB.out
      clear hW4 HZA HZB
      refine wp_region_below (fun | 0 => .string sz | 1 => rect oR oC | 2 => .string fz | 3 => .string (⟨#[124]⟩ ++ fz) | 4 => .string so | 5 => rect iR iC | 6 => .string fo | 7 => .string (⟨#[124]⟩ ++ fz ++ fo) | 8 => .string (⟨#[124]⟩ ++ fz ++ fo) | _ => undef) (by kernel_rfl) (by kernel_rfl) rfl ?conGtrue ?enGtrue
      case conGtrue =>
        intro i o ho a wx hb hf
        match i, ho with
        | 0, ho =>
          obtain rfl := Option.some.inj ho
          have b7 : a.tmps[7]?.getD undef = .string sz := hf.2 7 (by kernel_rfl)
          exact wp_value (.string sz) (by unfold execOp; go_simp) ⟨rfl, Below.refl _ _⟩
        | 1, ho =>
          obtain rfl := Option.some.inj ho
          have b9 : a.tmps[9]?.getD undef = .pointer (some ⟨D, 0, none⟩) := hf.2 9 (by kernel_rfl)
          exact wp_load_row 33 (.tmp 9) rfl D (eval_get b9) 33 _ (0, 0) _ (HDA.out _ hb) Tryd.underlying33 rfl (info_rect _ _) ⟨rfl, Below.refl _ _⟩
        | 2, ho =>
          obtain rfl := Option.some.inj ho
          have e74 : a.tmps[74]?.getD undef = .string sz := hf.1 ⟨0, .data⟩ (by simp) rfl _ 74 rfl rfl
          have e75 : a.tmps[75]?.getD undef = rect oR oC := hf.1 ⟨1, .data⟩ (by simp) rfl _ 75 rfl rfl
          exact wp_enter 26 #[.string sz, rect oR oC] (.string fz) _ (by unfold execOp; go_simp) (HZ.out wx) (fun w' h => ⟨rfl, h⟩)
        | 3, ho =>
          obtain rfl := Option.some.inj ho
          have e76 : a.tmps[76]?.getD undef = .string fz := hf.1 ⟨2, .data⟩ (by simp) rfl _ 76 rfl rfl
          have hcat := run_string_add_sum (P := Tryd.prog) (w := wx) (⟨#[124]⟩ : ByteArray) fz (by show 1 + _ ≤ _; omega)
          exact wp_value (.string (⟨#[124]⟩ ++ fz)) (by unfold execOp; go_simp) ⟨rfl, Below.refl _ _⟩
        | 4, ho =>
          obtain rfl := Option.some.inj ho
          have b8 : a.tmps[8]?.getD undef = .string so := hf.2 8 (by kernel_rfl)
          exact wp_value (.string so) (by unfold execOp; go_simp) ⟨rfl, Below.refl _ _⟩
        | 5, ho =>
          obtain rfl := Option.some.inj ho
          have b10 : a.tmps[10]?.getD undef = .pointer (some ⟨D + 1, 0, none⟩) := hf.2 10 (by kernel_rfl)
          exact wp_load_row 33 (.tmp 10) rfl (D + 1) (eval_get b10) 33 _ (0, 0) _ (HDB.out _ hb) Tryd.underlying33 rfl (info_rect _ _) ⟨rfl, Below.refl _ _⟩
        | 6, ho =>
          obtain rfl := Option.some.inj ho
          have e78 : a.tmps[78]?.getD undef = .string so := hf.1 ⟨4, .data⟩ (by simp) rfl _ 78 rfl rfl
          have e79 : a.tmps[79]?.getD undef = rect iR iC := hf.1 ⟨5, .data⟩ (by simp) rfl _ 79 rfl rfl
          exact wp_enter 26 #[.string so, rect iR iC] (.string fo) _ (by unfold execOp; go_simp) (HO.out wx) (fun w' h => ⟨rfl, h⟩)
        | 7, ho =>
          obtain rfl := Option.some.inj ho
          have e77 : a.tmps[77]?.getD undef = .string (⟨#[124]⟩ ++ fz) := hf.1 ⟨3, .data⟩ (by simp) rfl _ 77 rfl rfl
          have e80 : a.tmps[80]?.getD undef = .string fo := hf.1 ⟨6, .data⟩ (by simp) rfl _ 80 rfl rfl
          have hcat := run_string_add_sum (P := Tryd.prog) (w := wx) (⟨#[124]⟩ ++ fz) fo (by rw [ByteArray.size_append]; show 1 + _ + _ ≤ _; omega)
          exact wp_value (.string (⟨#[124]⟩ ++ fz ++ fo)) (by unfold execOp; go_simp) ⟨rfl, Below.refl _ _⟩
        | 8, ho =>
          obtain rfl := Option.some.inj ho
          have e81 : a.tmps[81]?.getD undef = .string (⟨#[124]⟩ ++ fz ++ fo) := hf.1 ⟨7, .data⟩ (by simp) rfl _ 81 rfl rfl
          exact wp_value (.string (⟨#[124]⟩ ++ fz ++ fo)) (by unfold execOp; go_simp) ⟨rfl, Below.refl _ _⟩
        | q + 9, ho => simp at ho
      case enGtrue =>
        intro w5 hb5
        have HB5 : Hid (Below w.heap.size w w5) := HB4.out.trans (hb5.mono HB4.out.size)
        clear hb5
        simp only [fill, Act.put]
        go_simp
        go_wp2_with fail
        go_ret
        exact ⟨by rw [← HQ2.out]; rfl, HB5.out⟩

end Go.Proofs.YtbccachkkflceaaDoor.GfS
