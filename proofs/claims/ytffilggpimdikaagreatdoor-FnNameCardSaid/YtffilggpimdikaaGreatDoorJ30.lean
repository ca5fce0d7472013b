/-
  Texts of one seat, joined: First, Line, FirstI, NameC.
-/
import Derived.Test.YtffilggpimdikaaGreatDoorJ6
import Derived.Test.YtffilggpimdikaaGreatDoorJ29
import Derived.Deep.RegionWith
import Derived.Test.YtffilggpimdikaaGreatDoorJ12
import Derived.Deep.MidRow
import Derived.ChangeKeysEq
import Derived.Test.YtffilggpimdikaaGreatDoorJ5
/-
  The reference's l1Row and l1First: the rows that are equal to none before them.
-/
namespace Go.Proofs.YtffilggpimdikaaGreatDoor.First
open Go.RowKit Go.Proofs.YtffilggpimdikaaGreatDoor.Plain Go.Proofs.YtffilggpimdikaaGreatDoor.Base Go.Proofs.YtffilggpimdikaaGreatDoor.Valid Go.Proofs.YtffilggpimdikaaGreatDoor.Law Go.Proofs.YtffilggpimdikaaGreatDoor.GridPlain Go.Proofs.YtffilggpimdikaaGreatDoor.Grid Go.Proofs.YtffilggpimdikaaGreatDoor.Entry Go.Proofs.YtffilggpimdikaaGreatDoor.Fmt Go.Proofs.YtffilggpimdikaaGreatDoor.App
set_option linter.unusedVariables false

/-- none of the first n keys is this one -/
def fresh (f : Nat → List UInt8) (x : List UInt8) (n : Nat) : Bool := (List.range n).all fun j => !(f j == x)
theorem fresh_zero (f : Nat → List UInt8) (x : List UInt8) : fresh f x 0 = true := rfl
theorem fresh_succ (f : Nat → List UInt8) (x : List UInt8) (n : Nat) : fresh f x (n + 1) = (fresh f x n && !(f n == x)) := by
  simp [fresh, List.range_succ]
/-- the first numbers at which a key is new -/
def firsts (f : Nat → List UInt8) : Nat → List Nat
  | 0 => []
  | k + 1 => if fresh f (f k) k then firsts f k ++ [k] else firsts f k
theorem firsts_len (f : Nat → List UInt8) : ∀ k, (firsts f k).length ≤ k
  | 0 => Nat.le_refl _
  | k + 1 => by
    rw [firsts]
    split
    · have := firsts_len f k
      simp; omega
    · have := firsts_len f k
      omega
theorem firsts_lt (f : Nat → List UInt8) : ∀ k, ∀ x ∈ firsts f k, x < k
  | 0, x, h => by simp [firsts] at h
  | k + 1, x, h => by
    rw [firsts] at h
    split at h
    · rcases List.mem_append.1 h with h | h
      · have := firsts_lt f k x h
        omega
      · simp at h; omega
    · have := firsts_lt f k x h
      omega
theorem firsts_one (f : Nat → List UInt8) : ∀ k, 1 ≤ k → 1 ≤ (firsts f k).length
  | 1, _ => by simp [firsts, fresh]
  | k + 2, _ => by
    have := firsts_one f (k + 1) (by omega)
    rw [firsts]
    split
    · simp
    · exact this
/-- a key that is new among the first ones is new among all -/
theorem firsts_any (f : Nat → List UInt8) (x : List UInt8) : ∀ k, ((firsts f k).any fun j => f j == x) = !fresh f x k
  | 0 => rfl
  | k + 1 => by
    have ih := firsts_any f x k
    rw [firsts, fresh_succ]
    cases hf : fresh f (f k) k with
    | true =>
      rw [if_pos rfl, List.any_append, ih]
      simp [Bool.not_and]
    | false =>
      rw [if_neg (by simp), ih]
      by_cases e : f k = x
      · subst e
        rw [hf]; simp
      · simp [e]
/-- numbers as values -/
def nums (l : List Nat) : List Value := l.map fun n : Nat => Value.int .i64 (n : Int)
theorem nums_next (l : List Nat) (k : Nat) : nums l ++ [.int .i64 (k : Int)] = nums (l ++ [k]) := by simp [nums]

set_option maxHeartbeats 1000000 in
theorem row_any (E : Nat → Nat → Bool) (r c k : Nat) (hr8 : r ≤ 8) (hc8 : c ≤ 8) (hk : k < r) (w : World) :
    Calls Tryz.prog 73 #[mat r c (str (rowsB E r c)), .int .i64 (k : Int)] w fun e w' => e = .returned (.string (str (rowB E k c))) ∧ Below w.heap.size w w' := by
  obtain ⟨s, hs⟩ : ∃ s, str (rowsB E r c) = s := ⟨_, rfl⟩
  rw [hs]
  have HZ : s.size = r * c := by rw [← hs, str_size, rowsB_length]
  have hsz : s.size ≤ 64 := by rw [HZ]; exact prod_le hr8 hc8
  obtain ⟨a, b, hmul, hmul2, hab, hbs, hcut⟩ : ∃ a b : Nat, wrap64 ((k : Int) * (c : Int)) = (a : Int) ∧ wrap64 (((k : Int) + 1) * (c : Int)) = (b : Int) ∧ a ≤ b ∧ b ≤ s.size ∧ s.extract a b = str (rowB E k c) :=
    ⟨k * c, (k + 1) * c, wrap_prod k c (by omega) hc8, wrap_prod (k + 1) c (by omega) hc8, Nat.mul_le_mul_right c (by omega), by rw [HZ]; exact Nat.mul_le_mul_right c hk, cut_row E r c k s hs.symm hk⟩
  have HC := Lib.hid hcut
  clear hcut hs HZ
  go_enter Tryz.func73, Tryz.ntmps73
  go_wp2_with fail
  go_ret
  exact ⟨by rw [HC.out]; rfl, (Below.refl _ _).alloc (Nat.le_refl _) _⟩

theorem drawn_below {B : Nat} {a w : World} (h : Below B a w) (q : Nat) : Below B a (w.drewN q) := ⟨h.os, h.tape, h.output, h.size, h.block⟩
theorem box_later {w wr : World} {o : Obj} (hb : Below (w.alloc o).heap.size (w.alloc o) wr) : wr.heap[w.heap.size]? = some o := (hb.block _ (by simp)).trans (heap_alloc_new w o)
theorem below_grown {w wr : World} {o : Obj} (hb : Below (w.alloc o).heap.size (w.alloc o) wr) : Below w.heap.size w wr := ((Below.refl w.heap.size w).alloc (Nat.le_refl _) o).trans (hb.mono (by simp))
theorem cells3 {w : World} {g : Nat} {T : TypeId} {a b c : Value} (h : w.heap[g]? = some (.cells #[a, b, c] T (0, 0))) :
    w.cell? ⟨g, 0, none⟩ = some a ∧ w.cell? ⟨g, 1, none⟩ = some b ∧ w.cell? ⟨g, 2, none⟩ = some c :=
  ⟨cell_of_row _ _ 0 _ _ _ h, cell_of_row _ _ 1 _ _ _ h, cell_of_row _ _ 2 _ _ _ h⟩
theorem info3 : (Tryz.prog.info? 3).map (fun i => (i.zero, i.size, i.bytes)) = some (some (.int .i64 0), 1, 8) := by kernel_rfl
theorem cell_one (w : World) (u : Value) (t : TypeId) (j : Nat) (v : Value) (h : [u][j]? = some v) : (w.alloc (.cells #[u] t)).cell? (Addr.add ⟨w.heap.size, 0, none⟩ j) = some v := by
  match j, h with
  | 0, h =>
    obtain rfl := Option.some.inj h
    simp [Addr.add]
  | j + 1, h => simp at h
theorem str_inj {a b : List UInt8} (h : str a = str b) : a = b := by simpa [str] using h
theorem list_ne {a b : ByteArray} (h : ¬ a = b) : (a.toList == b.toList) = false := by
  refine beq_false_of_ne fun e => h ?_
  rw [ByteArray.toList_eq, ByteArray.toList_eq] at e
  exact ByteArray.ext (Array.ext' e)
theorem str_ne {a b : List UInt8} (h : ¬ a = b) : ¬ str a = str b := fun e => h (by simpa [str] using e)

set_option maxHeartbeats 2000000 in
set_option maxRecDepth 100000 in
theorem first_any (E : Nat → Nat → Bool) (r c : Nat) (hr8 : r ≤ 8) (hc8 : c ≤ 8) (w : World) :
    Calls Tryz.prog 37 #[mat r c (str (rowsB E r c))] w fun e w' => ∃ v, e = .returned v ∧
      Own (w.alloc (.cells #[.int .i64 (r : Int), .int .i64 (c : Int), .string (str (rowsB E r c))] 24)) w' 3 1 v (firsts (fun x => rowB E x c) r).length (nums (firsts (fun x => rowB E x c) r)) := by
  obtain ⟨i0, hi, hz0, hz1, hz2⟩ := info_parts info3
  have HR : Hid (∀ (k : Nat), k < r → ∀ W, Calls Tryz.prog 73 #[mat r c (str (rowsB E r c)), .int .i64 (k : Int)] W fun e w' => e = .returned (.string (str (rowB E k c))) ∧ Below W.heap.size W w') := fun k hk W => row_any E r c k hr8 hc8 hk W
  generalize str (rowsB E r c) = s at *
  obtain ⟨f, hf⟩ : ∃ f : Nat → List UInt8, f = fun x => rowB E x c := ⟨_, rfl⟩
  have HF : Hid (∀ k, rowB E k c = f k) := fun k => by rw [hf]
  rw [← hf]
  clear hf
  obtain ⟨sf, hsf⟩ : ∃ sf : Nat → ByteArray, ∀ q, sf q = str (f q) := ⟨_, fun _ => rfl⟩
  have HSF : Hid (∀ i j, f i = f j ↔ sf i = sf j) := fun i j => by rw [hsf, hsf]; exact ⟨fun e => by rw [e], fun e => str_inj e⟩
  have HRF : Hid (∀ (k : Nat), k < r → ∀ W, Calls Tryz.prog 73 #[mat r c s, .int .i64 (k : Int)] W fun e w' => e = .returned (.string (sf k)) ∧ Below W.heap.size W w') := fun k hk W => by rw [hsf, ← HF.out]; exact HR.out k hk W
  clear hsf HR HF
  obtain ⟨W0, hW0⟩ : ∃ W0, W0 = w.alloc (.cells #[.int .i64 (r : Int), .int .i64 (c : Int), .string s] 24) := ⟨_, rfl⟩
  rw [← hW0]
  have HBOX : Hid (∀ W', Below W0.heap.size W0 W' → W'.heap[w.heap.size]? = some (.cells #[.int .i64 (r : Int), .int .i64 (c : Int), .string s] 24 (0, 0))) := fun W' hb => by subst hW0; exact box_later hb
  have HW0 := Lib.hid hW0
  clear hW0
  go_enter Tryz.func37, Tryz.ntmps37
  go_wp2_with fail
  have hz1w : w.heap.size + 1 = W0.heap.size := by rw [HW0.out]; simp
  rw [← HW0.out, hz1w]
  clear hz1w
  go_loopw [3, 4] (fun v x wr => ∃ (k : Nat), k ≤ r ∧ x = .int .i64 (k : Int) ∧ Own W0 wr 3 1 v (firsts f k).length (nums (firsts f k))) (fun _ x _ => r - (intOf x).toNat)
  case atStart => exact ⟨0, Nat.zero_le _, rfl, (Own.lit W0 3 1 : Own W0 _ 3 1 _ 0 [])⟩
  case round =>
    obtain ⟨k, hk, rfl, hown⟩ := hrel
    have HO := Lib.hid hown
    have hle := firsts_len f k
    have hbx := HBOX.out _ hown.below
    obtain ⟨m0, m1, m2⟩ := cells3 hbx
    clear hbx
    by_cases hlt : k < r
    · obtain ⟨p, cc, hv⟩ := hown.slice
      subst hv
      clear hown
      go_wp2_with fail
      clear m0 m1 m2
      go_loopw [5, 6] (fun fr i wr => ∃ (j : Nat), j ≤ k ∧ i = .int .i64 (j : Int) ∧ fr = .bool (fresh f (f k) j) ∧ Own W0 wr 3 1 (.slice p (firsts f k).length cc) (firsts f k).length (nums (firsts f k))) (fun _ i _ => k - (intOf i).toNat)
      case atStart => exact ⟨0, Nat.zero_le _, rfl, rfl, HO.out⟩
      case round =>
        clear HO
        obtain ⟨j, hj, rfl, rfl, hown⟩ := hrel
        have HO2 := Lib.hid hown
        obtain ⟨m0, m1, m2⟩ := cells3 (HBOX.out _ hown.below)
        clear hown
        by_cases hlt2 : j < k
        · have HN := Lib.hid (fresh_succ f (f k) j)
          cases hfr : fresh f (f k) j with
          | false =>
            rw [hfr] at HN
            go_wp2_with fail
            go_region
            go_wp2_with fail
            go_roundw
            case rel => exact ⟨j + 1, by omega, by go_num, by rw [HN.out]; rfl, HO2.out.later (Below.refl _ _).drew⟩
            case measure => simp [intOf]; omega
          | true =>
            rw [hfr] at HN
            have OD : Hid (∀ q, Own W0 (wr.drewN q) 3 1 (.slice p (firsts f k).length cc) (firsts f k).length (nums (firsts f k))) := fun q => HO2.out.later (drawn_below (Below.refl _ wr) q)
            have HE := HSF.out j k
            by_cases he : sf j = sf k
            · have HN2 : Hid (fresh f (f k) (j + 1) = false) := by unfold Hid; rw [HN.out, HE.2 he]; simp
              clear HE
              go_wp2_with fail
              go_region_with (go_at_call 73; refine (HRF.out _ (by omega) _).mono ?_; rintro e w2 ⟨rfl, hb2⟩; first | (have HO4 := Lib.hid (HO3.out.later hb2); obtain ⟨n0, n1, n2⟩ := cells3 (HBOX.out _ HO4.out.below); clear hb2) | (have HO3 := Lib.hid ((OD.out 1).later hb2); obtain ⟨m0, m1, m2⟩ := cells3 (HBOX.out _ HO3.out.below); clear hb2))
              all_goals go_wp2_with fail
              all_goals
                go_roundw
                case rel => exact ⟨j + 1, by omega, by go_num, by rw [HN2.out], HO4.out⟩
                case measure => simp [intOf]; omega
            · have HN2 : Hid (fresh f (f k) (j + 1) = true) := by
                unfold Hid; rw [HN.out]
                have : ¬ f j = f k := fun e => he (HE.1 e)
                simp [this]
              have HNE : Hid (((sf j).toList == (sf k).toList) = false) := list_ne he
              clear HE
              go_wp2_with fail
              go_region_with (go_at_call 73; refine (HRF.out _ (by omega) _).mono ?_; rintro e w2 ⟨rfl, hb2⟩; first | (have HO4 := Lib.hid (HO3.out.later hb2); obtain ⟨n0, n1, n2⟩ := cells3 (HBOX.out _ HO4.out.below); clear hb2) | (have HO3 := Lib.hid ((OD.out 1).later hb2); obtain ⟨m0, m1, m2⟩ := cells3 (HBOX.out _ HO3.out.below); clear hb2))
              all_goals go_wp2_with fail
              all_goals
                go_roundw
                case rel => exact ⟨j + 1, by omega, by go_num, by rw [HN2.out, HNE.out]; rfl, HO4.out⟩
                case measure => simp [intOf]; omega
        · obtain rfl : j = k := by omega
          cases hfr : fresh f (f j) j with
          | false =>
            have HN : Hid (firsts f (j + 1) = firsts f j) := by
              unfold Hid; rw [firsts, hfr]; simp
            go_wp2_with fail
            go_roundw
            case rel => exact ⟨j + 1, by omega, by go_num, by rw [HN.out]; exact HO2.out⟩
            case measure => simp [intOf]; omega
          | true =>
            have HN : Hid (firsts f (j + 1) = firsts f j ++ [j]) := by
              unfold Hid; rw [firsts, hfr]; simp
            go_wp2_with (at_builtin; have HH := HO2.out; refine wpList_append_own _ rfl (.tmp 30) (.tmp 32) 58 rfl W0.heap.size 3 i0 (.int .i64 0) 1 8 Tryz.underlying58 hi hz0 hz1 hz2 rfl (by decide) _ _ _ rfl (HH.row.alloc _) ⟨wr.heap.size, 0, none⟩ 1 1 [.int .i64 (j : Int)] rfl rfl ?c1 ?c2 ?c3 ?c4 ?c5 ?c6; go_must (case c1 => exact (cell_one _ _ _)); go_must (case c2 => simp [Value.oneCell']); go_must (case c3 => (unfold maxLen; omega)); go_must (case c4 => omega); go_must (case c5 => (have := HH.below.size; simp at this ⊢; omega)); go_must (clear HH; intro v3 w3 hown3 hgrow3 _; have H3 := Lib.hid (Own.next HO2.out _ hown3 hgrow3); clear HO2 hown3 hgrow3))
            go_wp2_with fail
            go_roundw
            case rel => exact ⟨j + 1, by omega, by go_num, by rw [HN.out, List.length_append, ← nums_next]; exact H3.out⟩
            case measure => simp [intOf]; omega
    · obtain rfl : k = r := by omega
      clear hown
      go_wp2_with fail
      go_ret
      exact ⟨_, rfl, HO.out⟩
end Go.Proofs.YtffilggpimdikaaGreatDoor.First

/-
  The lines of a grid: its methods row and col, and when two are equal.
-/
namespace Go.Proofs.YtffilggpimdikaaGreatDoor.Line
open Go.RowKit Go.Proofs.YtffilggpimdikaaGreatDoor.Plain Go.Proofs.YtffilggpimdikaaGreatDoor.Base Go.Proofs.YtffilggpimdikaaGreatDoor.Valid Go.Proofs.YtffilggpimdikaaGreatDoor.Law Go.Proofs.YtffilggpimdikaaGreatDoor.GridPlain Go.Proofs.YtffilggpimdikaaGreatDoor.Grid Go.Proofs.YtffilggpimdikaaGreatDoor.Entry
set_option linter.unusedVariables false

/-- a line's cells -/
def lineL (g : Nat → Int) : List Value := (List.range 8).map fun i => .int .i64 (g i)
theorem lineL_len (g : Nat → Int) : (lineL g).length = 8 := by simp [lineL]
abbrev lineV (g : Nat → Int) : Value := .agg (lineL g).toArray
theorem lineL_get (g : Nat → Int) (i : Nat) (h : i < 8) : (lineL g)[i]? = some (.int .i64 (g i)) := by
  simp [lineL, h]
theorem lone (g : Nat → Int) : ((lineL g).toArray).all (·.oneCell') = true := by
  rw [Array.all_eq_true]
  intro i hi
  simp [lineL, Value.oneCell']
theorem lzero : (lineL (fun _ => 0)).toArray = #[.int .i64 0, .int .i64 0, .int .i64 0, .int .i64 0, .int .i64 0, .int .i64 0, .int .i64 0, .int .i64 0] := rfl
theorem linfo : (Tryz.prog.info? 49).map (·.size) = some 8 := by kernel_rfl
theorem linfo' (g : Nat → Int) : (Tryz.prog.info? 49).map (·.size) = some (lineL g).toArray.size := by rw [linfo]; simp [lineL]
theorem linfoL (g : Nat → Int) : (Tryz.prog.info? 49).map (·.size) = some (lineL g).length := by rw [linfo, lineL_len]
theorem line_set (g h : Nat → Int) (j : Nat) (v : Int) (hj : j < 8) (e : ∀ i, h i = if i = j then v else g i) : (lineL g).toArray.setIfInBounds j (.int .i64 v) = (lineL h).toArray := by
  apply Array.ext
  · simp [lineL]
  · intro i h1 h2
    have h8 : i < 8 := by simpa [lineL] using h2
    rw [Array.getElem_setIfInBounds (by simpa using h1)]
    simp only [lineL, List.getElem_toArray, List.getElem_map, List.getElem_range, e i]
    by_cases hij : i = j
    · rw [if_pos hij.symm, if_pos hij]
    · rw [if_neg (Ne.symm hij), if_neg hij]

theorem range_line {w : World} {b : Nat} {r c : Int} {f : Nat → Int} {x : Nat} (h : w.heap[b]? = some (.cells (gcells r c f) 52 (0, 0))) (hx : x < 8) : w.rangeAt b (2 + x * 8) (lineL fun y => f (x * 8 + y)) := by
  intro j v hv
  have hj : j < 8 := by
    have := (List.getElem?_eq_some_iff.1 hv).1
    simpa [lineL] using this
  rw [lineL_get _ _ hj] at hv
  obtain rfl := Option.some.inj hv
  exact (cell_of_row _ _ _ _ _ _ h).trans (gat r c f x j hx hj)

set_option maxHeartbeats 1000000 in
theorem row_line (r c : Int) (f : Nat → Int) (x : Nat) (hx : x < 8) (w : World) :
    Calls Tryz.prog 32 #[gval r c f, .int .i64 (x : Int)] w fun e w' => e = .returned (lineV fun y => f (x * 8 + y)) ∧ Below w.heap.size w w' := by
  have x0 : (0 : Int) ≤ (x : Int) := Int.natCast_nonneg x
  have x1 : (x : Int) < 8 := by omega
  have hb2 : ((w.alloc (.cells (gcells r c f) 52)).alloc (.cells (lineL (fun _ => 0)).toArray 49)).heap[w.heap.size]? = some (.cells (gcells r c f) 52 (0, 0)) := by
    rw [Below.heap_alloc _ _ _ (by simp)]; exact heap_alloc_new w _
  have hn2 : ((w.alloc (.cells (gcells r c f) 52)).alloc (.cells (lineL (fun _ => 0)).toArray 49)).heap[w.heap.size + 1]? = some (.cells (lineL (fun _ => 0)).toArray 49 (0, 0)) := by
    have := heap_alloc_new (w.alloc (.cells (gcells r c f) 52)) (.cells (lineL (fun _ => 0)).toArray 49)
    rwa [World.size_alloc] at this
  have HR := Lib.hid (range_line (x := x) hb2 hx)
  have HN := Lib.hid hn2
  have HB : Hid (Below w.heap.size w ((w.alloc (.cells (gcells r c f) 52)).alloc (.cells (lineL (fun _ => 0)).toArray 49))) := ((Below.refl w.heap.size w).alloc (Nat.le_refl _) _).alloc (by simp) _
  clear hb2 hn2
  go_enter Tryz.func32, Tryz.ntmps32
  rw [lzero] at HR HN HB
  go_wp2_with (first | (have X := HR.out; refine wpList_load_mid rfl 49 (.tmp 7) rfl w.heap.size (2 + x * 8) rfl _ _ X Tryz.underlying49 rfl (linfoL _) ?_; clear X) | (have X := HN.out; refine wpList_store_row rfl 49 (.tmp 4) (.tmp 8) rfl (w.heap.size + 1) _ rfl rfl 49 _ X (linfo' _) rfl (lone _) ?_; clear X))
  refine bodyPost_ret (v := lineV fun y => f (x * 8 + y)) (results_cell_row Tryz.results32 _ _ (w.heap.size + 1) 49 _ (0, 0) _ rfl (setRow_at HN.out _) Tryz.underlying49 rfl (linfo' _)) rfl ⟨rfl, below_setRow HB.out (by omega) _⟩

/-- what is known in the midst of col -/
structure CInv (w wr : World) (r c : Int) (f g : Nat → Int) : Prop where
  box : wr.heap[w.heap.size]? = some (.cells (gcells r c f) 52 (0, 0))
  res : wr.heap[w.heap.size + 1]? = some (.cells (lineL (fun _ => 0)).toArray 49 (0, 0))
  loc : wr.heap[w.heap.size + 2]? = some (.cells (lineL g).toArray 49 (0, 0))
  below : Below w.heap.size w wr
  size : w.heap.size + 3 ≤ wr.heap.size
theorem CInv.set_ {w wr : World} {r c : Int} {f g h : Nat → Int} (H : CInv w wr r c f g) (j : Nat) (v : Int) (hj : j < 8) (e : ∀ i, h i = if i = j then v else g i) :
    CInv w (wr.setCell ⟨w.heap.size + 1 + 1, j, none⟩ (.int .i64 v)) r c f h := by
  refine ⟨(heap_setCell_other _ _ _ _ (by simp; omega)).trans H.box, (heap_setCell_other _ _ _ _ (by simp)).trans H.res, ?_, H.below.setCell (by simp; omega) _, by simpa using H.size⟩
  rw [← line_set g h j v hj e]
  exact heap_setCell_same _ _ _ _ _ _ H.loc
theorem CInv.start (w : World) (r c : Int) (f : Nat → Int) : CInv w (((w.alloc (.cells (gcells r c f) 52)).alloc (.cells (lineL (fun _ => 0)).toArray 49)).alloc (.cells (lineL (fun _ => 0)).toArray 49)) r c f (fun _ => 0) := by
  obtain ⟨a, b, c, d, e⟩ := blocks3 (Below.refl _ (((w.alloc (.cells (gcells r c f) 52)).alloc (.cells (lineL (fun _ => 0)).toArray 49)).alloc (.cells (lineL (fun _ => 0)).toArray 49)))
  exact ⟨a, b, c, d, e⟩

/-- two lines are equal as all their cells are -/
def sameL (g h : Nat → Int) : Bool := (List.range 8).all fun i => g i == h i
theorem line_eq (g h : Nat → Int) (W : World) : (Op.equalIn 10000 49 (lineV g) (lineV h)).run Tryz.prog W = .ok (sameL g h) W := by
  obtain ⟨i, hi, hz0, hz1, hz2⟩ := info_parts (show (Tryz.prog.info? 3).map (fun i => (i.zero, i.size, i.bytes)) = some (some (.int .i64 0), 1, 8) by kernel_rfl)
  rw [run_equalIn_array W 9999 _ _ Tryz.underlying49 hi]
  have hc : Tryz.prog.cellsOf 3 = 1 := by kernel_rfl
  have step : ∀ is : List Nat, (∀ i ∈ is, i < 8) → (Op.eqItems 9999 3 1 (lineL g).toArray (lineL h).toArray is).run Tryz.prog W = .ok (is.all fun i => g i == h i) W := by
    intro is
    induction is with
    | nil => intro _; simp [Op.eqItems]
    | cons j is ih =>
      intro hall
      have hj := hall j (by simp)
      have p : ∀ k : Nat → Int, (part 3 (lineL k).toArray (j * 1)).run Tryz.prog W = .ok (.int .i64 (k j)) W := fun k => by
        have := lineL_get k j hj
        simp [part, isAgg, run_underlying Tryz.underlying3, this]
      have q0 : ∀ d : Nat, (Op.equalIn (d + 1) 3 (.int .i64 (g j)) (.int .i64 (h j))).run Tryz.prog W = .ok (g j == h j) W := fun d => by
        simp [Op.equalIn, run_underlying Tryz.underlying3]
      have q := q0 9998
      have ih2 := ih fun i hi => hall i (by simp [hi])
      simp only [Op.eqItems, Sem.run_bind, p, q, Result.andThen_ok, List.all_cons]
      by_cases e : g j = h j
      · simp [e, ih2]
      · simp [e]
  rw [hc]
  exact step _ fun i hi => List.mem_range.1 hi
end Go.Proofs.YtffilggpimdikaaGreatDoor.Line

/-
  The program's firstsOf at lines, slices.ContainsFunc and slices.IndexFunc at its closure.
-/
namespace Go.Proofs.YtffilggpimdikaaGreatDoor.FirstI
open Go.RowKit Go.Proofs.YtffilggpimdikaaGreatDoor.Plain Go.Proofs.YtffilggpimdikaaGreatDoor.Base Go.Proofs.YtffilggpimdikaaGreatDoor.Valid Go.Proofs.YtffilggpimdikaaGreatDoor.Law Go.Proofs.YtffilggpimdikaaGreatDoor.GridPlain Go.Proofs.YtffilggpimdikaaGreatDoor.Grid Go.Proofs.YtffilggpimdikaaGreatDoor.Entry Go.Proofs.YtffilggpimdikaaGreatDoor.App Go.Proofs.YtffilggpimdikaaGreatDoor.First Go.Proofs.YtffilggpimdikaaGreatDoor.Line Go.Proofs.YtffilggpimdikaaGreatDoor.FreeL
open Go.Proofs.YtffilggpimdikaaGreatDoor.Free (fill wp_value wp_enter wp_load_row freeB)
set_option linter.unusedVariables false

theorem eval_get {a : Act} {d : Tmp} {v : Value} (h : a.tmps[d]?.getD undef = v) (_ : True) : a.eval (.tmp d) = v := by
  rw [← h]
  show a.tmps.getD d undef = _
  simp [Array.getD_eq_getD_getElem?]

/-- a function value bound to one value tells these lines -/
def Lines (gg : Nat) (g0 : Value) (n : Nat) (ln : Nat → Nat → Int) : Prop :=
  (∀ args W, (callFunc gg args).run Tryz.prog W = .ok (.enter gg args) W) ∧
  ∀ (x : Nat), x < n → ∀ W : World, Calls Tryz.prog gg #[g0, .int .i64 (x : Int)] W fun e W' => e = .returned (lineV (ln x)) ∧ Below W.heap.size W W'

set_option maxHeartbeats 2000000 in
set_option maxRecDepth 100000 in
theorem same_clos (gg : Nat) (g0 : Value) (n : Nat) (ln : Nat → Nat → Int) (hl : Lines gg g0 n ln) (i j : Nat) (hi : i < n) (hj : j < n) (k h : Nat) (W : World)
    (hk : W.cell? ⟨k, 0, none⟩ = some (.func (.func gg) #[g0] #[])) (hkb : k < W.heap.size) (hh : W.cell? ⟨h, 0, none⟩ = some (.int .i64 (i : Int))) (hhb : h < W.heap.size) :
    Calls Tryz.prog 63 #[.int .i64 (j : Int), .pointer (some ⟨k, 0, none⟩), .pointer (some ⟨h, 0, none⟩)] W
      fun e W' => e = .returned (.bool (sameL (ln j) (ln i))) ∧ Below W.heap.size W W' := by
  have HK : Hid (∀ W' : World, Below W.heap.size W W' → W'.cell? ⟨k, 0, none⟩ = some (.func (.func gg) #[g0] #[])) := fun W' hb => (hb.cell (p := ⟨k, 0, none⟩) hkb).trans hk
  have HN : Hid (∀ W' : World, Below W.heap.size W W' → W'.cell? ⟨h, 0, none⟩ = some (.int .i64 (i : Int))) := fun W' hb => (hb.cell (p := ⟨h, 0, none⟩) hhb).trans hh
  have HJ := Lib.hid (hl.2 j hj)
  have HI := Lib.hid (hl.2 i hi)
  have HG := Lib.hid hl.1
  clear hk hh hl
  go_enter Tryz.func63, Tryz.ntmps63
  go_wp2_with fail
  refine wp_region_below (fun | 0 => .func (.func gg) #[g0] #[] | 1 => .int .i64 (j : Int) | 2 => lineV (ln j) | 3 => .func (.func gg) #[g0] #[] | 4 => .int .i64 (i : Int) | 5 => lineV (ln i) | 6 => .bool (sameL (ln j) (ln i)) | 7 => .bool (sameL (ln j) (ln i)) | _ => undef) (by kernel_rfl) (by kernel_rfl) rfl ?con ?en
  case con =>
    intro q0 o ho a w2 hb2 hf
    match q0, ho with
    | 0, ho =>
      obtain rfl := Option.some.inj ho
      have b1 : a.tmps[1]?.getD undef = .pointer (some ⟨k, 0, none⟩) := hf.2 1 (by kernel_rfl)
      have hc1 := HK.out w2 hb2
      exact wp_value (.func (.func gg) #[g0] #[]) (by unfold execOp; go_simp) ⟨rfl, Below.refl _ _⟩
    | 1, ho =>
      obtain rfl := Option.some.inj ho
      have b0 : a.tmps[0]?.getD undef = .int .i64 (j : Int) := hf.2 0 (by kernel_rfl)
      exact wp_value (.int .i64 (j : Int)) (by unfold execOp; go_simp) ⟨rfl, Below.refl _ _⟩
    | 2, ho =>
      obtain rfl := Option.some.inj ho
      have e5 : a.tmps[5]?.getD undef = .func (.func gg) #[g0] #[] := hf.1 ⟨0, .data⟩ (by simp) rfl _ 5 rfl rfl
      have e6 : a.tmps[6]?.getD undef = .int .i64 (j : Int) := hf.1 ⟨1, .data⟩ (by simp) rfl _ 6 rfl rfl
      have X := HG.out
      exact wp_enter gg #[g0, .int .i64 (j : Int)] (lineV (ln j)) _ (by unfold execOp; go_simp) (HJ.out w2) (fun w' h => ⟨rfl, h⟩)
    | 3, ho =>
      obtain rfl := Option.some.inj ho
      have b1 : a.tmps[1]?.getD undef = .pointer (some ⟨k, 0, none⟩) := hf.2 1 (by kernel_rfl)
      have hc1 := HK.out w2 hb2
      exact wp_value (.func (.func gg) #[g0] #[]) (by unfold execOp; go_simp) ⟨rfl, Below.refl _ _⟩
    | 4, ho =>
      obtain rfl := Option.some.inj ho
      have b2 : a.tmps[2]?.getD undef = .pointer (some ⟨h, 0, none⟩) := hf.2 2 (by kernel_rfl)
      have hc2 := HN.out w2 hb2
      exact wp_value (.int .i64 (i : Int)) (by unfold execOp; go_simp) ⟨rfl, Below.refl _ _⟩
    | 5, ho =>
      obtain rfl := Option.some.inj ho
      have e8 : a.tmps[8]?.getD undef = .func (.func gg) #[g0] #[] := hf.1 ⟨3, .data⟩ (by simp) rfl _ 8 rfl rfl
      have e9 : a.tmps[9]?.getD undef = .int .i64 (i : Int) := hf.1 ⟨4, .data⟩ (by simp) rfl _ 9 rfl rfl
      have X := HG.out
      exact wp_enter gg #[g0, .int .i64 (i : Int)] (lineV (ln i)) _ (by unfold execOp; go_simp) (HI.out w2) (fun w' h => ⟨rfl, h⟩)
    | 6, ho =>
      obtain rfl := Option.some.inj ho
      have e7 : a.tmps[7]?.getD undef = lineV (ln j) := hf.1 ⟨2, .data⟩ (by simp) rfl _ 7 rfl rfl
      have e10 : a.tmps[10]?.getD undef = lineV (ln i) := hf.1 ⟨5, .data⟩ (by simp) rfl _ 10 rfl rfl
      have hq := line_eq (ln j) (ln i)
      exact wp_value (.bool (sameL (ln j) (ln i))) (by unfold execOp; go_simp) ⟨rfl, Below.refl _ _⟩
    | 7, ho =>
      obtain rfl := Option.some.inj ho
      have e11 : a.tmps[11]?.getD undef = .bool (sameL (ln j) (ln i)) := hf.1 ⟨6, .data⟩ (by simp) rfl _ 11 rfl rfl
      exact wp_value (.bool (sameL (ln j) (ln i))) (by unfold execOp; go_simp) ⟨rfl, Below.refl _ _⟩
    | q + 8, ho => simp at ho
  case en =>
    intro w2 hb2
    have HB2 := Lib.hid hb2
    clear hb2
    simp only [fill, Act.put]
    go_simp
    go_wp2_with fail
    go_ret
    exact ⟨rfl, HB2.out⟩
theorem clos_enters (args : Array Value) (W : World) : (callFunc 63 args).run Tryz.prog W = .ok (.enter 63 args) W := by kernel_rfl

/-- a predicate's answers at these numbers -/
def Tests (lb : Array Value) (l : List Nat) (pr : Nat → Bool) (w : World) : Prop :=
  ∀ (j : Nat), j ∈ l → ∀ W : World, Below w.heap.size w W → Calls Tryz.prog 63 (#[.int .i64 (j : Int)] ++ lb) W fun e W' => e = .returned (.bool (pr j)) ∧ Below W.heap.size W W'

set_option maxHeartbeats 2000000 in
set_option maxRecDepth 100000 in
theorem index_any (p1 p2 : Value) (l : List Nat) (hlen : l.length ≤ 8) (pr : Nat → Bool) (p : Option Addr) (cc : Nat) (w : World) (ht : Tests #[p1, p2] l pr w)
    (hc : ∀ (j : Nat) (hj : j < l.length), ∃ g, p = some ⟨g, 0, none⟩ ∧ g < w.heap.size ∧ w.cell? ⟨g, j, none⟩ = some (.int .i64 (l[j] : Int))) :
    Calls Tryz.prog 91 #[.slice p l.length cc, .func (.func 63) #[] #[p1, p2]] w fun e w' => ∃ k : Int, e = .returned (.int .i64 k) ∧ decide (0 ≤ k) = l.any pr ∧ Below w.heap.size w w' := by
  have HT := Lib.hid ht
  have HC := Lib.hid hc
  clear ht hc
  go_enter Tryz.func91, Tryz.ntmps91
  go_wp2_with fail
  go_loopw [5, 8] (fun _ x wr => ∃ k : Nat, k ≤ l.length ∧ x = .int .i64 (k : Int) ∧ Below w.heap.size w wr ∧ Hid (∀ (j : Nat) (hj : j < l.length), j < k → pr l[j] = false)) (fun _ x _ => l.length - (intOf x).toNat)
  case atStart => exact ⟨0, Nat.zero_le _, rfl, Below.refl _ _, fun j hj h => absurd h (by omega)⟩
  case round =>
    obtain ⟨k, hk, rfl, hb, hall⟩ := hrel
    have HB := Lib.hid hb
    by_cases hlt : k < l.length
    · obtain ⟨g, hp, hg, hcell⟩ := HC.out k hlt
      subst hp
      have hcl : wr.cell? ⟨g, k, none⟩ = some (.int .i64 (l[k] : Int)) := (hb.cell (p := ⟨g, k, none⟩) hg).trans hcell
      have HP := Lib.hid (HT.out l[k] (List.getElem_mem hlt))
      have HM : Hid (l[k] ∈ l) := List.getElem_mem hlt
      have HA : Hid (∀ (j : Nat) (hj : j < l.length), j < k + 1 → j ≠ k → pr l[j] = false) := fun j hj h h2 => hall.out j hj (by omega)
      obtain ⟨y, hy⟩ : ∃ y, l[k] = y := ⟨_, rfl⟩
      have HY := Lib.hid hy
      rw [hy] at hcl HP HM
      have k0 : (0 : Int) ≤ (k : Int) := Int.natCast_nonneg k
      have k1 : (k : Int) < (l.length : Int) := by omega
      clear hy hcell hb hall
      obtain ⟨b, hb⟩ : ∃ b, pr y = b := ⟨_, rfl⟩
      have HPB := Lib.hid hb
      rw [hb] at HP
      clear hb
      cases b with
      | true =>
        go_wp2_with fail
        refine (HP.out _ HB.out).mono ?_
        rintro e w2 ⟨rfl, hb2⟩
        have HB2 := Lib.hid (bstep HB.out hb2)
        clear hb2
        go_wp2_with fail
        go_ret
        refine ⟨_, rfl, ?_, HB2.out⟩
        rw [List.any_eq_true.2 ⟨y, HM.out, HPB.out⟩]
        simp
      | false =>
        go_wp2_with fail
        refine (HP.out _ HB.out).mono ?_
        rintro e w2 ⟨rfl, hb2⟩
        have HB2 := Lib.hid (bstep HB.out hb2)
        clear hb2
        go_wp2_with fail
        go_roundw
        case rel => exact ⟨k + 1, by omega, by go_num, HB2.out, fun j hj h => by
          by_cases e : j = k
          · subst e; rw [HY.out]; exact HPB.out
          · exact HA.out j hj h e⟩
        case measure => simp [intOf]; omega
    · obtain rfl : k = l.length := by omega
      clear hb
      go_wp2_with fail
      go_ret
      refine ⟨-1, rfl, ?_, HB.out⟩
      have : l.any pr = false := by
        rw [List.any_eq_false]
        intro x hx
        obtain ⟨j, hj, rfl⟩ := List.getElem_of_mem hx
        rw [hall.out j hj hj]; simp
      rw [this]; rfl

set_option maxHeartbeats 1000000 in
theorem contains_any (p1 p2 : Value) (l : List Nat) (hlen : l.length ≤ 8) (pr : Nat → Bool) (p : Option Addr) (cc : Nat) (w : World) (ht : Tests #[p1, p2] l pr w)
    (hc : ∀ (j : Nat) (hj : j < l.length), ∃ g, p = some ⟨g, 0, none⟩ ∧ g < w.heap.size ∧ w.cell? ⟨g, j, none⟩ = some (.int .i64 (l[j] : Int))) :
    Calls Tryz.prog 64 #[.slice p l.length cc, .func (.func 63) #[] #[p1, p2]] w fun e w' => e = .returned (.bool (l.any pr)) ∧ Below w.heap.size w w' := by
  have HX := Lib.hid (index_any p1 p2 l hlen pr p cc w ht hc)
  clear ht hc
  go_enter Tryz.func64, Tryz.ntmps64
  go_wp2_with fail
  refine HX.out.mono ?_
  rintro e w2 ⟨k, rfl, hk, hb⟩
  have HB := Lib.hid hb
  have HK := Lib.hid hk
  clear hb hk
  go_wp2_with fail
  go_ret
  exact ⟨by rw [← HK.out]; rfl, HB.out⟩

theorem cell_own {w0 wr : World} {p : Option Addr} {cc : Nat} {l : List Nat} (h : Own w0 wr 3 1 (.slice p l.length cc) l.length (nums l)) (j : Nat) (hj : j < l.length) :
    ∃ g, p = some ⟨g, 0, none⟩ ∧ g < wr.heap.size ∧ wr.cell? ⟨g, j, none⟩ = some (.int .i64 (l[j] : Int)) := by
  obtain ⟨g, h1, _, h3, h4⟩ := h.cell j (by omega)
  exact ⟨g, h1, h3, h4.trans (by simp [nums, hj])⟩

set_option maxHeartbeats 2000000 in
set_option maxRecDepth 100000 in
theorem firsts_of (gg : Nat) (g0 : Value) (n : Nat) (hn : n ≤ 8) (ln : Nat → Nat → Int) (hl : Lines gg g0 n ln) (key : Nat → List UInt8) (hkey : ∀ i j, i < n → j < n → sameL (ln j) (ln i) = (key j == key i)) (w : World) :
    Calls Tryz.prog 31 #[.int .i64 (n : Int), .func (.func gg) #[g0] #[]] w fun e w' => ∃ v, e = .returned v ∧
      Own (w.alloc (.cells #[.func (.func gg) #[g0] #[]] 60)) w' 3 1 v (firsts key n).length (nums (firsts key n)) := by
  obtain ⟨i0, hi, hz0, hz1, hz2⟩ := info_parts info3
  have HL := Lib.hid hl
  have HKEY := Lib.hid hkey
  clear hl hkey
  obtain ⟨W0, hW0⟩ : ∃ W0, W0 = w.alloc (.cells #[.func (.func gg) #[g0] #[]] 60) := ⟨_, rfl⟩
  rw [← hW0]
  have HBOX : Hid (∀ W', Below W0.heap.size W0 W' → W'.cell? ⟨w.heap.size, 0, none⟩ = some (.func (.func gg) #[g0] #[])) := fun W' hb => by subst hW0; exact cell_of_row _ _ 0 _ _ _ (box_later hb)
  have HLT : Hid (w.heap.size < W0.heap.size) := by unfold Hid; rw [hW0]; simp
  have HW0 := Lib.hid hW0
  clear hW0
  go_enter Tryz.func31, Tryz.ntmps31
  go_wp2_with fail
  rw [← HW0.out]
  go_loopw [5, 9] (fun v x wr => ∃ (k : Nat), k ≤ n ∧ x = .int .i64 (k : Int) ∧ Own W0 wr 3 1 v (firsts key k).length (nums (firsts key k))) (fun _ x _ => n - (intOf x).toNat)
  case atStart => exact ⟨0, Nat.zero_le _, rfl, (Own.none W0 3 1 : Own W0 _ 3 1 _ 0 [])⟩
  case round =>
    obtain ⟨k, hk, rfl, hown⟩ := hrel
    have HO := Lib.hid hown
    have hle := firsts_len key k
    by_cases hlt : k < n
    · obtain ⟨p, cc, hv⟩ := hown.slice
      subst hv
      have HNX : Hid (firsts key (k + 1) = if ((firsts key k).any fun j => key j == key k) = true then firsts key k else firsts key k ++ [k]) := by
        unfold Hid
        rw [firsts, firsts_any]
        cases fresh key (key k) k <;> simp
      have HMEM : Hid (∀ j ∈ firsts key k, j < n) := fun j hj => Nat.lt_trans (firsts_lt key k j hj) hlt
      have hlen8 : (firsts key k).length ≤ 8 := by omega
      clear hown
      go_wp2_with fail
      generalize firsts key k = l at *
      have HO1 : Hid (Own W0 (wr.alloc (.cells #[.int .i64 (k : Int)] 3)) 3 1 (.slice p l.length cc) l.length (nums l)) := HO.out.later ((Below.refl _ _).alloc (Nat.le_refl _) _)
      have HZ : Hid (w.heap.size < wr.heap.size) := Nat.lt_of_lt_of_le HLT.out HO.out.below.size
      have HTS : Hid (Tests #[.pointer (some ⟨w.heap.size, 0, none⟩), .pointer (some ⟨wr.heap.size, 0, none⟩)] l (fun j => key j == key k) (wr.alloc (.cells #[.int .i64 (k : Int)] 3))) := fun j hj W hb => by
        have hs := hb.size
        simp only [World.size_alloc] at hs
        have hz := HZ.out
        have hq := same_clos gg g0 n ln HL.out k j hlt (HMEM.out j hj) w.heap.size wr.heap.size W (HBOX.out W (HO1.out.below.trans (hb.mono HO1.out.below.size))) (by omega)
          ((hb.cell (p := ⟨wr.heap.size, 0, none⟩) (by simp)).trans (by simp)) (by omega)
        rw [HKEY.out k j hlt (HMEM.out j hj)] at hq
        exact hq
      refine (contains_any _ _ l hlen8 (fun j => key j == key k) p cc _ HTS.out (fun j hj => cell_own HO1.out j hj)).mono ?_
      rintro e w2 ⟨rfl, hb2⟩
      have HO2 := Lib.hid (HO1.out.later hb2)
      have hci : w2.cell? ⟨wr.heap.size, 0, none⟩ = some (.int .i64 (k : Int)) := (hb2.cell (p := ⟨wr.heap.size, 0, none⟩) (by simp)).trans (by simp)
      clear hb2 HTS HO1 HO
      obtain ⟨b, hb⟩ : ∃ b, (l.any fun j => key j == key k) = b := ⟨_, rfl⟩
      rw [hb]
      rw [hb] at HNX
      clear hb
      cases b with
      | true =>
        have HN2 : Hid (firsts key (k + 1) = l) := by unfold Hid; rw [HNX.out]; simp
        clear HNX
        go_wp2_with fail
        go_roundw
        case rel => exact ⟨k + 1, by omega, by go_num, by rw [HN2.out]; exact HO2.out⟩
        case measure => simp [intOf]; omega
      | false =>
        have HN2 : Hid (firsts key (k + 1) = l ++ [k]) := by unfold Hid; rw [HNX.out]; simp
        clear HNX
        go_wp2_with (at_builtin; have HH := HO2.out; refine wpList_append_own _ rfl (.tmp 17) (.tmp 19) 58 rfl W0.heap.size 3 i0 (.int .i64 0) 1 8 Tryz.underlying58 hi hz0 hz1 hz2 rfl (by decide) _ _ _ rfl (HH.row.alloc _) ⟨w2.heap.size, 0, none⟩ 1 1 [.int .i64 (k : Int)] rfl rfl ?c1 ?c2 ?c3 ?c4 ?c5 ?c6; go_must (case c1 => exact (cell_one _ _ _)); go_must (case c2 => simp [Value.oneCell']); go_must (case c3 => (unfold maxLen; omega)); go_must (case c4 => omega); go_must (case c5 => (have := HH.below.size; simp at this ⊢; omega)); go_must (clear HH; intro v3 w3 hown3 hgrow3 _; have H3 := Lib.hid (Own.next HO2.out _ hown3 hgrow3); clear HO2 hown3 hgrow3))
        go_wp2_with fail
        go_roundw
        case rel => exact ⟨k + 1, by omega, by go_num, by rw [HN2.out, List.length_append, ← nums_next]; exact H3.out⟩
        case measure => simp [intOf]; omega
    · obtain rfl : k = n := by omega
      clear hown
      go_wp2_with fail
      go_ret
      exact ⟨_, rfl, HO.out⟩
end Go.Proofs.YtffilggpimdikaaGreatDoor.FirstI

/-
  The closures of the program's sayRows and sayEntry; slices.ContainsFunc at one of them.
-/
namespace Go.Proofs.YtffilggpimdikaaGreatDoor.NameC
open Go.RowKit Go.Proofs.YtffilggpimdikaaGreatDoor.Plain Go.Proofs.YtffilggpimdikaaGreatDoor.Base Go.Proofs.YtffilggpimdikaaGreatDoor.Valid Go.Proofs.YtffilggpimdikaaGreatDoor.Law Go.Proofs.YtffilggpimdikaaGreatDoor.GridPlain Go.Proofs.YtffilggpimdikaaGreatDoor.Grid Go.Proofs.YtffilggpimdikaaGreatDoor.Entry Go.Proofs.YtffilggpimdikaaGreatDoor.App Go.Proofs.YtffilggpimdikaaGreatDoor.First Go.Proofs.YtffilggpimdikaaGreatDoor.Line Go.Proofs.YtffilggpimdikaaGreatDoor.FreeL
open Go.Proofs.YtffilggpimdikaaGreatDoor.Free (fill wp_value wp_enter wp_load_row freeB)
set_option linter.unusedVariables false
set_option linter.unusedSimpArgs false

theorem eval_get {a : Act} {d : Tmp} {v : Value} (h : a.tmps[d]?.getD undef = v) : a.eval (.tmp d) = v := by
  rw [← h]
  show a.tmps.getD d undef = _
  simp [Array.getD_eq_getD_getElem?]
/-- a row of a grid -/
def ln (f : Nat → Int) (x : Nat) : Nat → Int := fun y => f (x * 8 + y)

set_option maxHeartbeats 2000000 in
set_option maxRecDepth 100000 in
theorem row_clos (r c : Int) (f : Nat → Int) (j x : Nat) (hj : j < 8) (hx : x < 8) (g h : Nat) (W : World) (hg : W.heap[g]? = some (.cells (gcells r c f) 52 (0, 0))) (hh : W.cell? ⟨h, 0, none⟩ = some (.int .i64 (x : Int))) (hhb : h < W.heap.size) :
    Calls Tryz.prog 67 #[.int .i64 (j : Int), .pointer (some ⟨g, 0, none⟩), .pointer (some ⟨h, 0, none⟩)] W fun e W' => e = .returned (.bool (sameL (ln f j) (ln f x))) ∧ Below W.heap.size W W' := by
  have HK : Hid (∀ W' : World, Below W.heap.size W W' → W'.heap[g]? = some (.cells (gcells r c f) 52 (0, 0)) ∧ W'.cell? ⟨h, 0, none⟩ = some (.int .i64 (x : Int))) := fun W' hb => ⟨(hb.block _ (Array.getElem?_eq_some_iff.1 hg).1).trans hg, (hb.cell (p := ⟨h, 0, none⟩) hhb).trans hh⟩
  have HJ := Lib.hid (fun W => row_line r c f j hj W)
  have HX := Lib.hid (fun W => row_line r c f x hx W)
  have hq := line_eq (ln f j) (ln f x)
  have HQ := Lib.hid hq
  clear hg hh hq
  go_enter Tryz.func67, Tryz.ntmps67
  go_wp2_with fail
  refine wp_region_below (fun | 0 => gval r c f | 1 => .int .i64 (j : Int) | 2 => lineV (ln f j) | 3 => gval r c f | 4 => .int .i64 (x : Int) | 5 => lineV (ln f x) | 6 => .bool (sameL (ln f j) (ln f x)) | 7 => .bool (sameL (ln f j) (ln f x)) | _ => undef) (by kernel_rfl) (by kernel_rfl) rfl ?conA ?enA
  case conA =>
    intro i oo ho a wx hb2 hf
    match i, ho with
    | 0, ho =>
      obtain rfl := Option.some.inj ho
      have b1 : a.tmps[1]?.getD undef = .pointer (some ⟨g, 0, none⟩) := hf.2 1 (by kernel_rfl)
      exact wp_load_row 52 (.tmp 1) rfl g (eval_get b1) 52 _ (0, 0) _ ((HK.out _ hb2).1) Tryz.underlying52 rfl (ginfo' _ _ _) ⟨rfl, Below.refl _ _⟩
    | 1, ho =>
      obtain rfl := Option.some.inj ho
      have b0 : a.tmps[0]?.getD undef = .int .i64 (j : Int) := hf.2 0 (by kernel_rfl)
      exact wp_value (.int .i64 (j : Int)) (by unfold execOp; go_simp) ⟨rfl, Below.refl _ _⟩
    | 2, ho =>
      obtain rfl := Option.some.inj ho
      have e5 : a.tmps[5]?.getD undef = gval r c f := hf.1 ⟨0, .data⟩ (by simp) rfl _ 5 rfl rfl
      have e6 : a.tmps[6]?.getD undef = .int .i64 (j : Int) := hf.1 ⟨1, .data⟩ (by simp) rfl _ 6 rfl rfl
      exact wp_enter 32 #[gval r c f, .int .i64 (j : Int)] (lineV (ln f j)) _ (by unfold execOp; go_simp) (HJ.out wx) (fun w' h => ⟨rfl, h⟩)
    | 3, ho =>
      obtain rfl := Option.some.inj ho
      have b1 : a.tmps[1]?.getD undef = .pointer (some ⟨g, 0, none⟩) := hf.2 1 (by kernel_rfl)
      exact wp_load_row 52 (.tmp 1) rfl g (eval_get b1) 52 _ (0, 0) _ ((HK.out _ hb2).1) Tryz.underlying52 rfl (ginfo' _ _ _) ⟨rfl, Below.refl _ _⟩
    | 4, ho =>
      obtain rfl := Option.some.inj ho
      have b2 : a.tmps[2]?.getD undef = .pointer (some ⟨h, 0, none⟩) := hf.2 2 (by kernel_rfl)
      have cx := (HK.out _ hb2).2
      exact wp_value (.int .i64 (x : Int)) (by unfold execOp; go_simp) ⟨rfl, Below.refl _ _⟩
    | 5, ho =>
      obtain rfl := Option.some.inj ho
      have e8 : a.tmps[8]?.getD undef = gval r c f := hf.1 ⟨3, .data⟩ (by simp) rfl _ 8 rfl rfl
      have e9 : a.tmps[9]?.getD undef = .int .i64 (x : Int) := hf.1 ⟨4, .data⟩ (by simp) rfl _ 9 rfl rfl
      exact wp_enter 32 #[gval r c f, .int .i64 (x : Int)] (lineV (ln f x)) _ (by unfold execOp; go_simp) (HX.out wx) (fun w' h => ⟨rfl, h⟩)
    | 6, ho =>
      obtain rfl := Option.some.inj ho
      have e7 : a.tmps[7]?.getD undef = lineV (ln f j) := hf.1 ⟨2, .data⟩ (by simp) rfl _ 7 rfl rfl
      have e10 : a.tmps[10]?.getD undef = lineV (ln f x) := hf.1 ⟨5, .data⟩ (by simp) rfl _ 10 rfl rfl
      have cq := HQ.out
      exact wp_value (.bool (sameL (ln f j) (ln f x))) (by unfold execOp; go_simp) ⟨rfl, Below.refl _ _⟩
    | 7, ho =>
      obtain rfl := Option.some.inj ho
      have e11 : a.tmps[11]?.getD undef = .bool (sameL (ln f j) (ln f x)) := hf.1 ⟨6, .data⟩ (by simp) rfl _ 11 rfl rfl
      exact wp_value (.bool (sameL (ln f j) (ln f x))) (by unfold execOp; go_simp) ⟨rfl, Below.refl _ _⟩
    | q + 8, ho => simp at ho
  case enA =>
    intro w2 hb2
    have HB := Lib.hid hb2
    clear hb2
    simp only [fill, Act.put]
    go_simp
    go_wp2_with fail
    go_ret
    exact ⟨rfl, HB.out⟩
theorem row_clos_enters (args : Array Value) (W : World) : (callFunc 67 args).run Tryz.prog W = .ok (.enter 67 args) W := by kernel_rfl

/-- a predicate's answers at these numbers -/
def Tests (lb : Array Value) (l : List Nat) (pr : Nat → Bool) (w : World) : Prop :=
  ∀ (j : Nat), j ∈ l → ∀ W : World, Below w.heap.size w W → Calls Tryz.prog 67 (#[.int .i64 (j : Int)] ++ lb) W fun e W' => e = .returned (.bool (pr j)) ∧ Below W.heap.size W W'

set_option maxHeartbeats 2000000 in
set_option maxRecDepth 100000 in
theorem index_any (p1 p2 : Value) (l : List Nat) (hlen : l.length ≤ 8) (pr : Nat → Bool) (g o cc : Nat) (w : World) (ht : Tests #[p1, p2] l pr w) (hg : g < w.heap.size)
    (hc : ∀ (j : Nat) (hj : j < l.length), w.cell? ⟨g, o + j, none⟩ = some (.int .i64 (l[j] : Int))) :
    Calls Tryz.prog 91 #[.slice (some ⟨g, o, none⟩) l.length cc, .func (.func 67) #[] #[p1, p2]] w fun e w' => ∃ k : Int, e = .returned (.int .i64 k) ∧ decide (0 ≤ k) = l.any pr ∧ Below w.heap.size w w' := by
  have HT := Lib.hid ht
  have HC := Lib.hid hc
  clear ht hc
  go_enter Tryz.func91, Tryz.ntmps91
  go_wp2_with fail
  go_loopw [5, 8] (fun _ x wr => ∃ k : Nat, k ≤ l.length ∧ x = .int .i64 (k : Int) ∧ Below w.heap.size w wr ∧ Hid (∀ (j : Nat) (hj : j < l.length), j < k → pr l[j] = false)) (fun _ x _ => l.length - (intOf x).toNat)
  case atStart => exact ⟨0, Nat.zero_le _, rfl, Below.refl _ _, fun j hj h => absurd h (by omega)⟩
  case round =>
    obtain ⟨k, hk, rfl, hb, hall⟩ := hrel
    have HB := Lib.hid hb
    by_cases hlt : k < l.length
    · have hcell := HC.out k hlt
      have hcl : wr.cell? ⟨g, o + k, none⟩ = some (.int .i64 (l[k] : Int)) := (hb.cell (p := ⟨g, o + k, none⟩) hg).trans hcell
      have HP := Lib.hid (HT.out l[k] (List.getElem_mem hlt))
      have HM : Hid (l[k] ∈ l) := List.getElem_mem hlt
      have HA : Hid (∀ (j : Nat) (hj : j < l.length), j < k + 1 → j ≠ k → pr l[j] = false) := fun j hj h h2 => hall.out j hj (by omega)
      obtain ⟨y, hy⟩ : ∃ y, l[k] = y := ⟨_, rfl⟩
      have HY := Lib.hid hy
      rw [hy] at hcl HP HM
      have k0 : (0 : Int) ≤ (k : Int) := Int.natCast_nonneg k
      have k1 : (k : Int) < (l.length : Int) := by omega
      clear hy hcell hb hall
      obtain ⟨b, hb⟩ : ∃ b, pr y = b := ⟨_, rfl⟩
      have HPB := Lib.hid hb
      rw [hb] at HP
      clear hb
      cases b with
      | true =>
        go_wp2_with fail
        refine (HP.out _ HB.out).mono ?_
        rintro e w2 ⟨rfl, hb2⟩
        have HB2 := Lib.hid (bstep HB.out hb2)
        clear hb2
        go_wp2_with fail
        go_ret
        refine ⟨_, rfl, ?_, HB2.out⟩
        rw [List.any_eq_true.2 ⟨y, HM.out, HPB.out⟩]
        simp
      | false =>
        go_wp2_with fail
        refine (HP.out _ HB.out).mono ?_
        rintro e w2 ⟨rfl, hb2⟩
        have HB2 := Lib.hid (bstep HB.out hb2)
        clear hb2
        go_wp2_with fail
        go_roundw
        case rel => exact ⟨k + 1, by omega, by go_num, HB2.out, fun j hj h => by
          by_cases e : j = k
          · subst e; rw [HY.out]; exact HPB.out
          · exact HA.out j hj h e⟩
        case measure => simp [intOf]; omega
    · obtain rfl : k = l.length := by omega
      clear hb
      go_wp2_with fail
      go_ret
      refine ⟨-1, rfl, ?_, HB.out⟩
      have : l.any pr = false := by
        rw [List.any_eq_false]
        intro x hx
        obtain ⟨j, hj, rfl⟩ := List.getElem_of_mem hx
        rw [hall.out j hj hj]; simp
      rw [this]; rfl

set_option maxHeartbeats 1000000 in
theorem contains_any (p1 p2 : Value) (l : List Nat) (hlen : l.length ≤ 8) (pr : Nat → Bool) (g o cc : Nat) (w : World) (ht : Tests #[p1, p2] l pr w) (hg : g < w.heap.size)
    (hc : ∀ (j : Nat) (hj : j < l.length), w.cell? ⟨g, o + j, none⟩ = some (.int .i64 (l[j] : Int))) :
    Calls Tryz.prog 64 #[.slice (some ⟨g, o, none⟩) l.length cc, .func (.func 67) #[] #[p1, p2]] w fun e w' => e = .returned (.bool (l.any pr)) ∧ Below w.heap.size w w' := by
  have HX := Lib.hid (index_any p1 p2 l hlen pr g o cc w ht hg hc)
  clear ht hc
  go_enter Tryz.func64, Tryz.ntmps64
  go_wp2_with fail
  refine HX.out.mono ?_
  rintro e w2 ⟨k, rfl, hk, hb⟩
  have HB := Lib.hid hb
  have HK := Lib.hid hk
  clear hb hk
  go_wp2_with fail
  go_ret
  exact ⟨by rw [← HK.out]; rfl, HB.out⟩

/-- what the closure of sayRows finds in its two boxes, and in the list -/
structure Kb (W : World) (p g b o cap : Nat) (r c : Int) (f : Nat → Int) (l : List Nat) : Prop where
  slice : W.cell? ⟨p, 0, none⟩ = some (.slice (some ⟨b, o, none⟩) l.length cap)
  plt : p < W.heap.size
  grid : W.heap[g]? = some (.cells (gcells r c f) 52 (0, 0))
  blt : b < W.heap.size
  list : ∀ (j : Nat) (hj : j < l.length), W.cell? ⟨b, o + j, none⟩ = some (.int .i64 (l[j] : Int))
theorem Kb.later {W W' : World} {p g b o cap : Nat} {r c : Int} {f : Nat → Int} {l : List Nat} (h : Kb W p g b o cap r c f l) (hb : Below W.heap.size W W') : Kb W' p g b o cap r c f l :=
  ⟨(hb.cell (p := ⟨p, 0, none⟩) h.plt).trans h.slice, Nat.lt_of_lt_of_le h.plt hb.size, (hb.block _ (Array.getElem?_eq_some_iff.1 h.grid).1).trans h.grid, Nat.lt_of_lt_of_le h.blt hb.size, fun j hj => (hb.cell (p := ⟨b, o + j, none⟩) h.blt).trans (h.list j hj)⟩

set_option maxHeartbeats 2000000 in
theorem rows_clos (r c : Int) (f : Nat → Int) (l : List Nat) (hlen : l.length ≤ 8) (hl : ∀ x ∈ l, x < 8) (x : Nat) (hx : x < 8) (p g b o cap : Nat) (W : World) (hk : Kb W p g b o cap r c f l) :
    Calls Tryz.prog 66 #[.int .i64 (x : Int), .pointer (some ⟨p, 0, none⟩), .pointer (some ⟨g, 0, none⟩)] W fun e W' => e = .returned (.bool (l.any fun j => sameL (ln f j) (ln f x))) ∧ Below W.heap.size W W' := by
  obtain ⟨W1, hW1⟩ : ∃ W1, W1 = W.alloc (.cells #[.int .i64 (x : Int)] 3) := ⟨_, rfl⟩
  have b1 : Below W.heap.size W W1 := by rw [hW1]; exact (Below.refl W.heap.size W).alloc (Nat.le_refl _) _
  have hk1 := hk.later b1
  have hxc : W1.cell? ⟨W.heap.size, 0, none⟩ = some (.int .i64 (x : Int)) := by rw [hW1]; simp
  have hxb : W.heap.size < W1.heap.size := by rw [hW1]; simp
  have ht : Tests #[.pointer (some ⟨g, 0, none⟩), .pointer (some ⟨W.heap.size, 0, none⟩)] l (fun j => sameL (ln f j) (ln f x)) W1 := fun j hj W2 hb2 =>
    row_clos r c f j x (hl j hj) hx g W.heap.size W2 (hk1.later hb2).grid ((hb2.cell (p := ⟨W.heap.size, 0, none⟩) hxb).trans hxc) (Nat.lt_of_lt_of_le hxb hb2.size)
  have HC := Lib.hid (contains_any _ _ l hlen _ b o cap W1 ht hk1.blt hk1.list)
  have c1 := hk1.slice
  have HB1 := Lib.hid b1
  rw [hW1] at c1
  have HW1 := Lib.hid hW1
  clear hk hk1 hxc hxb ht hW1 b1
  go_enter Tryz.func66, Tryz.ntmps66
  go_wp2_with fail
  rw [← HW1.out]
  refine HC.out.mono ?_
  rintro e w2 ⟨rfl, hb2⟩
  have HB := Lib.hid (HB1.out.trans (hb2.mono HB1.out.size))
  clear hb2
  go_wp2_with fail
  go_ret
  exact ⟨rfl, HB.out⟩
theorem rows_clos_enters (args : Array Value) (W : World) : (callFunc 66 args).run Tryz.prog W = .ok (.enter 66 args) W := by kernel_rfl

set_option maxHeartbeats 1000000 in
theorem entry_clos (r c : Nat) (E : Nat → Nat → Bool) (hr8 : r ≤ 8) (hc8 : c ≤ 8) (g h x y : Nat) (hx : x < r) (hy : y < c) (W : World) (hg : W.heap[g]? = some (.cells (gcells r c (gpart E c (r * c))) 52 (0, 0))) (hh : W.cell? ⟨h, 0, none⟩ = some (.int .i64 (x : Int))) :
    Calls Tryz.prog 68 #[.int .i64 (y : Int), .pointer (some ⟨g, 0, none⟩), .pointer (some ⟨h, 0, none⟩)] W fun e W' => e = .returned (.bool (E x y)) ∧ Below W.heap.size W W' := by
  have HH := Lib.hid hg
  have HF := Lib.hid (gpart_all E r c x y hx hy hc8)
  obtain ⟨v, hv⟩ : ∃ v, E x y = v := ⟨_, rfl⟩
  rw [hv] at HF ⊢
  clear hv
  have hx8 : x < 8 := by omega
  have hy8 : y < 8 := by omega
  clear hg
  go_enter Tryz.func68, Tryz.ntmps68
  go_wp2_with (have X := HH.out; refine wpList_load_row rfl 52 (.tmp 1) rfl g rfl 52 (gcells r c (gpart E c (r * c))) (0, 0) _ X Tryz.underlying52 rfl (ginfo' _ _ _) ?_; clear X)
  refine (entry_any r c _ x y hx8 hy8 _).mono ?_
  rintro e w1 ⟨rfl, hb1⟩
  have HB := Lib.hid hb1
  clear hb1
  rw [HF.out]
  cases v
  · rw [bitI_false]
    go_wp2_with fail
    go_ret
    exact ⟨rfl, HB.out⟩
  · rw [bitI_true]
    go_wp2_with fail
    go_ret
    exact ⟨rfl, HB.out⟩
theorem entry_clos_enters (args : Array Value) (W : World) : (callFunc 68 args).run Tryz.prog W = .ok (.enter 68 args) W := by kernel_rfl
end Go.Proofs.YtffilggpimdikaaGreatDoor.NameC

