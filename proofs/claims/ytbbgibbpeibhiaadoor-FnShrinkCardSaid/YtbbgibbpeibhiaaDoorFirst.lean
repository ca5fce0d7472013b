/-
  The reference's l1Row and l1First: the rows that are equal to none before them.
-/
import Derived.Test.YtbbgibbpeibhiaaDoorApp
import Derived.Test.YtbbgibbpeibhiaaDoorCutRow
import Derived.Deep.RegionWith
namespace Go.Proofs.YtbbgibbpeibhiaaDoor.First
open Go.RowKit Go.Proofs.YtbbgibbpeibhiaaDoor.Plain Go.Proofs.YtbbgibbpeibhiaaDoor.Base Go.Proofs.YtbbgibbpeibhiaaDoor.Valid Go.Proofs.YtbbgibbpeibhiaaDoor.Law Go.Proofs.YtbbgibbpeibhiaaDoor.GridPlain Go.Proofs.YtbbgibbpeibhiaaDoor.Grid Go.Proofs.YtbbgibbpeibhiaaDoor.Entry Go.Proofs.YtbbgibbpeibhiaaDoor.Fmt Go.Proofs.YtbbgibbpeibhiaaDoor.App
set_option linter.unusedVariables false

/-- none of the first n keys is this one -/
def fresh (f : Nat → List UInt8) (x : List UInt8) (n : Nat) : Bool := (List.range n).all fun j => !(f j == x)
theorem fresh_zero (f : Nat → List UInt8) (x : List UInt8) : fresh f x 0 = true := rfl
theorem fresh_succ (f : Nat → List UInt8) (x : List UInt8) (n : Nat) : fresh f x (n + 1) = (fresh f x n && !(f n == x)) := by
  simp [fresh, List.range_succ]
/-- the first numbers at which a key is new -/
def firsts (f : Nat → List UInt8) : Nat → List Nat
  | 0 => []
  | k + 1 => if fresh f (f k) k then firsts f k ++ [k] else firsts f k
theorem firsts_len (f : Nat → List UInt8) : ∀ k, (firsts f k).length ≤ k
  | 0 => Nat.le_refl _
  | k + 1 => by
    rw [firsts]
    split
    · have := firsts_len f k
      simp; omega
    · have := firsts_len f k
      omega
theorem firsts_lt (f : Nat → List UInt8) : ∀ k, ∀ x ∈ firsts f k, x < k
  | 0, x, h => by simp [firsts] at h
  | k + 1, x, h => by
    rw [firsts] at h
    split at h
    · rcases List.mem_append.1 h with h | h
      · have := firsts_lt f k x h
        omega
      · simp at h; omega
    · have := firsts_lt f k x h
      omega
theorem firsts_one (f : Nat → List UInt8) : ∀ k, 1 ≤ k → 1 ≤ (firsts f k).length
  | 1, _ => by simp [firsts, fresh]
  | k + 2, _ => by
    have := firsts_one f (k + 1) (by omega)
    rw [firsts]
    split
    · simp
    · exact this
/-- a key that is new among the first ones is new among all -/
theorem firsts_any (f : Nat → List UInt8) (x : List UInt8) : ∀ k, ((firsts f k).any fun j => f j == x) = !fresh f x k
  | 0 => rfl
  | k + 1 => by
    have ih := firsts_any f x k
    rw [firsts, fresh_succ]
    cases hf : fresh f (f k) k with
    | true =>
      rw [if_pos rfl, List.any_append, ih]
      simp [Bool.not_and]
    | false =>
      rw [if_neg (by simp), ih]
      by_cases e : f k = x
      · subst e
        rw [hf]; simp
      · simp [e]
/-- numbers as values -/
def nums (l : List Nat) : List Value := l.map fun n : Nat => Value.int .i64 (n : Int)
theorem nums_next (l : List Nat) (k : Nat) : nums l ++ [.int .i64 (k : Int)] = nums (l ++ [k]) := by simp [nums]

set_option maxHeartbeats 1000000 in
theorem row_any (E : Nat → Nat → Bool) (r c k : Nat) (hr8 : r ≤ 8) (hc8 : c ≤ 8) (hk : k < r) (w : World) :
    Calls Tryd.prog 59 #[mat r c (str (rowsB E r c)), .int .i64 (k : Int)] w fun e w' => e = .returned (.string (str (rowB E k c))) ∧ Below w.heap.size w w' := by
  obtain ⟨s, hs⟩ : ∃ s, str (rowsB E r c) = s := ⟨_, rfl⟩
  rw [hs]
  have HZ : s.size = r * c := by rw [← hs, str_size, rowsB_length]
  have hsz : s.size ≤ 64 := by rw [HZ]; exact prod_le hr8 hc8
  obtain ⟨a, b, hmul, hmul2, hab, hbs, hcut⟩ : ∃ a b : Nat, wrap64 ((k : Int) * (c : Int)) = (a : Int) ∧ wrap64 (((k : Int) + 1) * (c : Int)) = (b : Int) ∧ a ≤ b ∧ b ≤ s.size ∧ s.extract a b = str (rowB E k c) :=
    ⟨k * c, (k + 1) * c, wrap_prod k c (by omega) hc8, wrap_prod (k + 1) c (by omega) hc8, Nat.mul_le_mul_right c (by omega), by rw [HZ]; exact Nat.mul_le_mul_right c hk, cut_row E r c k s hs.symm hk⟩
  have HC := Lib.hid hcut
  clear hcut hs HZ
  go_enter Tryd.func59, Tryd.ntmps59
  go_wp2_with fail
  go_ret
  exact ⟨by rw [HC.out]; rfl, (Below.refl _ _).alloc (Nat.le_refl _) _⟩

theorem drawn_below {B : Nat} {a w : World} (h : Below B a w) (q : Nat) : Below B a (w.drewN q) := ⟨h.os, h.tape, h.output, h.size, h.block⟩
theorem box_later {w wr : World} {o : Obj} (hb : Below (w.alloc o).heap.size (w.alloc o) wr) : wr.heap[w.heap.size]? = some o := (hb.block _ (by simp)).trans (heap_alloc_new w o)
theorem below_grown {w wr : World} {o : Obj} (hb : Below (w.alloc o).heap.size (w.alloc o) wr) : Below w.heap.size w wr := ((Below.refl w.heap.size w).alloc (Nat.le_refl _) o).trans (hb.mono (by simp))
theorem cells3 {w : World} {g : Nat} {T : TypeId} {a b c : Value} (h : w.heap[g]? = some (.cells #[a, b, c] T (0, 0))) :
    w.cell? ⟨g, 0, none⟩ = some a ∧ w.cell? ⟨g, 1, none⟩ = some b ∧ w.cell? ⟨g, 2, none⟩ = some c :=
  ⟨cell_of_row _ _ 0 _ _ _ h, cell_of_row _ _ 1 _ _ _ h, cell_of_row _ _ 2 _ _ _ h⟩
theorem info3 : (Tryd.prog.info? 3).map (fun i => (i.zero, i.size, i.bytes)) = some (some (.int .i64 0), 1, 8) := by kernel_rfl
theorem cell_one (w : World) (u : Value) (t : TypeId) (j : Nat) (v : Value) (h : [u][j]? = some v) : (w.alloc (.cells #[u] t)).cell? (Addr.add ⟨w.heap.size, 0, none⟩ j) = some v := by
  match j, h with
  | 0, h =>
    obtain rfl := Option.some.inj h
    simp [Addr.add]
  | j + 1, h => simp at h
theorem str_inj {a b : List UInt8} (h : str a = str b) : a = b := by simpa [str] using h
theorem list_ne {a b : ByteArray} (h : ¬ a = b) : (a.toList == b.toList) = false := by
  refine beq_false_of_ne fun e => h ?_
  rw [ByteArray.toList_eq, ByteArray.toList_eq] at e
  exact ByteArray.ext (Array.ext' e)
theorem str_ne {a b : List UInt8} (h : ¬ a = b) : ¬ str a = str b := fun e => h (by simpa [str] using e)

set_option maxHeartbeats 2000000 in
set_option maxRecDepth 100000 in
theorem first_any (E : Nat → Nat → Bool) (r c : Nat) (hr8 : r ≤ 8) (hc8 : c ≤ 8) (w : World) :
    Calls Tryd.prog 33 #[mat r c (str (rowsB E r c))] w fun e w' => ∃ v, e = .returned v ∧
      Own (w.alloc (.cells #[.int .i64 (r : Int), .int .i64 (c : Int), .string (str (rowsB E r c))] 24)) w' 3 1 v (firsts (fun x => rowB E x c) r).length (nums (firsts (fun x => rowB E x c) r)) := by
  obtain ⟨i0, hi, hz0, hz1, hz2⟩ := info_parts info3
  have HR : Hid (∀ (k : Nat), k < r → ∀ W, Calls Tryd.prog 59 #[mat r c (str (rowsB E r c)), .int .i64 (k : Int)] W fun e w' => e = .returned (.string (str (rowB E k c))) ∧ Below W.heap.size W w') := fun k hk W => row_any E r c k hr8 hc8 hk W
  generalize str (rowsB E r c) = s at *
  obtain ⟨f, hf⟩ : ∃ f : Nat → List UInt8, f = fun x => rowB E x c := ⟨_, rfl⟩
  have HF : Hid (∀ k, rowB E k c = f k) := fun k => by rw [hf]
  rw [← hf]
  clear hf
  obtain ⟨sf, hsf⟩ : ∃ sf : Nat → ByteArray, ∀ q, sf q = str (f q) := ⟨_, fun _ => rfl⟩
  have HSF : Hid (∀ i j, f i = f j ↔ sf i = sf j) := fun i j => by rw [hsf, hsf]; exact ⟨fun e => by rw [e], fun e => str_inj e⟩
  have HRF : Hid (∀ (k : Nat), k < r → ∀ W, Calls Tryd.prog 59 #[mat r c s, .int .i64 (k : Int)] W fun e w' => e = .returned (.string (sf k)) ∧ Below W.heap.size W w') := fun k hk W => by rw [hsf, ← HF.out]; exact HR.out k hk W
  clear hsf HR HF
  obtain ⟨W0, hW0⟩ : ∃ W0, W0 = w.alloc (.cells #[.int .i64 (r : Int), .int .i64 (c : Int), .string s] 24) := ⟨_, rfl⟩
  rw [← hW0]
  have HBOX : Hid (∀ W', Below W0.heap.size W0 W' → W'.heap[w.heap.size]? = some (.cells #[.int .i64 (r : Int), .int .i64 (c : Int), .string s] 24 (0, 0))) := fun W' hb => by subst hW0; exact box_later hb
  have HW0 := Lib.hid hW0
  clear hW0
  go_enter Tryd.func33, Tryd.ntmps33
  go_wp2_with fail
  have hz1w : w.heap.size + 1 = W0.heap.size := by rw [HW0.out]; simp
  rw [← HW0.out, hz1w]
  clear hz1w
  go_loopw [3, 4] (fun v x wr => ∃ (k : Nat), k ≤ r ∧ x = .int .i64 (k : Int) ∧ Own W0 wr 3 1 v (firsts f k).length (nums (firsts f k))) (fun _ x _ => r - (intOf x).toNat)
  case atStart => exact ⟨0, Nat.zero_le _, rfl, (Own.lit W0 3 1 : Own W0 _ 3 1 _ 0 [])⟩
  case round =>
    obtain ⟨k, hk, rfl, hown⟩ := hrel
    have HO := Lib.hid hown
    have hle := firsts_len f k
    have hbx := HBOX.out _ hown.below
    obtain ⟨m0, m1, m2⟩ := cells3 hbx
    clear hbx
    by_cases hlt : k < r
    · obtain ⟨p, cc, hv⟩ := hown.slice
      subst hv
      clear hown
      go_wp2_with fail
      clear m0 m1 m2
      go_loopw [5, 6] (fun fr i wr => ∃ (j : Nat), j ≤ k ∧ i = .int .i64 (j : Int) ∧ fr = .bool (fresh f (f k) j) ∧ Own W0 wr 3 1 (.slice p (firsts f k).length cc) (firsts f k).length (nums (firsts f k))) (fun _ i _ => k - (intOf i).toNat)
      case atStart => exact ⟨0, Nat.zero_le _, rfl, rfl, HO.out⟩
      case round =>
        clear HO
        obtain ⟨j, hj, rfl, rfl, hown⟩ := hrel
        have HO2 := Lib.hid hown
        obtain ⟨m0, m1, m2⟩ := cells3 (HBOX.out _ hown.below)
        clear hown
        by_cases hlt2 : j < k
        · have HN := Lib.hid (fresh_succ f (f k) j)
          cases hfr : fresh f (f k) j with
          | false =>
            rw [hfr] at HN
            go_wp2_with fail
            go_region
            go_wp2_with fail
            go_roundw
            case rel => exact ⟨j + 1, by omega, by go_num, by rw [HN.out]; rfl, HO2.out.later (Below.refl _ _).drew⟩
            case measure => simp [intOf]; omega
          | true =>
            rw [hfr] at HN
            have OD : Hid (∀ q, Own W0 (wr.drewN q) 3 1 (.slice p (firsts f k).length cc) (firsts f k).length (nums (firsts f k))) := fun q => HO2.out.later (drawn_below (Below.refl _ wr) q)
            have HE := HSF.out j k
            by_cases he : sf j = sf k
            · have HN2 : Hid (fresh f (f k) (j + 1) = false) := by unfold Hid; rw [HN.out, HE.2 he]; simp
              clear HE
              go_wp2_with fail
              go_region_with (go_at_call 59; refine (HRF.out _ (by omega) _).mono ?_; rintro e w2 ⟨rfl, hb2⟩; first | (have HO4 := Lib.hid (HO3.out.later hb2); obtain ⟨n0, n1, n2⟩ := cells3 (HBOX.out _ HO4.out.below); clear hb2) | (have HO3 := Lib.hid ((OD.out 1).later hb2); obtain ⟨m0, m1, m2⟩ := cells3 (HBOX.out _ HO3.out.below); clear hb2))
              all_goals go_wp2_with fail
              all_goals
                go_roundw
                case rel => exact ⟨j + 1, by omega, by go_num, by rw [HN2.out], HO4.out⟩
                case measure => simp [intOf]; omega
            · have HN2 : Hid (fresh f (f k) (j + 1) = true) := by
                unfold Hid; rw [HN.out]
                have : ¬ f j = f k := fun e => he (HE.1 e)
                simp [this]
              have HNE : Hid (((sf j).toList == (sf k).toList) = false) := list_ne he
              clear HE
              go_wp2_with fail
              go_region_with (go_at_call 59; refine (HRF.out _ (by omega) _).mono ?_; rintro e w2 ⟨rfl, hb2⟩; first | (have HO4 := Lib.hid (HO3.out.later hb2); obtain ⟨n0, n1, n2⟩ := cells3 (HBOX.out _ HO4.out.below); clear hb2) | (have HO3 := Lib.hid ((OD.out 1).later hb2); obtain ⟨m0, m1, m2⟩ := cells3 (HBOX.out _ HO3.out.below); clear hb2))
              all_goals go_wp2_with fail
              all_goals
                go_roundw
                case rel => exact ⟨j + 1, by omega, by go_num, by rw [HN2.out, HNE.out]; rfl, HO4.out⟩
                case measure => simp [intOf]; omega
        · obtain rfl : j = k := by omega
          cases hfr : fresh f (f j) j with
          | false =>
            have HN : Hid (firsts f (j + 1) = firsts f j) := by
              unfold Hid; rw [firsts, hfr]; simp
            go_wp2_with fail
            go_roundw
            case rel => exact ⟨j + 1, by omega, by go_num, by rw [HN.out]; exact HO2.out⟩
            case measure => simp [intOf]; omega
          | true =>
            have HN : Hid (firsts f (j + 1) = firsts f j ++ [j]) := by
              unfold Hid; rw [firsts, hfr]; simp
            go_wp2_with (at_builtin; have HH := HO2.out; refine wpList_append_own _ rfl (.tmp 30) (.tmp 32) 28 rfl W0.heap.size 3 i0 (.int .i64 0) 1 8 Tryd.underlying28 hi hz0 hz1 hz2 rfl (by decide) _ _ _ rfl (HH.row.alloc _) ⟨wr.heap.size, 0, none⟩ 1 1 [.int .i64 (j : Int)] rfl rfl ?c1 ?c2 ?c3 ?c4 ?c5 ?c6; go_must (case c1 => exact (cell_one _ _ _)); go_must (case c2 => simp [Value.oneCell']); go_must (case c3 => (unfold maxLen; omega)); go_must (case c4 => omega); go_must (case c5 => (have := HH.below.size; simp at this ⊢; omega)); go_must (clear HH; intro v3 w3 hown3 hgrow3 _; have H3 := Lib.hid (Own.next HO2.out _ hown3 hgrow3); clear HO2 hown3 hgrow3))
            go_wp2_with fail
            go_roundw
            case rel => exact ⟨j + 1, by omega, by go_num, by rw [HN.out, List.length_append, ← nums_next]; exact H3.out⟩
            case measure => simp [intOf]; omega
    · obtain rfl : k = r := by omega
      clear hown
      go_wp2_with fail
      go_ret
      exact ⟨_, rfl, HO.out⟩
end Go.Proofs.YtbbgibbpeibhiaaDoor.First
