/-
  Texts of one seat, joined: NameI, NameN.
-/
import Derived.Test.YtgfhahlkffagaaaDoorN5
import Derived.Test.YtgfhahlkffagaaaDoorN1
import Derived.Test.YtgfhahlkffagaaaDoorTrimI
import Derived.Test.YtgfhahlkffagaaaDoorN4
import Derived.Test.YtgfhahlkffagaaaDoorN3
/-
  The program's sayRows, sayEntry and byHalves.
-/
namespace Go.Proofs.YtgfhahlkffagaaaDoor.NameI
open Go.RowKit Go.Proofs.YtgfhahlkffagaaaDoor.Plain Go.Proofs.YtgfhahlkffagaaaDoor.Base Go.Proofs.YtgfhahlkffagaaaDoor.Valid Go.Proofs.YtgfhahlkffagaaaDoor.Law Go.Proofs.YtgfhahlkffagaaaDoor.GridPlain Go.Proofs.YtgfhahlkffagaaaDoor.Grid Go.Proofs.YtgfhahlkffagaaaDoor.Entry Go.Proofs.YtgfhahlkffagaaaDoor.App Go.Proofs.YtgfhahlkffagaaaDoor.First Go.Proofs.YtgfhahlkffagaaaDoor.Line Go.Proofs.YtgfhahlkffagaaaDoor.FreeL Go.Proofs.YtgfhahlkffagaaaDoor.Pat Go.Proofs.YtgfhahlkffagaaaDoor.Tree Go.Proofs.YtgfhahlkffagaaaDoor.Read Go.Proofs.YtgfhahlkffagaaaDoor.Rect Go.Proofs.YtgfhahlkffagaaaDoor.TurnC Go.Proofs.YtgfhahlkffagaaaDoor.TrimT Go.Proofs.YtgfhahlkffagaaaDoor.TrimI Go.Proofs.YtgfhahlkffagaaaDoor.NameT Go.Proofs.YtgfhahlkffagaaaDoor.NameC
open Go.Proofs.YtgfhahlkffagaaaDoor.NodeH (there_row all2 all4 info_two)
open Go.Proofs.YtgfhahlkffagaaaDoor.Count (cells4)
open Go.Proofs.YtgfhahlkffagaaaDoor.NameC (eval_get)
open Go.Proofs.YtgfhahlkffagaaaDoor.Where (wrap8 where_any Says)
open Go.Proofs.YtgfhahlkffagaaaDoor.Free (fill wp_value wp_enter wp_load_row freeB)
set_option linter.unusedVariables false
set_option linter.unusedSimpArgs false

/-- a line is its row's bytes -/
theorem same_row (F : Nat → Nat → Bool) (c x1 x2 : Nat) (hc8 : c ≤ 8) (g h : Nat → Int) (hg : ∀ i, i < 8 → g i = if i < c then bitI (F x1 i) else 0) (hh : ∀ i, i < 8 → h i = if i < c then bitI (F x2 i) else 0) :
    sameL g h = (rowB F x1 c == rowB F x2 c) := by
  have e1 : sameL g h = true ↔ ∀ i, i < c → F x1 i = F x2 i := by
    unfold sameL
    rw [List.all_eq_true]
    constructor
    · intro h1 i hi
      have := h1 i (List.mem_range.2 (by omega))
      rw [beq_iff_eq, hg i (by omega), hh i (by omega), if_pos hi, if_pos hi] at this
      revert this
      cases F x1 i <;> cases F x2 i <;> simp [bitI]
    · intro h1 i hi
      have h8 := List.mem_range.1 hi
      rw [beq_iff_eq, hg i h8, hh i h8]
      by_cases hic : i < c
      · rw [if_pos hic, if_pos hic, h1 i hic]
      · rw [if_neg hic, if_neg hic]
  have e2 : (rowB F x1 c == rowB F x2 c) = true ↔ ∀ i, i < c → F x1 i = F x2 i := by
    rw [beq_iff_eq]
    constructor
    · intro h1 i hi
      have := congrArg (fun l : List UInt8 => l[i]?) h1
      simp only [rowB_get F x1 c i hi, rowB_get F x2 c i hi, Option.some.injEq] at this
      revert this
      cases F x1 i <;> cases F x2 i <;> simp [dig]
    · intro h1
      unfold rowB
      refine List.map_congr_left fun i hi => ?_
      rw [h1 i (List.mem_range.1 hi)]
  rw [Bool.eq_iff_iff, e1, e2]
theorem grid_row (E : Nat → Nat → Bool) (r c x i : Nat) (hx : x < r) (hi : i < 8) (hc8 : c ≤ 8) : gpart E c (r * c) (x * 8 + i) = if i < c then bitI (E x i) else 0 := by
  by_cases h : i < c
  · rw [if_pos h, Nat.mul_comm x 8]
    exact gpart_all E r c x i hx h hc8
  · rw [if_neg h]
    unfold gpart
    rw [if_neg]
    have : (x * 8 + i) % 8 = i := by omega
    omega
theorem any_rows (E : Nat → Nat → Bool) (r c : Nat) (hc8 : c ≤ 8) (l : List Nat) (hl : ∀ x ∈ l, x < r) (x : Nat) (hx : x < r) : (l.any fun j => sameL (ln (gpart E c (r * c)) j) (ln (gpart E c (r * c)) x)) = anyRow E c l x := by
  unfold anyRow
  rw [Bool.eq_iff_iff, List.any_eq_true, List.any_eq_true]
  have h : ∀ j ∈ l, sameL (ln (gpart E c (r * c)) j) (ln (gpart E c (r * c)) x) = (rowB E j c == rowB E x c) := fun j hj =>
    same_row E c j x hc8 _ _ (fun i hi => grid_row E r c j i (hl j hj) hi hc8) (fun i hi => grid_row E r c x i hx hi hc8)
  constructor
  · rintro ⟨j, hj, e⟩
    exact ⟨j, hj, by rw [← h j hj]; exact e⟩
  · rintro ⟨j, hj, e⟩
    exact ⟨j, hj, by rw [h j hj]; exact e⟩
theorem info_four (a b c d : Value) : (Tryd.prog.info? 80).map (·.size) = some (#[a, b, c, d] : Array Value).size := by kernel_rfl
theorem all4n (a b : Int) : (#[.int .u8 a, .int .i64 b, .nilIface, .nilIface] : Array Value).all (·.oneCell') = true := by simp [Value.oneCell']
/-- a slice of these numbers lies there -/
structure Ls (W : World) (b o : Nat) (l : List Nat) : Prop where
  lt : b < W.heap.size
  list : ∀ (j : Nat) (hj : j < l.length), W.cell? ⟨b, o + j, none⟩ = some (.int .i64 (l[j] : Int))
theorem Ls.later {W W' : World} {b o : Nat} {l : List Nat} (h : Ls W b o l) (hb : Below W.heap.size W W') : Ls W' b o l :=
  ⟨Nat.lt_of_lt_of_le h.lt hb.size, fun j hj => (hb.cell (p := ⟨b, o + j, none⟩) h.lt).trans (h.list j hj)⟩

set_option maxHeartbeats 4000000 in
set_option maxRecDepth 100000 in
theorem say_rows (E : Nat → Nat → Bool) (r c : Nat) (h1 : 1 ≤ r) (h2 : r ≤ 8) (h3 : 1 ≤ c) (h4 : c ≤ 8) (l : List Nat) (hlen : l.length ≤ 8) (hl : ∀ x ∈ l, x < r) (b o cap : Nat) (w : World) (hs : Ls w b o l) :
    Calls Tryd.prog 34 #[gval r c (gpart E c (r * c)), .slice (some ⟨b, o, none⟩) l.length cap] w fun e w' => e = .returned (.agg #[.int .u8 65, .int .i64 (sayN E r c l : Int), .nilIface, .nilIface]) ∧ Below w.heap.size w w' := by
  obtain ⟨W3, hW3⟩ : ∃ W3, W3 = ((w.alloc (.cells (gcells r c (gpart E c (r * c))) 42)).alloc (.cells #[.slice (some ⟨b, o, none⟩) l.length cap] 36)).alloc (.cells #[.int .u8 0, .int .i64 0, .nilIface, .nilIface] 80) := ⟨_, rfl⟩
  have b3 : Below w.heap.size w W3 := by rw [hW3]; exact (((Below.refl w.heap.size w).alloc (Nat.le_refl _) _).alloc (by simp) _).alloc (by simp; omega) _
  have e1 : W3.heap[w.heap.size]? = some (.cells (gcells r c (gpart E c (r * c))) 42 (0, 0)) := by
    rw [hW3, Below.heap_alloc _ _ _ (by simp; omega), Below.heap_alloc _ _ _ (by simp)]; exact heap_alloc_new w _
  have e2 : W3.heap[w.heap.size + 1]? = some (.cells #[.slice (some ⟨b, o, none⟩) l.length cap] 36 (0, 0)) := by
    have h := heap_alloc_new (w.alloc (.cells (gcells r c (gpart E c (r * c))) 42)) (.cells #[.slice (some ⟨b, o, none⟩) l.length cap] 36)
    rw [World.size_alloc] at h
    rw [hW3, Below.heap_alloc _ _ _ (by simp)]; exact h
  have e3 : W3.heap[w.heap.size + 2]? = some (.cells #[.int .u8 0, .int .i64 0, .nilIface, .nilIface] 80 (0, 0)) := by
    have h := heap_alloc_new ((w.alloc (.cells (gcells r c (gpart E c (r * c))) 42)).alloc (.cells #[.slice (some ⟨b, o, none⟩) l.length cap] 36)) (.cells #[.int .u8 0, .int .i64 0, .nilIface, .nilIface] 80)
    rw [World.size_alloc, World.size_alloc] at h
    rw [hW3]; exact h
  have hsz : W3.heap.size = w.heap.size + 3 := by rw [hW3]; simp
  have hk : Kb W3 (w.heap.size + 1) w.heap.size b o cap r c (gpart E c (r * c)) l :=
    ⟨cell_of_row _ _ 0 _ _ _ e2, by omega, e1, (hs.later b3).lt, (hs.later b3).list⟩
  have hsay : Says 60 #[.pointer (some ⟨w.heap.size + 1, 0, none⟩), .pointer (some ⟨w.heap.size, 0, none⟩)] r (anyRow E c l) W3 := fun W x hx hb => by
    have h := rows_clos r c (gpart E c (r * c)) l hlen (fun x hx => by have := hl x hx; omega) x (by omega) _ _ b o cap W (hk.later hb)
    rw [any_rows E r c h4 l hl x hx] at h
    exact h
  have HS := Lib.hid (where_any 60 #[.pointer (some ⟨w.heap.size + 1, 0, none⟩), .pointer (some ⟨w.heap.size, 0, none⟩)] r h2 (anyRow E c l) W3 rows_clos_enters (Lib.hid hsay))
  have HN : Hid (setB (anyRow E c l) r = sayN E r c l) := rfl
  have c0 : W3.cell? ⟨w.heap.size, 0, none⟩ = some (.int .i64 (r : Int)) := cell_of_row _ _ 0 _ _ _ e1
  have HB3 := Lib.hid b3
  have HE3 := Lib.hid e3
  have HSZ := Lib.hid hsz
  rw [hW3] at c0
  have HW3 := Lib.hid hW3
  clear hk hsay b3 e1 e2 e3 hsz hW3 hs
  go_enter Tryd.func34, Tryd.ntmps34
  go_wp2_with fail
  rw [← HW3.out]
  clear c0
  refine HS.out.mono ?_
  rintro e w4 ⟨rfl, hb4⟩
  rw [HN.out]
  have k4 := (hb4.block _ (Array.getElem?_eq_some_iff.1 HE3.out).1).trans HE3.out
  have HB4 := Lib.hid (HB3.out.trans (hb4.mono HB3.out.size))
  have HK4 := Lib.hid k4
  clear hb4 k4
  go_wp2_with (have X := HK4.out; refine wpList_store_row rfl 80 (.tmp 4) (.tmp 9) rfl (w.heap.size + 2) _ rfl rfl 80 _ X (info_four _ _ _ _) rfl (all4n _ _) ?_; clear X)
  refine bodyPost_ret (v := .agg #[.int .u8 65, .int .i64 (sayN E r c l : Int), .nilIface, .nilIface]) (results_cell_row Tryd.results34 _ _ (w.heap.size + 2) 80 _ (0, 0) _ rfl (setRow_at HK4.out _) Tryd.underlying80 rfl (info_four _ _ _ _)) rfl ⟨rfl, below_setRow HB4.out (by omega) _⟩

/-- the boxes of sayEntry, and the bit that b says -/
structure Eb (w W : World) (r c : Nat) (E : Nat → Nat → Bool) (g h B x u : Nat) : Prop where
  grid : W.heap[g]? = some (.cells (gcells r c (gpart E c (r * c))) 42 (0, 0))
  row : W.heap[h]? = some (.cells #[.int .i64 (x : Int)] 3 (0, 0))
  bit : W.heap[B]? = some (.cells #[.int .u8 66, .int .i64 (u : Int), .iface 85 (.int .i64 0), .iface 85 (.int .i64 1)] 80 (0, 0))
  below : Below w.heap.size w W
theorem Eb.later {w W W' : World} {r c : Nat} {E : Nat → Nat → Bool} {g h B x u : Nat} (e : Eb w W r c E g h B x u) (hb : Below W.heap.size W W') : Eb w W' r c E g h B x u :=
  ⟨(hb.block _ (Array.getElem?_eq_some_iff.1 e.grid).1).trans e.grid, (hb.block _ (Array.getElem?_eq_some_iff.1 e.row).1).trans e.row, (hb.block _ (Array.getElem?_eq_some_iff.1 e.bit).1).trans e.bit, e.below.trans (hb.mono e.below.size)⟩
theorem wrap_pow (x : Nat) (hx : x ≤ 8) : IntKind.i64.wrap (2 ^ x) = ((2 ^ x : Nat) : Int) := by
  have h8 : (2 : Nat) ^ x ≤ 256 := Nat.le_trans (Nat.pow_le_pow_right (by decide) hx) (by decide)
  rw [show ((2 : Int) ^ x) = ((2 ^ x : Nat) : Int) by simp]
  exact wrap8 _ h8

set_option maxHeartbeats 4000000 in
set_option maxRecDepth 100000 in
theorem say_entry (E : Nat → Nat → Bool) (r c : Nat) (h1 : 1 ≤ r) (h2 : r ≤ 8) (h3 : 1 ≤ c) (h4 : c ≤ 8) (x : Nat) (hx : x < r) (w : World) :
    Calls Tryd.prog 35 #[gval r c (gpart E c (r * c)), .int .i64 (x : Int)] w fun e w' => e = .returned (tree (replyT E c x)) ∧ Below w.heap.size w w' := by
  obtain ⟨W3, hW3⟩ : ∃ W3, W3 = (w.alloc (.cells (gcells r c (gpart E c (r * c))) 42)).alloc (.cells #[.int .i64 (x : Int)] 3) := ⟨_, rfl⟩
  have b3 : Below w.heap.size w W3 := by rw [hW3]; exact ((Below.refl w.heap.size w).alloc (Nat.le_refl _) _).alloc (by simp) _
  have e1 : W3.heap[w.heap.size]? = some (.cells (gcells r c (gpart E c (r * c))) 42 (0, 0)) := by
    rw [hW3, Below.heap_alloc _ _ _ (by simp)]; exact heap_alloc_new w _
  have e2 : W3.heap[w.heap.size + 1]? = some (.cells #[.int .i64 (x : Int)] 3 (0, 0)) := by
    have h := heap_alloc_new (w.alloc (.cells (gcells r c (gpart E c (r * c))) 42)) (.cells #[.int .i64 (x : Int)] 3)
    rw [World.size_alloc] at h
    rw [hW3]; exact h
  have hsz : W3.heap.size = w.heap.size + 2 := by rw [hW3]; simp
  have hsay : Says 62 #[.pointer (some ⟨w.heap.size, 0, none⟩), .pointer (some ⟨w.heap.size + 1, 0, none⟩)] c (fun y => E x y) W3 := fun W y hy hb =>
    entry_clos r c E h2 h4 w.heap.size (w.heap.size + 1) x y hx hy W ((hb.block _ (by omega)).trans e1) (cell_of_row _ _ 0 _ _ _ ((hb.block _ (by omega)).trans e2))
  have HS := Lib.hid (where_any 62 #[.pointer (some ⟨w.heap.size, 0, none⟩), .pointer (some ⟨w.heap.size + 1, 0, none⟩)] c h4 (fun y => E x y) W3 entry_clos_enters (Lib.hid hsay))
  have HN : Hid (setB (fun y => E x y) c = onesN E c x) := rfl
  have hul := ones_lt E c x h4
  have hX : 2 ^ x < 256 := Nat.lt_of_lt_of_le (Nat.pow_lt_pow_right (by decide) (show x < 8 by omega)) (by decide)
  have hY : 2 ^ c ≤ 256 := Nat.le_trans (Nat.pow_le_pow_right (by decide) h4) (by decide)
  have hX1 : 0 < 2 ^ x := Nat.two_pow_pos x
  have hY1 : 2 ≤ 2 ^ c := Nat.le_trans (by decide : 2 ≤ 2 ^ 1) (Nat.pow_le_pow_right (by decide) h3)
  have hT0 := say_trim false (onesN E c x) (.leaf false) (.leaf true) (trim_to _) (trim_to _)
  have HT : Hid (∀ W : World, Calls Tryd.prog 64 #[.agg #[.int .u8 66, .int .i64 (onesN E c x : Int), .iface 85 (.int .i64 0), .iface 85 (.int .i64 1)], rect ((2 ^ x : Nat) : Int) ((2 ^ c - 1 : Nat) : Int)] W fun e w' => e = .returned (tree (replyT E c x)) ∧ Below W.heap.size W w') := fun W => by
    have h := hT0 (2 ^ x) (2 ^ c - 1) W hX (by omega) hX1 (by omega)
    rw [trim_reply E c x h4] at h
    exact h
  have hw := wrap_pow x (by omega)
  have hwc := wrap_pow c h4
  obtain ⟨X, hXe⟩ : ∃ X : Nat, X = 2 ^ x := ⟨_, rfl⟩
  obtain ⟨Y, hYe⟩ : ∃ Y : Nat, Y = 2 ^ c := ⟨_, rfl⟩
  rw [← hXe] at hw hX HT
  rw [← hYe] at hwc hY HT hY1
  have hwy : IntKind.i64.wrap ((Y : Int) - 1) = ((Y - 1 : Nat) : Int) := by
    have : (Y : Int) - 1 = ((Y - 1 : Nat) : Int) := by omega
    rw [this]
    exact wrap8 _ (by omega)
  generalize Y - 1 = Z at *
  have c0 : W3.cell? ⟨w.heap.size, 1, none⟩ = some (.int .i64 (c : Int)) := cell_of_row _ _ 1 _ _ _ e1
  have HB3 := Lib.hid b3
  have HE1 := Lib.hid e1
  have HE2 := Lib.hid e2
  rw [hW3] at c0
  have HW3 := Lib.hid hW3
  have HRes : Hid (∃ q, tree (replyT E c x) = q) := ⟨_, rfl⟩
  obtain ⟨ty, tv, hty⟩ := tree_iface (replyT E c x)
  rw [hty] at HT ⊢
  clear hsay b3 e1 e2 hsz hW3 hT0 hXe hYe hty HRes hX1
  go_enter Tryd.func35, Tryd.ntmps35
  go_wp2_with fail
  rw [← HW3.out]
  clear c0
  refine HS.out.mono ?_
  rintro e w4 ⟨rfl, hb4⟩
  rw [HN.out]
  obtain ⟨u, hu⟩ : ∃ u, onesN E c x = u := ⟨_, rfl⟩
  rw [hu] at HT hul ⊢
  have k1 := (hb4.block _ (Array.getElem?_eq_some_iff.1 HE1.out).1).trans HE1.out
  have k2 := (hb4.block _ (Array.getElem?_eq_some_iff.1 HE2.out).1).trans HE2.out
  have HB4 := Lib.hid (HB3.out.trans (hb4.mono HB3.out.size))
  obtain ⟨B, hB⟩ : ∃ B, w4.heap.size = B := ⟨_, rfl⟩
  have n1 := heap_alloc_new w4 (.cells #[.int .u8 66, .int .i64 (u : Int), .iface 85 (.int .i64 0), .iface 85 (.int .i64 1)] 80)
  rw [hB] at n1
  have HE : Hid (Eb w (w4.alloc (.cells #[.int .u8 66, .int .i64 (u : Int), .iface 85 (.int .i64 0), .iface 85 (.int .i64 1)] 80)) r c E w.heap.size (w.heap.size + 1) B x u) :=
    ⟨(heap_alloc_old w4 _ (Array.getElem?_eq_some_iff.1 k1).1).trans k1, (heap_alloc_old w4 _ (Array.getElem?_eq_some_iff.1 k2).1).trans k2, n1, HB4.out.alloc HB4.out.size _⟩
  clear hb4 k1 k2 n1 HS HW3 HB3 HE1 HE2 HN HB4 hu
  obtain ⟨g, hg⟩ : ∃ g, w.heap.size = g := ⟨_, rfl⟩
  rw [hg] at HE
  go_wp2_with fail
  generalize w4.alloc (.cells #[.int .u8 66, .int .i64 (u : Int), .iface 85 (.int .i64 0), .iface 85 (.int .i64 1)] 80) = w5 at *
  refine wp_region_below (fun | 0 => .agg #[.int .u8 66, .int .i64 (u : Int), .iface 85 (.int .i64 0), .iface 85 (.int .i64 1)] | 1 => .int .i64 (x : Int) | 2 => .int .i64 (X : Int) | 3 => .pointer (some ⟨g, 1, none⟩) | 4 => .int .i64 (c : Int) | 5 => .int .i64 (Y : Int) | 6 => .int .i64 (Z : Int) | 7 => rect (X : Int) (Z : Int) | 8 => .iface ty tv | 9 => .iface ty tv | _ => undef) (by kernel_rfl) (by kernel_rfl) rfl ?conA ?enA
  case conA =>
    intro i oo ho a wx hb2 hf
    match i, ho with
    | 0, ho =>
      obtain rfl := Option.some.inj ho
      have b6 : a.tmps[6]?.getD undef = .pointer (some ⟨B, 0, none⟩) := hf.2 6 (by kernel_rfl)
      exact wp_load_row 80 (.tmp 6) rfl B (eval_get b6) 80 _ (0, 0) _ ((HE.out.later hb2).bit) Tryd.underlying80 rfl (info_four _ _ _ _) ⟨rfl, Below.refl _ _⟩
    | 1, ho =>
      obtain rfl := Option.some.inj ho
      have b3 : a.tmps[3]?.getD undef = .pointer (some ⟨g + 1, 0, none⟩) := hf.2 3 (by kernel_rfl)
      have cx : wx.cell? ⟨g + 1, 0, none⟩ = some (.int .i64 (x : Int)) := cell_of_row _ _ 0 _ _ _ (HE.out.later hb2).row
      exact wp_value (.int .i64 (x : Int)) (by unfold execOp; go_simp) ⟨rfl, Below.refl _ _⟩
    | 2, ho =>
      obtain rfl := Option.some.inj ho
      have e17 : a.tmps[17]?.getD undef = .int .i64 (x : Int) := hf.1 ⟨1, .data⟩ (by simp) rfl _ 17 rfl rfl
      exact wp_value (.int .i64 (X : Int)) (by unfold execOp; go_simp) ⟨rfl, Below.refl _ _⟩
    | 3, ho =>
      obtain rfl := Option.some.inj ho
      have b2 : a.tmps[2]?.getD undef = .pointer (some ⟨g, 0, none⟩) := hf.2 2 (by kernel_rfl)
      exact wp_value (.pointer (some ⟨g, 1, none⟩)) (by unfold execOp; go_simp) ⟨rfl, Below.refl _ _⟩
    | 4, ho =>
      obtain rfl := Option.some.inj ho
      have e19 : a.tmps[19]?.getD undef = .pointer (some ⟨g, 1, none⟩) := hf.1 ⟨3, .data⟩ (by simp) rfl _ 19 rfl rfl
      have cc : wx.cell? ⟨g, 1, none⟩ = some (.int .i64 (c : Int)) := cell_of_row _ _ 1 _ _ _ (HE.out.later hb2).grid
      exact wp_value (.int .i64 (c : Int)) (by unfold execOp; go_simp) ⟨rfl, Below.refl _ _⟩
    | 5, ho =>
      obtain rfl := Option.some.inj ho
      have e20 : a.tmps[20]?.getD undef = .int .i64 (c : Int) := hf.1 ⟨4, .data⟩ (by simp) rfl _ 20 rfl rfl
      exact wp_value (.int .i64 (Y : Int)) (by unfold execOp; go_simp) ⟨rfl, Below.refl _ _⟩
    | 6, ho =>
      obtain rfl := Option.some.inj ho
      have e21 : a.tmps[21]?.getD undef = .int .i64 (Y : Int) := hf.1 ⟨5, .data⟩ (by simp) rfl _ 21 rfl rfl
      exact wp_value (.int .i64 (Z : Int)) (by unfold execOp; go_simp) ⟨rfl, Below.refl _ _⟩
    | 7, ho =>
      obtain rfl := Option.some.inj ho
      have e18 : a.tmps[18]?.getD undef = .int .i64 (X : Int) := hf.1 ⟨2, .data⟩ (by simp) rfl _ 18 rfl rfl
      have e22 : a.tmps[22]?.getD undef = .int .i64 (Z : Int) := hf.1 ⟨6, .data⟩ (by simp) rfl _ 22 rfl rfl
      exact wp_value (rect (X : Int) (Z : Int)) (by unfold execOp; go_simp) ⟨rfl, Below.refl _ _⟩
    | 8, ho =>
      obtain rfl := Option.some.inj ho
      have e16 : a.tmps[16]?.getD undef = .agg #[.int .u8 66, .int .i64 (u : Int), .iface 85 (.int .i64 0), .iface 85 (.int .i64 1)] := hf.1 ⟨0, .data⟩ (by simp) rfl _ 16 rfl rfl
      have e23 : a.tmps[23]?.getD undef = rect (X : Int) (Z : Int) := hf.1 ⟨7, .data⟩ (by simp) rfl _ 23 rfl rfl
      exact wp_enter 64 #[.agg #[.int .u8 66, .int .i64 (u : Int), .iface 85 (.int .i64 0), .iface 85 (.int .i64 1)], rect (X : Int) (Z : Int)] (.iface ty tv) _ (by unfold execOp; go_simp) (HT.out wx) (fun w' h => ⟨rfl, h⟩)
    | 9, ho =>
      obtain rfl := Option.some.inj ho
      have e24 : a.tmps[24]?.getD undef = .iface ty tv := hf.1 ⟨8, .data⟩ (by simp) rfl _ 24 rfl rfl
      exact wp_value (.iface ty tv) (by unfold execOp; go_simp) ⟨rfl, Below.refl _ _⟩
    | q + 10, ho => simp at ho
  case enA =>
    intro w6 hb6
    have HE6 := Lib.hid (HE.out.later hb6)
    clear hb6
    simp only [fill, Act.put]
    go_simp
    go_wp2_with fail
    go_ret
    exact ⟨rfl, HE6.out.below⟩

theorem rows_enters (args : Array Value) (W : World) : (callFunc 34 args).run Tryd.prog W = .ok (.enter 34 args) W := by kernel_rfl
theorem entry_enters (args : Array Value) (W : World) : (callFunc 35 args).run Tryd.prog W = .ok (.enter 35 args) W := by kernel_rfl

def Halved (E : Nat → Nat → Bool) (r c : Nat) (l : List Nat) (t : T) : Prop :=
  ∀ (b o cap : Nat) (w : World), l.length ≤ cap → Ls w b o l →
    Calls Tryd.prog 31 #[.slice (some ⟨b, o, none⟩) l.length cap, .func (.func 34) #[gval r c (gpart E c (r * c))] #[], .func (.func 35) #[gval r c (gpart E c (r * c))] #[]] w fun e w' => e = .returned (tree t) ∧ Below w.heap.size w w'

set_option maxHeartbeats 2000000 in
set_option maxRecDepth 100000 in
theorem half_one (E : Nat → Nat → Bool) (r c : Nat) (h1 : 1 ≤ r) (h2 : r ≤ 8) (h3 : 1 ≤ c) (h4 : c ≤ 8) (x : Nat) (hx : x < r) : Halved E r c [x] (replyT E c x) := by
  intro b o cap w hcap hs
  have HE := Lib.hid (fun W => say_entry E r c h1 h2 h3 h4 x hx W)
  have c0 := hs.list 0 (by simp)
  have c1 : w.cell? ⟨b, o, none⟩ = some (.int .i64 (x : Int)) := c0
  have he := entry_enters
  generalize gval r c (gpart E c (r * c)) = gvv at *
  clear hs c0
  show Calls _ _ #[.slice (some ⟨b, o, none⟩) 1 cap, _, _] _ _
  go_enter Tryd.func31, Tryd.ntmps31
  go_wp2_with fail
  refine (HE.out _).mono ?_
  rintro e w1 ⟨rfl, hb1⟩
  have HB := Lib.hid hb1
  clear hb1
  go_wp2_with fail
  go_ret
  exact ⟨rfl, HB.out⟩

/-- the list and the bit's block -/
structure Hv (w W : World) (b o : Nat) (l : List Nat) (B S : Nat) : Prop where
  node : W.heap[B]? = some (.cells #[.int .u8 65, .int .i64 (S : Int), .nilIface, .nilIface] 80 (0, 0))
  list : Ls W b o l
  below : Below w.heap.size w W
theorem Hv.later {w W W' : World} {b o : Nat} {l : List Nat} {B S : Nat} (h : Hv w W b o l B S) (hb : Below W.heap.size W W') : Hv w W' b o l B S :=
  ⟨(hb.block _ (Array.getElem?_eq_some_iff.1 h.node).1).trans h.node, h.list.later hb, h.below.trans (hb.mono h.below.size)⟩

set_option maxHeartbeats 8000000 in
set_option maxRecDepth 100000 in
theorem halved (E : Nat → Nat → Bool) (r c : Nat) (h1 : 1 ≤ r) (h2 : r ≤ 8) (h3 : 1 ≤ c) (h4 : c ≤ 8) : ∀ (n : Nat) (l : List Nat), 1 ≤ l.length → l.length ≤ n + 1 → l.length ≤ 8 → (∀ x ∈ l, x < r) → Halved E r c l (nameT E r c n l) := by
  intro n
  induction n with
  | zero =>
    intro l a1 a2 a3 hm
    obtain ⟨x, rfl⟩ := List.length_eq_one_iff.1 (show l.length = 1 by omega)
    exact half_one E r c h1 h2 h3 h4 x (hm x (by simp))
  | succ n ih =>
    intro l a1 a2 a3 hm
    by_cases a4 : l.length = 1
    · obtain ⟨x, rfl⟩ := List.length_eq_one_iff.1 a4
      exact half_one E r c h1 h2 h3 h4 x (hm x (by simp))
    intro b o cap w hcap hs
    obtain ⟨H, hH⟩ : ∃ H, (l.length + 1) / 2 = H := ⟨_, rfl⟩
    have hH1 : 1 ≤ H := by omega
    have hH2 : H < l.length := by omega
    have hlt : (l.take H).length = H := by rw [List.length_take]; omega
    have hld : (l.drop H).length = l.length - H := by rw [List.length_drop]
    have hmB : ∀ x ∈ l.drop H, x < r := fun x hx => hm x (List.mem_of_mem_drop hx)
    have iA := ih (l.take H) (by omega) (by omega) (by omega) (fun x hx => hm x (List.mem_of_mem_take hx))
    have iB := ih (l.drop H) (by omega) (by omega) (by omega) hmB
    have lA : ∀ W, Ls W b o l → Ls W b o (l.take H) := fun W h => ⟨h.lt, fun j hj => by rw [List.getElem_take]; exact h.list j (by omega)⟩
    have lB : ∀ W, Ls W b o l → Ls W b (o + H) (l.drop H) := fun W h => ⟨h.lt, fun j hj => by rw [List.getElem_drop, Nat.add_assoc]; exact h.list (H + j) (by omega)⟩
    have HRT : nameT E r c (n + 1) l = .say true (sayN E r c (l.drop H)) (nameT E r c n (l.take H)) (nameT E r c n (l.drop H)) := by
      show (if l.length = 1 then _ else _) = _
      rw [if_neg a4, hH]
    rw [HRT]
    clear HRT ih
    have hS : ∀ W : World, Ls W b o l → Calls Tryd.prog 34 #[gval r c (gpart E c (r * c)), .slice (some ⟨b, o + H, none⟩) (l.length - H) (cap - H)] W fun e w' => e = .returned (.agg #[.int .u8 65, .int .i64 (sayN E r c (l.drop H) : Int), .nilIface, .nilIface]) ∧ Below W.heap.size W w' := fun W h => by
      have g := say_rows E r c h1 h2 h3 h4 (l.drop H) (by omega) hmB b (o + H) (cap - H) W (lB W h)
      rw [hld] at g
      exact g
    have hA : ∀ W : World, Ls W b o l → Calls Tryd.prog 31 #[.slice (some ⟨b, o, none⟩) H cap, .func (.func 34) #[gval r c (gpart E c (r * c))] #[], .func (.func 35) #[gval r c (gpart E c (r * c))] #[]] W fun e w' => e = .returned (tree (nameT E r c n (l.take H))) ∧ Below W.heap.size W w' := fun W h => by
      have g := iA b o cap W (by omega) (lA W h)
      rw [hlt] at g
      exact g
    have hB : ∀ W : World, Ls W b o l → Calls Tryd.prog 31 #[.slice (some ⟨b, o + H, none⟩) (l.length - H) (cap - H), .func (.func 34) #[gval r c (gpart E c (r * c))] #[], .func (.func 35) #[gval r c (gpart E c (r * c))] #[]] W fun e w' => e = .returned (tree (nameT E r c n (l.drop H))) ∧ Below W.heap.size W w' := fun W h => by
      have g := iB b (o + H) (cap - H) W (by omega) (lB W h)
      rw [hld] at g
      exact g
    clear iA iB lA lB hlt hld hmB hm
    show Calls _ _ _ _ fun e w' => e = .returned (sayV true (sayN E r c (l.drop H)) (tree (nameT E r c n (l.take H))) (tree (nameT E r c n (l.drop H)))) ∧ _
    obtain ⟨tyA, vA, hvA⟩ := tree_iface (nameT E r c n (l.take H))
    obtain ⟨tyB, vB, hvB⟩ := tree_iface (nameT E r c n (l.drop H))
    rw [hvA] at hA ⊢
    rw [hvB] at hB ⊢
    generalize sayN E r c (l.drop H) = S at *
    generalize gval r c (gpart E c (r * c)) = gvv at *
    have HS := Lib.hid hS
    have HA := Lib.hid hA
    have HB := Lib.hid hB
    have he := rows_enters
    have hHi : ((l.length : Int) + 1) / 2 = (H : Int) := by omega
    have hLi : ¬ (l.length : Int) = 1 := by omega
    have hHl : (H : Int) ≤ (l.length : Int) := by omega
    have hH0 : (0 : Int) ≤ (H : Int) := Int.natCast_nonneg H
    have hL1 : IntKind.i64.wrap ((l.length : Int) + 1) = (l.length : Int) + 1 := by rw [IntKind.wrap_i64]; omega
    have n4 : ¬ cap = H := by omega
    have n5 : ¬ cap = 0 := by omega
    have HL := Lib.hid hs
    clear hS hA hB hvA hvB hs
    go_enter Tryd.func31, Tryd.ntmps31
    go_wp2_with fail
    refine (HS.out _ HL.out).mono ?_
    rintro e w1 ⟨rfl, hb1⟩
    obtain ⟨B, hB⟩ : ∃ B, w1.heap.size = B := ⟨_, rfl⟩
    have n1 := heap_alloc_new w1 (.cells #[.int .u8 65, .int .i64 (S : Int), .nilIface, .nilIface] 80)
    rw [hB] at n1
    have HV : Hid (Hv w (w1.alloc (.cells #[.int .u8 65, .int .i64 (S : Int), .nilIface, .nilIface] 80)) b o l B S) :=
      ⟨n1, (HL.out.later hb1).later ((Below.refl _ _).alloc (Nat.le_refl _) _), hb1.alloc hb1.size _⟩
    have HBB : Hid (w.heap.size ≤ B) := by unfold Hid; rw [← hB]; exact hb1.size
    clear hb1 n1 HS HL
    go_wp2_with fail
    generalize w1.alloc (.cells #[.int .u8 65, .int .i64 (S : Int), .nilIface, .nilIface] 80) = w2 at *
    refine wp_region_last (fun | 0 => .slice (some ⟨b, o, none⟩) l.length cap | 1 => .int .i64 (H : Int) | 2 => .slice (some ⟨b, o, none⟩) H cap | 3 => .func (.func 34) #[gvv] #[] | 4 => .func (.func 35) #[gvv] #[] | 5 => .iface tyA vA | 6 => .slice (some ⟨b, o, none⟩) l.length cap | 7 => .int .i64 (H : Int) | 8 => .slice (some ⟨b, o + H, none⟩) (l.length - H) (cap - H) | 9 => .func (.func 34) #[gvv] #[] | 10 => .func (.func 35) #[gvv] #[] | 11 => .iface tyB vB | 12 => .agg #[.iface tyA vA, .iface tyB vB] | 13 => .pointer (some ⟨B, 2, none⟩) | _ => undef) 14 (fun wx => wx.setRow B #[.int .u8 65, .int .i64 (S : Int), .iface tyA vA, .iface tyB vB]) _ (by kernel_rfl) (by kernel_rfl) rfl rfl rfl rfl (by kernel_rfl) ?conB ?stB ?enB
    case conB =>
      intro i oo ho hlt a wx hb2 hf
      match i, ho with
      | 0, ho =>
        obtain rfl := Option.some.inj ho
        have b0 : a.tmps[0]?.getD undef = .slice (some ⟨b, o, none⟩) l.length cap := hf.2 0 (by kernel_rfl)
        exact wp_value (.slice (some ⟨b, o, none⟩) l.length cap) (by unfold execOp; go_simp) ⟨rfl, Below.refl _ _⟩
      | 1, ho =>
        obtain rfl := Option.some.inj ho
        have b7 : a.tmps[7]?.getD undef = .int .i64 (H : Int) := hf.2 7 (by kernel_rfl)
        exact wp_value (.int .i64 (H : Int)) (by unfold execOp; go_simp) ⟨rfl, Below.refl _ _⟩
      | 2, ho =>
        obtain rfl := Option.some.inj ho
        have e26 : a.tmps[26]?.getD undef = .slice (some ⟨b, o, none⟩) l.length cap := hf.1 ⟨0, .data⟩ (by simp) rfl _ 26 rfl rfl
        have e27 : a.tmps[27]?.getD undef = .int .i64 (H : Int) := hf.1 ⟨1, .data⟩ (by simp) rfl _ 27 rfl rfl
        exact wp_value (.slice (some ⟨b, o, none⟩) H cap) (by unfold execOp; go_simp; try (intro hq; exact absurd hq (by omega))) ⟨rfl, Below.refl _ _⟩
      | 3, ho =>
        obtain rfl := Option.some.inj ho
        have b1 : a.tmps[1]?.getD undef = .func (.func 34) #[gvv] #[] := hf.2 1 (by kernel_rfl)
        exact wp_value (.func (.func 34) #[gvv] #[]) (by unfold execOp; go_simp) ⟨rfl, Below.refl _ _⟩
      | 4, ho =>
        obtain rfl := Option.some.inj ho
        have b2 : a.tmps[2]?.getD undef = .func (.func 35) #[gvv] #[] := hf.2 2 (by kernel_rfl)
        exact wp_value (.func (.func 35) #[gvv] #[]) (by unfold execOp; go_simp) ⟨rfl, Below.refl _ _⟩
      | 5, ho =>
        obtain rfl := Option.some.inj ho
        have e28 : a.tmps[28]?.getD undef = .slice (some ⟨b, o, none⟩) H cap := hf.1 ⟨2, .data⟩ (by simp) rfl _ 28 rfl rfl
        have e29 : a.tmps[29]?.getD undef = .func (.func 34) #[gvv] #[] := hf.1 ⟨3, .data⟩ (by simp) rfl _ 29 rfl rfl
        have e30 : a.tmps[30]?.getD undef = .func (.func 35) #[gvv] #[] := hf.1 ⟨4, .data⟩ (by simp) rfl _ 30 rfl rfl
        exact wp_enter 31 #[.slice (some ⟨b, o, none⟩) H cap, .func (.func 34) #[gvv] #[], .func (.func 35) #[gvv] #[]] (.iface tyA vA) _ (by unfold execOp; go_simp) (HA.out wx (HV.out.later hb2).list) (fun w' h => ⟨rfl, h⟩)
      | 6, ho =>
        obtain rfl := Option.some.inj ho
        have b0 : a.tmps[0]?.getD undef = .slice (some ⟨b, o, none⟩) l.length cap := hf.2 0 (by kernel_rfl)
        exact wp_value (.slice (some ⟨b, o, none⟩) l.length cap) (by unfold execOp; go_simp) ⟨rfl, Below.refl _ _⟩
      | 7, ho =>
        obtain rfl := Option.some.inj ho
        have b7 : a.tmps[7]?.getD undef = .int .i64 (H : Int) := hf.2 7 (by kernel_rfl)
        exact wp_value (.int .i64 (H : Int)) (by unfold execOp; go_simp) ⟨rfl, Below.refl _ _⟩
      | 8, ho =>
        obtain rfl := Option.some.inj ho
        have e32 : a.tmps[32]?.getD undef = .slice (some ⟨b, o, none⟩) l.length cap := hf.1 ⟨6, .data⟩ (by simp) rfl _ 32 rfl rfl
        have e33 : a.tmps[33]?.getD undef = .int .i64 (H : Int) := hf.1 ⟨7, .data⟩ (by simp) rfl _ 33 rfl rfl
        exact wp_value (.slice (some ⟨b, o + H, none⟩) (l.length - H) (cap - H)) (by unfold execOp; go_simp; try (intro hq; exact absurd hq (by omega))) ⟨rfl, Below.refl _ _⟩
      | 9, ho =>
        obtain rfl := Option.some.inj ho
        have b1 : a.tmps[1]?.getD undef = .func (.func 34) #[gvv] #[] := hf.2 1 (by kernel_rfl)
        exact wp_value (.func (.func 34) #[gvv] #[]) (by unfold execOp; go_simp) ⟨rfl, Below.refl _ _⟩
      | 10, ho =>
        obtain rfl := Option.some.inj ho
        have b2 : a.tmps[2]?.getD undef = .func (.func 35) #[gvv] #[] := hf.2 2 (by kernel_rfl)
        exact wp_value (.func (.func 35) #[gvv] #[]) (by unfold execOp; go_simp) ⟨rfl, Below.refl _ _⟩
      | 11, ho =>
        obtain rfl := Option.some.inj ho
        have e34 : a.tmps[34]?.getD undef = .slice (some ⟨b, o + H, none⟩) (l.length - H) (cap - H) := hf.1 ⟨8, .data⟩ (by simp) rfl _ 34 rfl rfl
        have e35 : a.tmps[35]?.getD undef = .func (.func 34) #[gvv] #[] := hf.1 ⟨9, .data⟩ (by simp) rfl _ 35 rfl rfl
        have e36 : a.tmps[36]?.getD undef = .func (.func 35) #[gvv] #[] := hf.1 ⟨10, .data⟩ (by simp) rfl _ 36 rfl rfl
        exact wp_enter 31 #[.slice (some ⟨b, o + H, none⟩) (l.length - H) (cap - H), .func (.func 34) #[gvv] #[], .func (.func 35) #[gvv] #[]] (.iface tyB vB) _ (by unfold execOp; go_simp) (HB.out wx (HV.out.later hb2).list) (fun w' h => ⟨rfl, h⟩)
      | 12, ho =>
        obtain rfl := Option.some.inj ho
        have e31 : a.tmps[31]?.getD undef = .iface tyA vA := hf.1 ⟨5, .data⟩ (by simp) rfl _ 31 rfl rfl
        have e37 : a.tmps[37]?.getD undef = .iface tyB vB := hf.1 ⟨11, .data⟩ (by simp) rfl _ 37 rfl rfl
        exact wp_value (.agg #[.iface tyA vA, .iface tyB vB]) (by unfold execOp; go_simp) ⟨rfl, Below.refl _ _⟩
      | 13, ho =>
        obtain rfl := Option.some.inj ho
        have b8 : a.tmps[8]?.getD undef = .pointer (some ⟨B, 0, none⟩) := hf.2 8 (by kernel_rfl)
        exact wp_value (.pointer (some ⟨B, 2, none⟩)) (by unfold execOp; go_simp) ⟨rfl, Below.refl _ _⟩
      | 14, ho => exact absurd hlt (by omega)
      | q + 15, ho => simp at ho
    case stB =>
      intro a wx hb2 hf
      have e39 : a.tmps[39]?.getD undef = .pointer (some ⟨B, 2, none⟩) := hf.1 ⟨13, .data⟩ (by simp) rfl _ 39 rfl rfl
      have e38 : a.tmps[38]?.getD undef = .agg #[.iface tyA vA, .iface tyB vB] := hf.1 ⟨12, .data⟩ (by simp) rfl _ 38 rfl rfl
      exact wp_store_mid 78 (.tmp 39) (.tmp 38) rfl B 2 #[.iface tyA vA, .iface tyB vB] (eval_get e39) (eval_get e38) (there_row (HV.out.later hb2).node) (info_two _ _) (all2 _ _ _ _) ⟨rfl, set2 (HV.out.later hb2).node _ _⟩
    case enB =>
      intro w5 hb5
      have HR : Hid ((w5.setRow B #[.int .u8 65, .int .i64 (S : Int), .iface tyA vA, .iface tyB vB]).heap[B]? = some (.cells #[.int .u8 65, .int .i64 (S : Int), .iface tyA vA, .iface tyB vB] 80 (0, 0))) := setRow_at' (HV.out.later hb5).node
      have HB5 : Hid (Below w.heap.size w (w5.setRow B #[.int .u8 65, .int .i64 (S : Int), .iface tyA vA, .iface tyB vB])) := setRow_below' (HV.out.later hb5).below HBB.out _
      clear hb5 HV HA HB
      simp only [fill, Act.put]
      go_simp
      generalize w5.setRow B #[.int .u8 65, .int .i64 (S : Int), .iface tyA vA, .iface tyB vB] = w6 at *
      obtain ⟨c0, c1, c2, c3⟩ := cells4 HR.out
      clear HR
      go_wp2_with fail
      go_ret
      exact ⟨rfl, HB5.out⟩
end Go.Proofs.YtgfhahlkffagaaaDoor.NameI

/-
  NameProtocol: the reference's and the program's.
-/
namespace Go.Proofs.YtgfhahlkffagaaaDoor.NameN
open Go.RowKit Go.Proofs.YtgfhahlkffagaaaDoor.Plain Go.Proofs.YtgfhahlkffagaaaDoor.Base Go.Proofs.YtgfhahlkffagaaaDoor.Valid Go.Proofs.YtgfhahlkffagaaaDoor.Law Go.Proofs.YtgfhahlkffagaaaDoor.GridPlain Go.Proofs.YtgfhahlkffagaaaDoor.Grid Go.Proofs.YtgfhahlkffagaaaDoor.Entry Go.Proofs.YtgfhahlkffagaaaDoor.App Go.Proofs.YtgfhahlkffagaaaDoor.First Go.Proofs.YtgfhahlkffagaaaDoor.Line Go.Proofs.YtgfhahlkffagaaaDoor.Tree Go.Proofs.YtgfhahlkffagaaaDoor.Read Go.Proofs.YtgfhahlkffagaaaDoor.NameT Go.Proofs.YtgfhahlkffagaaaDoor.SaidName Go.Proofs.YtgfhahlkffagaaaDoor.NameI Go.Proofs.YtgfhahlkffagaaaDoor.TextOf Go.Proofs.YtgfhahlkffagaaaDoor.FreeL Go.Proofs.YtgfhahlkffagaaaDoor.FreeS
open Go.Proofs.YtgfhahlkffagaaaDoor.FirstI (firsts_of Lines)
open Go.Proofs.YtgfhahlkffagaaaDoor.NameC (ln)
open Go.Proofs.YtgfhahlkffagaaaDoor.SaidName (eval_get)
open Go.Proofs.YtgfhahlkffagaaaDoor.Free (fill wp_value wp_enter wp_load_row freeB)
set_option linter.unusedVariables false
set_option linter.unusedSimpArgs false

/-- v is a slice of these numbers -/
def NL (l : List Nat) (v : Value) (w : World) : Prop := ∃ b o cap, v = .slice (some ⟨b, o, none⟩) l.length cap ∧ l.length ≤ cap ∧ Ls w b o l
theorem NL.later {l : List Nat} {v : Value} {w w' : World} (h : NL l v w) (hb : Below w.heap.size w w') : NL l v w' := by
  obtain ⟨b, o, cap, h1, h2, h3⟩ := h
  exact ⟨b, o, cap, h1, h2, h3.later hb⟩
theorem NL.own {w0 w : World} {v : Value} {l : List Nat} (h : App.Own w0 w 3 1 v l.length (nums l)) (h1 : 1 ≤ l.length) : NL l v w := by
  rcases h.row.2 with ⟨e1, e2⟩ | ⟨g, cap, cur, e1, e2, e3, e4, _⟩
  · omega
  · subst e1
    refine ⟨g, 0, cap, rfl, e4, (Array.getElem?_eq_some_iff.1 e3).1, fun j hj => ?_⟩
    obtain ⟨g', e, _, h5⟩ := FirstI.cell_own h j hj
    obtain rfl : g = g' := by simpa using e
    rw [Nat.zero_add]
    exact h5
theorem row_enters (args : Array Value) (W : World) : (callFunc 33 args).run Tryd.prog W = .ok (.enter 33 args) W := by kernel_rfl
/-- the rows that are equal to none before them -/
def firstL (E : Nat → Nat → Bool) (r c : Nat) : List Nat := firsts (fun x => rowB E x c) r
/-- the text -/
def nameS (E : Nat → Nat → Bool) (r c : Nat) : ByteArray := str (text (nameT E r c 8 (firstL E r c)))

set_option maxHeartbeats 4000000 in
set_option maxRecDepth 100000 in
theorem name_spec (E : Nat → Nat → Bool) (r c : Nat) (h1 : 1 ≤ r) (h2 : r ≤ 8) (h3 : 1 ≤ c) (h4 : c ≤ 8) (hs : (str (rowsB E r c)).size ≤ maxLen) (hv : validB r c (str (rowsB E r c)) = true) (w : World) :
    Calls Tryd.prog 11 #[mat r c (str (rowsB E r c))] w fun e w' => e = .returned (.tuple #[.string (nameS E r c), .bool true]) ∧ Below w.heap.size w w' := by
  have hl1 := firsts_one (fun x => rowB E x c) r h1
  have hl8 := firsts_len (fun x => rowB E x c) r
  have hlm := firsts_lt (fun x => rowB E x c) r
  have HF : Hid (∀ W : World, Calls Tryd.prog 28 #[mat r c (str (rowsB E r c))] W fun e w' => ∃ v, e = .returned v ∧ (NL (firstL E r c) v w' ∧ Below W.heap.size W w')) := fun W =>
    (first_any E r c h2 h4 W).mono fun e w' h => by
      obtain ⟨v, g1, g2⟩ := h
      exact ⟨v, g1, NL.own g2 hl1, below_grown g2.below⟩
  have HN : Hid (Named E r c (firstL E r c) (nameT E r c 8 (firstL E r c))) := name_said E r c h1 h2 h3 h4 8 (firstL E r c) hl1 (by show (firsts _ r).length ≤ _; omega) (by show (firsts _ r).length ≤ _; omega) hlm
  have HV := Lib.hid hv
  unfold Named at HN
  unfold nameS
  generalize str (text (nameT E r c 8 (firstL E r c))) = st at *
  generalize firstL E r c = L at *
  generalize str (rowsB E r c) = s at *
  clear hl1 hl8 hlm hv
  go_enter Tryd.func11, Tryd.ntmps11
  go_wp2_with fail
  refine (spec_valid _ _ s hs _).mono ?_
  rintro e w1 ⟨rfl, hb1⟩
  rw [HV.out]
  have HK : Hid (∀ W' : World, Below w1.heap.size w1 W' → W'.heap[w.heap.size]? = some (.cells #[.int .i64 (r : Int), .int .i64 (c : Int), .string s] 27 (0, 0))) := fun W' hb => (hb.block _ (by have := hb1.size; simp at this; omega)).trans (box_later hb1)
  have HB := Lib.hid (below_grown hb1)
  clear hb1
  obtain ⟨B, hB⟩ : ∃ B, w.heap.size = B := ⟨_, rfl⟩
  rw [hB] at HK
  go_wp2_with fail
  refine wp_region_rels (fun | 0 => fun v _ => v = mat r c s | 1 => fun v _ => v = mat r c s | 2 => fun v wx => NL L v wx | 3 => fun v _ => v = .string st | 4 => fun v _ => v = .string st | 5 => fun v _ => v = .bool true | _ => fun _ _ => True) ?hR (by kernel_rfl) (by kernel_rfl) rfl ?con ?en
  case hR =>
    intro i v wa wb ho h
    match i, h with
    | 0, h => exact h
    | 1, h => exact h
    | 2, h => exact NL.later h ho
    | 3, h => exact h
    | 4, h => exact h
    | 5, h => exact h
    | k + 6, h => trivial
  case con =>
    intro i oo ho a wx hb2 hf
    match i, ho with
    | 0, ho =>
      obtain rfl := Option.some.inj ho
      have b1 : a.tmps[1]?.getD undef = .pointer (some ⟨B, 0, none⟩) := hf.2 1 (by kernel_rfl)
      exact wp_load_row 27 (.tmp 1) rfl B (eval_get b1) 27 _ (0, 0) _ (HK.out _ hb2) Tryd.underlying27 rfl minfo ⟨_, rfl, rfl, Below.refl _ _⟩
    | 1, ho =>
      obtain rfl := Option.some.inj ho
      have b1 : a.tmps[1]?.getD undef = .pointer (some ⟨B, 0, none⟩) := hf.2 1 (by kernel_rfl)
      exact wp_load_row 27 (.tmp 1) rfl B (eval_get b1) 27 _ (0, 0) _ (HK.out _ hb2) Tryd.underlying27 rfl minfo ⟨_, rfl, rfl, Below.refl _ _⟩
    | 2, ho =>
      obtain rfl := Option.some.inj ho
      have e8 : a.tmps[8]?.getD undef = mat r c s := hf.1 ⟨1, .data⟩ (by simp) rfl _ 8 rfl rfl
      exact wp_enterE 28 #[mat r c s] (fun v w' => NL L v w' ∧ Below wx.heap.size wx w') (by unfold execOp; go_simp) (HF.out wx) (fun v w' h => ⟨_, rfl, h.1, h.2⟩)
    | 3, ho =>
      obtain rfl := Option.some.inj ho
      have e7 : a.tmps[7]?.getD undef = mat r c s := hf.1 ⟨0, .data⟩ (by simp) rfl _ 7 rfl rfl
      obtain ⟨b, o, cap, e9, hcap, hls⟩ : NL L (a.tmps[9]?.getD undef) wx := hf.1 ⟨2, .data⟩ (by simp) rfl _ 9 rfl rfl
      exact wp_enter 27 #[mat r c s, .slice (some ⟨b, o, none⟩) L.length cap] (.string st) _ (by unfold execOp; go_simp) (HN.out b o cap wx hcap hls.lt hls.list) (fun w' h => ⟨_, rfl, rfl, h⟩)
    | 4, ho =>
      obtain rfl := Option.some.inj ho
      have e10 : a.tmps[10]?.getD undef = .string st := hf.1 ⟨3, .data⟩ (by simp) rfl _ 10 rfl rfl
      exact wp_value (.string st) (by unfold execOp; go_simp) ⟨_, rfl, rfl, Below.refl _ _⟩
    | 5, ho =>
      obtain rfl := Option.some.inj ho
      exact wp_value (.bool true) (by unfold execOp; go_simp) ⟨_, rfl, rfl, Below.refl _ _⟩
    | q + 6, ho => simp at ho
  case en =>
    intro vs w2 hb2 hall
    have e4 : vs 4 = .string st := hall 4 _ rfl
    have e5 : vs 5 = .bool true := hall 5 _ rfl
    have HB2 := Lib.hid (HB.out.trans (hb2.mono HB.out.size))
    clear hb2 hall
    simp only [fill, Act.put]
    rw [e4, e5]
    clear e4 e5
    go_simp
    go_wp2_with fail
    go_returns
    exact ⟨rfl, HB2.out⟩

set_option maxHeartbeats 1000000 in
theorem name_spec_no (r c : Int) (s : ByteArray) (hs : s.size ≤ maxLen) (hv : validB r c s = false) (w : World) :
    Calls Tryd.prog 11 #[mat r c s] w fun e w' => e = .returned (.tuple #[.string ⟨#[]⟩, .bool false]) ∧ Below w.heap.size w w' := by
  have HV := Lib.hid hv
  clear hv
  go_enter Tryd.func11, Tryd.ntmps11
  go_wp2_with fail
  refine (spec_valid _ _ s hs _).mono ?_
  rintro e w1 ⟨rfl, hb1⟩
  rw [HV.out]
  have HB := Lib.hid (below_grown hb1)
  clear hb1
  go_wp2_with fail
  go_returns
  exact ⟨rfl, HB.out⟩

set_option maxHeartbeats 1000000 in
theorem name_impl_no (r c : Int) (s : ByteArray) (hs : s.size ≤ maxLen) (hv : validB r c s = false) (w : World) :
    Calls Tryd.prog 13 #[mat r c s] w fun e w' => e = .returned (.tuple #[.string ⟨#[]⟩, .bool false]) ∧ Below w.heap.size w w' := by
  have HG := Lib.hid (fun W => grid_no r c s hs hv W)
  clear hv
  generalize (fun _ => (0 : Int)) = f at *
  go_enter Tryd.func13, Tryd.ntmps13
  go_wp2_with fail
  refine (HG.out _).mono ?_
  rintro e w1 ⟨rfl, hb1⟩
  have HB := Lib.hid (below_grown hb1)
  clear hb1
  have HB2 := Lib.hid (HB.out.alloc HB.out.size (.cells (gcells 0 0 f) 42))
  have k0 : (w1.alloc (.cells (gcells 0 0 f) 42)).cell? ⟨w1.heap.size, 0, none⟩ = some (.int .i64 0) := cell_of_row _ _ 0 _ _ _ (heap_alloc_new w1 _)
  have K0 := Lib.hid k0
  clear k0
  go_wp2_with (refine wpList_store_row rfl 42 (.tmp 4) (.tmp 6) rfl w1.heap.size (gcells 0 0 f) rfl rfl 42 _ (heap_alloc_new w1 _) (ginfo' _ _ _) (by rw [gzero, gsize, gsize]) (gone _ _ _) ?_; rw [World.setRow_alloc_new]; generalize w1.alloc (.cells (gcells 0 0 f) 42) = w2 at *; have k0 := K0.out)
  go_returns
  exact ⟨rfl, HB2.out⟩

set_option maxHeartbeats 8000000 in
set_option maxRecDepth 100000 in
theorem name_impl (E : Nat → Nat → Bool) (r c : Nat) (h1 : 1 ≤ r) (h2 : r ≤ 8) (h3 : 1 ≤ c) (h4 : c ≤ 8) (hs : (str (rowsB E r c)).size ≤ maxLen) (hv : validB r c (str (rowsB E r c)) = true) (w : World) :
    Calls Tryd.prog 13 #[mat r c (str (rowsB E r c))] w fun e w' => e = .returned (.tuple #[.string (nameS E r c), .bool true]) ∧ Below w.heap.size w w' := by
  have hsz : (str (rowsB E r c)).size ≤ 64 := by rw [str_size, rowsB_length]; exact prod_le h2 h4
  have HG := Lib.hid (fun W => grid_yes E r c h1 h2 h3 h4 _ rfl hs hsz hv W)
  have hl1 := firsts_one (fun x => rowB E x c) r h1
  have hl8 := firsts_len (fun x => rowB E x c) r
  have hlm := firsts_lt (fun x => rowB E x c) r
  have hlines : Lines 33 (gval r c (gpart E c (r * c))) r (fun x y => gpart E c (r * c) (x * 8 + y)) := ⟨row_enters, fun x hx W => row_line r c _ x (by omega) W⟩
  have HF : Hid (∀ W : World, Calls Tryd.prog 32 #[.int .i64 (r : Int), .func (.func 33) #[gval r c (gpart E c (r * c))] #[]] W fun e w' => ∃ v, e = .returned v ∧ (NL (firstL E r c) v w' ∧ Below W.heap.size W w')) := fun W =>
    (firsts_of _ _ r h2 _ hlines (fun x => rowB E x c) (fun i j hi hj => same_row E c j i h4 _ _ (fun q hq => grid_row E r c j q hj hq h4) (fun q hq => grid_row E r c i q hi hq h4)) W).mono fun e w' h => by
      obtain ⟨v, g1, g2⟩ := h
      exact ⟨v, g1, NL.own g2 hl1, below_grown g2.below⟩
  have HN : Hid (Halved E r c (firstL E r c) (nameT E r c 8 (firstL E r c))) := halved E r c h1 h2 h3 h4 8 (firstL E r c) hl1 (by show (firsts _ r).length ≤ _; omega) (by show (firsts _ r).length ≤ _; omega) hlm
  have hlen := name_len E r c 8 (firstL E r c) hl1 (by show (firsts _ r).length ≤ _; omega)
  have hl8' : (firstL E r c).length ≤ r := hl8
  have HT : Hid (∀ W : World, Calls Tryd.prog 30 #[tree (nameT E r c 8 (firstL E r c))] W fun e w' => e = .returned (.tuple #[.string (nameS E r c), .bool true]) ∧ Below W.heap.size W w') := fun W => by
    have h := text_of (nameT E r c 8 (firstL E r c)) (name_wf E r c h2 h4 8 _) (by omega) W
    unfold textV at h
    rw [if_pos (by omega)] at h
    exact h
  unfold Halved at HN
  obtain ⟨ty, tv, htv⟩ := tree_iface (nameT E r c 8 (firstL E r c))
  rw [htv] at HN HT
  generalize nameS E r c = st at *
  generalize firstL E r c = L at *
  generalize str (rowsB E r c) = s at *
  clear hl1 hl8 hl8' hlm hv hlines hlen htv hsz
  generalize gpart E c (r * c) = f at *
  have hr0 : ¬ (r : Int) = 0 := by omega
  go_enter Tryd.func13, Tryd.ntmps13
  go_wp2_with fail
  refine (HG.out _).mono ?_
  rintro e w1 ⟨rfl, hb1⟩
  have HB := Lib.hid (below_grown hb1)
  clear hb1
  have HB2 := Lib.hid (HB.out.alloc HB.out.size (.cells (gcells r c f) 42))
  have h2 := heap_alloc_new w1 (.cells (gcells r c f) 42)
  have k0 : (w1.alloc (.cells (gcells r c f) 42)).cell? ⟨w1.heap.size, 0, none⟩ = some (.int .i64 (r : Int)) := cell_of_row _ _ 0 _ _ _ h2
  have K0 := Lib.hid k0
  have H2 := Lib.hid h2
  clear k0 h2
  go_wp2_with (refine wpList_store_row rfl 42 (.tmp 4) (.tmp 6) rfl w1.heap.size (gcells r c f) rfl rfl 42 _ (heap_alloc_new w1 _) (ginfo' _ _ _) (by rw [gzero, gsize, gsize]) (gone _ _ _) ?_; rw [World.setRow_alloc_new]; generalize w1.alloc (.cells (gcells r c f) 42) = w2 at *; have k0 := K0.out)
  clear k0 K0 HB HG
  generalize w1.heap.size = D at *
  have HK : Hid (∀ W' : World, Below w2.heap.size w2 W' → W'.heap[D]? = some (.cells (gcells r c f) 42 (0, 0))) := fun W' hb => (hb.block _ (Array.getElem?_eq_some_iff.1 H2.out).1).trans H2.out
  clear H2
  refine wp_region_rels (fun | 0 => fun v _ => v = .pointer (some ⟨D, 0, none⟩) | 1 => fun v _ => v = .int .i64 (r : Int) | 2 => fun v _ => v = gval r c f | 3 => fun v _ => v = .func (.func 33) #[gval r c f] #[] | 4 => fun v wx => NL L v wx | 5 => fun v _ => v = gval r c f | 6 => fun v _ => v = .func (.func 34) #[gval r c f] #[] | 7 => fun v _ => v = gval r c f | 8 => fun v _ => v = .func (.func 35) #[gval r c f] #[] | 9 => fun v _ => v = .iface ty tv | 10 => fun v _ => v = .tuple #[.string st, .bool true] | 11 => fun v _ => v = .string st | 12 => fun v _ => v = .bool true | 13 => fun v _ => v = .string st | 14 => fun v _ => v = .bool true | _ => fun _ _ => True) ?hR (by kernel_rfl) (by kernel_rfl) rfl ?con ?en
  case hR =>
    intro i v wa wb ho h
    match i, h with
    | 0, h => exact h
    | 1, h => exact h
    | 2, h => exact h
    | 3, h => exact h
    | 4, h => exact NL.later h ho
    | 5, h => exact h
    | 6, h => exact h
    | 7, h => exact h
    | 8, h => exact h
    | 9, h => exact h
    | 10, h => exact h
    | 11, h => exact h
    | 12, h => exact h
    | 13, h => exact h
    | 14, h => exact h
    | k + 15, h => trivial
  case con =>
    intro i oo ho a wx hb2 hf
    match i, ho with
    | 0, ho =>
      obtain rfl := Option.some.inj ho
      have b4 : a.tmps[4]?.getD undef = .pointer (some ⟨D, 0, none⟩) := hf.2 4 (by kernel_rfl)
      exact wp_value (.pointer (some ⟨D, 0, none⟩)) (by unfold execOp; go_simp) ⟨_, rfl, rfl, Below.refl _ _⟩
    | 1, ho =>
      obtain rfl := Option.some.inj ho
      have e10 : a.tmps[10]?.getD undef = .pointer (some ⟨D, 0, none⟩) := hf.1 ⟨0, .data⟩ (by simp) rfl _ 10 rfl rfl
      have cr : wx.cell? ⟨D, 0, none⟩ = some (.int .i64 (r : Int)) := cell_of_row _ _ 0 _ _ _ (HK.out _ hb2)
      exact wp_value (.int .i64 (r : Int)) (by unfold execOp; go_simp) ⟨_, rfl, rfl, Below.refl _ _⟩
    | 2, ho =>
      obtain rfl := Option.some.inj ho
      have b4 : a.tmps[4]?.getD undef = .pointer (some ⟨D, 0, none⟩) := hf.2 4 (by kernel_rfl)
      exact wp_load_row 42 (.tmp 4) rfl D (eval_get b4) 42 _ (0, 0) _ (HK.out _ hb2) Tryd.underlying42 rfl (ginfo' _ _ _) ⟨_, rfl, rfl, Below.refl _ _⟩
    | 3, ho =>
      obtain rfl := Option.some.inj ho
      have e12 : a.tmps[12]?.getD undef = gval r c f := hf.1 ⟨2, .data⟩ (by simp) rfl _ 12 rfl rfl
      exact wp_value (.func (.func 33) #[gval r c f] #[]) (by unfold execOp; go_simp) ⟨_, rfl, rfl, Below.refl _ _⟩
    | 4, ho =>
      obtain rfl := Option.some.inj ho
      have e11 : a.tmps[11]?.getD undef = .int .i64 (r : Int) := hf.1 ⟨1, .data⟩ (by simp) rfl _ 11 rfl rfl
      have e13 : a.tmps[13]?.getD undef = .func (.func 33) #[gval r c f] #[] := hf.1 ⟨3, .data⟩ (by simp) rfl _ 13 rfl rfl
      exact wp_enterE 32 #[.int .i64 (r : Int), .func (.func 33) #[gval r c f] #[]] (fun v w' => NL L v w' ∧ Below wx.heap.size wx w') (by unfold execOp; go_simp) (HF.out wx) (fun v w' h => ⟨_, rfl, h.1, h.2⟩)
    | 5, ho =>
      obtain rfl := Option.some.inj ho
      have b4 : a.tmps[4]?.getD undef = .pointer (some ⟨D, 0, none⟩) := hf.2 4 (by kernel_rfl)
      exact wp_load_row 42 (.tmp 4) rfl D (eval_get b4) 42 _ (0, 0) _ (HK.out _ hb2) Tryd.underlying42 rfl (ginfo' _ _ _) ⟨_, rfl, rfl, Below.refl _ _⟩
    | 6, ho =>
      obtain rfl := Option.some.inj ho
      have e15 : a.tmps[15]?.getD undef = gval r c f := hf.1 ⟨5, .data⟩ (by simp) rfl _ 15 rfl rfl
      exact wp_value (.func (.func 34) #[gval r c f] #[]) (by unfold execOp; go_simp) ⟨_, rfl, rfl, Below.refl _ _⟩
    | 7, ho =>
      obtain rfl := Option.some.inj ho
      have b4 : a.tmps[4]?.getD undef = .pointer (some ⟨D, 0, none⟩) := hf.2 4 (by kernel_rfl)
      exact wp_load_row 42 (.tmp 4) rfl D (eval_get b4) 42 _ (0, 0) _ (HK.out _ hb2) Tryd.underlying42 rfl (ginfo' _ _ _) ⟨_, rfl, rfl, Below.refl _ _⟩
    | 8, ho =>
      obtain rfl := Option.some.inj ho
      have e17 : a.tmps[17]?.getD undef = gval r c f := hf.1 ⟨7, .data⟩ (by simp) rfl _ 17 rfl rfl
      exact wp_value (.func (.func 35) #[gval r c f] #[]) (by unfold execOp; go_simp) ⟨_, rfl, rfl, Below.refl _ _⟩
    | 9, ho =>
      obtain rfl := Option.some.inj ho
      obtain ⟨b, o, cap, e14, hcap, hls⟩ : NL L (a.tmps[14]?.getD undef) wx := hf.1 ⟨4, .data⟩ (by simp) rfl _ 14 rfl rfl
      have e16 : a.tmps[16]?.getD undef = .func (.func 34) #[gval r c f] #[] := hf.1 ⟨6, .data⟩ (by simp) rfl _ 16 rfl rfl
      have e18 : a.tmps[18]?.getD undef = .func (.func 35) #[gval r c f] #[] := hf.1 ⟨8, .data⟩ (by simp) rfl _ 18 rfl rfl
      exact wp_enter 31 #[.slice (some ⟨b, o, none⟩) L.length cap, .func (.func 34) #[gval r c f] #[], .func (.func 35) #[gval r c f] #[]] (.iface ty tv) _ (by unfold execOp; go_simp) (HN.out b o cap wx hcap hls) (fun w' h => ⟨_, rfl, rfl, h⟩)
    | 10, ho =>
      obtain rfl := Option.some.inj ho
      have e19 : a.tmps[19]?.getD undef = .iface ty tv := hf.1 ⟨9, .data⟩ (by simp) rfl _ 19 rfl rfl
      exact wp_enter 30 #[.iface ty tv] (.tuple #[.string st, .bool true]) _ (by unfold execOp; go_simp) (HT.out wx) (fun w' h => ⟨_, rfl, rfl, h⟩)
    | 11, ho =>
      obtain rfl := Option.some.inj ho
      have e20 : a.tmps[20]?.getD undef = .tuple #[.string st, .bool true] := hf.1 ⟨10, .data⟩ (by simp) rfl _ 20 rfl rfl
      exact wp_value (.string st) (by unfold execOp; go_simp) ⟨_, rfl, rfl, Below.refl _ _⟩
    | 12, ho =>
      obtain rfl := Option.some.inj ho
      have e20 : a.tmps[20]?.getD undef = .tuple #[.string st, .bool true] := hf.1 ⟨10, .data⟩ (by simp) rfl _ 20 rfl rfl
      exact wp_value (.bool true) (by unfold execOp; go_simp) ⟨_, rfl, rfl, Below.refl _ _⟩
    | 13, ho =>
      obtain rfl := Option.some.inj ho
      have e21 : a.tmps[21]?.getD undef = .string st := hf.1 ⟨11, .data⟩ (by simp) rfl _ 21 rfl rfl
      exact wp_value (.string st) (by unfold execOp; go_simp) ⟨_, rfl, rfl, Below.refl _ _⟩
    | 14, ho =>
      obtain rfl := Option.some.inj ho
      have e22 : a.tmps[22]?.getD undef = .bool true := hf.1 ⟨12, .data⟩ (by simp) rfl _ 22 rfl rfl
      exact wp_value (.bool true) (by unfold execOp; go_simp) ⟨_, rfl, rfl, Below.refl _ _⟩
    | q + 15, ho => simp at ho
  case en =>
    intro vs w3 hb2 hall
    have e4 : vs 13 = .string st := hall 13 _ rfl
    have e5 : vs 14 = .bool true := hall 14 _ rfl
    have HB3 := Lib.hid (HB2.out.trans (hb2.mono HB2.out.size))
    clear hb2 hall
    simp only [fill, Act.put]
    rw [e4, e5]
    clear e4 e5
    go_simp
    go_wp2_with fail
    go_returns
    exact ⟨rfl, HB3.out⟩
end Go.Proofs.YtgfhahlkffagaaaDoor.NameN

