/-
  Texts of one seat, joined: DrawIC, DrawIP, Cover.
-/
import Derived.Test.YtohkllmhknjkoaaDoorJp1
import Derived.Test.YtohkllmhknjkoaaDoorJp20
import Derived.Test.YtohkllmhknjkoaaDoorJp10
import Derived.Test.YtohkllmhknjkoaaDoorJp11
import Derived.Test.YtohkllmhknjkoaaDoorJp12
import Derived.Test.YtohkllmhknjkoaaDoorJp13
import Derived.Test.YtohkllmhknjkoaaDoorJp18
import Derived.Test.YtohkllmhknjkoaaDoorJp17
/-
  The drawing function DrawIsCover.
-/
namespace Go.Proofs.YtohkllmhknjkoaaDoor.DrawIC
open Go Go.RowKit Go.Proofs.YtohkllmhknjkoaaDoor.Plain Go.Proofs.YtohkllmhknjkoaaDoor.Base Go.Proofs.YtohkllmhknjkoaaDoor.Valid Go.Proofs.YtohkllmhknjkoaaDoor.Rd Go.Proofs.YtohkllmhknjkoaaDoor.Rd2 Go.Proofs.YtohkllmhknjkoaaDoor.Rd3 Go.Proofs.YtohkllmhknjkoaaDoor.Rd4 Go.Proofs.YtohkllmhknjkoaaDoor.Rd5 Go.Proofs.YtohkllmhknjkoaaDoor.Rd6 Go.Proofs.YtohkllmhknjkoaaDoor.Rd7 Go.Proofs.YtohkllmhknjkoaaDoor.Entry
open Go.Proofs.YtohkllmhknjkoaaDoor.Rects (RV)
open Go.Proofs.YtohkllmhknjkoaaDoor.Free (fill wp_value wp_enter wp_load_row freeB)
open Go.Proofs.YtohkllmhknjkoaaDoor.FreeP (wp_enterP)
open Go.Proofs.YtohkllmhknjkoaaDoor.FreeK (wp_region_acts put_other)
open Go.Proofs.YtohkllmhknjkoaaDoor.MaxM (mx mx_len)
open Go.Proofs.YtohkllmhknjkoaaDoor.KeysI (infoK two_new flat)
set_option linter.unusedVariables false

abbrev encR (p : Int × Int) : List Value := [.int .i64 p.1, .int .i64 p.2]
theorem flat_get : ∀ (ss : List (Int × Int)) (t : Nat), t < ss.length * 2 → (flat ss)[t]? = some ((encR ss[t / 2]!)[t % 2]!)
  | [], t, h => by simp at h
  | p :: r, 0, h => by simp [flat]
  | p :: r, 1, h => by simp [flat]
  | p :: r, t + 2, h => by
    have ih := flat_get r t (by simp at h; omega)
    have e1 : (t + 2) / 2 = t / 2 + 1 := by omega
    have e2 : (t + 2) % 2 = t % 2 := by omega
    have e3 : flat (p :: r) = Value.int .i64 p.1 :: Value.int .i64 p.2 :: flat r := by simp [flat]
    rw [e3, e1, e2, List.getElem?_cons_succ, List.getElem?_cons_succ, ih]
    simp
theorem flat_length (ss : List (Int × Int)) : (flat ss).length = ss.length * 2 := by
  induction ss with
  | nil => rfl
  | cons p r ih =>
    have e3 : flat (p :: r) = Value.int .i64 p.1 :: Value.int .i64 p.2 :: flat r := by simp [flat]
    rw [e3]; simp [ih]; omega
/-- a slice of the call's own is a slice of these rectangles -/
theorem rv_own {w : World} {B : Nat} {v : Value} {xs : List (Int × Int)} (h : w.ownsRow B 39 2 v xs.length (flat xs)) (hl : xs.length ≤ 1048576) : RV w w.heap.size v xs := by
  refine ⟨by omega, ?_⟩
  rcases h.2 with ⟨rfl, h0⟩ | ⟨g, cap, cur, rfl, hg, hheap, hn, hcap, hsz, htake⟩
  · exact .inl ⟨rfl, List.length_eq_zero_iff.1 h0⟩
  · refine .inr ⟨g, 0, cap, rfl, (Array.getElem?_eq_some_iff.1 hheap).1, fun j hj => ?_⟩
    have key : ∀ t, t < xs.length * 2 → w.cell? ⟨g, t, none⟩ = (flat xs)[t]? := by
      intro t ht
      rw [← htake, List.getElem?_take_of_lt ht, Array.getElem?_toList]
      simp [World.cell?, hheap]
    have h1 := key (j * 2) (by omega)
    have h2 := key (j * 2 + 1) (by omega)
    rw [flat_get _ _ (by omega)] at h1 h2
    have e1 : j * 2 / 2 = j := by omega
    have e2 : j * 2 % 2 = 0 := by omega
    have e3 : (j * 2 + 1) / 2 = j := by omega
    have e4 : (j * 2 + 1) % 2 = 1 := by omega
    rw [e1, e2, getElem!_pos xs j hj] at h1
    rw [e3, e4, getElem!_pos xs j hj] at h2
    exact ⟨by rw [Nat.zero_add]; exact h1, by rw [Nat.zero_add]; exact h2⟩
theorem eval_get {a : Act} {d : Tmp} {v : Value} (h : a.tmps[d]?.getD undef = v) : a.eval (.tmp d) = v := by
  rw [← h]
  show a.tmps.getD d undef = _
  simp [Array.getD_eq_getD_getElem?]
theorem minfo : (Tryd.prog.info? 26).map (·.size) = some 3 := by kernel_rfl
theorem own_apt {w w' : World} {B g n size : Nat} {e : TypeId} {v : Value} {xs : List Value} (h : w.ownsRow B e size v n xs) (ha : Apt g w w') (hg : g < B) : w'.ownsRow B e size v n xs := by
  refine ⟨h.1, ?_⟩
  rcases h.2 with h2 | ⟨q, cap, cur, rfl, q1, q2, q3⟩
  · exact .inl h2
  · exact .inr ⟨q, cap, cur, rfl, q1, (ha.block q (Array.getElem?_eq_some_iff.1 q2).1 (by omega)).trans q2, q3⟩
theorem own_low {w : World} {B B' n size : Nat} {e : TypeId} {v : Value} {xs : List Value} (h : w.ownsRow B e size v n xs) (hB : B' ≤ B) : w.ownsRow B' e size v n xs := by
  refine ⟨h.1, ?_⟩
  rcases h.2 with h2 | ⟨q, cap, cur, rfl, q1, q2⟩
  · exact .inl h2
  · exact .inr ⟨q, cap, cur, rfl, by omega, q2⟩

theorem mone (x y : Int) (s : ByteArray) : (#[.int .i64 x, .int .i64 y, .string s] : Array Value).all (·.oneCell') = true := by simp [Value.oneCell']
theorem minfo4 (x y z : Value) : (Tryd.prog.info? 26).map (·.size) = some (#[x, y, z] : Array Value).size := by kernel_rfl
theorem apt_grown {g : Nat} {w w1 w' : World} {row : Option Nat} (h : Apt g w w1) (hg : w1.grownBy w' row) (hr : ∀ q, row = some q → w.heap.size ≤ q) : Apt g w w' :=
  ⟨hg.os.trans h.os, hg.tape.trans h.tape, hg.output.trans h.output, Nat.le_trans h.size hg.size, fun k hk hkg => (hg.block k (Nat.lt_of_lt_of_le hk h.size) (fun e => by have := hr k e.symm; omega)).trans (h.block k hk hkg)⟩
theorem rdr_grown {lo g p : Nat} {w w' : World} {row : Option Nat} (h : Rdr lo w g p) (hg : w.grownBy w' row) (hr : ∀ q, row = some q → g < q) : Rdr lo w' g p := by
  obtain ⟨v, n, h, hl⟩ := h
  have hne : ∀ k, k ≤ g → some k ≠ row := fun k hk e => by have := hr k e.symm; omega
  refine ⟨v, n, ⟨(hg.block g h.lt (hne g (Nat.le_refl _))).trans h.cells, ?_⟩, hl⟩
  obtain ⟨h0, a, c, rfl, h1⟩ := h.bytes
  refine ⟨h0, a, c, rfl, ?_⟩
  rcases h1 with h1 | ⟨b, off, h1, h2, h3, h4⟩
  · exact .inl h1
  · refine .inr ⟨b, off, h1, h2, Nat.lt_of_lt_of_le h3 hg.size, fun j hj => ?_⟩
    obtain ⟨x, x0, x1, hx⟩ := h4 j hj
    exact ⟨x, x0, x1, (World.cell?_of_block (a := ⟨b, off + j, none⟩) (hg.block b h3 (hne b (by omega)))).trans hx⟩
abbrev MO (a b : Int) (t : ByteArray) : Obj := .cells #[.int .i64 a, .int .i64 b, .string t] 26 (0, 0)
/-- how it stands in a region that draws its order: the matrix' block, the result's block -/
structure Wd (w : World) (b6 : Nat) (a b : Int) (t : ByteArray) (B : Nat) (st : Bool) (wx : World) : Prop where
  below : Below w.heap.size w wx
  bs : B ≤ wx.heap.size
  mat : wx.heap[b6]? = some (MO a b t)
  res : ∃ a0 b0 t0, wx.heap[w.heap.size]? = some (MO a0 b0 t0) ∧ (st = true → a0 = a ∧ b0 = b ∧ t0 = t)
theorem Wd.apt {w : World} {b6 g : Nat} {a b : Int} {t : ByteArray} {B : Nat} {st : Bool} {wx w' : World} (h : Wd w b6 a b t B st wx) (ha : Apt g wx w') (h1 : w.heap.size < g) (h2 : b6 ≠ g) : Wd w b6 a b t B st w' := by
  obtain ⟨a0, b0, t0, q1, q2⟩ := h.res
  exact ⟨ha.below h.below (by omega), Nat.le_trans h.bs ha.size, (ha.block _ (Array.getElem?_eq_some_iff.1 h.mat).1 h2).trans h.mat, a0, b0, t0, (ha.block _ (Array.getElem?_eq_some_iff.1 q1).1 (by omega)).trans q1, q2⟩
theorem Wd.on {w : World} {b6 : Nat} {a b : Int} {t : ByteArray} {B : Nat} {st : Bool} {wx w' : World} (h : Wd w b6 a b t B st wx) (hb : Below wx.heap.size wx w') : Wd w b6 a b t B st w' := by
  obtain ⟨a0, b0, t0, q1, q2⟩ := h.res
  exact ⟨h.below.trans (hb.mono h.below.size), Nat.le_trans h.bs hb.size, (hb.block _ (Array.getElem?_eq_some_iff.1 h.mat).1).trans h.mat, a0, b0, t0, (hb.block _ (Array.getElem?_eq_some_iff.1 q1).1).trans q1, q2⟩
theorem Wd.grow {w : World} {b6 : Nat} {a b : Int} {t : ByteArray} {B : Nat} {st : Bool} {wx w' : World} {row : Option Nat} (h : Wd w b6 a b t B st wx) (hg : wx.grownBy w' row) (hr : ∀ q, row = some q → B ≤ q) (h1 : w.heap.size < B) (h2 : b6 < B) : Wd w b6 a b t B st w' := by
  obtain ⟨a0, b0, t0, q1, q2⟩ := h.res
  exact ⟨h.below.grown hg h.below.size (fun k hk => by have := hr k hk; omega), Nat.le_trans h.bs hg.size, (hg.block _ (Array.getElem?_eq_some_iff.1 h.mat).1 (fun e => by have := hr _ e.symm; omega)).trans h.mat, a0, b0, t0, (hg.block _ (Array.getElem?_eq_some_iff.1 q1).1 (fun e => by have := hr _ e.symm; omega)).trans q1, q2⟩
theorem Wd.put {w : World} {b6 : Nat} {a b : Int} {t : ByteArray} {B : Nat} {st : Bool} {wx : World} (h : Wd w b6 a b t B st wx) (h2 : w.heap.size < b6) : Wd w b6 a b t B true (wx.setRow w.heap.size #[.int .i64 a, .int .i64 b, .string t]) := by
  obtain ⟨a0, b0, t0, q1, q2⟩ := h.res
  exact ⟨Go.Proofs.YtohkllmhknjkoaaDoor.Free.setRow_below h.below (Nat.le_refl _) _, by simpa using h.bs, (Go.Proofs.YtohkllmhknjkoaaDoor.Free.setRow_other (by omega) _).trans h.mat, a, b, t, Go.Proofs.YtohkllmhknjkoaaDoor.Free.setRow_kept q1 _, fun _ => ⟨rfl, rfl, rfl⟩⟩
theorem apt_row (b : Nat) (w : World) (cs : Array Value) : Apt b w (w.setRow b cs) := ⟨rfl, rfl, rfl, by simp, fun k _ hk => Go.Proofs.YtohkllmhknjkoaaDoor.Free.setRow_other hk _⟩
theorem add_at (g o j : Nat) : (⟨g, o, none⟩ : Addr).add j = ⟨g, o + j, none⟩ := by
  unfold Addr.add
  split
  · rename_i h
    subst h
    rfl
  · rfl
theorem flat_app (a b : List (Int × Int)) : flat (a ++ b) = flat a ++ flat b := by simp [flat]
theorem flat_take : ∀ (xs : List (Int × Int)) (k : Nat), flat (xs.take k) = (flat xs).take (k * 2)
  | [], k => by simp [flat]
  | p :: r, 0 => by simp [flat]
  | p :: r, k + 1 => by
    have ih := flat_take r k
    have e3 : ∀ r, flat (p :: r) = Value.int .i64 p.1 :: Value.int .i64 p.2 :: flat r := fun r => by simp [flat]
    rw [List.take_succ_cons, e3, e3, ih, show (k + 1) * 2 = k * 2 + 1 + 1 by omega, List.take_succ_cons, List.take_succ_cons]
theorem flat_drop : ∀ (xs : List (Int × Int)) (k : Nat), flat (xs.drop k) = (flat xs).drop (k * 2)
  | [], k => by simp [flat]
  | p :: r, 0 => by simp [flat]
  | p :: r, k + 1 => by
    have ih := flat_drop r k
    have e3 : ∀ r, flat (p :: r) = Value.int .i64 p.1 :: Value.int .i64 p.2 :: flat r := fun r => by simp [flat]
    rw [List.drop_succ_cons, e3, ih, show (k + 1) * 2 = k * 2 + 1 + 1 by omega, List.drop_succ_cons, List.drop_succ_cons]
theorem flat_one (xs : List (Int × Int)) : ∀ u ∈ flat xs, u.oneCell' = true := by
  intro u hu
  simp only [flat, List.mem_flatMap] at hu
  obtain ⟨p, _, h⟩ := hu
  simp only [List.mem_cons, List.not_mem_nil, or_false] at h
  rcases h with rfl | rfl <;> rfl
/-- a list in a block of its own that is not gL -/
def OL (B gL : Nat) (v : Value) (ys : List (Int × Int)) (wx : World) : Prop := wx.ownsRow B 39 2 v ys.length (flat ys) ∧ v.ownBlock ≠ some gL
def R9 (a b : Int) (t : ByteArray) (x : Int) (B gL kk K : Nat) (xs : List (Int × Int)) : Nat → Value → World → Prop
  | 0, v, _ => v = mtx a b t
  | 1, v, _ => v = .int .i64 x
  | 2, v, wx => OL B gL v [] wx
  | 3, v, _ => v = .slice (some ⟨gL, 0, none⟩) xs.length kk
  | 4, v, _ => v = .int .i64 (K : Int)
  | 5, v, _ => v = .slice (some ⟨gL, 0, none⟩) K kk
  | 6, v, wx => OL B gL v (xs.take K) wx
  | 7, v, _ => v = .slice (some ⟨gL, 0, none⟩) xs.length kk
  | 8, v, _ => v = .int .i64 (K : Int)
  | 9, v, _ => v = .int .i64 ((K : Int) + 1)
  | 10, v, _ => ∃ ad, v = .slice (some ad) (xs.length - (K + 1)) (kk - (K + 1)) ∧ (kk ≠ K + 1 → ad = ⟨gL, (K + 1) * 2, none⟩)
  | 11, v, wx => OL B gL v (xs.take K ++ xs.drop (K + 1)) wx
  | 13, v, _ => v = .int .i64 x
  | 14, v, wx => OL B gL v (xs.take K ++ xs.drop (K + 1)) wx
  | _, _, _ => True
theorem R9.keep {a b : Int} {t : ByteArray} {x : Int} {B gL kk K : Nat} {xs : List (Int × Int)} {wx w' : World} (hk : ∀ v n zs, wx.ownsRow B 39 2 v n zs → w'.ownsRow B 39 2 v n zs) : ∀ (j : Nat) (u : Value), R9 a b t x B gL kk K xs j u wx → R9 a b t x B gL kk K xs j u w'
  | 0, _, h => h | 1, _, h => h | 2, _, h => ⟨hk _ _ _ h.1, h.2⟩ | 3, _, h => h | 4, _, h => h | 5, _, h => h | 6, _, h => ⟨hk _ _ _ h.1, h.2⟩ | 7, _, h => h | 8, _, h => h | 9, _, h => h | 10, _, h => h
  | 11, _, h => ⟨hk _ _ _ h.1, h.2⟩ | 12, _, _ => trivial | 13, _, h => h | 14, _, h => ⟨hk _ _ _ h.1, h.2⟩ | _ + 15, _, _ => trivial
def T9 (w : World) (b6 : Nat) (a b : Int) (t : ByteArray) (B gL kk : Nat) (xs : List (Int × Int)) (l : Nat → Bool) (wx : World) : Prop :=
  Wd w b6 a b t B (l 12) wx ∧ wx.ownsRow B 39 2 (.slice (some ⟨gL, 0, none⟩) xs.length kk) xs.length (flat xs)
def R11 (a b : Int) (t : ByteArray) (x : Int) (B g : Nat) (L : Value) : Nat → Value → World → Prop
  | 0, v, _ => v = mtx a b t
  | 1, v, _ => v = .int .i64 x
  | 2, v, _ => v = L
  | 3, v, _ => v = .pointer (some ⟨g, 0, none⟩)
  | 4, v, _ => v = .pointer (some ⟨g, 0, none⟩)
  | 5, v, _ => v = mtx a b t
  | 6, v, _ => ∃ y z, v = .agg #[.int .i64 y, .int .i64 z] ∧ W64 y ∧ W64 z
  | 7, v, _ => ∃ y z, v = .agg #[.int .i64 y, .int .i64 z] ∧ W64 y ∧ W64 z
  | 8, v, wx => ∃ q y z, v = .slice (some ⟨q, 0, none⟩) 1 1 ∧ B ≤ q ∧ some q ≠ L.ownBlock ∧ wx.heap[q]? = some (.cells #[.int .i64 y, .int .i64 z] 39 (0, 0))
  | 9, v, wx => ∃ ys : List (Int × Int), ys.length ≤ 300 ∧ wx.ownsRow B 39 2 v ys.length (flat ys)
  | 11, v, _ => v = .int .i64 x
  | 12, v, wx => ∃ ys : List (Int × Int), ys.length ≤ 300 ∧ wx.ownsRow B 39 2 v ys.length (flat ys)
  | _, _, _ => True
theorem R11.apt {a b : Int} {t : ByteArray} {x : Int} {B g g2 : Nat} {L : Value} {wx w' : World} (ha : Apt g2 wx w') (hg : g2 < B) : ∀ (j : Nat) (u : Value), R11 a b t x B g L j u wx → R11 a b t x B g L j u w'
  | 0, _, h => h | 1, _, h => h | 2, _, h => h | 3, _, h => h | 4, _, h => h | 5, _, h => h | 6, _, h => h | 7, _, h => h
  | 8, _, h => by
    obtain ⟨q, y, z, rfl, h1, h2, h3⟩ := h
    exact ⟨q, y, z, rfl, h1, h2, (ha.block q (Array.getElem?_eq_some_iff.1 h3).1 (by omega)).trans h3⟩
  | 9, _, h => by
    obtain ⟨ys, h1, h2⟩ := h
    exact ⟨ys, h1, own_apt h2 ha hg⟩
  | 10, _, _ => trivial | 11, _, h => h
  | 12, _, h => by
    obtain ⟨ys, h1, h2⟩ := h
    exact ⟨ys, h1, own_apt h2 ha hg⟩
  | _ + 13, _, _ => trivial
def T11 (w : World) (b6 : Nat) (a b : Int) (t : ByteArray) (B : Nat) (L : Value) (xs : List (Int × Int)) (lo g p : Nat) (l : Nat → Bool) (wx : World) : Prop :=
  Wd w b6 a b t B (l 10) wx ∧ (l 9 = false → wx.ownsRow B 39 2 L xs.length (flat xs)) ∧ ∃ q, (l 6 = false → q ≤ p) ∧ (l 7 = false → q ≤ p + 10) ∧ Rdr lo wx g q

/-- the list of all greatest rectangles, whatever is asked -/
theorem max_any (a b : Int) (t : ByteArray) (ht : t.size ≤ 100) (x : Int) (w : World) :
    Calls Tryd.prog 60 #[mtx a b t, .int .i64 x] w fun e w' => ∃ v xs, e = .returned v ∧ xs.length ≤ 256 ∧ w'.ownsRow w.heap.size 39 2 v xs.length (flat xs) ∧ Below w.heap.size w w' := by
  have hts : t.size ≤ maxLen := by unfold maxLen; omega
  by_cases hv : validB a b t = true
  · by_cases hx : x = 0 ∨ x = 1
    · obtain ⟨R, C, E, rfl, rfl, h1, h2, h3, h4, rfl⟩ := valid_form hv
      obtain ⟨bt, rfl⟩ : ∃ bt, x = bitI bt := by
        rcases hx with rfl | rfl
        · exact ⟨false, rfl⟩
        · exact ⟨true, rfl⟩
      refine (Go.Proofs.YtohkllmhknjkoaaDoor.MaxS.spec_yes E R C h1 h2 h3 h4 hts hv bt w).mono ?_
      rintro e w' ⟨v, rfl, ho, hb⟩
      refine ⟨v, _, rfl, ?_, ho, hb⟩
      have e1 := mx_len E bt R C (2 ^ R - 1)
      have e2 := Nat.pow_le_pow_right (n := 2) (by decide) h2
      omega
    · refine (Go.Proofs.YtohkllmhknjkoaaDoor.MaxS.spec_no a b t hts x _ hv (.inr (by omega)) w).mono ?_
      rintro e w' ⟨v, rfl, ho, hb⟩
      exact ⟨v, [], rfl, by simp, ho, hb⟩
  · refine (Go.Proofs.YtohkllmhknjkoaaDoor.MaxS.spec_no a b t hts x false (by simpa using hv) (.inl rfl) w).mono ?_
    rintro e w' ⟨v, rfl, ho, hb⟩
    exact ⟨v, [], rfl, by simp, ho, hb⟩

theorem own_slice {w : World} {B n : Nat} {v : Value} {xs : List Value} (h : w.ownsRow B 39 2 v n xs) : ∃ p k, v = .slice p n k := by
  rcases h.2 with ⟨rfl, h0⟩ | ⟨g, cap, cur, rfl, _⟩
  · exact ⟨none, 0, by rw [h0]⟩
  · exact ⟨_, _, rfl⟩

set_option maxRecDepth 100000 in
set_option maxHeartbeats 8000000 in
theorem draw_any (v : Value) (n : Nat) (w : World) (h : ByteArg w v n) :
    Calls Tryd.prog 23 #[v] w fun e w' => ∃ (a b : Int) (t : ByteArray) (x : Int) (u : Value) (xs : List (Int × Int)), e = .returned (.tuple #[mtx a b t, .int .i64 x, u]) ∧ W64 a ∧ W64 b ∧ t.size ≤ 100 ∧ (-1 ≤ x ∧ x ≤ 2) ∧ xs.length ≤ 1000 ∧ RV w' w'.heap.size u xs ∧ Below w.heap.size w w' := by
  obtain ⟨i0, hi, hz0, hz1, hz2⟩ := info_parts infoK
  have hbr : Below w.heap.size w (w.alloc (.cells #[.int .i64 0, .int .i64 0, .string ⟨#[]⟩] 26)) := (Below.refl _ _).alloc (Nat.le_refl _) _
  have HO := Lib.hid (open_lo v n _ (h.later hbr) (lo_of h))
  have HBR := Lib.hid hbr
  clear h hbr
  go_enter Tryd.func23, Tryd.ntmps23
  go_wp2_with fail
  refine HO.out.mono ?_
  rintro e w1 ⟨g, rfl, hr, hb, hg⟩
  have hg0 : w.heap.size < g := by simp at hg; omega
  have hg1 := hr.lt
  have hres : w1.heap[w.heap.size]? = some (.cells #[.int .i64 0, .int .i64 0, .string ⟨#[]⟩] 26 (0, 0)) := (hb.block _ (by simp)).trans (heap_alloc_new w _)
  have HB1 : Hid (Below w.heap.size w w1) := HBR.out.trans (hb.mono (by simp))
  have HD := Lib.hid (draw_mat g 0 (by omega) 4 (by omega) (by omega) w1 hr)
  have HR1 := Lib.hid hres
  clear hr hb hg hres HO HBR
  go_wp2_with fail
  refine HD.out.mono ?_
  rintro e w2 ⟨a9, b9, t9, p1, rfl, ha, hb, hsz, hp0, hp1, hr2, ha2⟩
  have HM := Lib.hid (bad_mat g p1 (by omega) a9 b9 t9 ha.1 ha.2 ⟨by omega, by omega⟩ hsz.1 hsz.2 w2 hr2)
  have HA2 := Lib.hid ha2
  have hs2 := ha2.size
  clear ha hb hsz hr2 ha2 HD
  go_wp2_with fail
  refine HM.out.mono ?_
  rintro e w3 ⟨a, b, t, p2, rfl, wa, wb, ht, hp2, hp3, hr3, ha3⟩
  have HA3 := Lib.hid (HA2.out.trans ha3)
  have hs3 := ha3.size
  have HR3 := Lib.hid hr3
  clear hr3 ha3 HM HA2
  go_wp2_with fail
  have HBW : Hid (∃ W4, w3.alloc (.cells #[.int .i64 a, .int .i64 b, .string t] 26) = W4 ∧ Below w3.heap.size w3 W4 ∧ W4.heap.size = w3.heap.size + 1 ∧ W4.heap[w3.heap.size]? = some (.cells #[.int .i64 a, .int .i64 b, .string t] 26 (0, 0))) := ⟨_, rfl, (Below.refl _ _).alloc (Nat.le_refl _) _, by simp, heap_alloc_new w3 _⟩
  obtain ⟨W4, hW4, hb4, hs4, hm4⟩ := HBW.out
  first | rw [hW4] | skip
  have HA4 := Lib.hid (HA3.out.trans (Apt.of_below hb4))
  have HM4 := Lib.hid hm4
  have HV := Lib.hid (Go.Proofs.YtohkllmhknjkoaaDoor.Vals.value_any g p2 (by omega) W4 (HR3.out.later hb4))
  clear hb4 hm4 hW4 HBW HA3 HR3
  refine HV.out.mono ?_
  rintro e w5 ⟨x, rfl, hx0, hx1, hr5, ha5⟩
  have HA5 := Lib.hid (HA4.out.trans ha5)
  have HM5 := Lib.hid ((ha5.block _ (by omega) (by omega)).trans HM4.out)
  have hs5 := ha5.size
  have HX := Lib.hid (max_any a b t ht x w5)
  have HR5 := Lib.hid hr5
  have HT := Lib.hid ht
  have HWA := Lib.hid (And.intro wa wb)
  have c0 : w5.cell? ⟨w3.heap.size, 0, none⟩ = some (.int .i64 a) := cell_of_row _ _ 0 _ _ _ HM5.out
  have c1 : w5.cell? ⟨w3.heap.size, 1, none⟩ = some (.int .i64 b) := cell_of_row _ _ 1 _ _ _ HM5.out
  have c2 : w5.cell? ⟨w3.heap.size, 2, none⟩ = some (.string t) := cell_of_row _ _ 2 _ _ _ HM5.out
  clear hr5 ha5 HV HA4 HM4 ht wa wb
  go_wp2_with fail
  refine HX.out.mono ?_
  rintro e w6 ⟨lv, xs, rfl, hxl, hown, hb6⟩
  obtain ⟨pp, kk, rfl⟩ := own_slice hown
  have HO6 := Lib.hid hown
  have HA6 := Lib.hid (HA5.out.trans (Apt.of_below hb6))
  have HM6 := Lib.hid ((hb6.block _ (by omega)).trans HM5.out)
  have HP := Lib.hid (pick_r g (p2 + 1) (by omega) 4 w6 (HR5.out.later hb6))
  have hs6 := hb6.size
  clear hown hb6 HA5 HM5 HR5 HX c0 c1 c2
  go_wp2_with fail
  refine HP.out.mono ?_
  rintro e w7 ⟨pk, rfl, _, _, hr7, ha7⟩
  have HO7 := Lib.hid (own_apt HO6.out ha7 (by omega))
  have HA7 := Lib.hid (HA6.out.trans ha7)
  have HM7 := Lib.hid ((ha7.block _ (by omega) (by omega)).trans HM6.out)
  have hs7 := ha7.size
  have HR7 := Lib.hid hr7
  clear hr7 ha7 HP HO6 HA6 HM6
  by_cases hk0 : pk = 0
  · subst hk0
    have HXL : Hid (decide (xs.length > 0) = decide (xs.length > 0)) := Lib.hid rfl
    by_cases hl : xs.length = 0
    · have hlb : decide (0 < (xs.length : Int)) = false := decide_eq_false (by omega)
      have c0 : w7.cell? ⟨w3.heap.size, 0, none⟩ = some (.int .i64 a) := cell_of_row _ _ 0 _ _ _ HM7.out
      have c1 : w7.cell? ⟨w3.heap.size, 1, none⟩ = some (.int .i64 b) := cell_of_row _ _ 1 _ _ _ HM7.out
      have c2 : w7.cell? ⟨w3.heap.size, 2, none⟩ = some (.string t) := cell_of_row _ _ 2 _ _ _ HM7.out
      obtain ⟨o0, o1, o2, f0, f1, f2⟩ := cells3 ((HA7.out.block _ (Array.getElem?_eq_some_iff.1 HR1.out).1 (by omega)).trans HR1.out)
      go_wp2_with fail
      refine bodyPost_ret (v := .tuple #[mtx a b t, .int .i64 x, .slice pp xs.length kk]) (by simp [results, Tryd.results23, go_sem, o0, o1, o2, hl]) rfl ⟨a, b, t, x, _, xs, rfl, HWA.out.1, HWA.out.2, HT.out, ⟨hx0, hx1⟩, by omega, ?_, ?_⟩
      · have hq := fun i y (wa : World) => Apt.setCell w.heap.size wa i y
        exact rv_own (own_apt HO7.out (((hq _ _ _).trans (hq _ _ _)).trans (hq _ _ _)) (by omega)) (by omega)
      · exact (((HA7.out.below HB1.out (by omega)).setCell (by simp) _).setCell (by simp) _).setCell (by simp) _
    · have hlb : decide (0 < (xs.length : Int)) = true := decide_eq_true (by omega)
      have HP7 := Lib.hid (pick_r g (p2 + 1 + 1) (by omega) xs.length w7 HR7.out)
      clear hlb
      go_wp2_with fail
      refine HP7.out.mono ?_
      rintro e w8 ⟨kx, rfl, hk8, hk9, hr8, ha8⟩
      have HO8 := Lib.hid (own_apt HO7.out ha8 (by omega))
      have HM8 := Lib.hid ((ha8.block _ (by omega) (by omega)).trans HM7.out)
      have HA8 := Lib.hid (HA7.out.trans ha8)
      have hs8 := ha8.size
      clear hr8 ha8 HP7 HO7 HM7 HA7
      obtain ⟨K, rfl⟩ : ∃ K : Nat, kx = K := ⟨kx.toNat, by omega⟩
      have hK : K < xs.length := by omega
      obtain ⟨gL, epp, hLe, hgL⟩ : ∃ gL, pp = some ⟨gL, 0, none⟩ ∧ xs.length ≤ kk ∧ w5.heap.size ≤ gL := by
        rcases HO8.out.2 with ⟨e1, e2⟩ | ⟨q, cap, cur, e1, q1, q2, q3, q4⟩
        · omega
        · cases e1
          exact ⟨q, rfl, q3, q1⟩
      subst epp
      go_wp2_with fail
      refine wp_region_acts (fun j v _ wx => R9 a b t x w5.heap.size gL kk K xs j v wx) (T9 w w3.heap.size a b t w5.heap.size gL kk xs) (by kernel_rfl) (by kernel_rfl) rfl ?t0 ?con ?en
      case t0 =>
        have hbd : Below w8.heap.size w8 { w8 with drawn := w8.drawn + 1 } := drawn_at w8 1
        refine ⟨Wd.on ⟨HA8.out.below HB1.out (by omega), by omega, HM8.out, 0, 0, ⟨#[]⟩, (HA8.out.block _ (Array.getElem?_eq_some_iff.1 HR1.out).1 (by omega)).trans HR1.out, fun e => by cases e⟩ hbd, own_apt HO8.out (Apt.of_below (g := g) hbd) (by omega)⟩
      case con =>
        intro i oo ho a9 wx l hT hli hcl hdp hf
        match i, ho with
        | 0, ho =>
          obtain rfl := Option.some.inj ho
          have e6 : a9.tmps[6]?.getD undef = .pointer (some ⟨w3.heap.size, 0, none⟩) := hf.2 6 (by kernel_rfl)
          exact wp_load_row 26 (.tmp 6) rfl w3.heap.size (eval_get e6) 26 _ (0, 0) _ hT.1.mat Tryd.underlying26 rfl minfo ⟨_, rfl, rfl, hT, fun j u _ _ hY => hY⟩
        | 1, ho =>
          obtain rfl := Option.some.inj ho
          have e7 : a9.tmps[7]?.getD undef = .int .i64 x := hf.2 7 (by kernel_rfl)
          exact wp_value (.int .i64 x) (by unfold execOp; go_simp) ⟨_, rfl, rfl, hT, fun j u _ _ hY => hY⟩
        | 2, ho =>
          obtain rfl := Option.some.inj ho
          have hbl : Below wx.heap.size wx (wx.alloc (.cells #[] 39)) := (Below.refl _ _).alloc (Nat.le_refl _) _
          have hgl : gL < wx.heap.size := (hT.2.lt gL rfl).2
          exact Go.Proofs.YtohkllmhknjkoaaDoor.Apx.wp_made (wx.alloc (.cells #[] 39)) (.slice (some ⟨wx.heap.size, 0, none⟩) 0 0) (by unfold execOp; go_simp) ⟨_, rfl, ⟨World.ownsRow_made wx #[] 0 hT.1.bs (by decide) rfl, by simp [Value.ownBlock]; omega⟩, ⟨hT.1.on hbl, own_apt hT.2 (Apt.of_below (g := g) hbl) (by omega)⟩, fun j u _ _ hY => R9.keep (fun v n zs h => own_apt h (Apt.of_below (g := g) hbl) (by omega)) j u hY⟩
        | 3, ho =>
          obtain rfl := Option.some.inj ho
          have e8 : a9.tmps[8]?.getD undef = .slice (some ⟨gL, 0, none⟩) xs.length kk := hf.2 8 (by kernel_rfl)
          exact wp_value (.slice (some ⟨gL, 0, none⟩) xs.length kk) (by unfold execOp; go_simp) ⟨_, rfl, rfl, hT, fun j u _ _ hY => hY⟩
        | 4, ho =>
          obtain rfl := Option.some.inj ho
          have e9 : a9.tmps[9]?.getD undef = .int .i64 (K : Int) := hf.2 9 (by kernel_rfl)
          exact wp_value (.int .i64 (K : Int)) (by unfold execOp; go_simp) ⟨_, rfl, rfl, hT, fun j u _ _ hY => hY⟩
        | 5, ho =>
          obtain rfl := Option.some.inj ho
          have e35 : a9.tmps[35]?.getD undef = .slice (some ⟨gL, 0, none⟩) xs.length kk := hf.1 ⟨3, .data⟩ (by simp) rfl _ 35 rfl rfl
          have e36 : a9.tmps[36]?.getD undef = .int .i64 (K : Int) := hf.1 ⟨4, .data⟩ (by simp) rfl _ 36 rfl rfl
          have q1 : (K : Int) ≤ (kk : Int) := by omega
          have q0 : (0 : Int) ≤ (K : Int) := by omega
          have q2 : ¬ kk < K := by omega
          exact wp_value (.slice (some ⟨gL, 0, none⟩) K kk) (by unfold execOp; go_simp) ⟨_, rfl, rfl, hT, fun j u _ _ hY => hY⟩
        | 6, ho =>
          obtain rfl := Option.some.inj ho
          have h34 : OL w5.heap.size gL (a9.tmps[34]?.getD undef) [] wx := hf.1 ⟨2, .data⟩ (by simp) rfl _ 34 rfl rfl
          have e37 : a9.tmps[37]?.getD undef = .slice (some ⟨gL, 0, none⟩) K kk := hf.1 ⟨5, .data⟩ (by simp) rfl _ 37 rfl rfl
          obtain ⟨v34, e34⟩ : ∃ v, a9.tmps[34]?.getD undef = v := ⟨_, rfl⟩
          rw [e34] at h34
          have htl : (xs.take K).length = K := by rw [List.length_take]; omega
          refine Go.Proofs.YtohkllmhknjkoaaDoor.Apy.wp_append_all (.tmp 34) (.tmp 37) 32 rfl w5.heap.size 39 i0 (.agg #[.int .i64 0, .int .i64 0]) 2 16 Tryd.underlying32 hi hz0 hz1 hz2 rfl (by decide) v34 0 [] (eval_get e34) h34.1 ⟨gL, 0, none⟩ K kk (flat (xs.take K)) (eval_get e37) (by rw [flat_length, htl]) ?c1 (flat_one _) (by unfold maxLen; omega) (by omega) hT.1.bs ?c2
          case c1 =>
            intro j u hu
            rw [flat_take] at hu
            have hj : j < xs.length * 2 := by
              have := (List.getElem?_eq_some_iff.1 hu).1
              rw [List.length_take, flat_length] at this
              omega
            rw [List.getElem?_take] at hu
            split at hu
            · exact (show wx.cell? ((⟨gL, 0, none⟩ : Addr).add j) = _ from by rw [add_at, Nat.zero_add]; exact (World.ownsRow.cellAt hT.2 j hj)).trans hu
            · cases hu
          case c2 =>
            intro v3 w9 hown3 hgrow3 hwhere3 hkeep
            have hb3 : ∀ q, v34.ownBlock = some q → w5.heap.size ≤ q := fun q hq => (h34.1.lt q hq).1
            refine ⟨v3, rfl, ⟨?_, ?_⟩, ⟨hT.1.grow hgrow3 hb3 (by omega) (by omega), hkeep _ _ _ _ hT.2 fun e => absurd e.symm h34.2⟩, fun j u hj hlj hY => ?_⟩
            · rw [htl]; simpa using hown3
            · rcases hwhere3 with e | e
              · rw [e]; exact h34.2
              · rw [e]; have := (hT.2.lt gL rfl).2; simp; omega
            · match j, hj, hlj, hY with
              | 0, _, _, hY => exact hY
              | 1, _, _, hY => exact hY
              | 2, _, _, hY => exact ⟨hkeep _ _ _ _ hY.1 (fun _ => Nat.le_refl _), hY.2⟩
              | 3, _, _, hY => exact hY
              | 4, _, _, hY => exact hY
              | 5, _, _, hY => exact hY
              | 6, hj, _, _ => exact absurd rfl hj
              | 7, _, _, hY => exact hY
              | 8, _, _, hY => exact hY
              | 9, _, _, hY => exact hY
              | 10, _, _, hY => exact hY
              | 11, _, hlj, _ => rw [hcl 11 _ rfl hlj ⟨6, .data⟩ (by simp) rfl] at hli; cases hli
              | 12, _, _, _ => trivial
              | 13, _, _, hY => exact hY
              | 14, _, hlj, _ => rw [hcl 11 _ rfl (hcl 14 _ rfl hlj ⟨11, .data⟩ (by simp) rfl) ⟨6, .data⟩ (by simp) rfl] at hli; cases hli
              | q + 15, _, _, _ => trivial
        | 7, ho =>
          obtain rfl := Option.some.inj ho
          have e8 : a9.tmps[8]?.getD undef = .slice (some ⟨gL, 0, none⟩) xs.length kk := hf.2 8 (by kernel_rfl)
          exact wp_value (.slice (some ⟨gL, 0, none⟩) xs.length kk) (by unfold execOp; go_simp) ⟨_, rfl, rfl, hT, fun j u _ _ hY => hY⟩
        | 8, ho =>
          obtain rfl := Option.some.inj ho
          have e9 : a9.tmps[9]?.getD undef = .int .i64 (K : Int) := hf.2 9 (by kernel_rfl)
          exact wp_value (.int .i64 (K : Int)) (by unfold execOp; go_simp) ⟨_, rfl, rfl, hT, fun j u _ _ hY => hY⟩
        | 9, ho =>
          obtain rfl := Option.some.inj ho
          have e40 : a9.tmps[40]?.getD undef = .int .i64 (K : Int) := hf.1 ⟨8, .data⟩ (by simp) rfl _ 40 rfl rfl
          exact wp_value (.int .i64 ((K : Int) + 1)) (by unfold execOp; go_simp; first | done | exact IntWalk.i64_in _ ⟨by omega, by omega⟩) ⟨_, rfl, rfl, hT, fun j u _ _ hY => hY⟩
        | 10, ho =>
          obtain rfl := Option.some.inj ho
          have e39 : a9.tmps[39]?.getD undef = .slice (some ⟨gL, 0, none⟩) xs.length kk := hf.1 ⟨7, .data⟩ (by simp) rfl _ 39 rfl rfl
          have e41 : a9.tmps[41]?.getD undef = .int .i64 ((K : Int) + 1) := hf.1 ⟨9, .data⟩ (by simp) rfl _ 41 rfl rfl
          have q1 : (K : Int) + 1 ≤ (kk : Int) := by omega
          have q0 : (0 : Int) ≤ (K : Int) + 1 := by omega
          have q3 : ((K : Int) + 1).toNat = K + 1 := by omega
          have q2 : ¬ xs.length < K + 1 := by omega
          have h10 : ∃ ad : Addr, Value.slice (if kk = K + 1 then some ⟨gL, 0, none⟩ else some ⟨gL, (K + 1) * 2, none⟩) (xs.length - (K + 1)) (kk - (K + 1)) = .slice (some ad) (xs.length - (K + 1)) (kk - (K + 1)) ∧ (kk ≠ K + 1 → ad = ⟨gL, (K + 1) * 2, none⟩) := by
            by_cases hq : kk = K + 1
            · exact ⟨_, by rw [if_pos hq], fun h => absurd hq h⟩
            · exact ⟨_, by rw [if_neg hq], fun _ => rfl⟩
          exact wp_value (.slice (if kk = K + 1 then some ⟨gL, 0, none⟩ else some ⟨gL, (K + 1) * 2, none⟩) (xs.length - (K + 1)) (kk - (K + 1))) (by unfold execOp; go_simp; try (intro hq; exact absurd hq (by omega))) ⟨_, rfl, h10, hT, fun j u _ _ hY => hY⟩
        | 11, ho =>
          obtain rfl := Option.some.inj ho
          have h38 : OL w5.heap.size gL (a9.tmps[38]?.getD undef) (xs.take K) wx := hf.1 ⟨6, .data⟩ (by simp) rfl _ 38 rfl rfl
          obtain ⟨ad, e42, had⟩ : ∃ ad, a9.tmps[42]?.getD undef = .slice (some ad) (xs.length - (K + 1)) (kk - (K + 1)) ∧ (kk ≠ K + 1 → ad = ⟨gL, (K + 1) * 2, none⟩) := hf.1 ⟨10, .data⟩ (by simp) rfl _ 42 rfl rfl
          obtain ⟨v38, e38⟩ : ∃ v, a9.tmps[38]?.getD undef = v := ⟨_, rfl⟩
          rw [e38] at h38
          have htl : (xs.take K).length = K := by rw [List.length_take]; omega
          refine Go.Proofs.YtohkllmhknjkoaaDoor.Apy.wp_append_all (.tmp 38) (.tmp 42) 32 rfl w5.heap.size 39 i0 (.agg #[.int .i64 0, .int .i64 0]) 2 16 Tryd.underlying32 hi hz0 hz1 hz2 rfl (by decide) v38 (xs.take K).length (flat (xs.take K)) (eval_get e38) h38.1 ad (xs.length - (K + 1)) (kk - (K + 1)) (flat (xs.drop (K + 1))) (eval_get e42) (by rw [flat_length, List.length_drop]) ?c1 (flat_one _) (by unfold maxLen; omega) (by omega) hT.1.bs ?c2
          case c1 =>
            intro j u hu
            rw [flat_drop, List.getElem?_drop] at hu
            have hj : (K + 1) * 2 + j < xs.length * 2 := by
              have := (List.getElem?_eq_some_iff.1 hu).1
              rw [flat_length] at this
              exact this
            have e := had (by omega)
            subst e
            exact (show wx.cell? ((⟨gL, (K + 1) * 2, none⟩ : Addr).add j) = _ from by rw [add_at]; exact (World.ownsRow.cellAt hT.2 ((K + 1) * 2 + j) hj)).trans hu
          case c2 =>
            intro v3 w9 hown3 hgrow3 hwhere3 hkeep
            have hb3 : ∀ q, v38.ownBlock = some q → w5.heap.size ≤ q := fun q hq => (h38.1.lt q hq).1
            refine ⟨v3, rfl, ⟨?_, ?_⟩, ⟨hT.1.grow hgrow3 hb3 (by omega) (by omega), hkeep _ _ _ _ hT.2 fun e => absurd e.symm h38.2⟩, fun j u hj hlj hY => ?_⟩
            · rw [List.length_append, List.length_drop, flat_app]; exact hown3
            · rcases hwhere3 with e | e
              · rw [e]; exact h38.2
              · rw [e]; have := (hT.2.lt gL rfl).2; simp; omega
            · match j, hj, hlj, hY with
              | 0, _, _, hY => exact hY
              | 1, _, _, hY => exact hY
              | 2, _, _, hY => exact ⟨hkeep _ _ _ _ hY.1 (fun _ => Nat.zero_le _), hY.2⟩
              | 3, _, _, hY => exact hY
              | 4, _, _, hY => exact hY
              | 5, _, _, hY => exact hY
              | 6, _, _, hY => exact ⟨hkeep _ _ _ _ hY.1 (fun _ => Nat.le_refl _), hY.2⟩
              | 7, _, _, hY => exact hY
              | 8, _, _, hY => exact hY
              | 9, _, _, hY => exact hY
              | 10, _, _, hY => exact hY
              | 11, hj, _, _ => exact absurd rfl hj
              | 12, _, _, _ => trivial
              | 13, _, _, hY => exact hY
              | 14, _, hlj, _ => rw [hcl 14 _ rfl hlj ⟨11, .data⟩ (by simp) rfl] at hli; cases hli
              | q + 15, _, _, _ => trivial
        | 12, ho =>
          obtain rfl := Option.some.inj ho
          have e32 : a9.tmps[32]?.getD undef = mtx a b t := hf.1 ⟨0, .data⟩ (by simp) rfl _ 32 rfl rfl
          have e2 : a9.tmps[2]?.getD undef = .pointer (some ⟨w.heap.size, 0, none⟩) := hf.2 2 (by kernel_rfl)
          obtain ⟨a0, b0, t0, q1, _⟩ := hT.1.res
          exact wp_store_row 26 (.tmp 2) (.tmp 32) rfl w.heap.size #[.int .i64 a, .int .i64 b, .string t] (eval_get e2) (eval_get e32) 26 _ q1 (minfo4 _ _ _) rfl (mone _ _ _) ⟨undef, rfl, trivial, ⟨hT.1.put (by omega), own_apt hT.2 (apt_row _ _ _) (by omega)⟩, fun j u _ _ hY => R9.keep (fun v n zs h => own_apt h (apt_row _ _ _) (by omega)) j u hY⟩
        | 13, ho =>
          obtain rfl := Option.some.inj ho
          have e33 : a9.tmps[33]?.getD undef = .int .i64 x := hf.1 ⟨1, .data⟩ (by simp) rfl _ 33 rfl rfl
          exact wp_value (.int .i64 x) (by unfold execOp; go_simp) ⟨_, rfl, rfl, hT, fun j u _ _ hY => hY⟩
        | 14, ho =>
          obtain rfl := Option.some.inj ho
          have h43 : OL w5.heap.size gL (a9.tmps[43]?.getD undef) (xs.take K ++ xs.drop (K + 1)) wx := hf.1 ⟨11, .data⟩ (by simp) rfl _ 43 rfl rfl
          obtain ⟨v43, e43⟩ : ∃ v, a9.tmps[43]?.getD undef = v := ⟨_, rfl⟩
          rw [e43] at h43
          exact wp_value (v43) (by unfold execOp; go_simp) ⟨_, rfl, h43, hT, fun j u _ _ hY => hY⟩
        | q + 15, ho => simp at ho
      case en =>
        intro vs w9 hT hall
        have e13 : vs 13 = .int .i64 x := hall 13 _ rfl
        have h14 : OL w5.heap.size gL (vs 14) (xs.take K ++ xs.drop (K + 1)) w9 := hall 14 _ rfl
        obtain ⟨a0, b0, t0, hres9, hst⟩ := hT.1.res
        obtain ⟨z1, z2, z3⟩ := hst rfl
        rw [z1, z2, z3] at hres9
        clear z1 z2 z3 hst
        obtain ⟨u, hu⟩ : ∃ u, vs 14 = u := ⟨_, rfl⟩
        rw [hu] at h14
        simp only [fill, Act.put]
        rw [e13, hu]
        obtain ⟨pu, ku, rfl⟩ := own_slice h14.1
        obtain ⟨nu, hnu⟩ : ∃ nu, nu = (xs.take K ++ xs.drop (K + 1)).length := ⟨_, rfl⟩
        rw [← hnu]
        have HOU := Lib.hid h14.1
        have HBW := Lib.hid hT.1.below
        clear h14 e13 hu HA8 HM8 HO8
        go_simp
        obtain ⟨o0, o1, o2⟩ : _ ∧ _ ∧ _ := ⟨cell_of_row _ _ 0 _ _ _ hres9, cell_of_row _ _ 1 _ _ _ hres9, cell_of_row _ _ 2 _ _ _ hres9⟩
        clear hres9 hT hall
        go_wp2_with fail
        refine bodyPost_ret (v := .tuple #[mtx a b t, .int .i64 x, .slice pu nu ku]) (by simp [results, Tryd.results23, go_sem, o0, o1, o2]; first | done | (rw [hnu]; simp)) rfl ⟨a, b, t, x, _, xs.take K ++ xs.drop (K + 1), rfl, HWA.out.1, HWA.out.2, HT.out, ⟨hx0, hx1⟩, by rw [List.length_append, List.length_take, List.length_drop]; omega, rv_own (by rw [hnu]; exact HOU.out) (by rw [List.length_append, List.length_take, List.length_drop]; omega), HBW.out⟩
  by_cases hk1 : pk = 1
  · subst hk1
    go_wp2_with fail
    refine wp_region_acts (fun j v _ wx => R11 a b t x w5.heap.size g (.slice pp xs.length kk) j v wx) (T11 w w3.heap.size a b t w5.heap.size (.slice pp xs.length kk) xs w.heap.size g (p2 + 1 + 1)) (by kernel_rfl) (by kernel_rfl) rfl ?t0 ?con ?en
    case t0 =>
      have hbd : Below w7.heap.size w7 { w7 with drawn := w7.drawn + 1 } := drawn_at w7 1
      exact ⟨Wd.on ⟨HA7.out.below HB1.out (by omega), by omega, HM7.out, 0, 0, ⟨#[]⟩, (HA7.out.block _ (Array.getElem?_eq_some_iff.1 HR1.out).1 (by omega)).trans HR1.out, fun e => by cases e⟩ hbd, fun _ => own_apt HO7.out (Apt.of_below (g := g) hbd) (by omega), _, fun _ => Nat.le_refl _, fun _ => by omega, HR7.out.later hbd⟩
    case con =>
      intro i oo ho a9 wx l hT hli hcl hdp hf
      have htl := HT.out
      match i, ho with
      | 0, ho =>
        obtain rfl := Option.some.inj ho
        have e6 : a9.tmps[6]?.getD undef = .pointer (some ⟨w3.heap.size, 0, none⟩) := hf.2 6 (by kernel_rfl)
        exact wp_load_row 26 (.tmp 6) rfl w3.heap.size (eval_get e6) 26 _ (0, 0) _ hT.1.mat Tryd.underlying26 rfl minfo ⟨_, rfl, rfl, hT, fun j u _ _ hY => hY⟩
      | 1, ho =>
        obtain rfl := Option.some.inj ho
        have e7 : a9.tmps[7]?.getD undef = .int .i64 x := hf.2 7 (by kernel_rfl)
        exact wp_value (.int .i64 x) (by unfold execOp; go_simp) ⟨_, rfl, rfl, hT, fun j u _ _ hY => hY⟩
      | 2, ho =>
        obtain rfl := Option.some.inj ho
        have e8 : a9.tmps[8]?.getD undef = .slice pp xs.length kk := hf.2 8 (by kernel_rfl)
        exact wp_value (.slice pp xs.length kk) (by unfold execOp; go_simp) ⟨_, rfl, rfl, hT, fun j u _ _ hY => hY⟩
      | 3, ho =>
        obtain rfl := Option.some.inj ho
        have e5 : a9.tmps[5]?.getD undef = .pointer (some ⟨g, 0, none⟩) := hf.2 5 (by kernel_rfl)
        exact wp_value (.pointer (some ⟨g, 0, none⟩)) (by unfold execOp; go_simp) ⟨_, rfl, rfl, hT, fun j u _ _ hY => hY⟩
      | 4, ho =>
        obtain rfl := Option.some.inj ho
        have e5 : a9.tmps[5]?.getD undef = .pointer (some ⟨g, 0, none⟩) := hf.2 5 (by kernel_rfl)
        exact wp_value (.pointer (some ⟨g, 0, none⟩)) (by unfold execOp; go_simp) ⟨_, rfl, rfl, hT, fun j u _ _ hY => hY⟩
      | 5, ho =>
        obtain rfl := Option.some.inj ho
        have e6 : a9.tmps[6]?.getD undef = .pointer (some ⟨w3.heap.size, 0, none⟩) := hf.2 6 (by kernel_rfl)
        exact wp_load_row 26 (.tmp 6) rfl w3.heap.size (eval_get e6) 26 _ (0, 0) _ hT.1.mat Tryd.underlying26 rfl minfo ⟨_, rfl, rfl, hT, fun j u _ _ hY => hY⟩
      | 6, ho =>
        obtain rfl := Option.some.inj ho
        have e50 : a9.tmps[50]?.getD undef = .pointer (some ⟨g, 0, none⟩) := hf.1 ⟨4, .data⟩ (by simp) rfl _ 50 rfl rfl
        have e51 : a9.tmps[51]?.getD undef = mtx a b t := hf.1 ⟨5, .data⟩ (by simp) rfl _ 51 rfl rfl
        obtain ⟨hW, hO, q, hq6, hq7, hrd⟩ := hT
        have hq := hq6 hli
        refine wp_enterP 63 #[.pointer (some ⟨g, 0, none⟩), mtx a b t] (fun v w' => (∃ y z, v = .agg #[.int .i64 y, .int .i64 z] ∧ W64 y ∧ W64 z) ∧ (∃ p', p' ≤ q + 10 ∧ Rdr w.heap.size w' g p') ∧ Apt g wx w') (by unfold execOp; go_simp) ((Go.Proofs.YtohkllmhknjkoaaDoor.Rd9.mono_rect g q (by omega) a b t (by omega) wx hrd).mono ?_) (fun v w' hh => ?_)
        · rintro e w' ⟨y, z, p', rfl, wy, wz, _, hp', hr', ha'⟩
          exact ⟨_, rfl, ⟨y, z, rfl, wy, wz⟩, ⟨p', hp', hr'⟩, ha'⟩
        · obtain ⟨hv, ⟨p', hp', hr'⟩, ha'⟩ := hh
          exact ⟨v, rfl, hv, ⟨hW.apt ha' (by omega) (by omega), fun h9 => own_apt (hO h9) ha' (by omega), p', fun h => (by cases h), fun _ => by omega, hr'⟩, fun j u _ _ hY => R11.apt ha' (by omega) j u hY⟩
      | 7, ho =>
        obtain rfl := Option.some.inj ho
        have e49 : a9.tmps[49]?.getD undef = .pointer (some ⟨g, 0, none⟩) := hf.1 ⟨3, .data⟩ (by simp) rfl _ 49 rfl rfl
        obtain ⟨y52, z52, e52, wy, wz⟩ : ∃ y z, a9.tmps[52]?.getD undef = .agg #[.int .i64 y, .int .i64 z] ∧ W64 y ∧ W64 z := hf.1 ⟨6, .data⟩ (by simp) rfl _ 52 rfl rfl
        obtain ⟨hW, hO, q, hq6, hq7, hrd⟩ := hT
        have hq := hq7 hli
        refine wp_enterP 62 #[.pointer (some ⟨g, 0, none⟩), .agg #[.int .i64 y52, .int .i64 z52]] (fun v w' => (∃ y z, v = .agg #[.int .i64 y, .int .i64 z] ∧ W64 y ∧ W64 z) ∧ (∃ p', p' ≤ q + 2 ∧ Rdr w.heap.size w' g p') ∧ Apt g wx w') (by unfold execOp; go_simp) ((bad_rect g q (by omega) y52 z52 wy wz wx hrd).mono ?_) (fun v w' hh => ?_)
        · rintro e w' ⟨y, z, p', rfl, wy, wz, _, hp', hr', ha'⟩
          exact ⟨_, rfl, ⟨y, z, rfl, wy, wz⟩, ⟨p', hp', hr'⟩, ha'⟩
        · obtain ⟨hv, ⟨p', hp', hr'⟩, ha'⟩ := hh
          exact ⟨v, rfl, hv, ⟨hW.apt ha' (by omega) (by omega), fun h9 => own_apt (hO h9) ha' (by omega), p', fun h => (by have h6 : l 6 = true := hdp ⟨6, .data⟩ (by simp) rfl; have h' : l 6 = false := h; rw [h6] at h'; cases h'), fun h => (by cases h), hr'⟩, fun j u _ _ hY => R11.apt ha' (by omega) j u hY⟩
      | 8, ho =>
        obtain rfl := Option.some.inj ho
        obtain ⟨y53, z53, e53, wy, wz⟩ : ∃ y z, a9.tmps[53]?.getD undef = .agg #[.int .i64 y, .int .i64 z] ∧ W64 y ∧ W64 z := hf.1 ⟨7, .data⟩ (by simp) rfl _ 53 rfl rfl
        obtain ⟨hW, hO, q, hq6, hq7, hrd⟩ := hT
        have h9 : l 9 = false := by
          cases h : l 9 with
          | false => rfl
          | true => rw [hcl 9 _ rfl h ⟨8, .data⟩ (by simp) rfl] at hli; cases hli
        have hbl : Below wx.heap.size wx (wx.alloc (.cells #[.int .i64 y53, .int .i64 z53] 39)) := (Below.refl _ _).alloc (Nat.le_refl _) _
        exact Go.Proofs.YtohkllmhknjkoaaDoor.Apx.wp_made (wx.alloc (.cells #[.int .i64 y53, .int .i64 z53] 39)) (.slice (some ⟨wx.heap.size, 0, none⟩) 1 1) (by unfold execOp; go_simp) ⟨_, rfl, ⟨wx.heap.size, y53, z53, rfl, hW.bs, fun e => (by have := ((hO h9).lt _ e.symm).2; omega), heap_alloc_new _ _⟩, ⟨hW.on hbl, fun h => own_apt (hO h) (Apt.of_below (g := g) hbl) (by omega), q, hq6, hq7, hrd.later hbl⟩, fun j u _ _ hY => R11.apt (Apt.of_below (g := g) hbl) (by omega) j u hY⟩
      | 9, ho =>
        obtain rfl := Option.some.inj ho
        have e48 : a9.tmps[48]?.getD undef = .slice pp xs.length kk := hf.1 ⟨2, .data⟩ (by simp) rfl _ 48 rfl rfl
        obtain ⟨qd, y54, z54, e54, hqB, hqL, hqh⟩ : ∃ q y z, a9.tmps[54]?.getD undef = .slice (some ⟨q, 0, none⟩) 1 1 ∧ w5.heap.size ≤ q ∧ some q ≠ (.slice pp xs.length kk : Value).ownBlock ∧ wx.heap[q]? = some (.cells #[.int .i64 y, .int .i64 z] 39 (0, 0)) := hf.1 ⟨8, .data⟩ (by simp) rfl _ 54 rfl rfl
        obtain ⟨hW, hO, q, hq6, hq7, hrd⟩ := hT
        have hL := hO hli
        refine Go.Proofs.YtohkllmhknjkoaaDoor.Apy.wp_append_all (.tmp 48) (.tmp 54) 32 rfl w5.heap.size 39 i0 (.agg #[.int .i64 0, .int .i64 0]) 2 16 Tryd.underlying32 hi hz0 hz1 hz2 rfl (by decide) (.slice pp xs.length kk) xs.length (flat xs) (eval_get e48) hL ⟨qd, 0, none⟩ 1 1 [.int .i64 y54, .int .i64 z54] (eval_get e54) rfl ?c1 (by simp [Value.oneCell']) (by unfold maxLen; omega) (by omega) hW.bs ?c2
        case c1 =>
          intro j u hu
          match j, hu with
          | 0, hu =>
            obtain rfl := Option.some.inj hu
            exact cell_of_row _ _ 0 _ _ _ hqh
          | 1, hu =>
            obtain rfl := Option.some.inj hu
            exact cell_of_row _ _ 1 _ _ _ hqh
          | j + 2, hu => simp at hu
        case c2 =>
          intro v3 w9 hown3 hgrow3 hwhere3 hkeep
          have hb3 : ∀ q, (.slice pp xs.length kk : Value).ownBlock = some q → w5.heap.size ≤ q := fun q hq => (hL.lt q hq).1
          refine ⟨v3, rfl, ⟨xs ++ [(y54, z54)], by simp; omega, by rw [List.length_append, flat_app]; exact hown3⟩, ⟨hW.grow hgrow3 hb3 (by omega) (by omega), fun h => (by cases h), q, hq6, hq7, rdr_grown hrd hgrow3 (fun q hq => by have := hb3 q hq; omega)⟩, fun j u hj hlj hY => ?_⟩
          match j, hj, hlj, hY with
          | 0, _, _, hY => exact hY
          | 1, _, _, hY => exact hY
          | 2, _, _, hY => exact hY
          | 3, _, _, hY => exact hY
          | 4, _, _, hY => exact hY
          | 5, _, _, hY => exact hY
          | 6, _, _, hY => exact hY
          | 7, _, _, hY => exact hY
          | 8, _, _, hY =>
            obtain ⟨q, y, z, rfl, h1, h2, h3⟩ := hY
            exact ⟨q, y, z, rfl, h1, h2, (hgrow3.block q (Array.getElem?_eq_some_iff.1 h3).1 h2).trans h3⟩
          | 9, hj, _, _ => exact absurd rfl hj
          | 10, _, _, _ => trivial
          | 11, _, _, hY => exact hY
          | 12, _, hlj, _ => rw [hcl 12 _ rfl hlj ⟨9, .data⟩ (by simp) rfl] at hli; cases hli
          | q + 13, _, _, _ => trivial
      | 10, ho =>
        obtain rfl := Option.some.inj ho
        have e46 : a9.tmps[46]?.getD undef = mtx a b t := hf.1 ⟨0, .data⟩ (by simp) rfl _ 46 rfl rfl
        have e2 : a9.tmps[2]?.getD undef = .pointer (some ⟨w.heap.size, 0, none⟩) := hf.2 2 (by kernel_rfl)
        obtain ⟨hW, hO, q, hq6, hq7, hrd⟩ := hT
        obtain ⟨a0, b0, t0, q1, _⟩ := hW.res
        exact wp_store_row 26 (.tmp 2) (.tmp 46) rfl w.heap.size #[.int .i64 a, .int .i64 b, .string t] (eval_get e2) (eval_get e46) 26 _ q1 (minfo4 _ _ _) rfl (mone _ _ _) ⟨undef, rfl, trivial, ⟨hW.put (by omega), fun h => own_apt (hO h) (apt_row _ _ _) (by omega), q, hq6, hq7, rdr_putRow hrd _ _ (by omega) (by omega)⟩, fun j u _ _ hY => R11.apt (apt_row _ _ _) (by omega) j u hY⟩
      | 11, ho =>
        obtain rfl := Option.some.inj ho
        have e47 : a9.tmps[47]?.getD undef = .int .i64 x := hf.1 ⟨1, .data⟩ (by simp) rfl _ 47 rfl rfl
        exact wp_value (.int .i64 x) (by unfold execOp; go_simp) ⟨_, rfl, rfl, hT, fun j u _ _ hY => hY⟩
      | 12, ho =>
        obtain rfl := Option.some.inj ho
        have h55 : ∃ ys : List (Int × Int), ys.length ≤ 300 ∧ wx.ownsRow w5.heap.size 39 2 (a9.tmps[55]?.getD undef) ys.length (flat ys) := hf.1 ⟨9, .data⟩ (by simp) rfl _ 55 rfl rfl
        obtain ⟨v55, e55⟩ : ∃ v, a9.tmps[55]?.getD undef = v := ⟨_, rfl⟩
        rw [e55] at h55
        exact wp_value (v55) (by unfold execOp; go_simp) ⟨_, rfl, h55, hT, fun j u _ _ hY => hY⟩
      | q + 13, ho => simp at ho
    case en =>
      intro vs w9 hT hall
      have e11 : vs 11 = .int .i64 x := hall 11 _ rfl
      obtain ⟨ys, hyl, hown9⟩ : ∃ ys : List (Int × Int), ys.length ≤ 300 ∧ w9.ownsRow w5.heap.size 39 2 (vs 12) ys.length (flat ys) := hall 12 _ rfl
      obtain ⟨a0, b0, t0, hres9, hst⟩ := hT.1.res
      obtain ⟨z1, z2, z3⟩ := hst rfl
      rw [z1, z2, z3] at hres9
      clear z1 z2 z3 hst
      obtain ⟨u, hu⟩ : ∃ u, vs 12 = u := ⟨_, rfl⟩
      rw [hu] at hown9
      simp only [fill, Act.put]
      rw [e11, hu]
      obtain ⟨pu, ku, rfl⟩ := own_slice hown9
      have HOU := Lib.hid hown9
      have HBW := Lib.hid hT.1.below
      clear hown9 e11 hu HA7 HM7 HO7 HR7
      go_simp
      obtain ⟨o0, o1, o2⟩ : _ ∧ _ ∧ _ := ⟨cell_of_row _ _ 0 _ _ _ hres9, cell_of_row _ _ 1 _ _ _ hres9, cell_of_row _ _ 2 _ _ _ hres9⟩
      clear hres9 hT hall
      go_wp2_with fail
      refine bodyPost_ret (v := .tuple #[mtx a b t, .int .i64 x, .slice pu ys.length ku]) (by simp [results, Tryd.results23, go_sem, o0, o1, o2]) rfl ⟨a, b, t, x, _, ys, rfl, HWA.out.1, HWA.out.2, HT.out, ⟨hx0, hx1⟩, by omega, rv_own HOU.out (by omega), HBW.out⟩
  · have hb0 : (pk == 0) = false := by rw [beq_eq_false_iff_ne]; exact hk0
    have hb1 : (pk == 1) = false := by rw [beq_eq_false_iff_ne]; exact hk1
    clear hk0 hk1
    have c0 : w7.cell? ⟨w3.heap.size, 0, none⟩ = some (.int .i64 a) := cell_of_row _ _ 0 _ _ _ HM7.out
    have c1 : w7.cell? ⟨w3.heap.size, 1, none⟩ = some (.int .i64 b) := cell_of_row _ _ 1 _ _ _ HM7.out
    have c2 : w7.cell? ⟨w3.heap.size, 2, none⟩ = some (.string t) := cell_of_row _ _ 2 _ _ _ HM7.out
    obtain ⟨o0, o1, o2, f0, f1, f2⟩ := cells3 ((HA7.out.block _ (Array.getElem?_eq_some_iff.1 HR1.out).1 (by omega)).trans HR1.out)
    go_wp2_with fail
    refine bodyPost_ret (v := .tuple #[mtx a b t, .int .i64 x, .slice pp xs.length kk]) (by simp [results, Tryd.results23, go_sem, o0, o1, o2]) rfl ⟨a, b, t, x, _, xs, rfl, HWA.out.1, HWA.out.2, HT.out, ⟨hx0, hx1⟩, by omega, ?_, ?_⟩
    · have hq := fun i y (wa : World) => Apt.setCell w.heap.size wa i y
      exact rv_own (own_apt HO7.out (((hq _ _ _).trans (hq _ _ _)).trans (hq _ _ _)) (by omega)) (by omega)
    · exact (((HA7.out.below HB1.out (by omega)).setCell (by simp) _).setCell (by simp) _).setCell (by simp) _
end Go.Proofs.YtohkllmhknjkoaaDoor.DrawIC

/-
  The drawing function DrawIsPartition.
-/
namespace Go.Proofs.YtohkllmhknjkoaaDoor.DrawIP
open Go Go.RowKit Go.Proofs.YtohkllmhknjkoaaDoor.Plain Go.Proofs.YtohkllmhknjkoaaDoor.Base Go.Proofs.YtohkllmhknjkoaaDoor.Valid Go.Proofs.YtohkllmhknjkoaaDoor.Rd Go.Proofs.YtohkllmhknjkoaaDoor.Rd2 Go.Proofs.YtohkllmhknjkoaaDoor.Rd3 Go.Proofs.YtohkllmhknjkoaaDoor.Rd4 Go.Proofs.YtohkllmhknjkoaaDoor.Rd5 Go.Proofs.YtohkllmhknjkoaaDoor.Rd6 Go.Proofs.YtohkllmhknjkoaaDoor.Rd7 Go.Proofs.YtohkllmhknjkoaaDoor.Entry Go.Proofs.YtohkllmhknjkoaaDoor.DrawIC Go.Proofs.YtohkllmhknjkoaaDoor.DrawT
open Go.Proofs.YtohkllmhknjkoaaDoor.Rects (RV)
open Go.Proofs.YtohkllmhknjkoaaDoor.Free (fill wp_value wp_enter wp_load_row freeB)
open Go.Proofs.YtohkllmhknjkoaaDoor.FreeM (wp_region_acts)
open Go.Proofs.YtohkllmhknjkoaaDoor.KeysI (infoK two_new flat)
set_option linter.unusedVariables false

/-- how it stands: the matrix' box, the result's, the reader, the list -/
structure IS (w : World) (b5 : Nat) (a b : Int) (t : ByteArray) (lo g p B : Nat) (v : Value) (xs : List (Int × Int)) (wr : World) : Prop where
  mat : wr.heap[b5]? = some (MO a b t)
  res : wr.heap[w.heap.size]? = some (MO 0 0 ⟨#[]⟩)
  rd : Rdr lo wr g p
  own : wr.ownsRow B 39 2 v xs.length (flat xs)
  below : Below w.heap.size w wr
  bs : B ≤ wr.heap.size
theorem IS.later {w wr w2 : World} {b5 : Nat} {a b : Int} {t : ByteArray} {lo g p B : Nat} {v : Value} {xs : List (Int × Int)} (h : IS w b5 a b t lo g p B v xs wr) (hb : Below wr.heap.size wr w2) (hg : g < B) : IS w b5 a b t lo g p B v xs w2 :=
  ⟨(hb.block _ (Array.getElem?_eq_some_iff.1 h.mat).1).trans h.mat, (hb.block _ (Array.getElem?_eq_some_iff.1 h.res).1).trans h.res, h.rd.later hb, own_apt h.own (Apt.of_below (g := g) hb) hg, h.below.trans (hb.mono h.below.size), Nat.le_trans h.bs hb.size⟩
theorem IS.apt {w wr w2 : World} {b5 : Nat} {a b : Int} {t : ByteArray} {lo g p q B : Nat} {v : Value} {xs : List (Int × Int)} (h : IS w b5 a b t lo g p B v xs wr) (ha : Apt g wr w2) (hr : Rdr lo w2 g q) (hg : g < B) (h5 : b5 ≠ g) (h2 : w.heap.size < g) : IS w b5 a b t lo g q B v xs w2 :=
  ⟨(ha.block _ (Array.getElem?_eq_some_iff.1 h.mat).1 h5).trans h.mat, (ha.block _ (Array.getElem?_eq_some_iff.1 h.res).1 (by omega)).trans h.res, hr, own_apt h.own ha hg, ha.below h.below (by omega), Nat.le_trans h.bs ha.size⟩
theorem IS.grow {w wr w2 : World} {b5 : Nat} {a b : Int} {t : ByteArray} {lo g p B : Nat} {v v2 : Value} {xs ys : List (Int × Int)} {row : Option Nat} (h : IS w b5 a b t lo g p B v xs wr) (hg : wr.grownBy w2 row) (hr : ∀ q, row = some q → B ≤ q) (ho : w2.ownsRow B 39 2 v2 ys.length (flat ys)) (h1 : w.heap.size < B) (h2 : b5 < B) (h3 : g < B) : IS w b5 a b t lo g p B v2 ys w2 :=
  ⟨(hg.block _ (Array.getElem?_eq_some_iff.1 h.mat).1 (fun e => by have := hr _ e.symm; omega)).trans h.mat, (hg.block _ (Array.getElem?_eq_some_iff.1 h.res).1 (fun e => by have := hr _ e.symm; omega)).trans h.res, rdr_grown h.rd hg (fun q hq => by have := hr q hq; omega), ho, h.below.grown hg h.below.size (fun k hk => by have := hr k hk; omega), Nat.le_trans h.bs hg.size⟩
theorem IS.cells {w wr : World} {b5 : Nat} {a b : Int} {t : ByteArray} {lo g p B : Nat} {v : Value} {xs : List (Int × Int)} (h : IS w b5 a b t lo g p B v xs wr) : wr.cell? ⟨b5, 0, none⟩ = some (.int .i64 a) ∧ wr.cell? ⟨b5, 1, none⟩ = some (.int .i64 b) ∧ wr.cell? ⟨b5, 2, none⟩ = some (.string t) :=
  ⟨cell_of_row _ _ 0 _ _ _ h.mat, cell_of_row _ _ 1 _ _ _ h.mat, cell_of_row _ _ 2 _ _ _ h.mat⟩

theorem IS.push {w WA w7 : World} {b5 : Nat} {a b : Int} {t : ByteArray} {lo g p B : Nat} {v v2 : Value} {xs : List (Int × Int)} {y z : Int} (h : IS w b5 a b t lo g p B v xs WA) (hg : (WA.alloc (.cells #[.int .i64 y, .int .i64 z] 39)).grownBy w7 v.ownBlock)
    (ho : w7.ownsRow B 39 2 v2 (xs.length + 1) (flat xs ++ [.int .i64 y, .int .i64 z])) (h1 : w.heap.size < B) (h2 : b5 < B) (h3 : g < B) : IS w b5 a b t lo g p B v2 (xs ++ [(y, z)]) w7 := by
  have hal : Below WA.heap.size WA (WA.alloc (.cells #[.int .i64 y, .int .i64 z] 39)) := (Below.refl _ _).alloc (Nat.le_refl _) _
  refine (h.later hal h3).grow hg (fun q hq => (h.own.lt q hq).1) ?_ h1 h2 h3
  rw [List.length_append, flat_app]
  exact ho
theorem flat_set : ∀ (xs : List (Int × Int)) (k : Nat) (y z : Int), k < xs.length → flat (xs.set k (y, z)) = ((flat xs).set (k * 2) (.int .i64 y)).set (k * 2 + 1) (.int .i64 z)
  | [], k, y, z, h => by simp at h
  | p :: r, 0, y, z, h => by simp [flat]
  | p :: r, k + 1, y, z, h => by
    have ih := flat_set r k y z (by simpa using h)
    have e3 : ∀ r, flat (p :: r) = Value.int .i64 p.1 :: Value.int .i64 p.2 :: flat r := fun r => by simp [flat]
    rw [List.set_cons_succ, e3, e3, ih, show (k + 1) * 2 = k * 2 + 1 + 1 by omega, List.set_cons_succ, List.set_cons_succ, List.set_cons_succ, List.set_cons_succ]
theorem own_set {w : World} {B g kk : Nat} {xs : List (Int × Int)} (h : w.ownsRow B 39 2 (.slice (some ⟨g, 0, none⟩) xs.length kk) xs.length (flat xs)) (K : Nat) (hK : K < xs.length) (y z : Int) :
    ((w.setCell ⟨g, K * 2, none⟩ (.int .i64 y)).setCell ⟨g, K * 2 + 1, none⟩ (.int .i64 z)).ownsRow B 39 2 (.slice (some ⟨g, 0, none⟩) xs.length kk) (xs.set K (y, z)).length (flat (xs.set K (y, z))) := by
  rcases h.2 with ⟨h1, _⟩ | ⟨q, cap, cur, h1, q1, q2, q3, q4, q5, q6⟩
  · cases h1
  · cases h1
    refine ⟨flat_length _, .inr ⟨g, kk, _, by rw [List.length_set], q1, heap_setCell_same _ _ _ _ _ _ (heap_setCell_same _ _ _ _ _ _ q2), by rw [List.length_set]; exact q3, q4, by simpa using q5, ?_⟩⟩
    rw [List.length_set, flat_set xs K y z hK, ← q6]
    simp
    rw [List.take_set, List.take_set]
theorem IS.cell {w wr : World} {b5 : Nat} {a b : Int} {t : ByteArray} {lo g p B gL kk : Nat} {xs : List (Int × Int)} (h : IS w b5 a b t lo g p B (.slice (some ⟨gL, 0, none⟩) xs.length kk) xs wr) (K : Nat) (hK : K < xs.length) :
    (∃ u, wr.cell? ⟨gL, K * 2, none⟩ = some u ∧ u.oneCell' = true) ∧ (∃ u, wr.cell? ⟨gL, K * 2 + 1, none⟩ = some u ∧ u.oneCell' = true) ∧ wr.frozen? ⟨gL, K * 2, none⟩ = false ∧ wr.frozen? ⟨gL, K * 2 + 1, none⟩ = false := by
  have hx := fun j (hj : j < xs.length * 2) => World.ownsRow.cellAt h.own j hj
  have hc : ∀ j, j < xs.length * 2 → ∃ u, wr.cell? ⟨gL, j, none⟩ = some u ∧ u.oneCell' = true := fun j hj => by
    rw [hx j hj]
    have hj2 : j < (flat xs).length := by rw [flat_length]; exact hj
    exact ⟨_, List.getElem?_eq_getElem hj2, flat_one xs _ (List.getElem_mem hj2)⟩
  refine ⟨hc _ (by omega), hc _ (by omega), ?_, ?_⟩
  all_goals
    rcases h.own.2 with ⟨h1, _⟩ | ⟨q, cap, cur, h1, q1, q2, q3⟩
    · cases h1
    · cases h1
      simp [World.frozen?, q2]
def R20 (B gL kk K : Nat) (xs : List (Int × Int)) : Nat → Value → World → Prop
  | 0, v, wx => OL B gL v [] wx
  | 1, v, _ => v = .slice (some ⟨gL, 0, none⟩) xs.length kk
  | 2, v, _ => v = .int .i64 (K : Int)
  | 3, v, _ => v = .slice (some ⟨gL, 0, none⟩) K kk
  | 4, v, wx => OL B gL v (xs.take K) wx
  | 5, v, _ => v = .slice (some ⟨gL, 0, none⟩) xs.length kk
  | 6, v, _ => v = .int .i64 (K : Int)
  | 7, v, _ => v = .int .i64 ((K : Int) + 1)
  | 8, v, _ => ∃ ad, v = .slice (some ad) (xs.length - (K + 1)) (kk - (K + 1)) ∧ (kk ≠ K + 1 → ad = ⟨gL, (K + 1) * 2, none⟩)
  | 9, v, wx => OL B gL v (xs.take K ++ xs.drop (K + 1)) wx
  | 10, v, wx => OL B gL v (xs.take K ++ xs.drop (K + 1)) wx
  | _, _, _ => True
theorem R20.keep {B gL kk K : Nat} {xs : List (Int × Int)} {wx w' : World} (hk : ∀ v n zs, wx.ownsRow B 39 2 v n zs → w'.ownsRow B 39 2 v n zs) : ∀ (j : Nat) (u : Value), R20 B gL kk K xs j u wx → R20 B gL kk K xs j u w'
  | 0, _, h => ⟨hk _ _ _ h.1, h.2⟩ | 1, _, h => h | 2, _, h => h | 3, _, h => h | 4, _, h => ⟨hk _ _ _ h.1, h.2⟩ | 5, _, h => h | 6, _, h => h | 7, _, h => h | 8, _, h => h
  | 9, _, h => ⟨hk _ _ _ h.1, h.2⟩ | 10, _, h => ⟨hk _ _ _ h.1, h.2⟩ | _ + 11, _, _ => trivial

set_option maxRecDepth 100000 in
set_option maxHeartbeats 8000000 in
theorem draw_any (v : Value) (n : Nat) (w : World) (h : ByteArg w v n) :
    Calls Tryd.prog 30 #[v] w fun e w' => ∃ (a b : Int) (t : ByteArray) (u : Value) (xs : List (Int × Int)), e = .returned (.tuple #[mtx a b t, u]) ∧ W64 a ∧ W64 b ∧ t.size ≤ 100 ∧ xs.length ≤ 1000 ∧ RV w' w'.heap.size u xs ∧ Below w.heap.size w w' := by
  obtain ⟨i0, hi, hz0, hz1, hz2⟩ := info_parts infoK
  have hbr : Below w.heap.size w (w.alloc (.cells #[.int .i64 0, .int .i64 0, .string ⟨#[]⟩] 26)) := (Below.refl _ _).alloc (Nat.le_refl _) _
  have HO := Lib.hid (open_lo v n _ (h.later hbr) (lo_of h))
  have HBR := Lib.hid hbr
  clear h hbr
  go_enter Tryd.func30, Tryd.ntmps30
  go_wp2_with fail
  refine HO.out.mono ?_
  rintro e w1 ⟨g, rfl, hr, hb, hg⟩
  have hg0 : w.heap.size < g := by simp at hg; omega
  have hg1 := hr.lt
  have hres : w1.heap[w.heap.size]? = some (MO 0 0 ⟨#[]⟩) := (hb.block _ (by simp)).trans (heap_alloc_new w _)
  have HB1 : Hid (Below w.heap.size w w1) := HBR.out.trans (hb.mono (by simp))
  have HD := Lib.hid (draw_matV g 0 (by omega) 4 (by omega) (by omega) w1 hr)
  have HR1 := Lib.hid hres
  clear hr hb hg hres HO HBR
  go_wp2_with fail
  refine HD.out.mono ?_
  rintro e w2 ⟨a, b, t, p1, rfl, ha, hb, hsz, hp0, hp1, hr2, ha2⟩
  obtain ⟨R, C, E, rfl, rfl, h1, h2, h3, h4, rfl⟩ := valid_form hsz.2
  have hs2 := ha2.size
  have hts : 1 ≤ (str (rowsB E R C)).size ∧ (str (rowsB E R C)).size ≤ 64 := by have := hsz.1; exact ⟨by omega, by omega⟩
  have HCO := Lib.hid (fun S hS bt W => Go.Proofs.YtohkllmhknjkoaaDoor.Cols.cols_any E R C h1 h2 h3 h4 S hS bt W)
  obtain ⟨B, hB⟩ : ∃ B, w2.heap.size + 1 = B := ⟨_, rfl⟩
  have hbm : Below w2.heap.size w2 (w2.alloc (MO R C (str (rowsB E R C)))) := (Below.refl _ _).alloc (Nat.le_refl _) _
  have HS : Hid (∃ W, (w2.alloc (MO R C (str (rowsB E R C)))).alloc (.cells #[] 39) = W ∧ W.heap.size = B + 1 ∧ IS w w2.heap.size R C (str (rowsB E R C)) w.heap.size g p1 B (.slice (some ⟨B, 0, none⟩) 0 0) [] W) := by
    refine ⟨_, rfl, by simp; omega, ?_⟩
    have hb2 : Below w2.heap.size w2 ((w2.alloc (MO R C (str (rowsB E R C)))).alloc (.cells #[] 39)) := hbm.trans ((Below.refl _ _).alloc (by simp) _)
    refine ⟨?_, (hb2.block _ (by omega)).trans ((ha2.block _ (by omega) (by omega)).trans HR1.out), hr2.later hb2, ?_, (ha2.below HB1.out (by omega)).trans (hb2.mono (by omega)), by simp; omega⟩
    · exact (Below.heap_alloc _ _ _ (by simp)).trans (heap_alloc_new w2 _)
    · have := World.ownsRow_made (w2.alloc (MO R C (str (rowsB E R C)))) (base := B) (e := 39) (size := 2) #[] 0 (by simp; omega) (by decide) rfl
      rw [World.size_alloc, hB] at this
      exact this
  clear hb hsz hr2 ha2 HD hbm
  go_wp2_with fail
  obtain ⟨W3, hW3, hsz3, HIS⟩ := HS.out
  first | rw [hB] | skip
  first | rw [hW3] | skip
  clear hW3 HS
  obtain ⟨s, hs⟩ : ∃ s, str (rowsB E R C) = s := ⟨_, rfl⟩
  rw [hs] at HIS HCO hts
  first | rw [hs] | skip
  have HS0 := Lib.hid HIS
  clear hs HIS HR1
  go_loopw [6, 7] (fun l x wr => ∃ (i : Nat) (xs : List (Int × Int)), i ≤ R ∧ x = .int .i64 (i : Int) ∧ xs.length ≤ 2 * i ∧ (1 ≤ i → 1 ≤ xs.length) ∧ Hid (IS w w2.heap.size R C s w.heap.size g p1 B l xs wr)) (fun _ x _ => R - (intOf x).toNat)
  case atStart => exact ⟨0, [], Nat.zero_le _, rfl, by simp, fun h => by omega, HS0⟩
  case round =>
    obtain ⟨i, xs, hi1, rfl, hxl, hx1, HI⟩ := hrel
    clear HS0
    obtain ⟨d0, d1, d2⟩ := HI.out.cells
    by_cases hlt : i < R
    · have hS8 : 2 ^ i < 256 := Nat.lt_of_lt_of_le (Nat.pow_lt_pow_right (by decide) (show i < 8 by omega)) (by decide)
      have hw1 : IntKind.i64.wrap (2 ^ i) = ((2 ^ i : Nat) : Int) := (Go.Proofs.YtohkllmhknjkoaaDoor.RValid.pow8 i (by omega)).1
      have HCI := Lib.hid (fun bt W => HCO.out (2 ^ i) hS8 bt W)
      have HNE : Hid ((Go.Proofs.YtohkllmhknjkoaaDoor.Pat.setB (fun y => Go.Proofs.YtohkllmhknjkoaaDoor.Cols.allTo E (2 ^ i) false y R) C) ≠ 0 ∨ (Go.Proofs.YtohkllmhknjkoaaDoor.Pat.setB (fun y => Go.Proofs.YtohkllmhknjkoaaDoor.Cols.allTo E (2 ^ i) true y R) C) ≠ 0) := by
        have hbit : ∀ x, (2 ^ i).testBit x = true → x = i := fun x hx => by
          rw [Nat.testBit_two_pow] at hx
          exact (of_decide_eq_true hx).symm
        have key : ∀ bt, E i 0 = bt → (Go.Proofs.YtohkllmhknjkoaaDoor.Pat.setB (fun y => Go.Proofs.YtohkllmhknjkoaaDoor.Cols.allTo E (2 ^ i) bt y R) C) ≠ 0 := fun bt hbt h0 => by
          have hb := Go.Proofs.YtohkllmhknjkoaaDoor.Pat.setB_bit (fun y => Go.Proofs.YtohkllmhknjkoaaDoor.Cols.allTo E (2 ^ i) bt y R) 0 C
          rw [h0, Nat.zero_testBit, decide_eq_true (show 0 < C by omega), Bool.true_and] at hb
          have ha := (Go.Proofs.YtohkllmhknjkoaaDoor.Cols.allTo_iff E (2 ^ i) bt 0 R).2 fun x _ hx => by rw [hbit x hx]; exact hbt
          have hb2 : false = Go.Proofs.YtohkllmhknjkoaaDoor.Cols.allTo E (2 ^ i) bt 0 R := hb
          rw [ha] at hb2
          cases hb2
        cases h : E i 0 with
        | false => exact .inl (key false h)
        | true => exact .inr (key true h)
      generalize 2 ^ i = u at *
      obtain ⟨cv, hcv⟩ : ∃ cv : Bool → Nat, (fun bt => Go.Proofs.YtohkllmhknjkoaaDoor.Pat.setB (fun y => Go.Proofs.YtohkllmhknjkoaaDoor.Cols.allTo E u bt y R) C) = cv := ⟨_, rfl⟩
      have HCC : Hid (∀ bt W, Calls Tryd.prog 82 #[mat R C s, .int .i64 (u : Int), .int .i64 (bitI bt)] W fun e w' => e = .returned (.int .i64 ((cv bt : Nat) : Int)) ∧ Below W.heap.size W w') := by rw [← hcv]; exact HCI.out
      have HNN : Hid (cv false ≠ 0 ∨ cv true ≠ 0) := by rw [← hcv]; exact HNE.out
      clear hcv HCI HNE
      obtain ⟨p0, k0, hq0⟩ := own_slice HI.out.own
      subst hq0
      go_wp2_with fail
      clear d0 d1 d2
      go_loopw [6, 8] (fun l y wr => ∃ (k : Nat) (ys : List (Int × Int)), k ≤ 2 ∧ y = .int .i64 (k : Int) ∧ ys.length ≤ 2 * i + k ∧ (1 ≤ k → ys.length = 0 → cv false = 0) ∧ (2 ≤ k → ys.length = 0 → cv true = 0) ∧ Hid (IS w w2.heap.size R C s w.heap.size g p1 B l ys wr)) (fun _ y _ => 2 - (intOf y).toNat)
      case atStart => exact ⟨0, xs, by omega, rfl, by omega, fun h => by omega, fun h => by omega, HI⟩
      case round =>
        obtain ⟨k, ys, hk, rfl, hyl, hy0, hy1, HQ⟩ := hrel
        clear HI
        obtain ⟨p1', k1', hq1⟩ := own_slice HQ.out.own
        subst hq1
        obtain ⟨d0, d1, d2⟩ := HQ.out.cells
        by_cases hkt : k < 2
        · obtain ⟨bt, hbt, hb0, hb1⟩ : ∃ bt, (k : Int) = bitI bt ∧ (k = 0 → bt = false) ∧ (k = 1 → bt = true) := by
            have : k = 0 ∨ k = 1 := by omega
            rcases this with rfl | rfl
            · exact ⟨false, rfl, fun _ => rfl, fun h => by omega⟩
            · exact ⟨true, rfl, fun h => by omega, fun _ => rfl⟩
          have HC1 : Hid (∀ W, Calls Tryd.prog 82 #[mat R C s, .int .i64 (u : Int), .int .i64 (k : Int)] W fun e w' => e = .returned (.int .i64 ((cv bt : Nat) : Int)) ∧ Below W.heap.size W w') := by rw [hbt]; exact HCC.out bt
          obtain ⟨c, hc⟩ : ∃ c, cv bt = c := ⟨_, rfl⟩
          have HZ0 : Hid (1 ≤ k + 1 → ys.length = 0 → c = 0 → cv false = 0) := fun _ h2 h3 => by
            by_cases hk0 : k = 0
            · rw [hb0 hk0] at hc; omega
            · exact hy0 (by omega) h2
          have HZ1 : Hid (2 ≤ k + 1 → ys.length = 0 → c = 0 → cv true = 0) := fun _ h2 h3 => by
            rw [hb1 (by omega)] at hc; omega
          rw [hc] at HC1
          clear hbt hb0 hb1 hc hy0 hy1
          go_wp2_with fail
          refine (HC1.out _).mono ?_
          rintro e WA ⟨rfl, hbA⟩
          have HA := Lib.hid (HQ.out.later hbA (by omega))
          clear hbA HQ HC1 d0 d1 d2
          by_cases hc0 : c = 0
          · have hcb : decide (0 < (c : Int)) = false := decide_eq_false (by omega)
            go_wp2_with fail
            go_roundw
            case rel => exact ⟨k + 1, ys, by omega, by go_num, by omega, fun h1 h2 => HZ0.out h1 h2 hc0, fun h1 h2 => HZ1.out h1 h2 hc0, HA⟩
            case measure => simp [intOf]; omega
          · have hcb : decide (0 < (c : Int)) = true := decide_eq_true (by omega)
            have HOWN := Lib.hid HA.out.own
            have hbsA := HA.out.bs
            go_wp2_with (at_builtin; have HH := HOWN.out; refine wpList_append_own _ rfl (.tmp 34) (.tmp 40) 32 rfl B 39 i0 (.agg #[.int .i64 0, .int .i64 0]) 2 16 Tryd.underlying32 hi hz0 hz1 hz2 rfl (by decide) _ _ _ rfl (HH.alloc _) ⟨WA.heap.size, 0, none⟩ 1 1 [.int .i64 (u : Int), .int .i64 (c : Int)] rfl rfl ?c1 ?c2 ?c3 ?c4 ?c5 ?c6; go_must (case c1 => exact (two_new _ _ _ _)); go_must (case c2 => simp [Value.oneCell']); go_must (case c3 => unfold maxLen; omega); go_must (case c4 => omega); go_must (case c5 => simp; omega); go_must (clear HH; intro v' w7 hown7 hgrow7 hnil7; have HO7 := Lib.hid hown7; have HG7 := Lib.hid hgrow7; clear hown7 hgrow7 hnil7))
            have HN : Hid (IS w w2.heap.size R C s w.heap.size g p1 B v' (ys ++ [((u : Int), (c : Int))]) w7) := by
              have hal : Below WA.heap.size WA (WA.alloc (.cells #[.int .i64 (u : Int), .int .i64 (c : Int)] 39)) := (Below.refl _ _).alloc (Nat.le_refl _) _
              refine (HA.out.later hal (by omega)).grow HG7.out (fun q hq => (HOWN.out.lt q hq).1) ?_ (by omega) (by omega) (by omega)
              rw [List.length_append, flat_app]
              exact HO7.out
            clear HO7 HG7 HOWN
            first | (go_wp2_with fail) | skip
            go_roundw
            case rel => exact ⟨k + 1, _, by omega, by go_num, by simp; omega, fun _ h => by simp at h, fun _ h => by simp at h, HN⟩
            case measure => simp [intOf]; omega
        · obtain rfl : k = 2 := by omega
          have hne : 1 ≤ ys.length := by
            rcases Nat.eq_zero_or_pos ys.length with h | h
            · rcases HNN.out with h2 | h2
              · exact absurd (hy0 (by omega) h) h2
              · exact absurd (hy1 (by omega) h) h2
            · exact h
          clear hy0 hy1
          go_wp2_with fail
          clear d0 d1 d2
          go_roundw
          case rel => exact ⟨i + 1, ys, by omega, by go_num, by omega, fun _ => hne, HQ⟩
          case measure => simp [intOf]; omega
    · obtain rfl : R = i := by omega
      have hpos := hx1 (by omega)
      obtain ⟨gL, k0, hq0, hLe, hgL⟩ : ∃ gL k0, _ = Value.slice (some ⟨gL, 0, none⟩) xs.length k0 ∧ xs.length ≤ k0 ∧ B ≤ gL := by
        rcases HI.out.own.2 with ⟨e1, e2⟩ | ⟨q, cap, cur, e1, q1, q2, q3, q4⟩
        · omega
        · exact ⟨q, cap, e1, q3, q1⟩
      subst hq0
      have HP := Lib.hid (pick_r g p1 (by omega) (xs.length : Int) _ HI.out.rd)
      go_wp2_with fail
      clear d0 d1 d2
      refine HP.out.mono ?_
      rintro e w8 ⟨kx, rfl, hk8, hk9, hr8, ha8⟩
      have H8 := Lib.hid (HI.out.apt ha8 hr8 (by omega) (by omega) (by omega))
      obtain ⟨K, rfl⟩ : ∃ K : Nat, kx = K := ⟨kx.toNat, by omega⟩
      have hK : K < xs.length := by omega
      have HP5 := Lib.hid (pick_r g (p1 + 1) (by omega) 5 w8 hr8)
      clear hr8 ha8 HI HP hk8 hk9
      go_wp2_with fail
      refine HP5.out.mono ?_
      rintro e w9 ⟨pk, rfl, _, _, hr9, ha9⟩
      have H9 := Lib.hid (H8.out.apt ha9 hr9 (by omega) (by omega) (by omega))
      clear hr9 ha9 H8 HP5
      by_cases hk0 : pk = 0
      · subst hk0
        have HD := Lib.hid (draw_rect8 g (p1 + 1 + 1) (by omega) R C (by omega) (by omega) (by omega) (by omega) s w9 H9.out.rd)
        obtain ⟨d0, d1, d2⟩ := H9.out.cells
        go_wp2_with fail
        refine HD.out.mono ?_
        rintro e w10 ⟨y, z, rfl, hy, hz, hr10, ha10⟩
        have H10 := Lib.hid (H9.out.apt ha10 hr10 (by omega) (by omega) (by omega))
        have HBR := Lib.hid (bad_rect g (p1 + 1 + 1 + 2) (by omega) y z ⟨by omega, by omega⟩ ⟨by omega, by omega⟩ w10 hr10)
        clear hr10 ha10 H9 HD d0 d1 d2
        go_wp2_with fail
        refine HBR.out.mono ?_
        rintro e w11 ⟨y2, z2, pb, rfl, _, _, hpb0, hpb1, hr11, ha11⟩
        have H11 := Lib.hid (H10.out.apt ha11 hr11 (by omega) (by omega) (by omega))
        obtain ⟨⟨u0, c0, _⟩, ⟨u1, c1, _⟩, f0, f1⟩ := H11.out.cell K hK
        clear hr11 ha11 H10 HBR
        have hKi : (K : Int) < (xs.length : Int) := by omega
        have hK0 : (0 : Int) ≤ (K : Int) := by omega
        obtain ⟨d0, d1, d2⟩ := H11.out.cells
        have hne1 : ¬ gL = w2.heap.size := by omega
        have hne2 : ¬ w2.heap.size = gL := by omega
        go_wp2_with fail
        clear c0 c1 f0 f1 d0 d1 d2
        have H12 : Hid (IS w w2.heap.size R C s w.heap.size g pb B (.slice (some ⟨gL, 0, none⟩) (xs.set K (y2, z2)).length k0) (xs.set K (y2, z2)) ((w11.setCell ⟨gL, K * 2, none⟩ (.int .i64 y2)).setCell ⟨gL, K * 2 + 1, none⟩ (.int .i64 z2))) := by
          have hq := fun i y (wa : World) => Apt.setCell gL wa i y
          have ha := (hq (K * 2) (.int .i64 y2) w11).trans (hq (K * 2 + 1) (.int .i64 z2) _)
          refine ⟨(ha.block _ (Array.getElem?_eq_some_iff.1 H11.out.mat).1 (by omega)).trans H11.out.mat, (ha.block _ (Array.getElem?_eq_some_iff.1 H11.out.res).1 (by omega)).trans H11.out.res, rdr_put (rdr_put H11.out.rd _ _ _ (by omega) (by omega)) _ _ _ (by omega) (by omega), ?_, ha.below H11.out.below (by omega), by simpa using H11.out.bs⟩
          have := own_set H11.out.own K hK y2 z2
          rw [List.length_set] at this ⊢
          exact this
        generalize hW : (w11.setCell ⟨gL, K * 2, none⟩ (.int .i64 y2)).setCell ⟨gL, K * 2 + 1, none⟩ (.int .i64 z2) = w12 at *
        rw [List.length_set] at H12
        clear H11 hW
        have HBD := Lib.hid (bad_mat g (pb) (by omega) R C s (by omega) (by omega) ⟨by omega, by omega⟩ hts.1 hts.2 _ H12.out.rd)
        refine HBD.out.mono ?_
        rintro e wz ⟨az, bz, tz, pz2, rfl, wza, wzb, htz, _, _, hrz, haz⟩
        have HZ := Lib.hid (H12.out.apt haz hrz (by omega) (by omega) (by omega))
        have HWZ := Lib.hid (And.intro wza (And.intro wzb htz))
        obtain ⟨o0, o1, o2, f0, f1, f2⟩ := cells3 HZ.out.res
        clear wza wzb htz hrz haz HBD
        try clear d0 d1 d2
        go_wp2_with fail
        refine bodyPost_ret (v := .tuple #[mtx az bz tz, .slice (some ⟨gL, 0, none⟩) xs.length k0]) (by simp [results, Tryd.results30, go_sem, o0, o1, o2]) rfl ⟨az, bz, tz, _, xs.set K (y2, z2), rfl, HWZ.out.1, HWZ.out.2.1, HWZ.out.2.2, by rw [List.length_set]; omega, ?_, ?_⟩
        · have hq := fun i y (wa : World) => Apt.setCell w.heap.size wa i y
          exact rv_own (own_apt (by rw [List.length_set]; exact (by have := HZ.out.own; rw [List.length_set] at this; exact this)) (((hq _ _ _).trans (hq _ _ _)).trans (hq _ _ _)) (by omega)) (by rw [List.length_set]; omega)
        · exact ((HZ.out.below.setCell (by simp) _).setCell (by simp) _).setCell (by simp) _
      by_cases hk1 : pk = 1
      · subst hk1
        have HMR := Lib.hid (Go.Proofs.YtohkllmhknjkoaaDoor.Rd9.mono_rect g (p1 + 1 + 1) (by omega) R C s (by omega) w9 H9.out.rd)
        obtain ⟨d0, d1, d2⟩ := H9.out.cells
        go_wp2_with fail
        refine HMR.out.mono ?_
        rintro e WA ⟨y, z, pb, rfl, _, _, hpb0, hpb1, hr10, ha10⟩
        have H10 := Lib.hid (H9.out.apt ha10 hr10 (by omega) (by omega) (by omega))
        have HOWN := Lib.hid H10.out.own
        have hbsA := H10.out.bs
        clear hr10 ha10 H9 HMR d0 d1 d2
        go_wp2_with (at_builtin; have HH := HOWN.out; refine wpList_append_own _ rfl (.tmp 60) (.tmp 64) 32 rfl B 39 i0 (.agg #[.int .i64 0, .int .i64 0]) 2 16 Tryd.underlying32 hi hz0 hz1 hz2 rfl (by decide) _ _ _ rfl (HH.alloc _) ⟨WA.heap.size, 0, none⟩ 1 1 [.int .i64 y, .int .i64 z] rfl rfl ?k1 ?k2 ?k3 ?k4 ?k5 ?k6; go_must (case k1 => exact (two_new _ _ _ _)); go_must (case k2 => simp [Value.oneCell']); go_must (case k3 => unfold maxLen; omega); go_must (case k4 => omega); go_must (case k5 => simp; omega); go_must (clear HH; intro v' w7 hown7 hgrow7 hnil7; have HN := Lib.hid (H10.out.push hgrow7 hown7 (by omega) (by omega) (by omega)); clear hown7 hgrow7 hnil7; obtain ⟨d0, d1, d2⟩ := HN.out.cells))
        clear HOWN H10
        have HBD := Lib.hid (bad_mat g (pb) (by omega) R C s (by omega) (by omega) ⟨by omega, by omega⟩ hts.1 hts.2 _ HN.out.rd)
        refine HBD.out.mono ?_
        rintro e wz ⟨az, bz, tz, pz2, rfl, wza, wzb, htz, _, _, hrz, haz⟩
        have HZ := Lib.hid (HN.out.apt haz hrz (by omega) (by omega) (by omega))
        have HWZ := Lib.hid (And.intro wza (And.intro wzb htz))
        obtain ⟨o0, o1, o2, f0, f1, f2⟩ := cells3 HZ.out.res
        clear wza wzb htz hrz haz HBD
        try clear d0 d1 d2
        go_wp2_with fail
        refine bodyPost_ret (v := .tuple #[mtx az bz tz, v']) (by simp [results, Tryd.results30, go_sem, o0, o1, o2]) rfl ⟨az, bz, tz, _, xs ++ [(y, z)], rfl, HWZ.out.1, HWZ.out.2.1, HWZ.out.2.2, by simp; omega, ?_, ?_⟩
        · have hq := fun i y (wa : World) => Apt.setCell w.heap.size wa i y
          exact rv_own (own_apt HZ.out.own (((hq _ _ _).trans (hq _ _ _)).trans (hq _ _ _)) (by omega)) (by simp; omega)
        · exact ((HZ.out.below.setCell (by simp) _).setCell (by simp) _).setCell (by simp) _
      by_cases hk2 : pk = 2
      · have hk2 : pk = 2 := hk2
        subst hk2
        go_wp2_with fail
        refine wp_region_acts (fun j v _ wx => R20 B gL k0 K xs j v wx) (fun _ wx => IS w w2.heap.size R C s w.heap.size g (p1 + 1 + 1) B (.slice (some ⟨gL, 0, none⟩) xs.length k0) xs wx) (by kernel_rfl) (by kernel_rfl) rfl ?t0 ?con ?en
        case t0 => exact H9.out.later (drawn_at w9 1) (by omega)
        case con =>
          intro i oo ho a9 wx l hT hli hcl hdp hf
          match i, ho with
          | 0, ho =>
            obtain rfl := Option.some.inj ho
            have hbl : Below wx.heap.size wx (wx.alloc (.cells #[] 39)) := (Below.refl _ _).alloc (Nat.le_refl _) _
            have hgl : gL < wx.heap.size := (hT.own.lt gL rfl).2
            exact Go.Proofs.YtohkllmhknjkoaaDoor.Apx.wp_made (wx.alloc (.cells #[] 39)) (.slice (some ⟨wx.heap.size, 0, none⟩) 0 0) (by unfold execOp; go_simp) ⟨_, rfl, ⟨World.ownsRow_made wx #[] 0 hT.bs (by decide) rfl, by simp [Value.ownBlock]; omega⟩, hT.later hbl (by omega), fun j u _ _ hY => R20.keep (fun v n zs h => own_apt h (Apt.of_below (g := g) hbl) (by omega)) j u hY⟩
          | 1, ho =>
            obtain rfl := Option.some.inj ho
            have e6 : a9.tmps[6]?.getD undef = .slice (some ⟨gL, 0, none⟩) xs.length k0 := hf.2 6 (fun j oj hj hl hd => by
              match j, hj, hl with
              | 0, hj, hl => obtain rfl := Option.some.inj hj; simp at hd
              | 1, hj, hl => obtain rfl := Option.some.inj hj; simp at hd
              | 2, hj, hl => obtain rfl := Option.some.inj hj; simp at hd
              | 3, hj, hl => obtain rfl := Option.some.inj hj; simp at hd
              | 4, hj, hl => obtain rfl := Option.some.inj hj; simp at hd
              | 5, hj, hl => obtain rfl := Option.some.inj hj; simp at hd
              | 6, hj, hl => obtain rfl := Option.some.inj hj; simp at hd
              | 7, hj, hl => obtain rfl := Option.some.inj hj; simp at hd
              | 8, hj, hl => obtain rfl := Option.some.inj hj; simp at hd
              | 9, hj, hl => obtain rfl := Option.some.inj hj; simp at hd
              | 10, hj, hl => rw [hcl 3 _ rfl (hcl 4 _ rfl (hcl 9 _ rfl (hcl 10 _ rfl hl ⟨9, .data⟩ (by simp) rfl) ⟨4, .data⟩ (by simp) rfl) ⟨3, .data⟩ (by simp) rfl) ⟨1, .data⟩ (by simp) rfl] at hli; cases hli
              | q + 11, hj, hl => simp at hj)
            exact wp_value (.slice (some ⟨gL, 0, none⟩) xs.length k0) (by unfold execOp; go_simp) ⟨_, rfl, rfl, hT, fun j u _ _ hY => hY⟩
          | 2, ho =>
            obtain rfl := Option.some.inj ho
            have e10 : a9.tmps[10]?.getD undef = .int .i64 (K : Int) := hf.2 10 (fun j oj hj hl hd => by
              match j, hj with
              | 0, hj => obtain rfl := Option.some.inj hj; simp at hd
              | 1, hj => obtain rfl := Option.some.inj hj; simp at hd
              | 2, hj => obtain rfl := Option.some.inj hj; simp at hd
              | 3, hj => obtain rfl := Option.some.inj hj; simp at hd
              | 4, hj => obtain rfl := Option.some.inj hj; simp at hd
              | 5, hj => obtain rfl := Option.some.inj hj; simp at hd
              | 6, hj => obtain rfl := Option.some.inj hj; simp at hd
              | 7, hj => obtain rfl := Option.some.inj hj; simp at hd
              | 8, hj => obtain rfl := Option.some.inj hj; simp at hd
              | 9, hj => obtain rfl := Option.some.inj hj; simp at hd
              | 10, hj => obtain rfl := Option.some.inj hj; simp at hd
              | q + 11, hj => simp at hj)
            exact wp_value (.int .i64 (K : Int)) (by unfold execOp; go_simp) ⟨_, rfl, rfl, hT, fun j u _ _ hY => hY⟩
          | 3, ho =>
            obtain rfl := Option.some.inj ho
            have e69 : a9.tmps[69]?.getD undef = .slice (some ⟨gL, 0, none⟩) xs.length k0 := hf.1 ⟨1, .data⟩ (by simp) rfl _ 69 rfl rfl
            have e70 : a9.tmps[70]?.getD undef = .int .i64 (K : Int) := hf.1 ⟨2, .data⟩ (by simp) rfl _ 70 rfl rfl
            have q1 : (K : Int) ≤ (k0 : Int) := by omega
            have q0 : (0 : Int) ≤ (K : Int) := by omega
            have q2 : ¬ k0 < K := by omega
            exact wp_value (.slice (some ⟨gL, 0, none⟩) K k0) (by unfold execOp; go_simp) ⟨_, rfl, rfl, hT, fun j u _ _ hY => hY⟩
          | 4, ho =>
            obtain rfl := Option.some.inj ho
            have h68 : OL B gL (a9.tmps[68]?.getD undef) [] wx := hf.1 ⟨0, .data⟩ (by simp) rfl _ 68 rfl rfl
            have e71 : a9.tmps[71]?.getD undef = .slice (some ⟨gL, 0, none⟩) K k0 := hf.1 ⟨3, .data⟩ (by simp) rfl _ 71 rfl rfl
            obtain ⟨v34, e34⟩ : ∃ v, a9.tmps[68]?.getD undef = v := ⟨_, rfl⟩
            rw [e34] at h68
            have htl : (xs.take K).length = K := by rw [List.length_take]; omega
            refine Go.Proofs.YtohkllmhknjkoaaDoor.Apy.wp_append_all (.tmp 68) (.tmp 71) 32 rfl B 39 i0 (.agg #[.int .i64 0, .int .i64 0]) 2 16 Tryd.underlying32 hi hz0 hz1 hz2 rfl (by decide) v34 0 [] (eval_get e34) h68.1 ⟨gL, 0, none⟩ K k0 (flat (xs.take K)) (eval_get e71) (by rw [flat_length, htl]) ?c1 (flat_one _) (by unfold maxLen; omega) (by omega) hT.bs ?c2
            case c1 =>
              intro j u hu
              rw [flat_take] at hu
              have hj : j < xs.length * 2 := by
                have := (List.getElem?_eq_some_iff.1 hu).1
                rw [List.length_take, flat_length] at this
                omega
              rw [List.getElem?_take] at hu
              split at hu
              · exact (show wx.cell? ((⟨gL, 0, none⟩ : Addr).add j) = _ from by rw [add_at, Nat.zero_add]; exact (World.ownsRow.cellAt hT.own j hj)).trans hu
              · cases hu
            case c2 =>
              intro v3 w9 hown3 hgrow3 hwhere3 hkeep
              have hb3 : ∀ q, v34.ownBlock = some q → B ≤ q := fun q hq => (h68.1.lt q hq).1
              refine ⟨v3, rfl, ⟨?_, ?_⟩, hT.grow hgrow3 hb3 (hkeep _ _ _ _ hT.own fun e => absurd e.symm h68.2) (by omega) (by omega) (by omega), fun j u hj hlj hY => ?_⟩
              · rw [htl]; simpa using hown3
              · rcases hwhere3 with e | e
                · rw [e]; exact h68.2
                · rw [e]; have := (hT.own.lt gL rfl).2; simp; omega
              · match j, hj, hlj, hY with
                | 1, _, _, hY => exact hY
                | 2, _, _, hY => exact hY
                | 3, _, _, hY => exact hY
                | 5, _, _, hY => exact hY
                | 6, _, _, hY => exact hY
                | 7, _, _, hY => exact hY
                | 8, _, _, hY => exact hY
                | 0, _, _, hY => exact ⟨hkeep _ _ _ _ hY.1 (fun _ => Nat.le_refl _), hY.2⟩
                | 4, hj, _, _ => exact absurd rfl hj
                | 9, _, hlj, _ => rw [hcl 9 _ rfl hlj ⟨4, .data⟩ (by simp) rfl] at hli; cases hli
                | 10, _, hlj, _ => rw [hcl 9 _ rfl (hcl 10 _ rfl hlj ⟨9, .data⟩ (by simp) rfl) ⟨4, .data⟩ (by simp) rfl] at hli; cases hli
                | q + 11, _, _, _ => trivial
          | 5, ho =>
            obtain rfl := Option.some.inj ho
            have e6 : a9.tmps[6]?.getD undef = .slice (some ⟨gL, 0, none⟩) xs.length k0 := hf.2 6 (fun j oj hj hl hd => by
              match j, hj, hl with
              | 0, hj, hl => obtain rfl := Option.some.inj hj; simp at hd
              | 1, hj, hl => obtain rfl := Option.some.inj hj; simp at hd
              | 2, hj, hl => obtain rfl := Option.some.inj hj; simp at hd
              | 3, hj, hl => obtain rfl := Option.some.inj hj; simp at hd
              | 4, hj, hl => obtain rfl := Option.some.inj hj; simp at hd
              | 5, hj, hl => obtain rfl := Option.some.inj hj; simp at hd
              | 6, hj, hl => obtain rfl := Option.some.inj hj; simp at hd
              | 7, hj, hl => obtain rfl := Option.some.inj hj; simp at hd
              | 8, hj, hl => obtain rfl := Option.some.inj hj; simp at hd
              | 9, hj, hl => obtain rfl := Option.some.inj hj; simp at hd
              | 10, hj, hl => rw [hcl 8 _ rfl (hcl 9 _ rfl (hcl 10 _ rfl hl ⟨9, .data⟩ (by simp) rfl) ⟨8, .data⟩ (by simp) rfl) ⟨5, .data⟩ (by simp) rfl] at hli; cases hli
              | q + 11, hj, hl => simp at hj)
            exact wp_value (.slice (some ⟨gL, 0, none⟩) xs.length k0) (by unfold execOp; go_simp) ⟨_, rfl, rfl, hT, fun j u _ _ hY => hY⟩
          | 6, ho =>
            obtain rfl := Option.some.inj ho
            have e10 : a9.tmps[10]?.getD undef = .int .i64 (K : Int) := hf.2 10 (fun j oj hj hl hd => by
              match j, hj with
              | 0, hj => obtain rfl := Option.some.inj hj; simp at hd
              | 1, hj => obtain rfl := Option.some.inj hj; simp at hd
              | 2, hj => obtain rfl := Option.some.inj hj; simp at hd
              | 3, hj => obtain rfl := Option.some.inj hj; simp at hd
              | 4, hj => obtain rfl := Option.some.inj hj; simp at hd
              | 5, hj => obtain rfl := Option.some.inj hj; simp at hd
              | 6, hj => obtain rfl := Option.some.inj hj; simp at hd
              | 7, hj => obtain rfl := Option.some.inj hj; simp at hd
              | 8, hj => obtain rfl := Option.some.inj hj; simp at hd
              | 9, hj => obtain rfl := Option.some.inj hj; simp at hd
              | 10, hj => obtain rfl := Option.some.inj hj; simp at hd
              | q + 11, hj => simp at hj)
            exact wp_value (.int .i64 (K : Int)) (by unfold execOp; go_simp) ⟨_, rfl, rfl, hT, fun j u _ _ hY => hY⟩
          | 7, ho =>
            obtain rfl := Option.some.inj ho
            have e74 : a9.tmps[74]?.getD undef = .int .i64 (K : Int) := hf.1 ⟨6, .data⟩ (by simp) rfl _ 74 rfl rfl
            exact wp_value (.int .i64 ((K : Int) + 1)) (by unfold execOp; go_simp; first | done | exact IntWalk.i64_in _ ⟨by omega, by omega⟩) ⟨_, rfl, rfl, hT, fun j u _ _ hY => hY⟩
          | 8, ho =>
            obtain rfl := Option.some.inj ho
            have e73 : a9.tmps[73]?.getD undef = .slice (some ⟨gL, 0, none⟩) xs.length k0 := hf.1 ⟨5, .data⟩ (by simp) rfl _ 73 rfl rfl
            have e75 : a9.tmps[75]?.getD undef = .int .i64 ((K : Int) + 1) := hf.1 ⟨7, .data⟩ (by simp) rfl _ 75 rfl rfl
            have q1 : (K : Int) + 1 ≤ (k0 : Int) := by omega
            have q0 : (0 : Int) ≤ (K : Int) + 1 := by omega
            have q3 : ((K : Int) + 1).toNat = K + 1 := by omega
            have q2 : ¬ xs.length < K + 1 := by omega
            have h10 : ∃ ad : Addr, Value.slice (if k0 = K + 1 then some ⟨gL, 0, none⟩ else some ⟨gL, (K + 1) * 2, none⟩) (xs.length - (K + 1)) (k0 - (K + 1)) = .slice (some ad) (xs.length - (K + 1)) (k0 - (K + 1)) ∧ (k0 ≠ K + 1 → ad = ⟨gL, (K + 1) * 2, none⟩) := by
              by_cases hq : k0 = K + 1
              · exact ⟨_, by rw [if_pos hq], fun h => absurd hq h⟩
              · exact ⟨_, by rw [if_neg hq], fun _ => rfl⟩
            exact wp_value (.slice (if k0 = K + 1 then some ⟨gL, 0, none⟩ else some ⟨gL, (K + 1) * 2, none⟩) (xs.length - (K + 1)) (k0 - (K + 1))) (by unfold execOp; go_simp; try (intro hq; exact absurd hq (by omega))) ⟨_, rfl, h10, hT, fun j u _ _ hY => hY⟩
          | 9, ho =>
            obtain rfl := Option.some.inj ho
            have h72 : OL B gL (a9.tmps[72]?.getD undef) (xs.take K) wx := hf.1 ⟨4, .data⟩ (by simp) rfl _ 72 rfl rfl
            obtain ⟨ad, e76, had⟩ : ∃ ad, a9.tmps[76]?.getD undef = .slice (some ad) (xs.length - (K + 1)) (k0 - (K + 1)) ∧ (k0 ≠ K + 1 → ad = ⟨gL, (K + 1) * 2, none⟩) := hf.1 ⟨8, .data⟩ (by simp) rfl _ 76 rfl rfl
            obtain ⟨v38, e38⟩ : ∃ v, a9.tmps[72]?.getD undef = v := ⟨_, rfl⟩
            rw [e38] at h72
            have htl : (xs.take K).length = K := by rw [List.length_take]; omega
            refine Go.Proofs.YtohkllmhknjkoaaDoor.Apy.wp_append_all (.tmp 72) (.tmp 76) 32 rfl B 39 i0 (.agg #[.int .i64 0, .int .i64 0]) 2 16 Tryd.underlying32 hi hz0 hz1 hz2 rfl (by decide) v38 (xs.take K).length (flat (xs.take K)) (eval_get e38) h72.1 ad (xs.length - (K + 1)) (k0 - (K + 1)) (flat (xs.drop (K + 1))) (eval_get e76) (by rw [flat_length, List.length_drop]) ?c1 (flat_one _) (by unfold maxLen; omega) (by omega) hT.bs ?c2
            case c1 =>
              intro j u hu
              rw [flat_drop, List.getElem?_drop] at hu
              have hj : (K + 1) * 2 + j < xs.length * 2 := by
                have := (List.getElem?_eq_some_iff.1 hu).1
                rw [flat_length] at this
                exact this
              have e := had (by omega)
              subst e
              exact (show wx.cell? ((⟨gL, (K + 1) * 2, none⟩ : Addr).add j) = _ from by rw [add_at]; exact (World.ownsRow.cellAt hT.own ((K + 1) * 2 + j) hj)).trans hu
            case c2 =>
              intro v3 w9 hown3 hgrow3 hwhere3 hkeep
              have hb3 : ∀ q, v38.ownBlock = some q → B ≤ q := fun q hq => (h72.1.lt q hq).1
              refine ⟨v3, rfl, ⟨?_, ?_⟩, hT.grow hgrow3 hb3 (hkeep _ _ _ _ hT.own fun e => absurd e.symm h72.2) (by omega) (by omega) (by omega), fun j u hj hlj hY => ?_⟩
              · rw [List.length_append, List.length_drop, flat_app]; exact hown3
              · rcases hwhere3 with e | e
                · rw [e]; exact h72.2
                · rw [e]; have := (hT.own.lt gL rfl).2; simp; omega
              · match j, hj, hlj, hY with
                | 1, _, _, hY => exact hY
                | 2, _, _, hY => exact hY
                | 3, _, _, hY => exact hY
                | 5, _, _, hY => exact hY
                | 6, _, _, hY => exact hY
                | 7, _, _, hY => exact hY
                | 8, _, _, hY => exact hY
                | 0, _, _, hY => exact ⟨hkeep _ _ _ _ hY.1 (fun _ => Nat.zero_le _), hY.2⟩
                | 4, _, _, hY => exact ⟨hkeep _ _ _ _ hY.1 (fun _ => Nat.le_refl _), hY.2⟩
                | 9, hj, _, _ => exact absurd rfl hj
                | 10, _, hlj, _ => rw [hcl 10 _ rfl hlj ⟨9, .data⟩ (by simp) rfl] at hli; cases hli
                | q + 11, _, _, _ => trivial
          | 10, ho =>
            obtain rfl := Option.some.inj ho
            have h77 : OL B gL (a9.tmps[77]?.getD undef) (xs.take K ++ xs.drop (K + 1)) wx := hf.1 ⟨9, .data⟩ (by simp) rfl _ 77 rfl rfl
            obtain ⟨v43, e43⟩ : ∃ v, a9.tmps[77]?.getD undef = v := ⟨_, rfl⟩
            rw [e43] at h77
            exact wp_value (v43) (by unfold execOp; go_simp) ⟨_, rfl, h77, hT, fun j u _ _ hY => hY⟩
          | q + 11, ho => simp at ho
        case en =>
          intro vs w10 hT hall
          have h10 : OL B gL (vs 10) (xs.take K ++ xs.drop (K + 1)) w10 := hall 10 _ rfl
          obtain ⟨u, hu⟩ : ∃ u, vs 10 = u := ⟨_, rfl⟩
          rw [hu] at h10
          simp only [fill, Act.put]
          rw [hu]
          have hlz : (xs.take K ++ xs.drop (K + 1)).length ≤ 16 := by rw [List.length_append, List.length_take, List.length_drop]; omega
          obtain ⟨zs, hzs⟩ : ∃ zs, xs.take K ++ xs.drop (K + 1) = zs := ⟨_, rfl⟩
          rw [hzs] at h10 hlz
          have H10 : Hid (IS w w2.heap.size R C s w.heap.size g (p1 + 1 + 1) B u zs w10) := ⟨hT.mat, hT.res, hT.rd, h10.1, hT.below, hT.bs⟩
          clear h10 hu hT hall H9 hzs
          go_simp
          obtain ⟨pz, kz, hz⟩ := own_slice H10.out.own
          subst hz
          have HBD := Lib.hid (bad_mat g (p1 + 1 + 1) (by omega) R C s (by omega) (by omega) ⟨by omega, by omega⟩ hts.1 hts.2 _ H10.out.rd)
          obtain ⟨d0, d1, d2⟩ := H10.out.cells
          go_wp2_with fail
          refine HBD.out.mono ?_
          rintro e wz ⟨az, bz, tz, pz2, rfl, wza, wzb, htz, _, _, hrz, haz⟩
          have HZ := Lib.hid (H10.out.apt haz hrz (by omega) (by omega) (by omega))
          have HWZ := Lib.hid (And.intro wza (And.intro wzb htz))
          obtain ⟨o0, o1, o2, f0, f1, f2⟩ := cells3 HZ.out.res
          clear wza wzb htz hrz haz HBD
          try clear d0 d1 d2
          go_wp2_with fail
          refine bodyPost_ret (v := .tuple #[mtx az bz tz, .slice pz zs.length kz]) (by simp [results, Tryd.results30, go_sem, o0, o1, o2]) rfl ⟨az, bz, tz, _, zs, rfl, HWZ.out.1, HWZ.out.2.1, HWZ.out.2.2, by omega, ?_, ?_⟩
          · have hq := fun i y (wa : World) => Apt.setCell w.heap.size wa i y
            exact rv_own (own_apt HZ.out.own (((hq _ _ _).trans (hq _ _ _)).trans (hq _ _ _)) (by omega)) (by omega)
          · exact ((HZ.out.below.setCell (by simp) _).setCell (by simp) _).setCell (by simp) _
      · have hb0 : (pk == 0) = false := by rw [beq_eq_false_iff_ne]; exact hk0
        have hb1 : (pk == 1) = false := by rw [beq_eq_false_iff_ne]; exact hk1
        have hb2 : (pk == 2) = false := by rw [beq_eq_false_iff_ne]; exact hk2
        clear hk0 hk1 hk2
        have HBD := Lib.hid (bad_mat g (p1 + 1 + 1) (by omega) R C s (by omega) (by omega) ⟨by omega, by omega⟩ hts.1 hts.2 _ H9.out.rd)
        obtain ⟨d0, d1, d2⟩ := H9.out.cells
        go_wp2_with fail
        refine HBD.out.mono ?_
        rintro e wz ⟨az, bz, tz, pz2, rfl, wza, wzb, htz, _, _, hrz, haz⟩
        have HZ := Lib.hid (H9.out.apt haz hrz (by omega) (by omega) (by omega))
        have HWZ := Lib.hid (And.intro wza (And.intro wzb htz))
        obtain ⟨o0, o1, o2, f0, f1, f2⟩ := cells3 HZ.out.res
        clear wza wzb htz hrz haz HBD
        try clear d0 d1 d2
        go_wp2_with fail
        refine bodyPost_ret (v := .tuple #[mtx az bz tz, .slice (some ⟨gL, 0, none⟩) xs.length k0]) (by simp [results, Tryd.results30, go_sem, o0, o1, o2]) rfl ⟨az, bz, tz, _, xs, rfl, HWZ.out.1, HWZ.out.2.1, HWZ.out.2.2, by omega, ?_, ?_⟩
        · have hq := fun i y (wa : World) => Apt.setCell w.heap.size wa i y
          exact rv_own (own_apt HZ.out.own (((hq _ _ _).trans (hq _ _ _)).trans (hq _ _ _)) (by omega)) (by omega)
        · exact ((HZ.out.below.setCell (by simp) _).setCell (by simp) _).setCell (by simp) _
end Go.Proofs.YtohkllmhknjkoaaDoor.DrawIP

/-
  The program's hasPlain, isBit, IsCover.
-/
namespace Go.Proofs.YtohkllmhknjkoaaDoor.Cover
open Go.RowKit Go.Proofs.YtohkllmhknjkoaaDoor.Plain Go.Proofs.YtohkllmhknjkoaaDoor.Base Go.Proofs.YtohkllmhknjkoaaDoor.Valid Go.Proofs.YtohkllmhknjkoaaDoor.Law Go.Proofs.YtohkllmhknjkoaaDoor.Pat Go.Proofs.YtohkllmhknjkoaaDoor.Rect Go.Proofs.YtohkllmhknjkoaaDoor.Patch Go.Proofs.YtohkllmhknjkoaaDoor.FreeL Go.Proofs.YtohkllmhknjkoaaDoor.Board Go.Proofs.YtohkllmhknjkoaaDoor.BoardM Go.Proofs.YtohkllmhknjkoaaDoor.RValid Go.Proofs.YtohkllmhknjkoaaDoor.Colour Go.Proofs.YtohkllmhknjkoaaDoor.Rects
open Go.Proofs.YtohkllmhknjkoaaDoor.Free (fill wp_value wp_enter wp_load_row freeB)
set_option linter.unusedVariables false

/-- a rectangle is one of a matrix, and its entries are all in a set -/
def hpB (R C q : Nat) (r c : Int) : Bool := rvB R C r c && decide (pat (rectB r.toNat c.toNat) 8 &&& (18446744073709551615 - q) = 0)

set_option maxHeartbeats 1000000 in
theorem bit_all (v : Int) (w : World) :
    Calls Tryd.prog 65 #[.int .i64 v] w fun e w' => e = .returned (.bool (v == 0 || v == 1)) ∧ w = w' := by
  obtain ⟨b, hb⟩ : ∃ b, (v == 0) = b := ⟨_, rfl⟩
  obtain ⟨d, hd⟩ : ∃ d, (v == 1) = d := ⟨_, rfl⟩
  rw [hb, hd]
  cases b <;> cases d
  all_goals
    go_enter Tryd.func65, Tryd.ntmps65
    go_wp2_with fail
    go_ret
    exact ⟨rfl, rfl⟩

/-- the board's box and the rectangle's -/
structure HInv (w wr : World) (R C : Int) (z o : Nat) (r c : Int) : Prop where
  b : BHolds wr w.heap.size R C z o
  t : RHolds wr (w.heap.size + 1) r c
  below : Below w.heap.size w wr
theorem HInv.later {w wr w2 : World} {R C : Int} {z o : Nat} {r c : Int} (h : HInv w wr R C z o r c) (hb : Below wr.heap.size wr w2) : HInv w w2 R C z o r c := ⟨bh_on h.b hb, h.t.on hb, rstep h.below hb⟩
theorem HInv.start (w : World) (R C : Int) (z o : Nat) (r c : Int) : HInv w ((w.alloc (.cells #[.int .i64 R, .int .i64 C, .int .u64 (z : Int), .int .u64 (o : Int)] 81)).alloc (.cells #[.int .i64 r, .int .i64 c] 39)) R C z o r c := by
  obtain ⟨e0, e1, hb0⟩ := two_box (w := w) (a := .cells #[.int .i64 R, .int .i64 C, .int .u64 (z : Int), .int .u64 (o : Int)] 81) (b := .cells #[.int .i64 r, .int .i64 c] 39)
  exact ⟨e0, e1, hb0⟩
theorem rh_c {w : World} {b : Nat} {r c : Int} (h : RHolds w b r c) : w.cell? ⟨b, 0, none⟩ = some (.int .i64 r) ∧ w.cell? ⟨b, 1, none⟩ = some (.int .i64 c) := ⟨cell_of_row _ _ 0 _ _ _ h, cell_of_row _ _ 1 _ _ _ h⟩

set_option maxHeartbeats 1000000 in
theorem has_plain (R C : Nat) (hR : R ≤ 8) (hC : C ≤ 8) (z o q : Nat) (bit : Int)
    (hpl : ∀ RS CS : Nat, RS < 256 → CS < 256 → ∀ W : World, Calls Tryd.prog 87 #[brd R C z o, rect RS CS, .int .i64 bit] W fun e w' => e = .returned (.bool (decide (pat (rectB RS CS) 8 &&& (18446744073709551615 - q) = 0))) ∧ Below W.heap.size W w')
    (r c : Int) (w : World) :
    Calls Tryd.prog 66 #[brd R C z o, rect r c, .int .i64 bit] w fun e w' => e = .returned (.bool (hpB R C q r c)) ∧ Below w.heap.size w w' := by
  unfold hpB
  by_cases ht : rvB R C r c = true
  · obtain ⟨RS, CS, rfl, rfl, k1, k2, k3, k4, k5, k6⟩ := rv_nat hR hC ht
    have HP := Lib.hid (hpl RS CS k5 k6)
    have HR := Lib.hid (fun W => hasRect_any R C hR hC z o RS CS W)
    rw [ht] at HR ⊢
    rw [Bool.true_and, Int.toNat_natCast, Int.toNat_natCast]
    clear hpl ht k1 k2 k3 k4 k5 k6
    generalize decide (pat (rectB RS CS) 8 &&& (18446744073709551615 - q) = 0) = t at *
    go_enter Tryd.func66, Tryd.ntmps66
    go_wp2_with fail
    refine (HR.out _).mono ?_
    rintro e w1 ⟨rfl, hb1⟩
    have hinv := (HInv.start w R C z o RS CS).later hb1
    obtain ⟨q0, q1, q2, q3⟩ := bh_c hinv.b
    obtain ⟨p0, p1⟩ := rh_c hinv.t
    have HI := Lib.hid hinv
    clear hb1 hinv HR
    go_wp2_with fail
    refine (HP.out _).mono ?_
    rintro e w2 ⟨rfl, hb2⟩
    have HB := Lib.hid (HI.out.later hb2).below
    clear hb2 HI q0 q1 q2 q3 p0 p1 HP
    go_wp2_with fail
    go_ret
    exact ⟨rfl, HB.out⟩
  · rw [Bool.not_eq_true] at ht
    have HR := Lib.hid (fun W => hasRect_any R C hR hC z o r c W)
    rw [ht] at HR ⊢
    rw [Bool.false_and]
    clear hpl ht
    go_enter Tryd.func66, Tryd.ntmps66
    go_wp2_with fail
    refine (HR.out _).mono ?_
    rintro e w1 ⟨rfl, hb1⟩
    have HB := Lib.hid ((HInv.start w R C z o r c).later hb1).below
    clear hb1 HR
    go_wp2_with fail
    go_ret
    exact ⟨rfl, HB.out⟩

/-- the entries of the first k rectangles -/
def covTo (xs : List (Int × Int)) : Nat → Nat
  | 0 => 0
  | k + 1 => covTo xs k ||| (match xs[k]? with | some r => pat (rectB r.1.toNat r.2.toNat) 8 | none => 0)
theorem covTo_next (xs : List (Int × Int)) (k : Nat) (hk : k < xs.length) : covTo xs (k + 1) = covTo xs k ||| pat (rectB xs[k].1.toNat xs[k].2.toNat) 8 := by
  rw [covTo, List.getElem?_eq_getElem hk]
theorem or64n (a b : Nat) (ha : a < 18446744073709551616) (hb : b < 18446744073709551616) : Go.bits .or .u64 (a : Int) (b : Int) = ((a ||| b : Nat) : Int) :=
  (bits_nat .u64 64 (by decide) (fun n h0 h1 => by rw [IntKind.wrap_u64]; omega) a b (by omega) (by omega)).2
/-- a board's box, later on -/
structure VInv (w wr : World) (g : Nat) (R C : Int) (z o : Nat) : Prop where
  b : BHolds wr g R C z o
  below : Below w.heap.size w wr
  lo : w.heap.size ≤ g
theorem VInv.later {w wr w2 : World} {g : Nat} {R C : Int} {z o : Nat} (h : VInv w wr g R C z o) (hb : Below wr.heap.size wr w2) : VInv w w2 g R C z o := ⟨bh_on h.b hb, rstep h.below hb, h.lo⟩
theorem VInv.lt {w wr : World} {g : Nat} {R C : Int} {z o : Nat} (h : VInv w wr g R C z o) : g < wr.heap.size := (Array.getElem?_eq_some_iff.1 h.b).1
theorem VInv.box {w wr w2 : World} {g : Nat} {R C : Int} {z o : Nat} {ob : Obj} (h : VInv w wr g R C z o) (hb : Below (wr.alloc ob).heap.size (wr.alloc ob) w2) : VInv w w2 g R C z o ∧ w2.heap[wr.heap.size]? = some ob := by
  have h1 : VInv w (wr.alloc ob) g R C z o := h.later ((Below.refl _ _).alloc (Nat.le_refl _) _)
  exact ⟨h1.later hb, (hb.block _ (by simp)).trans (heap_alloc_new wr ob)⟩

set_option maxHeartbeats 1000000 in
theorem impl_cover (R C : Nat) (hR1 : 1 ≤ R) (hR : R ≤ 8) (hC : C ≤ 8) (z o q : Nat) (hq : q < 18446744073709551616) (bit : Int) (hbit : (bit = 0 ∧ q = z) ∨ (bit = 1 ∧ q = o)) (rr cc : Int) (s : ByteArray)
    (hbo : ∀ W : World, Calls Tryd.prog 64 #[mat rr cc s] W fun e w' => e = .returned (brd R C z o) ∧ Below W.heap.size W w')
    (hpl : ∀ RS CS : Nat, RS < 256 → CS < 256 → ∀ W : World, Calls Tryd.prog 87 #[brd R C z o, rect RS CS, .int .i64 bit] W fun e w' => e = .returned (.bool (decide (pat (rectB RS CS) 8 &&& (18446744073709551615 - q) = 0))) ∧ Below W.heap.size W w')
    (xs : List (Int × Int)) (v : Value) (w : World) (hiv : RV w w.heap.size v xs) :
    Calls Tryd.prog 24 #[mat rr cc s, .int .i64 bit, v] w fun e w' => e = .returned (.bool (xs.all (fun r => hpB R C q r.1 r.2) && (covTo xs xs.length == q))) ∧ Below w.heap.size w w' := by
  have HBO := Lib.hid hbo
  have HP := Lib.hid (fun r c W => has_plain R C hR hC z o q bit hpl r c W)
  clear hbo hpl
  have HBIT := Lib.hid (fun W => bit_all bit W)
  rw [show (bit == 0 || bit == 1) = true by rcases hbit with ⟨rfl, _⟩ | ⟨rfl, _⟩ <;> rfl] at HBIT
  obtain ⟨p, kk, rfl⟩ := hiv.slice
  go_enter Tryd.func24, Tryd.ntmps24
  go_wp2_with fail
  refine (HBO.out _).mono ?_
  rintro e w1 ⟨rfl, hb1⟩
  have hbx : Below w.heap.size w w1 := rstep ((Below.refl w.heap.size w).alloc (Nat.le_refl _) _) hb1
  clear hb1 HBO
  go_wp2_with fail
  refine (HBIT.out _).mono ?_
  rintro e w' ⟨rfl, rfl⟩
  have HV0 : Hid (VInv w (w1.alloc (.cells #[.int .i64 (R : Int), .int .i64 (C : Int), .int .u64 (z : Int), .int .u64 (o : Int)] 81)) w1.heap.size R C z o) := ⟨heap_alloc_new w1 _, hbx.alloc hbx.size _, hbx.size⟩
  have HC : Hid (∀ j (hj : j < xs.length), ∃ b off c, Value.slice p xs.length kk = .slice (some ⟨b, off, none⟩) xs.length c ∧ b < w.heap.size ∧ w.cell? ⟨b, off + j * 2, none⟩ = some (.int .i64 xs[j].1) ∧ w.cell? ⟨b, off + j * 2 + 1, none⟩ = some (.int .i64 xs[j].2)) := fun j hj => by
    rcases hiv.2 with ⟨_, rfl⟩ | ⟨b, off, c, e, hlt, hc⟩
    · cases hj
    · exact ⟨b, off, c, e, hlt, hc j hj⟩
  have hl := hiv.1
  clear hiv hbx HBIT
  generalize w1.alloc (.cells #[.int .i64 (R : Int), .int .i64 (C : Int), .int .u64 (z : Int), .int .u64 (o : Int)] 81) = W0 at *
  generalize w1.heap.size = g at *
  go_wp2_with fail
  go_loopw [8, 23] (fun t i wr => ∃ (k m : Nat), k ≤ xs.length ∧ i = .int .i64 (k : Int) ∧ t = .int .u64 (m : Int) ∧ m < 18446744073709551616 ∧ Hid (m = covTo xs k) ∧ Hid (∀ j (hj : j < xs.length), j < k → hpB R C q xs[j].1 xs[j].2 = true) ∧ VInv w wr g R C z o) (fun _ i _ => xs.length - (intOf i).toNat)
  case atStart => exact ⟨0, 0, Nat.zero_le _, rfl, rfl, by omega, rfl, fun j _ h => absurd h (by omega), HV0.out⟩
  case round =>
    obtain ⟨k, m, hk, rfl, rfl, hm, hcov, hall, hinv⟩ := hrel
    clear HV0
    obtain ⟨q0, q1, q2, q3⟩ := bh_c hinv.b
    have hg := hinv.lt
    have HI := Lib.hid hinv
    by_cases hkl : k < xs.length
    · obtain ⟨b, off, c, e, hlt, c0, c1⟩ := HC.out k hkl
      injection e with e1 e2 e3
      subst e1 e3
      have c0 := (hinv.below.cell (p := ⟨b, off + k * 2, none⟩) hlt).trans c0
      have c1 := (hinv.below.cell (p := ⟨b, off + k * 2 + 1, none⟩) hlt).trans c1
      have HX : Hid (∃ x y, xs[k].1 = x ∧ xs[k].2 = y) := ⟨_, _, rfl, rfl⟩
      obtain ⟨x, y, hx, hy⟩ := HX.out
      have HXY : Hid (xs[k].1 = x ∧ xs[k].2 = y) := ⟨hx, hy⟩
      rw [hx] at c0
      rw [hy] at c1
      clear hinv HX hx hy
      go_wp2_with fail
      refine (HP.out x y _).mono ?_
      rintro e w2 ⟨rfl, hb2⟩
      obtain ⟨hinv, hbox⟩ := HI.out.box hb2
      obtain ⟨t, ht⟩ : ∃ t, hpB R C q x y = t := ⟨_, rfl⟩
      have HT := Lib.hid ht
      rw [ht]
      clear ht q0 q1 q2 q3 hg c0 c1 hb2 HI
      cases t
      · have HB := Lib.hid hinv.below
        clear hinv hbox
        go_wp2_with fail
        go_ret
        refine ⟨?_, HB.out⟩
        rw [show xs.all (fun r => hpB R C q r.1 r.2) = false from ?_]
        · rfl
        · rw [List.all_eq_false]
          exact ⟨xs[k], List.getElem_mem hkl, by rw [HXY.out.1, HXY.out.2, HT.out]; decide⟩
      · have hrv : rvB R C x y = true := by
          have h := HT.out
          unfold hpB at h
          rw [Bool.and_eq_true] at h
          exact h.1
        obtain ⟨RS, CS, rfl, rfl, k1, k2, k3, k4, k5, k6⟩ := rv_nat hR hC hrv
        have hp64 := pat64 (rectB RS CS) (rectB_lt RS CS k6)
        have HPA := Lib.hid (patch_any RS CS k5 k6)
        have hor := or64n m (pat (rectB RS CS) 8) hm hp64
        have hlt64 : m ||| pat (rectB RS CS) 8 < 18446744073709551616 := Nat.or_lt_two_pow (n := 64) hm hp64
        have HCOV : Hid (m ||| pat (rectB RS CS) 8 = covTo xs (k + 1)) := by
          unfold Hid
          rw [covTo_next xs k hkl, ← hcov.out, HXY.out.1, HXY.out.2, Int.toNat_natCast, Int.toNat_natCast]
        have HALL : Hid (∀ j (hj : j < xs.length), j < k + 1 → hpB R C q xs[j].1 xs[j].2 = true) := fun j hj hjk => by
          by_cases ej : j = k
          · subst ej; rw [HXY.out.1, HXY.out.2]; exact HT.out
          · exact hall.out j hj (by omega)
        clear hrv k1 k2 k3 k4 hp64 hcov hall
        generalize m ||| pat (rectB RS CS) 8 = m2 at *
        generalize pat (rectB RS CS) 8 = pp at *
        obtain ⟨r0, r1⟩ := rh_c (show RHolds w2 wr.heap.size RS CS from hbox)
        have HI2 := Lib.hid hinv
        clear hinv hbox
        go_wp2_with fail
        refine (HPA.out _).mono ?_
        rintro e w3 ⟨rfl, hb3⟩
        have HI3 := Lib.hid (HI2.out.later hb3)
        clear hb3 HI2 r0 r1
        go_wp2_with fail
        go_roundw
        case rel => exact ⟨k + 1, m2, by omega, by go_num, by go_num, hlt64, HCOV, HALL, HI3.out⟩
        case measure => simp [intOf]; omega
    · obtain rfl : k = xs.length := by omega
      have HA : Hid (xs.all (fun r => hpB R C q r.1 r.2) = true) := by
        unfold Hid
        rw [List.all_eq_true]
        intro r hr
        obtain ⟨j, hj, rfl⟩ := List.getElem_of_mem hr
        exact hall.out j hj hj
      have HF : Hid ((xs.all (fun r => hpB R C q r.1 r.2) && (covTo xs xs.length == q)) = ((m : Int) == (q : Int))) := by
        unfold Hid
        rw [HA.out, Bool.true_and, ← hcov.out, Bool.eq_iff_iff, beq_iff_eq, beq_iff_eq]
        omega
      clear hinv hcov hall HA
      rcases hbit with ⟨rfl, rfl⟩ | ⟨rfl, rfl⟩
      all_goals
        go_wp2_with fail
        go_ret
        exact ⟨by rw [HF.out]; rfl, HI.out.below⟩
end Go.Proofs.YtohkllmhknjkoaaDoor.Cover

