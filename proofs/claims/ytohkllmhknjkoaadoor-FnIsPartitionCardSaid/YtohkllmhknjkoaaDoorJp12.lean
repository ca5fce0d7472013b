/-
  Texts of one seat, joined: FreeP, Apy, Apx.
-/
import Derived.Test.YtohkllmhknjkoaaDoorJp1
import Derived.Test.YtohkllmhknjkoaaDoorJp5
import Derived.Test.YtohkllmhknjkoaaDoorJp7
import Derived.Laws.OwnMore
/-
  The law at a region that draws its order and whose operations read through one reader, as often as they like: what they yield is told by a relation
  that stays true while other blocks lie as they lay. The order of the reads does not matter: of each number only its bounds are told.
-/
namespace Go.Proofs.YtohkllmhknjkoaaDoor.FreeP
open Go Go.RowKit Go.Proofs.YtohkllmhknjkoaaDoor.Free Go.Proofs.YtohkllmhknjkoaaDoor.FreeL Go.Proofs.YtohkllmhknjkoaaDoor.Rd Go.Proofs.YtohkllmhknjkoaaDoor.Rd2
set_option linter.unusedVariables false

/-- how many have come up -/
def cnt (l : Nat → Bool) : Nat → Nat
  | 0 => 0
  | n + 1 => cnt l n + (l n).toNat
theorem cnt_le (l : Nat → Bool) : ∀ n, cnt l n ≤ n
  | 0 => Nat.le_refl _
  | n + 1 => by
    have := cnt_le l n
    rw [cnt]
    cases l n <;> simp <;> omega
theorem cnt_none (l : Nat → Bool) (h : ∀ i, l i = false) : ∀ n, cnt l n = 0
  | 0 => rfl
  | n + 1 => by rw [cnt, cnt_none l h n, h n]; rfl
theorem cnt_high (l : Nat → Bool) (i : Nat) : ∀ n, n ≤ i → cnt (fun j => if j = i then true else l j) n = cnt l n
  | 0, _ => rfl
  | n + 1, h => by
    rw [cnt, cnt, cnt_high l i n (by omega)]
    rw [if_neg (by omega)]
theorem cnt_set (l : Nat → Bool) (i : Nat) (hl : l i = false) : ∀ n, i < n → cnt (fun j => if j = i then true else l j) n = cnt l n + 1
  | 0, h => absurd h (by omega)
  | n + 1, h => by
    rw [cnt, cnt]
    by_cases e : n = i
    · subst e
      rw [cnt_high l n n (Nat.le_refl _), if_pos rfl, hl]
      rfl
    · rw [cnt_set l i hl n (by omega), if_neg e]
      omega
set_option maxRecDepth 20000 in
theorem count_up {p0 p p' c : Nat} (h2 : p ≤ p0 + 400 * c) (h4 : p' ≤ p + 400) : p' ≤ p0 + 400 * (c + 1) := by omega
set_option maxRecDepth 20000 in
theorem count_to {p0 p c n : Nat} (h2 : p ≤ p0 + 400 * c) (h4 : c ≤ n) : p ≤ p0 + 400 * n := by omega
theorem wp_enterP {P : Program} {o : Oper} {a : Act} {w : World} {K : Act → World → Prop} {Q : Exit → Act → World → Prop} (f : FuncId) (args : Array Value) (R : Value → World → Prop) (h : (execOp a.eval o).run P w = .ok (.enter f args) w)
    (hc : Calls P f args w fun e w' => ∃ v, e = .returned v ∧ R v w') (hK : ∀ v w', R v w' → K (a.put o.dst v) w') : o.wp P a w K Q := by
  unfold Oper.wp
  rw [h]
  refine Calls.mono hc ?_
  rintro e w' ⟨v, rfl, hR⟩
  exact hK v w' hR

section
variable {P : Program} {ops : Array Oper}
/-- what an operation may know of the slots -/
def FactsP (ops : Array Oper) (a0 : Act) (R : Nat → Value → World → Prop) (o : Oper) (a : Act) (w : World) : Prop :=
  (∀ e ∈ o.after, Region.binds .any e = true → ∀ (oj : Oper) (dj : Tmp), ops[e.on]? = some oj → oj.dst = some dj → R e.on (a.tmps[dj]?.getD undef) w) ∧
  (∀ k, (ops.toList.all fun o => o.dst != some k) = true → a.tmps[k]?.getD undef = a0.tmps[k]?.getD undef)

/-- THE LAW -/
theorem wp_region_draws {lo : Nat} {id n : Nat} {a0 : Act} {w0 : World} {Q : Exit → Act → World → Prop} (g p0 : Nat) (R : Nat → Value → World → Prop) (hR : ∀ (i : Nat) (v : Value) (w w' : World), Apt g w w' → R i v w → R i v w')
    (hm : P.follows .mixedOrders = true) (hB : freeB ops n = true) (hn : a0.tmps.size = n) (h0 : Rdr lo w0 g p0)
    (hcon : ∀ (i : Nat) (o : Oper), ops[i]? = some o → ∀ (a : Act) (w : World) (p : Nat), p0 ≤ p → p ≤ p0 + 400 * ops.size → Apt g w0 w → Rdr lo w g p → FactsP ops a0 R o a w →
      o.wp P a w (fun a' w' => ∃ v p', a' = a.put o.dst v ∧ R i v w' ∧ Apt g w w' ∧ Rdr lo w' g p' ∧ p ≤ p' ∧ p' ≤ p + 400) Q)
    (hend : ∀ (vs : Nat → Value) (w : World) (p : Nat), p0 ≤ p → p ≤ p0 + 400 * ops.size → Apt g w0 w → Rdr lo w g p → (∀ (i : Nat) (o : Oper), ops[i]? = some o → R i (vs i) w) → Q .normal (fill ops.toList vs 0 a0) w) :
    (Code.region id ops true).wp P Q a0 w0 := by
  refine wp_region_freeL (Y := fun i v a w => R i v w) (S := fun l w => Apt g w0 w ∧ ∃ p, Rdr lo w g p ∧ p0 ≤ p ∧ p ≤ p0 + 400 * cnt l ops.size) hm hB hn
    ⟨(Apt.refl g w0).drew, p0, h0.later (drawn_at w0 1), Nat.le_refl _, by omega⟩ ?_ ?_
  · intro i o ho listed a w hM hu hdp
    have hi : i < ops.size := (Array.getElem?_eq_some_iff.1 ho).1
    obtain ⟨ha, p, hr, hp1, hp2⟩ := hM.world
    have hc := cnt_set (fun j => listed.getD j false) i hu ops.size hi
    have hl := cnt_le (fun j => listed.getD j false) ops.size
    have hf : FactsP ops a0 R o a w := by
      refine ⟨fun e he hb oj dj hoj hdj => ?_, fun k hk => ?_⟩
      · obtain ⟨v, hv, hvd⟩ := hM.new e.on oj hoj (hdp e he hb)
        rw [hvd dj hdj]
        exact hv
      · rw [hM.old k fun i o' ho' hd' => ?_]
        have := List.all_eq_true.1 hk o' (by simpa using Array.mem_of_getElem? ho')
        simp [hd'] at this
    have hp3 : p ≤ p0 + 400 * ops.size := count_to hp2 hl
    refine Oper.wp_mono ?_ (hcon i o ho a w p hp1 hp3 ha hr hf)
    rintro a' w' ⟨v, p', rfl, hRv, ha', hr', h3, h4⟩
    have h5 : p' ≤ p0 + 400 * cnt (fun j => if j = i then true else listed.getD j false) ops.size := by
      rw [hc]
      exact count_up hp2 h4
    exact ⟨v, rfl, hRv, ⟨ha.trans ha', p', hr', Nat.le_trans hp1 h3, h5⟩, fun j u _ _ hY => hR j u w w' ha' hY⟩
  · intro vs w hS hall
    obtain ⟨ha, p, hr, hp1, hp2⟩ := hS
    have hl := cnt_le (fun i => decide (i < ops.size)) ops.size
    exact hend vs w p hp1 (count_to hp2 hl) ha hr hall
end
end Go.Proofs.YtohkllmhknjkoaaDoor.FreeP

/-
  An append to a slice of a call's own, and what it leaves of all other slices, those that share its block too.
-/
namespace Go.Proofs.YtohkllmhknjkoaaDoor.Apy
open Go Go.RowKit Go.Proofs.YtohkllmhknjkoaaDoor.App
set_option linter.unusedVariables false

theorem append_all {P : Program} (w : World) (base : Nat) (t ty e : TypeId) (i : TypeInfo) (z : Value) (size bytes : Nat) (ht : P.underlying t = some (.slice e)) (hi : P.info? e = some i) (hz : i.zero = some z)
    (hsize : i.size = size) (hby : i.bytes = bytes) (hzs : z.cells.size = size) (hsz : 0 < size) (v : Value) (n : Nat) (xs : List Value) (hown : w.ownsRow base e size v n xs)
    (a : Addr) (m c : Nat) (news : List Value) (hl : news.length = m * size) (hnews : ∀ j u, news[j]? = some u → w.cell? (a.add j) = some u) (h1 : ∀ u ∈ news, u.oneCell' = true)
    (h63 : n + m ≤ maxLen) (hbytes : (n + m) * bytes ≤ 140737488355328) (hbase : base ≤ w.heap.size) :
    ∃ v' w', (Builtin.append_ #[t, t] ty #[v, .slice (some a) m c]).run P w = .ok v' w' ∧ w'.ownsRow base e size v' (n + m) (xs ++ news) ∧ w.grownBy w' v.ownBlock ∧ (v'.ownBlock = v.ownBlock ∨ v'.ownBlock = some w.heap.size) ∧
      ∀ B2 v2 n2 xs2, w.ownsRow B2 e size v2 n2 xs2 → (v2.ownBlock = v.ownBlock → n2 ≤ n) → w'.ownsRow B2 e size v2 n2 xs2 := by
  obtain ⟨v', w', hr, ho, hg, hnil⟩ := run_append_own (P := P) w base t ty e i z size bytes ht hi hz hsize hby hzs hsz v n xs hown a m c news hl hnews h1 h63 hbytes hbase
  refine ⟨v', w', hr, ho, hg, ?_⟩
  subst hsize
  subst hby
  rcases hown.2 with ⟨rfl, rfl⟩ | ⟨g, cap, cur, rfl, hbg, hgc, hnc, hcm, hcs, htake⟩
  · refine ⟨?_, fun B2 v2 n2 xs2 h2 _ => ?_⟩
    · by_cases hm : m = 0
      · exact .inl (by rw [hnil.2 ⟨rfl, hm⟩])
      · have h := run_append_nil (P := P) w t ty e i z ht hi hz a m c news hl hnews (by omega) (by unfold maxLen at h63; omega) (by rw [Nat.zero_add] at hbytes; omega)
        rw [hr] at h
        simp only [Result.ok.injEq] at h
        exact .inr (by rw [h.1]; rfl)
    · refine h2.kept hg ?_
      cases hv : v2.ownBlock with
      | none => exact .inl rfl
      | some k => exact .inr (by simp [Value.ownBlock])
  · by_cases hroom : n + m ≤ cap
    · obtain ⟨w2, hr2, ho2, hg2⟩ := run_append_fits (P := P) w base t ty e i i.size ht hi rfl g n cap xs hown a m c news hl hnews h1 hroom
      rw [hr] at hr2
      simp only [Result.ok.injEq] at hr2
      obtain ⟨rfl, rfl⟩ := hr2
      refine ⟨.inl rfl, fun B2 v2 n2 xs2 h2 hn2 => ?_⟩
      by_cases hb : v2.ownBlock = some g
      · have hle := hn2 hb
        rcases h2.2 with ⟨rfl, _⟩ | ⟨g2, cap2, cur2, rfl, q1, q2, q3, q4, q5, q6⟩
        · simp [Value.ownBlock] at hb
        · simp only [Value.ownBlock, Option.some.injEq] at hb
          subst hb
          rw [hgc] at q2
          simp only [Option.some.injEq, Obj.cells.injEq, and_true] at q2
          obtain rfl : cur = cur2 := q2
          rcases ho2.2 with ⟨h, _⟩ | ⟨g3, cap3, cur3, h, r1, r2, r3, r4, r5, r6⟩
          · cases h
          · cases h
            refine ⟨h2.1, .inr ⟨_, cap2, cur3, rfl, q1, r2, q3, q4, by rw [r5, ← hcs, q5], ?_⟩⟩
            have e1 : n2 * i.size ≤ n * i.size := Nat.mul_le_mul_right _ hle
            have e2 : n2 * i.size ≤ (n + m) * i.size := Nat.mul_le_mul_right _ (by omega)
            have e3 : cur3.toList.take (n2 * i.size) = (cur3.toList.take ((n + m) * i.size)).take (n2 * i.size) := by rw [List.take_take, Nat.min_eq_left e2]
            rw [e3, r6, List.take_append_of_le_length (by rw [hown.1]; exact e1), ← htake, List.take_take, Nat.min_eq_left e1]
            exact q6
      · exact h2.kept hg (.inr hb)
    · have h := run_append_grow (P := P) w t ty e i z ht hi hz ⟨g, 0, none⟩ n cap xs hown.1 (hown.cells (g := g) rfl) a m c news hl hnews (by omega) (by unfold maxLen at h63; omega) (growslice_fits (by omega) hbytes)
      rw [hr] at h
      simp only [Result.ok.injEq] at h
      refine ⟨.inr (by rw [h.1]; rfl), fun B2 v2 n2 xs2 h2 _ => ⟨h2.1, ?_⟩⟩
      rcases h2.2 with h3 | ⟨g2, cap2, cur2, rfl, q1, q2, q3⟩
      · exact .inl h3
      · refine .inr ⟨g2, cap2, cur2, rfl, q1, ?_, q3⟩
        have hlt := (Array.getElem?_eq_some_iff.1 q2).1
        rw [h.2]
        exact (heap_alloc_old w.drew _ hlt).trans q2
/-- THE OPERATION -/
theorem wp_append_all {P : Program} {w : World} {o : Oper} {a : Act} {K : Act → World → Prop} {Q : Exit → Act → World → Prop} (s x : Operand) (t : TypeId)
    (ho : o.op = .call { callee := .builtin .append, args := #[s, x], argTypes := #[t, t] })
    (base : Nat) (e : TypeId) (i : TypeInfo) (z : Value) (size bytes : Nat) (ht : P.underlying t = some (.slice e)) (hi : P.info? e = some i) (hz : i.zero = some z)
    (hsize : i.size = size) (hby : i.bytes = bytes) (hzs : z.cells.size = size) (hsz : 0 < size) (v : Value) (n : Nat) (xs : List Value) (hs : a.eval s = v) (hown : w.ownsRow base e size v n xs)
    (ad : Addr) (m c : Nat) (news : List Value) (hx : a.eval x = .slice (some ad) m c) (hl : news.length = m * size) (hnews : ∀ j u, news[j]? = some u → w.cell? (ad.add j) = some u) (h1 : ∀ u ∈ news, u.oneCell' = true)
    (h63 : n + m ≤ maxLen) (hbytes : (n + m) * bytes ≤ 140737488355328) (hbase : base ≤ w.heap.size)
    (h : ∀ v' w', w'.ownsRow base e size v' (n + m) (xs ++ news) → w.grownBy w' v.ownBlock → (v'.ownBlock = v.ownBlock ∨ v'.ownBlock = some w.heap.size) →
      (∀ B2 v2 n2 xs2, w.ownsRow B2 e size v2 n2 xs2 → (v2.ownBlock = v.ownBlock → n2 ≤ n) → w'.ownsRow B2 e size v2 n2 xs2) → K (a.put o.dst v') w') : o.wp P a w K Q := by
  obtain ⟨v', w', hr, h2, h3, h4, h5⟩ := append_all (P := P) w base t o.type e i z size bytes ht hi hz hsize hby hzs hsz v n xs hown ad m c news hl hnews h1 h63 hbytes hbase
  unfold Oper.wp execOp
  simp only [ho, resolve, invoke, builtin, Sem.run_bind, Sem.run_pure, Result.andThen_ok, List.map_toArray, List.map_cons, List.map_nil, hs, hx, hr]
  exact h v' w' h2 h3 h4 h5
end Go.Proofs.YtohkllmhknjkoaaDoor.Apy

/-
  Where a slice of a call's own lies behind an append: where it lay, or in a new block.
-/
namespace Go.Proofs.YtohkllmhknjkoaaDoor.Apx
open Go Go.RowKit Go.Proofs.YtohkllmhknjkoaaDoor.App
set_option linter.unusedVariables false

theorem append_where {P : Program} (w : World) (base : Nat) (t ty e : TypeId) (i : TypeInfo) (z : Value) (bytes : Nat) (ht : P.underlying t = some (.slice e)) (hi : P.info? e = some i) (hz : i.zero = some z)
    (hsize : i.size = 1) (hby : i.bytes = bytes) (hzs : z.cells.size = 1) (v : Value) (n : Nat) (xs : List Value) (hown : w.ownsRow base e 1 v n xs)
    (a : Addr) (c : Nat) (x : Value) (hx : w.cell? a = some x) (h1 : x.oneCell' = true) (h63 : n + 1 ≤ maxLen) (hbytes : (n + 1) * bytes ≤ 140737488355328) (hbase : base ≤ w.heap.size) :
    ∃ v' w', (Builtin.append_ #[t, t] ty #[v, .slice (some a) 1 c]).run P w = .ok v' w' ∧ w'.ownsRow base e 1 v' (n + 1) (xs ++ [x]) ∧ w.grownBy w' v.ownBlock ∧ (v'.ownBlock = v.ownBlock ∨ v'.ownBlock = some w.heap.size) := by
  have hn : ∀ j u, [x][j]? = some u → w.cell? (a.add j) = some u := fun j u hu => by
    cases j with
    | zero =>
      simp only [List.getElem?_cons_zero, Option.some.injEq] at hu
      rw [← hu]
      exact hx
    | succ j => simp at hu
  obtain ⟨v', w', hr, ho, hg, _⟩ := run_append_own (P := P) w base t ty e i z 1 bytes ht hi hz hsize hby hzs (by decide) v n xs hown a 1 c [x] rfl hn (by simpa using h1) h63 hbytes hbase
  refine ⟨v', w', hr, ho, hg, ?_⟩
  rcases hown.2 with ⟨rfl, rfl⟩ | ⟨g, cap, cur, rfl, hbg, hgc, hnc, hcm, hcs, htake⟩
  · have h := run_append_nil (P := P) w t ty e i z ht hi hz a 1 c [x] (by rw [hsize]; rfl) hn (by omega) (by unfold maxLen at h63; omega) (by rw [hby]; have hb := hbytes; simp at hb ⊢; omega)
    rw [hr] at h
    simp only [Result.ok.injEq] at h
    exact .inr (by rw [h.1]; rfl)
  · by_cases hroom : n + 1 ≤ cap
    · have h := run_append_room (P := P) w t ty e i ht hi g n cap cur hgc a 1 c [x] (by rw [hsize]; rfl) hn (by simpa using h1) hroom (by rw [hsize, hcs]; simp; omega)
      rw [hr] at h
      simp only [Result.ok.injEq] at h
      exact .inl (by rw [h.1]; rfl)
    · have h := run_append_grow (P := P) w t ty e i z ht hi hz ⟨g, 0, none⟩ n cap xs (by rw [hsize]; exact hown.1) (hown.cells (g := g) rfl) a 1 c [x] (by rw [hsize]; rfl) hn (by omega) (by unfold maxLen at h63; omega) (growslice_fits (by unfold maxLen at h63; omega) (by rw [hby]; exact hbytes))
      rw [hr] at h
      simp only [Result.ok.injEq] at h
      exact .inr (by rw [h.1]; rfl)
theorem wp_append_where {P : Program} {w : World} {o : Oper} {a : Act} {K : Act → World → Prop} {Q : Exit → Act → World → Prop} (s x : Operand) (t : TypeId)
    (ho : o.op = .call { callee := .builtin .append, args := #[s, x], argTypes := #[t, t] })
    (base : Nat) (e : TypeId) (i : TypeInfo) (z : Value) (bytes : Nat) (ht : P.underlying t = some (.slice e)) (hi : P.info? e = some i) (hz : i.zero = some z)
    (hsize : i.size = 1) (hby : i.bytes = bytes) (hzs : z.cells.size = 1) (v : Value) (n : Nat) (xs : List Value) (hs : a.eval s = v) (hown : w.ownsRow base e 1 v n xs)
    (ad : Addr) (c : Nat) (u : Value) (hx : a.eval x = .slice (some ad) 1 c) (hu : w.cell? ad = some u) (h1 : u.oneCell' = true)
    (h63 : n + 1 ≤ maxLen) (hbytes : (n + 1) * bytes ≤ 140737488355328) (hbase : base ≤ w.heap.size)
    (h : ∀ v' w', w'.ownsRow base e 1 v' (n + 1) (xs ++ [u]) → w.grownBy w' v.ownBlock → (v'.ownBlock = v.ownBlock ∨ v'.ownBlock = some w.heap.size) → K (a.put o.dst v') w') : o.wp P a w K Q := by
  obtain ⟨v', w', hr, h2, h3, h4⟩ := append_where (P := P) w base t o.type e i z bytes ht hi hz hsize hby hzs v n xs hown ad c u hu h1 h63 hbytes hbase
  unfold Oper.wp execOp
  simp only [ho, resolve, invoke, builtin, Sem.run_bind, Sem.run_pure, Result.andThen_ok, List.map_toArray, List.map_cons, List.map_nil, hs, hx, hr]
  exact h v' w' h2 h3 h4
theorem wpList_append_where {P : Program} {w : World} {ops : Array Oper} {rest : List Oper} {o : Oper} {a : Act} {Q : Exit → Act → World → Prop} (hgd : o.guard = none) (s x : Operand) (t : TypeId)
    (ho : o.op = .call { callee := .builtin .append, args := #[s, x], argTypes := #[t, t] })
    (base : Nat) (e : TypeId) (i : TypeInfo) (z : Value) (bytes : Nat) (ht : P.underlying t = some (.slice e)) (hi : P.info? e = some i) (hz : i.zero = some z)
    (hsize : i.size = 1) (hby : i.bytes = bytes) (hzs : z.cells.size = 1) (v : Value) (n : Nat) (xs : List Value) (hs : a.eval s = v) (hown : w.ownsRow base e 1 v n xs)
    (ad : Addr) (c : Nat) (u : Value) (hx : a.eval x = .slice (some ad) 1 c) (hu : w.cell? ad = some u) (h1 : u.oneCell' = true)
    (h63 : n + 1 ≤ maxLen) (hbytes : (n + 1) * bytes ≤ 140737488355328) (hbase : base ≤ w.heap.size)
    (h : ∀ v' w', w'.ownsRow base e 1 v' (n + 1) (xs ++ [u]) → w.grownBy w' v.ownBlock → (v'.ownBlock = v.ownBlock ∨ v'.ownBlock = some w.heap.size) → wpList P ops Q rest (a.put o.dst v') w') : wpList P ops Q (o :: rest) a w :=
  wpList_plain hgd fun _ hK => wp_append_where s x t ho base e i z bytes ht hi hz hsize hby hzs v n xs hs hown ad c u hx hu h1 h63 hbytes hbase fun v' w' h2 h3 h4 => hK _ _ (h v' w' h2 h3 h4)
theorem wp_made {P : Program} {o : Oper} {a : Act} {w : World} {K : Act → World → Prop} {Q : Exit → Act → World → Prop} (w' : World) (v : Value) (h : (execOp a.eval o).run P w = .ok (.value v) w') (hK : K (a.put o.dst v) w') : o.wp P a w K Q := by
  unfold Oper.wp
  rw [h]
  exact hK
end Go.Proofs.YtohkllmhknjkoaaDoor.Apx

