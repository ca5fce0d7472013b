/-
  The walk of the drawn law on MeetRects and HullRects.
-/
import Derived.Test.YtjaibahghldllaaDrawMR
import Derived.Test.YtjaibahghldllaaInRectWalk
import Derived.Test.YtjaibahghldllaaMeetWalk
import Derived.Test.YtjaibahghldllaaHullWalk
import Derived.Test.YtjaibahghldllaaFreeL
namespace Go.Proofs.Ytjaibahghldllaa.fnMeetHull
open Go.RowKit Go.Proofs.Ytjaibahghldllaa.Plain Go.Proofs.Ytjaibahghldllaa.Base Go.Proofs.Ytjaibahghldllaa.Pat Go.Proofs.Ytjaibahghldllaa.Rect Go.Proofs.Ytjaibahghldllaa.Rd Go.Proofs.Ytjaibahghldllaa.Meet Go.Proofs.Ytjaibahghldllaa.FreeL
open Go.Proofs.Ytjaibahghldllaa.Free (fill wp_value wp_enter wp_load_row freeB)
open Go.Proofs.Ytjaibahghldllaa.Rd6 (eget)
set_option linter.unusedVariables false

/-- whether a small row and a small column are in a rectangle -/
def inF (r c : Int) (i k : Nat) : Bool := someB r c && (r.toNat.testBit i && c.toNat.testBit k)
theorem in_impl (r c : Int) (i k : Nat) (hi : i < 8) (hk : k < 8) (w : World) :
    Calls Try.prog 10 #[rect r c, .int .i64 (i : Int), .int .i64 (k : Int)] w fun e w' => e = .returned (.bool (inF r c i k)) ∧ Below w.heap.size w w' := by
  unfold inF
  by_cases h : someB r c = true
  · have hh := (someB_iff r c).1 h
    obtain ⟨R, rfl⟩ := Int.eq_ofNat_of_zero_le (show 0 ≤ r by omega)
    obtain ⟨C, rfl⟩ := Int.eq_ofNat_of_zero_le (show 0 ≤ c by omega)
    rw [h, Bool.true_and]
    exact fnExactInRect.impl_yes R C i k h _ _ (fun W => inSet_yes R i (by omega) hi W) (fun W => inSet_yes C k (by omega) hk W) w
  · have h' : someB r c = false := by simpa using h
    rw [h', Bool.false_and]
    exact fnExactInRect.impl_none r c i k h' w

theorem and_i64 (A B : Nat) (hA : A < 256) (hB : B < 256) : Go.bits .and .i64 (A : Int) B = ((A &&& B : Nat) : Int) :=
  (bits_nat .i64 8 (by decide) (fun n h0 h1 => by rw [IntKind.wrap_i64]; omega) A B (by omega) (by omega)).1
theorem or_i64 (A B : Nat) (hA : A < 256) (hB : B < 256) : Go.bits .or .i64 (A : Int) B = ((A ||| B : Nat) : Int) :=
  (bits_nat .i64 8 (by decide) (fun n h0 h1 => by rw [IntKind.wrap_i64]; omega) A B (by omega) (by omega)).2
theorem or_and_left (A B : Nat) : (A ||| B) &&& A = A := by
  apply Nat.eq_of_testBit_eq
  intro i
  rw [Nat.testBit_and, Nat.testBit_or]
  cases A.testBit i <;> simp
theorem bit_pos {n i : Nat} (h : n.testBit i = true) : 1 ≤ n := by
  cases n with
  | zero => simp at h
  | succ n => omega

/-- what both find, and how the entries go by it -/
theorem facts (r c r2 c2 : Int) : ∃ (A B H G : Int) (t f : Bool),
    (∀ w, Calls Try.prog 6 #[rect r c, rect r2 c2] w fun e w' => e = .returned (.tuple #[rect A B, .bool t]) ∧ Below w.heap.size w w') ∧
    (∀ w, Calls Try.prog 7 #[rect r c, rect r2 c2] w fun e w' => e = .returned (.tuple #[rect A B, .bool t]) ∧ Below w.heap.size w w') ∧
    (∀ w, Calls Try.prog 8 #[rect r c, rect r2 c2] w fun e w' => e = .returned (.tuple #[rect H G, .bool f]) ∧ Below w.heap.size w w') ∧
    (∀ w, Calls Try.prog 9 #[rect r c, rect r2 c2] w fun e w' => e = .returned (.tuple #[rect H G, .bool f]) ∧ Below w.heap.size w w') ∧
    ((f = false ∧ t = false) ∨ (f = true ∧ (∀ i k : Nat, inF A B i k = (inF r c i k && inF r2 c2 i k)) ∧ (∀ i k : Nat, (inF r c i k || inF r2 c2 i k) = true → inF H G i k = true) ∧
      (∀ w, Calls Try.prog 6 #[rect H G, rect r c] w fun e w' => e = .returned (.tuple #[rect r c, .bool true]) ∧ Below w.heap.size w w') ∧
      (∀ w, Calls Try.prog 6 #[rect r2 c2, rect r c] w fun e w' => e = .returned (.tuple #[rect A B, .bool t]) ∧ Below w.heap.size w w'))) := by
  by_cases h1 : someB r c = true
  · by_cases h2 : someB r2 c2 = true
    · have i1 := (someB_iff r c).1 h1
      have i2 := (someB_iff r2 c2).1 h2
      obtain ⟨R, rfl⟩ := Int.eq_ofNat_of_zero_le (show 0 ≤ r by omega)
      obtain ⟨C, rfl⟩ := Int.eq_ofNat_of_zero_le (show 0 ≤ c by omega)
      obtain ⟨R2, rfl⟩ := Int.eq_ofNat_of_zero_le (show 0 ≤ r2 by omega)
      obtain ⟨C2, rfl⟩ := Int.eq_ofNat_of_zero_le (show 0 ≤ c2 by omega)
      have hR : R < 256 := by omega
      have hC : C < 256 := by omega
      have hR2 : R2 < 256 := by omega
      have hC2 : C2 < 256 := by omega
      have oR : R ||| R2 < 256 := Nat.or_lt_two_pow (n := 8) (by omega) (by omega)
      have oC : C ||| C2 < 256 := Nat.or_lt_two_pow (n := 8) (by omega) (by omega)
      have gR : R ≤ R ||| R2 := Nat.left_le_or
      have gC : C ≤ C ||| C2 := Nat.left_le_or
      have ha := spec_meetC R C R2 C2 h1 h2
      have hb := impl_meetC R C R2 C2 h1 h2
      have hc := spec_hullC R C R2 C2 h1 h2
      have hd := impl_hullC R C R2 C2 h1 h2
      have h3 : someB ((R ||| R2 : Nat) : Int) ((C ||| C2 : Nat) : Int) = true := (someB_iff _ _).2 ⟨⟨by omega, by omega⟩, by omega, by omega⟩
      have he := impl_meetC ((R ||| R2 : Nat) : Int) ((C ||| C2 : Nat) : Int) R C h3 h1
      have hf := impl_meetC R2 C2 R C h2 h1
      rw [and_i64 _ _ oR hR, and_i64 _ _ oC hC, or_and_left, or_and_left, h1] at he
      rw [and_i64 _ _ hR2 hR, and_i64 _ _ hC2 hC, Nat.and_comm R2 R, Nat.and_comm C2 C] at hf
      rw [and_i64 _ _ hR hR2, and_i64 _ _ hC hC2] at ha hb
      rw [or_i64 _ _ hR hR2, or_i64 _ _ hC hC2] at hc hd
      rw [h3] at hd
      unfold orZero at ha hb hd he hf
      have hull : ∀ i k : Nat, (inF R C i k || inF R2 C2 i k) = true → inF ((R ||| R2 : Nat) : Int) ((C ||| C2 : Nat) : Int) i k = true := by
        intro i k h
        unfold inF at h ⊢
        rw [h1, h2] at h
        rw [h3]
        simp only [Int.toNat_natCast, Nat.testBit_or, Bool.true_and] at h ⊢
        revert h
        cases R.testBit i <;> cases C.testBit k <;> cases R2.testBit i <;> cases C2.testBit k <;> simp
      by_cases h4 : someB ((R &&& R2 : Nat) : Int) ((C &&& C2 : Nat) : Int) = true
      · rw [h4, if_pos rfl] at ha hb hf
        refine ⟨_, _, _, _, _, _, hb, ha, hd, hc, .inr ⟨rfl, ?_, hull, he, hf⟩⟩
        intro i k
        unfold inF
        rw [h1, h2, h4]
        simp only [Int.toNat_natCast, Nat.testBit_and, Bool.true_and]
        cases R.testBit i <;> cases C.testBit k <;> cases R2.testBit i <;> cases C2.testBit k <;> rfl
      · have h5 : someB ((R &&& R2 : Nat) : Int) ((C &&& C2 : Nat) : Int) = false := by simpa using h4
        rw [h5, if_neg (by decide)] at ha hb hf
        refine ⟨_, _, _, _, _, _, hb, ha, hd, hc, .inr ⟨rfl, ?_, hull, he, hf⟩⟩
        intro i k
        have hz : inF 0 0 i k = false := rfl
        rw [hz]
        unfold inF
        rw [h1, h2]
        simp only [Int.toNat_natCast, Bool.true_and]
        cases hx : ((R.testBit i && C.testBit k) && (R2.testBit i && C2.testBit k))
        · rfl
        · exfalso
          simp only [Bool.and_eq_true] at hx
          have p1 : (R &&& R2).testBit i = true := by rw [Nat.testBit_and, hx.1.1, hx.2.1]; rfl
          have p2 : (C &&& C2).testBit k = true := by rw [Nat.testBit_and, hx.1.2, hx.2.2]; rfl
          have q1 := bit_pos p1
          have q2 := bit_pos p2
          have l1 : R &&& R2 ≤ R := Nat.and_le_left
          have l2 : C &&& C2 ≤ C := Nat.and_le_left
          exact h4 ((someB_iff _ _).2 ⟨⟨by omega, by omega⟩, by omega, by omega⟩)
    · rw [Bool.not_eq_true] at h2
      exact ⟨_, _, _, _, _, _, impl_meetB r c r2 c2 h1 h2, spec_meetB r c r2 c2 h1 h2, impl_hullB r c r2 c2 h1 h2, spec_hullB r c r2 c2 h1 h2, .inl ⟨rfl, rfl⟩⟩
  · rw [Bool.not_eq_true] at h1
    exact ⟨_, _, _, _, _, _, impl_meetA r c r2 c2 h1, spec_meetA r c r2 c2 h1, impl_hullA r c r2 c2 h1, spec_hullA r c r2 c2 h1, .inl ⟨rfl, rfl⟩⟩

/-- block b holds a rectangle -/
def At (w : World) (b : Nat) (x y : Int) : Prop := w.heap[b]? = some (.cells #[.int .i64 x, .int .i64 y] 24 (0, 0))
theorem At.on {w w1 : World} {b : Nat} {x y : Int} (h : At w b x y) (hb : Below w.heap.size w w1) : At w1 b x y :=
  (hb.block b (Array.getElem?_eq_some_iff.1 h).1).trans h
theorem At.alloc {w : World} {b : Nat} {x y : Int} (h : At w b x y) (o : Obj) : At (w.alloc o) b x y := h.on ((Below.refl w.heap.size w).alloc (Nat.le_refl _) _)
theorem At.cells {w : World} {b : Nat} {x y : Int} (h : At w b x y) : w.cell? ⟨b, 0, none⟩ = some (.int .i64 x) ∧ w.cell? ⟨b, 1, none⟩ = some (.int .i64 y) :=
  ⟨cell_of_row _ _ 0 _ _ _ h, cell_of_row _ _ 1 _ _ _ h⟩
theorem infoI : (Try.prog.info? 24).map (·.size) = some 2 := by kernel_rfl
/-- two rectangles' blocks -/
structure K2 (w wr : World) (b1 b2 : Nat) (r c r2 c2 : Int) : Prop where
  one : At wr b1 r c
  two : At wr b2 r2 c2
  below : Below w.heap.size w wr
theorem K2.on {w wr w2 : World} {b1 b2 : Nat} {r c r2 c2 : Int} (h : K2 w wr b1 b2 r c r2 c2) (hb : Below wr.heap.size wr w2) : K2 w w2 b1 b2 r c r2 c2 := ⟨h.one.on hb, h.two.on hb, rstep h.below hb⟩
theorem K2.alloc {w wr : World} {b1 b2 : Nat} {r c r2 c2 : Int} (h : K2 w wr b1 b2 r c r2 c2) (o : Obj) : K2 w (wr.alloc o) b1 b2 r c r2 c2 := h.on ((Below.refl wr.heap.size wr).alloc (Nat.le_refl _) _)

/-- four rectangles' blocks -/
structure K4 (w wr : World) (b1 b2 b3 b4 : Nat) (r c r2 c2 A B H G : Int) : Prop where
  k : K2 w wr b1 b2 r c r2 c2
  three : At wr b3 A B
  four : At wr b4 H G
theorem K4.on {w wr w2 : World} {b1 b2 b3 b4 : Nat} {r c r2 c2 A B H G : Int} (h : K4 w wr b1 b2 b3 b4 r c r2 c2 A B H G) (hb : Below wr.heap.size wr w2) : K4 w w2 b1 b2 b3 b4 r c r2 c2 A B H G := ⟨h.k.on hb, h.three.on hb, h.four.on hb⟩
theorem K4.alloc {w wr : World} {b1 b2 b3 b4 : Nat} {r c r2 c2 A B H G : Int} (h : K4 w wr b1 b2 b3 b4 r c r2 c2 A B H G) (o : Obj) : K4 w (wr.alloc o) b1 b2 b3 b4 r c r2 c2 A B H G := h.on ((Below.refl wr.heap.size wr).alloc (Nat.le_refl _) _)

set_option maxHeartbeats 4000000 in
set_option maxRecDepth 100000 in
theorem walk (v : Value) (n : Nat) (w : World) (h : ByteArg w v n) :
    Calls Try.prog 3 #[v] w fun e w' => e = .returned (.bool true) ∧ Below w.heap.size w w' := by
  obtain ⟨hn0, a, cap, rfl, hc, hb0⟩ := id h
  clear hb0
  have HD := Lib.hid (DrawMR.draw_any _ n w h)
  clear h
  by_cases hbig : 1048576 < n
  · have hbi : (1048576 : Int) < (n : Int) := by omega
    go_enter Try.func3, Try.ntmps3
    go_wp2_with fail
    go_ret
    exact ⟨rfl, Below.refl _ _⟩
  · have hbi : ¬ (1048576 : Int) < (n : Int) := by omega
    go_enter Try.func3, Try.ntmps3
    go_wp2_with fail
    refine HD.out.mono ?_
    rintro e w1 ⟨r, c, r2, c2, rfl, -, -, -, -, hb⟩
    have HB := Lib.hid hb
    clear hb HD hbig hbi
    obtain ⟨A, B, H, G, t, f, hmi, hms, hhi, hhs, hall⟩ := facts r c r2 c2
    have HMI := Lib.hid hmi
    have HMS := Lib.hid hms
    have HHI := Lib.hid hhi
    have HHS := Lib.hid hhs
    have HALL := Lib.hid hall
    clear hmi hms hhi hhs hall
    go_wp2_with fail
    have HK : Hid (K2 w ((w1.alloc (.cells #[.int .i64 r, .int .i64 c] 24)).alloc (.cells #[.int .i64 r2, .int .i64 c2] 24)) w1.heap.size (w1.heap.size + 1) r c r2 c2) := by
      refine ⟨At.alloc (heap_alloc_new w1 _) _, ?_, (HB.out.alloc HB.out.size _).alloc (by have := HB.out.size; simp; omega) _⟩
      have := heap_alloc_new (w1.alloc (.cells #[.int .i64 r, .int .i64 c] 24)) (.cells #[.int .i64 r2, .int .i64 c2] 24)
      rwa [World.size_alloc] at this
    obtain ⟨B0, hB⟩ : ∃ x, w1.heap.size = x := ⟨_, rfl⟩
    rw [hB] at HK
    refine (HMI.out _).mono ?_
    rintro e w2 ⟨rfl, hb2⟩
    have hk2 := HK.out.on hb2
    have HK2 : Hid (K2 w (w2.alloc (.cells #[.int .i64 A, .int .i64 B] 24)) B0 (B0 + 1) r c r2 c2) := hk2.alloc _
    have HB52 : Hid (At (w2.alloc (.cells #[.int .i64 A, .int .i64 B] 24)) w2.heap.size A B) := heap_alloc_new w2 _
    obtain ⟨b5, hb5⟩ : ∃ x, w2.heap.size = x := ⟨_, rfl⟩
    obtain ⟨pp0, pp1⟩ := HK2.out.one.cells
    obtain ⟨ss0, ss1⟩ := HK2.out.two.cells
    clear hb2 hk2 HK
    rw [hb5] at HB52
    go_wp2_with fail
    clear pp0 pp1 ss0 ss1 hb5 hB
    refine (HMS.out _).mono ?_
    rintro e w3 ⟨rfl, hb3⟩
    have hk3 := HK2.out.on hb3
    have HK3 : Hid (K2 w (w3.alloc (.cells #[.int .i64 A, .int .i64 B] 24)) B0 (B0 + 1) r c r2 c2) := hk3.alloc _
    have HB53 : Hid (At (w3.alloc (.cells #[.int .i64 A, .int .i64 B] 24)) b5 A B) := (HB52.out.on hb3).alloc _
    have HB73 : Hid (At (w3.alloc (.cells #[.int .i64 A, .int .i64 B] 24)) w3.heap.size A B) := heap_alloc_new w3 _
    obtain ⟨b7, hb7⟩ : ∃ x, w3.heap.size = x := ⟨_, rfl⟩
    obtain ⟨pp0, pp1⟩ := HK3.out.one.cells
    obtain ⟨ss0, ss1⟩ := HK3.out.two.cells
    clear hb3 hk3 HK2 HB52
    rw [hb7] at HB73
    go_wp2_with fail
    clear pp0 pp1 ss0 ss1 hb7
    refine (HHI.out _).mono ?_
    rintro e w4 ⟨rfl, hb4⟩
    have hk4 := HK3.out.on hb4
    have HK4 : Hid (K2 w (w4.alloc (.cells #[.int .i64 H, .int .i64 G] 24)) B0 (B0 + 1) r c r2 c2) := hk4.alloc _
    have HB54 : Hid (At (w4.alloc (.cells #[.int .i64 H, .int .i64 G] 24)) b5 A B) := (HB53.out.on hb4).alloc _
    have HB74 : Hid (At (w4.alloc (.cells #[.int .i64 H, .int .i64 G] 24)) b7 A B) := (HB73.out.on hb4).alloc _
    have HB94 : Hid (At (w4.alloc (.cells #[.int .i64 H, .int .i64 G] 24)) w4.heap.size H G) := heap_alloc_new w4 _
    obtain ⟨b9, hb9⟩ : ∃ x, w4.heap.size = x := ⟨_, rfl⟩
    obtain ⟨pp0, pp1⟩ := HK4.out.one.cells
    obtain ⟨ss0, ss1⟩ := HK4.out.two.cells
    clear hb4 hk4 HK3 HB53 HB73
    rw [hb9] at HB94
    go_wp2_with fail
    clear pp0 pp1 ss0 ss1 hb9
    refine (HHS.out _).mono ?_
    rintro e w5 ⟨rfl, hb5⟩
    have hk5 := HK4.out.on hb5
    have HK5 : Hid (K2 w (w5.alloc (.cells #[.int .i64 H, .int .i64 G] 24)) B0 (B0 + 1) r c r2 c2) := hk5.alloc _
    have HB55 : Hid (At (w5.alloc (.cells #[.int .i64 H, .int .i64 G] 24)) b5 A B) := (HB54.out.on hb5).alloc _
    have HB75 : Hid (At (w5.alloc (.cells #[.int .i64 H, .int .i64 G] 24)) b7 A B) := (HB74.out.on hb5).alloc _
    have HB95 : Hid (At (w5.alloc (.cells #[.int .i64 H, .int .i64 G] 24)) b9 H G) := (HB94.out.on hb5).alloc _
    have HB115 : Hid (At (w5.alloc (.cells #[.int .i64 H, .int .i64 G] 24)) w5.heap.size H G) := heap_alloc_new w5 _
    obtain ⟨b11, hb11⟩ : ∃ x, w5.heap.size = x := ⟨_, rfl⟩
    obtain ⟨pp0, pp1⟩ := HK5.out.one.cells
    obtain ⟨ss0, ss1⟩ := HK5.out.two.cells
    clear hb5 hk5 HK4 HB54 HB74 HB94
    rw [hb11] at HB115
    obtain ⟨hb50, hb51⟩ := HB55.out.cells
    obtain ⟨hb70, hb71⟩ := HB75.out.cells
    obtain ⟨hb90, hb91⟩ := HB95.out.cells
    obtain ⟨hb110, hb111⟩ := HB115.out.cells
    rcases HALL.out with ⟨rfl, rfl⟩ | ⟨rfl, hall⟩
    · go_wp2_with fail
      go_ret
      exact ⟨rfl, HK5.out.below⟩
    · have HIN := Lib.hid hall
      have HK := Lib.hid (K4.mk HK5.out HB55.out HB95.out)
      clear hall HK5 HB55 HB95 HALL
      go_wp2_with fail
      clear hb50 hb51 hb70 hb71 hb90 hb91 hb110 hb111 pp0 pp1 ss0 ss1 hb11 HB75 HB115
      go_loopw [13] (fun x wr => ∃ i : Nat, i ≤ 8 ∧ x = .int .i64 (i : Int) ∧ Hid (K4 w wr B0 (B0 + 1) b5 b9 r c r2 c2 A B H G)) (fun x _ => 8 - (intOf x).toNat)
      case atStart => exact ⟨0, by omega, rfl, HK⟩
      case round =>
        obtain ⟨i, hi, rfl, HKr⟩ := hrel
        clear HK
        by_cases hlt : i < 8
        · have hil : (i : Int) < 8 := by omega
          go_wp2_with fail
          go_loopw [14] (fun y wr => ∃ k : Nat, k ≤ 8 ∧ y = .int .i64 (k : Int) ∧ Hid (K4 w wr B0 (B0 + 1) b5 b9 r c r2 c2 A B H G)) (fun y _ => 8 - (intOf y).toNat)
          case atStart => exact ⟨0, by omega, rfl, HKr⟩
          case round =>
            obtain ⟨k, hk, rfl, HK'⟩ := hrel
            clear HKr
            by_cases hlt' : k < 8
            · have hkl : (k : Int) < 8 := by omega
              have hp := fun W => in_impl r c i k hlt hlt' W
              have hq := fun W => in_impl r2 c2 i k hlt hlt' W
              have ha := fun W => in_impl A B i k hlt hlt' W
              have hz := fun W => in_impl H G i k hlt hlt' W
              rw [HIN.out.1 i k] at ha
              have hz2 := HIN.out.2.1 i k
              generalize inF r c i k = p at hp ha hz2
              generalize inF r2 c2 i k = q at hq ha hz2
              generalize inF H G i k = z at hz hz2
              have HP := Lib.hid hp
              have HQ := Lib.hid hq
              have HA := Lib.hid ha
              have HZ := Lib.hid hz
              have HZ2 := Lib.hid hz2
              clear hp hq ha hz hz2
              go_wp2_with fail
              refine wp_region_below (fun | 0 => rect r c | 1 => .int .i64 (i : Int) | 2 => .int .i64 (k : Int) | 3 => .bool p | 4 => rect r2 c2 | 5 => .int .i64 (i : Int) | 6 => .int .i64 (k : Int) | 7 => .bool q | 8 => .bool p | 9 => .bool q | _ => undef) (by kernel_rfl) (by kernel_rfl) rfl ?con ?en
              case con =>
                intro j o ho a w2 hb2 hf
                match j, ho with
                | 0, ho =>
                  obtain rfl := Option.some.inj ho
                  have bb : a.tmps[3]?.getD undef = .pointer (some ⟨B0, 0, none⟩) := hf.2 3 (by kernel_rfl)
                  exact wp_load_row 24 (.tmp 3) rfl B0 (eget bb) 24 _ (0, 0) _ (HK'.out.k.one.on hb2) Try.underlying24 rfl infoI ⟨rfl, Below.refl _ _⟩
                | 1, ho =>
                  obtain rfl := Option.some.inj ho
                  have bb : a.tmps[13]?.getD undef = .int .i64 (i : Int) := hf.2 13 (by kernel_rfl)
                  exact wp_value (.int .i64 (i : Int)) (by unfold execOp; go_simp) ⟨rfl, Below.refl _ _⟩
                | 2, ho =>
                  obtain rfl := Option.some.inj ho
                  have bb : a.tmps[14]?.getD undef = .int .i64 (k : Int) := hf.2 14 (by kernel_rfl)
                  exact wp_value (.int .i64 (k : Int)) (by unfold execOp; go_simp) ⟨rfl, Below.refl _ _⟩
                | 3, ho =>
                  obtain rfl := Option.some.inj ho
                  have e0 : a.tmps[108]?.getD undef = rect r c := hf.1 ⟨0, .data⟩ (by simp) rfl _ 108 rfl rfl
                  have e1 : a.tmps[109]?.getD undef = .int .i64 (i : Int) := hf.1 ⟨1, .data⟩ (by simp) rfl _ 109 rfl rfl
                  have e2 : a.tmps[110]?.getD undef = .int .i64 (k : Int) := hf.1 ⟨2, .data⟩ (by simp) rfl _ 110 rfl rfl
                  exact wp_enter 10 #[rect r c, .int .i64 (i : Int), .int .i64 (k : Int)] (.bool p) _ (by unfold execOp; go_simp) (HP.out w2) (fun w' h => ⟨rfl, h⟩)
                | 4, ho =>
                  obtain rfl := Option.some.inj ho
                  have bb : a.tmps[4]?.getD undef = .pointer (some ⟨(B0 + 1), 0, none⟩) := hf.2 4 (by kernel_rfl)
                  exact wp_load_row 24 (.tmp 4) rfl (B0 + 1) (eget bb) 24 _ (0, 0) _ (HK'.out.k.two.on hb2) Try.underlying24 rfl infoI ⟨rfl, Below.refl _ _⟩
                | 5, ho =>
                  obtain rfl := Option.some.inj ho
                  have bb : a.tmps[13]?.getD undef = .int .i64 (i : Int) := hf.2 13 (by kernel_rfl)
                  exact wp_value (.int .i64 (i : Int)) (by unfold execOp; go_simp) ⟨rfl, Below.refl _ _⟩
                | 6, ho =>
                  obtain rfl := Option.some.inj ho
                  have bb : a.tmps[14]?.getD undef = .int .i64 (k : Int) := hf.2 14 (by kernel_rfl)
                  exact wp_value (.int .i64 (k : Int)) (by unfold execOp; go_simp) ⟨rfl, Below.refl _ _⟩
                | 7, ho =>
                  obtain rfl := Option.some.inj ho
                  have e0 : a.tmps[112]?.getD undef = rect r2 c2 := hf.1 ⟨4, .data⟩ (by simp) rfl _ 112 rfl rfl
                  have e1 : a.tmps[113]?.getD undef = .int .i64 (i : Int) := hf.1 ⟨5, .data⟩ (by simp) rfl _ 113 rfl rfl
                  have e2 : a.tmps[114]?.getD undef = .int .i64 (k : Int) := hf.1 ⟨6, .data⟩ (by simp) rfl _ 114 rfl rfl
                  exact wp_enter 10 #[rect r2 c2, .int .i64 (i : Int), .int .i64 (k : Int)] (.bool q) _ (by unfold execOp; go_simp) (HQ.out w2) (fun w' h => ⟨rfl, h⟩)
                | 8, ho =>
                  obtain rfl := Option.some.inj ho
                  have bb : a.tmps[111]?.getD undef = .bool p := hf.1 ⟨3, .data⟩ (by simp) rfl _ 111 rfl rfl
                  exact wp_value (.bool p) (by unfold execOp; go_simp) ⟨rfl, Below.refl _ _⟩
                | 9, ho =>
                  obtain rfl := Option.some.inj ho
                  have bb : a.tmps[115]?.getD undef = .bool q := hf.1 ⟨7, .data⟩ (by simp) rfl _ 115 rfl rfl
                  exact wp_value (.bool q) (by unfold execOp; go_simp) ⟨rfl, Below.refl _ _⟩
                | j + 10, ho => simp at ho
              case en =>
                intro wx hb
                have HKw := Lib.hid (HK'.out.on hb)
                obtain ⟨x0, x1⟩ := HKw.out.three.cells
                clear hb HK'
                simp only [fill, Act.put]
                go_simp
                cases p
                · cases q
                  · go_wp2_with fail
                    refine (HA.out _).mono ?_
                    rintro e w6 ⟨rfl, hb6⟩
                    have HK6 := Lib.hid (HKw.out.on hb6)
                    clear hb6 HKw x0 x1
                    go_wp2_with fail
                    go_roundw
                    case rel => exact ⟨k + 1, by omega, by go_num, HK6⟩
                    case measure => simp [intOf]; omega
                  · go_wp2_with fail
                    refine (HA.out _).mono ?_
                    rintro e w6 ⟨rfl, hb6⟩
                    have HK6 := Lib.hid (HKw.out.on hb6)
                    have hz1 : z = true := HZ2.out rfl
                    obtain ⟨y0, y1⟩ := HK6.out.four.cells
                    clear hb6 HKw x0 x1
                    go_wp2_with fail
                    refine (HZ.out _).mono ?_
                    rintro e w7 ⟨rfl, hb7⟩
                    have HK7 := Lib.hid (HK6.out.on hb7)
                    clear hb7 HK6 y0 y1
                    subst hz1
                    go_wp2_with fail
                    go_roundw
                    case rel => exact ⟨k + 1, by omega, by go_num, HK7⟩
                    case measure => simp [intOf]; omega
                · cases q
                  · go_wp2_with fail
                    refine (HA.out _).mono ?_
                    rintro e w6 ⟨rfl, hb6⟩
                    have HK6 := Lib.hid (HKw.out.on hb6)
                    have hz1 : z = true := HZ2.out rfl
                    obtain ⟨y0, y1⟩ := HK6.out.four.cells
                    clear hb6 HKw x0 x1
                    go_wp2_with fail
                    refine (HZ.out _).mono ?_
                    rintro e w7 ⟨rfl, hb7⟩
                    have HK7 := Lib.hid (HK6.out.on hb7)
                    clear hb7 HK6 y0 y1
                    subst hz1
                    go_wp2_with fail
                    go_roundw
                    case rel => exact ⟨k + 1, by omega, by go_num, HK7⟩
                    case measure => simp [intOf]; omega
                  · go_wp2_with fail
                    refine (HA.out _).mono ?_
                    rintro e w6 ⟨rfl, hb6⟩
                    have HK6 := Lib.hid (HKw.out.on hb6)
                    have hz1 : z = true := HZ2.out rfl
                    obtain ⟨y0, y1⟩ := HK6.out.four.cells
                    clear hb6 HKw x0 x1
                    go_wp2_with fail
                    refine (HZ.out _).mono ?_
                    rintro e w7 ⟨rfl, hb7⟩
                    have HK7 := Lib.hid (HK6.out.on hb7)
                    clear hb7 HK6 y0 y1
                    subst hz1
                    go_wp2_with fail
                    go_roundw
                    case rel => exact ⟨k + 1, by omega, by go_num, HK7⟩
                    case measure => simp [intOf]; omega
            · obtain rfl : k = 8 := by omega
              go_wp2_with fail
              go_roundw
              case rel => exact ⟨i + 1, by omega, by go_num, HK'⟩
              case measure => simp [intOf]; omega
        · obtain rfl : i = 8 := by omega
          have HC := Lib.hid HIN.out.2.2.1
          have HE := Lib.hid HIN.out.2.2.2
          obtain ⟨p0, p1⟩ := HKr.out.k.one.cells
          obtain ⟨q0, q1⟩ := HKr.out.four.cells
          go_wp2_with fail
          refine (HC.out _).mono ?_
          rintro e w6 ⟨rfl, hb6⟩
          have HK6 : Hid (K4 w (w6.alloc (.cells #[.int .i64 r, .int .i64 c] 24)) B0 (B0 + 1) b5 b9 r c r2 c2 A B H G) := (HKr.out.on hb6).alloc _
          have H17 : Hid (At (w6.alloc (.cells #[.int .i64 r, .int .i64 c] 24)) w6.heap.size r c) := heap_alloc_new w6 _
          obtain ⟨b17, h17⟩ : ∃ x, w6.heap.size = x := ⟨_, rfl⟩
          rw [h17] at H17
          clear hb6 p0 p1 q0 q1 HKr HC
          obtain ⟨p0, p1⟩ := HK6.out.k.one.cells
          obtain ⟨q0, q1⟩ := HK6.out.k.two.cells
          go_wp2_with fail
          clear p0 p1 q0 q1 h17
          refine (HE.out _).mono ?_
          rintro e w7 ⟨rfl, hb7⟩
          have HK7 : Hid (K4 w (w7.alloc (.cells #[.int .i64 A, .int .i64 B] 24)) B0 (B0 + 1) b5 b9 r c r2 c2 A B H G) := (HK6.out.on hb7).alloc _
          have H177 : Hid (At (w7.alloc (.cells #[.int .i64 A, .int .i64 B] 24)) b17 r c) := (H17.out.on hb7).alloc _
          have H19 : Hid (At (w7.alloc (.cells #[.int .i64 A, .int .i64 B] 24)) w7.heap.size A B) := heap_alloc_new w7 _
          obtain ⟨b19, h19⟩ : ∃ x, w7.heap.size = x := ⟨_, rfl⟩
          rw [h19] at H19
          clear hb7 HK6 H17 HE
          obtain ⟨p0, p1⟩ := HK7.out.k.one.cells
          obtain ⟨q0, q1⟩ := H177.out.cells
          obtain ⟨m0, m1⟩ := H19.out.cells
          obtain ⟨n0, n1⟩ := HK7.out.three.cells
          cases t
          all_goals
            go_wp2_with fail
            go_ret
            exact ⟨rfl, HK7.out.k.below⟩
end Go.Proofs.Ytjaibahghldllaa.fnMeetHull
