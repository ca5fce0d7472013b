/-
  The reference's JoinMatrices where it answers false.
-/
import Derived.Test.YtalechngagkklaaDoorJoinI
namespace Go.Proofs.YtalechngagkklaaDoor.JoinN
open Go.RowKit Go.Proofs.YtalechngagkklaaDoor.Plain Go.Proofs.YtalechngagkklaaDoor.Base Go.Proofs.YtalechngagkklaaDoor.Valid Go.Proofs.YtalechngagkklaaDoor.Law Go.Proofs.YtalechngagkklaaDoor.GridPlain Go.Proofs.YtalechngagkklaaDoor.Grid Go.Proofs.YtalechngagkklaaDoor.Entry Go.Proofs.YtalechngagkklaaDoor.From Go.Proofs.YtalechngagkklaaDoor.JoinB Go.Proofs.YtalechngagkklaaDoor.Ops Go.Proofs.YtalechngagkklaaDoor.Join Go.Proofs.YtalechngagkklaaDoor.JoinI
set_option linter.unusedVariables false

set_option maxHeartbeats 2000000 in
theorem spec_unknown (op : ByteArray) (hk : opKnown op = false) (r c r2 c2 : Int) (s1 s2 : ByteArray) (hs1 : s1.size ≤ maxLen) (hs2 : s2.size ≤ maxLen)  (w : World) :
    Calls Tryd.prog 45 #[.string op, mat r c s1, mat r2 c2 s2] w fun e w' => e = .returned (.tuple #[mat 0 0 (str []), .bool false]) ∧ Below w.heap.size w w' := by
  have HK := Lib.hid hk
  clear hk
  go_enter Tryd.func45, Tryd.ntmps45
  go_wp2_with fail
  refine (known_any op _).mono ?_
  rintro e w' ⟨rfl, rfl⟩
  rw [HK.out]
  have HI0 := Lib.hid (BInv3.start w r c r2 c2 s1 s2)
  generalize ((w.alloc (.cells #[.int .i64 r, .int .i64 c, .string s1] 24)).alloc (.cells #[.int .i64 r2, .int .i64 c2, .string s2] 24)).alloc (.cells #[.int .i64 0, .int .i64 0, .string ⟨#[]⟩] 24) = W0 at *
  obtain ⟨m0, m1, m2⟩ := cells3 HI0.out.m
  obtain ⟨n0, n1, n2⟩ := cells3 HI0.out.n
  obtain ⟨d0, d1, d2⟩ := cells3 HI0.out.o
  obtain ⟨x0, x1, x2⟩ := free3 HI0.out.o
  have hz0 := HI0.out.size
  go_wp2_with fail
  refine bodyPost_ret (v := .tuple #[mat 0 0 (str []), .bool false]) (by simp [results, Tryd.results45, go_sem, d0, d1, d2]; rfl) rfl ⟨rfl, ?_⟩
  exact ((HI0.out.below.setCell (by simp; omega) _).setCell (by simp; omega) _).setCell (by simp; omega) _

set_option maxHeartbeats 2000000 in
theorem spec_bad1 (op : ByteArray) (hk : opKnown op = true) (r c r2 c2 : Int) (s1 s2 : ByteArray) (hs1 : s1.size ≤ maxLen) (hs2 : s2.size ≤ maxLen) (hv1 : validB r c s1 = false) (w : World) :
    Calls Tryd.prog 45 #[.string op, mat r c s1, mat r2 c2 s2] w fun e w' => e = .returned (.tuple #[mat 0 0 (str []), .bool false]) ∧ Below w.heap.size w w' := by
  have HK := Lib.hid hk
  have HV1 := Lib.hid hv1
  clear hk hv1
  go_enter Tryd.func45, Tryd.ntmps45
  go_wp2_with fail
  refine (known_any op _).mono ?_
  rintro e w' ⟨rfl, rfl⟩
  rw [HK.out]
  have HI0 := Lib.hid (BInv3.start w r c r2 c2 s1 s2)
  generalize ((w.alloc (.cells #[.int .i64 r, .int .i64 c, .string s1] 24)).alloc (.cells #[.int .i64 r2, .int .i64 c2, .string s2] 24)).alloc (.cells #[.int .i64 0, .int .i64 0, .string ⟨#[]⟩] 24) = W0 at *
  obtain ⟨m0, m1, m2⟩ := cells3 HI0.out.m
  obtain ⟨n0, n1, n2⟩ := cells3 HI0.out.n
  obtain ⟨d0, d1, d2⟩ := cells3 HI0.out.o
  obtain ⟨x0, x1, x2⟩ := free3 HI0.out.o
  have hz0 := HI0.out.size
  go_wp2_with fail
  refine (spec_valid _ _ s1 hs1 _).mono ?_
  rintro e w1 ⟨rfl, hb1⟩
  rw [HV1.out]
  have HI1 := Lib.hid (HI0.out.later hb1)
  clear hb1
  clear m0 m1 m2 n0 n1 n2 d0 d1 d2 x0 x1 x2
  obtain ⟨m0, m1, m2⟩ := cells3 HI1.out.m
  obtain ⟨n0, n1, n2⟩ := cells3 HI1.out.n
  obtain ⟨d0, d1, d2⟩ := cells3 HI1.out.o
  obtain ⟨x0, x1, x2⟩ := free3 HI1.out.o
  have hz1 := HI1.out.size
  go_wp2_with fail
  refine bodyPost_ret (v := .tuple #[mat 0 0 (str []), .bool false]) (by simp [results, Tryd.results45, go_sem, d0, d1, d2]; rfl) rfl ⟨rfl, ?_⟩
  exact ((HI1.out.below.setCell (by simp; omega) _).setCell (by simp; omega) _).setCell (by simp; omega) _

set_option maxHeartbeats 2000000 in
theorem spec_bad2 (op : ByteArray) (hk : opKnown op = true) (r c r2 c2 : Int) (s1 s2 : ByteArray) (hs1 : s1.size ≤ maxLen) (hs2 : s2.size ≤ maxLen) (hv1 : validB r c s1 = true) (hv2 : validB r2 c2 s2 = false) (w : World) :
    Calls Tryd.prog 45 #[.string op, mat r c s1, mat r2 c2 s2] w fun e w' => e = .returned (.tuple #[mat 0 0 (str []), .bool false]) ∧ Below w.heap.size w w' := by
  have HK := Lib.hid hk
  have HV1 := Lib.hid hv1
  have HV2 := Lib.hid hv2
  clear hk hv1 hv2
  go_enter Tryd.func45, Tryd.ntmps45
  go_wp2_with fail
  refine (known_any op _).mono ?_
  rintro e w' ⟨rfl, rfl⟩
  rw [HK.out]
  have HI0 := Lib.hid (BInv3.start w r c r2 c2 s1 s2)
  generalize ((w.alloc (.cells #[.int .i64 r, .int .i64 c, .string s1] 24)).alloc (.cells #[.int .i64 r2, .int .i64 c2, .string s2] 24)).alloc (.cells #[.int .i64 0, .int .i64 0, .string ⟨#[]⟩] 24) = W0 at *
  obtain ⟨m0, m1, m2⟩ := cells3 HI0.out.m
  obtain ⟨n0, n1, n2⟩ := cells3 HI0.out.n
  obtain ⟨d0, d1, d2⟩ := cells3 HI0.out.o
  obtain ⟨x0, x1, x2⟩ := free3 HI0.out.o
  have hz0 := HI0.out.size
  go_wp2_with fail
  refine (spec_valid _ _ s1 hs1 _).mono ?_
  rintro e w1 ⟨rfl, hb1⟩
  rw [HV1.out]
  have HI1 := Lib.hid (HI0.out.later hb1)
  clear hb1
  clear m0 m1 m2 n0 n1 n2 d0 d1 d2 x0 x1 x2
  obtain ⟨m0, m1, m2⟩ := cells3 HI1.out.m
  obtain ⟨n0, n1, n2⟩ := cells3 HI1.out.n
  obtain ⟨d0, d1, d2⟩ := cells3 HI1.out.o
  obtain ⟨x0, x1, x2⟩ := free3 HI1.out.o
  have hz1 := HI1.out.size
  go_wp2_with fail
  refine (spec_valid _ _ s2 hs2 _).mono ?_
  rintro e w2 ⟨rfl, hb2⟩
  rw [HV2.out]
  have HI2 := Lib.hid (HI1.out.later hb2)
  clear hb2
  clear m0 m1 m2 n0 n1 n2 d0 d1 d2 x0 x1 x2
  obtain ⟨m0, m1, m2⟩ := cells3 HI2.out.m
  obtain ⟨n0, n1, n2⟩ := cells3 HI2.out.n
  obtain ⟨d0, d1, d2⟩ := cells3 HI2.out.o
  obtain ⟨x0, x1, x2⟩ := free3 HI2.out.o
  have hz2 := HI2.out.size
  go_wp2_with fail
  refine bodyPost_ret (v := .tuple #[mat 0 0 (str []), .bool false]) (by simp [results, Tryd.results45, go_sem, d0, d1, d2]; rfl) rfl ⟨rfl, ?_⟩
  exact ((HI2.out.below.setCell (by simp; omega) _).setCell (by simp; omega) _).setCell (by simp; omega) _

set_option maxHeartbeats 2000000 in
theorem spec_differ1 (op : ByteArray) (hk : opKnown op = true) (r c r2 c2 : Int) (s1 s2 : ByteArray) (hs1 : s1.size ≤ maxLen) (hs2 : s2.size ≤ maxLen) (hv1 : validB r c s1 = true) (hv2 : validB r2 c2 s2 = true) (hne : r ≠ r2) (w : World) :
    Calls Tryd.prog 45 #[.string op, mat r c s1, mat r2 c2 s2] w fun e w' => e = .returned (.tuple #[mat 0 0 (str []), .bool false]) ∧ Below w.heap.size w w' := by
  have HK := Lib.hid hk
  have HV1 := Lib.hid hv1
  have HV2 := Lib.hid hv2
  clear hk hv1 hv2
  go_enter Tryd.func45, Tryd.ntmps45
  go_wp2_with fail
  refine (known_any op _).mono ?_
  rintro e w' ⟨rfl, rfl⟩
  rw [HK.out]
  have HI0 := Lib.hid (BInv3.start w r c r2 c2 s1 s2)
  generalize ((w.alloc (.cells #[.int .i64 r, .int .i64 c, .string s1] 24)).alloc (.cells #[.int .i64 r2, .int .i64 c2, .string s2] 24)).alloc (.cells #[.int .i64 0, .int .i64 0, .string ⟨#[]⟩] 24) = W0 at *
  obtain ⟨m0, m1, m2⟩ := cells3 HI0.out.m
  obtain ⟨n0, n1, n2⟩ := cells3 HI0.out.n
  obtain ⟨d0, d1, d2⟩ := cells3 HI0.out.o
  obtain ⟨x0, x1, x2⟩ := free3 HI0.out.o
  have hz0 := HI0.out.size
  go_wp2_with fail
  refine (spec_valid _ _ s1 hs1 _).mono ?_
  rintro e w1 ⟨rfl, hb1⟩
  rw [HV1.out]
  have HI1 := Lib.hid (HI0.out.later hb1)
  clear hb1
  clear m0 m1 m2 n0 n1 n2 d0 d1 d2 x0 x1 x2
  obtain ⟨m0, m1, m2⟩ := cells3 HI1.out.m
  obtain ⟨n0, n1, n2⟩ := cells3 HI1.out.n
  obtain ⟨d0, d1, d2⟩ := cells3 HI1.out.o
  obtain ⟨x0, x1, x2⟩ := free3 HI1.out.o
  have hz1 := HI1.out.size
  go_wp2_with fail
  refine (spec_valid _ _ s2 hs2 _).mono ?_
  rintro e w2 ⟨rfl, hb2⟩
  rw [HV2.out]
  have HI2 := Lib.hid (HI1.out.later hb2)
  clear hb2
  clear m0 m1 m2 n0 n1 n2 d0 d1 d2 x0 x1 x2
  obtain ⟨m0, m1, m2⟩ := cells3 HI2.out.m
  obtain ⟨n0, n1, n2⟩ := cells3 HI2.out.n
  obtain ⟨d0, d1, d2⟩ := cells3 HI2.out.o
  obtain ⟨x0, x1, x2⟩ := free3 HI2.out.o
  have hz2 := HI2.out.size
  go_wp2_with fail
  refine bodyPost_ret (v := .tuple #[mat 0 0 (str []), .bool false]) (by simp [results, Tryd.results45, go_sem, d0, d1, d2]; rfl) rfl ⟨rfl, ?_⟩
  exact ((HI2.out.below.setCell (by simp; omega) _).setCell (by simp; omega) _).setCell (by simp; omega) _

set_option maxHeartbeats 2000000 in
theorem spec_differ2 (op : ByteArray) (hk : opKnown op = true) (r c r2 c2 : Int) (s1 s2 : ByteArray) (hs1 : s1.size ≤ maxLen) (hs2 : s2.size ≤ maxLen) (hv1 : validB r c s1 = true) (hv2 : validB r2 c2 s2 = true) (heq : r = r2) (hne : c ≠ c2) (w : World) :
    Calls Tryd.prog 45 #[.string op, mat r c s1, mat r2 c2 s2] w fun e w' => e = .returned (.tuple #[mat 0 0 (str []), .bool false]) ∧ Below w.heap.size w w' := by
  subst heq
  have HK := Lib.hid hk
  have HV1 := Lib.hid hv1
  have HV2 := Lib.hid hv2
  clear hk hv1 hv2
  go_enter Tryd.func45, Tryd.ntmps45
  go_wp2_with fail
  refine (known_any op _).mono ?_
  rintro e w' ⟨rfl, rfl⟩
  rw [HK.out]
  have HI0 := Lib.hid (BInv3.start w r c r c2 s1 s2)
  generalize ((w.alloc (.cells #[.int .i64 r, .int .i64 c, .string s1] 24)).alloc (.cells #[.int .i64 r, .int .i64 c2, .string s2] 24)).alloc (.cells #[.int .i64 0, .int .i64 0, .string ⟨#[]⟩] 24) = W0 at *
  obtain ⟨m0, m1, m2⟩ := cells3 HI0.out.m
  obtain ⟨n0, n1, n2⟩ := cells3 HI0.out.n
  obtain ⟨d0, d1, d2⟩ := cells3 HI0.out.o
  obtain ⟨x0, x1, x2⟩ := free3 HI0.out.o
  have hz0 := HI0.out.size
  go_wp2_with fail
  refine (spec_valid _ _ s1 hs1 _).mono ?_
  rintro e w1 ⟨rfl, hb1⟩
  rw [HV1.out]
  have HI1 := Lib.hid (HI0.out.later hb1)
  clear hb1
  clear m0 m1 m2 n0 n1 n2 d0 d1 d2 x0 x1 x2
  obtain ⟨m0, m1, m2⟩ := cells3 HI1.out.m
  obtain ⟨n0, n1, n2⟩ := cells3 HI1.out.n
  obtain ⟨d0, d1, d2⟩ := cells3 HI1.out.o
  obtain ⟨x0, x1, x2⟩ := free3 HI1.out.o
  have hz1 := HI1.out.size
  go_wp2_with fail
  refine (spec_valid _ _ s2 hs2 _).mono ?_
  rintro e w2 ⟨rfl, hb2⟩
  rw [HV2.out]
  have HI2 := Lib.hid (HI1.out.later hb2)
  clear hb2
  clear m0 m1 m2 n0 n1 n2 d0 d1 d2 x0 x1 x2
  obtain ⟨m0, m1, m2⟩ := cells3 HI2.out.m
  obtain ⟨n0, n1, n2⟩ := cells3 HI2.out.n
  obtain ⟨d0, d1, d2⟩ := cells3 HI2.out.o
  obtain ⟨x0, x1, x2⟩ := free3 HI2.out.o
  have hz2 := HI2.out.size
  go_wp2_with fail
  refine bodyPost_ret (v := .tuple #[mat 0 0 (str []), .bool false]) (by simp [results, Tryd.results45, go_sem, d0, d1, d2]; rfl) rfl ⟨rfl, ?_⟩
  exact ((HI2.out.below.setCell (by simp; omega) _).setCell (by simp; omega) _).setCell (by simp; omega) _
end Go.Proofs.YtalechngagkklaaDoor.JoinN
