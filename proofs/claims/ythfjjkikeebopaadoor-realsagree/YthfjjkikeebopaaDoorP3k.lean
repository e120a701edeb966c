/- Package soft's Mul and Div, leaf by leaf. -/
import Derived.Test.YthfjjkikeebopaaDoorP3j
namespace Go.Proofs.YthfjjkikeebopaaDoor
open Go.RowKit
set_option maxRecDepth 100000
set_option maxHeartbeats 400000
set_option linter.unusedVariables false

theorem pmul_err (m x a b : Int) (w : World)
    (HO : Hid (∀ w, Calls Tryd.prog 29 #[.agg #[.int .i64 m, .int .i64 x], .int .u64 a, .int .u64 b] w fun r w' => r = .returned (.tuple #[partsV 0 false 0 0, partsV 0 false 0 0, .int .i64 1]) ∧ Below w.heap.size w w')) :
    Calls Tryd.prog 19 #[.agg #[.int .i64 m, .int .i64 x], .int .u64 a, .int .u64 b] w fun r w' => r = .returned (.tuple #[.int .u64 0, .int .i64 1]) ∧ Below w.heap.size w w' := by
  go_enter Tryd.func19, Tryd.ntmps19
  go_wp2_with fail
  refine (HO.out _).mono ?_
  rintro r w1 ⟨rfl, hb1⟩
  have HB1 := hidden (box_below _ hb1)
  clear hb1
  go_wp2
  go_ret2
  refine ⟨rfl, ?_⟩
  have h0 := HB1.out
  exact (h0.alloc h0.size _).alloc (by have := h0.size; simp; omega) _
theorem pmul_nan (m x : Nat) (a b K1 E1 M1 K2 E2 M2 R : Int) (n1 n2 : Bool) (w : World)
    (HO : Hid (∀ w, Calls Tryd.prog 29 #[fmtV m x, .int .u64 a, .int .u64 b] w fun r w' => r = .returned (.tuple #[partsV K1 n1 E1 M1, partsV K2 n2 E2 M2, .int .i64 0]) ∧ Below w.heap.size w w'))
    (HE4 : Hid (∀ w, Calls Tryd.prog 30 #[partsV K1 n1 E1 M1, partsV K2 n2 E2 M2, .int .i64 4] w fun r w' => r = .returned (.bool true) ∧ Below w.heap.size w w'))
    (HN : Hid (∀ w, Calls Tryd.prog 31 #[fmtV m x] w fun r w' => r = .returned (.int .u64 R) ∧ Below w.heap.size w w'))
    : Calls Tryd.prog 19 #[fmtV m x, .int .u64 a, .int .u64 b] w fun r w' => r = .returned (.tuple #[.int .u64 R, .int .i64 0]) ∧ Below w.heap.size w w' := by
  go_enter Tryd.func19, Tryd.ntmps19
  go_wp2_with fail
  refine (HO.out _).mono ?_
  rintro r w1 ⟨rfl, hb1⟩
  obtain ⟨w5, hw5, hx, c0, c1, p0, p1, p2', p3, q0, q1, q2', q3⟩ := open_boxes m x K1 E1 M1 K2 E2 M2 n1 n2 w w1 hb1
  have HB := hidden hx
  clear hx hb1
  go_upto_region 2 with fail
  change Code.wp _ _ _ _ ((w1.alloc (prt K1 n1 E1 M1)).alloc (prt K2 n2 E2 M2))
  rw [← hw5]
  clear hw5
  go_wp2_with (first | (go_at_call_of 30 (Value.int IntKind.i64 4); refine (HE4.out _).mono ?_; rintro r w9 ⟨rfl, hb⟩; have zz := ten_later hb ⟨c0, c1, p0, p1, p2', p3, q0, q1, q2', q3⟩; clear c0 c1 p0 p1 p2' p3 q0 q1 q2' q3; obtain ⟨c0, c1, p0, p1, p2', p3, q0, q1, q2', q3⟩ := zz; have HB := hidden (HB.out.trans (hb.mono HB.out.size)); clear hb) | (go_at_call 31; refine (HN.out _).mono ?_; rintro r w9 ⟨rfl, hb⟩; have zz := ten_later hb ⟨c0, c1, p0, p1, p2', p3, q0, q1, q2', q3⟩; clear c0 c1 p0 p1 p2' p3 q0 q1 q2' q3; obtain ⟨c0, c1, p0, p1, p2', p3, q0, q1, q2', q3⟩ := zz; have HB := hidden (HB.out.trans (hb.mono HB.out.size)); clear hb))
  go_ret2
  exact ⟨rfl, HB.out⟩
theorem pmul_nan2 (m x : Nat) (a b K1 E1 M1 K2 E2 M2 R : Int) (n1 n2 : Bool) (w : World)
    (HO : Hid (∀ w, Calls Tryd.prog 29 #[fmtV m x, .int .u64 a, .int .u64 b] w fun r w' => r = .returned (.tuple #[partsV K1 n1 E1 M1, partsV K2 n2 E2 M2, .int .i64 0]) ∧ Below w.heap.size w w'))
    (HE4 : Hid (∀ w, Calls Tryd.prog 30 #[partsV K1 n1 E1 M1, partsV K2 n2 E2 M2, .int .i64 4] w fun r w' => r = .returned (.bool false) ∧ Below w.heap.size w w'))
    (HE3 : Hid (∀ w, Calls Tryd.prog 30 #[partsV K1 n1 E1 M1, partsV K2 n2 E2 M2, .int .i64 3] w fun r w' => r = .returned (.bool true) ∧ Below w.heap.size w w'))
    (HE1 : Hid (∀ w, Calls Tryd.prog 30 #[partsV K1 n1 E1 M1, partsV K2 n2 E2 M2, .int .i64 1] w fun r w' => r = .returned (.bool true) ∧ Below w.heap.size w w'))
    (HN : Hid (∀ w, Calls Tryd.prog 31 #[fmtV m x] w fun r w' => r = .returned (.int .u64 R) ∧ Below w.heap.size w w'))
    : Calls Tryd.prog 19 #[fmtV m x, .int .u64 a, .int .u64 b] w fun r w' => r = .returned (.tuple #[.int .u64 R, .int .i64 0]) ∧ Below w.heap.size w w' := by
  go_enter Tryd.func19, Tryd.ntmps19
  go_wp2_with fail
  refine (HO.out _).mono ?_
  rintro r w1 ⟨rfl, hb1⟩
  obtain ⟨w5, hw5, hx, c0, c1, p0, p1, p2', p3, q0, q1, q2', q3⟩ := open_boxes m x K1 E1 M1 K2 E2 M2 n1 n2 w w1 hb1
  have HB := hidden hx
  clear hx hb1
  go_upto_region 2 with fail
  change Code.wp _ _ _ _ ((w1.alloc (prt K1 n1 E1 M1)).alloc (prt K2 n2 E2 M2))
  rw [← hw5]
  clear hw5
  go_wp2_with (first | (go_at_call_of 30 (Value.int IntKind.i64 4); refine (HE4.out _).mono ?_; rintro r w9 ⟨rfl, hb⟩; have zz := ten_later hb ⟨c0, c1, p0, p1, p2', p3, q0, q1, q2', q3⟩; clear c0 c1 p0 p1 p2' p3 q0 q1 q2' q3; obtain ⟨c0, c1, p0, p1, p2', p3, q0, q1, q2', q3⟩ := zz; have HB := hidden (HB.out.trans (hb.mono HB.out.size)); clear hb) | (go_at_call_of 30 (Value.int IntKind.i64 3); refine (HE3.out _).mono ?_; rintro r w9 ⟨rfl, hb⟩; have zz := ten_later hb ⟨c0, c1, p0, p1, p2', p3, q0, q1, q2', q3⟩; clear c0 c1 p0 p1 p2' p3 q0 q1 q2' q3; obtain ⟨c0, c1, p0, p1, p2', p3, q0, q1, q2', q3⟩ := zz; have HB := hidden (HB.out.trans (hb.mono HB.out.size)); clear hb) | (go_at_call_of 30 (Value.int IntKind.i64 1); refine (HE1.out _).mono ?_; rintro r w9 ⟨rfl, hb⟩; have zz := ten_later hb ⟨c0, c1, p0, p1, p2', p3, q0, q1, q2', q3⟩; clear c0 c1 p0 p1 p2' p3 q0 q1 q2' q3; obtain ⟨c0, c1, p0, p1, p2', p3, q0, q1, q2', q3⟩ := zz; have HB := hidden (HB.out.trans (hb.mono HB.out.size)); clear hb) | (go_at_call 31; refine (HN.out _).mono ?_; rintro r w9 ⟨rfl, hb⟩; have zz := ten_later hb ⟨c0, c1, p0, p1, p2', p3, q0, q1, q2', q3⟩; clear c0 c1 p0 p1 p2' p3 q0 q1 q2' q3; obtain ⟨c0, c1, p0, p1, p2', p3, q0, q1, q2', q3⟩ := zz; have HB := hidden (HB.out.trans (hb.mono HB.out.size)); clear hb))
  go_ret2
  exact ⟨rfl, HB.out⟩
theorem pmul_inf (m x : Nat) (a b K1 E1 M1 K2 E2 M2 R : Int) (n1 n2 : Bool) (w : World)
    (HO : Hid (∀ w, Calls Tryd.prog 29 #[fmtV m x, .int .u64 a, .int .u64 b] w fun r w' => r = .returned (.tuple #[partsV K1 n1 E1 M1, partsV K2 n2 E2 M2, .int .i64 0]) ∧ Below w.heap.size w w'))
    (HE4 : Hid (∀ w, Calls Tryd.prog 30 #[partsV K1 n1 E1 M1, partsV K2 n2 E2 M2, .int .i64 4] w fun r w' => r = .returned (.bool false) ∧ Below w.heap.size w w'))
    (HE3 : Hid (∀ w, Calls Tryd.prog 30 #[partsV K1 n1 E1 M1, partsV K2 n2 E2 M2, .int .i64 3] w fun r w' => r = .returned (.bool true) ∧ Below w.heap.size w w'))
    (HE1 : Hid (∀ w, Calls Tryd.prog 30 #[partsV K1 n1 E1 M1, partsV K2 n2 E2 M2, .int .i64 1] w fun r w' => r = .returned (.bool false) ∧ Below w.heap.size w w'))
    (HI : Hid (∀ w, Calls Tryd.prog 36 #[fmtV m x, .bool (n1 != n2)] w fun r w' => r = .returned (.int .u64 R) ∧ Below w.heap.size w w'))
    : Calls Tryd.prog 19 #[fmtV m x, .int .u64 a, .int .u64 b] w fun r w' => r = .returned (.tuple #[.int .u64 R, .int .i64 0]) ∧ Below w.heap.size w w' := by
  go_enter Tryd.func19, Tryd.ntmps19
  go_wp2_with fail
  refine (HO.out _).mono ?_
  rintro r w1 ⟨rfl, hb1⟩
  obtain ⟨w5, hw5, hx, c0, c1, p0, p1, p2', p3, q0, q1, q2', q3⟩ := open_boxes m x K1 E1 M1 K2 E2 M2 n1 n2 w w1 hb1
  have HB := hidden hx
  clear hx hb1
  go_upto_region 2 with fail
  change Code.wp _ _ _ _ ((w1.alloc (prt K1 n1 E1 M1)).alloc (prt K2 n2 E2 M2))
  rw [← hw5]
  clear hw5
  go_wp2_with (first | (go_at_call_of 30 (Value.int IntKind.i64 4); refine (HE4.out _).mono ?_; rintro r w9 ⟨rfl, hb⟩; have zz := ten_later hb ⟨c0, c1, p0, p1, p2', p3, q0, q1, q2', q3⟩; clear c0 c1 p0 p1 p2' p3 q0 q1 q2' q3; obtain ⟨c0, c1, p0, p1, p2', p3, q0, q1, q2', q3⟩ := zz; have HB := hidden (HB.out.trans (hb.mono HB.out.size)); clear hb) | (go_at_call_of 30 (Value.int IntKind.i64 3); refine (HE3.out _).mono ?_; rintro r w9 ⟨rfl, hb⟩; have zz := ten_later hb ⟨c0, c1, p0, p1, p2', p3, q0, q1, q2', q3⟩; clear c0 c1 p0 p1 p2' p3 q0 q1 q2' q3; obtain ⟨c0, c1, p0, p1, p2', p3, q0, q1, q2', q3⟩ := zz; have HB := hidden (HB.out.trans (hb.mono HB.out.size)); clear hb) | (go_at_call_of 30 (Value.int IntKind.i64 1); refine (HE1.out _).mono ?_; rintro r w9 ⟨rfl, hb⟩; have zz := ten_later hb ⟨c0, c1, p0, p1, p2', p3, q0, q1, q2', q3⟩; clear c0 c1 p0 p1 p2' p3 q0 q1 q2' q3; obtain ⟨c0, c1, p0, p1, p2', p3, q0, q1, q2', q3⟩ := zz; have HB := hidden (HB.out.trans (hb.mono HB.out.size)); clear hb) | (go_at_call 36; refine (HI.out _).mono ?_; rintro r w9 ⟨rfl, hb⟩; have zz := ten_later hb ⟨c0, c1, p0, p1, p2', p3, q0, q1, q2', q3⟩; clear c0 c1 p0 p1 p2' p3 q0 q1 q2' q3; obtain ⟨c0, c1, p0, p1, p2', p3, q0, q1, q2', q3⟩ := zz; have HB := hidden (HB.out.trans (hb.mono HB.out.size)); clear hb))
  go_ret2
  exact ⟨rfl, HB.out⟩
theorem pmul_zero (m x : Nat) (a b K1 E1 M1 K2 E2 M2 R : Int) (n1 n2 : Bool) (w : World)
    (HO : Hid (∀ w, Calls Tryd.prog 29 #[fmtV m x, .int .u64 a, .int .u64 b] w fun r w' => r = .returned (.tuple #[partsV K1 n1 E1 M1, partsV K2 n2 E2 M2, .int .i64 0]) ∧ Below w.heap.size w w'))
    (HE4 : Hid (∀ w, Calls Tryd.prog 30 #[partsV K1 n1 E1 M1, partsV K2 n2 E2 M2, .int .i64 4] w fun r w' => r = .returned (.bool false) ∧ Below w.heap.size w w'))
    (HE3 : Hid (∀ w, Calls Tryd.prog 30 #[partsV K1 n1 E1 M1, partsV K2 n2 E2 M2, .int .i64 3] w fun r w' => r = .returned (.bool false) ∧ Below w.heap.size w w'))
    (HE1 : Hid (∀ w, Calls Tryd.prog 30 #[partsV K1 n1 E1 M1, partsV K2 n2 E2 M2, .int .i64 1] w fun r w' => r = .returned (.bool true) ∧ Below w.heap.size w w'))
    (HZ : Hid (∀ w, Calls Tryd.prog 33 #[fmtV m x, .bool (n1 != n2)] w fun r w' => r = .returned (.int .u64 R) ∧ Below w.heap.size w w'))
    : Calls Tryd.prog 19 #[fmtV m x, .int .u64 a, .int .u64 b] w fun r w' => r = .returned (.tuple #[.int .u64 R, .int .i64 0]) ∧ Below w.heap.size w w' := by
  go_enter Tryd.func19, Tryd.ntmps19
  go_wp2_with fail
  refine (HO.out _).mono ?_
  rintro r w1 ⟨rfl, hb1⟩
  obtain ⟨w5, hw5, hx, c0, c1, p0, p1, p2', p3, q0, q1, q2', q3⟩ := open_boxes m x K1 E1 M1 K2 E2 M2 n1 n2 w w1 hb1
  have HB := hidden hx
  clear hx hb1
  go_upto_region 2 with fail
  change Code.wp _ _ _ _ ((w1.alloc (prt K1 n1 E1 M1)).alloc (prt K2 n2 E2 M2))
  rw [← hw5]
  clear hw5
  go_wp2_with (first | (go_at_call_of 30 (Value.int IntKind.i64 4); refine (HE4.out _).mono ?_; rintro r w9 ⟨rfl, hb⟩; have zz := ten_later hb ⟨c0, c1, p0, p1, p2', p3, q0, q1, q2', q3⟩; clear c0 c1 p0 p1 p2' p3 q0 q1 q2' q3; obtain ⟨c0, c1, p0, p1, p2', p3, q0, q1, q2', q3⟩ := zz; have HB := hidden (HB.out.trans (hb.mono HB.out.size)); clear hb) | (go_at_call_of 30 (Value.int IntKind.i64 3); refine (HE3.out _).mono ?_; rintro r w9 ⟨rfl, hb⟩; have zz := ten_later hb ⟨c0, c1, p0, p1, p2', p3, q0, q1, q2', q3⟩; clear c0 c1 p0 p1 p2' p3 q0 q1 q2' q3; obtain ⟨c0, c1, p0, p1, p2', p3, q0, q1, q2', q3⟩ := zz; have HB := hidden (HB.out.trans (hb.mono HB.out.size)); clear hb) | (go_at_call_of 30 (Value.int IntKind.i64 1); refine (HE1.out _).mono ?_; rintro r w9 ⟨rfl, hb⟩; have zz := ten_later hb ⟨c0, c1, p0, p1, p2', p3, q0, q1, q2', q3⟩; clear c0 c1 p0 p1 p2' p3 q0 q1 q2' q3; obtain ⟨c0, c1, p0, p1, p2', p3, q0, q1, q2', q3⟩ := zz; have HB := hidden (HB.out.trans (hb.mono HB.out.size)); clear hb) | (go_at_call 33; refine (HZ.out _).mono ?_; rintro r w9 ⟨rfl, hb⟩; have zz := ten_later hb ⟨c0, c1, p0, p1, p2', p3, q0, q1, q2', q3⟩; clear c0 c1 p0 p1 p2' p3 q0 q1 q2' q3; obtain ⟨c0, c1, p0, p1, p2', p3, q0, q1, q2', q3⟩ := zz; have HB := hidden (HB.out.trans (hb.mono HB.out.size)); clear hb))
  go_ret2
  exact ⟨rfl, HB.out⟩
theorem pmul_fin (m x : Nat) (a b K1 E1 M1 K2 E2 M2 R hi lo ES : Int) (n1 n2 : Bool) (w : World)
    (HO : Hid (∀ w, Calls Tryd.prog 29 #[fmtV m x, .int .u64 a, .int .u64 b] w fun r w' => r = .returned (.tuple #[partsV K1 n1 E1 M1, partsV K2 n2 E2 M2, .int .i64 0]) ∧ Below w.heap.size w w'))
    (HE4 : Hid (∀ w, Calls Tryd.prog 30 #[partsV K1 n1 E1 M1, partsV K2 n2 E2 M2, .int .i64 4] w fun r w' => r = .returned (.bool false) ∧ Below w.heap.size w w'))
    (HE3 : Hid (∀ w, Calls Tryd.prog 30 #[partsV K1 n1 E1 M1, partsV K2 n2 E2 M2, .int .i64 3] w fun r w' => r = .returned (.bool false) ∧ Below w.heap.size w w'))
    (HE1 : Hid (∀ w, Calls Tryd.prog 30 #[partsV K1 n1 E1 M1, partsV K2 n2 E2 M2, .int .i64 1] w fun r w' => r = .returned (.bool false) ∧ Below w.heap.size w w'))
    (HM : Hid (∀ w, Calls Tryd.prog 37 #[.int .u64 M1, .int .u64 M2] w fun r w' => r = .returned (.tuple #[.int .u64 hi, .int .u64 lo]) ∧ Below w.heap.size w w'))
    (HP : Hid (∀ w, Calls Tryd.prog 38 #[fmtV m x, .bool (n1 != n2), .int .u64 hi, .int .u64 lo, .int .i64 ES, .bool false] w fun r w' => r = .returned (.tuple #[.int .u64 R, .int .i64 0]) ∧ Below w.heap.size w w'))
    (he : IntKind.i64.wrap (E1 + E2) = ES)
    : Calls Tryd.prog 19 #[fmtV m x, .int .u64 a, .int .u64 b] w fun r w' => r = .returned (.tuple #[.int .u64 R, .int .i64 0]) ∧ Below w.heap.size w w' := by
  go_enter Tryd.func19, Tryd.ntmps19
  go_wp2_with fail
  refine (HO.out _).mono ?_
  rintro r w1 ⟨rfl, hb1⟩
  obtain ⟨w5, hw5, hx, c0, c1, p0, p1, p2', p3, q0, q1, q2', q3⟩ := open_boxes m x K1 E1 M1 K2 E2 M2 n1 n2 w w1 hb1
  have HB := hidden hx
  clear hx hb1
  go_upto_region 2 with fail
  change Code.wp _ _ _ _ ((w1.alloc (prt K1 n1 E1 M1)).alloc (prt K2 n2 E2 M2))
  rw [← hw5]
  clear hw5
  go_wp2_with (first | (go_at_call_of 30 (Value.int IntKind.i64 4); refine (HE4.out _).mono ?_; rintro r w9 ⟨rfl, hb⟩; have zz := ten_later hb ⟨c0, c1, p0, p1, p2', p3, q0, q1, q2', q3⟩; clear c0 c1 p0 p1 p2' p3 q0 q1 q2' q3; obtain ⟨c0, c1, p0, p1, p2', p3, q0, q1, q2', q3⟩ := zz; have HB := hidden (HB.out.trans (hb.mono HB.out.size)); clear hb) | (go_at_call_of 30 (Value.int IntKind.i64 3); refine (HE3.out _).mono ?_; rintro r w9 ⟨rfl, hb⟩; have zz := ten_later hb ⟨c0, c1, p0, p1, p2', p3, q0, q1, q2', q3⟩; clear c0 c1 p0 p1 p2' p3 q0 q1 q2' q3; obtain ⟨c0, c1, p0, p1, p2', p3, q0, q1, q2', q3⟩ := zz; have HB := hidden (HB.out.trans (hb.mono HB.out.size)); clear hb) | (go_at_call_of 30 (Value.int IntKind.i64 1); refine (HE1.out _).mono ?_; rintro r w9 ⟨rfl, hb⟩; have zz := ten_later hb ⟨c0, c1, p0, p1, p2', p3, q0, q1, q2', q3⟩; clear c0 c1 p0 p1 p2' p3 q0 q1 q2' q3; obtain ⟨c0, c1, p0, p1, p2', p3, q0, q1, q2', q3⟩ := zz; have HB := hidden (HB.out.trans (hb.mono HB.out.size)); clear hb) | (go_at_call 37; refine (HM.out _).mono ?_; rintro r w9 ⟨rfl, hb⟩; have zz := ten_later hb ⟨c0, c1, p0, p1, p2', p3, q0, q1, q2', q3⟩; clear c0 c1 p0 p1 p2' p3 q0 q1 q2' q3; obtain ⟨c0, c1, p0, p1, p2', p3, q0, q1, q2', q3⟩ := zz; have HB := hidden (HB.out.trans (hb.mono HB.out.size)); clear hb) | (go_at_call 38; refine (HP.out _).mono ?_; rintro r w9 ⟨rfl, hb⟩; have zz := ten_later hb ⟨c0, c1, p0, p1, p2', p3, q0, q1, q2', q3⟩; clear c0 c1 p0 p1 p2' p3 q0 q1 q2' q3; obtain ⟨c0, c1, p0, p1, p2', p3, q0, q1, q2', q3⟩ := zz; have HB := hidden (HB.out.trans (hb.mono HB.out.size)); clear hb))
  go_ret2
  exact ⟨rfl, HB.out⟩
theorem pdiv_err (m x a b : Int) (w : World)
    (HO : Hid (∀ w, Calls Tryd.prog 29 #[.agg #[.int .i64 m, .int .i64 x], .int .u64 a, .int .u64 b] w fun r w' => r = .returned (.tuple #[partsV 0 false 0 0, partsV 0 false 0 0, .int .i64 1]) ∧ Below w.heap.size w w')) :
    Calls Tryd.prog 20 #[.agg #[.int .i64 m, .int .i64 x], .int .u64 a, .int .u64 b] w fun r w' => r = .returned (.tuple #[.int .u64 0, .int .i64 1]) ∧ Below w.heap.size w w' := by
  go_enter Tryd.func20, Tryd.ntmps20
  go_wp2_with fail
  refine (HO.out _).mono ?_
  rintro r w1 ⟨rfl, hb1⟩
  have HB1 := hidden (box_below _ hb1)
  clear hb1
  go_wp2
  go_ret2
  refine ⟨rfl, ?_⟩
  have h0 := HB1.out
  exact (h0.alloc h0.size _).alloc (by have := h0.size; simp; omega) _
theorem pdiv_nan (m x : Nat) (a b K1 E1 M1 K2 E2 M2 R : Int) (n1 n2 : Bool) (w : World)
    (HO : Hid (∀ w, Calls Tryd.prog 29 #[fmtV m x, .int .u64 a, .int .u64 b] w fun r w' => r = .returned (.tuple #[partsV K1 n1 E1 M1, partsV K2 n2 E2 M2, .int .i64 0]) ∧ Below w.heap.size w w'))
    (HE4 : Hid (∀ w, Calls Tryd.prog 30 #[partsV K1 n1 E1 M1, partsV K2 n2 E2 M2, .int .i64 4] w fun r w' => r = .returned (.bool true) ∧ Below w.heap.size w w'))
    (HN : Hid (∀ w, Calls Tryd.prog 31 #[fmtV m x] w fun r w' => r = .returned (.int .u64 R) ∧ Below w.heap.size w w'))
    : Calls Tryd.prog 20 #[fmtV m x, .int .u64 a, .int .u64 b] w fun r w' => r = .returned (.tuple #[.int .u64 R, .int .i64 0]) ∧ Below w.heap.size w w' := by
  go_enter Tryd.func20, Tryd.ntmps20
  go_wp2_with fail
  refine (HO.out _).mono ?_
  rintro r w1 ⟨rfl, hb1⟩
  obtain ⟨w5, hw5, hx, c0, c1, p0, p1, p2', p3, q0, q1, q2', q3⟩ := open_boxes m x K1 E1 M1 K2 E2 M2 n1 n2 w w1 hb1
  have HB := hidden hx
  clear hx hb1
  go_upto_region 2 with fail
  change Code.wp _ _ _ _ ((w1.alloc (prt K1 n1 E1 M1)).alloc (prt K2 n2 E2 M2))
  rw [← hw5]
  clear hw5
  go_wp2_with (first | (go_at_call_of 30 (Value.int IntKind.i64 4); refine (HE4.out _).mono ?_; rintro r w9 ⟨rfl, hb⟩; have zz := ten_later hb ⟨c0, c1, p0, p1, p2', p3, q0, q1, q2', q3⟩; clear c0 c1 p0 p1 p2' p3 q0 q1 q2' q3; obtain ⟨c0, c1, p0, p1, p2', p3, q0, q1, q2', q3⟩ := zz; have HB := hidden (HB.out.trans (hb.mono HB.out.size)); clear hb) | (go_at_call 31; refine (HN.out _).mono ?_; rintro r w9 ⟨rfl, hb⟩; have zz := ten_later hb ⟨c0, c1, p0, p1, p2', p3, q0, q1, q2', q3⟩; clear c0 c1 p0 p1 p2' p3 q0 q1 q2' q3; obtain ⟨c0, c1, p0, p1, p2', p3, q0, q1, q2', q3⟩ := zz; have HB := hidden (HB.out.trans (hb.mono HB.out.size)); clear hb))
  go_ret2
  exact ⟨rfl, HB.out⟩
theorem pdiv_nan2 (m x : Nat) (a b K1 E1 M1 K2 E2 M2 R : Int) (n1 n2 : Bool) (w : World)
    (HO : Hid (∀ w, Calls Tryd.prog 29 #[fmtV m x, .int .u64 a, .int .u64 b] w fun r w' => r = .returned (.tuple #[partsV K1 n1 E1 M1, partsV K2 n2 E2 M2, .int .i64 0]) ∧ Below w.heap.size w w'))
    (HE4 : Hid (∀ w, Calls Tryd.prog 30 #[partsV K1 n1 E1 M1, partsV K2 n2 E2 M2, .int .i64 4] w fun r w' => r = .returned (.bool false) ∧ Below w.heap.size w w'))
    (HB3 : Hid (∀ w, Calls Tryd.prog 32 #[partsV K1 n1 E1 M1, partsV K2 n2 E2 M2, .int .i64 3] w fun r w' => r = .returned (.bool true) ∧ Below w.heap.size w w'))
    (HN : Hid (∀ w, Calls Tryd.prog 31 #[fmtV m x] w fun r w' => r = .returned (.int .u64 R) ∧ Below w.heap.size w w'))
    : Calls Tryd.prog 20 #[fmtV m x, .int .u64 a, .int .u64 b] w fun r w' => r = .returned (.tuple #[.int .u64 R, .int .i64 0]) ∧ Below w.heap.size w w' := by
  go_enter Tryd.func20, Tryd.ntmps20
  go_wp2_with fail
  refine (HO.out _).mono ?_
  rintro r w1 ⟨rfl, hb1⟩
  obtain ⟨w5, hw5, hx, c0, c1, p0, p1, p2', p3, q0, q1, q2', q3⟩ := open_boxes m x K1 E1 M1 K2 E2 M2 n1 n2 w w1 hb1
  have HB := hidden hx
  clear hx hb1
  go_upto_region 2 with fail
  change Code.wp _ _ _ _ ((w1.alloc (prt K1 n1 E1 M1)).alloc (prt K2 n2 E2 M2))
  rw [← hw5]
  clear hw5
  go_wp2_with (first | (go_at_call_of 30 (Value.int IntKind.i64 4); refine (HE4.out _).mono ?_; rintro r w9 ⟨rfl, hb⟩; have zz := ten_later hb ⟨c0, c1, p0, p1, p2', p3, q0, q1, q2', q3⟩; clear c0 c1 p0 p1 p2' p3 q0 q1 q2' q3; obtain ⟨c0, c1, p0, p1, p2', p3, q0, q1, q2', q3⟩ := zz; have HB := hidden (HB.out.trans (hb.mono HB.out.size)); clear hb) | (go_at_call_of 32 (Value.int IntKind.i64 3); refine (HB3.out _).mono ?_; rintro r w9 ⟨rfl, hb⟩; have zz := ten_later hb ⟨c0, c1, p0, p1, p2', p3, q0, q1, q2', q3⟩; clear c0 c1 p0 p1 p2' p3 q0 q1 q2' q3; obtain ⟨c0, c1, p0, p1, p2', p3, q0, q1, q2', q3⟩ := zz; have HB := hidden (HB.out.trans (hb.mono HB.out.size)); clear hb) | (go_at_call 31; refine (HN.out _).mono ?_; rintro r w9 ⟨rfl, hb⟩; have zz := ten_later hb ⟨c0, c1, p0, p1, p2', p3, q0, q1, q2', q3⟩; clear c0 c1 p0 p1 p2' p3 q0 q1 q2' q3; obtain ⟨c0, c1, p0, p1, p2', p3, q0, q1, q2', q3⟩ := zz; have HB := hidden (HB.out.trans (hb.mono HB.out.size)); clear hb))
  go_ret2
  exact ⟨rfl, HB.out⟩
theorem pdiv_nan3 (m x : Nat) (a b K1 E1 M1 K2 E2 M2 R : Int) (n1 n2 : Bool) (w : World)
    (HO : Hid (∀ w, Calls Tryd.prog 29 #[fmtV m x, .int .u64 a, .int .u64 b] w fun r w' => r = .returned (.tuple #[partsV K1 n1 E1 M1, partsV K2 n2 E2 M2, .int .i64 0]) ∧ Below w.heap.size w w'))
    (HE4 : Hid (∀ w, Calls Tryd.prog 30 #[partsV K1 n1 E1 M1, partsV K2 n2 E2 M2, .int .i64 4] w fun r w' => r = .returned (.bool false) ∧ Below w.heap.size w w'))
    (HB3 : Hid (∀ w, Calls Tryd.prog 32 #[partsV K1 n1 E1 M1, partsV K2 n2 E2 M2, .int .i64 3] w fun r w' => r = .returned (.bool false) ∧ Below w.heap.size w w'))
    (HB1 : Hid (∀ w, Calls Tryd.prog 32 #[partsV K1 n1 E1 M1, partsV K2 n2 E2 M2, .int .i64 1] w fun r w' => r = .returned (.bool true) ∧ Below w.heap.size w w'))
    (HN : Hid (∀ w, Calls Tryd.prog 31 #[fmtV m x] w fun r w' => r = .returned (.int .u64 R) ∧ Below w.heap.size w w'))
    : Calls Tryd.prog 20 #[fmtV m x, .int .u64 a, .int .u64 b] w fun r w' => r = .returned (.tuple #[.int .u64 R, .int .i64 0]) ∧ Below w.heap.size w w' := by
  go_enter Tryd.func20, Tryd.ntmps20
  go_wp2_with fail
  refine (HO.out _).mono ?_
  rintro r w1 ⟨rfl, hb1⟩
  obtain ⟨w5, hw5, hx, c0, c1, p0, p1, p2', p3, q0, q1, q2', q3⟩ := open_boxes m x K1 E1 M1 K2 E2 M2 n1 n2 w w1 hb1
  have HB := hidden hx
  clear hx hb1
  go_upto_region 2 with fail
  change Code.wp _ _ _ _ ((w1.alloc (prt K1 n1 E1 M1)).alloc (prt K2 n2 E2 M2))
  rw [← hw5]
  clear hw5
  go_wp2_with (first | (go_at_call_of 30 (Value.int IntKind.i64 4); refine (HE4.out _).mono ?_; rintro r w9 ⟨rfl, hb⟩; have zz := ten_later hb ⟨c0, c1, p0, p1, p2', p3, q0, q1, q2', q3⟩; clear c0 c1 p0 p1 p2' p3 q0 q1 q2' q3; obtain ⟨c0, c1, p0, p1, p2', p3, q0, q1, q2', q3⟩ := zz; have HB := hidden (HB.out.trans (hb.mono HB.out.size)); clear hb) | (go_at_call_of 32 (Value.int IntKind.i64 3); refine (HB3.out _).mono ?_; rintro r w9 ⟨rfl, hb⟩; have zz := ten_later hb ⟨c0, c1, p0, p1, p2', p3, q0, q1, q2', q3⟩; clear c0 c1 p0 p1 p2' p3 q0 q1 q2' q3; obtain ⟨c0, c1, p0, p1, p2', p3, q0, q1, q2', q3⟩ := zz; have HB := hidden (HB.out.trans (hb.mono HB.out.size)); clear hb) | (go_at_call_of 32 (Value.int IntKind.i64 1); refine (HB1.out _).mono ?_; rintro r w9 ⟨rfl, hb⟩; have zz := ten_later hb ⟨c0, c1, p0, p1, p2', p3, q0, q1, q2', q3⟩; clear c0 c1 p0 p1 p2' p3 q0 q1 q2' q3; obtain ⟨c0, c1, p0, p1, p2', p3, q0, q1, q2', q3⟩ := zz; have HB := hidden (HB.out.trans (hb.mono HB.out.size)); clear hb) | (go_at_call 31; refine (HN.out _).mono ?_; rintro r w9 ⟨rfl, hb⟩; have zz := ten_later hb ⟨c0, c1, p0, p1, p2', p3, q0, q1, q2', q3⟩; clear c0 c1 p0 p1 p2' p3 q0 q1 q2' q3; obtain ⟨c0, c1, p0, p1, p2', p3, q0, q1, q2', q3⟩ := zz; have HB := hidden (HB.out.trans (hb.mono HB.out.size)); clear hb))
  go_ret2
  exact ⟨rfl, HB.out⟩
theorem pdiv_inf1 (m x : Nat) (a b K1 E1 M1 K2 E2 M2 R : Int) (n1 n2 : Bool) (w : World)
    (HO : Hid (∀ w, Calls Tryd.prog 29 #[fmtV m x, .int .u64 a, .int .u64 b] w fun r w' => r = .returned (.tuple #[partsV K1 n1 E1 M1, partsV K2 n2 E2 M2, .int .i64 0]) ∧ Below w.heap.size w w'))
    (HE4 : Hid (∀ w, Calls Tryd.prog 30 #[partsV K1 n1 E1 M1, partsV K2 n2 E2 M2, .int .i64 4] w fun r w' => r = .returned (.bool false) ∧ Below w.heap.size w w'))
    (HB3 : Hid (∀ w, Calls Tryd.prog 32 #[partsV K1 n1 E1 M1, partsV K2 n2 E2 M2, .int .i64 3] w fun r w' => r = .returned (.bool false) ∧ Below w.heap.size w w'))
    (HB1 : Hid (∀ w, Calls Tryd.prog 32 #[partsV K1 n1 E1 M1, partsV K2 n2 E2 M2, .int .i64 1] w fun r w' => r = .returned (.bool false) ∧ Below w.heap.size w w'))
    (HI : Hid (∀ w, Calls Tryd.prog 36 #[fmtV m x, .bool (n1 != n2)] w fun r w' => r = .returned (.int .u64 R) ∧ Below w.heap.size w w'))
    (k13 : (K1 == 3) = true)
    : Calls Tryd.prog 20 #[fmtV m x, .int .u64 a, .int .u64 b] w fun r w' => r = .returned (.tuple #[.int .u64 R, .int .i64 0]) ∧ Below w.heap.size w w' := by
  go_enter Tryd.func20, Tryd.ntmps20
  go_wp2_with fail
  refine (HO.out _).mono ?_
  rintro r w1 ⟨rfl, hb1⟩
  obtain ⟨w5, hw5, hx, c0, c1, p0, p1, p2', p3, q0, q1, q2', q3⟩ := open_boxes m x K1 E1 M1 K2 E2 M2 n1 n2 w w1 hb1
  have HB := hidden hx
  clear hx hb1
  go_upto_region 2 with fail
  change Code.wp _ _ _ _ ((w1.alloc (prt K1 n1 E1 M1)).alloc (prt K2 n2 E2 M2))
  rw [← hw5]
  clear hw5
  go_wp2_with (first | (go_at_call_of 30 (Value.int IntKind.i64 4); refine (HE4.out _).mono ?_; rintro r w9 ⟨rfl, hb⟩; have zz := ten_later hb ⟨c0, c1, p0, p1, p2', p3, q0, q1, q2', q3⟩; clear c0 c1 p0 p1 p2' p3 q0 q1 q2' q3; obtain ⟨c0, c1, p0, p1, p2', p3, q0, q1, q2', q3⟩ := zz; have HB := hidden (HB.out.trans (hb.mono HB.out.size)); clear hb) | (go_at_call_of 32 (Value.int IntKind.i64 3); refine (HB3.out _).mono ?_; rintro r w9 ⟨rfl, hb⟩; have zz := ten_later hb ⟨c0, c1, p0, p1, p2', p3, q0, q1, q2', q3⟩; clear c0 c1 p0 p1 p2' p3 q0 q1 q2' q3; obtain ⟨c0, c1, p0, p1, p2', p3, q0, q1, q2', q3⟩ := zz; have HB := hidden (HB.out.trans (hb.mono HB.out.size)); clear hb) | (go_at_call_of 32 (Value.int IntKind.i64 1); refine (HB1.out _).mono ?_; rintro r w9 ⟨rfl, hb⟩; have zz := ten_later hb ⟨c0, c1, p0, p1, p2', p3, q0, q1, q2', q3⟩; clear c0 c1 p0 p1 p2' p3 q0 q1 q2' q3; obtain ⟨c0, c1, p0, p1, p2', p3, q0, q1, q2', q3⟩ := zz; have HB := hidden (HB.out.trans (hb.mono HB.out.size)); clear hb) | (go_at_call 36; refine (HI.out _).mono ?_; rintro r w9 ⟨rfl, hb⟩; have zz := ten_later hb ⟨c0, c1, p0, p1, p2', p3, q0, q1, q2', q3⟩; clear c0 c1 p0 p1 p2' p3 q0 q1 q2' q3; obtain ⟨c0, c1, p0, p1, p2', p3, q0, q1, q2', q3⟩ := zz; have HB := hidden (HB.out.trans (hb.mono HB.out.size)); clear hb))
  go_ret2
  exact ⟨rfl, HB.out⟩
theorem pdiv_inf2 (m x : Nat) (a b K1 E1 M1 K2 E2 M2 R : Int) (n1 n2 : Bool) (w : World)
    (HO : Hid (∀ w, Calls Tryd.prog 29 #[fmtV m x, .int .u64 a, .int .u64 b] w fun r w' => r = .returned (.tuple #[partsV K1 n1 E1 M1, partsV K2 n2 E2 M2, .int .i64 0]) ∧ Below w.heap.size w w'))
    (HE4 : Hid (∀ w, Calls Tryd.prog 30 #[partsV K1 n1 E1 M1, partsV K2 n2 E2 M2, .int .i64 4] w fun r w' => r = .returned (.bool false) ∧ Below w.heap.size w w'))
    (HB3 : Hid (∀ w, Calls Tryd.prog 32 #[partsV K1 n1 E1 M1, partsV K2 n2 E2 M2, .int .i64 3] w fun r w' => r = .returned (.bool false) ∧ Below w.heap.size w w'))
    (HB1 : Hid (∀ w, Calls Tryd.prog 32 #[partsV K1 n1 E1 M1, partsV K2 n2 E2 M2, .int .i64 1] w fun r w' => r = .returned (.bool false) ∧ Below w.heap.size w w'))
    (HI : Hid (∀ w, Calls Tryd.prog 36 #[fmtV m x, .bool (n1 != n2)] w fun r w' => r = .returned (.int .u64 R) ∧ Below w.heap.size w w'))
    (k13 : (K1 == 3) = false)
    (k21 : (K2 == 1) = true)
    : Calls Tryd.prog 20 #[fmtV m x, .int .u64 a, .int .u64 b] w fun r w' => r = .returned (.tuple #[.int .u64 R, .int .i64 0]) ∧ Below w.heap.size w w' := by
  go_enter Tryd.func20, Tryd.ntmps20
  go_wp2_with fail
  refine (HO.out _).mono ?_
  rintro r w1 ⟨rfl, hb1⟩
  obtain ⟨w5, hw5, hx, c0, c1, p0, p1, p2', p3, q0, q1, q2', q3⟩ := open_boxes m x K1 E1 M1 K2 E2 M2 n1 n2 w w1 hb1
  have HB := hidden hx
  clear hx hb1
  go_upto_region 2 with fail
  change Code.wp _ _ _ _ ((w1.alloc (prt K1 n1 E1 M1)).alloc (prt K2 n2 E2 M2))
  rw [← hw5]
  clear hw5
  go_wp2_with (first | (go_at_call_of 30 (Value.int IntKind.i64 4); refine (HE4.out _).mono ?_; rintro r w9 ⟨rfl, hb⟩; have zz := ten_later hb ⟨c0, c1, p0, p1, p2', p3, q0, q1, q2', q3⟩; clear c0 c1 p0 p1 p2' p3 q0 q1 q2' q3; obtain ⟨c0, c1, p0, p1, p2', p3, q0, q1, q2', q3⟩ := zz; have HB := hidden (HB.out.trans (hb.mono HB.out.size)); clear hb) | (go_at_call_of 32 (Value.int IntKind.i64 3); refine (HB3.out _).mono ?_; rintro r w9 ⟨rfl, hb⟩; have zz := ten_later hb ⟨c0, c1, p0, p1, p2', p3, q0, q1, q2', q3⟩; clear c0 c1 p0 p1 p2' p3 q0 q1 q2' q3; obtain ⟨c0, c1, p0, p1, p2', p3, q0, q1, q2', q3⟩ := zz; have HB := hidden (HB.out.trans (hb.mono HB.out.size)); clear hb) | (go_at_call_of 32 (Value.int IntKind.i64 1); refine (HB1.out _).mono ?_; rintro r w9 ⟨rfl, hb⟩; have zz := ten_later hb ⟨c0, c1, p0, p1, p2', p3, q0, q1, q2', q3⟩; clear c0 c1 p0 p1 p2' p3 q0 q1 q2' q3; obtain ⟨c0, c1, p0, p1, p2', p3, q0, q1, q2', q3⟩ := zz; have HB := hidden (HB.out.trans (hb.mono HB.out.size)); clear hb) | (go_at_call 36; refine (HI.out _).mono ?_; rintro r w9 ⟨rfl, hb⟩; have zz := ten_later hb ⟨c0, c1, p0, p1, p2', p3, q0, q1, q2', q3⟩; clear c0 c1 p0 p1 p2' p3 q0 q1 q2' q3; obtain ⟨c0, c1, p0, p1, p2', p3, q0, q1, q2', q3⟩ := zz; have HB := hidden (HB.out.trans (hb.mono HB.out.size)); clear hb))
  go_ret2
  exact ⟨rfl, HB.out⟩
theorem pdiv_zero1 (m x : Nat) (a b K1 E1 M1 K2 E2 M2 R : Int) (n1 n2 : Bool) (w : World)
    (HO : Hid (∀ w, Calls Tryd.prog 29 #[fmtV m x, .int .u64 a, .int .u64 b] w fun r w' => r = .returned (.tuple #[partsV K1 n1 E1 M1, partsV K2 n2 E2 M2, .int .i64 0]) ∧ Below w.heap.size w w'))
    (HE4 : Hid (∀ w, Calls Tryd.prog 30 #[partsV K1 n1 E1 M1, partsV K2 n2 E2 M2, .int .i64 4] w fun r w' => r = .returned (.bool false) ∧ Below w.heap.size w w'))
    (HB3 : Hid (∀ w, Calls Tryd.prog 32 #[partsV K1 n1 E1 M1, partsV K2 n2 E2 M2, .int .i64 3] w fun r w' => r = .returned (.bool false) ∧ Below w.heap.size w w'))
    (HB1 : Hid (∀ w, Calls Tryd.prog 32 #[partsV K1 n1 E1 M1, partsV K2 n2 E2 M2, .int .i64 1] w fun r w' => r = .returned (.bool false) ∧ Below w.heap.size w w'))
    (HZ : Hid (∀ w, Calls Tryd.prog 33 #[fmtV m x, .bool (n1 != n2)] w fun r w' => r = .returned (.int .u64 R) ∧ Below w.heap.size w w'))
    (k13 : (K1 == 3) = false)
    (k21 : (K2 == 1) = false)
    (k11 : (K1 == 1) = true)
    : Calls Tryd.prog 20 #[fmtV m x, .int .u64 a, .int .u64 b] w fun r w' => r = .returned (.tuple #[.int .u64 R, .int .i64 0]) ∧ Below w.heap.size w w' := by
  go_enter Tryd.func20, Tryd.ntmps20
  go_wp2_with fail
  refine (HO.out _).mono ?_
  rintro r w1 ⟨rfl, hb1⟩
  obtain ⟨w5, hw5, hx, c0, c1, p0, p1, p2', p3, q0, q1, q2', q3⟩ := open_boxes m x K1 E1 M1 K2 E2 M2 n1 n2 w w1 hb1
  have HB := hidden hx
  clear hx hb1
  go_upto_region 2 with fail
  change Code.wp _ _ _ _ ((w1.alloc (prt K1 n1 E1 M1)).alloc (prt K2 n2 E2 M2))
  rw [← hw5]
  clear hw5
  go_wp2_with (first | (go_at_call_of 30 (Value.int IntKind.i64 4); refine (HE4.out _).mono ?_; rintro r w9 ⟨rfl, hb⟩; have zz := ten_later hb ⟨c0, c1, p0, p1, p2', p3, q0, q1, q2', q3⟩; clear c0 c1 p0 p1 p2' p3 q0 q1 q2' q3; obtain ⟨c0, c1, p0, p1, p2', p3, q0, q1, q2', q3⟩ := zz; have HB := hidden (HB.out.trans (hb.mono HB.out.size)); clear hb) | (go_at_call_of 32 (Value.int IntKind.i64 3); refine (HB3.out _).mono ?_; rintro r w9 ⟨rfl, hb⟩; have zz := ten_later hb ⟨c0, c1, p0, p1, p2', p3, q0, q1, q2', q3⟩; clear c0 c1 p0 p1 p2' p3 q0 q1 q2' q3; obtain ⟨c0, c1, p0, p1, p2', p3, q0, q1, q2', q3⟩ := zz; have HB := hidden (HB.out.trans (hb.mono HB.out.size)); clear hb) | (go_at_call_of 32 (Value.int IntKind.i64 1); refine (HB1.out _).mono ?_; rintro r w9 ⟨rfl, hb⟩; have zz := ten_later hb ⟨c0, c1, p0, p1, p2', p3, q0, q1, q2', q3⟩; clear c0 c1 p0 p1 p2' p3 q0 q1 q2' q3; obtain ⟨c0, c1, p0, p1, p2', p3, q0, q1, q2', q3⟩ := zz; have HB := hidden (HB.out.trans (hb.mono HB.out.size)); clear hb) | (go_at_call 33; refine (HZ.out _).mono ?_; rintro r w9 ⟨rfl, hb⟩; have zz := ten_later hb ⟨c0, c1, p0, p1, p2', p3, q0, q1, q2', q3⟩; clear c0 c1 p0 p1 p2' p3 q0 q1 q2' q3; obtain ⟨c0, c1, p0, p1, p2', p3, q0, q1, q2', q3⟩ := zz; have HB := hidden (HB.out.trans (hb.mono HB.out.size)); clear hb))
  go_ret2
  exact ⟨rfl, HB.out⟩
theorem pdiv_zero2 (m x : Nat) (a b K1 E1 M1 K2 E2 M2 R : Int) (n1 n2 : Bool) (w : World)
    (HO : Hid (∀ w, Calls Tryd.prog 29 #[fmtV m x, .int .u64 a, .int .u64 b] w fun r w' => r = .returned (.tuple #[partsV K1 n1 E1 M1, partsV K2 n2 E2 M2, .int .i64 0]) ∧ Below w.heap.size w w'))
    (HE4 : Hid (∀ w, Calls Tryd.prog 30 #[partsV K1 n1 E1 M1, partsV K2 n2 E2 M2, .int .i64 4] w fun r w' => r = .returned (.bool false) ∧ Below w.heap.size w w'))
    (HB3 : Hid (∀ w, Calls Tryd.prog 32 #[partsV K1 n1 E1 M1, partsV K2 n2 E2 M2, .int .i64 3] w fun r w' => r = .returned (.bool false) ∧ Below w.heap.size w w'))
    (HB1 : Hid (∀ w, Calls Tryd.prog 32 #[partsV K1 n1 E1 M1, partsV K2 n2 E2 M2, .int .i64 1] w fun r w' => r = .returned (.bool false) ∧ Below w.heap.size w w'))
    (HZ : Hid (∀ w, Calls Tryd.prog 33 #[fmtV m x, .bool (n1 != n2)] w fun r w' => r = .returned (.int .u64 R) ∧ Below w.heap.size w w'))
    (k13 : (K1 == 3) = false)
    (k21 : (K2 == 1) = false)
    (k11 : (K1 == 1) = false)
    (k23 : (K2 == 3) = true)
    : Calls Tryd.prog 20 #[fmtV m x, .int .u64 a, .int .u64 b] w fun r w' => r = .returned (.tuple #[.int .u64 R, .int .i64 0]) ∧ Below w.heap.size w w' := by
  go_enter Tryd.func20, Tryd.ntmps20
  go_wp2_with fail
  refine (HO.out _).mono ?_
  rintro r w1 ⟨rfl, hb1⟩
  obtain ⟨w5, hw5, hx, c0, c1, p0, p1, p2', p3, q0, q1, q2', q3⟩ := open_boxes m x K1 E1 M1 K2 E2 M2 n1 n2 w w1 hb1
  have HB := hidden hx
  clear hx hb1
  go_upto_region 2 with fail
  change Code.wp _ _ _ _ ((w1.alloc (prt K1 n1 E1 M1)).alloc (prt K2 n2 E2 M2))
  rw [← hw5]
  clear hw5
  go_wp2_with (first | (go_at_call_of 30 (Value.int IntKind.i64 4); refine (HE4.out _).mono ?_; rintro r w9 ⟨rfl, hb⟩; have zz := ten_later hb ⟨c0, c1, p0, p1, p2', p3, q0, q1, q2', q3⟩; clear c0 c1 p0 p1 p2' p3 q0 q1 q2' q3; obtain ⟨c0, c1, p0, p1, p2', p3, q0, q1, q2', q3⟩ := zz; have HB := hidden (HB.out.trans (hb.mono HB.out.size)); clear hb) | (go_at_call_of 32 (Value.int IntKind.i64 3); refine (HB3.out _).mono ?_; rintro r w9 ⟨rfl, hb⟩; have zz := ten_later hb ⟨c0, c1, p0, p1, p2', p3, q0, q1, q2', q3⟩; clear c0 c1 p0 p1 p2' p3 q0 q1 q2' q3; obtain ⟨c0, c1, p0, p1, p2', p3, q0, q1, q2', q3⟩ := zz; have HB := hidden (HB.out.trans (hb.mono HB.out.size)); clear hb) | (go_at_call_of 32 (Value.int IntKind.i64 1); refine (HB1.out _).mono ?_; rintro r w9 ⟨rfl, hb⟩; have zz := ten_later hb ⟨c0, c1, p0, p1, p2', p3, q0, q1, q2', q3⟩; clear c0 c1 p0 p1 p2' p3 q0 q1 q2' q3; obtain ⟨c0, c1, p0, p1, p2', p3, q0, q1, q2', q3⟩ := zz; have HB := hidden (HB.out.trans (hb.mono HB.out.size)); clear hb) | (go_at_call 33; refine (HZ.out _).mono ?_; rintro r w9 ⟨rfl, hb⟩; have zz := ten_later hb ⟨c0, c1, p0, p1, p2', p3, q0, q1, q2', q3⟩; clear c0 c1 p0 p1 p2' p3 q0 q1 q2' q3; obtain ⟨c0, c1, p0, p1, p2', p3, q0, q1, q2', q3⟩ := zz; have HB := hidden (HB.out.trans (hb.mono HB.out.size)); clear hb))
  go_ret2
  exact ⟨rfl, HB.out⟩
theorem pdiv_fin (m x : Nat) (a b K1 E1 M1 K2 E2 M2 R Q SC : Int) (n1 n2 mo : Bool) (w : World)
    (HO : Hid (∀ w, Calls Tryd.prog 29 #[fmtV m x, .int .u64 a, .int .u64 b] w fun r w' => r = .returned (.tuple #[partsV K1 n1 E1 M1, partsV K2 n2 E2 M2, .int .i64 0]) ∧ Below w.heap.size w w'))
    (HE4 : Hid (∀ w, Calls Tryd.prog 30 #[partsV K1 n1 E1 M1, partsV K2 n2 E2 M2, .int .i64 4] w fun r w' => r = .returned (.bool false) ∧ Below w.heap.size w w'))
    (HB3 : Hid (∀ w, Calls Tryd.prog 32 #[partsV K1 n1 E1 M1, partsV K2 n2 E2 M2, .int .i64 3] w fun r w' => r = .returned (.bool false) ∧ Below w.heap.size w w'))
    (HB1 : Hid (∀ w, Calls Tryd.prog 32 #[partsV K1 n1 E1 M1, partsV K2 n2 E2 M2, .int .i64 1] w fun r w' => r = .returned (.bool false) ∧ Below w.heap.size w w'))
    (HQ : Hid (∀ w, Calls Tryd.prog 39 #[partsV K1 n1 E1 M1, partsV K2 n2 E2 M2] w fun r w' => r = .returned (.tuple #[.int .u64 Q, .int .i64 SC, .bool mo]) ∧ Below w.heap.size w w'))
    (HP : Hid (∀ w, Calls Tryd.prog 38 #[fmtV m x, .bool (n1 != n2), .int .u64 0, .int .u64 Q, .int .i64 SC, .bool mo] w fun r w' => r = .returned (.tuple #[.int .u64 R, .int .i64 0]) ∧ Below w.heap.size w w'))
    (k13 : (K1 == 3) = false)
    (k21 : (K2 == 1) = false)
    (k11 : (K1 == 1) = false)
    (k23 : (K2 == 3) = false)
    : Calls Tryd.prog 20 #[fmtV m x, .int .u64 a, .int .u64 b] w fun r w' => r = .returned (.tuple #[.int .u64 R, .int .i64 0]) ∧ Below w.heap.size w w' := by
  go_enter Tryd.func20, Tryd.ntmps20
  go_wp2_with fail
  refine (HO.out _).mono ?_
  rintro r w1 ⟨rfl, hb1⟩
  obtain ⟨w5, hw5, hx, c0, c1, p0, p1, p2', p3, q0, q1, q2', q3⟩ := open_boxes m x K1 E1 M1 K2 E2 M2 n1 n2 w w1 hb1
  have HB := hidden hx
  clear hx hb1
  go_upto_region 2 with fail
  change Code.wp _ _ _ _ ((w1.alloc (prt K1 n1 E1 M1)).alloc (prt K2 n2 E2 M2))
  rw [← hw5]
  clear hw5
  go_wp2_with (first | (go_at_call_of 30 (Value.int IntKind.i64 4); refine (HE4.out _).mono ?_; rintro r w9 ⟨rfl, hb⟩; have zz := ten_later hb ⟨c0, c1, p0, p1, p2', p3, q0, q1, q2', q3⟩; clear c0 c1 p0 p1 p2' p3 q0 q1 q2' q3; obtain ⟨c0, c1, p0, p1, p2', p3, q0, q1, q2', q3⟩ := zz; have HB := hidden (HB.out.trans (hb.mono HB.out.size)); clear hb) | (go_at_call_of 32 (Value.int IntKind.i64 3); refine (HB3.out _).mono ?_; rintro r w9 ⟨rfl, hb⟩; have zz := ten_later hb ⟨c0, c1, p0, p1, p2', p3, q0, q1, q2', q3⟩; clear c0 c1 p0 p1 p2' p3 q0 q1 q2' q3; obtain ⟨c0, c1, p0, p1, p2', p3, q0, q1, q2', q3⟩ := zz; have HB := hidden (HB.out.trans (hb.mono HB.out.size)); clear hb) | (go_at_call_of 32 (Value.int IntKind.i64 1); refine (HB1.out _).mono ?_; rintro r w9 ⟨rfl, hb⟩; have zz := ten_later hb ⟨c0, c1, p0, p1, p2', p3, q0, q1, q2', q3⟩; clear c0 c1 p0 p1 p2' p3 q0 q1 q2' q3; obtain ⟨c0, c1, p0, p1, p2', p3, q0, q1, q2', q3⟩ := zz; have HB := hidden (HB.out.trans (hb.mono HB.out.size)); clear hb) | (go_at_call 39; refine (HQ.out _).mono ?_; rintro r w9 ⟨rfl, hb⟩; have zz := ten_later hb ⟨c0, c1, p0, p1, p2', p3, q0, q1, q2', q3⟩; clear c0 c1 p0 p1 p2' p3 q0 q1 q2' q3; obtain ⟨c0, c1, p0, p1, p2', p3, q0, q1, q2', q3⟩ := zz; have HB := hidden (HB.out.trans (hb.mono HB.out.size)); clear hb) | (go_at_call 38; refine (HP.out _).mono ?_; rintro r w9 ⟨rfl, hb⟩; have zz := ten_later hb ⟨c0, c1, p0, p1, p2', p3, q0, q1, q2', q3⟩; clear c0 c1 p0 p1 p2' p3 q0 q1 q2' q3; obtain ⟨c0, c1, p0, p1, p2', p3, q0, q1, q2', q3⟩ := zz; have HB := hidden (HB.out.trans (hb.mono HB.out.size)); clear hb))
  go_ret2
  exact ⟨rfl, HB.out⟩
end Go.Proofs.YthfjjkikeebopaaDoor
