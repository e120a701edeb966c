/- The document's Add (package grottoref03), leaf by leaf. The document's Add (package grottoref03) where it reckons. -/
import Derived.Test.YtbfbdemknggpkaaGreatDoorS3f
namespace Go.Proofs.YtbfbdemknggpkaaGreatDoor
open Go.RowKit
set_option maxRecDepth 100000
set_option maxHeartbeats 1000000
set_option linter.unusedVariables false

theorem rten_later {w6 w7 : World} {A0 A1 A2 A3 A4 A5 A6 A7 A8 A9 : Addr} {a0 a1 a2 a3 a4 a5 a6 a7 a8 a9 : Value} (hb : Below w6.heap.size w6 w7) (h : w6.cell? A0 = some a0 ∧ w6.cell? A1 = some a1 ∧ w6.cell? A2 = some a2 ∧ w6.cell? A3 = some a3 ∧ w6.cell? A4 = some a4 ∧ w6.cell? A5 = some a5 ∧ w6.cell? A6 = some a6 ∧ w6.cell? A7 = some a7 ∧ w6.cell? A8 = some a8 ∧ w6.cell? A9 = some a9) :
    w7.cell? A0 = some a0 ∧ w7.cell? A1 = some a1 ∧ w7.cell? A2 = some a2 ∧ w7.cell? A3 = some a3 ∧ w7.cell? A4 = some a4 ∧ w7.cell? A5 = some a5 ∧ w7.cell? A6 = some a6 ∧ w7.cell? A7 = some a7 ∧ w7.cell? A8 = some a8 ∧ w7.cell? A9 = some a9 := by
  obtain ⟨h0, h1, h2, h3, h4, h5, h6, h7, h8, h9⟩ := h
  exact ⟨cellLater hb h0, cellLater hb h1, cellLater hb h2, cellLater hb h3, cellLater hb h4, cellLater hb h5, cellLater hb h6, cellLater hb h7, cellLater hb h8, cellLater hb h9⟩
theorem ropen_boxes (m x K1 E1 M1 K2 E2 M2 : Int) (n1 n2 : Bool) (w w1 : World) (hb : Below (w.alloc (.cells #[.int .i64 m, .int .i64 x] 37)).heap.size (w.alloc (.cells #[.int .i64 m, .int .i64 x] 37)) w1) :
    ∃ w5, w5 = (w1.alloc (.cells #[.int .i64 K1, .bool n1, .int .i64 E1, .int .u64 M1] 53)).alloc (.cells #[.int .i64 K2, .bool n2, .int .i64 E2, .int .u64 M2] 53) ∧ Below w.heap.size w w5 ∧ w5.cell? ⟨w.heap.size, 0, none⟩ = some (.int .i64 m) ∧ w5.cell? ⟨w.heap.size, 1, none⟩ = some (.int .i64 x) ∧ w5.cell? ⟨w1.heap.size, 0, none⟩ = some (.int .i64 K1) ∧ w5.cell? ⟨w1.heap.size, 1, none⟩ = some (.bool n1) ∧ w5.cell? ⟨w1.heap.size, 2, none⟩ = some (.int .i64 E1) ∧ w5.cell? ⟨w1.heap.size, 3, none⟩ = some (.int .u64 M1) ∧ w5.cell? ⟨w1.heap.size + 1, 0, none⟩ = some (.int .i64 K2) ∧ w5.cell? ⟨w1.heap.size + 1, 1, none⟩ = some (.bool n2) ∧ w5.cell? ⟨w1.heap.size + 1, 2, none⟩ = some (.int .i64 E2) ∧ w5.cell? ⟨w1.heap.size + 1, 3, none⟩ = some (.int .u64 M2) := by
  have hB := box_below _ hb
  have d0 : w1.cell? ⟨w.heap.size, 0, none⟩ = some (.int .i64 m) := cellLater hb (by simp)
  have d1 : w1.cell? ⟨w.heap.size, 1, none⟩ = some (.int .i64 x) := cellLater hb (by simp)
  have hZ : Below w1.heap.size w1 ((w1.alloc (.cells #[.int .i64 K1, .bool n1, .int .i64 E1, .int .u64 M1] 53)).alloc (.cells #[.int .i64 K2, .bool n2, .int .i64 E2, .int .u64 M2] 53)) := ((Below.refl _ _).alloc (Nat.le_refl _) _).alloc (by simp) _
  obtain ⟨p0, p1, p2, p3, -⟩ := ps_alloc (.cells #[.int .i64 K2, .bool n2, .int .i64 E2, .int .u64 M2] 53) (ps_fresh w1 K1 E1 M1 n1)
  have h := ps_fresh (w1.alloc (.cells #[.int .i64 K1, .bool n1, .int .i64 E1, .int .u64 M1] 53)) K2 E2 M2 n2
  rw [show (w1.alloc (.cells #[.int .i64 K1, .bool n1, .int .i64 E1, .int .u64 M1] 53)).heap.size = w1.heap.size + 1 by simp] at h
  obtain ⟨q0, q1, q2, q3, -⟩ := h
  exact ⟨_, rfl, hB.trans (hZ.mono hB.size), cellLater hZ d0, cellLater hZ d1, p0, p1, p2, p3, q0, q1, q2, q3⟩
theorem radd_err (m x a b : Int) (w : World)
    (HO : Hid (∀ w, Calls Tryz.prog 33 #[.agg #[.int .i64 m, .int .i64 x], .int .u64 a, .int .u64 b] w fun r w' => r = .returned (.tuple #[partsV 0 false 0 0, partsV 0 false 0 0, .int .i64 1]) ∧ Below w.heap.size w w')) :
    Calls Tryz.prog 12 #[.agg #[.int .i64 m, .int .i64 x], .int .u64 a, .int .u64 b] w fun r w' => r = .returned (.tuple #[.int .u64 0, .int .i64 1]) ∧ Below w.heap.size w w' := by
  go_enter Tryz.func12, Tryz.ntmps12
  go_wp2_with fail
  refine (HO.out _).mono ?_
  rintro r w1 ⟨rfl, hb1⟩
  have HB1 := hidden (box_below _ hb1)
  clear hb1
  go_wp2
  go_ret2
  refine ⟨rfl, ?_⟩
  have h0 := HB1.out
  exact (h0.alloc h0.size _).alloc (by have := h0.size; simp; omega) _
theorem radd_11f (m x a b E1 M1 E2 M2 R : Int) (n2 : Bool) (w : World)
    (HO : Hid (∀ w, Calls Tryz.prog 33 #[.agg #[.int .i64 m, .int .i64 x], .int .u64 a, .int .u64 b] w fun r w' => r = .returned (.tuple #[partsV 1 false E1 M1, partsV 1 n2 E2 M2, .int .i64 0]) ∧ Below w.heap.size w w'))
    (HZ : Hid (∀ w, Calls Tryz.prog 36 #[.agg #[.int .i64 m, .int .i64 x], .bool false] w fun r w' => r = .returned (.int .u64 R) ∧ Below w.heap.size w w'))
    : Calls Tryz.prog 12 #[.agg #[.int .i64 m, .int .i64 x], .int .u64 a, .int .u64 b] w fun r w' => r = .returned (.tuple #[.int .u64 R, .int .i64 0]) ∧ Below w.heap.size w w' := by
  go_enter Tryz.func12, Tryz.ntmps12
  go_wp2_with fail
  refine (HO.out _).mono ?_
  rintro r w1 ⟨rfl, hb1⟩
  obtain ⟨w5, hw5, hx, c0, c1, p0, p1, p2', p3, q0, q1, q2', q3⟩ := ropen_boxes m x 1 E1 M1 1 E2 M2 false n2 w w1 hb1
  have HB := hidden hx
  clear hx hb1
  go_upto_region 2 with fail
  change Code.wp _ _ _ _ ((w1.alloc (.cells #[.int .i64 1, .bool false, .int .i64 E1, .int .u64 M1] 53)).alloc (.cells #[.int .i64 1, .bool n2, .int .i64 E2, .int .u64 M2] 53))
  rw [← hw5]
  clear hw5
  go_wp2_with (go_at_call 36; refine (HZ.out _).mono ?_; rintro r w9 ⟨rfl, hb⟩; have zz := rten_later hb ⟨c0, c1, p0, p1, p2', p3, q0, q1, q2', q3⟩; clear c0 c1 p0 p1 p2' p3 q0 q1 q2' q3; obtain ⟨c0, c1, p0, p1, p2', p3, q0, q1, q2', q3⟩ := zz; have HB := hidden (HB.out.trans (hb.mono HB.out.size)); clear hb)
  go_ret2
  exact ⟨rfl, HB.out⟩
theorem radd_11t (m x a b E1 M1 E2 M2 R : Int) (n2 : Bool) (w : World)
    (HO : Hid (∀ w, Calls Tryz.prog 33 #[.agg #[.int .i64 m, .int .i64 x], .int .u64 a, .int .u64 b] w fun r w' => r = .returned (.tuple #[partsV 1 true E1 M1, partsV 1 n2 E2 M2, .int .i64 0]) ∧ Below w.heap.size w w'))
    (HZ : Hid (∀ w, Calls Tryz.prog 36 #[.agg #[.int .i64 m, .int .i64 x], .bool n2] w fun r w' => r = .returned (.int .u64 R) ∧ Below w.heap.size w w'))
    : Calls Tryz.prog 12 #[.agg #[.int .i64 m, .int .i64 x], .int .u64 a, .int .u64 b] w fun r w' => r = .returned (.tuple #[.int .u64 R, .int .i64 0]) ∧ Below w.heap.size w w' := by
  go_enter Tryz.func12, Tryz.ntmps12
  go_wp2_with fail
  refine (HO.out _).mono ?_
  rintro r w1 ⟨rfl, hb1⟩
  obtain ⟨w5, hw5, hx, c0, c1, p0, p1, p2', p3, q0, q1, q2', q3⟩ := ropen_boxes m x 1 E1 M1 1 E2 M2 true n2 w w1 hb1
  have HB := hidden hx
  clear hx hb1
  go_upto_region 2 with fail
  change Code.wp _ _ _ _ ((w1.alloc (.cells #[.int .i64 1, .bool true, .int .i64 E1, .int .u64 M1] 53)).alloc (.cells #[.int .i64 1, .bool n2, .int .i64 E2, .int .u64 M2] 53))
  rw [← hw5]
  clear hw5
  go_wp2_with (go_at_call 36; refine (HZ.out _).mono ?_; rintro r w9 ⟨rfl, hb⟩; have zz := rten_later hb ⟨c0, c1, p0, p1, p2', p3, q0, q1, q2', q3⟩; clear c0 c1 p0 p1 p2' p3 q0 q1 q2' q3; obtain ⟨c0, c1, p0, p1, p2', p3, q0, q1, q2', q3⟩ := zz; have HB := hidden (HB.out.trans (hb.mono HB.out.size)); clear hb)
  go_ret2
  exact ⟨rfl, HB.out⟩
theorem radd_13 (m x a b E1 M1 E2 M2 R : Int) (n1 n2 : Bool) (w : World)
    (HO : Hid (∀ w, Calls Tryz.prog 33 #[.agg #[.int .i64 m, .int .i64 x], .int .u64 a, .int .u64 b] w fun r w' => r = .returned (.tuple #[partsV 1 n1 E1 M1, partsV 3 n2 E2 M2, .int .i64 0]) ∧ Below w.heap.size w w'))
    (HI : Hid (∀ w, Calls Tryz.prog 35 #[.agg #[.int .i64 m, .int .i64 x], .bool n2] w fun r w' => r = .returned (.int .u64 R) ∧ Below w.heap.size w w'))
    : Calls Tryz.prog 12 #[.agg #[.int .i64 m, .int .i64 x], .int .u64 a, .int .u64 b] w fun r w' => r = .returned (.tuple #[.int .u64 R, .int .i64 0]) ∧ Below w.heap.size w w' := by
  go_enter Tryz.func12, Tryz.ntmps12
  go_wp2_with fail
  refine (HO.out _).mono ?_
  rintro r w1 ⟨rfl, hb1⟩
  obtain ⟨w5, hw5, hx, c0, c1, p0, p1, p2', p3, q0, q1, q2', q3⟩ := ropen_boxes m x 1 E1 M1 3 E2 M2 n1 n2 w w1 hb1
  have HB := hidden hx
  clear hx hb1
  go_upto_region 2 with fail
  change Code.wp _ _ _ _ ((w1.alloc (.cells #[.int .i64 1, .bool n1, .int .i64 E1, .int .u64 M1] 53)).alloc (.cells #[.int .i64 3, .bool n2, .int .i64 E2, .int .u64 M2] 53))
  rw [← hw5]
  clear hw5
  go_wp2_with (go_at_call 35; refine (HI.out _).mono ?_; rintro r w9 ⟨rfl, hb⟩; have zz := rten_later hb ⟨c0, c1, p0, p1, p2', p3, q0, q1, q2', q3⟩; clear c0 c1 p0 p1 p2' p3 q0 q1 q2' q3; obtain ⟨c0, c1, p0, p1, p2', p3, q0, q1, q2', q3⟩ := zz; have HB := hidden (HB.out.trans (hb.mono HB.out.size)); clear hb)
  go_ret2
  exact ⟨rfl, HB.out⟩
theorem radd_14 (m x a b E1 M1 E2 M2 R : Int) (n1 n2 : Bool) (w : World)
    (HO : Hid (∀ w, Calls Tryz.prog 33 #[.agg #[.int .i64 m, .int .i64 x], .int .u64 a, .int .u64 b] w fun r w' => r = .returned (.tuple #[partsV 1 n1 E1 M1, partsV 4 n2 E2 M2, .int .i64 0]) ∧ Below w.heap.size w w'))
    (HN : Hid (∀ w, Calls Tryz.prog 34 #[.agg #[.int .i64 m, .int .i64 x]] w fun r w' => r = .returned (.int .u64 R) ∧ Below w.heap.size w w'))
    : Calls Tryz.prog 12 #[.agg #[.int .i64 m, .int .i64 x], .int .u64 a, .int .u64 b] w fun r w' => r = .returned (.tuple #[.int .u64 R, .int .i64 0]) ∧ Below w.heap.size w w' := by
  go_enter Tryz.func12, Tryz.ntmps12
  go_wp2_with fail
  refine (HO.out _).mono ?_
  rintro r w1 ⟨rfl, hb1⟩
  obtain ⟨w5, hw5, hx, c0, c1, p0, p1, p2', p3, q0, q1, q2', q3⟩ := ropen_boxes m x 1 E1 M1 4 E2 M2 n1 n2 w w1 hb1
  have HB := hidden hx
  clear hx hb1
  go_upto_region 2 with fail
  change Code.wp _ _ _ _ ((w1.alloc (.cells #[.int .i64 1, .bool n1, .int .i64 E1, .int .u64 M1] 53)).alloc (.cells #[.int .i64 4, .bool n2, .int .i64 E2, .int .u64 M2] 53))
  rw [← hw5]
  clear hw5
  go_wp2_with (go_at_call 34; refine (HN.out _).mono ?_; rintro r w9 ⟨rfl, hb⟩; have zz := rten_later hb ⟨c0, c1, p0, p1, p2', p3, q0, q1, q2', q3⟩; clear c0 c1 p0 p1 p2' p3 q0 q1 q2' q3; obtain ⟨c0, c1, p0, p1, p2', p3, q0, q1, q2', q3⟩ := zz; have HB := hidden (HB.out.trans (hb.mono HB.out.size)); clear hb)
  go_ret2
  exact ⟨rfl, HB.out⟩
theorem radd_23 (m x a b E1 M1 E2 M2 R : Int) (n1 n2 : Bool) (w : World)
    (HO : Hid (∀ w, Calls Tryz.prog 33 #[.agg #[.int .i64 m, .int .i64 x], .int .u64 a, .int .u64 b] w fun r w' => r = .returned (.tuple #[partsV 2 n1 E1 M1, partsV 3 n2 E2 M2, .int .i64 0]) ∧ Below w.heap.size w w'))
    (HI : Hid (∀ w, Calls Tryz.prog 35 #[.agg #[.int .i64 m, .int .i64 x], .bool n2] w fun r w' => r = .returned (.int .u64 R) ∧ Below w.heap.size w w'))
    : Calls Tryz.prog 12 #[.agg #[.int .i64 m, .int .i64 x], .int .u64 a, .int .u64 b] w fun r w' => r = .returned (.tuple #[.int .u64 R, .int .i64 0]) ∧ Below w.heap.size w w' := by
  go_enter Tryz.func12, Tryz.ntmps12
  go_wp2_with fail
  refine (HO.out _).mono ?_
  rintro r w1 ⟨rfl, hb1⟩
  obtain ⟨w5, hw5, hx, c0, c1, p0, p1, p2', p3, q0, q1, q2', q3⟩ := ropen_boxes m x 2 E1 M1 3 E2 M2 n1 n2 w w1 hb1
  have HB := hidden hx
  clear hx hb1
  go_upto_region 2 with fail
  change Code.wp _ _ _ _ ((w1.alloc (.cells #[.int .i64 2, .bool n1, .int .i64 E1, .int .u64 M1] 53)).alloc (.cells #[.int .i64 3, .bool n2, .int .i64 E2, .int .u64 M2] 53))
  rw [← hw5]
  clear hw5
  go_wp2_with (go_at_call 35; refine (HI.out _).mono ?_; rintro r w9 ⟨rfl, hb⟩; have zz := rten_later hb ⟨c0, c1, p0, p1, p2', p3, q0, q1, q2', q3⟩; clear c0 c1 p0 p1 p2' p3 q0 q1 q2' q3; obtain ⟨c0, c1, p0, p1, p2', p3, q0, q1, q2', q3⟩ := zz; have HB := hidden (HB.out.trans (hb.mono HB.out.size)); clear hb)
  go_ret2
  exact ⟨rfl, HB.out⟩
theorem radd_24 (m x a b E1 M1 E2 M2 R : Int) (n1 n2 : Bool) (w : World)
    (HO : Hid (∀ w, Calls Tryz.prog 33 #[.agg #[.int .i64 m, .int .i64 x], .int .u64 a, .int .u64 b] w fun r w' => r = .returned (.tuple #[partsV 2 n1 E1 M1, partsV 4 n2 E2 M2, .int .i64 0]) ∧ Below w.heap.size w w'))
    (HN : Hid (∀ w, Calls Tryz.prog 34 #[.agg #[.int .i64 m, .int .i64 x]] w fun r w' => r = .returned (.int .u64 R) ∧ Below w.heap.size w w'))
    : Calls Tryz.prog 12 #[.agg #[.int .i64 m, .int .i64 x], .int .u64 a, .int .u64 b] w fun r w' => r = .returned (.tuple #[.int .u64 R, .int .i64 0]) ∧ Below w.heap.size w w' := by
  go_enter Tryz.func12, Tryz.ntmps12
  go_wp2_with fail
  refine (HO.out _).mono ?_
  rintro r w1 ⟨rfl, hb1⟩
  obtain ⟨w5, hw5, hx, c0, c1, p0, p1, p2', p3, q0, q1, q2', q3⟩ := ropen_boxes m x 2 E1 M1 4 E2 M2 n1 n2 w w1 hb1
  have HB := hidden hx
  clear hx hb1
  go_upto_region 2 with fail
  change Code.wp _ _ _ _ ((w1.alloc (.cells #[.int .i64 2, .bool n1, .int .i64 E1, .int .u64 M1] 53)).alloc (.cells #[.int .i64 4, .bool n2, .int .i64 E2, .int .u64 M2] 53))
  rw [← hw5]
  clear hw5
  go_wp2_with (go_at_call 34; refine (HN.out _).mono ?_; rintro r w9 ⟨rfl, hb⟩; have zz := rten_later hb ⟨c0, c1, p0, p1, p2', p3, q0, q1, q2', q3⟩; clear c0 c1 p0 p1 p2' p3 q0 q1 q2' q3; obtain ⟨c0, c1, p0, p1, p2', p3, q0, q1, q2', q3⟩ := zz; have HB := hidden (HB.out.trans (hb.mono HB.out.size)); clear hb)
  go_ret2
  exact ⟨rfl, HB.out⟩
theorem radd_31f (m x a b E1 M1 E2 M2 R : Int) (n2 : Bool) (w : World)
    (HO : Hid (∀ w, Calls Tryz.prog 33 #[.agg #[.int .i64 m, .int .i64 x], .int .u64 a, .int .u64 b] w fun r w' => r = .returned (.tuple #[partsV 3 false E1 M1, partsV 1 n2 E2 M2, .int .i64 0]) ∧ Below w.heap.size w w'))
    (HI : Hid (∀ w, Calls Tryz.prog 35 #[.agg #[.int .i64 m, .int .i64 x], .bool false] w fun r w' => r = .returned (.int .u64 R) ∧ Below w.heap.size w w'))
    : Calls Tryz.prog 12 #[.agg #[.int .i64 m, .int .i64 x], .int .u64 a, .int .u64 b] w fun r w' => r = .returned (.tuple #[.int .u64 R, .int .i64 0]) ∧ Below w.heap.size w w' := by
  go_enter Tryz.func12, Tryz.ntmps12
  go_wp2_with fail
  refine (HO.out _).mono ?_
  rintro r w1 ⟨rfl, hb1⟩
  obtain ⟨w5, hw5, hx, c0, c1, p0, p1, p2', p3, q0, q1, q2', q3⟩ := ropen_boxes m x 3 E1 M1 1 E2 M2 false n2 w w1 hb1
  have HB := hidden hx
  clear hx hb1
  go_upto_region 2 with fail
  change Code.wp _ _ _ _ ((w1.alloc (.cells #[.int .i64 3, .bool false, .int .i64 E1, .int .u64 M1] 53)).alloc (.cells #[.int .i64 1, .bool n2, .int .i64 E2, .int .u64 M2] 53))
  rw [← hw5]
  clear hw5
  go_wp2_with (go_at_call 35; refine (HI.out _).mono ?_; rintro r w9 ⟨rfl, hb⟩; have zz := rten_later hb ⟨c0, c1, p0, p1, p2', p3, q0, q1, q2', q3⟩; clear c0 c1 p0 p1 p2' p3 q0 q1 q2' q3; obtain ⟨c0, c1, p0, p1, p2', p3, q0, q1, q2', q3⟩ := zz; have HB := hidden (HB.out.trans (hb.mono HB.out.size)); clear hb)
  go_ret2
  exact ⟨rfl, HB.out⟩
theorem radd_31t (m x a b E1 M1 E2 M2 R : Int) (n2 : Bool) (w : World)
    (HO : Hid (∀ w, Calls Tryz.prog 33 #[.agg #[.int .i64 m, .int .i64 x], .int .u64 a, .int .u64 b] w fun r w' => r = .returned (.tuple #[partsV 3 true E1 M1, partsV 1 n2 E2 M2, .int .i64 0]) ∧ Below w.heap.size w w'))
    (HI : Hid (∀ w, Calls Tryz.prog 35 #[.agg #[.int .i64 m, .int .i64 x], .bool true] w fun r w' => r = .returned (.int .u64 R) ∧ Below w.heap.size w w'))
    : Calls Tryz.prog 12 #[.agg #[.int .i64 m, .int .i64 x], .int .u64 a, .int .u64 b] w fun r w' => r = .returned (.tuple #[.int .u64 R, .int .i64 0]) ∧ Below w.heap.size w w' := by
  go_enter Tryz.func12, Tryz.ntmps12
  go_wp2_with fail
  refine (HO.out _).mono ?_
  rintro r w1 ⟨rfl, hb1⟩
  obtain ⟨w5, hw5, hx, c0, c1, p0, p1, p2', p3, q0, q1, q2', q3⟩ := ropen_boxes m x 3 E1 M1 1 E2 M2 true n2 w w1 hb1
  have HB := hidden hx
  clear hx hb1
  go_upto_region 2 with fail
  change Code.wp _ _ _ _ ((w1.alloc (.cells #[.int .i64 3, .bool true, .int .i64 E1, .int .u64 M1] 53)).alloc (.cells #[.int .i64 1, .bool n2, .int .i64 E2, .int .u64 M2] 53))
  rw [← hw5]
  clear hw5
  go_wp2_with (go_at_call 35; refine (HI.out _).mono ?_; rintro r w9 ⟨rfl, hb⟩; have zz := rten_later hb ⟨c0, c1, p0, p1, p2', p3, q0, q1, q2', q3⟩; clear c0 c1 p0 p1 p2' p3 q0 q1 q2' q3; obtain ⟨c0, c1, p0, p1, p2', p3, q0, q1, q2', q3⟩ := zz; have HB := hidden (HB.out.trans (hb.mono HB.out.size)); clear hb)
  go_ret2
  exact ⟨rfl, HB.out⟩
theorem radd_32f (m x a b E1 M1 E2 M2 R : Int) (n2 : Bool) (w : World)
    (HO : Hid (∀ w, Calls Tryz.prog 33 #[.agg #[.int .i64 m, .int .i64 x], .int .u64 a, .int .u64 b] w fun r w' => r = .returned (.tuple #[partsV 3 false E1 M1, partsV 2 n2 E2 M2, .int .i64 0]) ∧ Below w.heap.size w w'))
    (HI : Hid (∀ w, Calls Tryz.prog 35 #[.agg #[.int .i64 m, .int .i64 x], .bool false] w fun r w' => r = .returned (.int .u64 R) ∧ Below w.heap.size w w'))
    : Calls Tryz.prog 12 #[.agg #[.int .i64 m, .int .i64 x], .int .u64 a, .int .u64 b] w fun r w' => r = .returned (.tuple #[.int .u64 R, .int .i64 0]) ∧ Below w.heap.size w w' := by
  go_enter Tryz.func12, Tryz.ntmps12
  go_wp2_with fail
  refine (HO.out _).mono ?_
  rintro r w1 ⟨rfl, hb1⟩
  obtain ⟨w5, hw5, hx, c0, c1, p0, p1, p2', p3, q0, q1, q2', q3⟩ := ropen_boxes m x 3 E1 M1 2 E2 M2 false n2 w w1 hb1
  have HB := hidden hx
  clear hx hb1
  go_upto_region 2 with fail
  change Code.wp _ _ _ _ ((w1.alloc (.cells #[.int .i64 3, .bool false, .int .i64 E1, .int .u64 M1] 53)).alloc (.cells #[.int .i64 2, .bool n2, .int .i64 E2, .int .u64 M2] 53))
  rw [← hw5]
  clear hw5
  go_wp2_with (go_at_call 35; refine (HI.out _).mono ?_; rintro r w9 ⟨rfl, hb⟩; have zz := rten_later hb ⟨c0, c1, p0, p1, p2', p3, q0, q1, q2', q3⟩; clear c0 c1 p0 p1 p2' p3 q0 q1 q2' q3; obtain ⟨c0, c1, p0, p1, p2', p3, q0, q1, q2', q3⟩ := zz; have HB := hidden (HB.out.trans (hb.mono HB.out.size)); clear hb)
  go_ret2
  exact ⟨rfl, HB.out⟩
theorem radd_32t (m x a b E1 M1 E2 M2 R : Int) (n2 : Bool) (w : World)
    (HO : Hid (∀ w, Calls Tryz.prog 33 #[.agg #[.int .i64 m, .int .i64 x], .int .u64 a, .int .u64 b] w fun r w' => r = .returned (.tuple #[partsV 3 true E1 M1, partsV 2 n2 E2 M2, .int .i64 0]) ∧ Below w.heap.size w w'))
    (HI : Hid (∀ w, Calls Tryz.prog 35 #[.agg #[.int .i64 m, .int .i64 x], .bool true] w fun r w' => r = .returned (.int .u64 R) ∧ Below w.heap.size w w'))
    : Calls Tryz.prog 12 #[.agg #[.int .i64 m, .int .i64 x], .int .u64 a, .int .u64 b] w fun r w' => r = .returned (.tuple #[.int .u64 R, .int .i64 0]) ∧ Below w.heap.size w w' := by
  go_enter Tryz.func12, Tryz.ntmps12
  go_wp2_with fail
  refine (HO.out _).mono ?_
  rintro r w1 ⟨rfl, hb1⟩
  obtain ⟨w5, hw5, hx, c0, c1, p0, p1, p2', p3, q0, q1, q2', q3⟩ := ropen_boxes m x 3 E1 M1 2 E2 M2 true n2 w w1 hb1
  have HB := hidden hx
  clear hx hb1
  go_upto_region 2 with fail
  change Code.wp _ _ _ _ ((w1.alloc (.cells #[.int .i64 3, .bool true, .int .i64 E1, .int .u64 M1] 53)).alloc (.cells #[.int .i64 2, .bool n2, .int .i64 E2, .int .u64 M2] 53))
  rw [← hw5]
  clear hw5
  go_wp2_with (go_at_call 35; refine (HI.out _).mono ?_; rintro r w9 ⟨rfl, hb⟩; have zz := rten_later hb ⟨c0, c1, p0, p1, p2', p3, q0, q1, q2', q3⟩; clear c0 c1 p0 p1 p2' p3 q0 q1 q2' q3; obtain ⟨c0, c1, p0, p1, p2', p3, q0, q1, q2', q3⟩ := zz; have HB := hidden (HB.out.trans (hb.mono HB.out.size)); clear hb)
  go_ret2
  exact ⟨rfl, HB.out⟩
theorem radd_33ff (m x a b E1 M1 E2 M2 R : Int) (w : World)
    (HO : Hid (∀ w, Calls Tryz.prog 33 #[.agg #[.int .i64 m, .int .i64 x], .int .u64 a, .int .u64 b] w fun r w' => r = .returned (.tuple #[partsV 3 false E1 M1, partsV 3 false E2 M2, .int .i64 0]) ∧ Below w.heap.size w w'))
    (HI : Hid (∀ w, Calls Tryz.prog 35 #[.agg #[.int .i64 m, .int .i64 x], .bool false] w fun r w' => r = .returned (.int .u64 R) ∧ Below w.heap.size w w'))
    : Calls Tryz.prog 12 #[.agg #[.int .i64 m, .int .i64 x], .int .u64 a, .int .u64 b] w fun r w' => r = .returned (.tuple #[.int .u64 R, .int .i64 0]) ∧ Below w.heap.size w w' := by
  go_enter Tryz.func12, Tryz.ntmps12
  go_wp2_with fail
  refine (HO.out _).mono ?_
  rintro r w1 ⟨rfl, hb1⟩
  obtain ⟨w5, hw5, hx, c0, c1, p0, p1, p2', p3, q0, q1, q2', q3⟩ := ropen_boxes m x 3 E1 M1 3 E2 M2 false false w w1 hb1
  have HB := hidden hx
  clear hx hb1
  go_upto_region 2 with fail
  change Code.wp _ _ _ _ ((w1.alloc (.cells #[.int .i64 3, .bool false, .int .i64 E1, .int .u64 M1] 53)).alloc (.cells #[.int .i64 3, .bool false, .int .i64 E2, .int .u64 M2] 53))
  rw [← hw5]
  clear hw5
  go_wp2_with (go_at_call 35; refine (HI.out _).mono ?_; rintro r w9 ⟨rfl, hb⟩; have zz := rten_later hb ⟨c0, c1, p0, p1, p2', p3, q0, q1, q2', q3⟩; clear c0 c1 p0 p1 p2' p3 q0 q1 q2' q3; obtain ⟨c0, c1, p0, p1, p2', p3, q0, q1, q2', q3⟩ := zz; have HB := hidden (HB.out.trans (hb.mono HB.out.size)); clear hb)
  go_ret2
  exact ⟨rfl, HB.out⟩
theorem radd_33ft (m x a b E1 M1 E2 M2 R : Int) (w : World)
    (HO : Hid (∀ w, Calls Tryz.prog 33 #[.agg #[.int .i64 m, .int .i64 x], .int .u64 a, .int .u64 b] w fun r w' => r = .returned (.tuple #[partsV 3 false E1 M1, partsV 3 true E2 M2, .int .i64 0]) ∧ Below w.heap.size w w'))
    (HN : Hid (∀ w, Calls Tryz.prog 34 #[.agg #[.int .i64 m, .int .i64 x]] w fun r w' => r = .returned (.int .u64 R) ∧ Below w.heap.size w w'))
    : Calls Tryz.prog 12 #[.agg #[.int .i64 m, .int .i64 x], .int .u64 a, .int .u64 b] w fun r w' => r = .returned (.tuple #[.int .u64 R, .int .i64 0]) ∧ Below w.heap.size w w' := by
  go_enter Tryz.func12, Tryz.ntmps12
  go_wp2_with fail
  refine (HO.out _).mono ?_
  rintro r w1 ⟨rfl, hb1⟩
  obtain ⟨w5, hw5, hx, c0, c1, p0, p1, p2', p3, q0, q1, q2', q3⟩ := ropen_boxes m x 3 E1 M1 3 E2 M2 false true w w1 hb1
  have HB := hidden hx
  clear hx hb1
  go_upto_region 2 with fail
  change Code.wp _ _ _ _ ((w1.alloc (.cells #[.int .i64 3, .bool false, .int .i64 E1, .int .u64 M1] 53)).alloc (.cells #[.int .i64 3, .bool true, .int .i64 E2, .int .u64 M2] 53))
  rw [← hw5]
  clear hw5
  go_wp2_with (go_at_call 34; refine (HN.out _).mono ?_; rintro r w9 ⟨rfl, hb⟩; have zz := rten_later hb ⟨c0, c1, p0, p1, p2', p3, q0, q1, q2', q3⟩; clear c0 c1 p0 p1 p2' p3 q0 q1 q2' q3; obtain ⟨c0, c1, p0, p1, p2', p3, q0, q1, q2', q3⟩ := zz; have HB := hidden (HB.out.trans (hb.mono HB.out.size)); clear hb)
  go_ret2
  exact ⟨rfl, HB.out⟩
theorem radd_33tf (m x a b E1 M1 E2 M2 R : Int) (w : World)
    (HO : Hid (∀ w, Calls Tryz.prog 33 #[.agg #[.int .i64 m, .int .i64 x], .int .u64 a, .int .u64 b] w fun r w' => r = .returned (.tuple #[partsV 3 true E1 M1, partsV 3 false E2 M2, .int .i64 0]) ∧ Below w.heap.size w w'))
    (HN : Hid (∀ w, Calls Tryz.prog 34 #[.agg #[.int .i64 m, .int .i64 x]] w fun r w' => r = .returned (.int .u64 R) ∧ Below w.heap.size w w'))
    : Calls Tryz.prog 12 #[.agg #[.int .i64 m, .int .i64 x], .int .u64 a, .int .u64 b] w fun r w' => r = .returned (.tuple #[.int .u64 R, .int .i64 0]) ∧ Below w.heap.size w w' := by
  go_enter Tryz.func12, Tryz.ntmps12
  go_wp2_with fail
  refine (HO.out _).mono ?_
  rintro r w1 ⟨rfl, hb1⟩
  obtain ⟨w5, hw5, hx, c0, c1, p0, p1, p2', p3, q0, q1, q2', q3⟩ := ropen_boxes m x 3 E1 M1 3 E2 M2 true false w w1 hb1
  have HB := hidden hx
  clear hx hb1
  go_upto_region 2 with fail
  change Code.wp _ _ _ _ ((w1.alloc (.cells #[.int .i64 3, .bool true, .int .i64 E1, .int .u64 M1] 53)).alloc (.cells #[.int .i64 3, .bool false, .int .i64 E2, .int .u64 M2] 53))
  rw [← hw5]
  clear hw5
  go_wp2_with (go_at_call 34; refine (HN.out _).mono ?_; rintro r w9 ⟨rfl, hb⟩; have zz := rten_later hb ⟨c0, c1, p0, p1, p2', p3, q0, q1, q2', q3⟩; clear c0 c1 p0 p1 p2' p3 q0 q1 q2' q3; obtain ⟨c0, c1, p0, p1, p2', p3, q0, q1, q2', q3⟩ := zz; have HB := hidden (HB.out.trans (hb.mono HB.out.size)); clear hb)
  go_ret2
  exact ⟨rfl, HB.out⟩
theorem radd_33tt (m x a b E1 M1 E2 M2 R : Int) (w : World)
    (HO : Hid (∀ w, Calls Tryz.prog 33 #[.agg #[.int .i64 m, .int .i64 x], .int .u64 a, .int .u64 b] w fun r w' => r = .returned (.tuple #[partsV 3 true E1 M1, partsV 3 true E2 M2, .int .i64 0]) ∧ Below w.heap.size w w'))
    (HI : Hid (∀ w, Calls Tryz.prog 35 #[.agg #[.int .i64 m, .int .i64 x], .bool true] w fun r w' => r = .returned (.int .u64 R) ∧ Below w.heap.size w w'))
    : Calls Tryz.prog 12 #[.agg #[.int .i64 m, .int .i64 x], .int .u64 a, .int .u64 b] w fun r w' => r = .returned (.tuple #[.int .u64 R, .int .i64 0]) ∧ Below w.heap.size w w' := by
  go_enter Tryz.func12, Tryz.ntmps12
  go_wp2_with fail
  refine (HO.out _).mono ?_
  rintro r w1 ⟨rfl, hb1⟩
  obtain ⟨w5, hw5, hx, c0, c1, p0, p1, p2', p3, q0, q1, q2', q3⟩ := ropen_boxes m x 3 E1 M1 3 E2 M2 true true w w1 hb1
  have HB := hidden hx
  clear hx hb1
  go_upto_region 2 with fail
  change Code.wp _ _ _ _ ((w1.alloc (.cells #[.int .i64 3, .bool true, .int .i64 E1, .int .u64 M1] 53)).alloc (.cells #[.int .i64 3, .bool true, .int .i64 E2, .int .u64 M2] 53))
  rw [← hw5]
  clear hw5
  go_wp2_with (go_at_call 35; refine (HI.out _).mono ?_; rintro r w9 ⟨rfl, hb⟩; have zz := rten_later hb ⟨c0, c1, p0, p1, p2', p3, q0, q1, q2', q3⟩; clear c0 c1 p0 p1 p2' p3 q0 q1 q2' q3; obtain ⟨c0, c1, p0, p1, p2', p3, q0, q1, q2', q3⟩ := zz; have HB := hidden (HB.out.trans (hb.mono HB.out.size)); clear hb)
  go_ret2
  exact ⟨rfl, HB.out⟩
theorem radd_34 (m x a b E1 M1 E2 M2 R : Int) (n1 n2 : Bool) (w : World)
    (HO : Hid (∀ w, Calls Tryz.prog 33 #[.agg #[.int .i64 m, .int .i64 x], .int .u64 a, .int .u64 b] w fun r w' => r = .returned (.tuple #[partsV 3 n1 E1 M1, partsV 4 n2 E2 M2, .int .i64 0]) ∧ Below w.heap.size w w'))
    (HN : Hid (∀ w, Calls Tryz.prog 34 #[.agg #[.int .i64 m, .int .i64 x]] w fun r w' => r = .returned (.int .u64 R) ∧ Below w.heap.size w w'))
    : Calls Tryz.prog 12 #[.agg #[.int .i64 m, .int .i64 x], .int .u64 a, .int .u64 b] w fun r w' => r = .returned (.tuple #[.int .u64 R, .int .i64 0]) ∧ Below w.heap.size w w' := by
  go_enter Tryz.func12, Tryz.ntmps12
  go_wp2_with fail
  refine (HO.out _).mono ?_
  rintro r w1 ⟨rfl, hb1⟩
  obtain ⟨w5, hw5, hx, c0, c1, p0, p1, p2', p3, q0, q1, q2', q3⟩ := ropen_boxes m x 3 E1 M1 4 E2 M2 n1 n2 w w1 hb1
  have HB := hidden hx
  clear hx hb1
  go_upto_region 2 with fail
  change Code.wp _ _ _ _ ((w1.alloc (.cells #[.int .i64 3, .bool n1, .int .i64 E1, .int .u64 M1] 53)).alloc (.cells #[.int .i64 4, .bool n2, .int .i64 E2, .int .u64 M2] 53))
  rw [← hw5]
  clear hw5
  go_wp2_with (go_at_call 34; refine (HN.out _).mono ?_; rintro r w9 ⟨rfl, hb⟩; have zz := rten_later hb ⟨c0, c1, p0, p1, p2', p3, q0, q1, q2', q3⟩; clear c0 c1 p0 p1 p2' p3 q0 q1 q2' q3; obtain ⟨c0, c1, p0, p1, p2', p3, q0, q1, q2', q3⟩ := zz; have HB := hidden (HB.out.trans (hb.mono HB.out.size)); clear hb)
  go_ret2
  exact ⟨rfl, HB.out⟩
theorem radd_41 (m x a b E1 M1 E2 M2 R : Int) (n1 n2 : Bool) (w : World)
    (HO : Hid (∀ w, Calls Tryz.prog 33 #[.agg #[.int .i64 m, .int .i64 x], .int .u64 a, .int .u64 b] w fun r w' => r = .returned (.tuple #[partsV 4 n1 E1 M1, partsV 1 n2 E2 M2, .int .i64 0]) ∧ Below w.heap.size w w'))
    (HN : Hid (∀ w, Calls Tryz.prog 34 #[.agg #[.int .i64 m, .int .i64 x]] w fun r w' => r = .returned (.int .u64 R) ∧ Below w.heap.size w w'))
    : Calls Tryz.prog 12 #[.agg #[.int .i64 m, .int .i64 x], .int .u64 a, .int .u64 b] w fun r w' => r = .returned (.tuple #[.int .u64 R, .int .i64 0]) ∧ Below w.heap.size w w' := by
  go_enter Tryz.func12, Tryz.ntmps12
  go_wp2_with fail
  refine (HO.out _).mono ?_
  rintro r w1 ⟨rfl, hb1⟩
  obtain ⟨w5, hw5, hx, c0, c1, p0, p1, p2', p3, q0, q1, q2', q3⟩ := ropen_boxes m x 4 E1 M1 1 E2 M2 n1 n2 w w1 hb1
  have HB := hidden hx
  clear hx hb1
  go_upto_region 2 with fail
  change Code.wp _ _ _ _ ((w1.alloc (.cells #[.int .i64 4, .bool n1, .int .i64 E1, .int .u64 M1] 53)).alloc (.cells #[.int .i64 1, .bool n2, .int .i64 E2, .int .u64 M2] 53))
  rw [← hw5]
  clear hw5
  go_wp2_with (go_at_call 34; refine (HN.out _).mono ?_; rintro r w9 ⟨rfl, hb⟩; have zz := rten_later hb ⟨c0, c1, p0, p1, p2', p3, q0, q1, q2', q3⟩; clear c0 c1 p0 p1 p2' p3 q0 q1 q2' q3; obtain ⟨c0, c1, p0, p1, p2', p3, q0, q1, q2', q3⟩ := zz; have HB := hidden (HB.out.trans (hb.mono HB.out.size)); clear hb)
  go_ret2
  exact ⟨rfl, HB.out⟩
theorem radd_42 (m x a b E1 M1 E2 M2 R : Int) (n1 n2 : Bool) (w : World)
    (HO : Hid (∀ w, Calls Tryz.prog 33 #[.agg #[.int .i64 m, .int .i64 x], .int .u64 a, .int .u64 b] w fun r w' => r = .returned (.tuple #[partsV 4 n1 E1 M1, partsV 2 n2 E2 M2, .int .i64 0]) ∧ Below w.heap.size w w'))
    (HN : Hid (∀ w, Calls Tryz.prog 34 #[.agg #[.int .i64 m, .int .i64 x]] w fun r w' => r = .returned (.int .u64 R) ∧ Below w.heap.size w w'))
    : Calls Tryz.prog 12 #[.agg #[.int .i64 m, .int .i64 x], .int .u64 a, .int .u64 b] w fun r w' => r = .returned (.tuple #[.int .u64 R, .int .i64 0]) ∧ Below w.heap.size w w' := by
  go_enter Tryz.func12, Tryz.ntmps12
  go_wp2_with fail
  refine (HO.out _).mono ?_
  rintro r w1 ⟨rfl, hb1⟩
  obtain ⟨w5, hw5, hx, c0, c1, p0, p1, p2', p3, q0, q1, q2', q3⟩ := ropen_boxes m x 4 E1 M1 2 E2 M2 n1 n2 w w1 hb1
  have HB := hidden hx
  clear hx hb1
  go_upto_region 2 with fail
  change Code.wp _ _ _ _ ((w1.alloc (.cells #[.int .i64 4, .bool n1, .int .i64 E1, .int .u64 M1] 53)).alloc (.cells #[.int .i64 2, .bool n2, .int .i64 E2, .int .u64 M2] 53))
  rw [← hw5]
  clear hw5
  go_wp2_with (go_at_call 34; refine (HN.out _).mono ?_; rintro r w9 ⟨rfl, hb⟩; have zz := rten_later hb ⟨c0, c1, p0, p1, p2', p3, q0, q1, q2', q3⟩; clear c0 c1 p0 p1 p2' p3 q0 q1 q2' q3; obtain ⟨c0, c1, p0, p1, p2', p3, q0, q1, q2', q3⟩ := zz; have HB := hidden (HB.out.trans (hb.mono HB.out.size)); clear hb)
  go_ret2
  exact ⟨rfl, HB.out⟩
theorem radd_43 (m x a b E1 M1 E2 M2 R : Int) (n1 n2 : Bool) (w : World)
    (HO : Hid (∀ w, Calls Tryz.prog 33 #[.agg #[.int .i64 m, .int .i64 x], .int .u64 a, .int .u64 b] w fun r w' => r = .returned (.tuple #[partsV 4 n1 E1 M1, partsV 3 n2 E2 M2, .int .i64 0]) ∧ Below w.heap.size w w'))
    (HN : Hid (∀ w, Calls Tryz.prog 34 #[.agg #[.int .i64 m, .int .i64 x]] w fun r w' => r = .returned (.int .u64 R) ∧ Below w.heap.size w w'))
    : Calls Tryz.prog 12 #[.agg #[.int .i64 m, .int .i64 x], .int .u64 a, .int .u64 b] w fun r w' => r = .returned (.tuple #[.int .u64 R, .int .i64 0]) ∧ Below w.heap.size w w' := by
  go_enter Tryz.func12, Tryz.ntmps12
  go_wp2_with fail
  refine (HO.out _).mono ?_
  rintro r w1 ⟨rfl, hb1⟩
  obtain ⟨w5, hw5, hx, c0, c1, p0, p1, p2', p3, q0, q1, q2', q3⟩ := ropen_boxes m x 4 E1 M1 3 E2 M2 n1 n2 w w1 hb1
  have HB := hidden hx
  clear hx hb1
  go_upto_region 2 with fail
  change Code.wp _ _ _ _ ((w1.alloc (.cells #[.int .i64 4, .bool n1, .int .i64 E1, .int .u64 M1] 53)).alloc (.cells #[.int .i64 3, .bool n2, .int .i64 E2, .int .u64 M2] 53))
  rw [← hw5]
  clear hw5
  go_wp2_with (go_at_call 34; refine (HN.out _).mono ?_; rintro r w9 ⟨rfl, hb⟩; have zz := rten_later hb ⟨c0, c1, p0, p1, p2', p3, q0, q1, q2', q3⟩; clear c0 c1 p0 p1 p2' p3 q0 q1 q2' q3; obtain ⟨c0, c1, p0, p1, p2', p3, q0, q1, q2', q3⟩ := zz; have HB := hidden (HB.out.trans (hb.mono HB.out.size)); clear hb)
  go_ret2
  exact ⟨rfl, HB.out⟩
theorem radd_44 (m x a b E1 M1 E2 M2 R : Int) (n1 n2 : Bool) (w : World)
    (HO : Hid (∀ w, Calls Tryz.prog 33 #[.agg #[.int .i64 m, .int .i64 x], .int .u64 a, .int .u64 b] w fun r w' => r = .returned (.tuple #[partsV 4 n1 E1 M1, partsV 4 n2 E2 M2, .int .i64 0]) ∧ Below w.heap.size w w'))
    (HN : Hid (∀ w, Calls Tryz.prog 34 #[.agg #[.int .i64 m, .int .i64 x]] w fun r w' => r = .returned (.int .u64 R) ∧ Below w.heap.size w w'))
    : Calls Tryz.prog 12 #[.agg #[.int .i64 m, .int .i64 x], .int .u64 a, .int .u64 b] w fun r w' => r = .returned (.tuple #[.int .u64 R, .int .i64 0]) ∧ Below w.heap.size w w' := by
  go_enter Tryz.func12, Tryz.ntmps12
  go_wp2_with fail
  refine (HO.out _).mono ?_
  rintro r w1 ⟨rfl, hb1⟩
  obtain ⟨w5, hw5, hx, c0, c1, p0, p1, p2', p3, q0, q1, q2', q3⟩ := ropen_boxes m x 4 E1 M1 4 E2 M2 n1 n2 w w1 hb1
  have HB := hidden hx
  clear hx hb1
  go_upto_region 2 with fail
  change Code.wp _ _ _ _ ((w1.alloc (.cells #[.int .i64 4, .bool n1, .int .i64 E1, .int .u64 M1] 53)).alloc (.cells #[.int .i64 4, .bool n2, .int .i64 E2, .int .u64 M2] 53))
  rw [← hw5]
  clear hw5
  go_wp2_with (go_at_call 34; refine (HN.out _).mono ?_; rintro r w9 ⟨rfl, hb⟩; have zz := rten_later hb ⟨c0, c1, p0, p1, p2', p3, q0, q1, q2', q3⟩; clear c0 c1 p0 p1 p2' p3 q0 q1 q2' q3; obtain ⟨c0, c1, p0, p1, p2', p3, q0, q1, q2', q3⟩ := zz; have HB := hidden (HB.out.trans (hb.mono HB.out.size)); clear hb)
  go_ret2
  exact ⟨rfl, HB.out⟩
end Go.Proofs.YtbfbdemknggpkaaGreatDoor
namespace Go.Proofs.YtbfbdemknggpkaaGreatDoor
open Go.RowKit
set_option maxRecDepth 100000
set_option maxHeartbeats 1000000
set_option linter.unusedVariables false

/-- what the nearest pattern to a sum is -/
def AddIs (m x : Nat) (S e R : Int) : Prop := (S = 0 ∧ R = 0) ∨ (S ≠ 0 ∧ ∃ P, IsNear m x (if S < 0 then -S else S) 1 e P ∧ R = P + sgnW (decide (S < 0)) (m + x))
def AddRet (w : World) (m x : Nat) (S e : Int) (r : Ending) (w' : World) : Prop := ∃ R, r = .returned (.tuple #[.int .u64 R, .int .i64 0]) ∧ AddIs m x S e R ∧ Below w.heap.size w w'
theorem radd_sum_22 (m x : Nat) (a b E1 M1 E2 M2 e : Int) (n1 n2 : Bool) (k1 k2 : Nat) (w : World) (hok : okF m x) (a0 : 0 ≤ M1) (a1 : M1 ≤ 18446744073709551615) (b0 : 0 ≤ M2) (b1 : M2 ≤ 18446744073709551615)
    (he : min E1 E2 = e) (hk1 : E1 - e = k1) (hk2 : E2 - e = k2) (r1 : -2000 ≤ E1 ∧ E1 ≤ 2000) (r2 : -2000 ≤ E2 ∧ E2 ≤ 2000)
    (HO : Hid (∀ w, Calls Tryz.prog 33 #[.agg #[.int .i64 (m : Int), .int .i64 x], .int .u64 a, .int .u64 b] w fun r w' => r = .returned (.tuple #[partsV 2 n1 E1 M1, partsV 2 n2 E2 M2, .int .i64 0]) ∧ Below w.heap.size w w'))
    : Calls Tryz.prog 12 #[.agg #[.int .i64 m, .int .i64 x], .int .u64 a, .int .u64 b] w fun r w' => AddRet w m x (sgnI n1 * (M1 * p2 k1) + sgnI n2 * (M2 * p2 k2)) e r w' := by
  have HZ : Hid (∀ w, Calls Tryz.prog 36 #[.agg #[.int .i64 (m : Int), .int .i64 (x : Int)], .bool false] w fun r w' => r = .returned (.int .u64 0) ∧ Below w.heap.size w w') := hidden fun w => by
    refine (zero_any m x false w (by have := hok.2.1; omega) (by have := hok.2.2.2; omega)).mono ?_
    rintro r w' ⟨rfl, hw⟩
    subst hw
    refine ⟨rfl, ?_⟩
    repeat (first | exact Below.refl _ _ | apply Below.drew | (refine Below.alloc ?_ (by simp; try omega) _))
  have hs : ∀ n : Bool, sgnI n = 1 ∨ sgnI n = -1 := fun n => by cases n; exact .inl rfl; exact .inr rfl
  have HP := hidden (fun (W : World) x1 l1 c1 d1 x2 l2 c2 d2 (h1 : HasNat W x1 l1 c1 d1 M1) (h2 : HasNat W x2 l2 c2 d2 M2) (hl1 : l1 ≤ 4) (hl2 : l2 ≤ 4) => plus_walk (sgnI n1) (sgnI n2) E1 E2 M1 M2 e x1 x2 l1 c1 l2 c2 k1 k2 d1 d2 W h1 h2 (by omega) (by omega) he hk1 hk2 (by omega) (by omega) (by omega) (by omega) (hs n1) (hs n2))
  have HL : k1 / 16 + 4 + k2 / 16 + 4 + 3 ≤ 300 := by omega
  have HEB : -2000 ≤ e ∧ e ≤ 2000 := by omega
  generalize sgnI n1 * (M1 * p2 k1) + sgnI n2 * (M2 * p2 k2) = SS at *
  have HX1 := hidden (fun w => exact_any 2 E1 M1 n1 w a0 a1)
  have HX2 := hidden (fun w => exact_any 2 E2 M2 n2 w b0 b1)
  clear he hk1 hk2 r1 r2 hs
  go_enter Tryz.func12, Tryz.ntmps12
  go_wp2_with fail
  refine (HO.out _).mono ?_
  rintro r w1 ⟨rfl, hb1⟩
  obtain ⟨w5, hw5, hx, c0, c1, p0, p1, p2', p3, q0, q1, q2', q3⟩ := ropen_boxes m x (2) E1 M1 2 E2 M2 n1 n2 w w1 hb1
  have HB := hidden hx
  clear hx hb1
  go_upto_region 2 with fail
  change Code.wp _ _ _ _ ((w1.alloc (.cells #[.int .i64 2, .bool n1, .int .i64 E1, .int .u64 M1] 53)).alloc (.cells #[.int .i64 2, .bool n2, .int .i64 E2, .int .u64 M2] 53))
  rw [← hw5]
  clear hw5
  go_upto_region 12 with fail
  go_region_held3 (fun w' => w'.cell? ⟨w.heap.size, 0, none⟩ = some (.int .i64 m) ∧ w'.cell? ⟨w.heap.size, 1, none⟩ = some (.int .i64 x) ∧ w'.cell? ⟨w1.heap.size, 0, none⟩ = some (.int .i64 2) ∧ w'.cell? ⟨w1.heap.size, 1, none⟩ = some (.bool n1) ∧ w'.cell? ⟨w1.heap.size, 2, none⟩ = some (.int .i64 E1) ∧ w'.cell? ⟨w1.heap.size, 3, none⟩ = some (.int .u64 M1) ∧ w'.cell? ⟨w1.heap.size + 1, 0, none⟩ = some (.int .i64 2) ∧ w'.cell? ⟨w1.heap.size + 1, 1, none⟩ = some (.bool n2) ∧ w'.cell? ⟨w1.heap.size + 1, 2, none⟩ = some (.int .i64 E2) ∧ w'.cell? ⟨w1.heap.size + 1, 3, none⟩ = some (.int .u64 M2)) (first | (refine ⟨?_, ?_, ?_, ?_, ?_, ?_, ?_, ?_, ?_, ?_⟩ <;> with_reducible assumption) | go_keep) (first | (go_at_call_of 38 (Value.int IntKind.u64 M1); have hlq : w1.heap.size + 1 < w5.heap.size := World.block_lt_of_cell? _ _ q0; have hlf : w.heap.size < w5.heap.size := World.block_lt_of_cell? _ _ c0; have nq1 : ¬ w5.heap.size = w.heap.size := (by omega); have nq2 : ¬ w5.heap.size = w1.heap.size := (by omega); have nq3 : ¬ w5.heap.size = w1.heap.size + 1 := (by omega); clear hlq hlf; have hA : Below w5.heap.size w5 (w5.drew.alloc (.cells #[.int .i64 0, .slice none 0 0, .int .i64 0] 61)) := ((Below.refl _ _).drew).alloc (Nat.le_refl _) _; have hc := HX1.out (w5.drew.alloc (.cells #[.int .i64 0, .slice none 0 0, .int .i64 0] 61)); (with_reducible refine hc.mono ?_); clear hc; rintro r w6 ⟨a6, l6, c6, d6, rfl, h6, hl6, hb6, -⟩; have cc := rten_later hb6 (rten_later hA ⟨c0, c1, p0, p1, p2', p3, q0, q1, q2', q3⟩); have zf := rs_fresh w5.drew 0 0 none 0 0; have ZZ : Hid (RsAt w6 w5.heap.size 0 (.slice none 0 0) 0) := hidden (rs_of hb6 zf); have HBA := HB.out.trans (hA.mono HB.out.size); have HB6 := hidden (HBA.trans (hb6.mono HBA.size)); have H6 := hidden h6; clear hb6 h6 hA zf HBA; clear c0 c1 p0 p1 p2' p3 q0 q1 q2' q3; obtain ⟨c0, c1, p0, p1, p2', p3, q0, q1, q2', q3⟩ := cc) | (go_at_call_of 38 (Value.int IntKind.u64 M1); have hlq : w1.heap.size + 1 < w5.heap.size := World.block_lt_of_cell? _ _ q0; have hlf : w.heap.size < w5.heap.size := World.block_lt_of_cell? _ _ c0; have nq1 : ¬ w5.heap.size = w.heap.size := (by omega); have nq2 : ¬ w5.heap.size = w1.heap.size := (by omega); have nq3 : ¬ w5.heap.size = w1.heap.size + 1 := (by omega); clear hlq hlf; have hA : Below w5.heap.size w5 (w5.alloc (.cells #[.int .i64 0, .slice none 0 0, .int .i64 0] 61)).drew := ((Below.refl _ _).alloc (Nat.le_refl _) _).drew; have hc := HX1.out (w5.alloc (.cells #[.int .i64 0, .slice none 0 0, .int .i64 0] 61)).drew; (with_reducible refine hc.mono ?_); clear hc; rintro r w6 ⟨a6, l6, c6, d6, rfl, h6, hl6, hb6, -⟩; have cc := rten_later hb6 (rten_later hA ⟨c0, c1, p0, p1, p2', p3, q0, q1, q2', q3⟩); have zf := rs_of ((Below.refl _ _).drew) (rs_fresh w5 0 0 none 0 0); have ZZ : Hid (RsAt w6 w5.heap.size 0 (.slice none 0 0) 0) := hidden (rs_of hb6 zf); have HBA := HB.out.trans (hA.mono HB.out.size); have HB6 := hidden (HBA.trans (hb6.mono HBA.size)); have H6 := hidden h6; clear hb6 h6 hA zf HBA; clear c0 c1 p0 p1 p2' p3 q0 q1 q2' q3; obtain ⟨c0, c1, p0, p1, p2', p3, q0, q1, q2', q3⟩ := cc) | (go_at_call_of 38 (Value.int IntKind.u64 M1); have hc := HX1.out w5.drew; (with_reducible refine hc.mono ?_); clear hc; rintro r w6 ⟨a6, l6, c6, d6, rfl, h6, hl6, hb6, -⟩; have cc := rten_later hb6 (rten_later ((Below.refl _ _).drew) ⟨c0, c1, p0, p1, p2', p3, q0, q1, q2', q3⟩); have HB6 := hidden (HB.out.drew.trans (hb6.mono HB.out.drew.size)); have H6 := hidden h6; clear hb6 h6; clear c0 c1 p0 p1 p2' p3 q0 q1 q2' q3; obtain ⟨c0, c1, p0, p1, p2', p3, q0, q1, q2', q3⟩ := cc) | (go_at_call_of 38 (Value.int IntKind.u64 M2); have hlq : w1.heap.size + 1 < w6.heap.size := World.block_lt_of_cell? _ _ q0; have hlf : w.heap.size < w6.heap.size := World.block_lt_of_cell? _ _ c0; have nq1 : ¬ w6.heap.size = w.heap.size := (by omega); have nq2 : ¬ w6.heap.size = w1.heap.size := (by omega); have nq3 : ¬ w6.heap.size = w1.heap.size + 1 := (by omega); clear hlq hlf; have hA := ((Below.refl _ _).alloc (Nat.le_refl _) _ : Below w6.heap.size w6 (w6.alloc (.cells #[.int .i64 0, .slice none 0 0, .int .i64 0] 61))); have hc := HX2.out (w6.alloc (.cells #[.int .i64 0, .slice none 0 0, .int .i64 0] 61)); (with_reducible refine hc.mono ?_); clear hc; rintro r w7 ⟨a7, l7, c7, d7, rfl, h7, hl7, hb7, -⟩; have cc := rten_later hb7 (rten_later hA ⟨c0, c1, p0, p1, p2', p3, q0, q1, q2', q3⟩); have ZZ := hidden (rs_of hb7 (rs_fresh w6 0 0 none 0 0)); have HBA := HB6.out.trans (hA.mono HB6.out.size); have HB7 := hidden (HBA.trans (hb7.mono HBA.size)); have H7 := hidden h7; have H6' := hidden ((H6.out.later hA).later hb7); clear hb7 h7 hA HBA; clear c0 c1 p0 p1 p2' p3 q0 q1 q2' q3; obtain ⟨c0, c1, p0, p1, p2', p3, q0, q1, q2', q3⟩ := cc) | (go_at_call_of 38 (Value.int IntKind.u64 M2); have zy := ZZ.out; have hc := HX2.out w6; (with_reducible refine hc.mono ?_); clear hc; rintro r w7 ⟨a7, l7, c7, d7, rfl, h7, hl7, hb7, -⟩; have cc := rten_later hb7 ⟨c0, c1, p0, p1, p2', p3, q0, q1, q2', q3⟩; have ZZ := hidden (rs_of hb7 zy); clear zy; have HB7 := hidden (HB6.out.trans (hb7.mono HB6.out.size)); have H7 := hidden h7; have H6' := hidden (H6.out.later hb7); clear hb7 h7; clear c0 c1 p0 p1 p2' p3 q0 q1 q2' q3; obtain ⟨c0, c1, p0, p1, p2', p3, q0, q1, q2', q3⟩ := cc) | (go_at_call_of 38 (Value.int IntKind.u64 M2); have hc := HX2.out w6; (with_reducible refine hc.mono ?_); clear hc; rintro r w7 ⟨a7, l7, c7, d7, rfl, h7, hl7, hb7, -⟩; have cc := rten_later hb7 ⟨c0, c1, p0, p1, p2', p3, q0, q1, q2', q3⟩;  have HB7 := hidden (HB6.out.trans (hb7.mono HB6.out.size)); have H7 := hidden h7; have H6' := hidden (H6.out.later hb7); clear hb7 h7; clear c0 c1 p0 p1 p2' p3 q0 q1 q2' q3; obtain ⟨c0, c1, p0, p1, p2', p3, q0, q1, q2', q3⟩ := cc) | (go_at_call 37; have hlq : w1.heap.size + 1 < w7.heap.size := World.block_lt_of_cell? _ _ q0; have hlf : w.heap.size < w7.heap.size := World.block_lt_of_cell? _ _ c0; have nq1 : ¬ w7.heap.size = w.heap.size := (by omega); have nq2 : ¬ w7.heap.size = w1.heap.size := (by omega); have nq3 : ¬ w7.heap.size = w1.heap.size + 1 := (by omega); clear hlq hlf; have hA := ((Below.refl _ _).alloc (Nat.le_refl _) _ : Below w7.heap.size w7 (w7.alloc (.cells #[.int .i64 0, .slice none 0 0, .int .i64 0] 61))); have hc := HP.out (w7.alloc (.cells #[.int .i64 0, .slice none 0 0, .int .i64 0] 61)) _ _ _ _ _ _ _ _ (H6'.out.later hA) (H7.out.later hA) hl6 hl7; (with_reducible refine hc.mono ?_); clear hc; rintro r w8 ⟨s, an, ln, cn, dn, N, rfl, h8, hs8, hN8, hl8, hb8, nw8⟩; have cc := rten_later hb8 (rten_later hA ⟨c0, c1, p0, p1, p2', p3, q0, q1, q2', q3⟩); have ZZ := hidden (rs_of hb8 (rs_fresh w7 0 0 none 0 0)); have HBA := HB7.out.trans (hA.mono HB7.out.size); have HB8 := hidden (HBA.trans (hb8.mono HBA.size)); have H8 := hidden h8; have HS8 := hidden hs8; have HN8 := hidden hN8; have NW8 : Hid (∀ p, an = some p → w7.heap.size < p.block) := hidden (fun p hp => by have h := nw8 p hp; simp at h; omega); clear hb8 h8 hs8 hN8 nw8 hA HBA; clear c0 c1 p0 p1 p2' p3 q0 q1 q2' q3; obtain ⟨c0, c1, p0, p1, p2', p3, q0, q1, q2', q3⟩ := cc; have zz := ZZ.out; obtain ⟨z0, z1, z2, z3, z4, z5⟩ := zz) | (go_at_call 37; have zy := ZZ.out; have hc := HP.out w7 _ _ _ _ _ _ _ _ H6'.out H7.out hl6 hl7; (with_reducible refine hc.mono ?_); clear hc; rintro r w8 ⟨s, an, ln, cn, dn, N, rfl, h8, hs8, hN8, hl8, hb8, nw8⟩; have cc := rten_later hb8 ⟨c0, c1, p0, p1, p2', p3, q0, q1, q2', q3⟩; have NWZ : Hid (∀ p, an = some p → w7.heap.size ≤ p.block) := hidden nw8; have ZY := hidden zy; have ZZ := hidden (rs_of hb8 zy); clear zy; have HB8 := hidden (HB7.out.trans (hb8.mono HB7.out.size)); have H8 := hidden h8; have HS8 := hidden hs8; have HN8 := hidden hN8; clear hb8 h8 hs8 hN8 nw8; clear c0 c1 p0 p1 p2' p3 q0 q1 q2' q3; obtain ⟨c0, c1, p0, p1, p2', p3, q0, q1, q2', q3⟩ := cc; have zz := ZZ.out; obtain ⟨z0, z1, z2, z3, z4, z5⟩ := zz) | (go_at_call 37; have hc := HP.out w7 _ _ _ _ _ _ _ _ H6'.out H7.out hl6 hl7; (with_reducible refine hc.mono ?_); clear hc; rintro r w8 ⟨s, an, ln, cn, dn, N, rfl, h8, hs8, hN8, hl8, hb8, nw8⟩; have cc := rten_later hb8 ⟨c0, c1, p0, p1, p2', p3, q0, q1, q2', q3⟩; have NWL := hidden nw8; have HB8 := hidden (HB7.out.trans (hb8.mono HB7.out.size)); have H8 := hidden h8; have HS8 := hidden hs8; have HN8 := hidden hN8; clear hb8 h8 hs8 hN8 nw8; clear c0 c1 p0 p1 p2' p3 q0 q1 q2' q3; obtain ⟨c0, c1, p0, p1, p2', p3, q0, q1, q2', q3⟩ := cc))
  all_goals first
    | (
      have zq : RsAt w8 w7.heap.size 0 (.slice none 0 0) 0 := by with_reducible exact ZZ.out
      have hX := set3_below HB8.out w7.heap.size (by have h1 := HB8.out.size; have h2 := World.block_lt_of_cell? _ _ zq.1; have h3 := HB.out.size; first | exact h3 | exact HB6.out.size | exact HB7.out.size) (.int .i64 s) (.slice an ln cn) (.int .i64 e)
      have hR := rs_put zq s e (.slice an ln cn)
      have hH := has_of3 (rd_set3 H8.out.rd w7.heap.size (.int .i64 s) (.slice an ln cn) (.int .i64 e) fun p hp => by have h := NW8.out p hp; omega) H8.out.ok H8.out.val H8.out.top
      have g0 : (set3 w8 w7.heap.size (.int .i64 s) (.slice an ln cn) (.int .i64 e)).cell? ⟨w.heap.size, 0, none⟩ = some (.int .i64 m) := (set3_far _ _ _ _ _ _ _ nq1).trans c0
      have g1 : (set3 w8 w7.heap.size (.int .i64 s) (.slice an ln cn) (.int .i64 e)).cell? ⟨w.heap.size, 1, none⟩ = some (.int .i64 x) := (set3_far _ _ _ _ _ _ _ nq1).trans c1
      clear c0 c1 p0 p1 p2' p3 q0 q1 q2' q3 z0 z1 z2 z3 z4 z5 zq
      have HX := hidden hX
      have HR := hidden hR
      have HH := hidden hH
      clear hX hR hH
      go_upto_region 13 with fail
      change Code.wp _ _ _ _ (set3 w8 w7.heap.size (.int .i64 s) (.slice an ln cn) (.int .i64 e))
      generalize (set3 w8 w7.heap.size (.int .i64 s) (.slice an ln cn) (.int .i64 e)) = wz at *
      obtain ⟨z0, z1, z2, -⟩ := HR.out
      have hNn := HH.out.nonneg
      have hlN : (ln : Int) ≤ 400 := by omega
      by_cases hN0 : N = 0
      · subst hN0
        go_wp2_with (first | (go_at_call 39; refine (bits_bl HH.out (by omega)).mono ?_; rintro r w9 ⟨rfl, hw9⟩; obtain rfl := hw9.symm; rw [bl_zero]) | (go_at_call 36; refine (HZ.out _).mono ?_; rintro r w9 ⟨rfl, hb⟩))
        go_ret2
        exact ⟨0, rfl, .inl ⟨by have := HN8.out; omega, rfl⟩, HX.out.trans (hb.mono HX.out.size)⟩
      · have hbl : ((bl N : Int) == 0) = false := by
          have := (bl_bd N (by omega)).1
          simp; omega
        go_upto_region 15 with (go_at_call 39; refine (bits_bl HH.out (by omega)).mono ?_; rintro r w9 ⟨rfl, hw9⟩; obtain rfl := hw9.symm)
        go_region_held3 (fun w' => w'.cell? ⟨w.heap.size, 0, none⟩ = some (.int .i64 m) ∧ w'.cell? ⟨w.heap.size, 1, none⟩ = some (.int .i64 x) ∧ w'.cell? ⟨w7.heap.size, 0, none⟩ = some (.int .i64 s) ∧ w'.cell? ⟨w7.heap.size, 1, none⟩ = some (.slice an ln cn) ∧ w'.cell? ⟨w7.heap.size, 2, none⟩ = some (.int .i64 e)) (go_keep) (first | (go_at_call 41; refine (one_any wz.drew).mono ?_; rintro r w10 ⟨rfl, hw10⟩; have hbY : Below wz.heap.size wz wz.drew := (Below.refl _ _).drew; have hb10 : Below wz.drew.heap.size wz.drew w10 := (by rw [hw10]; exact (Below.refl _ _).alloc (Nat.le_refl _) _); have h1n : HasNat w10 (some ⟨wz.drew.heap.size, 0, none⟩) 1 1 [1] 1 := (by rw [hw10]; exact ⟨rd_one wz.drew, fun d hd => by simp at hd; omega, by simp [nv], .inr (by decide)⟩); have g0 := cellLater hb10 (cellLater hbY g0); have g1 := cellLater hb10 (cellLater hbY g1); have z0 := cellLater hb10 (cellLater hbY z0); have z1 := cellLater hb10 (cellLater hbY z1); have z2 := cellLater hb10 (cellLater hbY z2); have HH2 := hidden ((HH.out.later hbY).later hb10); have H1N := hidden h1n; have HXY := HX.out.trans (hbY.mono HX.out.size); have HX2 := hidden (HXY.trans (hb10.mono HXY.size)); clear hw10 hbY hb10 h1n HXY) | (go_at_call 40; refine (near_any m x (decide (s < 0)) _ _ _ _ _ _ _ _ N 1 e _ hok HH2.out H1N.out (by omega) hlN (by omega) (by omega) (by omega)).mono ?_; rintro r w11 ⟨P, rfl, hP, hb11⟩; have g0 := cellLater hb11 g0; have g1 := cellLater hb11 g1; have z0 := cellLater hb11 z0; have z1 := cellLater hb11 z1; have z2 := cellLater hb11 z2; have HX3 := hidden (HX2.out.trans (hb11.mono HX2.out.size)); have HPP := hidden hP; clear hb11 hP))
        all_goals
          go_wp2
          go_ret2
          refine ⟨_, rfl, .inr ?_, HX3.out⟩
          have e8 := HN8.out
          have hP := HPP.out.resolve_left (fun h => hN0 h.1)
          rcases HS8.out with rfl | rfl
          · rw [if_neg (by omega), decide_eq_false (show ¬ SS < 0 by omega), ← e8, Int.one_mul]
            exact ⟨by omega, P, hP.2, rfl⟩
          · rw [if_pos (by omega), decide_eq_true (show SS < 0 by omega), show -SS = N by omega]
            exact ⟨by omega, P, hP.2, rfl⟩)
    | (
      have zq : RsAt w8 w6.heap.size 0 (.slice none 0 0) 0 := by with_reducible exact ZZ.out
      have hX := set3_below HB8.out w6.heap.size (by have h1 := HB8.out.size; have h2 := World.block_lt_of_cell? _ _ zq.1; have h3 := HB.out.size; first | exact h3 | exact HB6.out.size | exact HB7.out.size) (.int .i64 s) (.slice an ln cn) (.int .i64 e)
      have hR := rs_put zq s e (.slice an ln cn)
      have hH := has_of3 (rd_set3 H8.out.rd w6.heap.size (.int .i64 s) (.slice an ln cn) (.int .i64 e) fun p hp => by have h := NWZ.out p hp; have h2 : w6.heap.size < w7.heap.size := World.block_lt_of_cell? _ _ ZY.out.1; omega) H8.out.ok H8.out.val H8.out.top
      have g0 : (set3 w8 w6.heap.size (.int .i64 s) (.slice an ln cn) (.int .i64 e)).cell? ⟨w.heap.size, 0, none⟩ = some (.int .i64 m) := (set3_far _ _ _ _ _ _ _ nq1).trans c0
      have g1 : (set3 w8 w6.heap.size (.int .i64 s) (.slice an ln cn) (.int .i64 e)).cell? ⟨w.heap.size, 1, none⟩ = some (.int .i64 x) := (set3_far _ _ _ _ _ _ _ nq1).trans c1
      clear c0 c1 p0 p1 p2' p3 q0 q1 q2' q3 z0 z1 z2 z3 z4 z5 zq
      have HX := hidden hX
      have HR := hidden hR
      have HH := hidden hH
      clear hX hR hH
      go_upto_region 13 with fail
      change Code.wp _ _ _ _ (set3 w8 w6.heap.size (.int .i64 s) (.slice an ln cn) (.int .i64 e))
      generalize (set3 w8 w6.heap.size (.int .i64 s) (.slice an ln cn) (.int .i64 e)) = wz at *
      obtain ⟨z0, z1, z2, -⟩ := HR.out
      have hNn := HH.out.nonneg
      have hlN : (ln : Int) ≤ 400 := by omega
      by_cases hN0 : N = 0
      · subst hN0
        go_wp2_with (first | (go_at_call 39; refine (bits_bl HH.out (by omega)).mono ?_; rintro r w9 ⟨rfl, hw9⟩; obtain rfl := hw9.symm; rw [bl_zero]) | (go_at_call 36; refine (HZ.out _).mono ?_; rintro r w9 ⟨rfl, hb⟩))
        go_ret2
        exact ⟨0, rfl, .inl ⟨by have := HN8.out; omega, rfl⟩, HX.out.trans (hb.mono HX.out.size)⟩
      · have hbl : ((bl N : Int) == 0) = false := by
          have := (bl_bd N (by omega)).1
          simp; omega
        go_upto_region 15 with (go_at_call 39; refine (bits_bl HH.out (by omega)).mono ?_; rintro r w9 ⟨rfl, hw9⟩; obtain rfl := hw9.symm)
        go_region_held3 (fun w' => w'.cell? ⟨w.heap.size, 0, none⟩ = some (.int .i64 m) ∧ w'.cell? ⟨w.heap.size, 1, none⟩ = some (.int .i64 x) ∧ w'.cell? ⟨w6.heap.size, 0, none⟩ = some (.int .i64 s) ∧ w'.cell? ⟨w6.heap.size, 1, none⟩ = some (.slice an ln cn) ∧ w'.cell? ⟨w6.heap.size, 2, none⟩ = some (.int .i64 e)) (go_keep) (first | (go_at_call 41; refine (one_any wz.drew).mono ?_; rintro r w10 ⟨rfl, hw10⟩; have hbY : Below wz.heap.size wz wz.drew := (Below.refl _ _).drew; have hb10 : Below wz.drew.heap.size wz.drew w10 := (by rw [hw10]; exact (Below.refl _ _).alloc (Nat.le_refl _) _); have h1n : HasNat w10 (some ⟨wz.drew.heap.size, 0, none⟩) 1 1 [1] 1 := (by rw [hw10]; exact ⟨rd_one wz.drew, fun d hd => by simp at hd; omega, by simp [nv], .inr (by decide)⟩); have g0 := cellLater hb10 (cellLater hbY g0); have g1 := cellLater hb10 (cellLater hbY g1); have z0 := cellLater hb10 (cellLater hbY z0); have z1 := cellLater hb10 (cellLater hbY z1); have z2 := cellLater hb10 (cellLater hbY z2); have HH2 := hidden ((HH.out.later hbY).later hb10); have H1N := hidden h1n; have HXY := HX.out.trans (hbY.mono HX.out.size); have HX2 := hidden (HXY.trans (hb10.mono HXY.size)); clear hw10 hbY hb10 h1n HXY) | (go_at_call 40; refine (near_any m x (decide (s < 0)) _ _ _ _ _ _ _ _ N 1 e _ hok HH2.out H1N.out (by omega) hlN (by omega) (by omega) (by omega)).mono ?_; rintro r w11 ⟨P, rfl, hP, hb11⟩; have g0 := cellLater hb11 g0; have g1 := cellLater hb11 g1; have z0 := cellLater hb11 z0; have z1 := cellLater hb11 z1; have z2 := cellLater hb11 z2; have HX3 := hidden (HX2.out.trans (hb11.mono HX2.out.size)); have HPP := hidden hP; clear hb11 hP))
        all_goals
          go_wp2
          go_ret2
          refine ⟨_, rfl, .inr ?_, HX3.out⟩
          have e8 := HN8.out
          have hP := HPP.out.resolve_left (fun h => hN0 h.1)
          rcases HS8.out with rfl | rfl
          · rw [if_neg (by omega), decide_eq_false (show ¬ SS < 0 by omega), ← e8, Int.one_mul]
            exact ⟨by omega, P, hP.2, rfl⟩
          · rw [if_pos (by omega), decide_eq_true (show SS < 0 by omega), show -SS = N by omega]
            exact ⟨by omega, P, hP.2, rfl⟩)
    | (
      have zq : RsAt w8 w5.heap.size 0 (.slice none 0 0) 0 := by with_reducible exact ZZ.out
      have hX := set3_below HB8.out w5.heap.size (by have h1 := HB8.out.size; have h2 := World.block_lt_of_cell? _ _ zq.1; have h3 := HB.out.size; first | exact h3 | exact HB6.out.size | exact HB7.out.size) (.int .i64 s) (.slice an ln cn) (.int .i64 e)
      have hR := rs_put zq s e (.slice an ln cn)
      have hH := has_of3 (rd_set3 H8.out.rd w5.heap.size (.int .i64 s) (.slice an ln cn) (.int .i64 e) fun p hp => by have h := NWZ.out p hp; have h2 : w5.heap.size < w7.heap.size := World.block_lt_of_cell? _ _ ZY.out.1; omega) H8.out.ok H8.out.val H8.out.top
      have g0 : (set3 w8 w5.heap.size (.int .i64 s) (.slice an ln cn) (.int .i64 e)).cell? ⟨w.heap.size, 0, none⟩ = some (.int .i64 m) := (set3_far _ _ _ _ _ _ _ nq1).trans c0
      have g1 : (set3 w8 w5.heap.size (.int .i64 s) (.slice an ln cn) (.int .i64 e)).cell? ⟨w.heap.size, 1, none⟩ = some (.int .i64 x) := (set3_far _ _ _ _ _ _ _ nq1).trans c1
      clear c0 c1 p0 p1 p2' p3 q0 q1 q2' q3 z0 z1 z2 z3 z4 z5 zq
      have HX := hidden hX
      have HR := hidden hR
      have HH := hidden hH
      clear hX hR hH
      go_upto_region 13 with fail
      change Code.wp _ _ _ _ (set3 w8 w5.heap.size (.int .i64 s) (.slice an ln cn) (.int .i64 e))
      generalize (set3 w8 w5.heap.size (.int .i64 s) (.slice an ln cn) (.int .i64 e)) = wz at *
      obtain ⟨z0, z1, z2, -⟩ := HR.out
      have hNn := HH.out.nonneg
      have hlN : (ln : Int) ≤ 400 := by omega
      by_cases hN0 : N = 0
      · subst hN0
        go_wp2_with (first | (go_at_call 39; refine (bits_bl HH.out (by omega)).mono ?_; rintro r w9 ⟨rfl, hw9⟩; obtain rfl := hw9.symm; rw [bl_zero]) | (go_at_call 36; refine (HZ.out _).mono ?_; rintro r w9 ⟨rfl, hb⟩))
        go_ret2
        exact ⟨0, rfl, .inl ⟨by have := HN8.out; omega, rfl⟩, HX.out.trans (hb.mono HX.out.size)⟩
      · have hbl : ((bl N : Int) == 0) = false := by
          have := (bl_bd N (by omega)).1
          simp; omega
        go_upto_region 15 with (go_at_call 39; refine (bits_bl HH.out (by omega)).mono ?_; rintro r w9 ⟨rfl, hw9⟩; obtain rfl := hw9.symm)
        go_region_held3 (fun w' => w'.cell? ⟨w.heap.size, 0, none⟩ = some (.int .i64 m) ∧ w'.cell? ⟨w.heap.size, 1, none⟩ = some (.int .i64 x) ∧ w'.cell? ⟨w5.heap.size, 0, none⟩ = some (.int .i64 s) ∧ w'.cell? ⟨w5.heap.size, 1, none⟩ = some (.slice an ln cn) ∧ w'.cell? ⟨w5.heap.size, 2, none⟩ = some (.int .i64 e)) (go_keep) (first | (go_at_call 41; refine (one_any wz.drew).mono ?_; rintro r w10 ⟨rfl, hw10⟩; have hbY : Below wz.heap.size wz wz.drew := (Below.refl _ _).drew; have hb10 : Below wz.drew.heap.size wz.drew w10 := (by rw [hw10]; exact (Below.refl _ _).alloc (Nat.le_refl _) _); have h1n : HasNat w10 (some ⟨wz.drew.heap.size, 0, none⟩) 1 1 [1] 1 := (by rw [hw10]; exact ⟨rd_one wz.drew, fun d hd => by simp at hd; omega, by simp [nv], .inr (by decide)⟩); have g0 := cellLater hb10 (cellLater hbY g0); have g1 := cellLater hb10 (cellLater hbY g1); have z0 := cellLater hb10 (cellLater hbY z0); have z1 := cellLater hb10 (cellLater hbY z1); have z2 := cellLater hb10 (cellLater hbY z2); have HH2 := hidden ((HH.out.later hbY).later hb10); have H1N := hidden h1n; have HXY := HX.out.trans (hbY.mono HX.out.size); have HX2 := hidden (HXY.trans (hb10.mono HXY.size)); clear hw10 hbY hb10 h1n HXY) | (go_at_call 40; refine (near_any m x (decide (s < 0)) _ _ _ _ _ _ _ _ N 1 e _ hok HH2.out H1N.out (by omega) hlN (by omega) (by omega) (by omega)).mono ?_; rintro r w11 ⟨P, rfl, hP, hb11⟩; have g0 := cellLater hb11 g0; have g1 := cellLater hb11 g1; have z0 := cellLater hb11 z0; have z1 := cellLater hb11 z1; have z2 := cellLater hb11 z2; have HX3 := hidden (HX2.out.trans (hb11.mono HX2.out.size)); have HPP := hidden hP; clear hb11 hP))
        all_goals
          go_wp2
          go_ret2
          refine ⟨_, rfl, .inr ?_, HX3.out⟩
          have e8 := HN8.out
          have hP := HPP.out.resolve_left (fun h => hN0 h.1)
          rcases HS8.out with rfl | rfl
          · rw [if_neg (by omega), decide_eq_false (show ¬ SS < 0 by omega), ← e8, Int.one_mul]
            exact ⟨by omega, P, hP.2, rfl⟩
          · rw [if_pos (by omega), decide_eq_true (show SS < 0 by omega), show -SS = N by omega]
            exact ⟨by omega, P, hP.2, rfl⟩)
    | (
      have hA : Below w8.heap.size w8 (w8.alloc (.cells #[.int .i64 s, .slice an ln cn, .int .i64 e] 61)) := (Below.refl _ _).alloc (Nat.le_refl _) _
      have g0 := cellLater hA c0
      have g1 := cellLater hA c1
      have HR := hidden (rs_fresh w8 s e an ln cn)
      have HH := hidden (H8.out.later hA)
      have HX := hidden (HB8.out.trans (hA.mono HB8.out.size))
      clear c0 c1 p0 p1 p2' p3 q0 q1 q2' q3 hA
      go_upto_region 13 with fail
      change Code.wp _ _ _ _ (w8.alloc (.cells #[.int .i64 s, .slice an ln cn, .int .i64 e] 61))
      generalize w8.alloc (.cells #[.int .i64 s, .slice an ln cn, .int .i64 e] 61) = wz at *
      obtain ⟨z0, z1, z2, -⟩ := HR.out
      have hNn := HH.out.nonneg
      have hlN : (ln : Int) ≤ 400 := by omega
      by_cases hN0 : N = 0
      · subst hN0
        go_wp2_with (first | (go_at_call 39; refine (bits_bl HH.out (by omega)).mono ?_; rintro r w9 ⟨rfl, hw9⟩; obtain rfl := hw9.symm; rw [bl_zero]) | (go_at_call 36; refine (HZ.out _).mono ?_; rintro r w9 ⟨rfl, hb⟩))
        go_ret2
        exact ⟨0, rfl, .inl ⟨by have := HN8.out; omega, rfl⟩, HX.out.trans (hb.mono HX.out.size)⟩
      · have hbl : ((bl N : Int) == 0) = false := by
          have := (bl_bd N (by omega)).1
          simp; omega
        go_upto_region 15 with (go_at_call 39; refine (bits_bl HH.out (by omega)).mono ?_; rintro r w9 ⟨rfl, hw9⟩; obtain rfl := hw9.symm)
        go_region_held3 (fun w' => w'.cell? ⟨w.heap.size, 0, none⟩ = some (.int .i64 m) ∧ w'.cell? ⟨w.heap.size, 1, none⟩ = some (.int .i64 x) ∧ w'.cell? ⟨w8.heap.size, 0, none⟩ = some (.int .i64 s) ∧ w'.cell? ⟨w8.heap.size, 1, none⟩ = some (.slice an ln cn) ∧ w'.cell? ⟨w8.heap.size, 2, none⟩ = some (.int .i64 e)) (go_keep) (first | (go_at_call 41; refine (one_any wz.drew).mono ?_; rintro r w10 ⟨rfl, hw10⟩; have hbY : Below wz.heap.size wz wz.drew := (Below.refl _ _).drew; have hb10 : Below wz.drew.heap.size wz.drew w10 := (by rw [hw10]; exact (Below.refl _ _).alloc (Nat.le_refl _) _); have h1n : HasNat w10 (some ⟨wz.drew.heap.size, 0, none⟩) 1 1 [1] 1 := (by rw [hw10]; exact ⟨rd_one wz.drew, fun d hd => by simp at hd; omega, by simp [nv], .inr (by decide)⟩); have g0 := cellLater hb10 (cellLater hbY g0); have g1 := cellLater hb10 (cellLater hbY g1); have z0 := cellLater hb10 (cellLater hbY z0); have z1 := cellLater hb10 (cellLater hbY z1); have z2 := cellLater hb10 (cellLater hbY z2); have HH2 := hidden ((HH.out.later hbY).later hb10); have H1N := hidden h1n; have HXY := HX.out.trans (hbY.mono HX.out.size); have HX2 := hidden (HXY.trans (hb10.mono HXY.size)); clear hw10 hbY hb10 h1n HXY) | (go_at_call 40; refine (near_any m x (decide (s < 0)) _ _ _ _ _ _ _ _ N 1 e _ hok HH2.out H1N.out (by omega) hlN (by omega) (by omega) (by omega)).mono ?_; rintro r w11 ⟨P, rfl, hP, hb11⟩; have g0 := cellLater hb11 g0; have g1 := cellLater hb11 g1; have z0 := cellLater hb11 z0; have z1 := cellLater hb11 z1; have z2 := cellLater hb11 z2; have HX3 := hidden (HX2.out.trans (hb11.mono HX2.out.size)); have HPP := hidden hP; clear hb11 hP))
        all_goals
          go_wp2
          go_ret2
          refine ⟨_, rfl, .inr ?_, HX3.out⟩
          have e8 := HN8.out
          have hP := HPP.out.resolve_left (fun h => hN0 h.1)
          rcases HS8.out with rfl | rfl
          · rw [if_neg (by omega), decide_eq_false (show ¬ SS < 0 by omega), ← e8, Int.one_mul]
            exact ⟨by omega, P, hP.2, rfl⟩
          · rw [if_pos (by omega), decide_eq_true (show SS < 0 by omega), show -SS = N by omega]
            exact ⟨by omega, P, hP.2, rfl⟩)

end Go.Proofs.YtbfbdemknggpkaaGreatDoor
