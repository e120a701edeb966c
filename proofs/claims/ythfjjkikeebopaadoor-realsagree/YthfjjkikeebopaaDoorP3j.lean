/- Package soft's Add, leaf by leaf. -/
import Derived.Test.YthfjjkikeebopaaDoorP3i
import Derived.Test.YthfjjkikeebopaaDoorP3b
import Derived.Test.YthfjjkikeebopaaDoorP3d
import Derived.Test.YthfjjkikeebopaaDoorP3e
namespace Go.Proofs.YthfjjkikeebopaaDoor
open Go.RowKit
set_option maxRecDepth 100000
set_option maxHeartbeats 400000
set_option linter.unusedVariables false

theorem ten_later {w6 w7 : World} {A0 A1 A2 A3 A4 A5 A6 A7 A8 A9 : Addr} {a0 a1 a2 a3 a4 a5 a6 a7 a8 a9 : Value} (hb : Below w6.heap.size w6 w7) (h : w6.cell? A0 = some a0 ∧ w6.cell? A1 = some a1 ∧ w6.cell? A2 = some a2 ∧ w6.cell? A3 = some a3 ∧ w6.cell? A4 = some a4 ∧ w6.cell? A5 = some a5 ∧ w6.cell? A6 = some a6 ∧ w6.cell? A7 = some a7 ∧ w6.cell? A8 = some a8 ∧ w6.cell? A9 = some a9) :
    w7.cell? A0 = some a0 ∧ w7.cell? A1 = some a1 ∧ w7.cell? A2 = some a2 ∧ w7.cell? A3 = some a3 ∧ w7.cell? A4 = some a4 ∧ w7.cell? A5 = some a5 ∧ w7.cell? A6 = some a6 ∧ w7.cell? A7 = some a7 ∧ w7.cell? A8 = some a8 ∧ w7.cell? A9 = some a9 := by
  obtain ⟨h0, h1, h2, h3, h4, h5, h6, h7, h8, h9⟩ := h
  exact ⟨cellLater hb h0, cellLater hb h1, cellLater hb h2, cellLater hb h3, cellLater hb h4, cellLater hb h5, cellLater hb h6, cellLater hb h7, cellLater hb h8, cellLater hb h9⟩
theorem open_boxes (m x : Nat) (K1 E1 M1 K2 E2 M2 : Int) (n1 n2 : Bool) (w w1 : World) (hb : Below (w.alloc (fmt m x)).heap.size (w.alloc (fmt m x)) w1) :
    ∃ w5, w5 = (w1.alloc (prt K1 n1 E1 M1)).alloc (prt K2 n2 E2 M2) ∧ Below w.heap.size w w5 ∧
      w5.cell? ⟨w.heap.size, 0, none⟩ = some (.int .i64 m) ∧ w5.cell? ⟨w.heap.size, 1, none⟩ = some (.int .i64 x) ∧
      w5.cell? ⟨w1.heap.size, 0, none⟩ = some (.int .i64 K1) ∧ w5.cell? ⟨w1.heap.size, 1, none⟩ = some (.bool n1) ∧ w5.cell? ⟨w1.heap.size, 2, none⟩ = some (.int .i64 E1) ∧ w5.cell? ⟨w1.heap.size, 3, none⟩ = some (.int .u64 M1) ∧
      w5.cell? ⟨w1.heap.size + 1, 0, none⟩ = some (.int .i64 K2) ∧ w5.cell? ⟨w1.heap.size + 1, 1, none⟩ = some (.bool n2) ∧ w5.cell? ⟨w1.heap.size + 1, 2, none⟩ = some (.int .i64 E2) ∧ w5.cell? ⟨w1.heap.size + 1, 3, none⟩ = some (.int .u64 M2) := by
  have hB := box_below _ hb
  have d0 : w1.cell? ⟨w.heap.size, 0, none⟩ = some (.int .i64 m) := cellLater hb (by simp)
  have d1 : w1.cell? ⟨w.heap.size, 1, none⟩ = some (.int .i64 x) := cellLater hb (by simp)
  have hl : w.heap.size < w1.heap.size := World.block_lt_of_cell? _ _ d0
  have hZ : Below w1.heap.size w1 ((w1.alloc (prt K1 n1 E1 M1)).alloc (prt K2 n2 E2 M2)) := ((Below.refl _ _).alloc (Nat.le_refl _) _).alloc (by simp) _
  obtain ⟨p0, p1, p2, p3, -⟩ := ps_alloc (prt K2 n2 E2 M2) (ps_fresh w1 K1 E1 M1 n1)
  have h := ps_fresh (w1.alloc (prt K1 n1 E1 M1)) K2 E2 M2 n2
  rw [show (w1.alloc (prt K1 n1 E1 M1)).heap.size = w1.heap.size + 1 by simp] at h
  obtain ⟨q0, q1, q2, q3, -⟩ := h
  exact ⟨_, rfl, hB.trans (hZ.mono hB.size), cellLater hZ d0, cellLater hZ d1, p0, p1, p2, p3, q0, q1, q2, q3⟩
theorem padd_err (m x a b : Int) (w : World)
    (HO : Hid (∀ w, Calls Tryd.prog 29 #[.agg #[.int .i64 m, .int .i64 x], .int .u64 a, .int .u64 b] w fun r w' => r = .returned (.tuple #[partsV 0 false 0 0, partsV 0 false 0 0, .int .i64 1]) ∧ Below w.heap.size w w')) :
    Calls Tryd.prog 17 #[.agg #[.int .i64 m, .int .i64 x], .int .u64 a, .int .u64 b] w fun r w' => r = .returned (.tuple #[.int .u64 0, .int .i64 1]) ∧ Below w.heap.size w w' := by
  go_enter Tryd.func17, Tryd.ntmps17
  go_wp2_with fail
  refine (HO.out _).mono ?_
  rintro r w1 ⟨rfl, hb1⟩
  have HB1 := hidden (box_below _ hb1)
  clear hb1
  go_wp2
  go_ret2
  refine ⟨rfl, ?_⟩
  have h0 := HB1.out
  exact (h0.alloc h0.size _).alloc (by have := h0.size; simp; omega) _
theorem padd_nan (m x : Nat) (a b K1 E1 M1 K2 E2 M2 R : Int) (n1 n2 : Bool) (w : World)
    (HO : Hid (∀ w, Calls Tryd.prog 29 #[fmtV m x, .int .u64 a, .int .u64 b] w fun r w' => r = .returned (.tuple #[partsV K1 n1 E1 M1, partsV K2 n2 E2 M2, .int .i64 0]) ∧ Below w.heap.size w w'))
    (HE4 : Hid (∀ w, Calls Tryd.prog 30 #[partsV K1 n1 E1 M1, partsV K2 n2 E2 M2, .int .i64 4] w fun r w' => r = .returned (.bool true) ∧ Below w.heap.size w w'))
    (HN : Hid (∀ w, Calls Tryd.prog 31 #[fmtV m x] w fun r w' => r = .returned (.int .u64 R) ∧ Below w.heap.size w w'))
    : Calls Tryd.prog 17 #[fmtV m x, .int .u64 a, .int .u64 b] w fun r w' => r = .returned (.tuple #[.int .u64 R, .int .i64 0]) ∧ Below w.heap.size w w' := by
  go_enter Tryd.func17, Tryd.ntmps17
  go_wp2_with fail
  refine (HO.out _).mono ?_
  rintro r w1 ⟨rfl, hb1⟩
  obtain ⟨w5, hw5, hx, c0, c1, p0, p1, p2', p3, q0, q1, q2', q3⟩ := open_boxes m x K1 E1 M1 K2 E2 M2 n1 n2 w w1 hb1
  have HB := hidden hx
  clear hx hb1
  go_upto_region 2 with fail
  change Code.wp _ _ _ _ ((w1.alloc (prt K1 n1 E1 M1)).alloc (prt K2 n2 E2 M2))
  rw [← hw5]
  clear hw5
  go_wp2_with (first | (go_at_call_of 30 (Value.int IntKind.i64 4); refine (HE4.out _).mono ?_; rintro r w9 ⟨rfl, hb⟩; have zz := ten_later hb ⟨c0, c1, p0, p1, p2', p3, q0, q1, q2', q3⟩; clear c0 c1 p0 p1 p2' p3 q0 q1 q2' q3; obtain ⟨c0, c1, p0, p1, p2', p3, q0, q1, q2', q3⟩ := zz; have HB := hidden (HB.out.trans (hb.mono HB.out.size)); clear hb) | (go_at_call 31; refine (HN.out _).mono ?_; rintro r w9 ⟨rfl, hb⟩; have zz := ten_later hb ⟨c0, c1, p0, p1, p2', p3, q0, q1, q2', q3⟩; clear c0 c1 p0 p1 p2' p3 q0 q1 q2' q3; obtain ⟨c0, c1, p0, p1, p2', p3, q0, q1, q2', q3⟩ := zz; have HB := hidden (HB.out.trans (hb.mono HB.out.size)); clear hb))
  go_ret2
  exact ⟨rfl, HB.out⟩
theorem padd_nan2_f (m x : Nat) (a b K1 E1 M1 K2 E2 M2 R : Int) (w : World)
    (HO : Hid (∀ w, Calls Tryd.prog 29 #[fmtV m x, .int .u64 a, .int .u64 b] w fun r w' => r = .returned (.tuple #[partsV K1 false E1 M1, partsV K2 true E2 M2, .int .i64 0]) ∧ Below w.heap.size w w'))
    (HE4 : Hid (∀ w, Calls Tryd.prog 30 #[partsV K1 false E1 M1, partsV K2 true E2 M2, .int .i64 4] w fun r w' => r = .returned (.bool false) ∧ Below w.heap.size w w'))
    (HB3 : Hid (∀ w, Calls Tryd.prog 32 #[partsV K1 false E1 M1, partsV K2 true E2 M2, .int .i64 3] w fun r w' => r = .returned (.bool true) ∧ Below w.heap.size w w'))
    (HN : Hid (∀ w, Calls Tryd.prog 31 #[fmtV m x] w fun r w' => r = .returned (.int .u64 R) ∧ Below w.heap.size w w'))
    : Calls Tryd.prog 17 #[fmtV m x, .int .u64 a, .int .u64 b] w fun r w' => r = .returned (.tuple #[.int .u64 R, .int .i64 0]) ∧ Below w.heap.size w w' := by
  go_enter Tryd.func17, Tryd.ntmps17
  go_wp2_with fail
  refine (HO.out _).mono ?_
  rintro r w1 ⟨rfl, hb1⟩
  obtain ⟨w5, hw5, hx, c0, c1, p0, p1, p2', p3, q0, q1, q2', q3⟩ := open_boxes m x K1 E1 M1 K2 E2 M2 false true w w1 hb1
  have HB := hidden hx
  clear hx hb1
  go_upto_region 2 with fail
  change Code.wp _ _ _ _ ((w1.alloc (prt K1 false E1 M1)).alloc (prt K2 true E2 M2))
  rw [← hw5]
  clear hw5
  go_wp2_with (first | (go_at_call_of 30 (Value.int IntKind.i64 4); refine (HE4.out _).mono ?_; rintro r w9 ⟨rfl, hb⟩; have zz := ten_later hb ⟨c0, c1, p0, p1, p2', p3, q0, q1, q2', q3⟩; clear c0 c1 p0 p1 p2' p3 q0 q1 q2' q3; obtain ⟨c0, c1, p0, p1, p2', p3, q0, q1, q2', q3⟩ := zz; have HB := hidden (HB.out.trans (hb.mono HB.out.size)); clear hb) | (go_at_call_of 32 (Value.int IntKind.i64 3); refine (HB3.out _).mono ?_; rintro r w9 ⟨rfl, hb⟩; have zz := ten_later hb ⟨c0, c1, p0, p1, p2', p3, q0, q1, q2', q3⟩; clear c0 c1 p0 p1 p2' p3 q0 q1 q2' q3; obtain ⟨c0, c1, p0, p1, p2', p3, q0, q1, q2', q3⟩ := zz; have HB := hidden (HB.out.trans (hb.mono HB.out.size)); clear hb) | (go_at_call 31; refine (HN.out _).mono ?_; rintro r w9 ⟨rfl, hb⟩; have zz := ten_later hb ⟨c0, c1, p0, p1, p2', p3, q0, q1, q2', q3⟩; clear c0 c1 p0 p1 p2' p3 q0 q1 q2' q3; obtain ⟨c0, c1, p0, p1, p2', p3, q0, q1, q2', q3⟩ := zz; have HB := hidden (HB.out.trans (hb.mono HB.out.size)); clear hb))
  go_ret2
  exact ⟨rfl, HB.out⟩
theorem padd_ia1_f (m x : Nat) (a b K1 E1 M1 K2 E2 M2 : Int) (w : World)
    (HO : Hid (∀ w, Calls Tryd.prog 29 #[fmtV m x, .int .u64 a, .int .u64 b] w fun r w' => r = .returned (.tuple #[partsV K1 false E1 M1, partsV K2 false E2 M2, .int .i64 0]) ∧ Below w.heap.size w w'))
    (HE4 : Hid (∀ w, Calls Tryd.prog 30 #[partsV K1 false E1 M1, partsV K2 false E2 M2, .int .i64 4] w fun r w' => r = .returned (.bool false) ∧ Below w.heap.size w w'))
    (HB3 : Hid (∀ w, Calls Tryd.prog 32 #[partsV K1 false E1 M1, partsV K2 false E2 M2, .int .i64 3] w fun r w' => r = .returned (.bool true) ∧ Below w.heap.size w w'))
    (k13 : (K1 == 3) = true)
    : Calls Tryd.prog 17 #[fmtV m x, .int .u64 a, .int .u64 b] w fun r w' => r = .returned (.tuple #[.int .u64 a, .int .i64 0]) ∧ Below w.heap.size w w' := by
  go_enter Tryd.func17, Tryd.ntmps17
  go_wp2_with fail
  refine (HO.out _).mono ?_
  rintro r w1 ⟨rfl, hb1⟩
  obtain ⟨w5, hw5, hx, c0, c1, p0, p1, p2', p3, q0, q1, q2', q3⟩ := open_boxes m x K1 E1 M1 K2 E2 M2 false false w w1 hb1
  have HB := hidden hx
  clear hx hb1
  go_upto_region 2 with fail
  change Code.wp _ _ _ _ ((w1.alloc (prt K1 false E1 M1)).alloc (prt K2 false E2 M2))
  rw [← hw5]
  clear hw5
  go_wp2_with (first | (go_at_call_of 30 (Value.int IntKind.i64 4); refine (HE4.out _).mono ?_; rintro r w9 ⟨rfl, hb⟩; have zz := ten_later hb ⟨c0, c1, p0, p1, p2', p3, q0, q1, q2', q3⟩; clear c0 c1 p0 p1 p2' p3 q0 q1 q2' q3; obtain ⟨c0, c1, p0, p1, p2', p3, q0, q1, q2', q3⟩ := zz; have HB := hidden (HB.out.trans (hb.mono HB.out.size)); clear hb) | (go_at_call_of 32 (Value.int IntKind.i64 3); refine (HB3.out _).mono ?_; rintro r w9 ⟨rfl, hb⟩; have zz := ten_later hb ⟨c0, c1, p0, p1, p2', p3, q0, q1, q2', q3⟩; clear c0 c1 p0 p1 p2' p3 q0 q1 q2' q3; obtain ⟨c0, c1, p0, p1, p2', p3, q0, q1, q2', q3⟩ := zz; have HB := hidden (HB.out.trans (hb.mono HB.out.size)); clear hb))
  go_ret2
  exact ⟨rfl, HB.out⟩
theorem padd_nan2_t (m x : Nat) (a b K1 E1 M1 K2 E2 M2 R : Int) (w : World)
    (HO : Hid (∀ w, Calls Tryd.prog 29 #[fmtV m x, .int .u64 a, .int .u64 b] w fun r w' => r = .returned (.tuple #[partsV K1 true E1 M1, partsV K2 false E2 M2, .int .i64 0]) ∧ Below w.heap.size w w'))
    (HE4 : Hid (∀ w, Calls Tryd.prog 30 #[partsV K1 true E1 M1, partsV K2 false E2 M2, .int .i64 4] w fun r w' => r = .returned (.bool false) ∧ Below w.heap.size w w'))
    (HB3 : Hid (∀ w, Calls Tryd.prog 32 #[partsV K1 true E1 M1, partsV K2 false E2 M2, .int .i64 3] w fun r w' => r = .returned (.bool true) ∧ Below w.heap.size w w'))
    (HN : Hid (∀ w, Calls Tryd.prog 31 #[fmtV m x] w fun r w' => r = .returned (.int .u64 R) ∧ Below w.heap.size w w'))
    : Calls Tryd.prog 17 #[fmtV m x, .int .u64 a, .int .u64 b] w fun r w' => r = .returned (.tuple #[.int .u64 R, .int .i64 0]) ∧ Below w.heap.size w w' := by
  go_enter Tryd.func17, Tryd.ntmps17
  go_wp2_with fail
  refine (HO.out _).mono ?_
  rintro r w1 ⟨rfl, hb1⟩
  obtain ⟨w5, hw5, hx, c0, c1, p0, p1, p2', p3, q0, q1, q2', q3⟩ := open_boxes m x K1 E1 M1 K2 E2 M2 true false w w1 hb1
  have HB := hidden hx
  clear hx hb1
  go_upto_region 2 with fail
  change Code.wp _ _ _ _ ((w1.alloc (prt K1 true E1 M1)).alloc (prt K2 false E2 M2))
  rw [← hw5]
  clear hw5
  go_wp2_with (first | (go_at_call_of 30 (Value.int IntKind.i64 4); refine (HE4.out _).mono ?_; rintro r w9 ⟨rfl, hb⟩; have zz := ten_later hb ⟨c0, c1, p0, p1, p2', p3, q0, q1, q2', q3⟩; clear c0 c1 p0 p1 p2' p3 q0 q1 q2' q3; obtain ⟨c0, c1, p0, p1, p2', p3, q0, q1, q2', q3⟩ := zz; have HB := hidden (HB.out.trans (hb.mono HB.out.size)); clear hb) | (go_at_call_of 32 (Value.int IntKind.i64 3); refine (HB3.out _).mono ?_; rintro r w9 ⟨rfl, hb⟩; have zz := ten_later hb ⟨c0, c1, p0, p1, p2', p3, q0, q1, q2', q3⟩; clear c0 c1 p0 p1 p2' p3 q0 q1 q2' q3; obtain ⟨c0, c1, p0, p1, p2', p3, q0, q1, q2', q3⟩ := zz; have HB := hidden (HB.out.trans (hb.mono HB.out.size)); clear hb) | (go_at_call 31; refine (HN.out _).mono ?_; rintro r w9 ⟨rfl, hb⟩; have zz := ten_later hb ⟨c0, c1, p0, p1, p2', p3, q0, q1, q2', q3⟩; clear c0 c1 p0 p1 p2' p3 q0 q1 q2' q3; obtain ⟨c0, c1, p0, p1, p2', p3, q0, q1, q2', q3⟩ := zz; have HB := hidden (HB.out.trans (hb.mono HB.out.size)); clear hb))
  go_ret2
  exact ⟨rfl, HB.out⟩
theorem padd_ia1_t (m x : Nat) (a b K1 E1 M1 K2 E2 M2 : Int) (w : World)
    (HO : Hid (∀ w, Calls Tryd.prog 29 #[fmtV m x, .int .u64 a, .int .u64 b] w fun r w' => r = .returned (.tuple #[partsV K1 true E1 M1, partsV K2 true E2 M2, .int .i64 0]) ∧ Below w.heap.size w w'))
    (HE4 : Hid (∀ w, Calls Tryd.prog 30 #[partsV K1 true E1 M1, partsV K2 true E2 M2, .int .i64 4] w fun r w' => r = .returned (.bool false) ∧ Below w.heap.size w w'))
    (HB3 : Hid (∀ w, Calls Tryd.prog 32 #[partsV K1 true E1 M1, partsV K2 true E2 M2, .int .i64 3] w fun r w' => r = .returned (.bool true) ∧ Below w.heap.size w w'))
    (k13 : (K1 == 3) = true)
    : Calls Tryd.prog 17 #[fmtV m x, .int .u64 a, .int .u64 b] w fun r w' => r = .returned (.tuple #[.int .u64 a, .int .i64 0]) ∧ Below w.heap.size w w' := by
  go_enter Tryd.func17, Tryd.ntmps17
  go_wp2_with fail
  refine (HO.out _).mono ?_
  rintro r w1 ⟨rfl, hb1⟩
  obtain ⟨w5, hw5, hx, c0, c1, p0, p1, p2', p3, q0, q1, q2', q3⟩ := open_boxes m x K1 E1 M1 K2 E2 M2 true true w w1 hb1
  have HB := hidden hx
  clear hx hb1
  go_upto_region 2 with fail
  change Code.wp _ _ _ _ ((w1.alloc (prt K1 true E1 M1)).alloc (prt K2 true E2 M2))
  rw [← hw5]
  clear hw5
  go_wp2_with (first | (go_at_call_of 30 (Value.int IntKind.i64 4); refine (HE4.out _).mono ?_; rintro r w9 ⟨rfl, hb⟩; have zz := ten_later hb ⟨c0, c1, p0, p1, p2', p3, q0, q1, q2', q3⟩; clear c0 c1 p0 p1 p2' p3 q0 q1 q2' q3; obtain ⟨c0, c1, p0, p1, p2', p3, q0, q1, q2', q3⟩ := zz; have HB := hidden (HB.out.trans (hb.mono HB.out.size)); clear hb) | (go_at_call_of 32 (Value.int IntKind.i64 3); refine (HB3.out _).mono ?_; rintro r w9 ⟨rfl, hb⟩; have zz := ten_later hb ⟨c0, c1, p0, p1, p2', p3, q0, q1, q2', q3⟩; clear c0 c1 p0 p1 p2' p3 q0 q1 q2' q3; obtain ⟨c0, c1, p0, p1, p2', p3, q0, q1, q2', q3⟩ := zz; have HB := hidden (HB.out.trans (hb.mono HB.out.size)); clear hb))
  go_ret2
  exact ⟨rfl, HB.out⟩
theorem padd_ia2 (m x : Nat) (a b K1 E1 M1 K2 E2 M2 : Int) (n1 n2 : Bool) (w : World)
    (HO : Hid (∀ w, Calls Tryd.prog 29 #[fmtV m x, .int .u64 a, .int .u64 b] w fun r w' => r = .returned (.tuple #[partsV K1 n1 E1 M1, partsV K2 n2 E2 M2, .int .i64 0]) ∧ Below w.heap.size w w'))
    (HE4 : Hid (∀ w, Calls Tryd.prog 30 #[partsV K1 n1 E1 M1, partsV K2 n2 E2 M2, .int .i64 4] w fun r w' => r = .returned (.bool false) ∧ Below w.heap.size w w'))
    (HB3 : Hid (∀ w, Calls Tryd.prog 32 #[partsV K1 n1 E1 M1, partsV K2 n2 E2 M2, .int .i64 3] w fun r w' => r = .returned (.bool false) ∧ Below w.heap.size w w'))
    (k13 : (K1 == 3) = true)
    : Calls Tryd.prog 17 #[fmtV m x, .int .u64 a, .int .u64 b] w fun r w' => r = .returned (.tuple #[.int .u64 a, .int .i64 0]) ∧ Below w.heap.size w w' := by
  go_enter Tryd.func17, Tryd.ntmps17
  go_wp2_with fail
  refine (HO.out _).mono ?_
  rintro r w1 ⟨rfl, hb1⟩
  obtain ⟨w5, hw5, hx, c0, c1, p0, p1, p2', p3, q0, q1, q2', q3⟩ := open_boxes m x K1 E1 M1 K2 E2 M2 n1 n2 w w1 hb1
  have HB := hidden hx
  clear hx hb1
  go_upto_region 2 with fail
  change Code.wp _ _ _ _ ((w1.alloc (prt K1 n1 E1 M1)).alloc (prt K2 n2 E2 M2))
  rw [← hw5]
  clear hw5
  go_wp2_with (first | (go_at_call_of 30 (Value.int IntKind.i64 4); refine (HE4.out _).mono ?_; rintro r w9 ⟨rfl, hb⟩; have zz := ten_later hb ⟨c0, c1, p0, p1, p2', p3, q0, q1, q2', q3⟩; clear c0 c1 p0 p1 p2' p3 q0 q1 q2' q3; obtain ⟨c0, c1, p0, p1, p2', p3, q0, q1, q2', q3⟩ := zz; have HB := hidden (HB.out.trans (hb.mono HB.out.size)); clear hb) | (go_at_call_of 32 (Value.int IntKind.i64 3); refine (HB3.out _).mono ?_; rintro r w9 ⟨rfl, hb⟩; have zz := ten_later hb ⟨c0, c1, p0, p1, p2', p3, q0, q1, q2', q3⟩; clear c0 c1 p0 p1 p2' p3 q0 q1 q2' q3; obtain ⟨c0, c1, p0, p1, p2', p3, q0, q1, q2', q3⟩ := zz; have HB := hidden (HB.out.trans (hb.mono HB.out.size)); clear hb))
  go_ret2
  exact ⟨rfl, HB.out⟩
theorem padd_ib (m x : Nat) (a b K1 E1 M1 K2 E2 M2 : Int) (n1 n2 : Bool) (w : World)
    (HO : Hid (∀ w, Calls Tryd.prog 29 #[fmtV m x, .int .u64 a, .int .u64 b] w fun r w' => r = .returned (.tuple #[partsV K1 n1 E1 M1, partsV K2 n2 E2 M2, .int .i64 0]) ∧ Below w.heap.size w w'))
    (HE4 : Hid (∀ w, Calls Tryd.prog 30 #[partsV K1 n1 E1 M1, partsV K2 n2 E2 M2, .int .i64 4] w fun r w' => r = .returned (.bool false) ∧ Below w.heap.size w w'))
    (HB3 : Hid (∀ w, Calls Tryd.prog 32 #[partsV K1 n1 E1 M1, partsV K2 n2 E2 M2, .int .i64 3] w fun r w' => r = .returned (.bool false) ∧ Below w.heap.size w w'))
    (k13 : (K1 == 3) = false)
    (k23 : (K2 == 3) = true)
    : Calls Tryd.prog 17 #[fmtV m x, .int .u64 a, .int .u64 b] w fun r w' => r = .returned (.tuple #[.int .u64 b, .int .i64 0]) ∧ Below w.heap.size w w' := by
  go_enter Tryd.func17, Tryd.ntmps17
  go_wp2_with fail
  refine (HO.out _).mono ?_
  rintro r w1 ⟨rfl, hb1⟩
  obtain ⟨w5, hw5, hx, c0, c1, p0, p1, p2', p3, q0, q1, q2', q3⟩ := open_boxes m x K1 E1 M1 K2 E2 M2 n1 n2 w w1 hb1
  have HB := hidden hx
  clear hx hb1
  go_upto_region 2 with fail
  change Code.wp _ _ _ _ ((w1.alloc (prt K1 n1 E1 M1)).alloc (prt K2 n2 E2 M2))
  rw [← hw5]
  clear hw5
  go_wp2_with (first | (go_at_call_of 30 (Value.int IntKind.i64 4); refine (HE4.out _).mono ?_; rintro r w9 ⟨rfl, hb⟩; have zz := ten_later hb ⟨c0, c1, p0, p1, p2', p3, q0, q1, q2', q3⟩; clear c0 c1 p0 p1 p2' p3 q0 q1 q2' q3; obtain ⟨c0, c1, p0, p1, p2', p3, q0, q1, q2', q3⟩ := zz; have HB := hidden (HB.out.trans (hb.mono HB.out.size)); clear hb) | (go_at_call_of 32 (Value.int IntKind.i64 3); refine (HB3.out _).mono ?_; rintro r w9 ⟨rfl, hb⟩; have zz := ten_later hb ⟨c0, c1, p0, p1, p2', p3, q0, q1, q2', q3⟩; clear c0 c1 p0 p1 p2' p3 q0 q1 q2' q3; obtain ⟨c0, c1, p0, p1, p2', p3, q0, q1, q2', q3⟩ := zz; have HB := hidden (HB.out.trans (hb.mono HB.out.size)); clear hb))
  go_ret2
  exact ⟨rfl, HB.out⟩
theorem padd_zz_f (m x : Nat) (a b K1 E1 M1 K2 E2 M2 R : Int) (n2 : Bool) (w : World)
    (HO : Hid (∀ w, Calls Tryd.prog 29 #[fmtV m x, .int .u64 a, .int .u64 b] w fun r w' => r = .returned (.tuple #[partsV K1 false E1 M1, partsV K2 n2 E2 M2, .int .i64 0]) ∧ Below w.heap.size w w'))
    (HE4 : Hid (∀ w, Calls Tryd.prog 30 #[partsV K1 false E1 M1, partsV K2 n2 E2 M2, .int .i64 4] w fun r w' => r = .returned (.bool false) ∧ Below w.heap.size w w'))
    (HB3 : Hid (∀ w, Calls Tryd.prog 32 #[partsV K1 false E1 M1, partsV K2 n2 E2 M2, .int .i64 3] w fun r w' => r = .returned (.bool false) ∧ Below w.heap.size w w'))
    (HB1 : Hid (∀ w, Calls Tryd.prog 32 #[partsV K1 false E1 M1, partsV K2 n2 E2 M2, .int .i64 1] w fun r w' => r = .returned (.bool true) ∧ Below w.heap.size w w'))
    (HZ : Hid (∀ w, Calls Tryd.prog 33 #[fmtV m x, .bool false] w fun r w' => r = .returned (.int .u64 R) ∧ Below w.heap.size w w'))
    (k13 : (K1 == 3) = false)
    (k23 : (K2 == 3) = false)
    : Calls Tryd.prog 17 #[fmtV m x, .int .u64 a, .int .u64 b] w fun r w' => r = .returned (.tuple #[.int .u64 R, .int .i64 0]) ∧ Below w.heap.size w w' := by
  go_enter Tryd.func17, Tryd.ntmps17
  go_wp2_with fail
  refine (HO.out _).mono ?_
  rintro r w1 ⟨rfl, hb1⟩
  obtain ⟨w5, hw5, hx, c0, c1, p0, p1, p2', p3, q0, q1, q2', q3⟩ := open_boxes m x K1 E1 M1 K2 E2 M2 false n2 w w1 hb1
  have HB := hidden hx
  clear hx hb1
  go_upto_region 2 with fail
  change Code.wp _ _ _ _ ((w1.alloc (prt K1 false E1 M1)).alloc (prt K2 n2 E2 M2))
  rw [← hw5]
  clear hw5
  go_wp2_with (first | (go_at_call_of 30 (Value.int IntKind.i64 4); refine (HE4.out _).mono ?_; rintro r w9 ⟨rfl, hb⟩; have zz := ten_later hb ⟨c0, c1, p0, p1, p2', p3, q0, q1, q2', q3⟩; clear c0 c1 p0 p1 p2' p3 q0 q1 q2' q3; obtain ⟨c0, c1, p0, p1, p2', p3, q0, q1, q2', q3⟩ := zz; have HB := hidden (HB.out.trans (hb.mono HB.out.size)); clear hb) | (go_at_call_of 32 (Value.int IntKind.i64 3); refine (HB3.out _).mono ?_; rintro r w9 ⟨rfl, hb⟩; have zz := ten_later hb ⟨c0, c1, p0, p1, p2', p3, q0, q1, q2', q3⟩; clear c0 c1 p0 p1 p2' p3 q0 q1 q2' q3; obtain ⟨c0, c1, p0, p1, p2', p3, q0, q1, q2', q3⟩ := zz; have HB := hidden (HB.out.trans (hb.mono HB.out.size)); clear hb) | (go_at_call_of 32 (Value.int IntKind.i64 1); refine (HB1.out _).mono ?_; rintro r w9 ⟨rfl, hb⟩; have zz := ten_later hb ⟨c0, c1, p0, p1, p2', p3, q0, q1, q2', q3⟩; clear c0 c1 p0 p1 p2' p3 q0 q1 q2' q3; obtain ⟨c0, c1, p0, p1, p2', p3, q0, q1, q2', q3⟩ := zz; have HB := hidden (HB.out.trans (hb.mono HB.out.size)); clear hb) | (go_at_call 33; refine (HZ.out _).mono ?_; rintro r w9 ⟨rfl, hb⟩; have zz := ten_later hb ⟨c0, c1, p0, p1, p2', p3, q0, q1, q2', q3⟩; clear c0 c1 p0 p1 p2' p3 q0 q1 q2' q3; obtain ⟨c0, c1, p0, p1, p2', p3, q0, q1, q2', q3⟩ := zz; have HB := hidden (HB.out.trans (hb.mono HB.out.size)); clear hb))
  go_ret2
  exact ⟨rfl, HB.out⟩
theorem padd_zz_t (m x : Nat) (a b K1 E1 M1 K2 E2 M2 R : Int) (n2 : Bool) (w : World)
    (HO : Hid (∀ w, Calls Tryd.prog 29 #[fmtV m x, .int .u64 a, .int .u64 b] w fun r w' => r = .returned (.tuple #[partsV K1 true E1 M1, partsV K2 n2 E2 M2, .int .i64 0]) ∧ Below w.heap.size w w'))
    (HE4 : Hid (∀ w, Calls Tryd.prog 30 #[partsV K1 true E1 M1, partsV K2 n2 E2 M2, .int .i64 4] w fun r w' => r = .returned (.bool false) ∧ Below w.heap.size w w'))
    (HB3 : Hid (∀ w, Calls Tryd.prog 32 #[partsV K1 true E1 M1, partsV K2 n2 E2 M2, .int .i64 3] w fun r w' => r = .returned (.bool false) ∧ Below w.heap.size w w'))
    (HB1 : Hid (∀ w, Calls Tryd.prog 32 #[partsV K1 true E1 M1, partsV K2 n2 E2 M2, .int .i64 1] w fun r w' => r = .returned (.bool true) ∧ Below w.heap.size w w'))
    (HZ : Hid (∀ w, Calls Tryd.prog 33 #[fmtV m x, .bool n2] w fun r w' => r = .returned (.int .u64 R) ∧ Below w.heap.size w w'))
    (k13 : (K1 == 3) = false)
    (k23 : (K2 == 3) = false)
    : Calls Tryd.prog 17 #[fmtV m x, .int .u64 a, .int .u64 b] w fun r w' => r = .returned (.tuple #[.int .u64 R, .int .i64 0]) ∧ Below w.heap.size w w' := by
  go_enter Tryd.func17, Tryd.ntmps17
  go_wp2_with fail
  refine (HO.out _).mono ?_
  rintro r w1 ⟨rfl, hb1⟩
  obtain ⟨w5, hw5, hx, c0, c1, p0, p1, p2', p3, q0, q1, q2', q3⟩ := open_boxes m x K1 E1 M1 K2 E2 M2 true n2 w w1 hb1
  have HB := hidden hx
  clear hx hb1
  go_upto_region 2 with fail
  change Code.wp _ _ _ _ ((w1.alloc (prt K1 true E1 M1)).alloc (prt K2 n2 E2 M2))
  rw [← hw5]
  clear hw5
  go_wp2_with (first | (go_at_call_of 30 (Value.int IntKind.i64 4); refine (HE4.out _).mono ?_; rintro r w9 ⟨rfl, hb⟩; have zz := ten_later hb ⟨c0, c1, p0, p1, p2', p3, q0, q1, q2', q3⟩; clear c0 c1 p0 p1 p2' p3 q0 q1 q2' q3; obtain ⟨c0, c1, p0, p1, p2', p3, q0, q1, q2', q3⟩ := zz; have HB := hidden (HB.out.trans (hb.mono HB.out.size)); clear hb) | (go_at_call_of 32 (Value.int IntKind.i64 3); refine (HB3.out _).mono ?_; rintro r w9 ⟨rfl, hb⟩; have zz := ten_later hb ⟨c0, c1, p0, p1, p2', p3, q0, q1, q2', q3⟩; clear c0 c1 p0 p1 p2' p3 q0 q1 q2' q3; obtain ⟨c0, c1, p0, p1, p2', p3, q0, q1, q2', q3⟩ := zz; have HB := hidden (HB.out.trans (hb.mono HB.out.size)); clear hb) | (go_at_call_of 32 (Value.int IntKind.i64 1); refine (HB1.out _).mono ?_; rintro r w9 ⟨rfl, hb⟩; have zz := ten_later hb ⟨c0, c1, p0, p1, p2', p3, q0, q1, q2', q3⟩; clear c0 c1 p0 p1 p2' p3 q0 q1 q2' q3; obtain ⟨c0, c1, p0, p1, p2', p3, q0, q1, q2', q3⟩ := zz; have HB := hidden (HB.out.trans (hb.mono HB.out.size)); clear hb) | (go_at_call 33; refine (HZ.out _).mono ?_; rintro r w9 ⟨rfl, hb⟩; have zz := ten_later hb ⟨c0, c1, p0, p1, p2', p3, q0, q1, q2', q3⟩; clear c0 c1 p0 p1 p2' p3 q0 q1 q2' q3; obtain ⟨c0, c1, p0, p1, p2', p3, q0, q1, q2', q3⟩ := zz; have HB := hidden (HB.out.trans (hb.mono HB.out.size)); clear hb))
  go_ret2
  exact ⟨rfl, HB.out⟩
theorem padd_zb (m x : Nat) (a b K1 E1 M1 K2 E2 M2 : Int) (n1 n2 : Bool) (w : World)
    (HO : Hid (∀ w, Calls Tryd.prog 29 #[fmtV m x, .int .u64 a, .int .u64 b] w fun r w' => r = .returned (.tuple #[partsV K1 n1 E1 M1, partsV K2 n2 E2 M2, .int .i64 0]) ∧ Below w.heap.size w w'))
    (HE4 : Hid (∀ w, Calls Tryd.prog 30 #[partsV K1 n1 E1 M1, partsV K2 n2 E2 M2, .int .i64 4] w fun r w' => r = .returned (.bool false) ∧ Below w.heap.size w w'))
    (HB3 : Hid (∀ w, Calls Tryd.prog 32 #[partsV K1 n1 E1 M1, partsV K2 n2 E2 M2, .int .i64 3] w fun r w' => r = .returned (.bool false) ∧ Below w.heap.size w w'))
    (HB1 : Hid (∀ w, Calls Tryd.prog 32 #[partsV K1 n1 E1 M1, partsV K2 n2 E2 M2, .int .i64 1] w fun r w' => r = .returned (.bool false) ∧ Below w.heap.size w w'))
    (k13 : (K1 == 3) = false)
    (k23 : (K2 == 3) = false)
    (k11 : (K1 == 1) = true)
    : Calls Tryd.prog 17 #[fmtV m x, .int .u64 a, .int .u64 b] w fun r w' => r = .returned (.tuple #[.int .u64 b, .int .i64 0]) ∧ Below w.heap.size w w' := by
  go_enter Tryd.func17, Tryd.ntmps17
  go_wp2_with fail
  refine (HO.out _).mono ?_
  rintro r w1 ⟨rfl, hb1⟩
  obtain ⟨w5, hw5, hx, c0, c1, p0, p1, p2', p3, q0, q1, q2', q3⟩ := open_boxes m x K1 E1 M1 K2 E2 M2 n1 n2 w w1 hb1
  have HB := hidden hx
  clear hx hb1
  go_upto_region 2 with fail
  change Code.wp _ _ _ _ ((w1.alloc (prt K1 n1 E1 M1)).alloc (prt K2 n2 E2 M2))
  rw [← hw5]
  clear hw5
  go_wp2_with (first | (go_at_call_of 30 (Value.int IntKind.i64 4); refine (HE4.out _).mono ?_; rintro r w9 ⟨rfl, hb⟩; have zz := ten_later hb ⟨c0, c1, p0, p1, p2', p3, q0, q1, q2', q3⟩; clear c0 c1 p0 p1 p2' p3 q0 q1 q2' q3; obtain ⟨c0, c1, p0, p1, p2', p3, q0, q1, q2', q3⟩ := zz; have HB := hidden (HB.out.trans (hb.mono HB.out.size)); clear hb) | (go_at_call_of 32 (Value.int IntKind.i64 3); refine (HB3.out _).mono ?_; rintro r w9 ⟨rfl, hb⟩; have zz := ten_later hb ⟨c0, c1, p0, p1, p2', p3, q0, q1, q2', q3⟩; clear c0 c1 p0 p1 p2' p3 q0 q1 q2' q3; obtain ⟨c0, c1, p0, p1, p2', p3, q0, q1, q2', q3⟩ := zz; have HB := hidden (HB.out.trans (hb.mono HB.out.size)); clear hb) | (go_at_call_of 32 (Value.int IntKind.i64 1); refine (HB1.out _).mono ?_; rintro r w9 ⟨rfl, hb⟩; have zz := ten_later hb ⟨c0, c1, p0, p1, p2', p3, q0, q1, q2', q3⟩; clear c0 c1 p0 p1 p2' p3 q0 q1 q2' q3; obtain ⟨c0, c1, p0, p1, p2', p3, q0, q1, q2', q3⟩ := zz; have HB := hidden (HB.out.trans (hb.mono HB.out.size)); clear hb))
  go_ret2
  exact ⟨rfl, HB.out⟩
theorem padd_az (m x : Nat) (a b K1 E1 M1 K2 E2 M2 : Int) (n1 n2 : Bool) (w : World)
    (HO : Hid (∀ w, Calls Tryd.prog 29 #[fmtV m x, .int .u64 a, .int .u64 b] w fun r w' => r = .returned (.tuple #[partsV K1 n1 E1 M1, partsV K2 n2 E2 M2, .int .i64 0]) ∧ Below w.heap.size w w'))
    (HE4 : Hid (∀ w, Calls Tryd.prog 30 #[partsV K1 n1 E1 M1, partsV K2 n2 E2 M2, .int .i64 4] w fun r w' => r = .returned (.bool false) ∧ Below w.heap.size w w'))
    (HB3 : Hid (∀ w, Calls Tryd.prog 32 #[partsV K1 n1 E1 M1, partsV K2 n2 E2 M2, .int .i64 3] w fun r w' => r = .returned (.bool false) ∧ Below w.heap.size w w'))
    (HB1 : Hid (∀ w, Calls Tryd.prog 32 #[partsV K1 n1 E1 M1, partsV K2 n2 E2 M2, .int .i64 1] w fun r w' => r = .returned (.bool false) ∧ Below w.heap.size w w'))
    (k13 : (K1 == 3) = false)
    (k23 : (K2 == 3) = false)
    (k11 : (K1 == 1) = false)
    (k21 : (K2 == 1) = true)
    : Calls Tryd.prog 17 #[fmtV m x, .int .u64 a, .int .u64 b] w fun r w' => r = .returned (.tuple #[.int .u64 a, .int .i64 0]) ∧ Below w.heap.size w w' := by
  go_enter Tryd.func17, Tryd.ntmps17
  go_wp2_with fail
  refine (HO.out _).mono ?_
  rintro r w1 ⟨rfl, hb1⟩
  obtain ⟨w5, hw5, hx, c0, c1, p0, p1, p2', p3, q0, q1, q2', q3⟩ := open_boxes m x K1 E1 M1 K2 E2 M2 n1 n2 w w1 hb1
  have HB := hidden hx
  clear hx hb1
  go_upto_region 2 with fail
  change Code.wp _ _ _ _ ((w1.alloc (prt K1 n1 E1 M1)).alloc (prt K2 n2 E2 M2))
  rw [← hw5]
  clear hw5
  go_wp2_with (first | (go_at_call_of 30 (Value.int IntKind.i64 4); refine (HE4.out _).mono ?_; rintro r w9 ⟨rfl, hb⟩; have zz := ten_later hb ⟨c0, c1, p0, p1, p2', p3, q0, q1, q2', q3⟩; clear c0 c1 p0 p1 p2' p3 q0 q1 q2' q3; obtain ⟨c0, c1, p0, p1, p2', p3, q0, q1, q2', q3⟩ := zz; have HB := hidden (HB.out.trans (hb.mono HB.out.size)); clear hb) | (go_at_call_of 32 (Value.int IntKind.i64 3); refine (HB3.out _).mono ?_; rintro r w9 ⟨rfl, hb⟩; have zz := ten_later hb ⟨c0, c1, p0, p1, p2', p3, q0, q1, q2', q3⟩; clear c0 c1 p0 p1 p2' p3 q0 q1 q2' q3; obtain ⟨c0, c1, p0, p1, p2', p3, q0, q1, q2', q3⟩ := zz; have HB := hidden (HB.out.trans (hb.mono HB.out.size)); clear hb) | (go_at_call_of 32 (Value.int IntKind.i64 1); refine (HB1.out _).mono ?_; rintro r w9 ⟨rfl, hb⟩; have zz := ten_later hb ⟨c0, c1, p0, p1, p2', p3, q0, q1, q2', q3⟩; clear c0 c1 p0 p1 p2' p3 q0 q1 q2' q3; obtain ⟨c0, c1, p0, p1, p2', p3, q0, q1, q2', q3⟩ := zz; have HB := hidden (HB.out.trans (hb.mono HB.out.size)); clear hb))
  go_ret2
  exact ⟨rfl, HB.out⟩
theorem padd_sum (m x : Nat) (a b K1 E1 M1 K2 E2 M2 R : Int) (n1 n2 : Bool) (w : World)
    (HO : Hid (∀ w, Calls Tryd.prog 29 #[fmtV m x, .int .u64 a, .int .u64 b] w fun r w' => r = .returned (.tuple #[partsV K1 n1 E1 M1, partsV K2 n2 E2 M2, .int .i64 0]) ∧ Below w.heap.size w w'))
    (HE4 : Hid (∀ w, Calls Tryd.prog 30 #[partsV K1 n1 E1 M1, partsV K2 n2 E2 M2, .int .i64 4] w fun r w' => r = .returned (.bool false) ∧ Below w.heap.size w w'))
    (HB3 : Hid (∀ w, Calls Tryd.prog 32 #[partsV K1 n1 E1 M1, partsV K2 n2 E2 M2, .int .i64 3] w fun r w' => r = .returned (.bool false) ∧ Below w.heap.size w w'))
    (HB1 : Hid (∀ w, Calls Tryd.prog 32 #[partsV K1 n1 E1 M1, partsV K2 n2 E2 M2, .int .i64 1] w fun r w' => r = .returned (.bool false) ∧ Below w.heap.size w w'))
    (HS : Hid (∀ w, Calls Tryd.prog 34 #[fmtV m x, partsV K1 n1 E1 M1, partsV K2 n2 E2 M2] w fun r w' => r = .returned (.tuple #[.int .u64 R, .int .i64 0]) ∧ Below w.heap.size w w'))
    (k13 : (K1 == 3) = false)
    (k23 : (K2 == 3) = false)
    (k11 : (K1 == 1) = false)
    (k21 : (K2 == 1) = false)
    : Calls Tryd.prog 17 #[fmtV m x, .int .u64 a, .int .u64 b] w fun r w' => r = .returned (.tuple #[.int .u64 R, .int .i64 0]) ∧ Below w.heap.size w w' := by
  go_enter Tryd.func17, Tryd.ntmps17
  go_wp2_with fail
  refine (HO.out _).mono ?_
  rintro r w1 ⟨rfl, hb1⟩
  obtain ⟨w5, hw5, hx, c0, c1, p0, p1, p2', p3, q0, q1, q2', q3⟩ := open_boxes m x K1 E1 M1 K2 E2 M2 n1 n2 w w1 hb1
  have HB := hidden hx
  clear hx hb1
  go_upto_region 2 with fail
  change Code.wp _ _ _ _ ((w1.alloc (prt K1 n1 E1 M1)).alloc (prt K2 n2 E2 M2))
  rw [← hw5]
  clear hw5
  go_wp2_with (first | (go_at_call_of 30 (Value.int IntKind.i64 4); refine (HE4.out _).mono ?_; rintro r w9 ⟨rfl, hb⟩; have zz := ten_later hb ⟨c0, c1, p0, p1, p2', p3, q0, q1, q2', q3⟩; clear c0 c1 p0 p1 p2' p3 q0 q1 q2' q3; obtain ⟨c0, c1, p0, p1, p2', p3, q0, q1, q2', q3⟩ := zz; have HB := hidden (HB.out.trans (hb.mono HB.out.size)); clear hb) | (go_at_call_of 32 (Value.int IntKind.i64 3); refine (HB3.out _).mono ?_; rintro r w9 ⟨rfl, hb⟩; have zz := ten_later hb ⟨c0, c1, p0, p1, p2', p3, q0, q1, q2', q3⟩; clear c0 c1 p0 p1 p2' p3 q0 q1 q2' q3; obtain ⟨c0, c1, p0, p1, p2', p3, q0, q1, q2', q3⟩ := zz; have HB := hidden (HB.out.trans (hb.mono HB.out.size)); clear hb) | (go_at_call_of 32 (Value.int IntKind.i64 1); refine (HB1.out _).mono ?_; rintro r w9 ⟨rfl, hb⟩; have zz := ten_later hb ⟨c0, c1, p0, p1, p2', p3, q0, q1, q2', q3⟩; clear c0 c1 p0 p1 p2' p3 q0 q1 q2' q3; obtain ⟨c0, c1, p0, p1, p2', p3, q0, q1, q2', q3⟩ := zz; have HB := hidden (HB.out.trans (hb.mono HB.out.size)); clear hb) | (go_at_call 34; refine (HS.out _).mono ?_; rintro r w9 ⟨rfl, hb⟩; have zz := ten_later hb ⟨c0, c1, p0, p1, p2', p3, q0, q1, q2', q3⟩; clear c0 c1 p0 p1 p2' p3 q0 q1 q2' q3; obtain ⟨c0, c1, p0, p1, p2', p3, q0, q1, q2', q3⟩ := zz; have HB := hidden (HB.out.trans (hb.mono HB.out.size)); clear hb))
  go_ret2
  exact ⟨rfl, HB.out⟩
end Go.Proofs.YthfjjkikeebopaaDoor
