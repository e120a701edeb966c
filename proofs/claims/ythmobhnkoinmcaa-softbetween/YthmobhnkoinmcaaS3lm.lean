/- The document's Cmp (package grottoref03), leaf by leaf. The document's Cmp (package grottoref03), where it reckons. -/
import Derived.Test.YthmobhnkoinmcaaS3gh
namespace Go.Proofs.Ythmobhnkoinmcaa
open Go.RowKit
set_option maxRecDepth 100000
set_option maxHeartbeats 1000000
set_option linter.unusedVariables false

def sideI (K : Int) (n : Bool) : Int := if K = 3 then (if n then -1 else 1) else 0
theorem side_any (K E M : Int) (n : Bool) (w : World) : Calls Try.prog 54 #[partsV K n E M] w fun r w' => r = .returned (.int .i64 (sideI K n)) ∧ Below w.heap.size w w' := by
  by_cases h : K = 3
  · subst h
    cases n
    · go_enter Try.func54, Try.ntmps54
      go_wp2
      go_ret
      exact ⟨rfl, (Below.refl _ _).alloc (Nat.le_refl _) _⟩
    · go_enter Try.func54, Try.ntmps54
      go_wp2
      go_ret
      exact ⟨rfl, (Below.refl _ _).alloc (Nat.le_refl _) _⟩
  · have h' : (K != 3) = true := by simp [h]
    rw [show sideI K n = 0 by simp [sideI, h]]
    clear h
    go_enter Try.func54, Try.ntmps54
    go_wp2
    go_ret
    exact ⟨rfl, (Below.refl _ _).alloc (Nat.le_refl _) _⟩
theorem rcmp_err (m x a b : Int) (w : World)
    (HO : Hid (∀ w, Calls Try.prog 46 #[.agg #[.int .i64 m, .int .i64 x], .int .u64 a, .int .u64 b] w fun r w' => r = .returned (.tuple #[partsV 0 false 0 0, partsV 0 false 0 0, .int .i64 1]) ∧ Below w.heap.size w w')) :
    Calls Try.prog 16 #[.agg #[.int .i64 m, .int .i64 x], .int .u64 a, .int .u64 b] w fun r w' => r = .returned (.tuple #[.int .i64 0, .bool false, .int .i64 1]) ∧ Below w.heap.size w w' := by
  go_enter Try.func16, Try.ntmps16
  go_wp2_with fail
  refine (HO.out _).mono ?_
  rintro r w1 ⟨rfl, hb1⟩
  have HB1 := hidden (box_below _ hb1)
  clear hb1
  go_wp2
  go_ret3
  refine ⟨rfl, ?_⟩
  have h0 := HB1.out
  exact (h0.alloc h0.size _).alloc (by have := h0.size; simp; omega) _
theorem rcmp_13f (m x a b E1 M1 E2 M2 : Int) (n1 : Bool) (w : World)
    (HO : Hid (∀ w, Calls Try.prog 46 #[.agg #[.int .i64 m, .int .i64 x], .int .u64 a, .int .u64 b] w fun r w' => r = .returned (.tuple #[partsV 1 n1 E1 M1, partsV 3 false E2 M2, .int .i64 0]) ∧ Below w.heap.size w w'))
    : Calls Try.prog 16 #[.agg #[.int .i64 m, .int .i64 x], .int .u64 a, .int .u64 b] w fun r w' => r = .returned (.tuple #[.int .i64 (-1), .bool true, .int .i64 0]) ∧ Below w.heap.size w w' := by
  have HS1 : Hid (∀ w, Calls Try.prog 54 #[partsV 1 n1 E1 M1] w fun r w' => r = .returned (.int .i64 0) ∧ Below w.heap.size w w') := hidden fun w => side_any 1 E1 M1 n1 w
  have HS2 : Hid (∀ w, Calls Try.prog 54 #[partsV 3 false E2 M2] w fun r w' => r = .returned (.int .i64 1) ∧ Below w.heap.size w w') := hidden fun w => side_any 3 E2 M2 false w
  go_enter Try.func16, Try.ntmps16
  go_wp2_with fail
  refine (HO.out _).mono ?_
  rintro r w1 ⟨rfl, hb1⟩
  obtain ⟨w5, hw5, hx, c0, c1, p0, p1, p2', p3, q0, q1, q2', q3⟩ := ropen_boxes m x 1 E1 M1 3 E2 M2 n1 false w w1 hb1
  have HB := hidden hx
  clear hx hb1
  go_upto_region 2 with fail
  change Code.wp _ _ _ _ ((w1.alloc (.cells #[.int .i64 1, .bool n1, .int .i64 E1, .int .u64 M1] 38)).alloc (.cells #[.int .i64 3, .bool false, .int .i64 E2, .int .u64 M2] 38))
  rw [← hw5]
  clear hw5
  go_upto_region 6 with fail
  go_region_held3 (fun w' => w'.cell? ⟨w.heap.size, 0, none⟩ = some (.int .i64 m) ∧ w'.cell? ⟨w.heap.size, 1, none⟩ = some (.int .i64 x) ∧ w'.cell? ⟨w1.heap.size, 0, none⟩ = some (.int .i64 1) ∧ w'.cell? ⟨w1.heap.size, 1, none⟩ = some (.bool n1) ∧ w'.cell? ⟨w1.heap.size, 2, none⟩ = some (.int .i64 E1) ∧ w'.cell? ⟨w1.heap.size, 3, none⟩ = some (.int .u64 M1) ∧ w'.cell? ⟨w1.heap.size + 1, 0, none⟩ = some (.int .i64 3) ∧ w'.cell? ⟨w1.heap.size + 1, 1, none⟩ = some (.bool false) ∧ w'.cell? ⟨w1.heap.size + 1, 2, none⟩ = some (.int .i64 E2) ∧ w'.cell? ⟨w1.heap.size + 1, 3, none⟩ = some (.int .u64 M2)) (first | (refine ⟨?_, ?_, ?_, ?_, ?_, ?_, ?_, ?_, ?_, ?_⟩ <;> with_reducible assumption) | go_keep) (first | (go_at_call_of 54 (Value.int IntKind.u64 M1); have hc := HS1.out w5.drew; (with_reducible refine hc.mono ?_); clear hc; rintro r w6 ⟨rfl, hb6⟩; have cc := rten_later hb6 (rten_later ((Below.refl _ _).drew) ⟨c0, c1, p0, p1, p2', p3, q0, q1, q2', q3⟩); have HB6 := hidden (HB.out.drew.trans (hb6.mono HB.out.drew.size)); clear hb6 c0 c1 p0 p1 p2' p3 q0 q1 q2' q3; obtain ⟨c0, c1, p0, p1, p2', p3, q0, q1, q2', q3⟩ := cc) | (go_at_call_of 54 (Value.int IntKind.u64 M2); have hc := HS2.out w6; (with_reducible refine hc.mono ?_); clear hc; rintro r w7 ⟨rfl, hb7⟩; have cc := rten_later hb7 ⟨c0, c1, p0, p1, p2', p3, q0, q1, q2', q3⟩; have HB7 := hidden (HB6.out.trans (hb7.mono HB6.out.size)); clear hb7 c0 c1 p0 p1 p2' p3 q0 q1 q2' q3; obtain ⟨c0, c1, p0, p1, p2', p3, q0, q1, q2', q3⟩ := cc))
  all_goals
    go_wp2
    go_ret3
    exact ⟨rfl, HB7.out⟩
theorem rcmp_13t (m x a b E1 M1 E2 M2 : Int) (n1 : Bool) (w : World)
    (HO : Hid (∀ w, Calls Try.prog 46 #[.agg #[.int .i64 m, .int .i64 x], .int .u64 a, .int .u64 b] w fun r w' => r = .returned (.tuple #[partsV 1 n1 E1 M1, partsV 3 true E2 M2, .int .i64 0]) ∧ Below w.heap.size w w'))
    : Calls Try.prog 16 #[.agg #[.int .i64 m, .int .i64 x], .int .u64 a, .int .u64 b] w fun r w' => r = .returned (.tuple #[.int .i64 1, .bool true, .int .i64 0]) ∧ Below w.heap.size w w' := by
  have HS1 : Hid (∀ w, Calls Try.prog 54 #[partsV 1 n1 E1 M1] w fun r w' => r = .returned (.int .i64 0) ∧ Below w.heap.size w w') := hidden fun w => side_any 1 E1 M1 n1 w
  have HS2 : Hid (∀ w, Calls Try.prog 54 #[partsV 3 true E2 M2] w fun r w' => r = .returned (.int .i64 (-1)) ∧ Below w.heap.size w w') := hidden fun w => side_any 3 E2 M2 true w
  go_enter Try.func16, Try.ntmps16
  go_wp2_with fail
  refine (HO.out _).mono ?_
  rintro r w1 ⟨rfl, hb1⟩
  obtain ⟨w5, hw5, hx, c0, c1, p0, p1, p2', p3, q0, q1, q2', q3⟩ := ropen_boxes m x 1 E1 M1 3 E2 M2 n1 true w w1 hb1
  have HB := hidden hx
  clear hx hb1
  go_upto_region 2 with fail
  change Code.wp _ _ _ _ ((w1.alloc (.cells #[.int .i64 1, .bool n1, .int .i64 E1, .int .u64 M1] 38)).alloc (.cells #[.int .i64 3, .bool true, .int .i64 E2, .int .u64 M2] 38))
  rw [← hw5]
  clear hw5
  go_upto_region 6 with fail
  go_region_held3 (fun w' => w'.cell? ⟨w.heap.size, 0, none⟩ = some (.int .i64 m) ∧ w'.cell? ⟨w.heap.size, 1, none⟩ = some (.int .i64 x) ∧ w'.cell? ⟨w1.heap.size, 0, none⟩ = some (.int .i64 1) ∧ w'.cell? ⟨w1.heap.size, 1, none⟩ = some (.bool n1) ∧ w'.cell? ⟨w1.heap.size, 2, none⟩ = some (.int .i64 E1) ∧ w'.cell? ⟨w1.heap.size, 3, none⟩ = some (.int .u64 M1) ∧ w'.cell? ⟨w1.heap.size + 1, 0, none⟩ = some (.int .i64 3) ∧ w'.cell? ⟨w1.heap.size + 1, 1, none⟩ = some (.bool true) ∧ w'.cell? ⟨w1.heap.size + 1, 2, none⟩ = some (.int .i64 E2) ∧ w'.cell? ⟨w1.heap.size + 1, 3, none⟩ = some (.int .u64 M2)) (first | (refine ⟨?_, ?_, ?_, ?_, ?_, ?_, ?_, ?_, ?_, ?_⟩ <;> with_reducible assumption) | go_keep) (first | (go_at_call_of 54 (Value.int IntKind.u64 M1); have hc := HS1.out w5.drew; (with_reducible refine hc.mono ?_); clear hc; rintro r w6 ⟨rfl, hb6⟩; have cc := rten_later hb6 (rten_later ((Below.refl _ _).drew) ⟨c0, c1, p0, p1, p2', p3, q0, q1, q2', q3⟩); have HB6 := hidden (HB.out.drew.trans (hb6.mono HB.out.drew.size)); clear hb6 c0 c1 p0 p1 p2' p3 q0 q1 q2' q3; obtain ⟨c0, c1, p0, p1, p2', p3, q0, q1, q2', q3⟩ := cc) | (go_at_call_of 54 (Value.int IntKind.u64 M2); have hc := HS2.out w6; (with_reducible refine hc.mono ?_); clear hc; rintro r w7 ⟨rfl, hb7⟩; have cc := rten_later hb7 ⟨c0, c1, p0, p1, p2', p3, q0, q1, q2', q3⟩; have HB7 := hidden (HB6.out.trans (hb7.mono HB6.out.size)); clear hb7 c0 c1 p0 p1 p2' p3 q0 q1 q2' q3; obtain ⟨c0, c1, p0, p1, p2', p3, q0, q1, q2', q3⟩ := cc))
  all_goals
    go_wp2
    go_ret3
    exact ⟨rfl, HB7.out⟩
theorem rcmp_14 (m x a b E1 M1 E2 M2 : Int) (n1 n2 : Bool) (w : World)
    (HO : Hid (∀ w, Calls Try.prog 46 #[.agg #[.int .i64 m, .int .i64 x], .int .u64 a, .int .u64 b] w fun r w' => r = .returned (.tuple #[partsV 1 n1 E1 M1, partsV 4 n2 E2 M2, .int .i64 0]) ∧ Below w.heap.size w w'))
    : Calls Try.prog 16 #[.agg #[.int .i64 m, .int .i64 x], .int .u64 a, .int .u64 b] w fun r w' => r = .returned (.tuple #[.int .i64 0, .bool false, .int .i64 0]) ∧ Below w.heap.size w w' := by
  go_enter Try.func16, Try.ntmps16
  go_wp2_with fail
  refine (HO.out _).mono ?_
  rintro r w1 ⟨rfl, hb1⟩
  obtain ⟨w5, hw5, hx, c0, c1, p0, p1, p2', p3, q0, q1, q2', q3⟩ := ropen_boxes m x 1 E1 M1 4 E2 M2 n1 n2 w w1 hb1
  have HB := hidden hx
  clear hx hb1
  go_upto_region 2 with fail
  change Code.wp _ _ _ _ ((w1.alloc (.cells #[.int .i64 1, .bool n1, .int .i64 E1, .int .u64 M1] 38)).alloc (.cells #[.int .i64 4, .bool n2, .int .i64 E2, .int .u64 M2] 38))
  rw [← hw5]
  clear hw5
  go_wp2
  go_ret3
  exact ⟨rfl, HB.out⟩
theorem rcmp_23f (m x a b E1 M1 E2 M2 : Int) (n1 : Bool) (w : World)
    (HO : Hid (∀ w, Calls Try.prog 46 #[.agg #[.int .i64 m, .int .i64 x], .int .u64 a, .int .u64 b] w fun r w' => r = .returned (.tuple #[partsV 2 n1 E1 M1, partsV 3 false E2 M2, .int .i64 0]) ∧ Below w.heap.size w w'))
    : Calls Try.prog 16 #[.agg #[.int .i64 m, .int .i64 x], .int .u64 a, .int .u64 b] w fun r w' => r = .returned (.tuple #[.int .i64 (-1), .bool true, .int .i64 0]) ∧ Below w.heap.size w w' := by
  have HS1 : Hid (∀ w, Calls Try.prog 54 #[partsV 2 n1 E1 M1] w fun r w' => r = .returned (.int .i64 0) ∧ Below w.heap.size w w') := hidden fun w => side_any 2 E1 M1 n1 w
  have HS2 : Hid (∀ w, Calls Try.prog 54 #[partsV 3 false E2 M2] w fun r w' => r = .returned (.int .i64 1) ∧ Below w.heap.size w w') := hidden fun w => side_any 3 E2 M2 false w
  go_enter Try.func16, Try.ntmps16
  go_wp2_with fail
  refine (HO.out _).mono ?_
  rintro r w1 ⟨rfl, hb1⟩
  obtain ⟨w5, hw5, hx, c0, c1, p0, p1, p2', p3, q0, q1, q2', q3⟩ := ropen_boxes m x 2 E1 M1 3 E2 M2 n1 false w w1 hb1
  have HB := hidden hx
  clear hx hb1
  go_upto_region 2 with fail
  change Code.wp _ _ _ _ ((w1.alloc (.cells #[.int .i64 2, .bool n1, .int .i64 E1, .int .u64 M1] 38)).alloc (.cells #[.int .i64 3, .bool false, .int .i64 E2, .int .u64 M2] 38))
  rw [← hw5]
  clear hw5
  go_upto_region 6 with fail
  go_region_held3 (fun w' => w'.cell? ⟨w.heap.size, 0, none⟩ = some (.int .i64 m) ∧ w'.cell? ⟨w.heap.size, 1, none⟩ = some (.int .i64 x) ∧ w'.cell? ⟨w1.heap.size, 0, none⟩ = some (.int .i64 2) ∧ w'.cell? ⟨w1.heap.size, 1, none⟩ = some (.bool n1) ∧ w'.cell? ⟨w1.heap.size, 2, none⟩ = some (.int .i64 E1) ∧ w'.cell? ⟨w1.heap.size, 3, none⟩ = some (.int .u64 M1) ∧ w'.cell? ⟨w1.heap.size + 1, 0, none⟩ = some (.int .i64 3) ∧ w'.cell? ⟨w1.heap.size + 1, 1, none⟩ = some (.bool false) ∧ w'.cell? ⟨w1.heap.size + 1, 2, none⟩ = some (.int .i64 E2) ∧ w'.cell? ⟨w1.heap.size + 1, 3, none⟩ = some (.int .u64 M2)) (first | (refine ⟨?_, ?_, ?_, ?_, ?_, ?_, ?_, ?_, ?_, ?_⟩ <;> with_reducible assumption) | go_keep) (first | (go_at_call_of 54 (Value.int IntKind.u64 M1); have hc := HS1.out w5.drew; (with_reducible refine hc.mono ?_); clear hc; rintro r w6 ⟨rfl, hb6⟩; have cc := rten_later hb6 (rten_later ((Below.refl _ _).drew) ⟨c0, c1, p0, p1, p2', p3, q0, q1, q2', q3⟩); have HB6 := hidden (HB.out.drew.trans (hb6.mono HB.out.drew.size)); clear hb6 c0 c1 p0 p1 p2' p3 q0 q1 q2' q3; obtain ⟨c0, c1, p0, p1, p2', p3, q0, q1, q2', q3⟩ := cc) | (go_at_call_of 54 (Value.int IntKind.u64 M2); have hc := HS2.out w6; (with_reducible refine hc.mono ?_); clear hc; rintro r w7 ⟨rfl, hb7⟩; have cc := rten_later hb7 ⟨c0, c1, p0, p1, p2', p3, q0, q1, q2', q3⟩; have HB7 := hidden (HB6.out.trans (hb7.mono HB6.out.size)); clear hb7 c0 c1 p0 p1 p2' p3 q0 q1 q2' q3; obtain ⟨c0, c1, p0, p1, p2', p3, q0, q1, q2', q3⟩ := cc))
  all_goals
    go_wp2
    go_ret3
    exact ⟨rfl, HB7.out⟩
theorem rcmp_23t (m x a b E1 M1 E2 M2 : Int) (n1 : Bool) (w : World)
    (HO : Hid (∀ w, Calls Try.prog 46 #[.agg #[.int .i64 m, .int .i64 x], .int .u64 a, .int .u64 b] w fun r w' => r = .returned (.tuple #[partsV 2 n1 E1 M1, partsV 3 true E2 M2, .int .i64 0]) ∧ Below w.heap.size w w'))
    : Calls Try.prog 16 #[.agg #[.int .i64 m, .int .i64 x], .int .u64 a, .int .u64 b] w fun r w' => r = .returned (.tuple #[.int .i64 1, .bool true, .int .i64 0]) ∧ Below w.heap.size w w' := by
  have HS1 : Hid (∀ w, Calls Try.prog 54 #[partsV 2 n1 E1 M1] w fun r w' => r = .returned (.int .i64 0) ∧ Below w.heap.size w w') := hidden fun w => side_any 2 E1 M1 n1 w
  have HS2 : Hid (∀ w, Calls Try.prog 54 #[partsV 3 true E2 M2] w fun r w' => r = .returned (.int .i64 (-1)) ∧ Below w.heap.size w w') := hidden fun w => side_any 3 E2 M2 true w
  go_enter Try.func16, Try.ntmps16
  go_wp2_with fail
  refine (HO.out _).mono ?_
  rintro r w1 ⟨rfl, hb1⟩
  obtain ⟨w5, hw5, hx, c0, c1, p0, p1, p2', p3, q0, q1, q2', q3⟩ := ropen_boxes m x 2 E1 M1 3 E2 M2 n1 true w w1 hb1
  have HB := hidden hx
  clear hx hb1
  go_upto_region 2 with fail
  change Code.wp _ _ _ _ ((w1.alloc (.cells #[.int .i64 2, .bool n1, .int .i64 E1, .int .u64 M1] 38)).alloc (.cells #[.int .i64 3, .bool true, .int .i64 E2, .int .u64 M2] 38))
  rw [← hw5]
  clear hw5
  go_upto_region 6 with fail
  go_region_held3 (fun w' => w'.cell? ⟨w.heap.size, 0, none⟩ = some (.int .i64 m) ∧ w'.cell? ⟨w.heap.size, 1, none⟩ = some (.int .i64 x) ∧ w'.cell? ⟨w1.heap.size, 0, none⟩ = some (.int .i64 2) ∧ w'.cell? ⟨w1.heap.size, 1, none⟩ = some (.bool n1) ∧ w'.cell? ⟨w1.heap.size, 2, none⟩ = some (.int .i64 E1) ∧ w'.cell? ⟨w1.heap.size, 3, none⟩ = some (.int .u64 M1) ∧ w'.cell? ⟨w1.heap.size + 1, 0, none⟩ = some (.int .i64 3) ∧ w'.cell? ⟨w1.heap.size + 1, 1, none⟩ = some (.bool true) ∧ w'.cell? ⟨w1.heap.size + 1, 2, none⟩ = some (.int .i64 E2) ∧ w'.cell? ⟨w1.heap.size + 1, 3, none⟩ = some (.int .u64 M2)) (first | (refine ⟨?_, ?_, ?_, ?_, ?_, ?_, ?_, ?_, ?_, ?_⟩ <;> with_reducible assumption) | go_keep) (first | (go_at_call_of 54 (Value.int IntKind.u64 M1); have hc := HS1.out w5.drew; (with_reducible refine hc.mono ?_); clear hc; rintro r w6 ⟨rfl, hb6⟩; have cc := rten_later hb6 (rten_later ((Below.refl _ _).drew) ⟨c0, c1, p0, p1, p2', p3, q0, q1, q2', q3⟩); have HB6 := hidden (HB.out.drew.trans (hb6.mono HB.out.drew.size)); clear hb6 c0 c1 p0 p1 p2' p3 q0 q1 q2' q3; obtain ⟨c0, c1, p0, p1, p2', p3, q0, q1, q2', q3⟩ := cc) | (go_at_call_of 54 (Value.int IntKind.u64 M2); have hc := HS2.out w6; (with_reducible refine hc.mono ?_); clear hc; rintro r w7 ⟨rfl, hb7⟩; have cc := rten_later hb7 ⟨c0, c1, p0, p1, p2', p3, q0, q1, q2', q3⟩; have HB7 := hidden (HB6.out.trans (hb7.mono HB6.out.size)); clear hb7 c0 c1 p0 p1 p2' p3 q0 q1 q2' q3; obtain ⟨c0, c1, p0, p1, p2', p3, q0, q1, q2', q3⟩ := cc))
  all_goals
    go_wp2
    go_ret3
    exact ⟨rfl, HB7.out⟩
theorem rcmp_24 (m x a b E1 M1 E2 M2 : Int) (n1 n2 : Bool) (w : World)
    (HO : Hid (∀ w, Calls Try.prog 46 #[.agg #[.int .i64 m, .int .i64 x], .int .u64 a, .int .u64 b] w fun r w' => r = .returned (.tuple #[partsV 2 n1 E1 M1, partsV 4 n2 E2 M2, .int .i64 0]) ∧ Below w.heap.size w w'))
    : Calls Try.prog 16 #[.agg #[.int .i64 m, .int .i64 x], .int .u64 a, .int .u64 b] w fun r w' => r = .returned (.tuple #[.int .i64 0, .bool false, .int .i64 0]) ∧ Below w.heap.size w w' := by
  go_enter Try.func16, Try.ntmps16
  go_wp2_with fail
  refine (HO.out _).mono ?_
  rintro r w1 ⟨rfl, hb1⟩
  obtain ⟨w5, hw5, hx, c0, c1, p0, p1, p2', p3, q0, q1, q2', q3⟩ := ropen_boxes m x 2 E1 M1 4 E2 M2 n1 n2 w w1 hb1
  have HB := hidden hx
  clear hx hb1
  go_upto_region 2 with fail
  change Code.wp _ _ _ _ ((w1.alloc (.cells #[.int .i64 2, .bool n1, .int .i64 E1, .int .u64 M1] 38)).alloc (.cells #[.int .i64 4, .bool n2, .int .i64 E2, .int .u64 M2] 38))
  rw [← hw5]
  clear hw5
  go_wp2
  go_ret3
  exact ⟨rfl, HB.out⟩
theorem rcmp_31f (m x a b E1 M1 E2 M2 : Int) (n2 : Bool) (w : World)
    (HO : Hid (∀ w, Calls Try.prog 46 #[.agg #[.int .i64 m, .int .i64 x], .int .u64 a, .int .u64 b] w fun r w' => r = .returned (.tuple #[partsV 3 false E1 M1, partsV 1 n2 E2 M2, .int .i64 0]) ∧ Below w.heap.size w w'))
    : Calls Try.prog 16 #[.agg #[.int .i64 m, .int .i64 x], .int .u64 a, .int .u64 b] w fun r w' => r = .returned (.tuple #[.int .i64 1, .bool true, .int .i64 0]) ∧ Below w.heap.size w w' := by
  have HS1 : Hid (∀ w, Calls Try.prog 54 #[partsV 3 false E1 M1] w fun r w' => r = .returned (.int .i64 1) ∧ Below w.heap.size w w') := hidden fun w => side_any 3 E1 M1 false w
  have HS2 : Hid (∀ w, Calls Try.prog 54 #[partsV 1 n2 E2 M2] w fun r w' => r = .returned (.int .i64 0) ∧ Below w.heap.size w w') := hidden fun w => side_any 1 E2 M2 n2 w
  go_enter Try.func16, Try.ntmps16
  go_wp2_with fail
  refine (HO.out _).mono ?_
  rintro r w1 ⟨rfl, hb1⟩
  obtain ⟨w5, hw5, hx, c0, c1, p0, p1, p2', p3, q0, q1, q2', q3⟩ := ropen_boxes m x 3 E1 M1 1 E2 M2 false n2 w w1 hb1
  have HB := hidden hx
  clear hx hb1
  go_upto_region 2 with fail
  change Code.wp _ _ _ _ ((w1.alloc (.cells #[.int .i64 3, .bool false, .int .i64 E1, .int .u64 M1] 38)).alloc (.cells #[.int .i64 1, .bool n2, .int .i64 E2, .int .u64 M2] 38))
  rw [← hw5]
  clear hw5
  go_upto_region 6 with fail
  go_region_held3 (fun w' => w'.cell? ⟨w.heap.size, 0, none⟩ = some (.int .i64 m) ∧ w'.cell? ⟨w.heap.size, 1, none⟩ = some (.int .i64 x) ∧ w'.cell? ⟨w1.heap.size, 0, none⟩ = some (.int .i64 3) ∧ w'.cell? ⟨w1.heap.size, 1, none⟩ = some (.bool false) ∧ w'.cell? ⟨w1.heap.size, 2, none⟩ = some (.int .i64 E1) ∧ w'.cell? ⟨w1.heap.size, 3, none⟩ = some (.int .u64 M1) ∧ w'.cell? ⟨w1.heap.size + 1, 0, none⟩ = some (.int .i64 1) ∧ w'.cell? ⟨w1.heap.size + 1, 1, none⟩ = some (.bool n2) ∧ w'.cell? ⟨w1.heap.size + 1, 2, none⟩ = some (.int .i64 E2) ∧ w'.cell? ⟨w1.heap.size + 1, 3, none⟩ = some (.int .u64 M2)) (first | (refine ⟨?_, ?_, ?_, ?_, ?_, ?_, ?_, ?_, ?_, ?_⟩ <;> with_reducible assumption) | go_keep) (first | (go_at_call_of 54 (Value.int IntKind.u64 M1); have hc := HS1.out w5.drew; (with_reducible refine hc.mono ?_); clear hc; rintro r w6 ⟨rfl, hb6⟩; have cc := rten_later hb6 (rten_later ((Below.refl _ _).drew) ⟨c0, c1, p0, p1, p2', p3, q0, q1, q2', q3⟩); have HB6 := hidden (HB.out.drew.trans (hb6.mono HB.out.drew.size)); clear hb6 c0 c1 p0 p1 p2' p3 q0 q1 q2' q3; obtain ⟨c0, c1, p0, p1, p2', p3, q0, q1, q2', q3⟩ := cc) | (go_at_call_of 54 (Value.int IntKind.u64 M2); have hc := HS2.out w6; (with_reducible refine hc.mono ?_); clear hc; rintro r w7 ⟨rfl, hb7⟩; have cc := rten_later hb7 ⟨c0, c1, p0, p1, p2', p3, q0, q1, q2', q3⟩; have HB7 := hidden (HB6.out.trans (hb7.mono HB6.out.size)); clear hb7 c0 c1 p0 p1 p2' p3 q0 q1 q2' q3; obtain ⟨c0, c1, p0, p1, p2', p3, q0, q1, q2', q3⟩ := cc))
  all_goals
    go_wp2
    go_ret3
    exact ⟨rfl, HB7.out⟩
theorem rcmp_31t (m x a b E1 M1 E2 M2 : Int) (n2 : Bool) (w : World)
    (HO : Hid (∀ w, Calls Try.prog 46 #[.agg #[.int .i64 m, .int .i64 x], .int .u64 a, .int .u64 b] w fun r w' => r = .returned (.tuple #[partsV 3 true E1 M1, partsV 1 n2 E2 M2, .int .i64 0]) ∧ Below w.heap.size w w'))
    : Calls Try.prog 16 #[.agg #[.int .i64 m, .int .i64 x], .int .u64 a, .int .u64 b] w fun r w' => r = .returned (.tuple #[.int .i64 (-1), .bool true, .int .i64 0]) ∧ Below w.heap.size w w' := by
  have HS1 : Hid (∀ w, Calls Try.prog 54 #[partsV 3 true E1 M1] w fun r w' => r = .returned (.int .i64 (-1)) ∧ Below w.heap.size w w') := hidden fun w => side_any 3 E1 M1 true w
  have HS2 : Hid (∀ w, Calls Try.prog 54 #[partsV 1 n2 E2 M2] w fun r w' => r = .returned (.int .i64 0) ∧ Below w.heap.size w w') := hidden fun w => side_any 1 E2 M2 n2 w
  go_enter Try.func16, Try.ntmps16
  go_wp2_with fail
  refine (HO.out _).mono ?_
  rintro r w1 ⟨rfl, hb1⟩
  obtain ⟨w5, hw5, hx, c0, c1, p0, p1, p2', p3, q0, q1, q2', q3⟩ := ropen_boxes m x 3 E1 M1 1 E2 M2 true n2 w w1 hb1
  have HB := hidden hx
  clear hx hb1
  go_upto_region 2 with fail
  change Code.wp _ _ _ _ ((w1.alloc (.cells #[.int .i64 3, .bool true, .int .i64 E1, .int .u64 M1] 38)).alloc (.cells #[.int .i64 1, .bool n2, .int .i64 E2, .int .u64 M2] 38))
  rw [← hw5]
  clear hw5
  go_upto_region 6 with fail
  go_region_held3 (fun w' => w'.cell? ⟨w.heap.size, 0, none⟩ = some (.int .i64 m) ∧ w'.cell? ⟨w.heap.size, 1, none⟩ = some (.int .i64 x) ∧ w'.cell? ⟨w1.heap.size, 0, none⟩ = some (.int .i64 3) ∧ w'.cell? ⟨w1.heap.size, 1, none⟩ = some (.bool true) ∧ w'.cell? ⟨w1.heap.size, 2, none⟩ = some (.int .i64 E1) ∧ w'.cell? ⟨w1.heap.size, 3, none⟩ = some (.int .u64 M1) ∧ w'.cell? ⟨w1.heap.size + 1, 0, none⟩ = some (.int .i64 1) ∧ w'.cell? ⟨w1.heap.size + 1, 1, none⟩ = some (.bool n2) ∧ w'.cell? ⟨w1.heap.size + 1, 2, none⟩ = some (.int .i64 E2) ∧ w'.cell? ⟨w1.heap.size + 1, 3, none⟩ = some (.int .u64 M2)) (first | (refine ⟨?_, ?_, ?_, ?_, ?_, ?_, ?_, ?_, ?_, ?_⟩ <;> with_reducible assumption) | go_keep) (first | (go_at_call_of 54 (Value.int IntKind.u64 M1); have hc := HS1.out w5.drew; (with_reducible refine hc.mono ?_); clear hc; rintro r w6 ⟨rfl, hb6⟩; have cc := rten_later hb6 (rten_later ((Below.refl _ _).drew) ⟨c0, c1, p0, p1, p2', p3, q0, q1, q2', q3⟩); have HB6 := hidden (HB.out.drew.trans (hb6.mono HB.out.drew.size)); clear hb6 c0 c1 p0 p1 p2' p3 q0 q1 q2' q3; obtain ⟨c0, c1, p0, p1, p2', p3, q0, q1, q2', q3⟩ := cc) | (go_at_call_of 54 (Value.int IntKind.u64 M2); have hc := HS2.out w6; (with_reducible refine hc.mono ?_); clear hc; rintro r w7 ⟨rfl, hb7⟩; have cc := rten_later hb7 ⟨c0, c1, p0, p1, p2', p3, q0, q1, q2', q3⟩; have HB7 := hidden (HB6.out.trans (hb7.mono HB6.out.size)); clear hb7 c0 c1 p0 p1 p2' p3 q0 q1 q2' q3; obtain ⟨c0, c1, p0, p1, p2', p3, q0, q1, q2', q3⟩ := cc))
  all_goals
    go_wp2
    go_ret3
    exact ⟨rfl, HB7.out⟩
theorem rcmp_32f (m x a b E1 M1 E2 M2 : Int) (n2 : Bool) (w : World)
    (HO : Hid (∀ w, Calls Try.prog 46 #[.agg #[.int .i64 m, .int .i64 x], .int .u64 a, .int .u64 b] w fun r w' => r = .returned (.tuple #[partsV 3 false E1 M1, partsV 2 n2 E2 M2, .int .i64 0]) ∧ Below w.heap.size w w'))
    : Calls Try.prog 16 #[.agg #[.int .i64 m, .int .i64 x], .int .u64 a, .int .u64 b] w fun r w' => r = .returned (.tuple #[.int .i64 1, .bool true, .int .i64 0]) ∧ Below w.heap.size w w' := by
  have HS1 : Hid (∀ w, Calls Try.prog 54 #[partsV 3 false E1 M1] w fun r w' => r = .returned (.int .i64 1) ∧ Below w.heap.size w w') := hidden fun w => side_any 3 E1 M1 false w
  have HS2 : Hid (∀ w, Calls Try.prog 54 #[partsV 2 n2 E2 M2] w fun r w' => r = .returned (.int .i64 0) ∧ Below w.heap.size w w') := hidden fun w => side_any 2 E2 M2 n2 w
  go_enter Try.func16, Try.ntmps16
  go_wp2_with fail
  refine (HO.out _).mono ?_
  rintro r w1 ⟨rfl, hb1⟩
  obtain ⟨w5, hw5, hx, c0, c1, p0, p1, p2', p3, q0, q1, q2', q3⟩ := ropen_boxes m x 3 E1 M1 2 E2 M2 false n2 w w1 hb1
  have HB := hidden hx
  clear hx hb1
  go_upto_region 2 with fail
  change Code.wp _ _ _ _ ((w1.alloc (.cells #[.int .i64 3, .bool false, .int .i64 E1, .int .u64 M1] 38)).alloc (.cells #[.int .i64 2, .bool n2, .int .i64 E2, .int .u64 M2] 38))
  rw [← hw5]
  clear hw5
  go_upto_region 6 with fail
  go_region_held3 (fun w' => w'.cell? ⟨w.heap.size, 0, none⟩ = some (.int .i64 m) ∧ w'.cell? ⟨w.heap.size, 1, none⟩ = some (.int .i64 x) ∧ w'.cell? ⟨w1.heap.size, 0, none⟩ = some (.int .i64 3) ∧ w'.cell? ⟨w1.heap.size, 1, none⟩ = some (.bool false) ∧ w'.cell? ⟨w1.heap.size, 2, none⟩ = some (.int .i64 E1) ∧ w'.cell? ⟨w1.heap.size, 3, none⟩ = some (.int .u64 M1) ∧ w'.cell? ⟨w1.heap.size + 1, 0, none⟩ = some (.int .i64 2) ∧ w'.cell? ⟨w1.heap.size + 1, 1, none⟩ = some (.bool n2) ∧ w'.cell? ⟨w1.heap.size + 1, 2, none⟩ = some (.int .i64 E2) ∧ w'.cell? ⟨w1.heap.size + 1, 3, none⟩ = some (.int .u64 M2)) (first | (refine ⟨?_, ?_, ?_, ?_, ?_, ?_, ?_, ?_, ?_, ?_⟩ <;> with_reducible assumption) | go_keep) (first | (go_at_call_of 54 (Value.int IntKind.u64 M1); have hc := HS1.out w5.drew; (with_reducible refine hc.mono ?_); clear hc; rintro r w6 ⟨rfl, hb6⟩; have cc := rten_later hb6 (rten_later ((Below.refl _ _).drew) ⟨c0, c1, p0, p1, p2', p3, q0, q1, q2', q3⟩); have HB6 := hidden (HB.out.drew.trans (hb6.mono HB.out.drew.size)); clear hb6 c0 c1 p0 p1 p2' p3 q0 q1 q2' q3; obtain ⟨c0, c1, p0, p1, p2', p3, q0, q1, q2', q3⟩ := cc) | (go_at_call_of 54 (Value.int IntKind.u64 M2); have hc := HS2.out w6; (with_reducible refine hc.mono ?_); clear hc; rintro r w7 ⟨rfl, hb7⟩; have cc := rten_later hb7 ⟨c0, c1, p0, p1, p2', p3, q0, q1, q2', q3⟩; have HB7 := hidden (HB6.out.trans (hb7.mono HB6.out.size)); clear hb7 c0 c1 p0 p1 p2' p3 q0 q1 q2' q3; obtain ⟨c0, c1, p0, p1, p2', p3, q0, q1, q2', q3⟩ := cc))
  all_goals
    go_wp2
    go_ret3
    exact ⟨rfl, HB7.out⟩
theorem rcmp_32t (m x a b E1 M1 E2 M2 : Int) (n2 : Bool) (w : World)
    (HO : Hid (∀ w, Calls Try.prog 46 #[.agg #[.int .i64 m, .int .i64 x], .int .u64 a, .int .u64 b] w fun r w' => r = .returned (.tuple #[partsV 3 true E1 M1, partsV 2 n2 E2 M2, .int .i64 0]) ∧ Below w.heap.size w w'))
    : Calls Try.prog 16 #[.agg #[.int .i64 m, .int .i64 x], .int .u64 a, .int .u64 b] w fun r w' => r = .returned (.tuple #[.int .i64 (-1), .bool true, .int .i64 0]) ∧ Below w.heap.size w w' := by
  have HS1 : Hid (∀ w, Calls Try.prog 54 #[partsV 3 true E1 M1] w fun r w' => r = .returned (.int .i64 (-1)) ∧ Below w.heap.size w w') := hidden fun w => side_any 3 E1 M1 true w
  have HS2 : Hid (∀ w, Calls Try.prog 54 #[partsV 2 n2 E2 M2] w fun r w' => r = .returned (.int .i64 0) ∧ Below w.heap.size w w') := hidden fun w => side_any 2 E2 M2 n2 w
  go_enter Try.func16, Try.ntmps16
  go_wp2_with fail
  refine (HO.out _).mono ?_
  rintro r w1 ⟨rfl, hb1⟩
  obtain ⟨w5, hw5, hx, c0, c1, p0, p1, p2', p3, q0, q1, q2', q3⟩ := ropen_boxes m x 3 E1 M1 2 E2 M2 true n2 w w1 hb1
  have HB := hidden hx
  clear hx hb1
  go_upto_region 2 with fail
  change Code.wp _ _ _ _ ((w1.alloc (.cells #[.int .i64 3, .bool true, .int .i64 E1, .int .u64 M1] 38)).alloc (.cells #[.int .i64 2, .bool n2, .int .i64 E2, .int .u64 M2] 38))
  rw [← hw5]
  clear hw5
  go_upto_region 6 with fail
  go_region_held3 (fun w' => w'.cell? ⟨w.heap.size, 0, none⟩ = some (.int .i64 m) ∧ w'.cell? ⟨w.heap.size, 1, none⟩ = some (.int .i64 x) ∧ w'.cell? ⟨w1.heap.size, 0, none⟩ = some (.int .i64 3) ∧ w'.cell? ⟨w1.heap.size, 1, none⟩ = some (.bool true) ∧ w'.cell? ⟨w1.heap.size, 2, none⟩ = some (.int .i64 E1) ∧ w'.cell? ⟨w1.heap.size, 3, none⟩ = some (.int .u64 M1) ∧ w'.cell? ⟨w1.heap.size + 1, 0, none⟩ = some (.int .i64 2) ∧ w'.cell? ⟨w1.heap.size + 1, 1, none⟩ = some (.bool n2) ∧ w'.cell? ⟨w1.heap.size + 1, 2, none⟩ = some (.int .i64 E2) ∧ w'.cell? ⟨w1.heap.size + 1, 3, none⟩ = some (.int .u64 M2)) (first | (refine ⟨?_, ?_, ?_, ?_, ?_, ?_, ?_, ?_, ?_, ?_⟩ <;> with_reducible assumption) | go_keep) (first | (go_at_call_of 54 (Value.int IntKind.u64 M1); have hc := HS1.out w5.drew; (with_reducible refine hc.mono ?_); clear hc; rintro r w6 ⟨rfl, hb6⟩; have cc := rten_later hb6 (rten_later ((Below.refl _ _).drew) ⟨c0, c1, p0, p1, p2', p3, q0, q1, q2', q3⟩); have HB6 := hidden (HB.out.drew.trans (hb6.mono HB.out.drew.size)); clear hb6 c0 c1 p0 p1 p2' p3 q0 q1 q2' q3; obtain ⟨c0, c1, p0, p1, p2', p3, q0, q1, q2', q3⟩ := cc) | (go_at_call_of 54 (Value.int IntKind.u64 M2); have hc := HS2.out w6; (with_reducible refine hc.mono ?_); clear hc; rintro r w7 ⟨rfl, hb7⟩; have cc := rten_later hb7 ⟨c0, c1, p0, p1, p2', p3, q0, q1, q2', q3⟩; have HB7 := hidden (HB6.out.trans (hb7.mono HB6.out.size)); clear hb7 c0 c1 p0 p1 p2' p3 q0 q1 q2' q3; obtain ⟨c0, c1, p0, p1, p2', p3, q0, q1, q2', q3⟩ := cc))
  all_goals
    go_wp2
    go_ret3
    exact ⟨rfl, HB7.out⟩
theorem rcmp_33ff (m x a b E1 M1 E2 M2 : Int) (w : World)
    (HO : Hid (∀ w, Calls Try.prog 46 #[.agg #[.int .i64 m, .int .i64 x], .int .u64 a, .int .u64 b] w fun r w' => r = .returned (.tuple #[partsV 3 false E1 M1, partsV 3 false E2 M2, .int .i64 0]) ∧ Below w.heap.size w w'))
    : Calls Try.prog 16 #[.agg #[.int .i64 m, .int .i64 x], .int .u64 a, .int .u64 b] w fun r w' => r = .returned (.tuple #[.int .i64 0, .bool true, .int .i64 0]) ∧ Below w.heap.size w w' := by
  have HS1 : Hid (∀ w, Calls Try.prog 54 #[partsV 3 false E1 M1] w fun r w' => r = .returned (.int .i64 1) ∧ Below w.heap.size w w') := hidden fun w => side_any 3 E1 M1 false w
  have HS2 : Hid (∀ w, Calls Try.prog 54 #[partsV 3 false E2 M2] w fun r w' => r = .returned (.int .i64 1) ∧ Below w.heap.size w w') := hidden fun w => side_any 3 E2 M2 false w
  go_enter Try.func16, Try.ntmps16
  go_wp2_with fail
  refine (HO.out _).mono ?_
  rintro r w1 ⟨rfl, hb1⟩
  obtain ⟨w5, hw5, hx, c0, c1, p0, p1, p2', p3, q0, q1, q2', q3⟩ := ropen_boxes m x 3 E1 M1 3 E2 M2 false false w w1 hb1
  have HB := hidden hx
  clear hx hb1
  go_upto_region 2 with fail
  change Code.wp _ _ _ _ ((w1.alloc (.cells #[.int .i64 3, .bool false, .int .i64 E1, .int .u64 M1] 38)).alloc (.cells #[.int .i64 3, .bool false, .int .i64 E2, .int .u64 M2] 38))
  rw [← hw5]
  clear hw5
  go_upto_region 6 with fail
  go_region_held3 (fun w' => w'.cell? ⟨w.heap.size, 0, none⟩ = some (.int .i64 m) ∧ w'.cell? ⟨w.heap.size, 1, none⟩ = some (.int .i64 x) ∧ w'.cell? ⟨w1.heap.size, 0, none⟩ = some (.int .i64 3) ∧ w'.cell? ⟨w1.heap.size, 1, none⟩ = some (.bool false) ∧ w'.cell? ⟨w1.heap.size, 2, none⟩ = some (.int .i64 E1) ∧ w'.cell? ⟨w1.heap.size, 3, none⟩ = some (.int .u64 M1) ∧ w'.cell? ⟨w1.heap.size + 1, 0, none⟩ = some (.int .i64 3) ∧ w'.cell? ⟨w1.heap.size + 1, 1, none⟩ = some (.bool false) ∧ w'.cell? ⟨w1.heap.size + 1, 2, none⟩ = some (.int .i64 E2) ∧ w'.cell? ⟨w1.heap.size + 1, 3, none⟩ = some (.int .u64 M2)) (first | (refine ⟨?_, ?_, ?_, ?_, ?_, ?_, ?_, ?_, ?_, ?_⟩ <;> with_reducible assumption) | go_keep) (first | (go_at_call_of 54 (Value.int IntKind.u64 M1); have hc := HS1.out w5.drew; (with_reducible refine hc.mono ?_); clear hc; rintro r w6 ⟨rfl, hb6⟩; have cc := rten_later hb6 (rten_later ((Below.refl _ _).drew) ⟨c0, c1, p0, p1, p2', p3, q0, q1, q2', q3⟩); have HB6 := hidden (HB.out.drew.trans (hb6.mono HB.out.drew.size)); clear hb6 c0 c1 p0 p1 p2' p3 q0 q1 q2' q3; obtain ⟨c0, c1, p0, p1, p2', p3, q0, q1, q2', q3⟩ := cc) | (go_at_call_of 54 (Value.int IntKind.u64 M2); have hc := HS2.out w6; (with_reducible refine hc.mono ?_); clear hc; rintro r w7 ⟨rfl, hb7⟩; have cc := rten_later hb7 ⟨c0, c1, p0, p1, p2', p3, q0, q1, q2', q3⟩; have HB7 := hidden (HB6.out.trans (hb7.mono HB6.out.size)); clear hb7 c0 c1 p0 p1 p2' p3 q0 q1 q2' q3; obtain ⟨c0, c1, p0, p1, p2', p3, q0, q1, q2', q3⟩ := cc))
  all_goals
    go_wp2
    go_ret3
    exact ⟨rfl, HB7.out⟩
theorem rcmp_33ft (m x a b E1 M1 E2 M2 : Int) (w : World)
    (HO : Hid (∀ w, Calls Try.prog 46 #[.agg #[.int .i64 m, .int .i64 x], .int .u64 a, .int .u64 b] w fun r w' => r = .returned (.tuple #[partsV 3 false E1 M1, partsV 3 true E2 M2, .int .i64 0]) ∧ Below w.heap.size w w'))
    : Calls Try.prog 16 #[.agg #[.int .i64 m, .int .i64 x], .int .u64 a, .int .u64 b] w fun r w' => r = .returned (.tuple #[.int .i64 1, .bool true, .int .i64 0]) ∧ Below w.heap.size w w' := by
  have HS1 : Hid (∀ w, Calls Try.prog 54 #[partsV 3 false E1 M1] w fun r w' => r = .returned (.int .i64 1) ∧ Below w.heap.size w w') := hidden fun w => side_any 3 E1 M1 false w
  have HS2 : Hid (∀ w, Calls Try.prog 54 #[partsV 3 true E2 M2] w fun r w' => r = .returned (.int .i64 (-1)) ∧ Below w.heap.size w w') := hidden fun w => side_any 3 E2 M2 true w
  go_enter Try.func16, Try.ntmps16
  go_wp2_with fail
  refine (HO.out _).mono ?_
  rintro r w1 ⟨rfl, hb1⟩
  obtain ⟨w5, hw5, hx, c0, c1, p0, p1, p2', p3, q0, q1, q2', q3⟩ := ropen_boxes m x 3 E1 M1 3 E2 M2 false true w w1 hb1
  have HB := hidden hx
  clear hx hb1
  go_upto_region 2 with fail
  change Code.wp _ _ _ _ ((w1.alloc (.cells #[.int .i64 3, .bool false, .int .i64 E1, .int .u64 M1] 38)).alloc (.cells #[.int .i64 3, .bool true, .int .i64 E2, .int .u64 M2] 38))
  rw [← hw5]
  clear hw5
  go_upto_region 6 with fail
  go_region_held3 (fun w' => w'.cell? ⟨w.heap.size, 0, none⟩ = some (.int .i64 m) ∧ w'.cell? ⟨w.heap.size, 1, none⟩ = some (.int .i64 x) ∧ w'.cell? ⟨w1.heap.size, 0, none⟩ = some (.int .i64 3) ∧ w'.cell? ⟨w1.heap.size, 1, none⟩ = some (.bool false) ∧ w'.cell? ⟨w1.heap.size, 2, none⟩ = some (.int .i64 E1) ∧ w'.cell? ⟨w1.heap.size, 3, none⟩ = some (.int .u64 M1) ∧ w'.cell? ⟨w1.heap.size + 1, 0, none⟩ = some (.int .i64 3) ∧ w'.cell? ⟨w1.heap.size + 1, 1, none⟩ = some (.bool true) ∧ w'.cell? ⟨w1.heap.size + 1, 2, none⟩ = some (.int .i64 E2) ∧ w'.cell? ⟨w1.heap.size + 1, 3, none⟩ = some (.int .u64 M2)) (first | (refine ⟨?_, ?_, ?_, ?_, ?_, ?_, ?_, ?_, ?_, ?_⟩ <;> with_reducible assumption) | go_keep) (first | (go_at_call_of 54 (Value.int IntKind.u64 M1); have hc := HS1.out w5.drew; (with_reducible refine hc.mono ?_); clear hc; rintro r w6 ⟨rfl, hb6⟩; have cc := rten_later hb6 (rten_later ((Below.refl _ _).drew) ⟨c0, c1, p0, p1, p2', p3, q0, q1, q2', q3⟩); have HB6 := hidden (HB.out.drew.trans (hb6.mono HB.out.drew.size)); clear hb6 c0 c1 p0 p1 p2' p3 q0 q1 q2' q3; obtain ⟨c0, c1, p0, p1, p2', p3, q0, q1, q2', q3⟩ := cc) | (go_at_call_of 54 (Value.int IntKind.u64 M2); have hc := HS2.out w6; (with_reducible refine hc.mono ?_); clear hc; rintro r w7 ⟨rfl, hb7⟩; have cc := rten_later hb7 ⟨c0, c1, p0, p1, p2', p3, q0, q1, q2', q3⟩; have HB7 := hidden (HB6.out.trans (hb7.mono HB6.out.size)); clear hb7 c0 c1 p0 p1 p2' p3 q0 q1 q2' q3; obtain ⟨c0, c1, p0, p1, p2', p3, q0, q1, q2', q3⟩ := cc))
  all_goals
    go_wp2
    go_ret3
    exact ⟨rfl, HB7.out⟩
theorem rcmp_33tf (m x a b E1 M1 E2 M2 : Int) (w : World)
    (HO : Hid (∀ w, Calls Try.prog 46 #[.agg #[.int .i64 m, .int .i64 x], .int .u64 a, .int .u64 b] w fun r w' => r = .returned (.tuple #[partsV 3 true E1 M1, partsV 3 false E2 M2, .int .i64 0]) ∧ Below w.heap.size w w'))
    : Calls Try.prog 16 #[.agg #[.int .i64 m, .int .i64 x], .int .u64 a, .int .u64 b] w fun r w' => r = .returned (.tuple #[.int .i64 (-1), .bool true, .int .i64 0]) ∧ Below w.heap.size w w' := by
  have HS1 : Hid (∀ w, Calls Try.prog 54 #[partsV 3 true E1 M1] w fun r w' => r = .returned (.int .i64 (-1)) ∧ Below w.heap.size w w') := hidden fun w => side_any 3 E1 M1 true w
  have HS2 : Hid (∀ w, Calls Try.prog 54 #[partsV 3 false E2 M2] w fun r w' => r = .returned (.int .i64 1) ∧ Below w.heap.size w w') := hidden fun w => side_any 3 E2 M2 false w
  go_enter Try.func16, Try.ntmps16
  go_wp2_with fail
  refine (HO.out _).mono ?_
  rintro r w1 ⟨rfl, hb1⟩
  obtain ⟨w5, hw5, hx, c0, c1, p0, p1, p2', p3, q0, q1, q2', q3⟩ := ropen_boxes m x 3 E1 M1 3 E2 M2 true false w w1 hb1
  have HB := hidden hx
  clear hx hb1
  go_upto_region 2 with fail
  change Code.wp _ _ _ _ ((w1.alloc (.cells #[.int .i64 3, .bool true, .int .i64 E1, .int .u64 M1] 38)).alloc (.cells #[.int .i64 3, .bool false, .int .i64 E2, .int .u64 M2] 38))
  rw [← hw5]
  clear hw5
  go_upto_region 6 with fail
  go_region_held3 (fun w' => w'.cell? ⟨w.heap.size, 0, none⟩ = some (.int .i64 m) ∧ w'.cell? ⟨w.heap.size, 1, none⟩ = some (.int .i64 x) ∧ w'.cell? ⟨w1.heap.size, 0, none⟩ = some (.int .i64 3) ∧ w'.cell? ⟨w1.heap.size, 1, none⟩ = some (.bool true) ∧ w'.cell? ⟨w1.heap.size, 2, none⟩ = some (.int .i64 E1) ∧ w'.cell? ⟨w1.heap.size, 3, none⟩ = some (.int .u64 M1) ∧ w'.cell? ⟨w1.heap.size + 1, 0, none⟩ = some (.int .i64 3) ∧ w'.cell? ⟨w1.heap.size + 1, 1, none⟩ = some (.bool false) ∧ w'.cell? ⟨w1.heap.size + 1, 2, none⟩ = some (.int .i64 E2) ∧ w'.cell? ⟨w1.heap.size + 1, 3, none⟩ = some (.int .u64 M2)) (first | (refine ⟨?_, ?_, ?_, ?_, ?_, ?_, ?_, ?_, ?_, ?_⟩ <;> with_reducible assumption) | go_keep) (first | (go_at_call_of 54 (Value.int IntKind.u64 M1); have hc := HS1.out w5.drew; (with_reducible refine hc.mono ?_); clear hc; rintro r w6 ⟨rfl, hb6⟩; have cc := rten_later hb6 (rten_later ((Below.refl _ _).drew) ⟨c0, c1, p0, p1, p2', p3, q0, q1, q2', q3⟩); have HB6 := hidden (HB.out.drew.trans (hb6.mono HB.out.drew.size)); clear hb6 c0 c1 p0 p1 p2' p3 q0 q1 q2' q3; obtain ⟨c0, c1, p0, p1, p2', p3, q0, q1, q2', q3⟩ := cc) | (go_at_call_of 54 (Value.int IntKind.u64 M2); have hc := HS2.out w6; (with_reducible refine hc.mono ?_); clear hc; rintro r w7 ⟨rfl, hb7⟩; have cc := rten_later hb7 ⟨c0, c1, p0, p1, p2', p3, q0, q1, q2', q3⟩; have HB7 := hidden (HB6.out.trans (hb7.mono HB6.out.size)); clear hb7 c0 c1 p0 p1 p2' p3 q0 q1 q2' q3; obtain ⟨c0, c1, p0, p1, p2', p3, q0, q1, q2', q3⟩ := cc))
  all_goals
    go_wp2
    go_ret3
    exact ⟨rfl, HB7.out⟩
theorem rcmp_33tt (m x a b E1 M1 E2 M2 : Int) (w : World)
    (HO : Hid (∀ w, Calls Try.prog 46 #[.agg #[.int .i64 m, .int .i64 x], .int .u64 a, .int .u64 b] w fun r w' => r = .returned (.tuple #[partsV 3 true E1 M1, partsV 3 true E2 M2, .int .i64 0]) ∧ Below w.heap.size w w'))
    : Calls Try.prog 16 #[.agg #[.int .i64 m, .int .i64 x], .int .u64 a, .int .u64 b] w fun r w' => r = .returned (.tuple #[.int .i64 0, .bool true, .int .i64 0]) ∧ Below w.heap.size w w' := by
  have HS1 : Hid (∀ w, Calls Try.prog 54 #[partsV 3 true E1 M1] w fun r w' => r = .returned (.int .i64 (-1)) ∧ Below w.heap.size w w') := hidden fun w => side_any 3 E1 M1 true w
  have HS2 : Hid (∀ w, Calls Try.prog 54 #[partsV 3 true E2 M2] w fun r w' => r = .returned (.int .i64 (-1)) ∧ Below w.heap.size w w') := hidden fun w => side_any 3 E2 M2 true w
  go_enter Try.func16, Try.ntmps16
  go_wp2_with fail
  refine (HO.out _).mono ?_
  rintro r w1 ⟨rfl, hb1⟩
  obtain ⟨w5, hw5, hx, c0, c1, p0, p1, p2', p3, q0, q1, q2', q3⟩ := ropen_boxes m x 3 E1 M1 3 E2 M2 true true w w1 hb1
  have HB := hidden hx
  clear hx hb1
  go_upto_region 2 with fail
  change Code.wp _ _ _ _ ((w1.alloc (.cells #[.int .i64 3, .bool true, .int .i64 E1, .int .u64 M1] 38)).alloc (.cells #[.int .i64 3, .bool true, .int .i64 E2, .int .u64 M2] 38))
  rw [← hw5]
  clear hw5
  go_upto_region 6 with fail
  go_region_held3 (fun w' => w'.cell? ⟨w.heap.size, 0, none⟩ = some (.int .i64 m) ∧ w'.cell? ⟨w.heap.size, 1, none⟩ = some (.int .i64 x) ∧ w'.cell? ⟨w1.heap.size, 0, none⟩ = some (.int .i64 3) ∧ w'.cell? ⟨w1.heap.size, 1, none⟩ = some (.bool true) ∧ w'.cell? ⟨w1.heap.size, 2, none⟩ = some (.int .i64 E1) ∧ w'.cell? ⟨w1.heap.size, 3, none⟩ = some (.int .u64 M1) ∧ w'.cell? ⟨w1.heap.size + 1, 0, none⟩ = some (.int .i64 3) ∧ w'.cell? ⟨w1.heap.size + 1, 1, none⟩ = some (.bool true) ∧ w'.cell? ⟨w1.heap.size + 1, 2, none⟩ = some (.int .i64 E2) ∧ w'.cell? ⟨w1.heap.size + 1, 3, none⟩ = some (.int .u64 M2)) (first | (refine ⟨?_, ?_, ?_, ?_, ?_, ?_, ?_, ?_, ?_, ?_⟩ <;> with_reducible assumption) | go_keep) (first | (go_at_call_of 54 (Value.int IntKind.u64 M1); have hc := HS1.out w5.drew; (with_reducible refine hc.mono ?_); clear hc; rintro r w6 ⟨rfl, hb6⟩; have cc := rten_later hb6 (rten_later ((Below.refl _ _).drew) ⟨c0, c1, p0, p1, p2', p3, q0, q1, q2', q3⟩); have HB6 := hidden (HB.out.drew.trans (hb6.mono HB.out.drew.size)); clear hb6 c0 c1 p0 p1 p2' p3 q0 q1 q2' q3; obtain ⟨c0, c1, p0, p1, p2', p3, q0, q1, q2', q3⟩ := cc) | (go_at_call_of 54 (Value.int IntKind.u64 M2); have hc := HS2.out w6; (with_reducible refine hc.mono ?_); clear hc; rintro r w7 ⟨rfl, hb7⟩; have cc := rten_later hb7 ⟨c0, c1, p0, p1, p2', p3, q0, q1, q2', q3⟩; have HB7 := hidden (HB6.out.trans (hb7.mono HB6.out.size)); clear hb7 c0 c1 p0 p1 p2' p3 q0 q1 q2' q3; obtain ⟨c0, c1, p0, p1, p2', p3, q0, q1, q2', q3⟩ := cc))
  all_goals
    go_wp2
    go_ret3
    exact ⟨rfl, HB7.out⟩
theorem rcmp_34 (m x a b E1 M1 E2 M2 : Int) (n1 n2 : Bool) (w : World)
    (HO : Hid (∀ w, Calls Try.prog 46 #[.agg #[.int .i64 m, .int .i64 x], .int .u64 a, .int .u64 b] w fun r w' => r = .returned (.tuple #[partsV 3 n1 E1 M1, partsV 4 n2 E2 M2, .int .i64 0]) ∧ Below w.heap.size w w'))
    : Calls Try.prog 16 #[.agg #[.int .i64 m, .int .i64 x], .int .u64 a, .int .u64 b] w fun r w' => r = .returned (.tuple #[.int .i64 0, .bool false, .int .i64 0]) ∧ Below w.heap.size w w' := by
  go_enter Try.func16, Try.ntmps16
  go_wp2_with fail
  refine (HO.out _).mono ?_
  rintro r w1 ⟨rfl, hb1⟩
  obtain ⟨w5, hw5, hx, c0, c1, p0, p1, p2', p3, q0, q1, q2', q3⟩ := ropen_boxes m x 3 E1 M1 4 E2 M2 n1 n2 w w1 hb1
  have HB := hidden hx
  clear hx hb1
  go_upto_region 2 with fail
  change Code.wp _ _ _ _ ((w1.alloc (.cells #[.int .i64 3, .bool n1, .int .i64 E1, .int .u64 M1] 38)).alloc (.cells #[.int .i64 4, .bool n2, .int .i64 E2, .int .u64 M2] 38))
  rw [← hw5]
  clear hw5
  go_wp2
  go_ret3
  exact ⟨rfl, HB.out⟩
theorem rcmp_41 (m x a b E1 M1 E2 M2 : Int) (n1 n2 : Bool) (w : World)
    (HO : Hid (∀ w, Calls Try.prog 46 #[.agg #[.int .i64 m, .int .i64 x], .int .u64 a, .int .u64 b] w fun r w' => r = .returned (.tuple #[partsV 4 n1 E1 M1, partsV 1 n2 E2 M2, .int .i64 0]) ∧ Below w.heap.size w w'))
    : Calls Try.prog 16 #[.agg #[.int .i64 m, .int .i64 x], .int .u64 a, .int .u64 b] w fun r w' => r = .returned (.tuple #[.int .i64 0, .bool false, .int .i64 0]) ∧ Below w.heap.size w w' := by
  go_enter Try.func16, Try.ntmps16
  go_wp2_with fail
  refine (HO.out _).mono ?_
  rintro r w1 ⟨rfl, hb1⟩
  obtain ⟨w5, hw5, hx, c0, c1, p0, p1, p2', p3, q0, q1, q2', q3⟩ := ropen_boxes m x 4 E1 M1 1 E2 M2 n1 n2 w w1 hb1
  have HB := hidden hx
  clear hx hb1
  go_upto_region 2 with fail
  change Code.wp _ _ _ _ ((w1.alloc (.cells #[.int .i64 4, .bool n1, .int .i64 E1, .int .u64 M1] 38)).alloc (.cells #[.int .i64 1, .bool n2, .int .i64 E2, .int .u64 M2] 38))
  rw [← hw5]
  clear hw5
  go_wp2
  go_ret3
  exact ⟨rfl, HB.out⟩
theorem rcmp_42 (m x a b E1 M1 E2 M2 : Int) (n1 n2 : Bool) (w : World)
    (HO : Hid (∀ w, Calls Try.prog 46 #[.agg #[.int .i64 m, .int .i64 x], .int .u64 a, .int .u64 b] w fun r w' => r = .returned (.tuple #[partsV 4 n1 E1 M1, partsV 2 n2 E2 M2, .int .i64 0]) ∧ Below w.heap.size w w'))
    : Calls Try.prog 16 #[.agg #[.int .i64 m, .int .i64 x], .int .u64 a, .int .u64 b] w fun r w' => r = .returned (.tuple #[.int .i64 0, .bool false, .int .i64 0]) ∧ Below w.heap.size w w' := by
  go_enter Try.func16, Try.ntmps16
  go_wp2_with fail
  refine (HO.out _).mono ?_
  rintro r w1 ⟨rfl, hb1⟩
  obtain ⟨w5, hw5, hx, c0, c1, p0, p1, p2', p3, q0, q1, q2', q3⟩ := ropen_boxes m x 4 E1 M1 2 E2 M2 n1 n2 w w1 hb1
  have HB := hidden hx
  clear hx hb1
  go_upto_region 2 with fail
  change Code.wp _ _ _ _ ((w1.alloc (.cells #[.int .i64 4, .bool n1, .int .i64 E1, .int .u64 M1] 38)).alloc (.cells #[.int .i64 2, .bool n2, .int .i64 E2, .int .u64 M2] 38))
  rw [← hw5]
  clear hw5
  go_wp2
  go_ret3
  exact ⟨rfl, HB.out⟩
theorem rcmp_43 (m x a b E1 M1 E2 M2 : Int) (n1 n2 : Bool) (w : World)
    (HO : Hid (∀ w, Calls Try.prog 46 #[.agg #[.int .i64 m, .int .i64 x], .int .u64 a, .int .u64 b] w fun r w' => r = .returned (.tuple #[partsV 4 n1 E1 M1, partsV 3 n2 E2 M2, .int .i64 0]) ∧ Below w.heap.size w w'))
    : Calls Try.prog 16 #[.agg #[.int .i64 m, .int .i64 x], .int .u64 a, .int .u64 b] w fun r w' => r = .returned (.tuple #[.int .i64 0, .bool false, .int .i64 0]) ∧ Below w.heap.size w w' := by
  go_enter Try.func16, Try.ntmps16
  go_wp2_with fail
  refine (HO.out _).mono ?_
  rintro r w1 ⟨rfl, hb1⟩
  obtain ⟨w5, hw5, hx, c0, c1, p0, p1, p2', p3, q0, q1, q2', q3⟩ := ropen_boxes m x 4 E1 M1 3 E2 M2 n1 n2 w w1 hb1
  have HB := hidden hx
  clear hx hb1
  go_upto_region 2 with fail
  change Code.wp _ _ _ _ ((w1.alloc (.cells #[.int .i64 4, .bool n1, .int .i64 E1, .int .u64 M1] 38)).alloc (.cells #[.int .i64 3, .bool n2, .int .i64 E2, .int .u64 M2] 38))
  rw [← hw5]
  clear hw5
  go_wp2
  go_ret3
  exact ⟨rfl, HB.out⟩
theorem rcmp_44 (m x a b E1 M1 E2 M2 : Int) (n1 n2 : Bool) (w : World)
    (HO : Hid (∀ w, Calls Try.prog 46 #[.agg #[.int .i64 m, .int .i64 x], .int .u64 a, .int .u64 b] w fun r w' => r = .returned (.tuple #[partsV 4 n1 E1 M1, partsV 4 n2 E2 M2, .int .i64 0]) ∧ Below w.heap.size w w'))
    : Calls Try.prog 16 #[.agg #[.int .i64 m, .int .i64 x], .int .u64 a, .int .u64 b] w fun r w' => r = .returned (.tuple #[.int .i64 0, .bool false, .int .i64 0]) ∧ Below w.heap.size w w' := by
  go_enter Try.func16, Try.ntmps16
  go_wp2_with fail
  refine (HO.out _).mono ?_
  rintro r w1 ⟨rfl, hb1⟩
  obtain ⟨w5, hw5, hx, c0, c1, p0, p1, p2', p3, q0, q1, q2', q3⟩ := ropen_boxes m x 4 E1 M1 4 E2 M2 n1 n2 w w1 hb1
  have HB := hidden hx
  clear hx hb1
  go_upto_region 2 with fail
  change Code.wp _ _ _ _ ((w1.alloc (.cells #[.int .i64 4, .bool n1, .int .i64 E1, .int .u64 M1] 38)).alloc (.cells #[.int .i64 4, .bool n2, .int .i64 E2, .int .u64 M2] 38))
  rw [← hw5]
  clear hw5
  go_wp2
  go_ret3
  exact ⟨rfl, HB.out⟩
end Go.Proofs.Ythmobhnkoinmcaa
namespace Go.Proofs.Ythmobhnkoinmcaa
open Go.RowKit
set_option maxRecDepth 100000
set_option maxHeartbeats 1000000
set_option linter.unusedVariables false

def CmpRet (w : World) (S : Int) (r : Ending) (w' : World) : Prop := ∃ c, r = .returned (.tuple #[.int .i64 c, .bool true, .int .i64 0]) ∧ ((S = 0 ∧ c = 0) ∨ (S < 0 ∧ c = -1) ∨ (0 < S ∧ c = 1)) ∧ Below w.heap.size w w'
theorem sev_later {w6 w7 : World} {A0 A1 A2 A3 A4 A5 A6 : Addr} {a0 a1 a2 a3 a4 a5 a6 : Value} (hb : Below w6.heap.size w6 w7) (h : w6.cell? A0 = some a0 ∧ w6.cell? A1 = some a1 ∧ w6.cell? A2 = some a2 ∧ w6.cell? A3 = some a3 ∧ w6.cell? A4 = some a4 ∧ w6.cell? A5 = some a5 ∧ w6.cell? A6 = some a6) :
    w7.cell? A0 = some a0 ∧ w7.cell? A1 = some a1 ∧ w7.cell? A2 = some a2 ∧ w7.cell? A3 = some a3 ∧ w7.cell? A4 = some a4 ∧ w7.cell? A5 = some a5 ∧ w7.cell? A6 = some a6 := by
  obtain ⟨h0, h1, h2, h3, h4, h5, h6⟩ := h
  exact ⟨cellLater hb h0, cellLater hb h1, cellLater hb h2, cellLater hb h3, cellLater hb h4, cellLater hb h5, cellLater hb h6⟩
theorem rcmp_fin_22 (m x : Nat) (a b E1 M1 E2 M2 e : Int) (n1 n2 : Bool) (k1 k2 : Nat) (w : World) (a0 : 0 ≤ M1) (a1 : M1 ≤ 18446744073709551615) (b0 : 0 ≤ M2) (b1 : M2 ≤ 18446744073709551615)
    (he : min E1 E2 = e) (hk1 : E1 - e = k1) (hk2 : E2 - e = k2) (r1 : -2000 ≤ E1 ∧ E1 ≤ 2000) (r2 : -2000 ≤ E2 ∧ E2 ≤ 2000)
    (HO : Hid (∀ w, Calls Try.prog 46 #[.agg #[.int .i64 (m : Int), .int .i64 x], .int .u64 a, .int .u64 b] w fun r w' => r = .returned (.tuple #[partsV 2 n1 E1 M1, partsV 2 n2 E2 M2, .int .i64 0]) ∧ Below w.heap.size w w'))
    : Calls Try.prog 16 #[.agg #[.int .i64 m, .int .i64 x], .int .u64 a, .int .u64 b] w fun r w' => CmpRet w (sgnI n1 * (M1 * p2 k1) + sgnI (!n2) * (M2 * p2 k2)) r w' := by
  have hs : ∀ n : Bool, sgnI n = 1 ∨ sgnI n = -1 := fun n => by cases n; exact .inl rfl; exact .inr rfl
  have HP := hidden (fun (W : World) x1 l1 c1 d1 x2 l2 c2 d2 (h1 : HasNat W x1 l1 c1 d1 M1) (h2 : HasNat W x2 l2 c2 d2 M2) (hl1 : l1 ≤ 4) (hl2 : l2 ≤ 4) => plus_walk (sgnI n1) (sgnI (!n2)) E1 E2 M1 M2 e x1 x2 l1 c1 l2 c2 k1 k2 d1 d2 W h1 h2 (by omega) (by omega) he hk1 hk2 (by omega) (by omega) (by omega) (by omega) (hs n1) (hs (!n2)))
  have HL : k1 / 16 + 4 + k2 / 16 + 4 + 3 ≤ 300 := by omega
  have HS1 : Hid (∀ w, Calls Try.prog 54 #[partsV 2 n1 E1 M1] w fun r w' => r = .returned (.int .i64 0) ∧ Below w.heap.size w w') := hidden fun w => side_any 2 E1 M1 n1 w
  have HS2 : Hid (∀ w, Calls Try.prog 54 #[partsV 2 n2 E2 M2] w fun r w' => r = .returned (.int .i64 0) ∧ Below w.heap.size w w') := hidden fun w => side_any 2 E2 M2 n2 w
  have hng : IntKind.i64.wrap (-sgnI n2) = sgnI (!n2) := by cases n2 <;> rfl
  have HX1 := hidden (fun w => exact_any 2 E1 M1 n1 w a0 a1)
  have HX2 := hidden (fun w => exact_any 2 E2 M2 n2 w b0 b1)
  generalize sgnI (!n2) = sN at *
  generalize sgnI n1 * (M1 * p2 k1) + sN * (M2 * p2 k2) = SS at *
  clear he hk1 hk2 r1 r2 hs
  go_enter Try.func16, Try.ntmps16
  go_wp2_with fail
  refine (HO.out _).mono ?_
  rintro r w1 ⟨rfl, hb1⟩
  obtain ⟨w5, hw5, hx, c0, c1, p0, p1, p2', p3, q0, q1, q2', q3⟩ := ropen_boxes m x 2 E1 M1 2 E2 M2 n1 n2 w w1 hb1
  have HB := hidden hx
  clear hx hb1
  go_upto_region 2 with fail
  change Code.wp _ _ _ _ ((w1.alloc (.cells #[.int .i64 2, .bool n1, .int .i64 E1, .int .u64 M1] 38)).alloc (.cells #[.int .i64 2, .bool n2, .int .i64 E2, .int .u64 M2] 38))
  rw [← hw5]
  clear hw5
  go_upto_region 6 with fail
  go_region_held3 (fun w' => w'.cell? ⟨w.heap.size, 0, none⟩ = some (.int .i64 m) ∧ w'.cell? ⟨w.heap.size, 1, none⟩ = some (.int .i64 x) ∧ w'.cell? ⟨w1.heap.size, 0, none⟩ = some (.int .i64 2) ∧ w'.cell? ⟨w1.heap.size, 1, none⟩ = some (.bool n1) ∧ w'.cell? ⟨w1.heap.size, 2, none⟩ = some (.int .i64 E1) ∧ w'.cell? ⟨w1.heap.size, 3, none⟩ = some (.int .u64 M1) ∧ w'.cell? ⟨w1.heap.size + 1, 0, none⟩ = some (.int .i64 2) ∧ w'.cell? ⟨w1.heap.size + 1, 1, none⟩ = some (.bool n2) ∧ w'.cell? ⟨w1.heap.size + 1, 2, none⟩ = some (.int .i64 E2) ∧ w'.cell? ⟨w1.heap.size + 1, 3, none⟩ = some (.int .u64 M2)) (first | (refine ⟨?_, ?_, ?_, ?_, ?_, ?_, ?_, ?_, ?_, ?_⟩ <;> with_reducible assumption) | go_keep) (first | (go_at_call_of 54 (Value.int IntKind.u64 M1); have hc := HS1.out w5.drew; (with_reducible refine hc.mono ?_); clear hc; rintro r w6 ⟨rfl, hb6⟩; have cc := rten_later hb6 (rten_later ((Below.refl _ _).drew) ⟨c0, c1, p0, p1, p2', p3, q0, q1, q2', q3⟩); have HB6 := hidden (HB.out.drew.trans (hb6.mono HB.out.drew.size)); clear hb6 c0 c1 p0 p1 p2' p3 q0 q1 q2' q3; obtain ⟨c0, c1, p0, p1, p2', p3, q0, q1, q2', q3⟩ := cc) | (go_at_call_of 54 (Value.int IntKind.u64 M2); have hc := HS2.out w6; (with_reducible refine hc.mono ?_); clear hc; rintro r w7 ⟨rfl, hb7⟩; have cc := rten_later hb7 ⟨c0, c1, p0, p1, p2', p3, q0, q1, q2', q3⟩; have HB7 := hidden (HB6.out.trans (hb7.mono HB6.out.size)); clear hb7 c0 c1 p0 p1 p2' p3 q0 q1 q2' q3; obtain ⟨c0, c1, p0, p1, p2', p3, q0, q1, q2', q3⟩ := cc))
  all_goals
    go_wp2_with fail
    refine (HX2.out _).mono ?_
    rintro r w8 ⟨a8, l8, c8, d8, rfl, h8, hl8, hb8, -⟩
    have cc := rten_later hb8 ⟨c0, c1, p0, p1, p2', p3, q0, q1, q2', q3⟩
    have HB8 := hidden (HB7.out.trans (hb8.mono HB7.out.size))
    have H8 := hidden h8
    clear hb8 h8 c0 c1 p0 p1 p2' p3 q0 q1 q2' q3
    obtain ⟨c0, c1, p0, p1, p2', p3, q0, q1, q2', q3⟩ := cc
    generalize sgnI n2 = s2 at *
    go_upto_region 11 with fail
    have hM : Below w8.heap.size w8 (w8.alloc (.cells #[.int .i64 sN, .slice a8 l8 c8, .int .i64 E2] 84)) := (Below.refl _ _).alloc (Nat.le_refl _) _
    obtain ⟨g0, g1, g2, -⟩ := rs_fresh w8 sN E2 a8 l8 c8
    have p0 := cellLater hM p0
    have p1 := cellLater hM p1
    have p2' := cellLater hM p2'
    have p3 := cellLater hM p3
    have H8M := hidden (H8.out.later hM)
    have HBM := hidden (HB8.out.trans (hM.mono HB8.out.size))
    clear hM c0 c1 q0 q1 q2' q3
    change Code.wp _ _ _ _ (w8.alloc (.cells #[.int .i64 sN, .slice a8 l8 c8, .int .i64 E2] 84))
    generalize w8.alloc (.cells #[.int .i64 sN, .slice a8 l8 c8, .int .i64 E2] 84) = wm at *
    go_region_held3 (fun w' => w'.cell? ⟨w1.heap.size, 0, none⟩ = some (.int .i64 2) ∧ w'.cell? ⟨w1.heap.size, 1, none⟩ = some (.bool n1) ∧ w'.cell? ⟨w1.heap.size, 2, none⟩ = some (.int .i64 E1) ∧ w'.cell? ⟨w1.heap.size, 3, none⟩ = some (.int .u64 M1) ∧ w'.cell? ⟨w8.heap.size, 0, none⟩ = some (.int .i64 sN) ∧ w'.cell? ⟨w8.heap.size, 1, none⟩ = some (.slice a8 l8 c8) ∧ w'.cell? ⟨w8.heap.size, 2, none⟩ = some (.int .i64 E2)) (first | (refine ⟨?_, ?_, ?_, ?_, ?_, ?_, ?_⟩ <;> with_reducible assumption) | go_keep) (first | (go_at_call 50; have hlq : w8.heap.size < wm.heap.size := World.block_lt_of_cell? _ _ g0; have hlf : w1.heap.size < wm.heap.size := World.block_lt_of_cell? _ _ p0; have nq1 : ¬ wm.heap.size = w8.heap.size := (by omega); have nq2 : ¬ wm.heap.size = w1.heap.size := (by omega); clear hlq hlf; have hA : Below wm.heap.size wm (wm.alloc (.cells #[.int .i64 0, .slice none 0 0, .int .i64 0] 84)).drew := ((Below.refl _ _).alloc (Nat.le_refl _) _).drew; have hc := HX1.out (wm.alloc (.cells #[.int .i64 0, .slice none 0 0, .int .i64 0] 84)).drew; (with_reducible refine hc.mono ?_); clear hc; rintro r w9 ⟨a9, l9, c9, d9, rfl, h9, hl9, hb9, -⟩; have cc := sev_later hb9 (sev_later hA ⟨p0, p1, p2', p3, g0, g1, g2⟩); have zf := rs_of ((Below.refl _ _).drew) (rs_fresh wm 0 0 none 0 0); have ZZ : Hid (RsAt w9 wm.heap.size 0 (.slice none 0 0) 0) := hidden (rs_of hb9 zf); have HBA := HBM.out.trans (hA.mono HBM.out.size); have HB9 := hidden (HBA.trans (hb9.mono HBA.size)); have H9 := hidden h9; have H8' := hidden ((H8M.out.later hA).later hb9); clear hb9 h9 hA zf HBA; clear p0 p1 p2' p3 g0 g1 g2; obtain ⟨p0, p1, p2', p3, g0, g1, g2⟩ := cc) | (go_at_call 50; have hc := HX1.out wm.drew; (with_reducible refine hc.mono ?_); clear hc; rintro r w9 ⟨a9, l9, c9, d9, rfl, h9, hl9, hb9, -⟩; have cc := sev_later hb9 (sev_later ((Below.refl _ _).drew) ⟨p0, p1, p2', p3, g0, g1, g2⟩); have HB9 := hidden (HBM.out.drew.trans (hb9.mono HBM.out.drew.size)); have H9 := hidden h9; have H8' := hidden ((H8M.out.later ((Below.refl _ _).drew)).later hb9); clear hb9 h9; clear p0 p1 p2' p3 g0 g1 g2; obtain ⟨p0, p1, p2', p3, g0, g1, g2⟩ := cc) | (go_at_call 49; have hlq : w8.heap.size < w9.heap.size := World.block_lt_of_cell? _ _ g0; have hlf : w1.heap.size < w9.heap.size := World.block_lt_of_cell? _ _ p0; have nq1 : ¬ w9.heap.size = w8.heap.size := (by omega); have nq2 : ¬ w9.heap.size = w1.heap.size := (by omega); clear hlq hlf; have hA := ((Below.refl _ _).alloc (Nat.le_refl _) _ : Below w9.heap.size w9 (w9.alloc (.cells #[.int .i64 0, .slice none 0 0, .int .i64 0] 84))); have hc := HP.out (w9.alloc (.cells #[.int .i64 0, .slice none 0 0, .int .i64 0] 84)) _ _ _ _ _ _ _ _ (H9.out.later hA) (H8'.out.later hA) hl9 hl8; (with_reducible refine hc.mono ?_); clear hc; rintro r w10 ⟨s, an, ln, cn, dn, N, rfl, h10, hs10, hN10, hl10, hb10, nw10⟩; have cc := sev_later hb10 (sev_later hA ⟨p0, p1, p2', p3, g0, g1, g2⟩); have ZZ := hidden (rs_of hb10 (rs_fresh w9 0 0 none 0 0)); have HBA := HB9.out.trans (hA.mono HB9.out.size); have HB10 := hidden (HBA.trans (hb10.mono HBA.size)); have H10 := hidden h10; have HS10 := hidden hs10; have HN10 := hidden hN10; have NW8 : Hid (∀ p, an = some p → w9.heap.size < p.block) := hidden (fun p hp => by have h := nw10 p hp; simp at h; omega); clear hb10 h10 hs10 hN10 nw10 hA HBA; clear p0 p1 p2' p3 g0 g1 g2; obtain ⟨p0, p1, p2', p3, g0, g1, g2⟩ := cc; have zz := ZZ.out; obtain ⟨z0, z1, z2, z3, z4, z5⟩ := zz) | (go_at_call 49; have zy := ZZ.out; have hc := HP.out w9 _ _ _ _ _ _ _ _ H9.out H8'.out hl9 hl8; (with_reducible refine hc.mono ?_); clear hc; rintro r w10 ⟨s, an, ln, cn, dn, N, rfl, h10, hs10, hN10, hl10, hb10, nw10⟩; have cc := sev_later hb10 ⟨p0, p1, p2', p3, g0, g1, g2⟩; have NWZ := hidden nw10; have ZY := hidden zy; have ZZ := hidden (rs_of hb10 zy); clear zy; have HB10 := hidden (HB9.out.trans (hb10.mono HB9.out.size)); have H10 := hidden h10; have HS10 := hidden hs10; have HN10 := hidden hN10; clear hb10 h10 hs10 hN10 nw10; clear p0 p1 p2' p3 g0 g1 g2; obtain ⟨p0, p1, p2', p3, g0, g1, g2⟩ := cc; have zz := ZZ.out; obtain ⟨z0, z1, z2, z3, z4, z5⟩ := zz) | (go_at_call 49; have hc := HP.out w9 _ _ _ _ _ _ _ _ H9.out H8'.out hl9 hl8; (with_reducible refine hc.mono ?_); clear hc; rintro r w10 ⟨s, an, ln, cn, dn, N, rfl, h10, hs10, hN10, hl10, hb10, nw10⟩; have cc := sev_later hb10 ⟨p0, p1, p2', p3, g0, g1, g2⟩; have HB10 := hidden (HB9.out.trans (hb10.mono HB9.out.size)); have H10 := hidden h10; have HS10 := hidden hs10; have HN10 := hidden hN10; clear hb10 h10 hs10 hN10 nw10; clear p0 p1 p2' p3 g0 g1 g2; obtain ⟨p0, p1, p2', p3, g0, g1, g2⟩ := cc))
    all_goals first
      | (
        have zq : RsAt w10 w9.heap.size 0 (.slice none 0 0) 0 := by with_reducible exact ZZ.out
        have hX := set3_below HB10.out w9.heap.size (by first | exact HBM.out.size | exact HB9.out.size) (.int .i64 s) (.slice an ln cn) (.int .i64 e)
        have hR := rs_put zq s e (.slice an ln cn)
        have hH := has_of3 (rd_set3 H10.out.rd w9.heap.size (.int .i64 s) (.slice an ln cn) (.int .i64 e) fun p hp => by have h := NW8.out p hp; omega) H10.out.ok H10.out.val H10.out.top
        clear p0 p1 p2' p3 g0 g1 g2 z0 z1 z2 z3 z4 z5 zq
        have HX := hidden hX
        have HR := hidden hR
        have HH := hidden hH
        clear hX hR hH
        go_upto_region 12 with fail
        change Code.wp _ _ _ _ (set3 w10 w9.heap.size (.int .i64 s) (.slice an ln cn) (.int .i64 e))
        generalize (set3 w10 w9.heap.size (.int .i64 s) (.slice an ln cn) (.int .i64 e)) = wz at *
        obtain ⟨z0, z1, z2, -⟩ := HR.out
        have hNn := HH.out.nonneg
        have e10 := HN10.out
        have HE := hidden e10
        clear e10
        by_cases hN0 : N = 0
        · subst hN0
          go_wp2_with (go_at_call 51; refine (bits_bl HH.out (by omega)).mono ?_; rintro r w12 ⟨rfl, hw12⟩; obtain rfl := hw12.symm; rw [bl_zero])
          go_ret3
          exact ⟨0, rfl, .inl ⟨by have := HE.out; omega, rfl⟩, HX.out⟩
        · have hbl : ((bl N : Int) == 0) = false := by
            have := (bl_bd N (by omega)).1
            simp; omega
          go_wp2_with (go_at_call 51; refine (bits_bl HH.out (by omega)).mono ?_; rintro r w12 ⟨rfl, hw12⟩; obtain rfl := hw12.symm)
          go_ret3
          refine ⟨s, rfl, ?_, HX.out⟩
          have e := HE.out
          rcases HS10.out with rfl | rfl <;> omega)
      | (
        have zq : RsAt w10 wm.heap.size 0 (.slice none 0 0) 0 := by with_reducible exact ZZ.out
        have hX := set3_below HB10.out wm.heap.size (by first | exact HBM.out.size | exact HB9.out.size) (.int .i64 s) (.slice an ln cn) (.int .i64 e)
        have hR := rs_put zq s e (.slice an ln cn)
        have hH := has_of3 (rd_set3 H10.out.rd wm.heap.size (.int .i64 s) (.slice an ln cn) (.int .i64 e) fun p hp => by have h := NWZ.out p hp; have h2 : wm.heap.size < w9.heap.size := World.block_lt_of_cell? _ _ ZY.out.1; omega) H10.out.ok H10.out.val H10.out.top
        clear p0 p1 p2' p3 g0 g1 g2 z0 z1 z2 z3 z4 z5 zq
        have HX := hidden hX
        have HR := hidden hR
        have HH := hidden hH
        clear hX hR hH
        go_upto_region 12 with fail
        change Code.wp _ _ _ _ (set3 w10 wm.heap.size (.int .i64 s) (.slice an ln cn) (.int .i64 e))
        generalize (set3 w10 wm.heap.size (.int .i64 s) (.slice an ln cn) (.int .i64 e)) = wz at *
        obtain ⟨z0, z1, z2, -⟩ := HR.out
        have hNn := HH.out.nonneg
        have e10 := HN10.out
        have HE := hidden e10
        clear e10
        by_cases hN0 : N = 0
        · subst hN0
          go_wp2_with (go_at_call 51; refine (bits_bl HH.out (by omega)).mono ?_; rintro r w12 ⟨rfl, hw12⟩; obtain rfl := hw12.symm; rw [bl_zero])
          go_ret3
          exact ⟨0, rfl, .inl ⟨by have := HE.out; omega, rfl⟩, HX.out⟩
        · have hbl : ((bl N : Int) == 0) = false := by
            have := (bl_bd N (by omega)).1
            simp; omega
          go_wp2_with (go_at_call 51; refine (bits_bl HH.out (by omega)).mono ?_; rintro r w12 ⟨rfl, hw12⟩; obtain rfl := hw12.symm)
          go_ret3
          refine ⟨s, rfl, ?_, HX.out⟩
          have e := HE.out
          rcases HS10.out with rfl | rfl <;> omega)
      | (
        have hA : Below w10.heap.size w10 (w10.alloc (.cells #[.int .i64 s, .slice an ln cn, .int .i64 e] 84)) := (Below.refl _ _).alloc (Nat.le_refl _) _
        have HR := hidden (rs_fresh w10 s e an ln cn)
        have HH := hidden (H10.out.later hA)
        have HX := hidden (HB10.out.trans (hA.mono HB10.out.size))
        clear p0 p1 p2' p3 g0 g1 g2 hA
        go_upto_region 12 with fail
        change Code.wp _ _ _ _ (w10.alloc (.cells #[.int .i64 s, .slice an ln cn, .int .i64 e] 84))
        generalize w10.alloc (.cells #[.int .i64 s, .slice an ln cn, .int .i64 e] 84) = wz at *
        obtain ⟨z0, z1, z2, -⟩ := HR.out
        have hNn := HH.out.nonneg
        have e10 := HN10.out
        have HE := hidden e10
        clear e10
        by_cases hN0 : N = 0
        · subst hN0
          go_wp2_with (go_at_call 51; refine (bits_bl HH.out (by omega)).mono ?_; rintro r w12 ⟨rfl, hw12⟩; obtain rfl := hw12.symm; rw [bl_zero])
          go_ret3
          exact ⟨0, rfl, .inl ⟨by have := HE.out; omega, rfl⟩, HX.out⟩
        · have hbl : ((bl N : Int) == 0) = false := by
            have := (bl_bd N (by omega)).1
            simp; omega
          go_wp2_with (go_at_call 51; refine (bits_bl HH.out (by omega)).mono ?_; rintro r w12 ⟨rfl, hw12⟩; obtain rfl := hw12.symm)
          go_ret3
          refine ⟨s, rfl, ?_, HX.out⟩
          have e := HE.out
          rcases HS10.out with rfl | rfl <;> omega)
theorem rcmp_fin_11 (m x : Nat) (a b E1 M1 E2 M2 e : Int) (n1 n2 : Bool) (k1 k2 : Nat) (w : World) (a0 : 0 ≤ M1) (a1 : M1 ≤ 18446744073709551615) (b0 : 0 ≤ M2) (b1 : M2 ≤ 18446744073709551615)
    (he : min E1 E2 = e) (hk1 : E1 - e = k1) (hk2 : E2 - e = k2) (r1 : -2000 ≤ E1 ∧ E1 ≤ 2000) (r2 : -2000 ≤ E2 ∧ E2 ≤ 2000)
    (HO : Hid (∀ w, Calls Try.prog 46 #[.agg #[.int .i64 (m : Int), .int .i64 x], .int .u64 a, .int .u64 b] w fun r w' => r = .returned (.tuple #[partsV 1 n1 E1 M1, partsV 1 n2 E2 M2, .int .i64 0]) ∧ Below w.heap.size w w'))
    : Calls Try.prog 16 #[.agg #[.int .i64 m, .int .i64 x], .int .u64 a, .int .u64 b] w fun r w' => CmpRet w (sgnI n1 * (M1 * p2 k1) + sgnI (!n2) * (M2 * p2 k2)) r w' := by
  have hs : ∀ n : Bool, sgnI n = 1 ∨ sgnI n = -1 := fun n => by cases n; exact .inl rfl; exact .inr rfl
  have HP := hidden (fun (W : World) x1 l1 c1 d1 x2 l2 c2 d2 (h1 : HasNat W x1 l1 c1 d1 M1) (h2 : HasNat W x2 l2 c2 d2 M2) (hl1 : l1 ≤ 4) (hl2 : l2 ≤ 4) => plus_walk (sgnI n1) (sgnI (!n2)) E1 E2 M1 M2 e x1 x2 l1 c1 l2 c2 k1 k2 d1 d2 W h1 h2 (by omega) (by omega) he hk1 hk2 (by omega) (by omega) (by omega) (by omega) (hs n1) (hs (!n2)))
  have HL : k1 / 16 + 4 + k2 / 16 + 4 + 3 ≤ 300 := by omega
  have HS1 : Hid (∀ w, Calls Try.prog 54 #[partsV 1 n1 E1 M1] w fun r w' => r = .returned (.int .i64 0) ∧ Below w.heap.size w w') := hidden fun w => side_any 1 E1 M1 n1 w
  have HS2 : Hid (∀ w, Calls Try.prog 54 #[partsV 1 n2 E2 M2] w fun r w' => r = .returned (.int .i64 0) ∧ Below w.heap.size w w') := hidden fun w => side_any 1 E2 M2 n2 w
  have hng : IntKind.i64.wrap (-sgnI n2) = sgnI (!n2) := by cases n2 <;> rfl
  have HX1 := hidden (fun w => exact_any 1 E1 M1 n1 w a0 a1)
  have HX2 := hidden (fun w => exact_any 1 E2 M2 n2 w b0 b1)
  generalize sgnI (!n2) = sN at *
  generalize sgnI n1 * (M1 * p2 k1) + sN * (M2 * p2 k2) = SS at *
  clear he hk1 hk2 r1 r2 hs
  go_enter Try.func16, Try.ntmps16
  go_wp2_with fail
  refine (HO.out _).mono ?_
  rintro r w1 ⟨rfl, hb1⟩
  obtain ⟨w5, hw5, hx, c0, c1, p0, p1, p2', p3, q0, q1, q2', q3⟩ := ropen_boxes m x 1 E1 M1 1 E2 M2 n1 n2 w w1 hb1
  have HB := hidden hx
  clear hx hb1
  go_upto_region 2 with fail
  change Code.wp _ _ _ _ ((w1.alloc (.cells #[.int .i64 1, .bool n1, .int .i64 E1, .int .u64 M1] 38)).alloc (.cells #[.int .i64 1, .bool n2, .int .i64 E2, .int .u64 M2] 38))
  rw [← hw5]
  clear hw5
  go_upto_region 6 with fail
  go_region_held3 (fun w' => w'.cell? ⟨w.heap.size, 0, none⟩ = some (.int .i64 m) ∧ w'.cell? ⟨w.heap.size, 1, none⟩ = some (.int .i64 x) ∧ w'.cell? ⟨w1.heap.size, 0, none⟩ = some (.int .i64 1) ∧ w'.cell? ⟨w1.heap.size, 1, none⟩ = some (.bool n1) ∧ w'.cell? ⟨w1.heap.size, 2, none⟩ = some (.int .i64 E1) ∧ w'.cell? ⟨w1.heap.size, 3, none⟩ = some (.int .u64 M1) ∧ w'.cell? ⟨w1.heap.size + 1, 0, none⟩ = some (.int .i64 1) ∧ w'.cell? ⟨w1.heap.size + 1, 1, none⟩ = some (.bool n2) ∧ w'.cell? ⟨w1.heap.size + 1, 2, none⟩ = some (.int .i64 E2) ∧ w'.cell? ⟨w1.heap.size + 1, 3, none⟩ = some (.int .u64 M2)) (first | (refine ⟨?_, ?_, ?_, ?_, ?_, ?_, ?_, ?_, ?_, ?_⟩ <;> with_reducible assumption) | go_keep) (first | (go_at_call_of 54 (Value.int IntKind.u64 M1); have hc := HS1.out w5.drew; (with_reducible refine hc.mono ?_); clear hc; rintro r w6 ⟨rfl, hb6⟩; have cc := rten_later hb6 (rten_later ((Below.refl _ _).drew) ⟨c0, c1, p0, p1, p2', p3, q0, q1, q2', q3⟩); have HB6 := hidden (HB.out.drew.trans (hb6.mono HB.out.drew.size)); clear hb6 c0 c1 p0 p1 p2' p3 q0 q1 q2' q3; obtain ⟨c0, c1, p0, p1, p2', p3, q0, q1, q2', q3⟩ := cc) | (go_at_call_of 54 (Value.int IntKind.u64 M2); have hc := HS2.out w6; (with_reducible refine hc.mono ?_); clear hc; rintro r w7 ⟨rfl, hb7⟩; have cc := rten_later hb7 ⟨c0, c1, p0, p1, p2', p3, q0, q1, q2', q3⟩; have HB7 := hidden (HB6.out.trans (hb7.mono HB6.out.size)); clear hb7 c0 c1 p0 p1 p2' p3 q0 q1 q2' q3; obtain ⟨c0, c1, p0, p1, p2', p3, q0, q1, q2', q3⟩ := cc))
  all_goals
    go_wp2_with fail
    refine (HX2.out _).mono ?_
    rintro r w8 ⟨a8, l8, c8, d8, rfl, h8, hl8, hb8, -⟩
    have cc := rten_later hb8 ⟨c0, c1, p0, p1, p2', p3, q0, q1, q2', q3⟩
    have HB8 := hidden (HB7.out.trans (hb8.mono HB7.out.size))
    have H8 := hidden h8
    clear hb8 h8 c0 c1 p0 p1 p2' p3 q0 q1 q2' q3
    obtain ⟨c0, c1, p0, p1, p2', p3, q0, q1, q2', q3⟩ := cc
    generalize sgnI n2 = s2 at *
    go_upto_region 11 with fail
    have hM : Below w8.heap.size w8 (w8.alloc (.cells #[.int .i64 sN, .slice a8 l8 c8, .int .i64 E2] 84)) := (Below.refl _ _).alloc (Nat.le_refl _) _
    obtain ⟨g0, g1, g2, -⟩ := rs_fresh w8 sN E2 a8 l8 c8
    have p0 := cellLater hM p0
    have p1 := cellLater hM p1
    have p2' := cellLater hM p2'
    have p3 := cellLater hM p3
    have H8M := hidden (H8.out.later hM)
    have HBM := hidden (HB8.out.trans (hM.mono HB8.out.size))
    clear hM c0 c1 q0 q1 q2' q3
    change Code.wp _ _ _ _ (w8.alloc (.cells #[.int .i64 sN, .slice a8 l8 c8, .int .i64 E2] 84))
    generalize w8.alloc (.cells #[.int .i64 sN, .slice a8 l8 c8, .int .i64 E2] 84) = wm at *
    go_region_held3 (fun w' => w'.cell? ⟨w1.heap.size, 0, none⟩ = some (.int .i64 1) ∧ w'.cell? ⟨w1.heap.size, 1, none⟩ = some (.bool n1) ∧ w'.cell? ⟨w1.heap.size, 2, none⟩ = some (.int .i64 E1) ∧ w'.cell? ⟨w1.heap.size, 3, none⟩ = some (.int .u64 M1) ∧ w'.cell? ⟨w8.heap.size, 0, none⟩ = some (.int .i64 sN) ∧ w'.cell? ⟨w8.heap.size, 1, none⟩ = some (.slice a8 l8 c8) ∧ w'.cell? ⟨w8.heap.size, 2, none⟩ = some (.int .i64 E2)) (first | (refine ⟨?_, ?_, ?_, ?_, ?_, ?_, ?_⟩ <;> with_reducible assumption) | go_keep) (first | (go_at_call 50; have hlq : w8.heap.size < wm.heap.size := World.block_lt_of_cell? _ _ g0; have hlf : w1.heap.size < wm.heap.size := World.block_lt_of_cell? _ _ p0; have nq1 : ¬ wm.heap.size = w8.heap.size := (by omega); have nq2 : ¬ wm.heap.size = w1.heap.size := (by omega); clear hlq hlf; have hA : Below wm.heap.size wm (wm.alloc (.cells #[.int .i64 0, .slice none 0 0, .int .i64 0] 84)).drew := ((Below.refl _ _).alloc (Nat.le_refl _) _).drew; have hc := HX1.out (wm.alloc (.cells #[.int .i64 0, .slice none 0 0, .int .i64 0] 84)).drew; (with_reducible refine hc.mono ?_); clear hc; rintro r w9 ⟨a9, l9, c9, d9, rfl, h9, hl9, hb9, -⟩; have cc := sev_later hb9 (sev_later hA ⟨p0, p1, p2', p3, g0, g1, g2⟩); have zf := rs_of ((Below.refl _ _).drew) (rs_fresh wm 0 0 none 0 0); have ZZ : Hid (RsAt w9 wm.heap.size 0 (.slice none 0 0) 0) := hidden (rs_of hb9 zf); have HBA := HBM.out.trans (hA.mono HBM.out.size); have HB9 := hidden (HBA.trans (hb9.mono HBA.size)); have H9 := hidden h9; have H8' := hidden ((H8M.out.later hA).later hb9); clear hb9 h9 hA zf HBA; clear p0 p1 p2' p3 g0 g1 g2; obtain ⟨p0, p1, p2', p3, g0, g1, g2⟩ := cc) | (go_at_call 50; have hc := HX1.out wm.drew; (with_reducible refine hc.mono ?_); clear hc; rintro r w9 ⟨a9, l9, c9, d9, rfl, h9, hl9, hb9, -⟩; have cc := sev_later hb9 (sev_later ((Below.refl _ _).drew) ⟨p0, p1, p2', p3, g0, g1, g2⟩); have HB9 := hidden (HBM.out.drew.trans (hb9.mono HBM.out.drew.size)); have H9 := hidden h9; have H8' := hidden ((H8M.out.later ((Below.refl _ _).drew)).later hb9); clear hb9 h9; clear p0 p1 p2' p3 g0 g1 g2; obtain ⟨p0, p1, p2', p3, g0, g1, g2⟩ := cc) | (go_at_call 49; have hlq : w8.heap.size < w9.heap.size := World.block_lt_of_cell? _ _ g0; have hlf : w1.heap.size < w9.heap.size := World.block_lt_of_cell? _ _ p0; have nq1 : ¬ w9.heap.size = w8.heap.size := (by omega); have nq2 : ¬ w9.heap.size = w1.heap.size := (by omega); clear hlq hlf; have hA := ((Below.refl _ _).alloc (Nat.le_refl _) _ : Below w9.heap.size w9 (w9.alloc (.cells #[.int .i64 0, .slice none 0 0, .int .i64 0] 84))); have hc := HP.out (w9.alloc (.cells #[.int .i64 0, .slice none 0 0, .int .i64 0] 84)) _ _ _ _ _ _ _ _ (H9.out.later hA) (H8'.out.later hA) hl9 hl8; (with_reducible refine hc.mono ?_); clear hc; rintro r w10 ⟨s, an, ln, cn, dn, N, rfl, h10, hs10, hN10, hl10, hb10, nw10⟩; have cc := sev_later hb10 (sev_later hA ⟨p0, p1, p2', p3, g0, g1, g2⟩); have ZZ := hidden (rs_of hb10 (rs_fresh w9 0 0 none 0 0)); have HBA := HB9.out.trans (hA.mono HB9.out.size); have HB10 := hidden (HBA.trans (hb10.mono HBA.size)); have H10 := hidden h10; have HS10 := hidden hs10; have HN10 := hidden hN10; have NW8 : Hid (∀ p, an = some p → w9.heap.size < p.block) := hidden (fun p hp => by have h := nw10 p hp; simp at h; omega); clear hb10 h10 hs10 hN10 nw10 hA HBA; clear p0 p1 p2' p3 g0 g1 g2; obtain ⟨p0, p1, p2', p3, g0, g1, g2⟩ := cc; have zz := ZZ.out; obtain ⟨z0, z1, z2, z3, z4, z5⟩ := zz) | (go_at_call 49; have zy := ZZ.out; have hc := HP.out w9 _ _ _ _ _ _ _ _ H9.out H8'.out hl9 hl8; (with_reducible refine hc.mono ?_); clear hc; rintro r w10 ⟨s, an, ln, cn, dn, N, rfl, h10, hs10, hN10, hl10, hb10, nw10⟩; have cc := sev_later hb10 ⟨p0, p1, p2', p3, g0, g1, g2⟩; have NWZ := hidden nw10; have ZY := hidden zy; have ZZ := hidden (rs_of hb10 zy); clear zy; have HB10 := hidden (HB9.out.trans (hb10.mono HB9.out.size)); have H10 := hidden h10; have HS10 := hidden hs10; have HN10 := hidden hN10; clear hb10 h10 hs10 hN10 nw10; clear p0 p1 p2' p3 g0 g1 g2; obtain ⟨p0, p1, p2', p3, g0, g1, g2⟩ := cc; have zz := ZZ.out; obtain ⟨z0, z1, z2, z3, z4, z5⟩ := zz) | (go_at_call 49; have hc := HP.out w9 _ _ _ _ _ _ _ _ H9.out H8'.out hl9 hl8; (with_reducible refine hc.mono ?_); clear hc; rintro r w10 ⟨s, an, ln, cn, dn, N, rfl, h10, hs10, hN10, hl10, hb10, nw10⟩; have cc := sev_later hb10 ⟨p0, p1, p2', p3, g0, g1, g2⟩; have HB10 := hidden (HB9.out.trans (hb10.mono HB9.out.size)); have H10 := hidden h10; have HS10 := hidden hs10; have HN10 := hidden hN10; clear hb10 h10 hs10 hN10 nw10; clear p0 p1 p2' p3 g0 g1 g2; obtain ⟨p0, p1, p2', p3, g0, g1, g2⟩ := cc))
    all_goals first
      | (
        have zq : RsAt w10 w9.heap.size 0 (.slice none 0 0) 0 := by with_reducible exact ZZ.out
        have hX := set3_below HB10.out w9.heap.size (by first | exact HBM.out.size | exact HB9.out.size) (.int .i64 s) (.slice an ln cn) (.int .i64 e)
        have hR := rs_put zq s e (.slice an ln cn)
        have hH := has_of3 (rd_set3 H10.out.rd w9.heap.size (.int .i64 s) (.slice an ln cn) (.int .i64 e) fun p hp => by have h := NW8.out p hp; omega) H10.out.ok H10.out.val H10.out.top
        clear p0 p1 p2' p3 g0 g1 g2 z0 z1 z2 z3 z4 z5 zq
        have HX := hidden hX
        have HR := hidden hR
        have HH := hidden hH
        clear hX hR hH
        go_upto_region 12 with fail
        change Code.wp _ _ _ _ (set3 w10 w9.heap.size (.int .i64 s) (.slice an ln cn) (.int .i64 e))
        generalize (set3 w10 w9.heap.size (.int .i64 s) (.slice an ln cn) (.int .i64 e)) = wz at *
        obtain ⟨z0, z1, z2, -⟩ := HR.out
        have hNn := HH.out.nonneg
        have e10 := HN10.out
        have HE := hidden e10
        clear e10
        by_cases hN0 : N = 0
        · subst hN0
          go_wp2_with (go_at_call 51; refine (bits_bl HH.out (by omega)).mono ?_; rintro r w12 ⟨rfl, hw12⟩; obtain rfl := hw12.symm; rw [bl_zero])
          go_ret3
          exact ⟨0, rfl, .inl ⟨by have := HE.out; omega, rfl⟩, HX.out⟩
        · have hbl : ((bl N : Int) == 0) = false := by
            have := (bl_bd N (by omega)).1
            simp; omega
          go_wp2_with (go_at_call 51; refine (bits_bl HH.out (by omega)).mono ?_; rintro r w12 ⟨rfl, hw12⟩; obtain rfl := hw12.symm)
          go_ret3
          refine ⟨s, rfl, ?_, HX.out⟩
          have e := HE.out
          rcases HS10.out with rfl | rfl <;> omega)
      | (
        have zq : RsAt w10 wm.heap.size 0 (.slice none 0 0) 0 := by with_reducible exact ZZ.out
        have hX := set3_below HB10.out wm.heap.size (by first | exact HBM.out.size | exact HB9.out.size) (.int .i64 s) (.slice an ln cn) (.int .i64 e)
        have hR := rs_put zq s e (.slice an ln cn)
        have hH := has_of3 (rd_set3 H10.out.rd wm.heap.size (.int .i64 s) (.slice an ln cn) (.int .i64 e) fun p hp => by have h := NWZ.out p hp; have h2 : wm.heap.size < w9.heap.size := World.block_lt_of_cell? _ _ ZY.out.1; omega) H10.out.ok H10.out.val H10.out.top
        clear p0 p1 p2' p3 g0 g1 g2 z0 z1 z2 z3 z4 z5 zq
        have HX := hidden hX
        have HR := hidden hR
        have HH := hidden hH
        clear hX hR hH
        go_upto_region 12 with fail
        change Code.wp _ _ _ _ (set3 w10 wm.heap.size (.int .i64 s) (.slice an ln cn) (.int .i64 e))
        generalize (set3 w10 wm.heap.size (.int .i64 s) (.slice an ln cn) (.int .i64 e)) = wz at *
        obtain ⟨z0, z1, z2, -⟩ := HR.out
        have hNn := HH.out.nonneg
        have e10 := HN10.out
        have HE := hidden e10
        clear e10
        by_cases hN0 : N = 0
        · subst hN0
          go_wp2_with (go_at_call 51; refine (bits_bl HH.out (by omega)).mono ?_; rintro r w12 ⟨rfl, hw12⟩; obtain rfl := hw12.symm; rw [bl_zero])
          go_ret3
          exact ⟨0, rfl, .inl ⟨by have := HE.out; omega, rfl⟩, HX.out⟩
        · have hbl : ((bl N : Int) == 0) = false := by
            have := (bl_bd N (by omega)).1
            simp; omega
          go_wp2_with (go_at_call 51; refine (bits_bl HH.out (by omega)).mono ?_; rintro r w12 ⟨rfl, hw12⟩; obtain rfl := hw12.symm)
          go_ret3
          refine ⟨s, rfl, ?_, HX.out⟩
          have e := HE.out
          rcases HS10.out with rfl | rfl <;> omega)
      | (
        have hA : Below w10.heap.size w10 (w10.alloc (.cells #[.int .i64 s, .slice an ln cn, .int .i64 e] 84)) := (Below.refl _ _).alloc (Nat.le_refl _) _
        have HR := hidden (rs_fresh w10 s e an ln cn)
        have HH := hidden (H10.out.later hA)
        have HX := hidden (HB10.out.trans (hA.mono HB10.out.size))
        clear p0 p1 p2' p3 g0 g1 g2 hA
        go_upto_region 12 with fail
        change Code.wp _ _ _ _ (w10.alloc (.cells #[.int .i64 s, .slice an ln cn, .int .i64 e] 84))
        generalize w10.alloc (.cells #[.int .i64 s, .slice an ln cn, .int .i64 e] 84) = wz at *
        obtain ⟨z0, z1, z2, -⟩ := HR.out
        have hNn := HH.out.nonneg
        have e10 := HN10.out
        have HE := hidden e10
        clear e10
        by_cases hN0 : N = 0
        · subst hN0
          go_wp2_with (go_at_call 51; refine (bits_bl HH.out (by omega)).mono ?_; rintro r w12 ⟨rfl, hw12⟩; obtain rfl := hw12.symm; rw [bl_zero])
          go_ret3
          exact ⟨0, rfl, .inl ⟨by have := HE.out; omega, rfl⟩, HX.out⟩
        · have hbl : ((bl N : Int) == 0) = false := by
            have := (bl_bd N (by omega)).1
            simp; omega
          go_wp2_with (go_at_call 51; refine (bits_bl HH.out (by omega)).mono ?_; rintro r w12 ⟨rfl, hw12⟩; obtain rfl := hw12.symm)
          go_ret3
          refine ⟨s, rfl, ?_, HX.out⟩
          have e := HE.out
          rcases HS10.out with rfl | rfl <;> omega)
theorem rcmp_fin_12 (m x : Nat) (a b E1 M1 E2 M2 e : Int) (n1 n2 : Bool) (k1 k2 : Nat) (w : World) (a0 : 0 ≤ M1) (a1 : M1 ≤ 18446744073709551615) (b0 : 0 ≤ M2) (b1 : M2 ≤ 18446744073709551615)
    (he : min E1 E2 = e) (hk1 : E1 - e = k1) (hk2 : E2 - e = k2) (r1 : -2000 ≤ E1 ∧ E1 ≤ 2000) (r2 : -2000 ≤ E2 ∧ E2 ≤ 2000)
    (HO : Hid (∀ w, Calls Try.prog 46 #[.agg #[.int .i64 (m : Int), .int .i64 x], .int .u64 a, .int .u64 b] w fun r w' => r = .returned (.tuple #[partsV 1 n1 E1 M1, partsV 2 n2 E2 M2, .int .i64 0]) ∧ Below w.heap.size w w'))
    : Calls Try.prog 16 #[.agg #[.int .i64 m, .int .i64 x], .int .u64 a, .int .u64 b] w fun r w' => CmpRet w (sgnI n1 * (M1 * p2 k1) + sgnI (!n2) * (M2 * p2 k2)) r w' := by
  have hs : ∀ n : Bool, sgnI n = 1 ∨ sgnI n = -1 := fun n => by cases n; exact .inl rfl; exact .inr rfl
  have HP := hidden (fun (W : World) x1 l1 c1 d1 x2 l2 c2 d2 (h1 : HasNat W x1 l1 c1 d1 M1) (h2 : HasNat W x2 l2 c2 d2 M2) (hl1 : l1 ≤ 4) (hl2 : l2 ≤ 4) => plus_walk (sgnI n1) (sgnI (!n2)) E1 E2 M1 M2 e x1 x2 l1 c1 l2 c2 k1 k2 d1 d2 W h1 h2 (by omega) (by omega) he hk1 hk2 (by omega) (by omega) (by omega) (by omega) (hs n1) (hs (!n2)))
  have HL : k1 / 16 + 4 + k2 / 16 + 4 + 3 ≤ 300 := by omega
  have HS1 : Hid (∀ w, Calls Try.prog 54 #[partsV 1 n1 E1 M1] w fun r w' => r = .returned (.int .i64 0) ∧ Below w.heap.size w w') := hidden fun w => side_any 1 E1 M1 n1 w
  have HS2 : Hid (∀ w, Calls Try.prog 54 #[partsV 2 n2 E2 M2] w fun r w' => r = .returned (.int .i64 0) ∧ Below w.heap.size w w') := hidden fun w => side_any 2 E2 M2 n2 w
  have hng : IntKind.i64.wrap (-sgnI n2) = sgnI (!n2) := by cases n2 <;> rfl
  have HX1 := hidden (fun w => exact_any 1 E1 M1 n1 w a0 a1)
  have HX2 := hidden (fun w => exact_any 2 E2 M2 n2 w b0 b1)
  generalize sgnI (!n2) = sN at *
  generalize sgnI n1 * (M1 * p2 k1) + sN * (M2 * p2 k2) = SS at *
  clear he hk1 hk2 r1 r2 hs
  go_enter Try.func16, Try.ntmps16
  go_wp2_with fail
  refine (HO.out _).mono ?_
  rintro r w1 ⟨rfl, hb1⟩
  obtain ⟨w5, hw5, hx, c0, c1, p0, p1, p2', p3, q0, q1, q2', q3⟩ := ropen_boxes m x 1 E1 M1 2 E2 M2 n1 n2 w w1 hb1
  have HB := hidden hx
  clear hx hb1
  go_upto_region 2 with fail
  change Code.wp _ _ _ _ ((w1.alloc (.cells #[.int .i64 1, .bool n1, .int .i64 E1, .int .u64 M1] 38)).alloc (.cells #[.int .i64 2, .bool n2, .int .i64 E2, .int .u64 M2] 38))
  rw [← hw5]
  clear hw5
  go_upto_region 6 with fail
  go_region_held3 (fun w' => w'.cell? ⟨w.heap.size, 0, none⟩ = some (.int .i64 m) ∧ w'.cell? ⟨w.heap.size, 1, none⟩ = some (.int .i64 x) ∧ w'.cell? ⟨w1.heap.size, 0, none⟩ = some (.int .i64 1) ∧ w'.cell? ⟨w1.heap.size, 1, none⟩ = some (.bool n1) ∧ w'.cell? ⟨w1.heap.size, 2, none⟩ = some (.int .i64 E1) ∧ w'.cell? ⟨w1.heap.size, 3, none⟩ = some (.int .u64 M1) ∧ w'.cell? ⟨w1.heap.size + 1, 0, none⟩ = some (.int .i64 2) ∧ w'.cell? ⟨w1.heap.size + 1, 1, none⟩ = some (.bool n2) ∧ w'.cell? ⟨w1.heap.size + 1, 2, none⟩ = some (.int .i64 E2) ∧ w'.cell? ⟨w1.heap.size + 1, 3, none⟩ = some (.int .u64 M2)) (first | (refine ⟨?_, ?_, ?_, ?_, ?_, ?_, ?_, ?_, ?_, ?_⟩ <;> with_reducible assumption) | go_keep) (first | (go_at_call_of 54 (Value.int IntKind.u64 M1); have hc := HS1.out w5.drew; (with_reducible refine hc.mono ?_); clear hc; rintro r w6 ⟨rfl, hb6⟩; have cc := rten_later hb6 (rten_later ((Below.refl _ _).drew) ⟨c0, c1, p0, p1, p2', p3, q0, q1, q2', q3⟩); have HB6 := hidden (HB.out.drew.trans (hb6.mono HB.out.drew.size)); clear hb6 c0 c1 p0 p1 p2' p3 q0 q1 q2' q3; obtain ⟨c0, c1, p0, p1, p2', p3, q0, q1, q2', q3⟩ := cc) | (go_at_call_of 54 (Value.int IntKind.u64 M2); have hc := HS2.out w6; (with_reducible refine hc.mono ?_); clear hc; rintro r w7 ⟨rfl, hb7⟩; have cc := rten_later hb7 ⟨c0, c1, p0, p1, p2', p3, q0, q1, q2', q3⟩; have HB7 := hidden (HB6.out.trans (hb7.mono HB6.out.size)); clear hb7 c0 c1 p0 p1 p2' p3 q0 q1 q2' q3; obtain ⟨c0, c1, p0, p1, p2', p3, q0, q1, q2', q3⟩ := cc))
  all_goals
    go_wp2_with fail
    refine (HX2.out _).mono ?_
    rintro r w8 ⟨a8, l8, c8, d8, rfl, h8, hl8, hb8, -⟩
    have cc := rten_later hb8 ⟨c0, c1, p0, p1, p2', p3, q0, q1, q2', q3⟩
    have HB8 := hidden (HB7.out.trans (hb8.mono HB7.out.size))
    have H8 := hidden h8
    clear hb8 h8 c0 c1 p0 p1 p2' p3 q0 q1 q2' q3
    obtain ⟨c0, c1, p0, p1, p2', p3, q0, q1, q2', q3⟩ := cc
    generalize sgnI n2 = s2 at *
    go_upto_region 11 with fail
    have hM : Below w8.heap.size w8 (w8.alloc (.cells #[.int .i64 sN, .slice a8 l8 c8, .int .i64 E2] 84)) := (Below.refl _ _).alloc (Nat.le_refl _) _
    obtain ⟨g0, g1, g2, -⟩ := rs_fresh w8 sN E2 a8 l8 c8
    have p0 := cellLater hM p0
    have p1 := cellLater hM p1
    have p2' := cellLater hM p2'
    have p3 := cellLater hM p3
    have H8M := hidden (H8.out.later hM)
    have HBM := hidden (HB8.out.trans (hM.mono HB8.out.size))
    clear hM c0 c1 q0 q1 q2' q3
    change Code.wp _ _ _ _ (w8.alloc (.cells #[.int .i64 sN, .slice a8 l8 c8, .int .i64 E2] 84))
    generalize w8.alloc (.cells #[.int .i64 sN, .slice a8 l8 c8, .int .i64 E2] 84) = wm at *
    go_region_held3 (fun w' => w'.cell? ⟨w1.heap.size, 0, none⟩ = some (.int .i64 1) ∧ w'.cell? ⟨w1.heap.size, 1, none⟩ = some (.bool n1) ∧ w'.cell? ⟨w1.heap.size, 2, none⟩ = some (.int .i64 E1) ∧ w'.cell? ⟨w1.heap.size, 3, none⟩ = some (.int .u64 M1) ∧ w'.cell? ⟨w8.heap.size, 0, none⟩ = some (.int .i64 sN) ∧ w'.cell? ⟨w8.heap.size, 1, none⟩ = some (.slice a8 l8 c8) ∧ w'.cell? ⟨w8.heap.size, 2, none⟩ = some (.int .i64 E2)) (first | (refine ⟨?_, ?_, ?_, ?_, ?_, ?_, ?_⟩ <;> with_reducible assumption) | go_keep) (first | (go_at_call 50; have hlq : w8.heap.size < wm.heap.size := World.block_lt_of_cell? _ _ g0; have hlf : w1.heap.size < wm.heap.size := World.block_lt_of_cell? _ _ p0; have nq1 : ¬ wm.heap.size = w8.heap.size := (by omega); have nq2 : ¬ wm.heap.size = w1.heap.size := (by omega); clear hlq hlf; have hA : Below wm.heap.size wm (wm.alloc (.cells #[.int .i64 0, .slice none 0 0, .int .i64 0] 84)).drew := ((Below.refl _ _).alloc (Nat.le_refl _) _).drew; have hc := HX1.out (wm.alloc (.cells #[.int .i64 0, .slice none 0 0, .int .i64 0] 84)).drew; (with_reducible refine hc.mono ?_); clear hc; rintro r w9 ⟨a9, l9, c9, d9, rfl, h9, hl9, hb9, -⟩; have cc := sev_later hb9 (sev_later hA ⟨p0, p1, p2', p3, g0, g1, g2⟩); have zf := rs_of ((Below.refl _ _).drew) (rs_fresh wm 0 0 none 0 0); have ZZ : Hid (RsAt w9 wm.heap.size 0 (.slice none 0 0) 0) := hidden (rs_of hb9 zf); have HBA := HBM.out.trans (hA.mono HBM.out.size); have HB9 := hidden (HBA.trans (hb9.mono HBA.size)); have H9 := hidden h9; have H8' := hidden ((H8M.out.later hA).later hb9); clear hb9 h9 hA zf HBA; clear p0 p1 p2' p3 g0 g1 g2; obtain ⟨p0, p1, p2', p3, g0, g1, g2⟩ := cc) | (go_at_call 50; have hc := HX1.out wm.drew; (with_reducible refine hc.mono ?_); clear hc; rintro r w9 ⟨a9, l9, c9, d9, rfl, h9, hl9, hb9, -⟩; have cc := sev_later hb9 (sev_later ((Below.refl _ _).drew) ⟨p0, p1, p2', p3, g0, g1, g2⟩); have HB9 := hidden (HBM.out.drew.trans (hb9.mono HBM.out.drew.size)); have H9 := hidden h9; have H8' := hidden ((H8M.out.later ((Below.refl _ _).drew)).later hb9); clear hb9 h9; clear p0 p1 p2' p3 g0 g1 g2; obtain ⟨p0, p1, p2', p3, g0, g1, g2⟩ := cc) | (go_at_call 49; have hlq : w8.heap.size < w9.heap.size := World.block_lt_of_cell? _ _ g0; have hlf : w1.heap.size < w9.heap.size := World.block_lt_of_cell? _ _ p0; have nq1 : ¬ w9.heap.size = w8.heap.size := (by omega); have nq2 : ¬ w9.heap.size = w1.heap.size := (by omega); clear hlq hlf; have hA := ((Below.refl _ _).alloc (Nat.le_refl _) _ : Below w9.heap.size w9 (w9.alloc (.cells #[.int .i64 0, .slice none 0 0, .int .i64 0] 84))); have hc := HP.out (w9.alloc (.cells #[.int .i64 0, .slice none 0 0, .int .i64 0] 84)) _ _ _ _ _ _ _ _ (H9.out.later hA) (H8'.out.later hA) hl9 hl8; (with_reducible refine hc.mono ?_); clear hc; rintro r w10 ⟨s, an, ln, cn, dn, N, rfl, h10, hs10, hN10, hl10, hb10, nw10⟩; have cc := sev_later hb10 (sev_later hA ⟨p0, p1, p2', p3, g0, g1, g2⟩); have ZZ := hidden (rs_of hb10 (rs_fresh w9 0 0 none 0 0)); have HBA := HB9.out.trans (hA.mono HB9.out.size); have HB10 := hidden (HBA.trans (hb10.mono HBA.size)); have H10 := hidden h10; have HS10 := hidden hs10; have HN10 := hidden hN10; have NW8 : Hid (∀ p, an = some p → w9.heap.size < p.block) := hidden (fun p hp => by have h := nw10 p hp; simp at h; omega); clear hb10 h10 hs10 hN10 nw10 hA HBA; clear p0 p1 p2' p3 g0 g1 g2; obtain ⟨p0, p1, p2', p3, g0, g1, g2⟩ := cc; have zz := ZZ.out; obtain ⟨z0, z1, z2, z3, z4, z5⟩ := zz) | (go_at_call 49; have zy := ZZ.out; have hc := HP.out w9 _ _ _ _ _ _ _ _ H9.out H8'.out hl9 hl8; (with_reducible refine hc.mono ?_); clear hc; rintro r w10 ⟨s, an, ln, cn, dn, N, rfl, h10, hs10, hN10, hl10, hb10, nw10⟩; have cc := sev_later hb10 ⟨p0, p1, p2', p3, g0, g1, g2⟩; have NWZ := hidden nw10; have ZY := hidden zy; have ZZ := hidden (rs_of hb10 zy); clear zy; have HB10 := hidden (HB9.out.trans (hb10.mono HB9.out.size)); have H10 := hidden h10; have HS10 := hidden hs10; have HN10 := hidden hN10; clear hb10 h10 hs10 hN10 nw10; clear p0 p1 p2' p3 g0 g1 g2; obtain ⟨p0, p1, p2', p3, g0, g1, g2⟩ := cc; have zz := ZZ.out; obtain ⟨z0, z1, z2, z3, z4, z5⟩ := zz) | (go_at_call 49; have hc := HP.out w9 _ _ _ _ _ _ _ _ H9.out H8'.out hl9 hl8; (with_reducible refine hc.mono ?_); clear hc; rintro r w10 ⟨s, an, ln, cn, dn, N, rfl, h10, hs10, hN10, hl10, hb10, nw10⟩; have cc := sev_later hb10 ⟨p0, p1, p2', p3, g0, g1, g2⟩; have HB10 := hidden (HB9.out.trans (hb10.mono HB9.out.size)); have H10 := hidden h10; have HS10 := hidden hs10; have HN10 := hidden hN10; clear hb10 h10 hs10 hN10 nw10; clear p0 p1 p2' p3 g0 g1 g2; obtain ⟨p0, p1, p2', p3, g0, g1, g2⟩ := cc))
    all_goals first
      | (
        have zq : RsAt w10 w9.heap.size 0 (.slice none 0 0) 0 := by with_reducible exact ZZ.out
        have hX := set3_below HB10.out w9.heap.size (by first | exact HBM.out.size | exact HB9.out.size) (.int .i64 s) (.slice an ln cn) (.int .i64 e)
        have hR := rs_put zq s e (.slice an ln cn)
        have hH := has_of3 (rd_set3 H10.out.rd w9.heap.size (.int .i64 s) (.slice an ln cn) (.int .i64 e) fun p hp => by have h := NW8.out p hp; omega) H10.out.ok H10.out.val H10.out.top
        clear p0 p1 p2' p3 g0 g1 g2 z0 z1 z2 z3 z4 z5 zq
        have HX := hidden hX
        have HR := hidden hR
        have HH := hidden hH
        clear hX hR hH
        go_upto_region 12 with fail
        change Code.wp _ _ _ _ (set3 w10 w9.heap.size (.int .i64 s) (.slice an ln cn) (.int .i64 e))
        generalize (set3 w10 w9.heap.size (.int .i64 s) (.slice an ln cn) (.int .i64 e)) = wz at *
        obtain ⟨z0, z1, z2, -⟩ := HR.out
        have hNn := HH.out.nonneg
        have e10 := HN10.out
        have HE := hidden e10
        clear e10
        by_cases hN0 : N = 0
        · subst hN0
          go_wp2_with (go_at_call 51; refine (bits_bl HH.out (by omega)).mono ?_; rintro r w12 ⟨rfl, hw12⟩; obtain rfl := hw12.symm; rw [bl_zero])
          go_ret3
          exact ⟨0, rfl, .inl ⟨by have := HE.out; omega, rfl⟩, HX.out⟩
        · have hbl : ((bl N : Int) == 0) = false := by
            have := (bl_bd N (by omega)).1
            simp; omega
          go_wp2_with (go_at_call 51; refine (bits_bl HH.out (by omega)).mono ?_; rintro r w12 ⟨rfl, hw12⟩; obtain rfl := hw12.symm)
          go_ret3
          refine ⟨s, rfl, ?_, HX.out⟩
          have e := HE.out
          rcases HS10.out with rfl | rfl <;> omega)
      | (
        have zq : RsAt w10 wm.heap.size 0 (.slice none 0 0) 0 := by with_reducible exact ZZ.out
        have hX := set3_below HB10.out wm.heap.size (by first | exact HBM.out.size | exact HB9.out.size) (.int .i64 s) (.slice an ln cn) (.int .i64 e)
        have hR := rs_put zq s e (.slice an ln cn)
        have hH := has_of3 (rd_set3 H10.out.rd wm.heap.size (.int .i64 s) (.slice an ln cn) (.int .i64 e) fun p hp => by have h := NWZ.out p hp; have h2 : wm.heap.size < w9.heap.size := World.block_lt_of_cell? _ _ ZY.out.1; omega) H10.out.ok H10.out.val H10.out.top
        clear p0 p1 p2' p3 g0 g1 g2 z0 z1 z2 z3 z4 z5 zq
        have HX := hidden hX
        have HR := hidden hR
        have HH := hidden hH
        clear hX hR hH
        go_upto_region 12 with fail
        change Code.wp _ _ _ _ (set3 w10 wm.heap.size (.int .i64 s) (.slice an ln cn) (.int .i64 e))
        generalize (set3 w10 wm.heap.size (.int .i64 s) (.slice an ln cn) (.int .i64 e)) = wz at *
        obtain ⟨z0, z1, z2, -⟩ := HR.out
        have hNn := HH.out.nonneg
        have e10 := HN10.out
        have HE := hidden e10
        clear e10
        by_cases hN0 : N = 0
        · subst hN0
          go_wp2_with (go_at_call 51; refine (bits_bl HH.out (by omega)).mono ?_; rintro r w12 ⟨rfl, hw12⟩; obtain rfl := hw12.symm; rw [bl_zero])
          go_ret3
          exact ⟨0, rfl, .inl ⟨by have := HE.out; omega, rfl⟩, HX.out⟩
        · have hbl : ((bl N : Int) == 0) = false := by
            have := (bl_bd N (by omega)).1
            simp; omega
          go_wp2_with (go_at_call 51; refine (bits_bl HH.out (by omega)).mono ?_; rintro r w12 ⟨rfl, hw12⟩; obtain rfl := hw12.symm)
          go_ret3
          refine ⟨s, rfl, ?_, HX.out⟩
          have e := HE.out
          rcases HS10.out with rfl | rfl <;> omega)
      | (
        have hA : Below w10.heap.size w10 (w10.alloc (.cells #[.int .i64 s, .slice an ln cn, .int .i64 e] 84)) := (Below.refl _ _).alloc (Nat.le_refl _) _
        have HR := hidden (rs_fresh w10 s e an ln cn)
        have HH := hidden (H10.out.later hA)
        have HX := hidden (HB10.out.trans (hA.mono HB10.out.size))
        clear p0 p1 p2' p3 g0 g1 g2 hA
        go_upto_region 12 with fail
        change Code.wp _ _ _ _ (w10.alloc (.cells #[.int .i64 s, .slice an ln cn, .int .i64 e] 84))
        generalize w10.alloc (.cells #[.int .i64 s, .slice an ln cn, .int .i64 e] 84) = wz at *
        obtain ⟨z0, z1, z2, -⟩ := HR.out
        have hNn := HH.out.nonneg
        have e10 := HN10.out
        have HE := hidden e10
        clear e10
        by_cases hN0 : N = 0
        · subst hN0
          go_wp2_with (go_at_call 51; refine (bits_bl HH.out (by omega)).mono ?_; rintro r w12 ⟨rfl, hw12⟩; obtain rfl := hw12.symm; rw [bl_zero])
          go_ret3
          exact ⟨0, rfl, .inl ⟨by have := HE.out; omega, rfl⟩, HX.out⟩
        · have hbl : ((bl N : Int) == 0) = false := by
            have := (bl_bd N (by omega)).1
            simp; omega
          go_wp2_with (go_at_call 51; refine (bits_bl HH.out (by omega)).mono ?_; rintro r w12 ⟨rfl, hw12⟩; obtain rfl := hw12.symm)
          go_ret3
          refine ⟨s, rfl, ?_, HX.out⟩
          have e := HE.out
          rcases HS10.out with rfl | rfl <;> omega)
theorem rcmp_fin_21 (m x : Nat) (a b E1 M1 E2 M2 e : Int) (n1 n2 : Bool) (k1 k2 : Nat) (w : World) (a0 : 0 ≤ M1) (a1 : M1 ≤ 18446744073709551615) (b0 : 0 ≤ M2) (b1 : M2 ≤ 18446744073709551615)
    (he : min E1 E2 = e) (hk1 : E1 - e = k1) (hk2 : E2 - e = k2) (r1 : -2000 ≤ E1 ∧ E1 ≤ 2000) (r2 : -2000 ≤ E2 ∧ E2 ≤ 2000)
    (HO : Hid (∀ w, Calls Try.prog 46 #[.agg #[.int .i64 (m : Int), .int .i64 x], .int .u64 a, .int .u64 b] w fun r w' => r = .returned (.tuple #[partsV 2 n1 E1 M1, partsV 1 n2 E2 M2, .int .i64 0]) ∧ Below w.heap.size w w'))
    : Calls Try.prog 16 #[.agg #[.int .i64 m, .int .i64 x], .int .u64 a, .int .u64 b] w fun r w' => CmpRet w (sgnI n1 * (M1 * p2 k1) + sgnI (!n2) * (M2 * p2 k2)) r w' := by
  have hs : ∀ n : Bool, sgnI n = 1 ∨ sgnI n = -1 := fun n => by cases n; exact .inl rfl; exact .inr rfl
  have HP := hidden (fun (W : World) x1 l1 c1 d1 x2 l2 c2 d2 (h1 : HasNat W x1 l1 c1 d1 M1) (h2 : HasNat W x2 l2 c2 d2 M2) (hl1 : l1 ≤ 4) (hl2 : l2 ≤ 4) => plus_walk (sgnI n1) (sgnI (!n2)) E1 E2 M1 M2 e x1 x2 l1 c1 l2 c2 k1 k2 d1 d2 W h1 h2 (by omega) (by omega) he hk1 hk2 (by omega) (by omega) (by omega) (by omega) (hs n1) (hs (!n2)))
  have HL : k1 / 16 + 4 + k2 / 16 + 4 + 3 ≤ 300 := by omega
  have HS1 : Hid (∀ w, Calls Try.prog 54 #[partsV 2 n1 E1 M1] w fun r w' => r = .returned (.int .i64 0) ∧ Below w.heap.size w w') := hidden fun w => side_any 2 E1 M1 n1 w
  have HS2 : Hid (∀ w, Calls Try.prog 54 #[partsV 1 n2 E2 M2] w fun r w' => r = .returned (.int .i64 0) ∧ Below w.heap.size w w') := hidden fun w => side_any 1 E2 M2 n2 w
  have hng : IntKind.i64.wrap (-sgnI n2) = sgnI (!n2) := by cases n2 <;> rfl
  have HX1 := hidden (fun w => exact_any 2 E1 M1 n1 w a0 a1)
  have HX2 := hidden (fun w => exact_any 1 E2 M2 n2 w b0 b1)
  generalize sgnI (!n2) = sN at *
  generalize sgnI n1 * (M1 * p2 k1) + sN * (M2 * p2 k2) = SS at *
  clear he hk1 hk2 r1 r2 hs
  go_enter Try.func16, Try.ntmps16
  go_wp2_with fail
  refine (HO.out _).mono ?_
  rintro r w1 ⟨rfl, hb1⟩
  obtain ⟨w5, hw5, hx, c0, c1, p0, p1, p2', p3, q0, q1, q2', q3⟩ := ropen_boxes m x 2 E1 M1 1 E2 M2 n1 n2 w w1 hb1
  have HB := hidden hx
  clear hx hb1
  go_upto_region 2 with fail
  change Code.wp _ _ _ _ ((w1.alloc (.cells #[.int .i64 2, .bool n1, .int .i64 E1, .int .u64 M1] 38)).alloc (.cells #[.int .i64 1, .bool n2, .int .i64 E2, .int .u64 M2] 38))
  rw [← hw5]
  clear hw5
  go_upto_region 6 with fail
  go_region_held3 (fun w' => w'.cell? ⟨w.heap.size, 0, none⟩ = some (.int .i64 m) ∧ w'.cell? ⟨w.heap.size, 1, none⟩ = some (.int .i64 x) ∧ w'.cell? ⟨w1.heap.size, 0, none⟩ = some (.int .i64 2) ∧ w'.cell? ⟨w1.heap.size, 1, none⟩ = some (.bool n1) ∧ w'.cell? ⟨w1.heap.size, 2, none⟩ = some (.int .i64 E1) ∧ w'.cell? ⟨w1.heap.size, 3, none⟩ = some (.int .u64 M1) ∧ w'.cell? ⟨w1.heap.size + 1, 0, none⟩ = some (.int .i64 1) ∧ w'.cell? ⟨w1.heap.size + 1, 1, none⟩ = some (.bool n2) ∧ w'.cell? ⟨w1.heap.size + 1, 2, none⟩ = some (.int .i64 E2) ∧ w'.cell? ⟨w1.heap.size + 1, 3, none⟩ = some (.int .u64 M2)) (first | (refine ⟨?_, ?_, ?_, ?_, ?_, ?_, ?_, ?_, ?_, ?_⟩ <;> with_reducible assumption) | go_keep) (first | (go_at_call_of 54 (Value.int IntKind.u64 M1); have hc := HS1.out w5.drew; (with_reducible refine hc.mono ?_); clear hc; rintro r w6 ⟨rfl, hb6⟩; have cc := rten_later hb6 (rten_later ((Below.refl _ _).drew) ⟨c0, c1, p0, p1, p2', p3, q0, q1, q2', q3⟩); have HB6 := hidden (HB.out.drew.trans (hb6.mono HB.out.drew.size)); clear hb6 c0 c1 p0 p1 p2' p3 q0 q1 q2' q3; obtain ⟨c0, c1, p0, p1, p2', p3, q0, q1, q2', q3⟩ := cc) | (go_at_call_of 54 (Value.int IntKind.u64 M2); have hc := HS2.out w6; (with_reducible refine hc.mono ?_); clear hc; rintro r w7 ⟨rfl, hb7⟩; have cc := rten_later hb7 ⟨c0, c1, p0, p1, p2', p3, q0, q1, q2', q3⟩; have HB7 := hidden (HB6.out.trans (hb7.mono HB6.out.size)); clear hb7 c0 c1 p0 p1 p2' p3 q0 q1 q2' q3; obtain ⟨c0, c1, p0, p1, p2', p3, q0, q1, q2', q3⟩ := cc))
  all_goals
    go_wp2_with fail
    refine (HX2.out _).mono ?_
    rintro r w8 ⟨a8, l8, c8, d8, rfl, h8, hl8, hb8, -⟩
    have cc := rten_later hb8 ⟨c0, c1, p0, p1, p2', p3, q0, q1, q2', q3⟩
    have HB8 := hidden (HB7.out.trans (hb8.mono HB7.out.size))
    have H8 := hidden h8
    clear hb8 h8 c0 c1 p0 p1 p2' p3 q0 q1 q2' q3
    obtain ⟨c0, c1, p0, p1, p2', p3, q0, q1, q2', q3⟩ := cc
    generalize sgnI n2 = s2 at *
    go_upto_region 11 with fail
    have hM : Below w8.heap.size w8 (w8.alloc (.cells #[.int .i64 sN, .slice a8 l8 c8, .int .i64 E2] 84)) := (Below.refl _ _).alloc (Nat.le_refl _) _
    obtain ⟨g0, g1, g2, -⟩ := rs_fresh w8 sN E2 a8 l8 c8
    have p0 := cellLater hM p0
    have p1 := cellLater hM p1
    have p2' := cellLater hM p2'
    have p3 := cellLater hM p3
    have H8M := hidden (H8.out.later hM)
    have HBM := hidden (HB8.out.trans (hM.mono HB8.out.size))
    clear hM c0 c1 q0 q1 q2' q3
    change Code.wp _ _ _ _ (w8.alloc (.cells #[.int .i64 sN, .slice a8 l8 c8, .int .i64 E2] 84))
    generalize w8.alloc (.cells #[.int .i64 sN, .slice a8 l8 c8, .int .i64 E2] 84) = wm at *
    go_region_held3 (fun w' => w'.cell? ⟨w1.heap.size, 0, none⟩ = some (.int .i64 2) ∧ w'.cell? ⟨w1.heap.size, 1, none⟩ = some (.bool n1) ∧ w'.cell? ⟨w1.heap.size, 2, none⟩ = some (.int .i64 E1) ∧ w'.cell? ⟨w1.heap.size, 3, none⟩ = some (.int .u64 M1) ∧ w'.cell? ⟨w8.heap.size, 0, none⟩ = some (.int .i64 sN) ∧ w'.cell? ⟨w8.heap.size, 1, none⟩ = some (.slice a8 l8 c8) ∧ w'.cell? ⟨w8.heap.size, 2, none⟩ = some (.int .i64 E2)) (first | (refine ⟨?_, ?_, ?_, ?_, ?_, ?_, ?_⟩ <;> with_reducible assumption) | go_keep) (first | (go_at_call 50; have hlq : w8.heap.size < wm.heap.size := World.block_lt_of_cell? _ _ g0; have hlf : w1.heap.size < wm.heap.size := World.block_lt_of_cell? _ _ p0; have nq1 : ¬ wm.heap.size = w8.heap.size := (by omega); have nq2 : ¬ wm.heap.size = w1.heap.size := (by omega); clear hlq hlf; have hA : Below wm.heap.size wm (wm.alloc (.cells #[.int .i64 0, .slice none 0 0, .int .i64 0] 84)).drew := ((Below.refl _ _).alloc (Nat.le_refl _) _).drew; have hc := HX1.out (wm.alloc (.cells #[.int .i64 0, .slice none 0 0, .int .i64 0] 84)).drew; (with_reducible refine hc.mono ?_); clear hc; rintro r w9 ⟨a9, l9, c9, d9, rfl, h9, hl9, hb9, -⟩; have cc := sev_later hb9 (sev_later hA ⟨p0, p1, p2', p3, g0, g1, g2⟩); have zf := rs_of ((Below.refl _ _).drew) (rs_fresh wm 0 0 none 0 0); have ZZ : Hid (RsAt w9 wm.heap.size 0 (.slice none 0 0) 0) := hidden (rs_of hb9 zf); have HBA := HBM.out.trans (hA.mono HBM.out.size); have HB9 := hidden (HBA.trans (hb9.mono HBA.size)); have H9 := hidden h9; have H8' := hidden ((H8M.out.later hA).later hb9); clear hb9 h9 hA zf HBA; clear p0 p1 p2' p3 g0 g1 g2; obtain ⟨p0, p1, p2', p3, g0, g1, g2⟩ := cc) | (go_at_call 50; have hc := HX1.out wm.drew; (with_reducible refine hc.mono ?_); clear hc; rintro r w9 ⟨a9, l9, c9, d9, rfl, h9, hl9, hb9, -⟩; have cc := sev_later hb9 (sev_later ((Below.refl _ _).drew) ⟨p0, p1, p2', p3, g0, g1, g2⟩); have HB9 := hidden (HBM.out.drew.trans (hb9.mono HBM.out.drew.size)); have H9 := hidden h9; have H8' := hidden ((H8M.out.later ((Below.refl _ _).drew)).later hb9); clear hb9 h9; clear p0 p1 p2' p3 g0 g1 g2; obtain ⟨p0, p1, p2', p3, g0, g1, g2⟩ := cc) | (go_at_call 49; have hlq : w8.heap.size < w9.heap.size := World.block_lt_of_cell? _ _ g0; have hlf : w1.heap.size < w9.heap.size := World.block_lt_of_cell? _ _ p0; have nq1 : ¬ w9.heap.size = w8.heap.size := (by omega); have nq2 : ¬ w9.heap.size = w1.heap.size := (by omega); clear hlq hlf; have hA := ((Below.refl _ _).alloc (Nat.le_refl _) _ : Below w9.heap.size w9 (w9.alloc (.cells #[.int .i64 0, .slice none 0 0, .int .i64 0] 84))); have hc := HP.out (w9.alloc (.cells #[.int .i64 0, .slice none 0 0, .int .i64 0] 84)) _ _ _ _ _ _ _ _ (H9.out.later hA) (H8'.out.later hA) hl9 hl8; (with_reducible refine hc.mono ?_); clear hc; rintro r w10 ⟨s, an, ln, cn, dn, N, rfl, h10, hs10, hN10, hl10, hb10, nw10⟩; have cc := sev_later hb10 (sev_later hA ⟨p0, p1, p2', p3, g0, g1, g2⟩); have ZZ := hidden (rs_of hb10 (rs_fresh w9 0 0 none 0 0)); have HBA := HB9.out.trans (hA.mono HB9.out.size); have HB10 := hidden (HBA.trans (hb10.mono HBA.size)); have H10 := hidden h10; have HS10 := hidden hs10; have HN10 := hidden hN10; have NW8 : Hid (∀ p, an = some p → w9.heap.size < p.block) := hidden (fun p hp => by have h := nw10 p hp; simp at h; omega); clear hb10 h10 hs10 hN10 nw10 hA HBA; clear p0 p1 p2' p3 g0 g1 g2; obtain ⟨p0, p1, p2', p3, g0, g1, g2⟩ := cc; have zz := ZZ.out; obtain ⟨z0, z1, z2, z3, z4, z5⟩ := zz) | (go_at_call 49; have zy := ZZ.out; have hc := HP.out w9 _ _ _ _ _ _ _ _ H9.out H8'.out hl9 hl8; (with_reducible refine hc.mono ?_); clear hc; rintro r w10 ⟨s, an, ln, cn, dn, N, rfl, h10, hs10, hN10, hl10, hb10, nw10⟩; have cc := sev_later hb10 ⟨p0, p1, p2', p3, g0, g1, g2⟩; have NWZ := hidden nw10; have ZY := hidden zy; have ZZ := hidden (rs_of hb10 zy); clear zy; have HB10 := hidden (HB9.out.trans (hb10.mono HB9.out.size)); have H10 := hidden h10; have HS10 := hidden hs10; have HN10 := hidden hN10; clear hb10 h10 hs10 hN10 nw10; clear p0 p1 p2' p3 g0 g1 g2; obtain ⟨p0, p1, p2', p3, g0, g1, g2⟩ := cc; have zz := ZZ.out; obtain ⟨z0, z1, z2, z3, z4, z5⟩ := zz) | (go_at_call 49; have hc := HP.out w9 _ _ _ _ _ _ _ _ H9.out H8'.out hl9 hl8; (with_reducible refine hc.mono ?_); clear hc; rintro r w10 ⟨s, an, ln, cn, dn, N, rfl, h10, hs10, hN10, hl10, hb10, nw10⟩; have cc := sev_later hb10 ⟨p0, p1, p2', p3, g0, g1, g2⟩; have HB10 := hidden (HB9.out.trans (hb10.mono HB9.out.size)); have H10 := hidden h10; have HS10 := hidden hs10; have HN10 := hidden hN10; clear hb10 h10 hs10 hN10 nw10; clear p0 p1 p2' p3 g0 g1 g2; obtain ⟨p0, p1, p2', p3, g0, g1, g2⟩ := cc))
    all_goals first
      | (
        have zq : RsAt w10 w9.heap.size 0 (.slice none 0 0) 0 := by with_reducible exact ZZ.out
        have hX := set3_below HB10.out w9.heap.size (by first | exact HBM.out.size | exact HB9.out.size) (.int .i64 s) (.slice an ln cn) (.int .i64 e)
        have hR := rs_put zq s e (.slice an ln cn)
        have hH := has_of3 (rd_set3 H10.out.rd w9.heap.size (.int .i64 s) (.slice an ln cn) (.int .i64 e) fun p hp => by have h := NW8.out p hp; omega) H10.out.ok H10.out.val H10.out.top
        clear p0 p1 p2' p3 g0 g1 g2 z0 z1 z2 z3 z4 z5 zq
        have HX := hidden hX
        have HR := hidden hR
        have HH := hidden hH
        clear hX hR hH
        go_upto_region 12 with fail
        change Code.wp _ _ _ _ (set3 w10 w9.heap.size (.int .i64 s) (.slice an ln cn) (.int .i64 e))
        generalize (set3 w10 w9.heap.size (.int .i64 s) (.slice an ln cn) (.int .i64 e)) = wz at *
        obtain ⟨z0, z1, z2, -⟩ := HR.out
        have hNn := HH.out.nonneg
        have e10 := HN10.out
        have HE := hidden e10
        clear e10
        by_cases hN0 : N = 0
        · subst hN0
          go_wp2_with (go_at_call 51; refine (bits_bl HH.out (by omega)).mono ?_; rintro r w12 ⟨rfl, hw12⟩; obtain rfl := hw12.symm; rw [bl_zero])
          go_ret3
          exact ⟨0, rfl, .inl ⟨by have := HE.out; omega, rfl⟩, HX.out⟩
        · have hbl : ((bl N : Int) == 0) = false := by
            have := (bl_bd N (by omega)).1
            simp; omega
          go_wp2_with (go_at_call 51; refine (bits_bl HH.out (by omega)).mono ?_; rintro r w12 ⟨rfl, hw12⟩; obtain rfl := hw12.symm)
          go_ret3
          refine ⟨s, rfl, ?_, HX.out⟩
          have e := HE.out
          rcases HS10.out with rfl | rfl <;> omega)
      | (
        have zq : RsAt w10 wm.heap.size 0 (.slice none 0 0) 0 := by with_reducible exact ZZ.out
        have hX := set3_below HB10.out wm.heap.size (by first | exact HBM.out.size | exact HB9.out.size) (.int .i64 s) (.slice an ln cn) (.int .i64 e)
        have hR := rs_put zq s e (.slice an ln cn)
        have hH := has_of3 (rd_set3 H10.out.rd wm.heap.size (.int .i64 s) (.slice an ln cn) (.int .i64 e) fun p hp => by have h := NWZ.out p hp; have h2 : wm.heap.size < w9.heap.size := World.block_lt_of_cell? _ _ ZY.out.1; omega) H10.out.ok H10.out.val H10.out.top
        clear p0 p1 p2' p3 g0 g1 g2 z0 z1 z2 z3 z4 z5 zq
        have HX := hidden hX
        have HR := hidden hR
        have HH := hidden hH
        clear hX hR hH
        go_upto_region 12 with fail
        change Code.wp _ _ _ _ (set3 w10 wm.heap.size (.int .i64 s) (.slice an ln cn) (.int .i64 e))
        generalize (set3 w10 wm.heap.size (.int .i64 s) (.slice an ln cn) (.int .i64 e)) = wz at *
        obtain ⟨z0, z1, z2, -⟩ := HR.out
        have hNn := HH.out.nonneg
        have e10 := HN10.out
        have HE := hidden e10
        clear e10
        by_cases hN0 : N = 0
        · subst hN0
          go_wp2_with (go_at_call 51; refine (bits_bl HH.out (by omega)).mono ?_; rintro r w12 ⟨rfl, hw12⟩; obtain rfl := hw12.symm; rw [bl_zero])
          go_ret3
          exact ⟨0, rfl, .inl ⟨by have := HE.out; omega, rfl⟩, HX.out⟩
        · have hbl : ((bl N : Int) == 0) = false := by
            have := (bl_bd N (by omega)).1
            simp; omega
          go_wp2_with (go_at_call 51; refine (bits_bl HH.out (by omega)).mono ?_; rintro r w12 ⟨rfl, hw12⟩; obtain rfl := hw12.symm)
          go_ret3
          refine ⟨s, rfl, ?_, HX.out⟩
          have e := HE.out
          rcases HS10.out with rfl | rfl <;> omega)
      | (
        have hA : Below w10.heap.size w10 (w10.alloc (.cells #[.int .i64 s, .slice an ln cn, .int .i64 e] 84)) := (Below.refl _ _).alloc (Nat.le_refl _) _
        have HR := hidden (rs_fresh w10 s e an ln cn)
        have HH := hidden (H10.out.later hA)
        have HX := hidden (HB10.out.trans (hA.mono HB10.out.size))
        clear p0 p1 p2' p3 g0 g1 g2 hA
        go_upto_region 12 with fail
        change Code.wp _ _ _ _ (w10.alloc (.cells #[.int .i64 s, .slice an ln cn, .int .i64 e] 84))
        generalize w10.alloc (.cells #[.int .i64 s, .slice an ln cn, .int .i64 e] 84) = wz at *
        obtain ⟨z0, z1, z2, -⟩ := HR.out
        have hNn := HH.out.nonneg
        have e10 := HN10.out
        have HE := hidden e10
        clear e10
        by_cases hN0 : N = 0
        · subst hN0
          go_wp2_with (go_at_call 51; refine (bits_bl HH.out (by omega)).mono ?_; rintro r w12 ⟨rfl, hw12⟩; obtain rfl := hw12.symm; rw [bl_zero])
          go_ret3
          exact ⟨0, rfl, .inl ⟨by have := HE.out; omega, rfl⟩, HX.out⟩
        · have hbl : ((bl N : Int) == 0) = false := by
            have := (bl_bd N (by omega)).1
            simp; omega
          go_wp2_with (go_at_call 51; refine (bits_bl HH.out (by omega)).mono ?_; rintro r w12 ⟨rfl, hw12⟩; obtain rfl := hw12.symm)
          go_ret3
          refine ⟨s, rfl, ?_, HX.out⟩
          have e := HE.out
          rcases HS10.out with rfl | rfl <;> omega)
end Go.Proofs.Ythmobhnkoinmcaa
