/- Package soft's Mod, leaf by leaf. -/
import Derived.Test.YthfjjkikeebopaaDoorP3k
namespace Go.Proofs.YthfjjkikeebopaaDoor
open Go.RowKit
set_option maxRecDepth 100000
set_option maxHeartbeats 400000
set_option linter.unusedVariables false

theorem wq_fun {a b : Int} {n s : Nat} {t l : Int} {mo : Bool} (h : WQ a b n t s mo l) (a0 : 0 ≤ a) (b0 : 0 < b) : s = wqS a b n ∧ t = wqQ a b n / p2 (wqS a b n) ∧ mo = decide (wqQ a b n % p2 (wqS a b n) ≠ 0) ∧ l = a * p2 n % b := by
  have hA : 0 ≤ a * p2 n := Int.mul_nonneg a0 (Int.le_of_lt (p2_pos n))
  have hQ : 0 ≤ wqQ a b n := Int.ediv_nonneg hA (by omega)
  have ht := h.times
  have hs : s = wqS a b n := by
    unfold wqS
    rcases h.full with h0 | h0
    · subst h0
      rw [p2_0, Int.ediv_one] at ht
      have : bl (wqQ a b n) ≤ 64 := bl_le hQ (by rw [p2_64]; have := h.t1; unfold wqQ; omega)
      omega
    · have hp := p2_pos s
      have h1 : p2 (63 + s) ≤ wqQ a b n := by
        rw [p2_add, p2_63]
        have := Int.ediv_mul_le (wqQ a b n) (show p2 s ≠ 0 by omega)
        have e : wqQ a b n / p2 s = t := ht
        rw [e] at this
        exact Int.le_trans (Int.mul_le_mul_of_nonneg_right h0 (by omega)) this
      have h2 : wqQ a b n < p2 (64 + s) := by
        rw [p2_add, p2_64]
        have := Int.lt_ediv_add_one_mul_self (wqQ a b n) hp
        have e : wqQ a b n / p2 s = t := ht
        rw [e] at this
        exact Int.lt_of_lt_of_le this (Int.mul_le_mul_of_nonneg_right (by have := h.t1; omega) (by omega))
      have h3 := bl_of (N := wqQ a b n) (b := 64 + s) (.inr ⟨by omega, by rw [show 64 + s - 1 = 63 + s by omega]; exact h1, h2⟩)
      omega
  subst hs
  exact ⟨rfl, ht.symm, h.more, h.left.symm⟩
theorem pwquo_fun (a b : Int) (n : Nat) (w : World) (a0 : 0 ≤ a) (a1 : a < 9007199254740992) (b0 : 0 < b) (b1 : b < 9007199254740992) (hn : (n : Int) ≤ 10000) :
    Calls Tryd.prog 40 #[.int .u64 a, .int .u64 b, .int .i64 n] w fun r w' => r = .returned (.tuple #[.int .u64 (wqQ a b n / p2 (wqS a b n)), .int .i64 (wqS a b n), .bool (decide (wqQ a b n % p2 (wqS a b n) ≠ 0)), .int .u64 (a * p2 n % b)]) ∧ Below w.heap.size w w' := by
  refine (pwquo a b n w a0 a1 b0 b1 hn).mono ?_
  rintro r w' ⟨t, l, s, mo, h, hs, rfl, hb⟩
  obtain ⟨rfl, rfl, rfl, rfl⟩ := wq_fun h a0 b0
  exact ⟨rfl, hb⟩
theorem wqS_le (a b : Int) (n : Nat) (a0 : 0 ≤ a) (a1 : a < 9007199254740992) (b0 : 0 < b) : (wqS a b n : Int) ≤ n := by
  have hA : 0 ≤ a * p2 n := Int.mul_nonneg a0 (Int.le_of_lt (p2_pos n))
  have h1 : wqQ a b n ≤ a * p2 n := Int.ediv_le_self _ hA
  have h2 : a * p2 n < p2 (53 + n) := by
    rw [p2_add, show p2 53 = 9007199254740992 by decide +kernel]
    exact Int.mul_lt_mul_of_pos_right a1 (p2_pos n)
  have h3 : bl (wqQ a b n) ≤ 53 + n := bl_le (Int.ediv_nonneg hA (by omega)) (by omega)
  unfold wqS
  omega
theorem pmod_err (m x a b : Int) (w : World)
    (HO : Hid (∀ w, Calls Tryd.prog 29 #[.agg #[.int .i64 m, .int .i64 x], .int .u64 a, .int .u64 b] w fun r w' => r = .returned (.tuple #[partsV 0 false 0 0, partsV 0 false 0 0, .int .i64 1]) ∧ Below w.heap.size w w')) :
    Calls Tryd.prog 21 #[.agg #[.int .i64 m, .int .i64 x], .int .u64 a, .int .u64 b] w fun r w' => r = .returned (.tuple #[.int .u64 0, .int .u64 0, .int .i64 1]) ∧ Below w.heap.size w w' := by
  go_enter Tryd.func21, Tryd.ntmps21
  go_wp2_with fail
  refine (HO.out _).mono ?_
  rintro r w1 ⟨rfl, hb1⟩
  have HB1 := hidden (box_below _ hb1)
  clear hb1
  go_wp2
  go_ret3
  refine ⟨rfl, ?_⟩
  have h0 := HB1.out
  exact (h0.alloc h0.size _).alloc (by have := h0.size; simp; omega) _
theorem pmod_nan (m x : Nat) (a b K1 E1 M1 K2 E2 M2 R : Int) (n1 n2 : Bool) (w : World)
    (HO : Hid (∀ w, Calls Tryd.prog 29 #[fmtV m x, .int .u64 a, .int .u64 b] w fun r w' => r = .returned (.tuple #[partsV K1 n1 E1 M1, partsV K2 n2 E2 M2, .int .i64 0]) ∧ Below w.heap.size w w'))
    (HE4 : Hid (∀ w, Calls Tryd.prog 30 #[partsV K1 n1 E1 M1, partsV K2 n2 E2 M2, .int .i64 4] w fun r w' => r = .returned (.bool true) ∧ Below w.heap.size w w'))
    (HN : Hid (∀ w, Calls Tryd.prog 31 #[fmtV m x] w fun r w' => r = .returned (.int .u64 R) ∧ Below w.heap.size w w'))
    : Calls Tryd.prog 21 #[fmtV m x, .int .u64 a, .int .u64 b] w fun r w' => r = .returned (.tuple #[.int .u64 R, .int .u64 R, .int .i64 0]) ∧ Below w.heap.size w w' := by
  go_enter Tryd.func21, Tryd.ntmps21
  go_wp2_with fail
  refine (HO.out _).mono ?_
  rintro r w1 ⟨rfl, hb1⟩
  obtain ⟨w5, hw5, hx, c0, c1, p0, p1, p2', p3, q0, q1, q2', q3⟩ := open_boxes m x K1 E1 M1 K2 E2 M2 n1 n2 w w1 hb1
  have HB := hidden hx
  clear hx hb1
  go_upto_region 2 with fail
  change Code.wp _ _ _ _ ((w1.alloc (prt K1 n1 E1 M1)).alloc (prt K2 n2 E2 M2))
  rw [← hw5]
  clear hw5
  go_upto_region 6 with (first | (go_at_call_of 30 (Value.int IntKind.i64 4); refine (HE4.out _).mono ?_; rintro r w9 ⟨rfl, hb⟩; have zz := ten_later hb ⟨c0, c1, p0, p1, p2', p3, q0, q1, q2', q3⟩; clear c0 c1 p0 p1 p2' p3 q0 q1 q2' q3; obtain ⟨c0, c1, p0, p1, p2', p3, q0, q1, q2', q3⟩ := zz; have HB := hidden (HB.out.trans (hb.mono HB.out.size)); clear hb))
  go_region_held3 (fun w' => w'.cell? ⟨w.heap.size, 0, none⟩ = some (.int .i64 m) ∧ w'.cell? ⟨w.heap.size, 1, none⟩ = some (.int .i64 x)) (go_keep) (first | (go_at_call 31; refine (HN.out _).mono ?_; rintro r w9 ⟨rfl, hb⟩; have c0 : w9.cell? ⟨w.heap.size, 0, none⟩ = some (.int .i64 m) := cellLater hb (by go_keep); have c1 : w9.cell? ⟨w.heap.size, 1, none⟩ = some (.int .i64 x) := cellLater hb (by go_keep); have HB : Hid (Below w.heap.size w w9) := hidden (by first | exact HB.out.trans (hb.mono HB.out.size) | exact HB.out.drew.trans (hb.mono HB.out.drew.size)); clear hb))
  all_goals
    go_wp2
    go_ret3
    exact ⟨rfl, HB.out⟩
theorem pmod_nan2 (m x : Nat) (a b K1 E1 M1 K2 E2 M2 R : Int) (n1 n2 : Bool) (w : World)
    (HO : Hid (∀ w, Calls Tryd.prog 29 #[fmtV m x, .int .u64 a, .int .u64 b] w fun r w' => r = .returned (.tuple #[partsV K1 n1 E1 M1, partsV K2 n2 E2 M2, .int .i64 0]) ∧ Below w.heap.size w w'))
    (HE4 : Hid (∀ w, Calls Tryd.prog 30 #[partsV K1 n1 E1 M1, partsV K2 n2 E2 M2, .int .i64 4] w fun r w' => r = .returned (.bool false) ∧ Below w.heap.size w w'))
    (HN : Hid (∀ w, Calls Tryd.prog 31 #[fmtV m x] w fun r w' => r = .returned (.int .u64 R) ∧ Below w.heap.size w w'))
    (k13 : (K1 == 3) = true)
    : Calls Tryd.prog 21 #[fmtV m x, .int .u64 a, .int .u64 b] w fun r w' => r = .returned (.tuple #[.int .u64 R, .int .u64 R, .int .i64 0]) ∧ Below w.heap.size w w' := by
  go_enter Tryd.func21, Tryd.ntmps21
  go_wp2_with fail
  refine (HO.out _).mono ?_
  rintro r w1 ⟨rfl, hb1⟩
  obtain ⟨w5, hw5, hx, c0, c1, p0, p1, p2', p3, q0, q1, q2', q3⟩ := open_boxes m x K1 E1 M1 K2 E2 M2 n1 n2 w w1 hb1
  have HB := hidden hx
  clear hx hb1
  go_upto_region 2 with fail
  change Code.wp _ _ _ _ ((w1.alloc (prt K1 n1 E1 M1)).alloc (prt K2 n2 E2 M2))
  rw [← hw5]
  clear hw5
  go_upto_region 9 with (first | (go_at_call_of 30 (Value.int IntKind.i64 4); refine (HE4.out _).mono ?_; rintro r w9 ⟨rfl, hb⟩; have zz := ten_later hb ⟨c0, c1, p0, p1, p2', p3, q0, q1, q2', q3⟩; clear c0 c1 p0 p1 p2' p3 q0 q1 q2' q3; obtain ⟨c0, c1, p0, p1, p2', p3, q0, q1, q2', q3⟩ := zz; have HB := hidden (HB.out.trans (hb.mono HB.out.size)); clear hb))
  go_region_held3 (fun w' => w'.cell? ⟨w.heap.size, 0, none⟩ = some (.int .i64 m) ∧ w'.cell? ⟨w.heap.size, 1, none⟩ = some (.int .i64 x)) (go_keep) (first | (go_at_call 31; refine (HN.out _).mono ?_; rintro r w9 ⟨rfl, hb⟩; have c0 : w9.cell? ⟨w.heap.size, 0, none⟩ = some (.int .i64 m) := cellLater hb (by go_keep); have c1 : w9.cell? ⟨w.heap.size, 1, none⟩ = some (.int .i64 x) := cellLater hb (by go_keep); have HB : Hid (Below w.heap.size w w9) := hidden (by first | exact HB.out.trans (hb.mono HB.out.size) | exact HB.out.drew.trans (hb.mono HB.out.drew.size)); clear hb))
  all_goals
    go_wp2
    go_ret3
    exact ⟨rfl, HB.out⟩
theorem pmod_nan3 (m x : Nat) (a b K1 E1 M1 K2 E2 M2 R : Int) (n1 n2 : Bool) (w : World)
    (HO : Hid (∀ w, Calls Tryd.prog 29 #[fmtV m x, .int .u64 a, .int .u64 b] w fun r w' => r = .returned (.tuple #[partsV K1 n1 E1 M1, partsV K2 n2 E2 M2, .int .i64 0]) ∧ Below w.heap.size w w'))
    (HE4 : Hid (∀ w, Calls Tryd.prog 30 #[partsV K1 n1 E1 M1, partsV K2 n2 E2 M2, .int .i64 4] w fun r w' => r = .returned (.bool false) ∧ Below w.heap.size w w'))
    (HN : Hid (∀ w, Calls Tryd.prog 31 #[fmtV m x] w fun r w' => r = .returned (.int .u64 R) ∧ Below w.heap.size w w'))
    (k13 : (K1 == 3) = false)
    (k21 : (K2 == 1) = true)
    : Calls Tryd.prog 21 #[fmtV m x, .int .u64 a, .int .u64 b] w fun r w' => r = .returned (.tuple #[.int .u64 R, .int .u64 R, .int .i64 0]) ∧ Below w.heap.size w w' := by
  go_enter Tryd.func21, Tryd.ntmps21
  go_wp2_with fail
  refine (HO.out _).mono ?_
  rintro r w1 ⟨rfl, hb1⟩
  obtain ⟨w5, hw5, hx, c0, c1, p0, p1, p2', p3, q0, q1, q2', q3⟩ := open_boxes m x K1 E1 M1 K2 E2 M2 n1 n2 w w1 hb1
  have HB := hidden hx
  clear hx hb1
  go_upto_region 2 with fail
  change Code.wp _ _ _ _ ((w1.alloc (prt K1 n1 E1 M1)).alloc (prt K2 n2 E2 M2))
  rw [← hw5]
  clear hw5
  go_upto_region 9 with (first | (go_at_call_of 30 (Value.int IntKind.i64 4); refine (HE4.out _).mono ?_; rintro r w9 ⟨rfl, hb⟩; have zz := ten_later hb ⟨c0, c1, p0, p1, p2', p3, q0, q1, q2', q3⟩; clear c0 c1 p0 p1 p2' p3 q0 q1 q2' q3; obtain ⟨c0, c1, p0, p1, p2', p3, q0, q1, q2', q3⟩ := zz; have HB := hidden (HB.out.trans (hb.mono HB.out.size)); clear hb))
  go_region_held3 (fun w' => w'.cell? ⟨w.heap.size, 0, none⟩ = some (.int .i64 m) ∧ w'.cell? ⟨w.heap.size, 1, none⟩ = some (.int .i64 x)) (go_keep) (first | (go_at_call 31; refine (HN.out _).mono ?_; rintro r w9 ⟨rfl, hb⟩; have c0 : w9.cell? ⟨w.heap.size, 0, none⟩ = some (.int .i64 m) := cellLater hb (by go_keep); have c1 : w9.cell? ⟨w.heap.size, 1, none⟩ = some (.int .i64 x) := cellLater hb (by go_keep); have HB : Hid (Below w.heap.size w w9) := hidden (by first | exact HB.out.trans (hb.mono HB.out.size) | exact HB.out.drew.trans (hb.mono HB.out.drew.size)); clear hb))
  all_goals
    go_wp2
    go_ret3
    exact ⟨rfl, HB.out⟩
theorem pmod_z1 (m x : Nat) (a b K1 E1 M1 K2 E2 M2 R : Int) (n1 n2 : Bool) (w : World)
    (HO : Hid (∀ w, Calls Tryd.prog 29 #[fmtV m x, .int .u64 a, .int .u64 b] w fun r w' => r = .returned (.tuple #[partsV K1 n1 E1 M1, partsV K2 n2 E2 M2, .int .i64 0]) ∧ Below w.heap.size w w'))
    (HE4 : Hid (∀ w, Calls Tryd.prog 30 #[partsV K1 n1 E1 M1, partsV K2 n2 E2 M2, .int .i64 4] w fun r w' => r = .returned (.bool false) ∧ Below w.heap.size w w'))
    (HZ : Hid (∀ w, Calls Tryd.prog 33 #[fmtV m x, .bool (n1 != n2)] w fun r w' => r = .returned (.int .u64 R) ∧ Below w.heap.size w w'))
    (k13 : (K1 == 3) = false)
    (k21 : (K2 == 1) = false)
    (k11 : (K1 == 1) = true)
    : Calls Tryd.prog 21 #[fmtV m x, .int .u64 a, .int .u64 b] w fun r w' => r = .returned (.tuple #[.int .u64 a, .int .u64 R, .int .i64 0]) ∧ Below w.heap.size w w' := by
  go_enter Tryd.func21, Tryd.ntmps21
  go_wp2_with fail
  refine (HO.out _).mono ?_
  rintro r w1 ⟨rfl, hb1⟩
  obtain ⟨w5, hw5, hx, c0, c1, p0, p1, p2', p3, q0, q1, q2', q3⟩ := open_boxes m x K1 E1 M1 K2 E2 M2 n1 n2 w w1 hb1
  have HB := hidden hx
  clear hx hb1
  go_upto_region 2 with fail
  change Code.wp _ _ _ _ ((w1.alloc (prt K1 n1 E1 M1)).alloc (prt K2 n2 E2 M2))
  rw [← hw5]
  clear hw5
  go_wp2_with (first | (go_at_call_of 30 (Value.int IntKind.i64 4); refine (HE4.out _).mono ?_; rintro r w9 ⟨rfl, hb⟩; have zz := ten_later hb ⟨c0, c1, p0, p1, p2', p3, q0, q1, q2', q3⟩; clear c0 c1 p0 p1 p2' p3 q0 q1 q2' q3; obtain ⟨c0, c1, p0, p1, p2', p3, q0, q1, q2', q3⟩ := zz; have HB := hidden (HB.out.trans (hb.mono HB.out.size)); clear hb) | (go_at_call 33; refine (HZ.out _).mono ?_; rintro r w9 ⟨rfl, hb⟩; have zz := ten_later hb ⟨c0, c1, p0, p1, p2', p3, q0, q1, q2', q3⟩; clear c0 c1 p0 p1 p2' p3 q0 q1 q2' q3; obtain ⟨c0, c1, p0, p1, p2', p3, q0, q1, q2', q3⟩ := zz; have HB := hidden (HB.out.trans (hb.mono HB.out.size)); clear hb))
  go_ret3
  exact ⟨rfl, HB.out⟩
theorem pmod_z2 (m x : Nat) (a b K1 E1 M1 K2 E2 M2 R : Int) (n1 n2 : Bool) (w : World)
    (HO : Hid (∀ w, Calls Tryd.prog 29 #[fmtV m x, .int .u64 a, .int .u64 b] w fun r w' => r = .returned (.tuple #[partsV K1 n1 E1 M1, partsV K2 n2 E2 M2, .int .i64 0]) ∧ Below w.heap.size w w'))
    (HE4 : Hid (∀ w, Calls Tryd.prog 30 #[partsV K1 n1 E1 M1, partsV K2 n2 E2 M2, .int .i64 4] w fun r w' => r = .returned (.bool false) ∧ Below w.heap.size w w'))
    (HZ : Hid (∀ w, Calls Tryd.prog 33 #[fmtV m x, .bool (n1 != n2)] w fun r w' => r = .returned (.int .u64 R) ∧ Below w.heap.size w w'))
    (k13 : (K1 == 3) = false)
    (k21 : (K2 == 1) = false)
    (k11 : (K1 == 1) = false)
    (k23 : (K2 == 3) = true)
    : Calls Tryd.prog 21 #[fmtV m x, .int .u64 a, .int .u64 b] w fun r w' => r = .returned (.tuple #[.int .u64 a, .int .u64 R, .int .i64 0]) ∧ Below w.heap.size w w' := by
  go_enter Tryd.func21, Tryd.ntmps21
  go_wp2_with fail
  refine (HO.out _).mono ?_
  rintro r w1 ⟨rfl, hb1⟩
  obtain ⟨w5, hw5, hx, c0, c1, p0, p1, p2', p3, q0, q1, q2', q3⟩ := open_boxes m x K1 E1 M1 K2 E2 M2 n1 n2 w w1 hb1
  have HB := hidden hx
  clear hx hb1
  go_upto_region 2 with fail
  change Code.wp _ _ _ _ ((w1.alloc (prt K1 n1 E1 M1)).alloc (prt K2 n2 E2 M2))
  rw [← hw5]
  clear hw5
  go_wp2_with (first | (go_at_call_of 30 (Value.int IntKind.i64 4); refine (HE4.out _).mono ?_; rintro r w9 ⟨rfl, hb⟩; have zz := ten_later hb ⟨c0, c1, p0, p1, p2', p3, q0, q1, q2', q3⟩; clear c0 c1 p0 p1 p2' p3 q0 q1 q2' q3; obtain ⟨c0, c1, p0, p1, p2', p3, q0, q1, q2', q3⟩ := zz; have HB := hidden (HB.out.trans (hb.mono HB.out.size)); clear hb) | (go_at_call 33; refine (HZ.out _).mono ?_; rintro r w9 ⟨rfl, hb⟩; have zz := ten_later hb ⟨c0, c1, p0, p1, p2', p3, q0, q1, q2', q3⟩; clear c0 c1 p0 p1 p2' p3 q0 q1 q2' q3; obtain ⟨c0, c1, p0, p1, p2', p3, q0, q1, q2', q3⟩ := zz; have HB := hidden (HB.out.trans (hb.mono HB.out.size)); clear hb))
  go_ret3
  exact ⟨rfl, HB.out⟩
theorem pmod_lt (m x : Nat) (a b K1 E1 M1 K2 E2 M2 R : Int) (n1 n2 : Bool) (w : World)
    (HO : Hid (∀ w, Calls Tryd.prog 29 #[fmtV m x, .int .u64 a, .int .u64 b] w fun r w' => r = .returned (.tuple #[partsV K1 n1 E1 M1, partsV K2 n2 E2 M2, .int .i64 0]) ∧ Below w.heap.size w w'))
    (HE4 : Hid (∀ w, Calls Tryd.prog 30 #[partsV K1 n1 E1 M1, partsV K2 n2 E2 M2, .int .i64 4] w fun r w' => r = .returned (.bool false) ∧ Below w.heap.size w w'))
    (HZ : Hid (∀ w, Calls Tryd.prog 33 #[fmtV m x, .bool (n1 != n2)] w fun r w' => r = .returned (.int .u64 R) ∧ Below w.heap.size w w'))
    (k13 : (K1 == 3) = false)
    (k21 : (K2 == 1) = false)
    (k11 : (K1 == 1) = false)
    (k23 : (K2 == 3) = false)
    (hlt : E1 < E2)
    : Calls Tryd.prog 21 #[fmtV m x, .int .u64 a, .int .u64 b] w fun r w' => r = .returned (.tuple #[.int .u64 a, .int .u64 R, .int .i64 0]) ∧ Below w.heap.size w w' := by
  go_enter Tryd.func21, Tryd.ntmps21
  go_wp2_with fail
  refine (HO.out _).mono ?_
  rintro r w1 ⟨rfl, hb1⟩
  obtain ⟨w5, hw5, hx, c0, c1, p0, p1, p2', p3, q0, q1, q2', q3⟩ := open_boxes m x K1 E1 M1 K2 E2 M2 n1 n2 w w1 hb1
  have HB := hidden hx
  clear hx hb1
  go_upto_region 2 with fail
  change Code.wp _ _ _ _ ((w1.alloc (prt K1 n1 E1 M1)).alloc (prt K2 n2 E2 M2))
  rw [← hw5]
  clear hw5
  go_wp2_with (first | (go_at_call_of 30 (Value.int IntKind.i64 4); refine (HE4.out _).mono ?_; rintro r w9 ⟨rfl, hb⟩; have zz := ten_later hb ⟨c0, c1, p0, p1, p2', p3, q0, q1, q2', q3⟩; clear c0 c1 p0 p1 p2' p3 q0 q1 q2' q3; obtain ⟨c0, c1, p0, p1, p2', p3, q0, q1, q2', q3⟩ := zz; have HB := hidden (HB.out.trans (hb.mono HB.out.size)); clear hb) | (go_at_call 33; refine (HZ.out _).mono ?_; rintro r w9 ⟨rfl, hb⟩; have zz := ten_later hb ⟨c0, c1, p0, p1, p2', p3, q0, q1, q2', q3⟩; clear c0 c1 p0 p1 p2' p3 q0 q1 q2' q3; obtain ⟨c0, c1, p0, p1, p2', p3, q0, q1, q2', q3⟩ := zz; have HB := hidden (HB.out.trans (hb.mono HB.out.size)); clear hb))
  go_ret3
  exact ⟨rfl, HB.out⟩
theorem pmod_fin (m x : Nat) (a b K1 E1 M1 K2 E2 M2 R R2 t s l kk : Int) (n1 n2 mo : Bool) (w : World)
    (HO : Hid (∀ w, Calls Tryd.prog 29 #[fmtV m x, .int .u64 a, .int .u64 b] w fun r w' => r = .returned (.tuple #[partsV K1 n1 E1 M1, partsV K2 n2 E2 M2, .int .i64 0]) ∧ Below w.heap.size w w'))
    (HE4 : Hid (∀ w, Calls Tryd.prog 30 #[partsV K1 n1 E1 M1, partsV K2 n2 E2 M2, .int .i64 4] w fun r w' => r = .returned (.bool false) ∧ Below w.heap.size w w'))
    (HQ : Hid (∀ w, Calls Tryd.prog 40 #[.int .u64 M1, .int .u64 M2, .int .i64 kk] w fun r w' => r = .returned (.tuple #[.int .u64 t, .int .i64 s, .bool mo, .int .u64 l]) ∧ Below w.heap.size w w'))
    (HP : Hid (∀ w, Calls Tryd.prog 38 #[fmtV m x, .bool (n1 != n2), .int .u64 0, .int .u64 t, .int .i64 s, .bool mo] w fun r w' => r = .returned (.tuple #[.int .u64 R, .int .i64 0]) ∧ Below w.heap.size w w'))
    (HP2 : Hid (∀ w, Calls Tryd.prog 38 #[fmtV m x, .bool n1, .int .u64 0, .int .u64 l, .int .i64 E2, .bool false] w fun r w' => r = .returned (.tuple #[.int .u64 R2, .int .i64 0]) ∧ Below w.heap.size w w'))
    (k13 : (K1 == 3) = false)
    (k21 : (K2 == 1) = false)
    (k11 : (K1 == 1) = false)
    (k23 : (K2 == 3) = false)
    (hlt : ¬ E1 < E2)
    (hk : IntKind.i64.wrap (E1 - E2) = kk)
    : Calls Tryd.prog 21 #[fmtV m x, .int .u64 a, .int .u64 b] w fun r w' => r = .returned (.tuple #[.int .u64 R2, .int .u64 R, .int .i64 0]) ∧ Below w.heap.size w w' := by
  go_enter Tryd.func21, Tryd.ntmps21
  go_wp2_with fail
  refine (HO.out _).mono ?_
  rintro r w1 ⟨rfl, hb1⟩
  obtain ⟨w5, hw5, hx, c0, c1, p0, p1, p2', p3, q0, q1, q2', q3⟩ := open_boxes m x K1 E1 M1 K2 E2 M2 n1 n2 w w1 hb1
  have HB := hidden hx
  clear hx hb1
  go_upto_region 2 with fail
  change Code.wp _ _ _ _ ((w1.alloc (prt K1 n1 E1 M1)).alloc (prt K2 n2 E2 M2))
  rw [← hw5]
  clear hw5
  go_wp2_with (first | (go_at_call_of 30 (Value.int IntKind.i64 4); refine (HE4.out _).mono ?_; rintro r w9 ⟨rfl, hb⟩; have zz := ten_later hb ⟨c0, c1, p0, p1, p2', p3, q0, q1, q2', q3⟩; clear c0 c1 p0 p1 p2' p3 q0 q1 q2' q3; obtain ⟨c0, c1, p0, p1, p2', p3, q0, q1, q2', q3⟩ := zz; have HB := hidden (HB.out.trans (hb.mono HB.out.size)); clear hb) | (go_at_call 40; refine (HQ.out _).mono ?_; rintro r w9 ⟨rfl, hb⟩; have zz := ten_later hb ⟨c0, c1, p0, p1, p2', p3, q0, q1, q2', q3⟩; clear c0 c1 p0 p1 p2' p3 q0 q1 q2' q3; obtain ⟨c0, c1, p0, p1, p2', p3, q0, q1, q2', q3⟩ := zz; have HB := hidden (HB.out.trans (hb.mono HB.out.size)); clear hb) | (go_at_call_of 38 (Value.int IntKind.u64 t); refine (HP.out _).mono ?_; rintro r w9 ⟨rfl, hb⟩; have zz := ten_later hb ⟨c0, c1, p0, p1, p2', p3, q0, q1, q2', q3⟩; clear c0 c1 p0 p1 p2' p3 q0 q1 q2' q3; obtain ⟨c0, c1, p0, p1, p2', p3, q0, q1, q2', q3⟩ := zz; have HB := hidden (HB.out.trans (hb.mono HB.out.size)); clear hb) | (go_at_call_of 38 (Value.int IntKind.u64 l); refine (HP2.out _).mono ?_; rintro r w9 ⟨rfl, hb⟩; have zz := ten_later hb ⟨c0, c1, p0, p1, p2', p3, q0, q1, q2', q3⟩; clear c0 c1 p0 p1 p2' p3 q0 q1 q2' q3; obtain ⟨c0, c1, p0, p1, p2', p3, q0, q1, q2', q3⟩ := zz; have HB := hidden (HB.out.trans (hb.mono HB.out.size)); clear hb))
  go_ret3
  exact ⟨rfl, HB.out⟩
end Go.Proofs.YthfjjkikeebopaaDoor
