/- Package soft's functions of one pattern, leaf by leaf: Sqrt, wholeBeside. Package soft's Ceil, Floor, Cmp and Sub. Contract of package soft's sum: the nearest pattern to the exact sum of two finite numbers. Contracts of package soft's functions for every two patterns of a format, by what they say. Contracts of package soft's Sqrt, Ceil, Floor for every pattern of a format, and what two patterns say, for every two. What the two listed variables of package reals give a walk: the formats of singles and of doubles. Contracts of package reals: integers as patterns, patterns as integers, patterns of the other format. Contracts of package reals: what holds of patterns. Contracts of package reals: what is reckoned of patterns. Package soft's Convert, leaf by leaf. What is known of a pattern by its kind. What package soft's Convert answers, for every pattern of a format. What package soft's Cmp and Sub answer, for every two patterns of a format. Contract of package soft's wholePart: a number without its sign as a whole number. Package soft's Whole, leaf by leaf. The statements' own small functions of stage 4 (num) and the page's examples (live), which come out true wherever the two variables read as the program's text lays them. -/
import Derived.Test.YtbfbdemknggpkaaGreatDoorP3l
import Derived.Test.YtbfbdemknggpkaaGreatDoorX3m
import Derived.Test.YtbfbdemknggpkaaGreatDoorP3e
import Derived.Test.YtbfbdemknggpkaaGreatDoorP3d
import Derived.Test.YtbfbdemknggpkaaGreatDoorM3a
import Derived.Test.YtbfbdemknggpkaaGreatDoorV3
import Derived.Test.YtbfbdemknggpkaaGreatDoorRows
import Derived.Test.YtbfbdemknggpkaaGreatDoorQ2a
import Derived.LaidMore
import Derived.Stop.Joined
import Derived.OpenShut
import Derived.Lib.LaidU8
import Derived.Handy
import Derived.Test.YtbfbdemknggpkaaGreatDoorP2d
namespace Go.Proofs.YtbfbdemknggpkaaGreatDoor
open Go.RowKit
set_option maxRecDepth 100000
set_option maxHeartbeats 400000
set_option linter.unusedVariables false

theorem six_on {w6 w7 : World} {A0 A1 A2 A3 A4 A5 : Addr} {a0 a1 a2 a3 a4 a5 : Value} (hb : Below w6.heap.size w6 w7) (h : w6.cell? A0 = some a0 ∧ w6.cell? A1 = some a1 ∧ w6.cell? A2 = some a2 ∧ w6.cell? A3 = some a3 ∧ w6.cell? A4 = some a4 ∧ w6.cell? A5 = some a5) :
    w7.cell? A0 = some a0 ∧ w7.cell? A1 = some a1 ∧ w7.cell? A2 = some a2 ∧ w7.cell? A3 = some a3 ∧ w7.cell? A4 = some a4 ∧ w7.cell? A5 = some a5 := by
  obtain ⟨h0, h1, h2, h3, h4, h5⟩ := h
  exact ⟨cellLater hb h0, cellLater hb h1, cellLater hb h2, cellLater hb h3, cellLater hb h4, cellLater hb h5⟩
theorem open_box (m x : Nat) (K E M : Int) (n : Bool) (w w1 : World) (hb : Below (w.alloc (fmt m x)).heap.size (w.alloc (fmt m x)) w1) :
    ∃ w5, w5 = w1.alloc (prt K n E M) ∧ Below w.heap.size w w5 ∧ w5.cell? ⟨w.heap.size, 0, none⟩ = some (.int .i64 m) ∧ w5.cell? ⟨w.heap.size, 1, none⟩ = some (.int .i64 x) ∧
      w5.cell? ⟨w1.heap.size, 0, none⟩ = some (.int .i64 K) ∧ w5.cell? ⟨w1.heap.size, 1, none⟩ = some (.bool n) ∧ w5.cell? ⟨w1.heap.size, 2, none⟩ = some (.int .i64 E) ∧ w5.cell? ⟨w1.heap.size, 3, none⟩ = some (.int .u64 M) := by
  have hB := box_below _ hb
  have d0 : w1.cell? ⟨w.heap.size, 0, none⟩ = some (.int .i64 m) := cellLater hb (by simp)
  have d1 : w1.cell? ⟨w.heap.size, 1, none⟩ = some (.int .i64 x) := cellLater hb (by simp)
  have hZ : Below w1.heap.size w1 (w1.alloc (prt K n E M)) := (Below.refl _ _).alloc (Nat.le_refl _) _
  obtain ⟨p0, p1, p2, p3, -⟩ := ps_fresh w1 K E M n
  exact ⟨_, rfl, hB.trans (hZ.mono hB.size), cellLater hZ d0, cellLater hZ d1, p0, p1, p2, p3⟩
theorem psqrt_err (m x a : Int) (w : World)
    (HO : Hid (∀ w, Calls Tryz.prog 68 #[.agg #[.int .i64 m, .int .i64 x], .int .u64 a] w fun r w' => r = .returned (.tuple #[partsV 0 false 0 0, .int .i64 1]) ∧ Below w.heap.size w w')) :
    Calls Tryz.prog 30 #[.agg #[.int .i64 m, .int .i64 x], .int .u64 a] w fun r w' => r = .returned (.tuple #[.int .u64 0, .int .i64 1]) ∧ Below w.heap.size w w' := by
  go_enter Tryz.func30, Tryz.ntmps30
  go_wp2_with fail
  refine (HO.out _).mono ?_
  rintro r w1 ⟨rfl, hb1⟩
  have HB1 := hidden (box_below _ hb1)
  clear hb1
  go_wp2
  go_ret2
  exact ⟨rfl, HB1.out.alloc HB1.out.size _⟩
theorem psqrt_zero (m x : Nat) (a K E M : Int) (n : Bool) (w : World)
    (HO : Hid (∀ w, Calls Tryz.prog 68 #[fmtV m x, .int .u64 a] w fun r w' => r = .returned (.tuple #[partsV K n E M, .int .i64 0]) ∧ Below w.heap.size w w'))
    (k1 : (K == 1) = true)
    : Calls Tryz.prog 30 #[fmtV m x, .int .u64 a] w fun r w' => r = .returned (.tuple #[.int .u64 a, .int .i64 0]) ∧ Below w.heap.size w w' := by
  go_enter Tryz.func30, Tryz.ntmps30
  go_wp2_with fail
  refine (HO.out _).mono ?_
  rintro r w1 ⟨rfl, hb1⟩
  obtain ⟨w5, hw5, hx, c0, c1, p0, p1, p2', p3⟩ := open_box m x K E M n w w1 hb1
  have HB := hidden hx
  clear hx hb1
  go_upto_region 2 with fail
  change Code.wp _ _ _ _ (w1.alloc (prt K n E M))
  rw [← hw5]
  clear hw5
  go_wp2
  go_ret2
  exact ⟨rfl, HB.out⟩
theorem psqrt_nan (m x : Nat) (a K E M R : Int) (n : Bool) (w : World)
    (HO : Hid (∀ w, Calls Tryz.prog 68 #[fmtV m x, .int .u64 a] w fun r w' => r = .returned (.tuple #[partsV K n E M, .int .i64 0]) ∧ Below w.heap.size w w'))
    (HN : Hid (∀ w, Calls Tryz.prog 58 #[fmtV m x] w fun r w' => r = .returned (.int .u64 R) ∧ Below w.heap.size w w'))
    (k1 : (K == 1) = false)
    (k4 : (K == 4) = true)
    : Calls Tryz.prog 30 #[fmtV m x, .int .u64 a] w fun r w' => r = .returned (.tuple #[.int .u64 R, .int .i64 0]) ∧ Below w.heap.size w w' := by
  go_enter Tryz.func30, Tryz.ntmps30
  go_wp2_with fail
  refine (HO.out _).mono ?_
  rintro r w1 ⟨rfl, hb1⟩
  obtain ⟨w5, hw5, hx, c0, c1, p0, p1, p2', p3⟩ := open_box m x K E M n w w1 hb1
  have HB := hidden hx
  clear hx hb1
  go_upto_region 2 with fail
  change Code.wp _ _ _ _ (w1.alloc (prt K n E M))
  rw [← hw5]
  clear hw5
  go_wp2_with (first | (go_at_call 58; refine (HN.out _).mono ?_; rintro r w9 ⟨rfl, hb⟩; have zz := six_on hb ⟨c0, c1, p0, p1, p2', p3⟩; clear c0 c1 p0 p1 p2' p3; obtain ⟨c0, c1, p0, p1, p2', p3⟩ := zz; have HB := hidden (HB.out.trans (hb.mono HB.out.size)); clear hb))
  go_ret2
  exact ⟨rfl, HB.out⟩
theorem psqrt_neg (m x : Nat) (a K E M R : Int) (w : World)
    (HO : Hid (∀ w, Calls Tryz.prog 68 #[fmtV m x, .int .u64 a] w fun r w' => r = .returned (.tuple #[partsV K true E M, .int .i64 0]) ∧ Below w.heap.size w w'))
    (HN : Hid (∀ w, Calls Tryz.prog 58 #[fmtV m x] w fun r w' => r = .returned (.int .u64 R) ∧ Below w.heap.size w w'))
    (k1 : (K == 1) = false)
    (k4 : (K == 4) = false)
    : Calls Tryz.prog 30 #[fmtV m x, .int .u64 a] w fun r w' => r = .returned (.tuple #[.int .u64 R, .int .i64 0]) ∧ Below w.heap.size w w' := by
  go_enter Tryz.func30, Tryz.ntmps30
  go_wp2_with fail
  refine (HO.out _).mono ?_
  rintro r w1 ⟨rfl, hb1⟩
  obtain ⟨w5, hw5, hx, c0, c1, p0, p1, p2', p3⟩ := open_box m x K E M true w w1 hb1
  have HB := hidden hx
  clear hx hb1
  go_upto_region 2 with fail
  change Code.wp _ _ _ _ (w1.alloc (prt K true E M))
  rw [← hw5]
  clear hw5
  go_wp2_with (first | (go_at_call 58; refine (HN.out _).mono ?_; rintro r w9 ⟨rfl, hb⟩; have zz := six_on hb ⟨c0, c1, p0, p1, p2', p3⟩; clear c0 c1 p0 p1 p2' p3; obtain ⟨c0, c1, p0, p1, p2', p3⟩ := zz; have HB := hidden (HB.out.trans (hb.mono HB.out.size)); clear hb))
  go_ret2
  exact ⟨rfl, HB.out⟩
theorem psqrt_inf (m x : Nat) (a K E M : Int) (w : World)
    (HO : Hid (∀ w, Calls Tryz.prog 68 #[fmtV m x, .int .u64 a] w fun r w' => r = .returned (.tuple #[partsV K false E M, .int .i64 0]) ∧ Below w.heap.size w w'))
    (k1 : (K == 1) = false)
    (k4 : (K == 4) = false)
    (k3 : (K == 3) = true)
    : Calls Tryz.prog 30 #[fmtV m x, .int .u64 a] w fun r w' => r = .returned (.tuple #[.int .u64 a, .int .i64 0]) ∧ Below w.heap.size w w' := by
  go_enter Tryz.func30, Tryz.ntmps30
  go_wp2_with fail
  refine (HO.out _).mono ?_
  rintro r w1 ⟨rfl, hb1⟩
  obtain ⟨w5, hw5, hx, c0, c1, p0, p1, p2', p3⟩ := open_box m x K E M false w w1 hb1
  have HB := hidden hx
  clear hx hb1
  go_upto_region 2 with fail
  change Code.wp _ _ _ _ (w1.alloc (prt K false E M))
  rw [← hw5]
  clear hw5
  go_wp2
  go_ret2
  exact ⟨rfl, HB.out⟩
theorem psqrt_fin (m x : Nat) (a K E M R NN SC : Int) (w : World)
    (HO : Hid (∀ w, Calls Tryz.prog 68 #[fmtV m x, .int .u64 a] w fun r w' => r = .returned (.tuple #[partsV K false E M, .int .i64 0]) ∧ Below w.heap.size w w'))
    (HQ : Hid (∀ w, Calls Tryz.prog 69 #[partsV K false E M] w fun r w' => ∃ Q : Int, IsRoot NN Q ∧ r = .returned (.tuple #[.int .u64 Q, .int .i64 SC, .bool (decide (Q * Q ≠ NN))]) ∧ Below w.heap.size w w'))
    (HP : ∀ Q, IsRoot NN Q → Hid (∀ w, Calls Tryz.prog 65 #[fmtV m x, .bool false, .int .u64 0, .int .u64 Q, .int .i64 SC, .bool (decide (Q * Q ≠ NN))] w fun r w' => r = .returned (.tuple #[.int .u64 R, .int .i64 0]) ∧ Below w.heap.size w w'))
    (k1 : (K == 1) = false)
    (k4 : (K == 4) = false)
    (k3 : (K == 3) = false)
    : Calls Tryz.prog 30 #[fmtV m x, .int .u64 a] w fun r w' => r = .returned (.tuple #[.int .u64 R, .int .i64 0]) ∧ Below w.heap.size w w' := by
  go_enter Tryz.func30, Tryz.ntmps30
  go_wp2_with fail
  refine (HO.out _).mono ?_
  rintro r w1 ⟨rfl, hb1⟩
  obtain ⟨w5, hw5, hx, c0, c1, p0, p1, p2', p3⟩ := open_box m x K E M false w w1 hb1
  have HB := hidden hx
  clear hx hb1
  go_upto_region 2 with fail
  change Code.wp _ _ _ _ (w1.alloc (prt K false E M))
  rw [← hw5]
  clear hw5
  have HPP := hidden HP
  clear HP
  go_wp2_with fail
  refine (HQ.out _).mono ?_
  rintro r w9 ⟨Q, hrt, rfl, hb⟩
  have zz := six_on hb ⟨c0, c1, p0, p1, p2', p3⟩; clear c0 c1 p0 p1 p2' p3; obtain ⟨c0, c1, p0, p1, p2', p3⟩ := zz; have HB := hidden (HB.out.trans (hb.mono HB.out.size)); clear hb
  have HP := HPP.out Q hrt
  clear hrt
  generalize decide (Q * Q ≠ NN) = mo at *
  go_wp2_with (go_at_call 65; refine (HP.out _).mono ?_; rintro r w9 ⟨rfl, hb⟩; have zz := six_on hb ⟨c0, c1, p0, p1, p2', p3⟩; clear c0 c1 p0 p1 p2' p3; obtain ⟨c0, c1, p0, p1, p2', p3⟩ := zz; have HB := hidden (HB.out.trans (hb.mono HB.out.size)); clear hb)
  go_ret2
  exact ⟨rfl, HB.out⟩
theorem pshift (x : Int) (k : Nat) (w : World) (x0 : 0 ≤ x) (x1 : x < 18446744073709551616) (hk : (k : Int) ≤ 100000) :
    Calls Tryz.prog 99 #[.int .u64 x, .int .i64 k] w fun r w' => r = .returned (.tuple #[.int .u64 (x / p2 k), .bool (decide (x % p2 k ≠ 0))]) ∧ Below w.heap.size w w' := by
  have hp := p2_pos k
  have h0 : 0 ≤ x / p2 k := Int.ediv_nonneg x0 (by omega)
  have h1 : x / p2 k ≤ x := Int.ediv_le_self _ x0
  have e := Int.mul_ediv_add_emod x (p2 k)
  have r0 := Int.emod_nonneg x (show p2 k ≠ 0 by omega)
  rw [Int.mul_comm] at e
  have hs1 : x / 2 ^ min k 64 = x / p2 k := by
    rcases Nat.lt_or_ge k 64 with h | h
    · rw [Nat.min_eq_left (by omega)]; rfl
    · rw [Nat.min_eq_right h]
      have h5 := p2_mono h
      rw [p2_64] at h5
      rw [Int.ediv_eq_zero_of_lt x0 (show x < p2 k by omega), show (2 : Int) ^ 64 = 18446744073709551616 by decide]
      omega
  have hs2 : IntKind.u64.wrap (x / p2 k * 2 ^ min k 64) = x / p2 k * p2 k := by
    rw [IntKind.wrap_u64]
    rcases Nat.lt_or_ge k 64 with h | h
    · rw [Nat.min_eq_left (by omega)]
      show x / p2 k * p2 k % _ = _
      have : 0 ≤ x / p2 k * p2 k := Int.mul_nonneg h0 (by omega)
      omega
    · have h5 := p2_mono h
      rw [p2_64] at h5
      rw [Int.ediv_eq_zero_of_lt x0 (show x < p2 k by omega)]
      omega
  have hne : Hid ((x / p2 k * p2 k != x) = decide (x % p2 k ≠ 0)) := hidden (by
    by_cases h : x % p2 k = 0
    · rw [decide_eq_false (by simpa using h)]; simp; omega
    · rw [decide_eq_true h]; simp; omega)
  have hkn : (0 : Int) ≤ k := by omega
  clear e r0
  generalize x % p2 k = RM at *
  generalize hQ : x / p2 k = Q at *
  generalize Q * p2 k = X at *
  clear hQ
  go_enter Tryz.func99, Tryz.ntmps99
  go_upto_region 2 with fail
  go_quiet (fail)
  go_wp2
  go_ret2
  exact ⟨by rw [hne.out]; rfl, below_drewN (Below.refl _ _) _⟩
theorem pwb_err (m x a : Int) (dn : Bool) (w : World)
    (HO : Hid (∀ w, Calls Tryz.prog 68 #[.agg #[.int .i64 m, .int .i64 x], .int .u64 a] w fun r w' => r = .returned (.tuple #[partsV 0 false 0 0, .int .i64 1]) ∧ Below w.heap.size w w')) :
    Calls Tryz.prog 70 #[.agg #[.int .i64 m, .int .i64 x], .int .u64 a, .bool dn] w fun r w' => r = .returned (.tuple #[.int .u64 0, .int .i64 1]) ∧ Below w.heap.size w w' := by
  go_enter Tryz.func70, Tryz.ntmps70
  go_wp2_with fail
  refine (HO.out _).mono ?_
  rintro r w1 ⟨rfl, hb1⟩
  have HB1 := hidden (box_below _ hb1)
  clear hb1
  go_wp2
  go_ret2
  exact ⟨rfl, HB1.out.alloc HB1.out.size _⟩
theorem pwb_nan (m x : Nat) (a K E M R : Int) (n dn : Bool) (w : World)
    (HO : Hid (∀ w, Calls Tryz.prog 68 #[fmtV m x, .int .u64 a] w fun r w' => r = .returned (.tuple #[partsV K n E M, .int .i64 0]) ∧ Below w.heap.size w w'))
    (HN : Hid (∀ w, Calls Tryz.prog 58 #[fmtV m x] w fun r w' => r = .returned (.int .u64 R) ∧ Below w.heap.size w w'))
    (k4 : (K == 4) = true)
    : Calls Tryz.prog 70 #[fmtV m x, .int .u64 a, .bool dn] w fun r w' => r = .returned (.tuple #[.int .u64 R, .int .i64 0]) ∧ Below w.heap.size w w' := by
  go_enter Tryz.func70, Tryz.ntmps70
  go_wp2_with fail
  refine (HO.out _).mono ?_
  rintro r w1 ⟨rfl, hb1⟩
  obtain ⟨w5, hw5, hx, c0, c1, p0, p1, p2', p3⟩ := open_box m x K E M n w w1 hb1
  have HB := hidden hx
  clear hx hb1
  go_upto_region 2 with fail
  change Code.wp _ _ _ _ (w1.alloc (prt K n E M))
  rw [← hw5]
  clear hw5
  go_wp2_with (first | (go_at_call 58; refine (HN.out _).mono ?_; rintro r w9 ⟨rfl, hb⟩; have zz := six_on hb ⟨c0, c1, p0, p1, p2', p3⟩; clear c0 c1 p0 p1 p2' p3; obtain ⟨c0, c1, p0, p1, p2', p3⟩ := zz; have HB := hidden (HB.out.trans (hb.mono HB.out.size)); clear hb))
  go_ret2
  exact ⟨rfl, HB.out⟩
theorem pwb_inf (m x : Nat) (a K E M : Int) (n dn : Bool) (w : World)
    (HO : Hid (∀ w, Calls Tryz.prog 68 #[fmtV m x, .int .u64 a] w fun r w' => r = .returned (.tuple #[partsV K n E M, .int .i64 0]) ∧ Below w.heap.size w w'))
    (k4 : (K == 4) = false)
    (k2 : (K != 2) = true)
    : Calls Tryz.prog 70 #[fmtV m x, .int .u64 a, .bool dn] w fun r w' => r = .returned (.tuple #[.int .u64 a, .int .i64 0]) ∧ Below w.heap.size w w' := by
  go_enter Tryz.func70, Tryz.ntmps70
  go_wp2_with fail
  refine (HO.out _).mono ?_
  rintro r w1 ⟨rfl, hb1⟩
  obtain ⟨w5, hw5, hx, c0, c1, p0, p1, p2', p3⟩ := open_box m x K E M n w w1 hb1
  have HB := hidden hx
  clear hx hb1
  go_upto_region 2 with fail
  change Code.wp _ _ _ _ (w1.alloc (prt K n E M))
  rw [← hw5]
  clear hw5
  go_wp2
  go_ret2
  exact ⟨rfl, HB.out⟩
theorem pwb_big (m x : Nat) (a K E M : Int) (n dn : Bool) (w : World)
    (HO : Hid (∀ w, Calls Tryz.prog 68 #[fmtV m x, .int .u64 a] w fun r w' => r = .returned (.tuple #[partsV K n E M, .int .i64 0]) ∧ Below w.heap.size w w'))
    (k4 : (K == 4) = false)
    (k2 : (K != 2) = false)
    (he : 0 ≤ E)
    : Calls Tryz.prog 70 #[fmtV m x, .int .u64 a, .bool dn] w fun r w' => r = .returned (.tuple #[.int .u64 a, .int .i64 0]) ∧ Below w.heap.size w w' := by
  go_enter Tryz.func70, Tryz.ntmps70
  go_wp2_with fail
  refine (HO.out _).mono ?_
  rintro r w1 ⟨rfl, hb1⟩
  obtain ⟨w5, hw5, hx, c0, c1, p0, p1, p2', p3⟩ := open_box m x K E M n w w1 hb1
  have HB := hidden hx
  clear hx hb1
  go_upto_region 2 with fail
  change Code.wp _ _ _ _ (w1.alloc (prt K n E M))
  rw [← hw5]
  clear hw5
  go_wp2
  go_ret2
  exact ⟨rfl, HB.out⟩
theorem pwb_tt_tt (m x : Nat) (a K E M R Q Q1 kk : Int) (w : World)
    (HO : Hid (∀ w, Calls Tryz.prog 68 #[fmtV m x, .int .u64 a] w fun r w' => r = .returned (.tuple #[partsV K true E M, .int .i64 0]) ∧ Below w.heap.size w w'))
    (HS : Hid (∀ w, Calls Tryz.prog 99 #[.int .u64 M, .int .i64 kk] w fun r w' => r = .returned (.tuple #[.int .u64 Q, .bool true]) ∧ Below w.heap.size w w'))
    (HP : Hid (∀ w, Calls Tryz.prog 65 #[fmtV m x, .bool true, .int .u64 0, .int .u64 Q1, .int .i64 0, .bool false] w fun r w' => r = .returned (.tuple #[.int .u64 R, .int .i64 0]) ∧ Below w.heap.size w w'))
    (k4 : (K == 4) = false)
    (k2 : (K != 2) = false)
    (he : E < 0)
    (hk : IntKind.i64.wrap (-E) = kk)
    (hq : IntKind.u64.wrap (Q + 1) = Q1)
    : Calls Tryz.prog 70 #[fmtV m x, .int .u64 a, .bool true] w fun r w' => r = .returned (.tuple #[.int .u64 R, .int .i64 0]) ∧ Below w.heap.size w w' := by
  go_enter Tryz.func70, Tryz.ntmps70
  go_wp2_with fail
  refine (HO.out _).mono ?_
  rintro r w1 ⟨rfl, hb1⟩
  obtain ⟨w5, hw5, hx, c0, c1, p0, p1, p2', p3⟩ := open_box m x K E M true w w1 hb1
  have HB := hidden hx
  clear hx hb1
  go_upto_region 2 with fail
  change Code.wp _ _ _ _ (w1.alloc (prt K true E M))
  rw [← hw5]
  clear hw5
  go_wp2_with (first | (go_at_call 99; refine (HS.out _).mono ?_; rintro r w9 ⟨rfl, hb⟩; have zz := six_on hb ⟨c0, c1, p0, p1, p2', p3⟩; clear c0 c1 p0 p1 p2' p3; obtain ⟨c0, c1, p0, p1, p2', p3⟩ := zz; have HB := hidden (HB.out.trans (hb.mono HB.out.size)); clear hb) | (go_at_call 65; refine (HP.out _).mono ?_; rintro r w9 ⟨rfl, hb⟩; have zz := six_on hb ⟨c0, c1, p0, p1, p2', p3⟩; clear c0 c1 p0 p1 p2' p3; obtain ⟨c0, c1, p0, p1, p2', p3⟩ := zz; have HB := hidden (HB.out.trans (hb.mono HB.out.size)); clear hb))
  go_ret2
  exact ⟨rfl, HB.out⟩
theorem pwb_tt_ff (m x : Nat) (a K E M R Q Q1 kk : Int) (w : World)
    (HO : Hid (∀ w, Calls Tryz.prog 68 #[fmtV m x, .int .u64 a] w fun r w' => r = .returned (.tuple #[partsV K false E M, .int .i64 0]) ∧ Below w.heap.size w w'))
    (HS : Hid (∀ w, Calls Tryz.prog 99 #[.int .u64 M, .int .i64 kk] w fun r w' => r = .returned (.tuple #[.int .u64 Q, .bool true]) ∧ Below w.heap.size w w'))
    (HP : Hid (∀ w, Calls Tryz.prog 65 #[fmtV m x, .bool false, .int .u64 0, .int .u64 Q1, .int .i64 0, .bool false] w fun r w' => r = .returned (.tuple #[.int .u64 R, .int .i64 0]) ∧ Below w.heap.size w w'))
    (k4 : (K == 4) = false)
    (k2 : (K != 2) = false)
    (he : E < 0)
    (hk : IntKind.i64.wrap (-E) = kk)
    (hq : IntKind.u64.wrap (Q + 1) = Q1)
    : Calls Tryz.prog 70 #[fmtV m x, .int .u64 a, .bool false] w fun r w' => r = .returned (.tuple #[.int .u64 R, .int .i64 0]) ∧ Below w.heap.size w w' := by
  go_enter Tryz.func70, Tryz.ntmps70
  go_wp2_with fail
  refine (HO.out _).mono ?_
  rintro r w1 ⟨rfl, hb1⟩
  obtain ⟨w5, hw5, hx, c0, c1, p0, p1, p2', p3⟩ := open_box m x K E M false w w1 hb1
  have HB := hidden hx
  clear hx hb1
  go_upto_region 2 with fail
  change Code.wp _ _ _ _ (w1.alloc (prt K false E M))
  rw [← hw5]
  clear hw5
  go_wp2_with (first | (go_at_call 99; refine (HS.out _).mono ?_; rintro r w9 ⟨rfl, hb⟩; have zz := six_on hb ⟨c0, c1, p0, p1, p2', p3⟩; clear c0 c1 p0 p1 p2' p3; obtain ⟨c0, c1, p0, p1, p2', p3⟩ := zz; have HB := hidden (HB.out.trans (hb.mono HB.out.size)); clear hb) | (go_at_call 65; refine (HP.out _).mono ?_; rintro r w9 ⟨rfl, hb⟩; have zz := six_on hb ⟨c0, c1, p0, p1, p2', p3⟩; clear c0 c1 p0 p1 p2' p3; obtain ⟨c0, c1, p0, p1, p2', p3⟩ := zz; have HB := hidden (HB.out.trans (hb.mono HB.out.size)); clear hb))
  go_ret2
  exact ⟨rfl, HB.out⟩
theorem pwb_tf_tf (m x : Nat) (a K E M R Q Q1 kk : Int) (w : World)
    (HO : Hid (∀ w, Calls Tryz.prog 68 #[fmtV m x, .int .u64 a] w fun r w' => r = .returned (.tuple #[partsV K true E M, .int .i64 0]) ∧ Below w.heap.size w w'))
    (HS : Hid (∀ w, Calls Tryz.prog 99 #[.int .u64 M, .int .i64 kk] w fun r w' => r = .returned (.tuple #[.int .u64 Q, .bool true]) ∧ Below w.heap.size w w'))
    (HP : Hid (∀ w, Calls Tryz.prog 65 #[fmtV m x, .bool true, .int .u64 0, .int .u64 Q, .int .i64 0, .bool false] w fun r w' => r = .returned (.tuple #[.int .u64 R, .int .i64 0]) ∧ Below w.heap.size w w'))
    (k4 : (K == 4) = false)
    (k2 : (K != 2) = false)
    (he : E < 0)
    (hk : IntKind.i64.wrap (-E) = kk)
    : Calls Tryz.prog 70 #[fmtV m x, .int .u64 a, .bool false] w fun r w' => r = .returned (.tuple #[.int .u64 R, .int .i64 0]) ∧ Below w.heap.size w w' := by
  go_enter Tryz.func70, Tryz.ntmps70
  go_wp2_with fail
  refine (HO.out _).mono ?_
  rintro r w1 ⟨rfl, hb1⟩
  obtain ⟨w5, hw5, hx, c0, c1, p0, p1, p2', p3⟩ := open_box m x K E M true w w1 hb1
  have HB := hidden hx
  clear hx hb1
  go_upto_region 2 with fail
  change Code.wp _ _ _ _ (w1.alloc (prt K true E M))
  rw [← hw5]
  clear hw5
  go_wp2_with (first | (go_at_call 99; refine (HS.out _).mono ?_; rintro r w9 ⟨rfl, hb⟩; have zz := six_on hb ⟨c0, c1, p0, p1, p2', p3⟩; clear c0 c1 p0 p1 p2' p3; obtain ⟨c0, c1, p0, p1, p2', p3⟩ := zz; have HB := hidden (HB.out.trans (hb.mono HB.out.size)); clear hb) | (go_at_call 65; refine (HP.out _).mono ?_; rintro r w9 ⟨rfl, hb⟩; have zz := six_on hb ⟨c0, c1, p0, p1, p2', p3⟩; clear c0 c1 p0 p1 p2' p3; obtain ⟨c0, c1, p0, p1, p2', p3⟩ := zz; have HB := hidden (HB.out.trans (hb.mono HB.out.size)); clear hb))
  go_ret2
  exact ⟨rfl, HB.out⟩
theorem pwb_tf_ft (m x : Nat) (a K E M R Q Q1 kk : Int) (w : World)
    (HO : Hid (∀ w, Calls Tryz.prog 68 #[fmtV m x, .int .u64 a] w fun r w' => r = .returned (.tuple #[partsV K false E M, .int .i64 0]) ∧ Below w.heap.size w w'))
    (HS : Hid (∀ w, Calls Tryz.prog 99 #[.int .u64 M, .int .i64 kk] w fun r w' => r = .returned (.tuple #[.int .u64 Q, .bool true]) ∧ Below w.heap.size w w'))
    (HP : Hid (∀ w, Calls Tryz.prog 65 #[fmtV m x, .bool false, .int .u64 0, .int .u64 Q, .int .i64 0, .bool false] w fun r w' => r = .returned (.tuple #[.int .u64 R, .int .i64 0]) ∧ Below w.heap.size w w'))
    (k4 : (K == 4) = false)
    (k2 : (K != 2) = false)
    (he : E < 0)
    (hk : IntKind.i64.wrap (-E) = kk)
    : Calls Tryz.prog 70 #[fmtV m x, .int .u64 a, .bool true] w fun r w' => r = .returned (.tuple #[.int .u64 R, .int .i64 0]) ∧ Below w.heap.size w w' := by
  go_enter Tryz.func70, Tryz.ntmps70
  go_wp2_with fail
  refine (HO.out _).mono ?_
  rintro r w1 ⟨rfl, hb1⟩
  obtain ⟨w5, hw5, hx, c0, c1, p0, p1, p2', p3⟩ := open_box m x K E M false w w1 hb1
  have HB := hidden hx
  clear hx hb1
  go_upto_region 2 with fail
  change Code.wp _ _ _ _ (w1.alloc (prt K false E M))
  rw [← hw5]
  clear hw5
  go_wp2_with (first | (go_at_call 99; refine (HS.out _).mono ?_; rintro r w9 ⟨rfl, hb⟩; have zz := six_on hb ⟨c0, c1, p0, p1, p2', p3⟩; clear c0 c1 p0 p1 p2' p3; obtain ⟨c0, c1, p0, p1, p2', p3⟩ := zz; have HB := hidden (HB.out.trans (hb.mono HB.out.size)); clear hb) | (go_at_call 65; refine (HP.out _).mono ?_; rintro r w9 ⟨rfl, hb⟩; have zz := six_on hb ⟨c0, c1, p0, p1, p2', p3⟩; clear c0 c1 p0 p1 p2' p3; obtain ⟨c0, c1, p0, p1, p2', p3⟩ := zz; have HB := hidden (HB.out.trans (hb.mono HB.out.size)); clear hb))
  go_ret2
  exact ⟨rfl, HB.out⟩
theorem pwb_ff_tt (m x : Nat) (a K E M R Q Q1 kk : Int) (w : World)
    (HO : Hid (∀ w, Calls Tryz.prog 68 #[fmtV m x, .int .u64 a] w fun r w' => r = .returned (.tuple #[partsV K true E M, .int .i64 0]) ∧ Below w.heap.size w w'))
    (HS : Hid (∀ w, Calls Tryz.prog 99 #[.int .u64 M, .int .i64 kk] w fun r w' => r = .returned (.tuple #[.int .u64 Q, .bool false]) ∧ Below w.heap.size w w'))
    (HP : Hid (∀ w, Calls Tryz.prog 65 #[fmtV m x, .bool true, .int .u64 0, .int .u64 Q, .int .i64 0, .bool false] w fun r w' => r = .returned (.tuple #[.int .u64 R, .int .i64 0]) ∧ Below w.heap.size w w'))
    (k4 : (K == 4) = false)
    (k2 : (K != 2) = false)
    (he : E < 0)
    (hk : IntKind.i64.wrap (-E) = kk)
    : Calls Tryz.prog 70 #[fmtV m x, .int .u64 a, .bool true] w fun r w' => r = .returned (.tuple #[.int .u64 R, .int .i64 0]) ∧ Below w.heap.size w w' := by
  go_enter Tryz.func70, Tryz.ntmps70
  go_wp2_with fail
  refine (HO.out _).mono ?_
  rintro r w1 ⟨rfl, hb1⟩
  obtain ⟨w5, hw5, hx, c0, c1, p0, p1, p2', p3⟩ := open_box m x K E M true w w1 hb1
  have HB := hidden hx
  clear hx hb1
  go_upto_region 2 with fail
  change Code.wp _ _ _ _ (w1.alloc (prt K true E M))
  rw [← hw5]
  clear hw5
  go_wp2_with (first | (go_at_call 99; refine (HS.out _).mono ?_; rintro r w9 ⟨rfl, hb⟩; have zz := six_on hb ⟨c0, c1, p0, p1, p2', p3⟩; clear c0 c1 p0 p1 p2' p3; obtain ⟨c0, c1, p0, p1, p2', p3⟩ := zz; have HB := hidden (HB.out.trans (hb.mono HB.out.size)); clear hb) | (go_at_call 65; refine (HP.out _).mono ?_; rintro r w9 ⟨rfl, hb⟩; have zz := six_on hb ⟨c0, c1, p0, p1, p2', p3⟩; clear c0 c1 p0 p1 p2' p3; obtain ⟨c0, c1, p0, p1, p2', p3⟩ := zz; have HB := hidden (HB.out.trans (hb.mono HB.out.size)); clear hb))
  go_ret2
  exact ⟨rfl, HB.out⟩
theorem pwb_ff_tf (m x : Nat) (a K E M R Q Q1 kk : Int) (w : World)
    (HO : Hid (∀ w, Calls Tryz.prog 68 #[fmtV m x, .int .u64 a] w fun r w' => r = .returned (.tuple #[partsV K true E M, .int .i64 0]) ∧ Below w.heap.size w w'))
    (HS : Hid (∀ w, Calls Tryz.prog 99 #[.int .u64 M, .int .i64 kk] w fun r w' => r = .returned (.tuple #[.int .u64 Q, .bool false]) ∧ Below w.heap.size w w'))
    (HP : Hid (∀ w, Calls Tryz.prog 65 #[fmtV m x, .bool true, .int .u64 0, .int .u64 Q, .int .i64 0, .bool false] w fun r w' => r = .returned (.tuple #[.int .u64 R, .int .i64 0]) ∧ Below w.heap.size w w'))
    (k4 : (K == 4) = false)
    (k2 : (K != 2) = false)
    (he : E < 0)
    (hk : IntKind.i64.wrap (-E) = kk)
    : Calls Tryz.prog 70 #[fmtV m x, .int .u64 a, .bool false] w fun r w' => r = .returned (.tuple #[.int .u64 R, .int .i64 0]) ∧ Below w.heap.size w w' := by
  go_enter Tryz.func70, Tryz.ntmps70
  go_wp2_with fail
  refine (HO.out _).mono ?_
  rintro r w1 ⟨rfl, hb1⟩
  obtain ⟨w5, hw5, hx, c0, c1, p0, p1, p2', p3⟩ := open_box m x K E M true w w1 hb1
  have HB := hidden hx
  clear hx hb1
  go_upto_region 2 with fail
  change Code.wp _ _ _ _ (w1.alloc (prt K true E M))
  rw [← hw5]
  clear hw5
  go_wp2_with (first | (go_at_call 99; refine (HS.out _).mono ?_; rintro r w9 ⟨rfl, hb⟩; have zz := six_on hb ⟨c0, c1, p0, p1, p2', p3⟩; clear c0 c1 p0 p1 p2' p3; obtain ⟨c0, c1, p0, p1, p2', p3⟩ := zz; have HB := hidden (HB.out.trans (hb.mono HB.out.size)); clear hb) | (go_at_call 65; refine (HP.out _).mono ?_; rintro r w9 ⟨rfl, hb⟩; have zz := six_on hb ⟨c0, c1, p0, p1, p2', p3⟩; clear c0 c1 p0 p1 p2' p3; obtain ⟨c0, c1, p0, p1, p2', p3⟩ := zz; have HB := hidden (HB.out.trans (hb.mono HB.out.size)); clear hb))
  go_ret2
  exact ⟨rfl, HB.out⟩
theorem pwb_ff_ft (m x : Nat) (a K E M R Q Q1 kk : Int) (w : World)
    (HO : Hid (∀ w, Calls Tryz.prog 68 #[fmtV m x, .int .u64 a] w fun r w' => r = .returned (.tuple #[partsV K false E M, .int .i64 0]) ∧ Below w.heap.size w w'))
    (HS : Hid (∀ w, Calls Tryz.prog 99 #[.int .u64 M, .int .i64 kk] w fun r w' => r = .returned (.tuple #[.int .u64 Q, .bool false]) ∧ Below w.heap.size w w'))
    (HP : Hid (∀ w, Calls Tryz.prog 65 #[fmtV m x, .bool false, .int .u64 0, .int .u64 Q, .int .i64 0, .bool false] w fun r w' => r = .returned (.tuple #[.int .u64 R, .int .i64 0]) ∧ Below w.heap.size w w'))
    (k4 : (K == 4) = false)
    (k2 : (K != 2) = false)
    (he : E < 0)
    (hk : IntKind.i64.wrap (-E) = kk)
    : Calls Tryz.prog 70 #[fmtV m x, .int .u64 a, .bool true] w fun r w' => r = .returned (.tuple #[.int .u64 R, .int .i64 0]) ∧ Below w.heap.size w w' := by
  go_enter Tryz.func70, Tryz.ntmps70
  go_wp2_with fail
  refine (HO.out _).mono ?_
  rintro r w1 ⟨rfl, hb1⟩
  obtain ⟨w5, hw5, hx, c0, c1, p0, p1, p2', p3⟩ := open_box m x K E M false w w1 hb1
  have HB := hidden hx
  clear hx hb1
  go_upto_region 2 with fail
  change Code.wp _ _ _ _ (w1.alloc (prt K false E M))
  rw [← hw5]
  clear hw5
  go_wp2_with (first | (go_at_call 99; refine (HS.out _).mono ?_; rintro r w9 ⟨rfl, hb⟩; have zz := six_on hb ⟨c0, c1, p0, p1, p2', p3⟩; clear c0 c1 p0 p1 p2' p3; obtain ⟨c0, c1, p0, p1, p2', p3⟩ := zz; have HB := hidden (HB.out.trans (hb.mono HB.out.size)); clear hb) | (go_at_call 65; refine (HP.out _).mono ?_; rintro r w9 ⟨rfl, hb⟩; have zz := six_on hb ⟨c0, c1, p0, p1, p2', p3⟩; clear c0 c1 p0 p1 p2' p3; obtain ⟨c0, c1, p0, p1, p2', p3⟩ := zz; have HB := hidden (HB.out.trans (hb.mono HB.out.size)); clear hb))
  go_ret2
  exact ⟨rfl, HB.out⟩
theorem pwb_ff_ff (m x : Nat) (a K E M R Q Q1 kk : Int) (w : World)
    (HO : Hid (∀ w, Calls Tryz.prog 68 #[fmtV m x, .int .u64 a] w fun r w' => r = .returned (.tuple #[partsV K false E M, .int .i64 0]) ∧ Below w.heap.size w w'))
    (HS : Hid (∀ w, Calls Tryz.prog 99 #[.int .u64 M, .int .i64 kk] w fun r w' => r = .returned (.tuple #[.int .u64 Q, .bool false]) ∧ Below w.heap.size w w'))
    (HP : Hid (∀ w, Calls Tryz.prog 65 #[fmtV m x, .bool false, .int .u64 0, .int .u64 Q, .int .i64 0, .bool false] w fun r w' => r = .returned (.tuple #[.int .u64 R, .int .i64 0]) ∧ Below w.heap.size w w'))
    (k4 : (K == 4) = false)
    (k2 : (K != 2) = false)
    (he : E < 0)
    (hk : IntKind.i64.wrap (-E) = kk)
    : Calls Tryz.prog 70 #[fmtV m x, .int .u64 a, .bool false] w fun r w' => r = .returned (.tuple #[.int .u64 R, .int .i64 0]) ∧ Below w.heap.size w w' := by
  go_enter Tryz.func70, Tryz.ntmps70
  go_wp2_with fail
  refine (HO.out _).mono ?_
  rintro r w1 ⟨rfl, hb1⟩
  obtain ⟨w5, hw5, hx, c0, c1, p0, p1, p2', p3⟩ := open_box m x K E M false w w1 hb1
  have HB := hidden hx
  clear hx hb1
  go_upto_region 2 with fail
  change Code.wp _ _ _ _ (w1.alloc (prt K false E M))
  rw [← hw5]
  clear hw5
  go_wp2_with (first | (go_at_call 99; refine (HS.out _).mono ?_; rintro r w9 ⟨rfl, hb⟩; have zz := six_on hb ⟨c0, c1, p0, p1, p2', p3⟩; clear c0 c1 p0 p1 p2' p3; obtain ⟨c0, c1, p0, p1, p2', p3⟩ := zz; have HB := hidden (HB.out.trans (hb.mono HB.out.size)); clear hb) | (go_at_call 65; refine (HP.out _).mono ?_; rintro r w9 ⟨rfl, hb⟩; have zz := six_on hb ⟨c0, c1, p0, p1, p2', p3⟩; clear c0 c1 p0 p1 p2' p3; obtain ⟨c0, c1, p0, p1, p2', p3⟩ := zz; have HB := hidden (HB.out.trans (hb.mono HB.out.size)); clear hb))
  go_ret2
  exact ⟨rfl, HB.out⟩
end Go.Proofs.YtbfbdemknggpkaaGreatDoor
namespace Go.Proofs.YtbfbdemknggpkaaGreatDoor
open Go.RowKit
set_option maxRecDepth 100000
set_option maxHeartbeats 400000
set_option linter.unusedVariables false

theorem pceil (m x a R g : Int) (w : World)
    (HW : Hid (∀ w, Calls Tryz.prog 70 #[.agg #[.int .i64 m, .int .i64 x], .int .u64 a, .bool false] w fun r w' => r = .returned (.tuple #[.int .u64 R, .int .i64 g]) ∧ Below w.heap.size w w')) :
    Calls Tryz.prog 31 #[.agg #[.int .i64 m, .int .i64 x], .int .u64 a] w fun r w' => r = .returned (.tuple #[.int .u64 R, .int .i64 g]) ∧ Below w.heap.size w w' := by
  go_enter Tryz.func31, Tryz.ntmps31
  go_wp2_with (go_at_call 70; refine (HW.out _).mono ?_; rintro r w1 ⟨rfl, hb⟩)
  go_ret2
  exact ⟨rfl, box_below _ hb⟩
theorem pfloor (m x a R g : Int) (w : World)
    (HW : Hid (∀ w, Calls Tryz.prog 70 #[.agg #[.int .i64 m, .int .i64 x], .int .u64 a, .bool true] w fun r w' => r = .returned (.tuple #[.int .u64 R, .int .i64 g]) ∧ Below w.heap.size w w')) :
    Calls Tryz.prog 32 #[.agg #[.int .i64 m, .int .i64 x], .int .u64 a] w fun r w' => r = .returned (.tuple #[.int .u64 R, .int .i64 g]) ∧ Below w.heap.size w w' := by
  go_enter Tryz.func32, Tryz.ntmps32
  go_wp2_with (go_at_call 70; refine (HW.out _).mono ?_; rintro r w1 ⟨rfl, hb⟩)
  go_ret2
  exact ⟨rfl, box_below _ hb⟩
/-- a pattern's rank -/
def rankI (k : Nat) (a : Int) : Int := if p2 k ≤ a then -(a % p2 k) else a % p2 k
theorem prank (m x : Nat) (a : Int) (w : World) (hok : okF m x) (a0 : 0 ≤ a) (a1 : a < p2 (m + x + 1)) :
    Calls Tryz.prog 106 #[fmtV m x, .int .u64 a] w fun r w' => r = .returned (.int .i64 (rankI (m + x) a)) ∧ Below w.heap.size w w' := by
  have HS := hidden (fun w => psignbit_any m x w hok)
  have hk : m + x ≤ 63 := by have := hok.2.1; have := hok.2.2.2; omega
  have h63 := p2_le63 hk
  have hp := p2_pos (m + x)
  have a2 : a < 18446744073709551616 := by rw [p2_succ] at a1; omega
  have k1 := andnot_top (m + x) a hk a0 a1 a2
  have k2 := andtop (m + x) a hk a0 a1 a2
  have r0 := Int.emod_nonneg a (show p2 (m + x) ≠ 0 by omega)
  have r1 := Int.emod_lt_of_pos a hp
  unfold rankI
  generalize a % p2 (m + x) = S at *
  generalize p2 (m + x) = P at *
  have k3 : IntKind.i64.wrap S = S := wrapi _ (by omega) (by omega)
  have k4 : IntKind.i64.wrap (-S) = -S := wrapi _ (by omega) (by omega)
  by_cases h : P ≤ a
  · rw [if_pos h] at k2 ⊢
    have hz : (P != 0) = true := by simp; omega
    go_enter Tryz.func106, Tryz.ntmps106
    go_wp2_with fail
    refine (HS.out _).mono ?_
    rintro r w1 ⟨rfl, hb1⟩
    have c0 : w1.cell? ⟨w.heap.size, 0, none⟩ = some (.int .i64 m) := cellLater hb1 (by simp)
    have c1 : w1.cell? ⟨w.heap.size, 1, none⟩ = some (.int .i64 x) := cellLater hb1 (by simp)
    have HB := hidden (box_below _ hb1)
    clear hb1
    go_wp2_with (go_at_call 62; refine (HS.out _).mono ?_; rintro r w2 ⟨rfl, hb2⟩)
    go_ret
    exact ⟨rfl, HB.out.trans (hb2.mono HB.out.size)⟩
  · rw [if_neg h] at k2 ⊢
    go_enter Tryz.func106, Tryz.ntmps106
    go_wp2_with fail
    refine (HS.out _).mono ?_
    rintro r w1 ⟨rfl, hb1⟩
    have c0 : w1.cell? ⟨w.heap.size, 0, none⟩ = some (.int .i64 m) := cellLater hb1 (by simp)
    have c1 : w1.cell? ⟨w.heap.size, 1, none⟩ = some (.int .i64 x) := cellLater hb1 (by simp)
    have HB := hidden (box_below _ hb1)
    clear hb1
    go_wp2_with (go_at_call 62; refine (HS.out _).mono ?_; rintro r w2 ⟨rfl, hb2⟩)
    go_ret
    exact ⟨rfl, HB.out.trans (hb2.mono HB.out.size)⟩
def cmpZ (a b : Int) : Int := if a < b then -1 else if b < a then 1 else 0
theorem pisnan (a : Int) (w : World) : Calls Tryz.prog 107 #[.int .i64 a] w fun r w' => r = .returned (.bool false) ∧ w' = w := by
  have h : (a != a) = false := by simp
  go_enter Tryz.func107, Tryz.ntmps107
  go_wp2
  go_ret
  exact ⟨rfl, rfl⟩
theorem pcompare (a b : Int) (w : World) : Calls Tryz.prog 105 #[.int .i64 a, .int .i64 b] w fun r w' => r = .returned (.int .i64 (cmpZ a b)) ∧ w' = w := by
  unfold cmpZ
  by_cases h1 : a < b
  · rw [if_pos h1]
    go_enter Tryz.func105, Tryz.ntmps105
    go_wp2_with (go_at_call 107; refine (pisnan _ _).mono ?_; rintro r w1 ⟨rfl, hw1⟩; obtain rfl := hw1.symm)
    go_ret
    exact ⟨rfl, rfl⟩
  · rw [if_neg h1]
    by_cases h2 : b < a
    · rw [if_pos h2]
      go_enter Tryz.func105, Tryz.ntmps105
      go_wp2_with (go_at_call 107; refine (pisnan _ _).mono ?_; rintro r w1 ⟨rfl, hw1⟩; obtain rfl := hw1.symm)
      go_ret
      exact ⟨rfl, rfl⟩
    · rw [if_neg h2]
      go_enter Tryz.func105, Tryz.ntmps105
      go_wp2_with (go_at_call 107; refine (pisnan _ _).mono ?_; rintro r w1 ⟨rfl, hw1⟩; obtain rfl := hw1.symm)
      go_ret
      exact ⟨rfl, rfl⟩
theorem pcmp_err (m x a b : Int) (w : World)
    (HO : Hid (∀ w, Calls Tryz.prog 56 #[.agg #[.int .i64 m, .int .i64 x], .int .u64 a, .int .u64 b] w fun r w' => r = .returned (.tuple #[partsV 0 false 0 0, partsV 0 false 0 0, .int .i64 1]) ∧ Below w.heap.size w w')) :
    Calls Tryz.prog 101 #[.agg #[.int .i64 m, .int .i64 x], .int .u64 a, .int .u64 b] w fun r w' => r = .returned (.tuple #[.int .i64 0, .bool false, .int .i64 1]) ∧ Below w.heap.size w w' := by
  go_enter Tryz.func101, Tryz.ntmps101
  go_wp2_with fail
  refine (HO.out _).mono ?_
  rintro r w1 ⟨rfl, hb1⟩
  have HB1 := hidden (box_below _ hb1)
  clear hb1
  go_wp2
  go_ret3
  refine ⟨rfl, ?_⟩
  have h0 := HB1.out
  exact (h0.alloc h0.size _).alloc (by have := h0.size; simp; omega) _
theorem pcmp_nan (m x : Nat) (a b K1 E1 M1 K2 E2 M2 : Int) (n1 n2 : Bool) (w : World)
    (HO : Hid (∀ w, Calls Tryz.prog 56 #[fmtV m x, .int .u64 a, .int .u64 b] w fun r w' => r = .returned (.tuple #[partsV K1 n1 E1 M1, partsV K2 n2 E2 M2, .int .i64 0]) ∧ Below w.heap.size w w'))
    (HE4 : Hid (∀ w, Calls Tryz.prog 57 #[partsV K1 n1 E1 M1, partsV K2 n2 E2 M2, .int .i64 4] w fun r w' => r = .returned (.bool true) ∧ Below w.heap.size w w'))
    : Calls Tryz.prog 101 #[fmtV m x, .int .u64 a, .int .u64 b] w fun r w' => r = .returned (.tuple #[.int .i64 0, .bool false, .int .i64 0]) ∧ Below w.heap.size w w' := by
  go_enter Tryz.func101, Tryz.ntmps101
  go_wp2_with fail
  refine (HO.out _).mono ?_
  rintro r w1 ⟨rfl, hb1⟩
  obtain ⟨w5, hw5, hx, c0, c1, p0, p1, p2', p3, q0, q1, q2', q3⟩ := open_boxes m x K1 E1 M1 K2 E2 M2 n1 n2 w w1 hb1
  have HB := hidden hx
  clear hx hb1
  go_upto_region 2 with fail
  change Code.wp _ _ _ _ ((w1.alloc (prt K1 n1 E1 M1)).alloc (prt K2 n2 E2 M2))
  rw [← hw5]
  clear hw5
  go_wp2_with (first | (go_at_call_of 57 (Value.int IntKind.i64 4); refine (HE4.out _).mono ?_; rintro r w9 ⟨rfl, hb⟩; have zz := ten_later hb ⟨c0, c1, p0, p1, p2', p3, q0, q1, q2', q3⟩; clear c0 c1 p0 p1 p2' p3 q0 q1 q2' q3; obtain ⟨c0, c1, p0, p1, p2', p3, q0, q1, q2', q3⟩ := zz; have HB := hidden (HB.out.trans (hb.mono HB.out.size)); clear hb))
  go_ret3
  exact ⟨rfl, HB.out⟩
theorem pcmp_num (m x : Nat) (a b K1 E1 M1 K2 E2 M2 ra rb : Int) (n1 n2 : Bool) (w : World)
    (HO : Hid (∀ w, Calls Tryz.prog 56 #[fmtV m x, .int .u64 a, .int .u64 b] w fun r w' => r = .returned (.tuple #[partsV K1 n1 E1 M1, partsV K2 n2 E2 M2, .int .i64 0]) ∧ Below w.heap.size w w'))
    (HE4 : Hid (∀ w, Calls Tryz.prog 57 #[partsV K1 n1 E1 M1, partsV K2 n2 E2 M2, .int .i64 4] w fun r w' => r = .returned (.bool false) ∧ Below w.heap.size w w'))
    (HR1 : Hid (∀ w, Calls Tryz.prog 106 #[fmtV m x, .int .u64 a] w fun r w' => r = .returned (.int .i64 ra) ∧ Below w.heap.size w w'))
    (HR2 : Hid (∀ w, Calls Tryz.prog 106 #[fmtV m x, .int .u64 b] w fun r w' => r = .returned (.int .i64 rb) ∧ Below w.heap.size w w'))
    : Calls Tryz.prog 101 #[fmtV m x, .int .u64 a, .int .u64 b] w fun r w' => r = .returned (.tuple #[.int .i64 (cmpZ ra rb), .bool true, .int .i64 0]) ∧ Below w.heap.size w w' := by
  go_enter Tryz.func101, Tryz.ntmps101
  go_wp2_with fail
  refine (HO.out _).mono ?_
  rintro r w1 ⟨rfl, hb1⟩
  obtain ⟨w5, hw5, hx, c0, c1, p0, p1, p2', p3, q0, q1, q2', q3⟩ := open_boxes m x K1 E1 M1 K2 E2 M2 n1 n2 w w1 hb1
  have HB := hidden hx
  clear hx hb1
  go_upto_region 2 with fail
  change Code.wp _ _ _ _ ((w1.alloc (prt K1 n1 E1 M1)).alloc (prt K2 n2 E2 M2))
  rw [← hw5]
  clear hw5
  go_upto_region 6 with (first | (go_at_call_of 57 (Value.int IntKind.i64 4); refine (HE4.out _).mono ?_; rintro r w9 ⟨rfl, hb⟩; have zz := ten_later hb ⟨c0, c1, p0, p1, p2', p3, q0, q1, q2', q3⟩; clear c0 c1 p0 p1 p2' p3 q0 q1 q2' q3; obtain ⟨c0, c1, p0, p1, p2', p3, q0, q1, q2', q3⟩ := zz; have HB := hidden (HB.out.trans (hb.mono HB.out.size)); clear hb))
  go_region_held3 (fun w' => w'.cell? ⟨w.heap.size, 0, none⟩ = some (.int .i64 m) ∧ w'.cell? ⟨w.heap.size, 1, none⟩ = some (.int .i64 x)) (go_keep) (first | (go_at_call_of 106 (Value.int IntKind.u64 a); refine (HR1.out _).mono ?_; rintro r w9 ⟨rfl, hb⟩; have c0 : w9.cell? ⟨w.heap.size, 0, none⟩ = some (.int .i64 m) := cellLater hb (by go_keep); have c1 : w9.cell? ⟨w.heap.size, 1, none⟩ = some (.int .i64 x) := cellLater hb (by go_keep); have HB : Hid (Below w.heap.size w w9) := hidden (by first | exact HB.out.trans (hb.mono HB.out.size) | exact HB.out.drew.trans (hb.mono HB.out.drew.size)); clear hb) | (go_at_call_of 106 (Value.int IntKind.u64 b); refine (HR2.out _).mono ?_; rintro r w9 ⟨rfl, hb⟩; have c0 : w9.cell? ⟨w.heap.size, 0, none⟩ = some (.int .i64 m) := cellLater hb (by go_keep); have c1 : w9.cell? ⟨w.heap.size, 1, none⟩ = some (.int .i64 x) := cellLater hb (by go_keep); have HB : Hid (Below w.heap.size w w9) := hidden (by first | exact HB.out.trans (hb.mono HB.out.size) | exact HB.out.drew.trans (hb.mono HB.out.drew.size)); clear hb) | (go_at_call 105; refine (pcompare _ _ _).mono ?_; rintro r w9 ⟨rfl, hw9⟩; obtain rfl := hw9.symm))
  all_goals
    go_wp2
    go_ret3
    exact ⟨rfl, by first | exact HB.out | exact HB.out.drew⟩
theorem psub_walk (m x a b P TB R g : Int) (w : World) (hx : bits .xor .u64 b P = TB)
    (HS : Hid (∀ w, Calls Tryz.prog 62 #[.agg #[.int .i64 m, .int .i64 x]] w fun r w' => r = .returned (.int .u64 P) ∧ Below w.heap.size w w'))
    (HA : Hid (∀ w, Calls Tryz.prog 25 #[.agg #[.int .i64 m, .int .i64 x], .int .u64 a, .int .u64 TB] w fun r w' => r = .returned (.tuple #[.int .u64 R, .int .i64 g]) ∧ Below w.heap.size w w')) :
    Calls Tryz.prog 26 #[.agg #[.int .i64 m, .int .i64 x], .int .u64 a, .int .u64 b] w fun r w' => r = .returned (.tuple #[.int .u64 R, .int .i64 g]) ∧ Below w.heap.size w w' := by
  have c0 : (w.alloc (.cells #[.int .i64 m, .int .i64 x] 37)).cell? ⟨w.heap.size, 0, none⟩ = some (.int .i64 m) := by simp
  have c1 : (w.alloc (.cells #[.int .i64 m, .int .i64 x] 37)).cell? ⟨w.heap.size, 1, none⟩ = some (.int .i64 x) := by simp
  have HB := hidden ((Below.refl w.heap.size w).alloc (Nat.le_refl _) (.cells #[.int .i64 m, .int .i64 x] 37))
  go_enter Tryz.func26, Tryz.ntmps26
  go_upto_region 1 with fail
  generalize w.alloc (.cells #[.int .i64 m, .int .i64 x] 37) = w5 at *
  go_region_held3 (fun w' => w'.cell? ⟨w.heap.size, 0, none⟩ = some (.int .i64 m) ∧ w'.cell? ⟨w.heap.size, 1, none⟩ = some (.int .i64 x)) (go_keep) (first | (go_at_call 62; refine (HS.out _).mono ?_; rintro r w9 ⟨rfl, hb⟩; have c0 : w9.cell? ⟨w.heap.size, 0, none⟩ = some (.int .i64 m) := cellLater hb (by go_keep); have c1 : w9.cell? ⟨w.heap.size, 1, none⟩ = some (.int .i64 x) := cellLater hb (by go_keep); have HB : Hid (Below w.heap.size w w9) := hidden (by first | exact HB.out.trans (hb.mono HB.out.size) | exact HB.out.drew.trans (hb.mono HB.out.drew.size)); clear hb) | (go_at_call 25; refine (HA.out _).mono ?_; rintro r w9 ⟨rfl, hb⟩; have c0 : w9.cell? ⟨w.heap.size, 0, none⟩ = some (.int .i64 m) := cellLater hb (by go_keep); have c1 : w9.cell? ⟨w.heap.size, 1, none⟩ = some (.int .i64 x) := cellLater hb (by go_keep); have HB : Hid (Below w.heap.size w w9) := hidden (by first | exact HB.out.trans (hb.mono HB.out.size) | exact HB.out.drew.trans (hb.mono HB.out.drew.size)); clear hb))
  all_goals
    go_wp2
    go_ret2
    exact ⟨rfl, by first | exact HB.out | exact HB.out.drew⟩
end Go.Proofs.YtbfbdemknggpkaaGreatDoor
namespace Go.Proofs.YtbfbdemknggpkaaGreatDoor
open Go.RowKit
set_option maxRecDepth 100000
set_option maxHeartbeats 400000
set_option linter.unusedVariables false

abbrev MulC (a b hi lo : Int) : Prop := Hid (∀ w, Calls Tryz.prog 64 #[.int .u64 a, .int .u64 b] w fun r w' => r = .returned (.tuple #[.int .u64 hi, .int .u64 lo]) ∧ w' = w)
abbrev AddC (a b lo ca : Int) : Prop := Hid (∀ w, (callFunc 89 #[.int .u64 a, .int .u64 b, .int .u64 0]).run Tryz.prog w = .ok (.value (.tuple #[.int .u64 lo, .int .u64 ca])) w)
abbrev SubC (a b lo ca : Int) : Prop := Hid (∀ w, (callFunc 90 #[.int .u64 a, .int .u64 b, .int .u64 0]).run Tryz.prog w = .ok (.value (.tuple #[.int .u64 lo, .int .u64 ca])) w)
abbrev PackC (m x : Nat) (n : Bool) (hi lo e : Int) (mo : Bool) (R : Int) : Prop := Hid (∀ w, Calls Tryz.prog 65 #[fmtV m x, .bool n, .int .u64 hi, .int .u64 lo, .int .i64 e, .bool mo] w fun r w' => r = .returned (.tuple #[.int .u64 R, .int .i64 0]) ∧ Below w.heap.size w w')
theorem shl_one (k : Nat) (h : k ≤ 63) : IntKind.u64.wrap (2 ^ k) = p2 k ∧ IntKind.u64.wrap (1 * 2 ^ k) = p2 k := by
  have h1 := p2_lt64 h
  have h0 := p2_pos k
  rw [Int.one_mul, IntKind.wrap_u64]
  show p2 k % _ = _ ∧ p2 k % _ = _
  omega
theorem mul_bd53 (M : Int) (k : Nat) (h0 : 0 < M) (h1 : M < 9007199254740992) (hk : k ≤ 63) : 0 < M * p2 k ∧ M * p2 k < 166153499473114484112975882535043072 := by
  refine ⟨Int.mul_pos h0 (p2_pos k), ?_⟩
  have h2 : M * p2 k < 9007199254740992 * p2 k := Int.mul_lt_mul_of_pos_right h1 (p2_pos k)
  have h3 := p2_le63 hk
  omega
theorem sum_same_l (m x k : Nat) (E1 M1 E2 M2 : Int) (n : Bool) (hok : okF m x) (f1 : FinP m x E1 M1) (f2 : FinP m x E2 M2) (hk : E1 - E2 = k) (h63 : k ≤ 63) :
    ∃ hi lo low car HI, MulC M1 (p2 k) hi lo ∧ AddC lo M2 low car ∧ IntKind.u64.wrap (hi + car) = HI ∧ PackC m x n HI low E2 false (sumI m x n E1 M1 n E2 M2) := by
  obtain ⟨r1, r2, r3, r4⟩ := f1.rng hok
  obtain ⟨s1, s2, s3, s4⟩ := f2.rng hok
  obtain ⟨x0, x1⟩ := mul_bd53 M1 k r3 r4 h63
  have hp := p2_pos k
  have hp1 := p2_lt64 h63
  refine ⟨M1 * p2 k / 18446744073709551616, M1 * p2 k % 18446744073709551616, (M1 * p2 k % 18446744073709551616 + M2) % 18446744073709551616, (M1 * p2 k % 18446744073709551616 + M2) / 18446744073709551616, M1 * p2 k / 18446744073709551616 + (M1 * p2 k % 18446744073709551616 + M2) / 18446744073709551616, ?_, ?_, ?_, ?_⟩
  · exact hidden fun w => pmul64 M1 (p2 k) w (by omega) (by omega) (by omega) (by omega)
  · exact hidden fun w => padd64 _ M2 w (by omega) (by omega) (by omega) (by omega)
  · rw [IntKind.wrap_u64]; omega
  · refine hidden fun w => ?_
    have h := ppack_any m x n false (M1 * p2 k + M2) (M1 * p2 k / 18446744073709551616 + (M1 * p2 k % 18446744073709551616 + M2) / 18446744073709551616) ((M1 * p2 k % 18446744073709551616 + M2) % 18446744073709551616) E2 w hok (by omega) (by omega) (by omega) (by omega) (by omega) (by omega) (by omega) (fun h => by cases h)
    rw [sum_same m x n E1 M1 E2 M2 k hk r3 s3]
    exact h
theorem sum_diff_l (m x k : Nat) (E1 M1 E2 M2 : Int) (n : Bool) (hok : okF m x) (f1 : FinP m x E1 M1) (f2 : FinP m x E2 M2) (hk : E1 - E2 = k) (h63 : k ≤ 63) (ho : ¬ (E1 < E2 ∨ (E1 = E2 ∧ M1 < M2))) :
    ∃ hi lo low car HI NG, MulC M1 (p2 k) hi lo ∧ SubC lo M2 low car ∧ IntKind.u64.wrap (hi - car) = HI ∧ Hid (NG = (n && (HI != 0 || low != 0))) ∧ PackC m x NG HI low E2 false (sumI m x n E1 M1 (!n) E2 M2) := by
  obtain ⟨r1, r2, r3, r4⟩ := f1.rng hok
  obtain ⟨s1, s2, s3, s4⟩ := f2.rng hok
  obtain ⟨x0, x1⟩ := mul_bd53 M1 k r3 r4 h63
  have hle := ord_le m x E1 M1 E2 M2 k hk f1 f2 ho
  have hp := p2_pos k
  have hp1 := p2_lt64 h63
  have HM : MulC M1 (p2 k) (M1 * p2 k / 18446744073709551616) (M1 * p2 k % 18446744073709551616) := hidden fun w => pmul64 M1 (p2 k) w (by omega) (by omega) (by omega) (by omega)
  have HI := sum_diff m x n E1 M1 E2 M2 k hk hle
  generalize M1 * p2 k = X at *
  have HW : X / 18446744073709551616 - (if X % 18446744073709551616 < M2 then 1 else 0) = (X - M2) / 18446744073709551616 ∧ (X % 18446744073709551616 - M2) % 18446744073709551616 = (X - M2) % 18446744073709551616 := by
    split <;> omega
  refine ⟨X / 18446744073709551616, X % 18446744073709551616, (X % 18446744073709551616 - M2) % 18446744073709551616, (if X % 18446744073709551616 < M2 then 1 else 0), (X - M2) / 18446744073709551616, n && decide (X - M2 ≠ 0), HM, ?_, ?_, ?_, ?_⟩
  · exact hidden fun w => psub64 _ M2 w (by omega) (by omega) (by omega) (by omega)
  · rw [HW.1, IntKind.wrap_u64]; omega
  · refine hidden ?_
    rw [HW.2]
    congr 1
    by_cases h : X - M2 = 0
    · rw [h]; rfl
    · rw [decide_eq_true h]
      by_cases h2 : (X - M2) / 18446744073709551616 = 0
      · have h3 : (X - M2) % 18446744073709551616 ≠ 0 := by omega
        simp [h3]
      · simp [h2]
  · refine hidden fun w => ?_
    have h := ppack_any m x (n && decide (X - M2 ≠ 0)) false (X - M2) ((X - M2) / 18446744073709551616) ((X - M2) % 18446744073709551616) E2 w hok (by omega) (by omega) (by omega) (by omega) (by omega) (by omega) (by omega) (fun h => by cases h)
    rw [HI, HW.2]
    exact h
theorem sum_far_l (m x k : Nat) (E1 M1 E2 M2 : Int) (n1 n2 : Bool) (hok : okF m x) (f1 : FinP m x E1 M1) (f2 : FinP m x E2 M2) (hk : E1 - E2 = k) (h63 : 63 < k) :
    PackC m x n1 0 M1 E1 false (sumI m x n1 E1 M1 n2 E2 M2) := by
  obtain ⟨r1, r2, r3, r4⟩ := f1.rng hok
  have hx : 2 ≤ x := by have := hok.2.2.1; omega
  have hm : m ≤ 52 := by have := hok.2.1; omega
  refine hidden fun w => ?_
  have h := ppack_any m x n1 false M1 0 M1 E1 w hok (by omega) (by omega) (by omega) (by omega) (by omega) (by omega) (by omega) (fun h => by cases h)
  have e : sumI m x n1 E1 M1 n2 E2 M2 = packP m x M1 E1 false + sgnW n1 (m + x) := by
    by_cases hn : n2 = n1
    · subst hn
      rw [sum_same m x n2 E1 M1 E2 M2 k hk r3 f2.1, far_plus m x E1 M1 E2 M2 k hm hx hk h63 f1 f2]
    · obtain rfl : n2 = !n1 := by cases n1 <;> cases n2 <;> simp_all
      have hle := ord_le m x E1 M1 E2 M2 k hk f1 f2 (by omega)
      rw [sum_diff m x n1 E1 M1 E2 M2 k hk hle, far_minus m x E1 M1 E2 M2 k hm hx hk h63 f1 f2]
      have hne : M1 * p2 k - M2 ≠ 0 := by
        intro h0
        have h1 := far_minus m x E1 M1 E2 M2 k hm hx hk h63 f1 f2
        rw [h0] at h1
        have h2 : p2 k ≤ M1 * p2 k := by
          have := Int.mul_le_mul_of_nonneg_right (show 1 ≤ M1 by omega) (Int.le_of_lt (p2_pos k))
          omega
        have h3 : p2 64 ≤ p2 k := p2_mono (by omega)
        rw [p2_64] at h3
        have := (f2.rng hok).2.2.2
        omega
      rw [decide_eq_true hne, Bool.and_true]
  rw [e]
  exact h
theorem psum_any (m x : Nat) (E1 M1 E2 M2 K1 K2 : Int) (n1 n2 : Bool) (w : World) (hok : okF m x) (f1 : FinP m x E1 M1) (f2 : FinP m x E2 M2) :
    Calls Tryz.prog 61 #[fmtV m x, partsV K1 n1 E1 M1, partsV K2 n2 E2 M2] w fun r w' => r = .returned (.tuple #[.int .u64 (sumI m x n1 E1 M1 n2 E2 M2), .int .i64 0]) ∧ Below w.heap.size w w' := by
  have r := f1.rng hok
  have s := f2.rng hok
  by_cases ho : E1 < E2 ∨ (E1 = E2 ∧ M1 < M2)
  · -- the second one is greater
    obtain ⟨k, hk⟩ : ∃ k : Nat, E2 - E1 = k := ⟨(E2 - E1).toNat, by omega⟩
    have hw : IntKind.i64.wrap (E2 - E1) = k := by rw [wrapi _ (by omega) (by omega)]; exact hk
    have ho' : (E1 < E2) ∨ (¬ E1 < E2 ∧ (E1 == E2) = true ∧ M1 < M2) := by
      rcases ho with h | ⟨h, h'⟩
      · exact .inl h
      · exact .inr ⟨by omega, by simpa using h, h'⟩
    have hno : ¬ (E2 < E1 ∨ (E2 = E1 ∧ M2 < M1)) := by omega
    rw [sumI_comm]
    by_cases h63 : k ≤ 63
    · obtain ⟨g1, g2⟩ := shl_one k h63
      by_cases hn : n1 = n2
      · subst hn
        obtain ⟨hi, lo, low, car, HI, a, b, c, d⟩ := sum_same_l m x k E2 M2 E1 M1 n1 hok f2 f1 hk h63
        exact psum_same_sw m x k E2 M2 E1 M1 K2 K1 hi lo low car HI (p2 k) _ n1 w ho' hw (by omega) g1 g2 a b c d
      · obtain rfl : n1 = !n2 := by cases n1 <;> cases n2 <;> simp_all
        obtain ⟨hi, lo, low, car, HI, NG, a, b, c, d, e⟩ := sum_diff_l m x k E2 M2 E1 M1 n2 hok f2 f1 hk h63 hno
        exact psum_diff_sw m x k E2 M2 E1 M1 K2 K1 hi lo low car HI (p2 k) _ n2 (!n2) NG w ho' (by cases n2 <;> rfl) hw (by omega) g1 g2 a b c d e
    · exact psum_far_sw m x k E2 M2 E1 M1 K2 K1 0 0 0 0 0 0 _ n2 n1 w ho' hw (by omega) (sum_far_l m x k E2 M2 E1 M1 n2 n1 hok f2 f1 hk (by omega))
  · obtain ⟨k, hk⟩ : ∃ k : Nat, E1 - E2 = k := ⟨(E1 - E2).toNat, by omega⟩
    have hw : IntKind.i64.wrap (E1 - E2) = k := by rw [wrapi _ (by omega) (by omega)]; exact hk
    have ho' : (¬ E1 < E2 ∧ (E1 == E2) = false) ∨ (¬ E1 < E2 ∧ (E1 == E2) = true ∧ ¬ M1 < M2) := by
      by_cases h : E1 = E2
      · exact .inr ⟨by omega, by simpa using h, by omega⟩
      · exact .inl ⟨by omega, by simpa using h⟩
    by_cases h63 : k ≤ 63
    · obtain ⟨g1, g2⟩ := shl_one k h63
      by_cases hn : n2 = n1
      · subst hn
        obtain ⟨hi, lo, low, car, HI, a, b, c, d⟩ := sum_same_l m x k E1 M1 E2 M2 n2 hok f1 f2 hk h63
        exact psum_same m x k E1 M1 E2 M2 K1 K2 hi lo low car HI (p2 k) _ n2 w ho' hw (by omega) g1 g2 a b c d
      · obtain rfl : n2 = !n1 := by cases n1 <;> cases n2 <;> simp_all
        obtain ⟨hi, lo, low, car, HI, NG, a, b, c, d, e⟩ := sum_diff_l m x k E1 M1 E2 M2 n1 hok f1 f2 hk h63 ho
        exact psum_diff m x k E1 M1 E2 M2 K1 K2 hi lo low car HI (p2 k) _ n1 (!n1) NG w ho' (by cases n1 <;> rfl) hw (by omega) g1 g2 a b c d e
    · exact psum_far m x k E1 M1 E2 M2 K1 K2 0 0 0 0 0 0 _ n1 n2 w ho' hw (by omega) (sum_far_l m x k E1 M1 E2 M2 n1 n2 hok f1 f2 hk (by omega))
end Go.Proofs.YtbfbdemknggpkaaGreatDoor
namespace Go.Proofs.YtbfbdemknggpkaaGreatDoor
open Go.RowKit
set_option maxRecDepth 100000
set_option maxHeartbeats 1000000
set_option linter.unusedVariables false

theorem two_below (w : World) (a b : Obj) : Below w.heap.size w ((w.alloc a).alloc b) := ((Below.refl _ _).alloc (Nat.le_refl _) _).alloc (by simp) _
theorem pei (K1 E1 M1 K2 E2 M2 k : Int) (n1 n2 c : Bool) (hc : (K1 == k || K2 == k) = c) : Hid (∀ w, Calls Tryz.prog 57 #[partsV K1 n1 E1 M1, partsV K2 n2 E2 M2, .int .i64 k] w fun r w' => r = .returned (.bool c) ∧ Below w.heap.size w w') := hidden fun w => by
  refine (peither_any K1 E1 M1 K2 E2 M2 k n1 n2 w).mono ?_
  rintro r w' ⟨rfl, rfl⟩
  exact ⟨by rw [hc], two_below _ _ _⟩
theorem pbo (K1 E1 M1 K2 E2 M2 k : Int) (n1 n2 c : Bool) (hc : (K1 == k && K2 == k) = c) : Hid (∀ w, Calls Tryz.prog 59 #[partsV K1 n1 E1 M1, partsV K2 n2 E2 M2, .int .i64 k] w fun r w' => r = .returned (.bool c) ∧ Below w.heap.size w w') := hidden fun w => by
  refine (pboth_any K1 E1 M1 K2 E2 M2 k n1 n2 w).mono ?_
  rintro r w' ⟨rfl, rfl⟩
  exact ⟨by rw [hc], two_below _ _ _⟩
abbrev OpenC (m x : Nat) (a b K1 : Int) (n1 : Bool) (E1 M1 K2 : Int) (n2 : Bool) (E2 M2 : Int) : Prop := Hid (∀ w, Calls Tryz.prog 56 #[fmtV m x, .int .u64 a, .int .u64 b] w fun r w' => r = .returned (.tuple #[partsV K1 n1 E1 M1, partsV K2 n2 E2 M2, .int .i64 0]) ∧ Below w.heap.size w w')
theorem mulc_below {a b hi lo : Int} (h : MulC a b hi lo) : Hid (∀ w, Calls Tryz.prog 64 #[.int .u64 a, .int .u64 b] w fun r w' => r = .returned (.tuple #[.int .u64 hi, .int .u64 lo]) ∧ Below w.heap.size w w') := hidden fun w => by
  refine (h.out w).mono ?_
  rintro r w' ⟨rfl, rfl⟩
  exact ⟨rfl, Below.refl _ _⟩
theorem padd_k (m x : Nat) (a b K1 E1 M1 K2 E2 M2 : Int) (n1 n2 : Bool) (w : World) (hok : okF m x) (h1 : K1 = 1 ∨ K1 = 2 ∨ K1 = 3 ∨ K1 = 4) (h2 : K2 = 1 ∨ K2 = 2 ∨ K2 = 3 ∨ K2 = 4) (f1 : K1 = 2 → FinP m x E1 M1) (f2 : K2 = 2 → FinP m x E2 M2) (HO : OpenC m x a b K1 n1 E1 M1 K2 n2 E2 M2) :
    Calls Tryz.prog 25 #[fmtV m x, .int .u64 a, .int .u64 b] w fun r w' => r = .returned (.tuple #[.int .u64 (addK m x a b K1 n1 E1 M1 K2 n2 E2 M2), .int .i64 0]) ∧ Below w.heap.size w w' := by
  have HN : Hid (∀ w, Calls Tryz.prog 58 #[fmtV m x] w fun r w' => r = .returned (.int .u64 (nanI m x)) ∧ Below w.heap.size w w') := hidden fun w => pnan_any m x w hok
  have HZ : ∀ s, Hid (∀ w, Calls Tryz.prog 60 #[fmtV m x, .bool s] w fun r w' => r = .returned (.int .u64 (sgnW s (m + x))) ∧ Below w.heap.size w w') := fun s => hidden fun w => pzero_any m x s w hok
  have HI : ∀ s, Hid (∀ w, Calls Tryz.prog 63 #[fmtV m x, .bool s] w fun r w' => r = .returned (.int .u64 (infI m x s)) ∧ Below w.heap.size w w') := fun s => hidden fun w => pinf_any m x s w hok
  rcases h1 with rfl | rfl | rfl | rfl <;> rcases h2 with rfl | rfl | rfl | rfl
  · cases n1
    · rw [show addK m x a b 1 false E1 M1 1 n2 E2 M2 = sgnW (false && n2) (m + x) by simp [addK]]; exact padd_zz_f m x a b 1 E1 M1 1 E2 M2 _ n2 w HO (pei 1 E1 M1 1 E2 M2 4 _ _ _ rfl) (pbo 1 E1 M1 1 E2 M2 3 _ _ _ rfl) (pbo 1 E1 M1 1 E2 M2 1 _ _ _ rfl) (HZ _) rfl rfl
    · rw [show addK m x a b 1 true E1 M1 1 n2 E2 M2 = sgnW (true && n2) (m + x) by simp [addK]]; exact padd_zz_t m x a b 1 E1 M1 1 E2 M2 _ n2 w HO (pei 1 E1 M1 1 E2 M2 4 _ _ _ rfl) (pbo 1 E1 M1 1 E2 M2 3 _ _ _ rfl) (pbo 1 E1 M1 1 E2 M2 1 _ _ _ rfl) (HZ _) rfl rfl
  · rw [show addK m x a b 1 n1 E1 M1 2 n2 E2 M2 = b by simp [addK]]; exact padd_zb m x a b 1 E1 M1 2 E2 M2 n1 n2 w HO (pei 1 E1 M1 2 E2 M2 4 _ _ _ rfl) (pbo 1 E1 M1 2 E2 M2 3 _ _ _ rfl) (pbo 1 E1 M1 2 E2 M2 1 _ _ _ rfl) rfl rfl rfl
  · rw [show addK m x a b 1 n1 E1 M1 3 n2 E2 M2 = b by simp [addK]]; exact padd_ib m x a b 1 E1 M1 3 E2 M2 n1 n2 w HO (pei 1 E1 M1 3 E2 M2 4 _ _ _ rfl) (pbo 1 E1 M1 3 E2 M2 3 _ _ _ rfl) rfl rfl
  · rw [show addK m x a b 1 n1 E1 M1 4 n2 E2 M2 = nanI m x by simp [addK]]; exact padd_nan m x a b 1 E1 M1 4 E2 M2 _ n1 n2 w HO (pei 1 E1 M1 4 E2 M2 4 _ _ _ rfl) HN
  · rw [show addK m x a b 2 n1 E1 M1 1 n2 E2 M2 = a by simp [addK]]; exact padd_az m x a b 2 E1 M1 1 E2 M2 n1 n2 w HO (pei 2 E1 M1 1 E2 M2 4 _ _ _ rfl) (pbo 2 E1 M1 1 E2 M2 3 _ _ _ rfl) (pbo 2 E1 M1 1 E2 M2 1 _ _ _ rfl) rfl rfl rfl rfl
  · rw [show addK m x a b 2 n1 E1 M1 2 n2 E2 M2 = sumI m x n1 E1 M1 n2 E2 M2 by simp [addK]]; exact padd_sum m x a b 2 E1 M1 2 E2 M2 _ n1 n2 w HO (pei 2 E1 M1 2 E2 M2 4 _ _ _ rfl) (pbo 2 E1 M1 2 E2 M2 3 _ _ _ rfl) (pbo 2 E1 M1 2 E2 M2 1 _ _ _ rfl) (hidden fun w => psum_any m x E1 M1 E2 M2 2 2 n1 n2 w hok (f1 rfl) (f2 rfl)) rfl rfl rfl rfl
  · rw [show addK m x a b 2 n1 E1 M1 3 n2 E2 M2 = b by simp [addK]]; exact padd_ib m x a b 2 E1 M1 3 E2 M2 n1 n2 w HO (pei 2 E1 M1 3 E2 M2 4 _ _ _ rfl) (pbo 2 E1 M1 3 E2 M2 3 _ _ _ rfl) rfl rfl
  · rw [show addK m x a b 2 n1 E1 M1 4 n2 E2 M2 = nanI m x by simp [addK]]; exact padd_nan m x a b 2 E1 M1 4 E2 M2 _ n1 n2 w HO (pei 2 E1 M1 4 E2 M2 4 _ _ _ rfl) HN
  · rw [show addK m x a b 3 n1 E1 M1 1 n2 E2 M2 = a by simp [addK]]; exact padd_ia2 m x a b 3 E1 M1 1 E2 M2 n1 n2 w HO (pei 3 E1 M1 1 E2 M2 4 _ _ _ rfl) (pbo 3 E1 M1 1 E2 M2 3 _ _ _ rfl) rfl
  · rw [show addK m x a b 3 n1 E1 M1 2 n2 E2 M2 = a by simp [addK]]; exact padd_ia2 m x a b 3 E1 M1 2 E2 M2 n1 n2 w HO (pei 3 E1 M1 2 E2 M2 4 _ _ _ rfl) (pbo 3 E1 M1 2 E2 M2 3 _ _ _ rfl) rfl
  · cases n1 <;> cases n2
    · rw [show addK m x a b 3 false E1 M1 3 false E2 M2 = a by simp [addK]]; exact padd_ia1_f m x a b 3 E1 M1 3 E2 M2 w HO (pei 3 E1 M1 3 E2 M2 4 _ _ _ rfl) (pbo 3 E1 M1 3 E2 M2 3 _ _ _ rfl) rfl
    · rw [show addK m x a b 3 false E1 M1 3 true E2 M2 = nanI m x by simp [addK]]; exact padd_nan2_f m x a b 3 E1 M1 3 E2 M2 _ w HO (pei 3 E1 M1 3 E2 M2 4 _ _ _ rfl) (pbo 3 E1 M1 3 E2 M2 3 _ _ _ rfl) HN
    · rw [show addK m x a b 3 true E1 M1 3 false E2 M2 = nanI m x by simp [addK]]; exact padd_nan2_t m x a b 3 E1 M1 3 E2 M2 _ w HO (pei 3 E1 M1 3 E2 M2 4 _ _ _ rfl) (pbo 3 E1 M1 3 E2 M2 3 _ _ _ rfl) HN
    · rw [show addK m x a b 3 true E1 M1 3 true E2 M2 = a by simp [addK]]; exact padd_ia1_t m x a b 3 E1 M1 3 E2 M2 w HO (pei 3 E1 M1 3 E2 M2 4 _ _ _ rfl) (pbo 3 E1 M1 3 E2 M2 3 _ _ _ rfl) rfl
  · rw [show addK m x a b 3 n1 E1 M1 4 n2 E2 M2 = nanI m x by simp [addK]]; exact padd_nan m x a b 3 E1 M1 4 E2 M2 _ n1 n2 w HO (pei 3 E1 M1 4 E2 M2 4 _ _ _ rfl) HN
  · rw [show addK m x a b 4 n1 E1 M1 1 n2 E2 M2 = nanI m x by simp [addK]]; exact padd_nan m x a b 4 E1 M1 1 E2 M2 _ n1 n2 w HO (pei 4 E1 M1 1 E2 M2 4 _ _ _ rfl) HN
  · rw [show addK m x a b 4 n1 E1 M1 2 n2 E2 M2 = nanI m x by simp [addK]]; exact padd_nan m x a b 4 E1 M1 2 E2 M2 _ n1 n2 w HO (pei 4 E1 M1 2 E2 M2 4 _ _ _ rfl) HN
  · rw [show addK m x a b 4 n1 E1 M1 3 n2 E2 M2 = nanI m x by simp [addK]]; exact padd_nan m x a b 4 E1 M1 3 E2 M2 _ n1 n2 w HO (pei 4 E1 M1 3 E2 M2 4 _ _ _ rfl) HN
  · rw [show addK m x a b 4 n1 E1 M1 4 n2 E2 M2 = nanI m x by simp [addK]]; exact padd_nan m x a b 4 E1 M1 4 E2 M2 _ n1 n2 w HO (pei 4 E1 M1 4 E2 M2 4 _ _ _ rfl) HN
theorem pmul_k (m x : Nat) (a b K1 E1 M1 K2 E2 M2 : Int) (n1 n2 : Bool) (w : World) (hok : okF m x) (h1 : K1 = 1 ∨ K1 = 2 ∨ K1 = 3 ∨ K1 = 4) (h2 : K2 = 1 ∨ K2 = 2 ∨ K2 = 3 ∨ K2 = 4) (f1 : K1 = 2 → FinP m x E1 M1) (f2 : K2 = 2 → FinP m x E2 M2) (HO : OpenC m x a b K1 n1 E1 M1 K2 n2 E2 M2) :
    Calls Tryz.prog 27 #[fmtV m x, .int .u64 a, .int .u64 b] w fun r w' => r = .returned (.tuple #[.int .u64 (mulK m x K1 n1 E1 M1 K2 n2 E2 M2), .int .i64 0]) ∧ Below w.heap.size w w' := by
  have HN : Hid (∀ w, Calls Tryz.prog 58 #[fmtV m x] w fun r w' => r = .returned (.int .u64 (nanI m x)) ∧ Below w.heap.size w w') := hidden fun w => pnan_any m x w hok
  have HZ : ∀ s, Hid (∀ w, Calls Tryz.prog 60 #[fmtV m x, .bool s] w fun r w' => r = .returned (.int .u64 (sgnW s (m + x))) ∧ Below w.heap.size w w') := fun s => hidden fun w => pzero_any m x s w hok
  have HI : ∀ s, Hid (∀ w, Calls Tryz.prog 63 #[fmtV m x, .bool s] w fun r w' => r = .returned (.int .u64 (infI m x s)) ∧ Below w.heap.size w w') := fun s => hidden fun w => pinf_any m x s w hok
  rcases h1 with rfl | rfl | rfl | rfl <;> rcases h2 with rfl | rfl | rfl | rfl
  · rw [show mulK m x 1 n1 E1 M1 1 n2 E2 M2 = sgnW (n1 != n2) (m + x) by simp [mulK]]; exact pmul_zero m x a b 1 E1 M1 1 E2 M2 _ n1 n2 w HO (pei 1 E1 M1 1 E2 M2 4 _ _ _ rfl) (pei 1 E1 M1 1 E2 M2 3 _ _ _ rfl) (pei 1 E1 M1 1 E2 M2 1 _ _ _ rfl) (HZ _)
  · rw [show mulK m x 1 n1 E1 M1 2 n2 E2 M2 = sgnW (n1 != n2) (m + x) by simp [mulK]]; exact pmul_zero m x a b 1 E1 M1 2 E2 M2 _ n1 n2 w HO (pei 1 E1 M1 2 E2 M2 4 _ _ _ rfl) (pei 1 E1 M1 2 E2 M2 3 _ _ _ rfl) (pei 1 E1 M1 2 E2 M2 1 _ _ _ rfl) (HZ _)
  · rw [show mulK m x 1 n1 E1 M1 3 n2 E2 M2 = nanI m x by simp [mulK]]; exact pmul_nan2 m x a b 1 E1 M1 3 E2 M2 _ n1 n2 w HO (pei 1 E1 M1 3 E2 M2 4 _ _ _ rfl) (pei 1 E1 M1 3 E2 M2 3 _ _ _ rfl) (pei 1 E1 M1 3 E2 M2 1 _ _ _ rfl) HN
  · rw [show mulK m x 1 n1 E1 M1 4 n2 E2 M2 = nanI m x by simp [mulK]]; exact pmul_nan m x a b 1 E1 M1 4 E2 M2 _ n1 n2 w HO (pei 1 E1 M1 4 E2 M2 4 _ _ _ rfl) HN
  · rw [show mulK m x 2 n1 E1 M1 1 n2 E2 M2 = sgnW (n1 != n2) (m + x) by simp [mulK]]; exact pmul_zero m x a b 2 E1 M1 1 E2 M2 _ n1 n2 w HO (pei 2 E1 M1 1 E2 M2 4 _ _ _ rfl) (pei 2 E1 M1 1 E2 M2 3 _ _ _ rfl) (pei 2 E1 M1 1 E2 M2 1 _ _ _ rfl) (HZ _)
  · obtain ⟨r1, r2, r3, r4⟩ := (f1 rfl).rng hok
    obtain ⟨s1, s2, s3, s4⟩ := (f2 rfl).rng hok
    have hM : 0 ≤ M1 * M2 := Int.mul_nonneg (by omega) (by omega)
    have hM1 : M1 * M2 ≤ 9007199254740992 * 9007199254740992 := Int.mul_le_mul (by omega) (by omega) (by omega) (by omega)
    rw [show mulK m x 2 n1 E1 M1 2 n2 E2 M2 = packP m x (M1 * M2) (E1 + E2) false + sgnW (n1 != n2) (m + x) by simp [mulK]]; 
    exact pmul_fin m x a b 2 E1 M1 2 E2 M2 _ (M1 * M2 / 18446744073709551616) (M1 * M2 % 18446744073709551616) (E1 + E2) n1 n2 w HO (pei 2 E1 M1 2 E2 M2 4 _ _ _ rfl) (pei 2 E1 M1 2 E2 M2 3 _ _ _ rfl) (pei 2 E1 M1 2 E2 M2 1 _ _ _ rfl) (mulc_below (hidden fun w => pmul64 M1 M2 w (by omega) (by omega) (by omega) (by omega))) (hidden fun w => ppack_any m x (n1 != n2) false (M1 * M2) _ _ (E1 + E2) w hok (by omega) (by omega) (by omega) (by omega) (by omega) (by omega) (by omega) (fun h => by cases h)) (wrapi _ (by omega) (by omega))
  · rw [show mulK m x 2 n1 E1 M1 3 n2 E2 M2 = infI m x (n1 != n2) by simp [mulK]]; exact pmul_inf m x a b 2 E1 M1 3 E2 M2 _ n1 n2 w HO (pei 2 E1 M1 3 E2 M2 4 _ _ _ rfl) (pei 2 E1 M1 3 E2 M2 3 _ _ _ rfl) (pei 2 E1 M1 3 E2 M2 1 _ _ _ rfl) (HI _)
  · rw [show mulK m x 2 n1 E1 M1 4 n2 E2 M2 = nanI m x by simp [mulK]]; exact pmul_nan m x a b 2 E1 M1 4 E2 M2 _ n1 n2 w HO (pei 2 E1 M1 4 E2 M2 4 _ _ _ rfl) HN
  · rw [show mulK m x 3 n1 E1 M1 1 n2 E2 M2 = nanI m x by simp [mulK]]; exact pmul_nan2 m x a b 3 E1 M1 1 E2 M2 _ n1 n2 w HO (pei 3 E1 M1 1 E2 M2 4 _ _ _ rfl) (pei 3 E1 M1 1 E2 M2 3 _ _ _ rfl) (pei 3 E1 M1 1 E2 M2 1 _ _ _ rfl) HN
  · rw [show mulK m x 3 n1 E1 M1 2 n2 E2 M2 = infI m x (n1 != n2) by simp [mulK]]; exact pmul_inf m x a b 3 E1 M1 2 E2 M2 _ n1 n2 w HO (pei 3 E1 M1 2 E2 M2 4 _ _ _ rfl) (pei 3 E1 M1 2 E2 M2 3 _ _ _ rfl) (pei 3 E1 M1 2 E2 M2 1 _ _ _ rfl) (HI _)
  · rw [show mulK m x 3 n1 E1 M1 3 n2 E2 M2 = infI m x (n1 != n2) by simp [mulK]]; exact pmul_inf m x a b 3 E1 M1 3 E2 M2 _ n1 n2 w HO (pei 3 E1 M1 3 E2 M2 4 _ _ _ rfl) (pei 3 E1 M1 3 E2 M2 3 _ _ _ rfl) (pei 3 E1 M1 3 E2 M2 1 _ _ _ rfl) (HI _)
  · rw [show mulK m x 3 n1 E1 M1 4 n2 E2 M2 = nanI m x by simp [mulK]]; exact pmul_nan m x a b 3 E1 M1 4 E2 M2 _ n1 n2 w HO (pei 3 E1 M1 4 E2 M2 4 _ _ _ rfl) HN
  · rw [show mulK m x 4 n1 E1 M1 1 n2 E2 M2 = nanI m x by simp [mulK]]; exact pmul_nan m x a b 4 E1 M1 1 E2 M2 _ n1 n2 w HO (pei 4 E1 M1 1 E2 M2 4 _ _ _ rfl) HN
  · rw [show mulK m x 4 n1 E1 M1 2 n2 E2 M2 = nanI m x by simp [mulK]]; exact pmul_nan m x a b 4 E1 M1 2 E2 M2 _ n1 n2 w HO (pei 4 E1 M1 2 E2 M2 4 _ _ _ rfl) HN
  · rw [show mulK m x 4 n1 E1 M1 3 n2 E2 M2 = nanI m x by simp [mulK]]; exact pmul_nan m x a b 4 E1 M1 3 E2 M2 _ n1 n2 w HO (pei 4 E1 M1 3 E2 M2 4 _ _ _ rfl) HN
  · rw [show mulK m x 4 n1 E1 M1 4 n2 E2 M2 = nanI m x by simp [mulK]]; exact pmul_nan m x a b 4 E1 M1 4 E2 M2 _ n1 n2 w HO (pei 4 E1 M1 4 E2 M2 4 _ _ _ rfl) HN
theorem pdiv_k (m x : Nat) (a b K1 E1 M1 K2 E2 M2 : Int) (n1 n2 : Bool) (w : World) (hok : okF m x) (h1 : K1 = 1 ∨ K1 = 2 ∨ K1 = 3 ∨ K1 = 4) (h2 : K2 = 1 ∨ K2 = 2 ∨ K2 = 3 ∨ K2 = 4) (f1 : K1 = 2 → FinP m x E1 M1) (f2 : K2 = 2 → FinP m x E2 M2) (HO : OpenC m x a b K1 n1 E1 M1 K2 n2 E2 M2) :
    Calls Tryz.prog 28 #[fmtV m x, .int .u64 a, .int .u64 b] w fun r w' => r = .returned (.tuple #[.int .u64 (divK m x K1 n1 E1 M1 K2 n2 E2 M2), .int .i64 0]) ∧ Below w.heap.size w w' := by
  have HN : Hid (∀ w, Calls Tryz.prog 58 #[fmtV m x] w fun r w' => r = .returned (.int .u64 (nanI m x)) ∧ Below w.heap.size w w') := hidden fun w => pnan_any m x w hok
  have HZ : ∀ s, Hid (∀ w, Calls Tryz.prog 60 #[fmtV m x, .bool s] w fun r w' => r = .returned (.int .u64 (sgnW s (m + x))) ∧ Below w.heap.size w w') := fun s => hidden fun w => pzero_any m x s w hok
  have HI : ∀ s, Hid (∀ w, Calls Tryz.prog 63 #[fmtV m x, .bool s] w fun r w' => r = .returned (.int .u64 (infI m x s)) ∧ Below w.heap.size w w') := fun s => hidden fun w => pinf_any m x s w hok
  rcases h1 with rfl | rfl | rfl | rfl <;> rcases h2 with rfl | rfl | rfl | rfl
  · rw [show divK m x 1 n1 E1 M1 1 n2 E2 M2 = nanI m x by simp [divK]]; exact pdiv_nan3 m x a b 1 E1 M1 1 E2 M2 _ n1 n2 w HO (pei 1 E1 M1 1 E2 M2 4 _ _ _ rfl) (pbo 1 E1 M1 1 E2 M2 3 _ _ _ rfl) (pbo 1 E1 M1 1 E2 M2 1 _ _ _ rfl) HN
  · rw [show divK m x 1 n1 E1 M1 2 n2 E2 M2 = sgnW (n1 != n2) (m + x) by simp [divK]]; exact pdiv_zero1 m x a b 1 E1 M1 2 E2 M2 _ n1 n2 w HO (pei 1 E1 M1 2 E2 M2 4 _ _ _ rfl) (pbo 1 E1 M1 2 E2 M2 3 _ _ _ rfl) (pbo 1 E1 M1 2 E2 M2 1 _ _ _ rfl) (HZ _) rfl rfl rfl
  · rw [show divK m x 1 n1 E1 M1 3 n2 E2 M2 = sgnW (n1 != n2) (m + x) by simp [divK]]; exact pdiv_zero1 m x a b 1 E1 M1 3 E2 M2 _ n1 n2 w HO (pei 1 E1 M1 3 E2 M2 4 _ _ _ rfl) (pbo 1 E1 M1 3 E2 M2 3 _ _ _ rfl) (pbo 1 E1 M1 3 E2 M2 1 _ _ _ rfl) (HZ _) rfl rfl rfl
  · rw [show divK m x 1 n1 E1 M1 4 n2 E2 M2 = nanI m x by simp [divK]]; exact pdiv_nan m x a b 1 E1 M1 4 E2 M2 _ n1 n2 w HO (pei 1 E1 M1 4 E2 M2 4 _ _ _ rfl) HN
  · rw [show divK m x 2 n1 E1 M1 1 n2 E2 M2 = infI m x (n1 != n2) by simp [divK]]; exact pdiv_inf2 m x a b 2 E1 M1 1 E2 M2 _ n1 n2 w HO (pei 2 E1 M1 1 E2 M2 4 _ _ _ rfl) (pbo 2 E1 M1 1 E2 M2 3 _ _ _ rfl) (pbo 2 E1 M1 1 E2 M2 1 _ _ _ rfl) (HI _) rfl rfl
  · obtain ⟨r1, r2, r3, r4⟩ := (f1 rfl).rng hok
    obtain ⟨s1, s2, s3, s4⟩ := (f2 rfl).rng hok
    obtain ⟨q1, q2⟩ := quoQ_bd M1 M2 (by omega) (by omega) (by omega) (by omega)
    have q3 := quoQ_bl M1 M2 (by omega) (by omega) (by omega) (by omega)
    have q4 : -4096 ≤ quoE E1 M1 E2 M2 ∧ quoE E1 M1 E2 M2 ≤ 4096 := by unfold quoE; omega
    have hm52 := hok.2.1
    rw [show divK m x 2 n1 E1 M1 2 n2 E2 M2 = divI m x E1 M1 E2 M2 + sgnW (n1 != n2) (m + x) by simp [divK]]; 
    exact pdiv_fin m x a b 2 E1 M1 2 E2 M2 _ (quoQ M1 M2) (quoE E1 M1 E2 M2) n1 n2 (decide (quoR M1 M2 ≠ 0)) w HO (pei 2 E1 M1 2 E2 M2 4 _ _ _ rfl) (pbo 2 E1 M1 2 E2 M2 3 _ _ _ rfl) (pbo 2 E1 M1 2 E2 M2 1 _ _ _ rfl) (hidden fun w => pquotient 2 E1 M1 2 E2 M2 n1 n2 w (by omega) (by omega) (by omega) (by omega) (by omega) (by omega)) (hidden fun w => ppack_any m x (n1 != n2) (decide (quoR M1 M2 ≠ 0)) (quoQ M1 M2) _ _ (quoE E1 M1 E2 M2) w hok q4.1 q4.2 (by omega) (by omega) (by omega) (by omega) (by omega) (fun _ => by omega)) rfl rfl rfl rfl
  · rw [show divK m x 2 n1 E1 M1 3 n2 E2 M2 = sgnW (n1 != n2) (m + x) by simp [divK]]; exact pdiv_zero2 m x a b 2 E1 M1 3 E2 M2 _ n1 n2 w HO (pei 2 E1 M1 3 E2 M2 4 _ _ _ rfl) (pbo 2 E1 M1 3 E2 M2 3 _ _ _ rfl) (pbo 2 E1 M1 3 E2 M2 1 _ _ _ rfl) (HZ _) rfl rfl rfl rfl
  · rw [show divK m x 2 n1 E1 M1 4 n2 E2 M2 = nanI m x by simp [divK]]; exact pdiv_nan m x a b 2 E1 M1 4 E2 M2 _ n1 n2 w HO (pei 2 E1 M1 4 E2 M2 4 _ _ _ rfl) HN
  · rw [show divK m x 3 n1 E1 M1 1 n2 E2 M2 = infI m x (n1 != n2) by simp [divK]]; exact pdiv_inf1 m x a b 3 E1 M1 1 E2 M2 _ n1 n2 w HO (pei 3 E1 M1 1 E2 M2 4 _ _ _ rfl) (pbo 3 E1 M1 1 E2 M2 3 _ _ _ rfl) (pbo 3 E1 M1 1 E2 M2 1 _ _ _ rfl) (HI _) rfl
  · rw [show divK m x 3 n1 E1 M1 2 n2 E2 M2 = infI m x (n1 != n2) by simp [divK]]; exact pdiv_inf1 m x a b 3 E1 M1 2 E2 M2 _ n1 n2 w HO (pei 3 E1 M1 2 E2 M2 4 _ _ _ rfl) (pbo 3 E1 M1 2 E2 M2 3 _ _ _ rfl) (pbo 3 E1 M1 2 E2 M2 1 _ _ _ rfl) (HI _) rfl
  · rw [show divK m x 3 n1 E1 M1 3 n2 E2 M2 = nanI m x by simp [divK]]; exact pdiv_nan2 m x a b 3 E1 M1 3 E2 M2 _ n1 n2 w HO (pei 3 E1 M1 3 E2 M2 4 _ _ _ rfl) (pbo 3 E1 M1 3 E2 M2 3 _ _ _ rfl) HN
  · rw [show divK m x 3 n1 E1 M1 4 n2 E2 M2 = nanI m x by simp [divK]]; exact pdiv_nan m x a b 3 E1 M1 4 E2 M2 _ n1 n2 w HO (pei 3 E1 M1 4 E2 M2 4 _ _ _ rfl) HN
  · rw [show divK m x 4 n1 E1 M1 1 n2 E2 M2 = nanI m x by simp [divK]]; exact pdiv_nan m x a b 4 E1 M1 1 E2 M2 _ n1 n2 w HO (pei 4 E1 M1 1 E2 M2 4 _ _ _ rfl) HN
  · rw [show divK m x 4 n1 E1 M1 2 n2 E2 M2 = nanI m x by simp [divK]]; exact pdiv_nan m x a b 4 E1 M1 2 E2 M2 _ n1 n2 w HO (pei 4 E1 M1 2 E2 M2 4 _ _ _ rfl) HN
  · rw [show divK m x 4 n1 E1 M1 3 n2 E2 M2 = nanI m x by simp [divK]]; exact pdiv_nan m x a b 4 E1 M1 3 E2 M2 _ n1 n2 w HO (pei 4 E1 M1 3 E2 M2 4 _ _ _ rfl) HN
  · rw [show divK m x 4 n1 E1 M1 4 n2 E2 M2 = nanI m x by simp [divK]]; exact pdiv_nan m x a b 4 E1 M1 4 E2 M2 _ n1 n2 w HO (pei 4 E1 M1 4 E2 M2 4 _ _ _ rfl) HN
theorem pmod_k (m x : Nat) (a b K1 E1 M1 K2 E2 M2 : Int) (n1 n2 : Bool) (w : World) (hok : okF m x) (h1 : K1 = 1 ∨ K1 = 2 ∨ K1 = 3 ∨ K1 = 4) (h2 : K2 = 1 ∨ K2 = 2 ∨ K2 = 3 ∨ K2 = 4) (f1 : K1 = 2 → FinP m x E1 M1) (f2 : K2 = 2 → FinP m x E2 M2) (HO : OpenC m x a b K1 n1 E1 M1 K2 n2 E2 M2) :
    Calls Tryz.prog 29 #[fmtV m x, .int .u64 a, .int .u64 b] w fun r w' => r = .returned (.tuple #[.int .u64 (restK m x a K1 n1 E1 M1 K2 n2 E2 M2), .int .u64 (quoK m x K1 n1 E1 M1 K2 n2 E2 M2), .int .i64 0]) ∧ Below w.heap.size w w' := by
  have HN : Hid (∀ w, Calls Tryz.prog 58 #[fmtV m x] w fun r w' => r = .returned (.int .u64 (nanI m x)) ∧ Below w.heap.size w w') := hidden fun w => pnan_any m x w hok
  have HZ : ∀ s, Hid (∀ w, Calls Tryz.prog 60 #[fmtV m x, .bool s] w fun r w' => r = .returned (.int .u64 (sgnW s (m + x))) ∧ Below w.heap.size w w') := fun s => hidden fun w => pzero_any m x s w hok
  have HI : ∀ s, Hid (∀ w, Calls Tryz.prog 63 #[fmtV m x, .bool s] w fun r w' => r = .returned (.int .u64 (infI m x s)) ∧ Below w.heap.size w w') := fun s => hidden fun w => pinf_any m x s w hok
  rcases h1 with rfl | rfl | rfl | rfl <;> rcases h2 with rfl | rfl | rfl | rfl
  · rw [show restK m x a 1 n1 E1 M1 1 n2 E2 M2 = nanI m x by simp [restK], show quoK m x 1 n1 E1 M1 1 n2 E2 M2 = nanI m x by simp [quoK]]; exact pmod_nan3 m x a b 1 E1 M1 1 E2 M2 _ n1 n2 w HO (pei 1 E1 M1 1 E2 M2 4 _ _ _ rfl) HN rfl rfl
  · rw [show restK m x a 1 n1 E1 M1 2 n2 E2 M2 = a by simp [restK], show quoK m x 1 n1 E1 M1 2 n2 E2 M2 = sgnW (n1 != n2) (m + x) by simp [quoK]]; exact pmod_z1 m x a b 1 E1 M1 2 E2 M2 _ n1 n2 w HO (pei 1 E1 M1 2 E2 M2 4 _ _ _ rfl) (HZ _) rfl rfl rfl
  · rw [show restK m x a 1 n1 E1 M1 3 n2 E2 M2 = a by simp [restK], show quoK m x 1 n1 E1 M1 3 n2 E2 M2 = sgnW (n1 != n2) (m + x) by simp [quoK]]; exact pmod_z1 m x a b 1 E1 M1 3 E2 M2 _ n1 n2 w HO (pei 1 E1 M1 3 E2 M2 4 _ _ _ rfl) (HZ _) rfl rfl rfl
  · rw [show restK m x a 1 n1 E1 M1 4 n2 E2 M2 = nanI m x by simp [restK], show quoK m x 1 n1 E1 M1 4 n2 E2 M2 = nanI m x by simp [quoK]]; exact pmod_nan m x a b 1 E1 M1 4 E2 M2 _ n1 n2 w HO (pei 1 E1 M1 4 E2 M2 4 _ _ _ rfl) HN
  · rw [show restK m x a 2 n1 E1 M1 1 n2 E2 M2 = nanI m x by simp [restK], show quoK m x 2 n1 E1 M1 1 n2 E2 M2 = nanI m x by simp [quoK]]; exact pmod_nan3 m x a b 2 E1 M1 1 E2 M2 _ n1 n2 w HO (pei 2 E1 M1 1 E2 M2 4 _ _ _ rfl) HN rfl rfl
  · by_cases hlt : E1 < E2
    · rw [show restK m x a 2 n1 E1 M1 2 n2 E2 M2 = a by simp [restK, hlt], show quoK m x 2 n1 E1 M1 2 n2 E2 M2 = sgnW (n1 != n2) (m + x) by simp [quoK, hlt]]; exact pmod_lt m x a b 2 E1 M1 2 E2 M2 _ n1 n2 w HO (pei 2 E1 M1 2 E2 M2 4 _ _ _ rfl) (HZ _) rfl rfl rfl rfl hlt
    · obtain ⟨r1, r2, r3, r4⟩ := (f1 rfl).rng hok
      obtain ⟨s1, s2, s3, s4⟩ := (f2 rfl).rng hok
      obtain ⟨k, hk⟩ : ∃ k : Nat, E1 - E2 = k := ⟨(E1 - E2).toNat, by omega⟩
      have hkn : (E1 - E2).toNat = k := by omega
      have hA : 0 ≤ M1 * p2 k := Int.mul_nonneg (by omega) (Int.le_of_lt (p2_pos k))
      have l0 := Int.emod_nonneg (M1 * p2 k) (show M2 ≠ 0 by omega)
      have l1 := Int.emod_lt_of_pos (M1 * p2 k) (show 0 < M2 by omega)
      have hs := wqS_le M1 M2 k (by omega) r4 (by omega)
      have hQ : 0 ≤ wqQ M1 M2 k := Int.ediv_nonneg hA (by omega)
      have t0 : 0 ≤ wqQ M1 M2 k / p2 (wqS M1 M2 k) := Int.ediv_nonneg hQ (Int.le_of_lt (p2_pos _))
      obtain ⟨t1, t2⟩ := wq_top M1 M2 k hQ
      have hm52 := hok.2.1
      simp only [restK, quoK, hlt, hkn]
      exact pmod_fin m x a b 2 E1 M1 2 E2 M2 _ _ (wqQ M1 M2 k / p2 (wqS M1 M2 k)) (wqS M1 M2 k) (M1 * p2 k % M2) k n1 n2 (decide (wqQ M1 M2 k % p2 (wqS M1 M2 k) ≠ 0)) w HO (pei 2 E1 M1 2 E2 M2 4 _ _ _ rfl) (hidden fun w => pwquo_fun M1 M2 k w (by omega) r4 (by omega) s4 (by omega)) (hidden fun w => ppack_any m x (n1 != n2) _ (wqQ M1 M2 k / p2 (wqS M1 M2 k)) _ _ (wqS M1 M2 k) w hok (by omega) (by omega) (by omega) (by omega) (by omega) t0 (by omega) (fun h => by have := t2 (by simpa using h); omega)) (hidden fun w => ppack_any m x n1 false (M1 * p2 k % M2) _ _ E2 w hok (by omega) (by omega) (by omega) (by omega) (by omega) l0 (by omega) (fun h => by cases h)) rfl rfl rfl rfl hlt (by rw [wrapi _ (by omega) (by omega)]; exact hk)
  · rw [show restK m x a 2 n1 E1 M1 3 n2 E2 M2 = a by simp [restK], show quoK m x 2 n1 E1 M1 3 n2 E2 M2 = sgnW (n1 != n2) (m + x) by simp [quoK]]; exact pmod_z2 m x a b 2 E1 M1 3 E2 M2 _ n1 n2 w HO (pei 2 E1 M1 3 E2 M2 4 _ _ _ rfl) (HZ _) rfl rfl rfl rfl
  · rw [show restK m x a 2 n1 E1 M1 4 n2 E2 M2 = nanI m x by simp [restK], show quoK m x 2 n1 E1 M1 4 n2 E2 M2 = nanI m x by simp [quoK]]; exact pmod_nan m x a b 2 E1 M1 4 E2 M2 _ n1 n2 w HO (pei 2 E1 M1 4 E2 M2 4 _ _ _ rfl) HN
  · rw [show restK m x a 3 n1 E1 M1 1 n2 E2 M2 = nanI m x by simp [restK], show quoK m x 3 n1 E1 M1 1 n2 E2 M2 = nanI m x by simp [quoK]]; exact pmod_nan2 m x a b 3 E1 M1 1 E2 M2 _ n1 n2 w HO (pei 3 E1 M1 1 E2 M2 4 _ _ _ rfl) HN rfl
  · rw [show restK m x a 3 n1 E1 M1 2 n2 E2 M2 = nanI m x by simp [restK], show quoK m x 3 n1 E1 M1 2 n2 E2 M2 = nanI m x by simp [quoK]]; exact pmod_nan2 m x a b 3 E1 M1 2 E2 M2 _ n1 n2 w HO (pei 3 E1 M1 2 E2 M2 4 _ _ _ rfl) HN rfl
  · rw [show restK m x a 3 n1 E1 M1 3 n2 E2 M2 = nanI m x by simp [restK], show quoK m x 3 n1 E1 M1 3 n2 E2 M2 = nanI m x by simp [quoK]]; exact pmod_nan2 m x a b 3 E1 M1 3 E2 M2 _ n1 n2 w HO (pei 3 E1 M1 3 E2 M2 4 _ _ _ rfl) HN rfl
  · rw [show restK m x a 3 n1 E1 M1 4 n2 E2 M2 = nanI m x by simp [restK], show quoK m x 3 n1 E1 M1 4 n2 E2 M2 = nanI m x by simp [quoK]]; exact pmod_nan m x a b 3 E1 M1 4 E2 M2 _ n1 n2 w HO (pei 3 E1 M1 4 E2 M2 4 _ _ _ rfl) HN
  · rw [show restK m x a 4 n1 E1 M1 1 n2 E2 M2 = nanI m x by simp [restK], show quoK m x 4 n1 E1 M1 1 n2 E2 M2 = nanI m x by simp [quoK]]; exact pmod_nan m x a b 4 E1 M1 1 E2 M2 _ n1 n2 w HO (pei 4 E1 M1 1 E2 M2 4 _ _ _ rfl) HN
  · rw [show restK m x a 4 n1 E1 M1 2 n2 E2 M2 = nanI m x by simp [restK], show quoK m x 4 n1 E1 M1 2 n2 E2 M2 = nanI m x by simp [quoK]]; exact pmod_nan m x a b 4 E1 M1 2 E2 M2 _ n1 n2 w HO (pei 4 E1 M1 2 E2 M2 4 _ _ _ rfl) HN
  · rw [show restK m x a 4 n1 E1 M1 3 n2 E2 M2 = nanI m x by simp [restK], show quoK m x 4 n1 E1 M1 3 n2 E2 M2 = nanI m x by simp [quoK]]; exact pmod_nan m x a b 4 E1 M1 3 E2 M2 _ n1 n2 w HO (pei 4 E1 M1 3 E2 M2 4 _ _ _ rfl) HN
  · rw [show restK m x a 4 n1 E1 M1 4 n2 E2 M2 = nanI m x by simp [restK], show quoK m x 4 n1 E1 M1 4 n2 E2 M2 = nanI m x by simp [quoK]]; exact pmod_nan m x a b 4 E1 M1 4 E2 M2 _ n1 n2 w HO (pei 4 E1 M1 4 E2 M2 4 _ _ _ rfl) HN
end Go.Proofs.YtbfbdemknggpkaaGreatDoor
namespace Go.Proofs.YtbfbdemknggpkaaGreatDoor
open Go.RowKit
set_option maxRecDepth 100000
set_option maxHeartbeats 1000000
set_option linter.unusedVariables false

abbrev Open1C (m x : Nat) (a K : Int) (n : Bool) (E M : Int) : Prop := Hid (∀ w, Calls Tryz.prog 68 #[fmtV m x, .int .u64 a] w fun r w' => r = .returned (.tuple #[partsV K n E M, .int .i64 0]) ∧ Below w.heap.size w w')
theorem psqrt_k (m x : Nat) (a K E M R : Int) (n : Bool) (w : World) (hok : okF m x) (h1 : K = 1 ∨ K = 2 ∨ K = 3 ∨ K = 4) (f1 : K = 2 → FinP m x E M) (hR : K = 2 → IsRoot (rootS E M * 18446744073709551616) R) (HO : Open1C m x a K n E M) :
    Calls Tryz.prog 30 #[fmtV m x, .int .u64 a] w fun r w' => r = .returned (.tuple #[.int .u64 (sqrtK m x a K n E M R), .int .i64 0]) ∧ Below w.heap.size w w' := by
  have HN : Hid (∀ w, Calls Tryz.prog 58 #[fmtV m x] w fun r w' => r = .returned (.int .u64 (nanI m x)) ∧ Below w.heap.size w w') := hidden fun w => pnan_any m x w hok
  rcases h1 with rfl | rfl | rfl | rfl
  · rw [show sqrtK m x a 1 n E M R = a by simp [sqrtK]]
    exact psqrt_zero m x a 1 E M n w HO rfl
  · cases n
    · obtain ⟨r1, r2, r3, r4⟩ := (f1 rfl).rng hok
      obtain ⟨c1, c2, c3, c4⟩ := upE_ok E M r3 (by omega)
      have hm52 := hok.2.1
      have hE : -4096 ≤ rootE E M ∧ rootE E M ≤ 4096 := by unfold rootE; omega
      rw [show sqrtK m x a 2 false E M R = packP m x R (rootE E M) (decide (R * R ≠ rootS E M * 18446744073709551616)) + sgnW false (m + x) by simp [sqrtK, sgnW]]
      refine psqrt_fin m x a 2 E M _ (rootS E M * 18446744073709551616) (rootE E M) w HO (hidden fun w => proot 2 E M false w r3 (by omega) (by omega)) ?_ rfl rfl rfl
      intro Q hQ
      obtain rfl := hQ.uniq (hR rfl)
      obtain ⟨q0, q1, q2⟩ := hQ
      have hS : rootS E M = M * p2 (upE E M) := rfl
      rw [← hS] at c3 c4
      have hq64 : Q < 18446744073709551616 := sq_lt (by omega) (by omega)
      have hq63 : 9223372036854775808 < Q + 1 := sq_lt (by omega) (by omega)
      have hb : bl Q = 64 := bl_of (.inr ⟨by omega, by rw [show 64 - 1 = 63 from rfl, p2_63]; omega, by rw [p2_64]; omega⟩)
      exact hidden fun w => ppack_any m x false (decide (Q * Q ≠ rootS E M * 18446744073709551616)) Q 0 Q (rootE E M) w hok hE.1 hE.2 (by omega) (by omega) (by omega) (by omega) (by omega) (fun _ => by omega)
    · rw [show sqrtK m x a 2 true E M R = nanI m x by simp [sqrtK]]
      exact psqrt_neg m x a 2 E M _ w HO HN rfl rfl
  · cases n
    · rw [show sqrtK m x a 3 false E M R = a by simp [sqrtK]]
      exact psqrt_inf m x a 3 E M w HO rfl rfl rfl
    · rw [show sqrtK m x a 3 true E M R = nanI m x by simp [sqrtK]]
      exact psqrt_neg m x a 3 E M _ w HO HN rfl rfl
  · rw [show sqrtK m x a 4 n E M R = nanI m x by simp [sqrtK]]
    exact psqrt_nan m x a 4 E M _ n w HO HN rfl rfl
theorem pwb_k (m x : Nat) (a K E M : Int) (n dn : Bool) (w : World) (hok : okF m x) (h1 : K = 1 ∨ K = 2 ∨ K = 3 ∨ K = 4) (f1 : K = 2 → FinP m x E M) (HO : Open1C m x a K n E M) :
    Calls Tryz.prog 70 #[fmtV m x, .int .u64 a, .bool dn] w fun r w' => r = .returned (.tuple #[.int .u64 (besideK m x a K n E M dn), .int .i64 0]) ∧ Below w.heap.size w w' := by
  have HN : Hid (∀ w, Calls Tryz.prog 58 #[fmtV m x] w fun r w' => r = .returned (.int .u64 (nanI m x)) ∧ Below w.heap.size w w') := hidden fun w => pnan_any m x w hok
  rcases h1 with rfl | rfl | rfl | rfl
  · rw [show besideK m x a 1 n E M dn = a by simp [besideK]]
    exact pwb_inf m x a 1 E M n dn w HO rfl rfl
  · by_cases he : 0 ≤ E
    · rw [show besideK m x a 2 n E M dn = a by simp [besideK, he]]
      exact pwb_big m x a 2 E M n dn w HO rfl rfl he
    · obtain ⟨r1, r2, r3, r4⟩ := (f1 rfl).rng hok
      obtain ⟨k, hk⟩ : ∃ k : Nat, -E = k := ⟨(-E).toNat, by omega⟩
      have hkn : (-E).toNat = k := by omega
      have hw : IntKind.i64.wrap (-E) = k := by rw [wrapi _ (by omega) (by omega)]; exact hk
      have hp := p2_pos k
      have q0 : 0 ≤ M / p2 k := Int.ediv_nonneg (by omega) (by omega)
      have q1 : M / p2 k ≤ M := Int.ediv_le_self _ (by omega)
      have HS := pshift M k w (by omega) (by omega) (by omega)
      have HP : ∀ N : Int, 0 ≤ N → N ≤ 9007199254740993 → PackC m x n 0 N 0 false (packP m x N 0 false + sgnW n (m + x)) := fun N h0 h1 => hidden fun w => ppack_any m x n false N 0 N 0 w hok (by omega) (by omega) (by omega) (by omega) (by omega) (by omega) (by omega) (fun h => by cases h)
      have hSh : ∀ c, decide (M % p2 k ≠ 0) = c → Hid (∀ w, Calls Tryz.prog 99 #[.int .u64 M, .int .i64 k] w fun r w' => r = .returned (.tuple #[.int .u64 (M / p2 k), .bool c]) ∧ Below w.heap.size w w') := fun c hc => hidden fun w => by
        have := pshift M k w (by omega) (by omega) (by omega)
        rw [hc] at this
        exact this
      have hwq : IntKind.u64.wrap (M / p2 k + 1) = M / p2 k + 1 := by rw [IntKind.wrap_u64]; omega
      have hbe : besideK m x a 2 n E M dn = packP m x (M / p2 k + (if M % p2 k ≠ 0 ∧ n = dn then 1 else 0)) 0 false + sgnW n (m + x) := by
        unfold besideK
        rw [if_neg (by decide), if_neg (by decide), if_neg he, hkn]
      rw [hbe]
      by_cases hm : M % p2 k = 0
      · have hc : decide (M % p2 k ≠ 0) = false := decide_eq_false (fun h => h hm)
        rw [if_neg (fun h => h.1 hm), Int.add_zero]
        have S := hSh _ hc
        have P := HP (M / p2 k) q0 (by omega)
        cases n <;> cases dn
        · exact pwb_ff_ff m x a 2 E M _ (M / p2 k) 0 k w HO S P rfl rfl (by omega) hw
        · exact pwb_ff_ft m x a 2 E M _ (M / p2 k) 0 k w HO S P rfl rfl (by omega) hw
        · exact pwb_ff_tf m x a 2 E M _ (M / p2 k) 0 k w HO S P rfl rfl (by omega) hw
        · exact pwb_ff_tt m x a 2 E M _ (M / p2 k) 0 k w HO S P rfl rfl (by omega) hw
      · have hc : decide (M % p2 k ≠ 0) = true := decide_eq_true hm
        have S := hSh _ hc
        by_cases hd : n = dn
        · rw [if_pos ⟨hm, hd⟩]
          subst hd
          have P := HP (M / p2 k + 1) (by omega) (by omega)
          cases n
          · exact pwb_tt_ff m x a 2 E M _ (M / p2 k) (M / p2 k + 1) k w HO S P rfl rfl (by omega) hw hwq
          · exact pwb_tt_tt m x a 2 E M _ (M / p2 k) (M / p2 k + 1) k w HO S P rfl rfl (by omega) hw hwq
        · rw [if_neg (fun h => hd h.2), Int.add_zero]
          have P := HP (M / p2 k) q0 (by omega)
          cases n <;> cases dn
          · exact absurd rfl hd
          · exact pwb_tf_ft m x a 2 E M _ (M / p2 k) 0 k w HO S P rfl rfl (by omega) hw
          · exact pwb_tf_tf m x a 2 E M _ (M / p2 k) 0 k w HO S P rfl rfl (by omega) hw
          · exact absurd rfl hd
  · rw [show besideK m x a 3 n E M dn = a by simp [besideK]]
    exact pwb_inf m x a 3 E M n dn w HO rfl rfl
  · rw [show besideK m x a 4 n E M dn = nanI m x by simp [besideK]]
    exact pwb_nan m x a 4 E M _ n dn w HO HN rfl
/-- what one pattern says, what two say -/
theorem popen1 (m x : Nat) (a : Int) (hok : okF m x) (a0 : 0 ≤ a) (a1 : a ≤ 18446744073709551615) (ha : bl a ≤ 1 + x + m) : Open1C m x a (kindI m x a) (negI m x a) (expI m x a) (manI m x a) := hidden fun w => popen_any m x a w hok a0 a1 (by omega)
theorem popen2 (m x : Nat) (a b : Int) (hok : okF m x) (a0 : 0 ≤ a) (a1 : a ≤ 18446744073709551615) (ha : bl a ≤ 1 + x + m) (b0 : 0 ≤ b) (b1 : b ≤ 18446744073709551615) (hb : bl b ≤ 1 + x + m) :
    OpenC m x a b (kindI m x a) (negI m x a) (expI m x a) (manI m x a) (kindI m x b) (negI m x b) (expI m x b) (manI m x b) := hidden fun w =>
  pboth2_any m x a b _ _ _ _ _ _ _ _ w (popen1 m x a hok a0 a1 ha) (popen1 m x b hok b0 b1 hb)
end Go.Proofs.YtbfbdemknggpkaaGreatDoor
namespace Go.Proofs.YtbfbdemknggpkaaGreatDoor
open Go.RowKit

/-- the two variables read as the program's text lays them -/
def Laid (w : World) : Prop := w.cell? ⟨0, 0, none⟩ = some (.int .i64 23) ∧ w.cell? ⟨0, 1, none⟩ = some (.int .i64 8) ∧ w.cell? ⟨1, 0, none⟩ = some (.int .i64 52) ∧ w.cell? ⟨1, 1, none⟩ = some (.int .i64 11)
theorem Laid.later {w w' : World} (h : Laid w) (hb : Below w.heap.size w w') : Laid w' := ⟨cellLater hb h.1, cellLater hb h.2.1, cellLater hb h.2.2.1, cellLater hb h.2.2.2⟩
theorem fmt_cells {W : World} {nm : String} {g : Nat} {a b : Int} (hg : Tryz.prog.globalNamed nm = some g) (ht : (Tryz.prog.globals[g]?).map (·.type) = some 37) (h : Lib.VarReads Tryz.prog W nm (.agg [.lit (.int .i64 a), .lit (.int .i64 b)])) :
    W.cell? ⟨g, 0, none⟩ = some (.int .i64 a) ∧ W.cell? ⟨g, 1, none⟩ = some (.int .i64 b) := by
  obtain ⟨g', t', cs, fuel, p, hg', ht', hv, hd⟩ := h
  obtain rfl := Option.some.inj (hg.symm.trans hg')
  obtain rfl := Option.some.inj (ht.symm.trans ht')
  have hc := Lib.ints_of_struct (k := .i64) (zs := [a, b]) Tryz.underlying37 (fun i f hi => by
    match i with
    | 0 => simp at hi; subst hi; exact ⟨Tryz.underlying3, rfl, by kernel_rfl⟩
    | 1 => simp at hi; subst hi; exact ⟨Tryz.underlying3, rfl, by kernel_rfl⟩
    | i + 2 => simp at hi) (by kernel_rfl) hd
  have hcs : cs = #[.int .i64 a, .int .i64 b] := by
    cases cs
    simpa using hc
  subst hcs
  have h0 := World.var?_cell hg hv 0
  have h1 := World.var?_cell hg hv 1
  exact ⟨by simpa using h0, by simpa using h1⟩
theorem laid_of {W : World} (h : laidMetH Tryz.prog [("grotto/reals.singles", Rows.laid_grotto_reals_singles), ("grotto/reals.doubles", Rows.laid_grotto_reals_doubles)] W) : Laid W := by
  rw [MakeChecks.laidMetH_plain _ _ _ (by kernel_rfl)] at h
  have h1 := fmt_cells (nm := "grotto/reals.singles") (g := 0) (by kernel_rfl) (by kernel_rfl) (Lib.laidMet.reads h (d := Rows.laid_grotto_reals_singles) (by simp))
  have h2 := fmt_cells (nm := "grotto/reals.doubles") (g := 1) (by kernel_rfl) (by kernel_rfl) (Lib.laidMet.reads h (d := Rows.laid_grotto_reals_doubles) (by simp))
  exact ⟨h1.1, h1.2, h2.1, h2.2⟩
end Go.Proofs.YtbfbdemknggpkaaGreatDoor
namespace Go.Proofs.YtbfbdemknggpkaaGreatDoor
open Go.RowKit
set_option maxRecDepth 100000
set_option maxHeartbeats 400000
set_option linter.unusedVariables false

/-- the size of a word as an integer, and its pattern -/
def sizeI (n : Int) : Int := if 2147483648 ≤ n then 4294967296 - n else n
def ofI (m x : Nat) (n : Int) : Int := packP m x (sizeI n) 0 false + sgnW (decide (2147483648 ≤ n)) (m + x)
theorem pat_bd (m x : Nat) (N e : Int) (more s : Bool) (k : Nat) (hN : 0 ≤ N) (hx : 2 ≤ x) (hk : m + x + 1 ≤ k) : 0 ≤ packP m x N e more + sgnW s (m + x) ∧ packP m x N e more + sgnW s (m + x) < p2 k := by
  obtain ⟨h0, h1⟩ := pack_bd m x N e more hN hx
  have h2 : (p2 x - 1) * p2 m = p2 (m + x) - p2 m := by rw [Int.sub_mul, Int.one_mul, ← p2_add, Nat.add_comm x m]
  have h3 := p2_pos m
  have h4 : p2 (m + x + 1) ≤ p2 k := p2_mono hk
  rw [p2_succ] at h4
  have h5 := p2_pos (m + x)
  unfold sgnW
  cases s <;> simp <;> omega
theorem p2_32 : p2 32 = 4294967296 := by decide +kernel
/-- what is read of a whole number as an integer -/
def toI (R : Int) (s : Bool) : Int := if s then (if R = 0 then 0 else 4294967296 - min R 2147483648) else min R 2147483647
theorem ofint32 (m x : Nat) (n : Int) (w : World) (hok : okF m x) (hk : m + x + 1 ≤ 32) (n0 : 0 ≤ n) (n1 : n ≤ 4294967295) :
    Calls Tryz.prog 52 #[.agg #[.int .i64 (m : Int), .int .i64 (x : Int)], .int .u32 n] w fun r w' => r = .returned (.int .u32 (ofI m x n)) ∧ Below w.heap.size w w' := by
  have hx : 2 ≤ x := by have := hok.2.2.1; omega
  have hbd := pat_bd m x (sizeI n) 0 false (decide (2147483648 ≤ n)) 32 (by unfold sizeI; split <;> omega) hx hk
  rw [p2_32] at hbd
  change 0 ≤ ofI m x n ∧ ofI m x n < _ at hbd
  have HP := hidden (fun w => ppack_any m x (decide (2147483648 ≤ n)) false (sizeI n) 0 (sizeI n) 0 w hok (by omega) (by omega) (by omega) (by omega) (by omega) (by unfold sizeI; split <;> omega) (by unfold sizeI; split <;> omega) (fun h => by cases h))
  change Hid (∀ w, Calls Tryz.prog 65 _ w fun r w' => r = .returned (.tuple #[.int .u64 (ofI m x n), .int .i64 0]) ∧ Below w.heap.size w w') at HP
  generalize ofI m x n = R at *
  by_cases h : 2147483648 ≤ n
  · have e : sizeI n = 4294967296 - n := by unfold sizeI; rw [if_pos h]
    rw [e, decide_eq_true h] at HP
    have hS : IntKind.u32.wrap (-n) = 4294967296 - n := by rw [IntKind.wrap_u32]; omega
    have s0 : 0 ≤ 4294967296 - n := by omega
    have s1 : 4294967296 - n ≤ 2147483648 := by omega
    clear e
    generalize 4294967296 - n = S at *
    go_enter Tryz.func52, Tryz.ntmps52
    go_wp2_with (go_at_call 65; refine (HP.out _).mono ?_; rintro r w1 ⟨rfl, hb⟩)
    go_ret
    exact ⟨rfl, box_below _ hb⟩
  · have e : sizeI n = n := by unfold sizeI; rw [if_neg h]
    rw [e, decide_eq_false h] at HP
    clear e
    go_enter Tryz.func52, Tryz.ntmps52
    go_wp2_with (go_at_call 65; refine (HP.out _).mono ?_; rintro r w1 ⟨rfl, hb⟩)
    go_ret
    exact ⟨rfl, box_below _ hb⟩
theorem toint32 (m x a R g : Int) (near s : Bool) (w : World) (a0 : 0 ≤ a) (a1 : a < 4294967296) (r0 : 0 ≤ R) (r1 : R ≤ 1099511627776)
    (HW : Hid (∀ w, Calls Tryz.prog 80 #[.agg #[.int .i64 m, .int .i64 x], .int .u64 a, .bool near] w fun r w' => r = .returned (.tuple #[.int .u64 R, .bool s, .int .i64 g]) ∧ Below w.heap.size w w')) :
    Calls Tryz.prog 53 #[.agg #[.int .i64 m, .int .i64 x], .int .u32 a, .bool near] w fun r w' => r = .returned (.int .u32 (toI R s)) ∧ Below w.heap.size w w' := by
  cases s
  · go_enter Tryz.func53, Tryz.ntmps53
    go_wp2_with (go_at_call 80; refine (HW.out _).mono ?_; rintro r w1 ⟨rfl, hb⟩)
    go_ret
    exact ⟨ret_int (by unfold toI; simp <;> omega), box_below _ hb⟩
  · go_enter Tryz.func53, Tryz.ntmps53
    go_wp2_with (go_at_call 80; refine (HW.out _).mono ?_; rintro r w1 ⟨rfl, hb⟩)
    go_ret
    exact ⟨ret_int (by unfold toI; simp <;> omega), box_below _ hb⟩
theorem conv_u64 (m x m2 x2 a R g : Int) (w : World) (a0 : 0 ≤ a) (a1 : a < 4294967296) (r0 : 0 ≤ R) (r1 : R < 18446744073709551616)
    (HC : Hid (∀ w, Calls Tryz.prog 81 #[.agg #[.int .i64 m, .int .i64 x], .agg #[.int .i64 m2, .int .i64 x2], .int .u64 a] w fun r w' => r = .returned (.tuple #[.int .u64 R, .int .i64 g]) ∧ Below w.heap.size w w')) :
    Calls Tryz.prog 54 #[.agg #[.int .i64 m, .int .i64 x], .agg #[.int .i64 m2, .int .i64 x2], .int .u32 a] w fun r w' => r = .returned (.int .u64 R) ∧ Below w.heap.size w w' := by
  go_enter Tryz.func54, Tryz.ntmps54
  go_wp2_with (go_at_call 81; refine (HC.out _).mono ?_; rintro r w1 ⟨rfl, hb⟩)
  go_ret
  have hW : Below w.heap.size w ((w.alloc (.cells #[.int .i64 m, .int .i64 x] 37)).alloc (.cells #[.int .i64 m2, .int .i64 x2] 37)) := ((Below.refl _ _).alloc (Nat.le_refl _) _).alloc (by simp) _
  exact ⟨rfl, hW.trans (hb.mono hW.size)⟩
theorem singleOf_c (n : Int) (w : World) (hl : Laid w) (n0 : 0 ≤ n) (n1 : n ≤ 4294967295) : Calls Tryz.prog 20 #[.int .u32 n] w fun r w' => r = .returned (.int .u32 (ofI 23 8 n)) ∧ Below w.heap.size w w' := by
  have HF : Hid (∀ w, Calls Tryz.prog 52 #[.agg #[.int .i64 23, .int .i64 8], .int .u32 n] w fun r w' => r = .returned (.int .u32 (ofI 23 8 n)) ∧ Below w.heap.size w w') := hidden fun w => ofint32 23 8 n w (by unfold okF; omega) (by omega) n0 n1
  obtain ⟨l0, l1, l2, l3⟩ := hl
  go_enter Tryz.func20, Tryz.ntmps20
  go_wp2_with (go_at_call 52; refine (HF.out _).mono ?_; rintro r w1 ⟨rfl, hb⟩)
  go_ret
  exact ⟨rfl, hb⟩
theorem singleInt_c (a R : Int) (near : Bool) (w : World) (hl : Laid w) (HF : Hid (∀ w, Calls Tryz.prog 53 #[.agg #[.int .i64 23, .int .i64 8], .int .u32 a, .bool near] w fun r w' => r = .returned (.int .u32 R) ∧ Below w.heap.size w w')) :
    Calls Tryz.prog 21 #[.int .u32 a, .bool near] w fun r w' => r = .returned (.int .u32 R) ∧ Below w.heap.size w w' := by
  obtain ⟨l0, l1, l2, l3⟩ := hl
  go_enter Tryz.func21, Tryz.ntmps21
  go_wp2_with (go_at_call 53; refine (HF.out _).mono ?_; rintro r w1 ⟨rfl, hb⟩)
  go_ret
  exact ⟨rfl, hb⟩
theorem widen_c (a R : Int) (w : World) (hl : Laid w) (HF : Hid (∀ w, Calls Tryz.prog 54 #[.agg #[.int .i64 23, .int .i64 8], .agg #[.int .i64 52, .int .i64 11], .int .u32 a] w fun r w' => r = .returned (.int .u64 R) ∧ Below w.heap.size w w')) :
    Calls Tryz.prog 22 #[.int .u32 a] w fun r w' => r = .returned (.int .u64 R) ∧ Below w.heap.size w w' := by
  obtain ⟨l0, l1, l2, l3⟩ := hl
  go_enter Tryz.func22, Tryz.ntmps22
  go_wp2_with (go_at_call 54; refine (HF.out _).mono ?_; rintro r w1 ⟨rfl, hb⟩)
  go_ret
  exact ⟨rfl, hb⟩
end Go.Proofs.YtbfbdemknggpkaaGreatDoor
namespace Go.Proofs.YtbfbdemknggpkaaGreatDoor
open Go.RowKit
set_option maxRecDepth 100000
set_option maxHeartbeats 400000
set_option linter.unusedVariables false

/-- do two stand in the order that cond says? -/
def ordB (cond c : Int) (ok : Bool) : Bool := ok && (if cond = 3 then decide (c < 0) else if cond = 4 then decide (c ≤ 0) else if cond = 5 then decide (0 < c) else if cond = 6 then decide (0 ≤ c) else false)
/-- which of the answers does cond ask for? -/
def holdsB (cond : Int) (near nan inf ord : Bool) : Bool := if cond = 1 then near else if cond = 2 then !near else if cond = 7 then nan else if cond = 8 then inf else ord
theorem pkind (m x a K E M k g : Int) (n : Bool) (w : World)
    (HO : Hid (∀ w, Calls Tryz.prog 68 #[.agg #[.int .i64 m, .int .i64 x], .int .u64 a] w fun r w' => r = .returned (.tuple #[partsV K n E M, .int .i64 g]) ∧ Below w.heap.size w w'))
    : Calls Tryz.prog 83 #[.agg #[.int .i64 m, .int .i64 x], .int .u64 a, .int .i64 k] w fun r w' => r = .returned (.bool (K == k)) ∧ Below w.heap.size w w' := by
  go_enter Tryz.func83, Tryz.ntmps83
  go_wp2_with fail
  refine (HO.out _).mono ?_
  rintro r w1 ⟨rfl, hb1⟩
  have HB1 := hidden (box_below _ hb1)
  clear hb1
  go_wp2
  go_ret
  exact ⟨rfl, HB1.out.alloc HB1.out.size _⟩
theorem pbare (m x : Nat) (a : Int) (w : World) (hok : okF m x) (a0 : 0 ≤ a) (a1 : a < p2 (m + x + 1))
    : Calls Tryz.prog 102 #[.agg #[.int .i64 (m : Int), .int .i64 (x : Int)], .int .u64 a] w fun r w' => r = .returned (.int .u64 (a % p2 (m + x))) ∧ Below w.heap.size w w' := by
  have hk : m + x ≤ 63 := by have := hok.2.1; have := hok.2.2.2; omega
  have hp := p2_mono (show m + x + 1 ≤ 64 by omega)
  rw [p2_64] at hp
  have hA := andnot_top (m + x) a hk a0 a1 (by omega)
  have HZ := hidden (fun w => pzero_any m x true w hok)
  rw [show sgnW true (m + x) = p2 (m + x) from rfl] at HZ
  clear hp a1
  generalize p2 (m + x) = P at *
  go_enter Tryz.func102, Tryz.ntmps102
  go_wp2_with (go_at_call 60; refine (HZ.out _).mono ?_; rintro r w1 ⟨rfl, hb⟩)
  go_ret
  exact ⟨rfl, box_below _ hb⟩
theorem pinorder (m x cond a b c g : Int) (ok : Bool) (w : World)
    (HC : Hid (∀ w, Calls Tryz.prog 101 #[.agg #[.int .i64 m, .int .i64 x], .int .u64 a, .int .u64 b] w fun r w' => r = .returned (.tuple #[.int .i64 c, .bool ok, .int .i64 g]) ∧ Below w.heap.size w w'))
    : Calls Tryz.prog 84 #[.agg #[.int .i64 m, .int .i64 x], .int .i64 cond, .int .u64 a, .int .u64 b] w fun r w' => r = .returned (.bool (ordB cond c ok)) ∧ Below w.heap.size w w' := by
  cases ok
  · go_enter Tryz.func84, Tryz.ntmps84
    go_wp2_with (go_at_call 101; refine (HC.out _).mono ?_; rintro r w1 ⟨rfl, hb⟩)
    go_ret
    exact ⟨ret_bool (by simp [ordB]), box_below _ hb⟩
  by_cases h3 : cond = 3
  · subst h3
    go_enter Tryz.func84, Tryz.ntmps84
    go_wp2_with (go_at_call 101; refine (HC.out _).mono ?_; rintro r w1 ⟨rfl, hb⟩)
    go_ret
    exact ⟨ret_bool (by simp [ordB]), box_below _ hb⟩
  by_cases h4 : cond = 4
  · subst h4
    go_enter Tryz.func84, Tryz.ntmps84
    go_wp2_with (go_at_call 101; refine (HC.out _).mono ?_; rintro r w1 ⟨rfl, hb⟩)
    go_ret
    exact ⟨ret_bool (by simp [ordB]), box_below _ hb⟩
  by_cases h5 : cond = 5
  · subst h5
    go_enter Tryz.func84, Tryz.ntmps84
    go_wp2_with (go_at_call 101; refine (HC.out _).mono ?_; rintro r w1 ⟨rfl, hb⟩)
    go_ret
    exact ⟨ret_bool (by simp [ordB]), box_below _ hb⟩
  by_cases h6 : cond = 6
  · subst h6
    go_enter Tryz.func84, Tryz.ntmps84
    go_wp2_with (go_at_call 101; refine (HC.out _).mono ?_; rintro r w1 ⟨rfl, hb⟩)
    go_ret
    exact ⟨ret_bool (by simp [ordB]), box_below _ hb⟩
  have HE : Hid (ordB cond c true = false) := hidden (by simp [ordB, h3, h4, h5, h6])
  replace h3 : (cond == 3) = false := by simpa using h3
  replace h4 : (cond == 4) = false := by simpa using h4
  replace h5 : (cond == 5) = false := by simpa using h5
  replace h6 : (cond == 6) = false := by simpa using h6
  go_enter Tryz.func84, Tryz.ntmps84
  go_wp2_with (go_at_call 101; refine (HC.out _).mono ?_; rintro r w1 ⟨rfl, hb⟩)
  go_ret
  exact ⟨ret_bool HE.out.symm, box_below _ hb⟩
theorem pnear_inf (m x a b t : Int) (k4 : Bool) (w : World)
    (H1 : Hid (∀ w, Calls Tryz.prog 83 #[.agg #[.int .i64 m, .int .i64 x], .int .u64 a, .int .i64 3] w fun r w' => r = .returned (.bool true) ∧ Below w.heap.size w w'))
    (H2 : Hid (∀ w, Calls Tryz.prog 83 #[.agg #[.int .i64 m, .int .i64 x], .int .u64 b, .int .i64 3] w fun r w' => r = .returned (.bool true) ∧ Below w.heap.size w w'))
    (H3 : Hid (∀ w, Calls Tryz.prog 83 #[.agg #[.int .i64 m, .int .i64 x], .int .u64 t, .int .i64 4] w fun r w' => r = .returned (.bool k4) ∧ Below w.heap.size w w'))
    : Calls Tryz.prog 82 #[.agg #[.int .i64 m, .int .i64 x], .int .u64 a, .int .u64 b, .int .u64 t] w fun r w' => r = .returned (.bool (a == b && !k4)) ∧ Below w.heap.size w w' := by
  have c0 : (w.alloc (.cells #[.int .i64 m, .int .i64 x] 37)).cell? ⟨w.heap.size, 0, none⟩ = some (.int .i64 m) := by simp
  have c1 : (w.alloc (.cells #[.int .i64 m, .int .i64 x] 37)).cell? ⟨w.heap.size, 1, none⟩ = some (.int .i64 x) := by simp
  have HB := hidden ((Below.refl w.heap.size w).alloc (Nat.le_refl _) (.cells #[.int .i64 m, .int .i64 x] 37))
  by_cases hab : a = b
  · subst hab
    go_enter Tryz.func82, Tryz.ntmps82
    go_upto_region 1 with fail
    generalize w.alloc (.cells #[.int .i64 m, .int .i64 x] 37) = w5 at *
    go_wp2_with (first | (go_at_call_of 83 (Value.int IntKind.i64 4); refine (H3.out _).mono ?_; rintro r w9 ⟨rfl, hb⟩; have HB := hidden (HB.out.trans (hb.mono HB.out.size)); clear hb) | (go_at_call_of 83 (Value.int IntKind.i64 3); refine (H1.out _).mono ?_; rintro r w9 ⟨rfl, hb⟩; have c0 := cellLater hb c0; have c1 := cellLater hb c1; have HB := hidden (HB.out.trans (hb.mono HB.out.size)); clear hb))
    go_ret
    exact ⟨ret_bool (by simp), HB.out⟩
  · have hab2 : (a == b) = false := by simpa using hab
    clear hab
    go_enter Tryz.func82, Tryz.ntmps82
    go_upto_region 1 with fail
    generalize w.alloc (.cells #[.int .i64 m, .int .i64 x] 37) = w5 at *
    go_wp2_with (first | (go_at_call_of 83 (Value.int IntKind.u64 a); refine (H1.out _).mono ?_; rintro r w9 ⟨rfl, hb⟩; have c0 := cellLater hb c0; have c1 := cellLater hb c1; have HB := hidden (HB.out.trans (hb.mono HB.out.size)); clear hb) | (go_at_call_of 83 (Value.int IntKind.u64 b); refine (H2.out _).mono ?_; rintro r w9 ⟨rfl, hb⟩; have c0 := cellLater hb c0; have c1 := cellLater hb c1; have HB := hidden (HB.out.trans (hb.mono HB.out.size)); clear hb))
    go_ret
    exact ⟨ret_bool (by rw [hab2]; rfl), HB.out⟩
theorem pnear_num (m x a b t D D2 t2 c g g2 : Int) (ka kb ok : Bool) (w : World) (hk : (ka && kb) = false)
    (H1 : Hid (∀ w, Calls Tryz.prog 83 #[.agg #[.int .i64 m, .int .i64 x], .int .u64 a, .int .i64 3] w fun r w' => r = .returned (.bool ka) ∧ Below w.heap.size w w'))
    (H2 : Hid (∀ w, Calls Tryz.prog 83 #[.agg #[.int .i64 m, .int .i64 x], .int .u64 b, .int .i64 3] w fun r w' => r = .returned (.bool kb) ∧ Below w.heap.size w w'))
    (HS : Hid (∀ w, Calls Tryz.prog 26 #[.agg #[.int .i64 m, .int .i64 x], .int .u64 a, .int .u64 b] w fun r w' => r = .returned (.tuple #[.int .u64 D, .int .i64 g]) ∧ Below w.heap.size w w'))
    (HD : Hid (∀ w, Calls Tryz.prog 102 #[.agg #[.int .i64 m, .int .i64 x], .int .u64 D] w fun r w' => r = .returned (.int .u64 D2) ∧ Below w.heap.size w w'))
    (HT : Hid (∀ w, Calls Tryz.prog 102 #[.agg #[.int .i64 m, .int .i64 x], .int .u64 t] w fun r w' => r = .returned (.int .u64 t2) ∧ Below w.heap.size w w'))
    (HC : Hid (∀ w, Calls Tryz.prog 101 #[.agg #[.int .i64 m, .int .i64 x], .int .u64 D2, .int .u64 t2] w fun r w' => r = .returned (.tuple #[.int .i64 c, .bool ok, .int .i64 g2]) ∧ Below w.heap.size w w'))
    : Calls Tryz.prog 82 #[.agg #[.int .i64 m, .int .i64 x], .int .u64 a, .int .u64 b, .int .u64 t] w fun r w' => r = .returned (.bool (ok && decide (c ≤ 0))) ∧ Below w.heap.size w w' := by
  have c0 : (w.alloc (.cells #[.int .i64 m, .int .i64 x] 37)).cell? ⟨w.heap.size, 0, none⟩ = some (.int .i64 m) := by simp
  have c1 : (w.alloc (.cells #[.int .i64 m, .int .i64 x] 37)).cell? ⟨w.heap.size, 1, none⟩ = some (.int .i64 x) := by simp
  have HB := hidden ((Below.refl w.heap.size w).alloc (Nat.le_refl _) (.cells #[.int .i64 m, .int .i64 x] 37))
  have fin : Hid (∀ w', Below w.heap.size w w' → True) := hidden fun _ _ => trivial
  cases ka
  all_goals first | (cases kb) | skip
  all_goals try (simp at hk; done)
  all_goals
    clear hk
    go_enter Tryz.func82, Tryz.ntmps82
    go_upto_region 1 with fail
    generalize w.alloc (.cells #[.int .i64 m, .int .i64 x] 37) = w5 at *
    go_upto_region 4 with (first | (go_at_call_of 83 (Value.int IntKind.u64 a); refine (H1.out _).mono ?_; rintro r w9 ⟨rfl, hb⟩; have c0 := cellLater hb c0; have c1 := cellLater hb c1; have HB := hidden (HB.out.trans (hb.mono HB.out.size)); clear hb) | (go_at_call_of 83 (Value.int IntKind.u64 b); refine (H2.out _).mono ?_; rintro r w9 ⟨rfl, hb⟩; have c0 := cellLater hb c0; have c1 := cellLater hb c1; have HB := hidden (HB.out.trans (hb.mono HB.out.size)); clear hb) | (go_at_call 26; refine (HS.out _).mono ?_; rintro r w9 ⟨rfl, hb⟩; have c0 := cellLater hb c0; have c1 := cellLater hb c1; have HB := hidden (HB.out.trans (hb.mono HB.out.size)); clear hb))
    go_region_held3 (fun w' => w'.cell? ⟨w.heap.size, 0, none⟩ = some (.int .i64 m) ∧ w'.cell? ⟨w.heap.size, 1, none⟩ = some (.int .i64 x)) (go_keep) (first | (go_at_call_of 102 (Value.int IntKind.u64 D); refine (HD.out _).mono ?_; rintro r w10 ⟨rfl, hb10⟩; have c0 : w10.cell? ⟨w.heap.size, 0, none⟩ = some (.int .i64 m) := cellLater hb10 (by go_keep); have c1 : w10.cell? ⟨w.heap.size, 1, none⟩ = some (.int .i64 x) := cellLater hb10 (by go_keep)) | (go_at_call_of 102 (Value.int IntKind.u64 t); refine (HT.out _).mono ?_; rintro r w11 ⟨rfl, hb11⟩; have c0 : w11.cell? ⟨w.heap.size, 0, none⟩ = some (.int .i64 m) := cellLater hb11 (by go_keep); have c1 : w11.cell? ⟨w.heap.size, 1, none⟩ = some (.int .i64 x) := cellLater hb11 (by go_keep)) | (go_at_call 101; refine (HC.out _).mono ?_; rintro r w12 ⟨rfl, hb12⟩; have c0 : w12.cell? ⟨w.heap.size, 0, none⟩ = some (.int .i64 m) := cellLater hb12 (by go_keep); have c1 : w12.cell? ⟨w.heap.size, 1, none⟩ = some (.int .i64 x) := cellLater hb12 (by go_keep)))
  all_goals
    have h0 := HB.out.drew
    have h1 := h0.trans (hb10.mono h0.size)
    have h2 := h1.trans (hb11.mono h1.size)
    have h3 := h2.trans (hb12.mono h2.size)
    have HF := hidden h3
    clear h0 h1 h2 h3 hb10 hb11 hb12
    cases ok
    · go_wp2
      go_ret
      exact ⟨ret_bool (by simp), HF.out⟩
    · go_wp2
      go_ret
      exact ⟨ret_bool (by simp), HF.out⟩
theorem pholds32 (m x cond a b t : Int) (near nan inf ord : Bool) (w : World) (a0 : 0 ≤ a) (a1 : a < 4294967296) (b0 : 0 ≤ b) (b1 : b < 4294967296) (t0 : 0 ≤ t) (t1 : t < 4294967296)
    (HN : Hid (∀ w, Calls Tryz.prog 82 #[.agg #[.int .i64 m, .int .i64 x], .int .u64 a, .int .u64 b, .int .u64 t] w fun r w' => r = .returned (.bool near) ∧ Below w.heap.size w w'))
    (H4 : Hid (∀ w, Calls Tryz.prog 83 #[.agg #[.int .i64 m, .int .i64 x], .int .u64 a, .int .i64 4] w fun r w' => r = .returned (.bool nan) ∧ Below w.heap.size w w'))
    (H3 : Hid (∀ w, Calls Tryz.prog 83 #[.agg #[.int .i64 m, .int .i64 x], .int .u64 a, .int .i64 3] w fun r w' => r = .returned (.bool inf) ∧ Below w.heap.size w w'))
    (HI : Hid (∀ w, Calls Tryz.prog 84 #[.agg #[.int .i64 m, .int .i64 x], .int .i64 cond, .int .u64 a, .int .u64 b] w fun r w' => r = .returned (.bool ord) ∧ Below w.heap.size w w'))
    : Calls Tryz.prog 55 #[.agg #[.int .i64 m, .int .i64 x], .int .i64 cond, .int .u32 a, .int .u32 b, .int .u32 t] w fun r w' => r = .returned (.bool (holdsB cond near nan inf ord)) ∧ Below w.heap.size w w' := by
  by_cases h1 : cond = 1
  · subst h1
    go_enter Tryz.func55, Tryz.ntmps55
    go_wp2_with (go_at_call 82; refine (HN.out _).mono ?_; rintro r w1 ⟨rfl, hb⟩)
    go_ret
    exact ⟨ret_bool (by simp [holdsB]), box_below _ hb⟩
  by_cases h2 : cond = 2
  · subst h2
    go_enter Tryz.func55, Tryz.ntmps55
    go_wp2_with (go_at_call 82; refine (HN.out _).mono ?_; rintro r w1 ⟨rfl, hb⟩)
    go_ret
    exact ⟨ret_bool (by simp [holdsB]), box_below _ hb⟩
  by_cases h7 : cond = 7
  · subst h7
    go_enter Tryz.func55, Tryz.ntmps55
    go_wp2_with (go_at_call 83; refine (H4.out _).mono ?_; rintro r w1 ⟨rfl, hb⟩)
    go_ret
    exact ⟨ret_bool (by simp [holdsB]), box_below _ hb⟩
  by_cases h8 : cond = 8
  · subst h8
    go_enter Tryz.func55, Tryz.ntmps55
    go_wp2_with (go_at_call 83; refine (H3.out _).mono ?_; rintro r w1 ⟨rfl, hb⟩)
    go_ret
    exact ⟨ret_bool (by simp [holdsB]), box_below _ hb⟩
  have HE : Hid (holdsB cond near nan inf ord = ord) := hidden (by simp [holdsB, h1, h2, h7, h8])
  replace h1 : (cond == 1) = false := by simpa using h1
  replace h2 : (cond == 2) = false := by simpa using h2
  replace h7 : (cond == 7) = false := by simpa using h7
  replace h8 : (cond == 8) = false := by simpa using h8
  go_enter Tryz.func55, Tryz.ntmps55
  go_wp2_with (go_at_call 84; refine (HI.out _).mono ?_; rintro r w1 ⟨rfl, hb⟩)
  go_ret
  exact ⟨ret_bool HE.out.symm, box_below _ hb⟩
theorem pholds32_7 (m x a b t : Int) (v : Bool) (w : World) (a0 : 0 ≤ a) (a1 : a < 4294967296)
    (HK : Hid (∀ w, Calls Tryz.prog 83 #[.agg #[.int .i64 m, .int .i64 x], .int .u64 a, .int .i64 4] w fun r w' => r = .returned (.bool v) ∧ Below w.heap.size w w'))
    : Calls Tryz.prog 55 #[.agg #[.int .i64 m, .int .i64 x], .int .i64 7, .int .u32 a, .int .u32 b, .int .u32 t] w fun r w' => r = .returned (.bool v) ∧ Below w.heap.size w w' := by
  go_enter Tryz.func55, Tryz.ntmps55
  go_wp2_with (go_at_call 83; refine (HK.out _).mono ?_; rintro r w1 ⟨rfl, hb⟩)
  go_ret
  exact ⟨rfl, box_below _ hb⟩
theorem pholds32_8 (m x a b t : Int) (v : Bool) (w : World) (a0 : 0 ≤ a) (a1 : a < 4294967296)
    (HK : Hid (∀ w, Calls Tryz.prog 83 #[.agg #[.int .i64 m, .int .i64 x], .int .u64 a, .int .i64 3] w fun r w' => r = .returned (.bool v) ∧ Below w.heap.size w w'))
    : Calls Tryz.prog 55 #[.agg #[.int .i64 m, .int .i64 x], .int .i64 8, .int .u32 a, .int .u32 b, .int .u32 t] w fun r w' => r = .returned (.bool v) ∧ Below w.heap.size w w' := by
  go_enter Tryz.func55, Tryz.ntmps55
  go_wp2_with (go_at_call 83; refine (HK.out _).mono ?_; rintro r w1 ⟨rfl, hb⟩)
  go_ret
  exact ⟨rfl, box_below _ hb⟩
theorem pSingleHolds (cond a b t : Int) (v : Bool) (w : World) (hl : Laid w)
    (HF : Hid (∀ w, Calls Tryz.prog 55 #[.agg #[.int .i64 23, .int .i64 8], .int .i64 cond, .int .u32 a, .int .u32 b, .int .u32 t] w fun r w' => r = .returned (.bool v) ∧ Below w.heap.size w w'))
    : Calls Tryz.prog 23 #[.int .i64 cond, .int .u32 a, .int .u32 b, .int .u32 t] w fun r w' => r = .returned (.bool v) ∧ Below w.heap.size w w' := by
  obtain ⟨l0, l1, l2, l3⟩ := hl
  go_enter Tryz.func23, Tryz.ntmps23
  go_wp2_with (go_at_call 55; refine (HF.out _).mono ?_; rintro r w1 ⟨rfl, hb⟩)
  go_ret
  exact ⟨rfl, hb⟩
end Go.Proofs.YtbfbdemknggpkaaGreatDoor
namespace Go.Proofs.YtbfbdemknggpkaaGreatDoor
open Go.RowKit
set_option maxRecDepth 100000
set_option maxHeartbeats 400000
set_option linter.unusedVariables false

theorem reck32_1 (m x a b R Q g : Int) (w : World) (a0 : 0 ≤ a) (a1 : a < 4294967296) (b0 : 0 ≤ b) (b1 : b < 4294967296) (r0 : 0 ≤ R) (r1 : R < 4294967296)
    (H : Hid (∀ w, Calls Tryz.prog 25 #[.agg #[.int .i64 m, .int .i64 x], .int .u64 a, .int .u64 b] w fun r w' => r = .returned (.tuple #[.int .u64 R, .int .i64 g]) ∧ Below w.heap.size w w'))
    : Calls Tryz.prog 10 #[.agg #[.int .i64 m, .int .i64 x], .int .i64 1, .int .u32 a, .int .u32 b] w fun r w' => r = .returned (.tuple #[.int .u32 R, .int .i64 g]) ∧ Below w.heap.size w w' := by
  go_enter Tryz.func10, Tryz.ntmps10
  go_wp2_with (go_at_call 25; refine (H.out _).mono ?_; rintro r w1 ⟨rfl, hb⟩)
  go_ret2
  exact ⟨rfl, box_below _ hb⟩
theorem reck32_2 (m x a b R Q g : Int) (w : World) (a0 : 0 ≤ a) (a1 : a < 4294967296) (b0 : 0 ≤ b) (b1 : b < 4294967296) (r0 : 0 ≤ R) (r1 : R < 4294967296)
    (H : Hid (∀ w, Calls Tryz.prog 26 #[.agg #[.int .i64 m, .int .i64 x], .int .u64 a, .int .u64 b] w fun r w' => r = .returned (.tuple #[.int .u64 R, .int .i64 g]) ∧ Below w.heap.size w w'))
    : Calls Tryz.prog 10 #[.agg #[.int .i64 m, .int .i64 x], .int .i64 2, .int .u32 a, .int .u32 b] w fun r w' => r = .returned (.tuple #[.int .u32 R, .int .i64 g]) ∧ Below w.heap.size w w' := by
  go_enter Tryz.func10, Tryz.ntmps10
  go_wp2_with (go_at_call 26; refine (H.out _).mono ?_; rintro r w1 ⟨rfl, hb⟩)
  go_ret2
  exact ⟨rfl, box_below _ hb⟩
theorem reck32_3 (m x a b R Q g : Int) (w : World) (a0 : 0 ≤ a) (a1 : a < 4294967296) (b0 : 0 ≤ b) (b1 : b < 4294967296) (r0 : 0 ≤ R) (r1 : R < 4294967296)
    (H : Hid (∀ w, Calls Tryz.prog 27 #[.agg #[.int .i64 m, .int .i64 x], .int .u64 a, .int .u64 b] w fun r w' => r = .returned (.tuple #[.int .u64 R, .int .i64 g]) ∧ Below w.heap.size w w'))
    : Calls Tryz.prog 10 #[.agg #[.int .i64 m, .int .i64 x], .int .i64 3, .int .u32 a, .int .u32 b] w fun r w' => r = .returned (.tuple #[.int .u32 R, .int .i64 g]) ∧ Below w.heap.size w w' := by
  go_enter Tryz.func10, Tryz.ntmps10
  go_wp2_with (go_at_call 27; refine (H.out _).mono ?_; rintro r w1 ⟨rfl, hb⟩)
  go_ret2
  exact ⟨rfl, box_below _ hb⟩
theorem reck32_4 (m x a b R Q g : Int) (w : World) (a0 : 0 ≤ a) (a1 : a < 4294967296) (b0 : 0 ≤ b) (b1 : b < 4294967296) (r0 : 0 ≤ R) (r1 : R < 4294967296)
    (H : Hid (∀ w, Calls Tryz.prog 28 #[.agg #[.int .i64 m, .int .i64 x], .int .u64 a, .int .u64 b] w fun r w' => r = .returned (.tuple #[.int .u64 R, .int .i64 g]) ∧ Below w.heap.size w w'))
    : Calls Tryz.prog 10 #[.agg #[.int .i64 m, .int .i64 x], .int .i64 4, .int .u32 a, .int .u32 b] w fun r w' => r = .returned (.tuple #[.int .u32 R, .int .i64 g]) ∧ Below w.heap.size w w' := by
  go_enter Tryz.func10, Tryz.ntmps10
  go_wp2_with (go_at_call 28; refine (H.out _).mono ?_; rintro r w1 ⟨rfl, hb⟩)
  go_ret2
  exact ⟨rfl, box_below _ hb⟩
theorem reck32_5 (m x a b R Q g : Int) (w : World) (a0 : 0 ≤ a) (a1 : a < 4294967296) (b0 : 0 ≤ b) (b1 : b < 4294967296) (r0 : 0 ≤ R) (r1 : R < 4294967296)
    (H : Hid (∀ w, Calls Tryz.prog 29 #[.agg #[.int .i64 m, .int .i64 x], .int .u64 a, .int .u64 b] w fun r w' => r = .returned (.tuple #[.int .u64 R, .int .u64 Q, .int .i64 g]) ∧ Below w.heap.size w w'))
    : Calls Tryz.prog 10 #[.agg #[.int .i64 m, .int .i64 x], .int .i64 5, .int .u32 a, .int .u32 b] w fun r w' => r = .returned (.tuple #[.int .u32 R, .int .i64 g]) ∧ Below w.heap.size w w' := by
  go_enter Tryz.func10, Tryz.ntmps10
  go_wp2_with (go_at_call 29; refine (H.out _).mono ?_; rintro r w1 ⟨rfl, hb⟩)
  go_ret2
  exact ⟨rfl, box_below _ hb⟩
theorem reck32_6 (m x a b R Q g : Int) (w : World) (a0 : 0 ≤ a) (a1 : a < 4294967296) (b0 : 0 ≤ b) (b1 : b < 4294967296) (r0 : 0 ≤ R) (r1 : R < 4294967296)
    (H : Hid (∀ w, Calls Tryz.prog 29 #[.agg #[.int .i64 m, .int .i64 x], .int .u64 a, .int .u64 b] w fun r w' => r = .returned (.tuple #[.int .u64 Q, .int .u64 R, .int .i64 g]) ∧ Below w.heap.size w w'))
    : Calls Tryz.prog 10 #[.agg #[.int .i64 m, .int .i64 x], .int .i64 6, .int .u32 a, .int .u32 b] w fun r w' => r = .returned (.tuple #[.int .u32 R, .int .i64 g]) ∧ Below w.heap.size w w' := by
  go_enter Tryz.func10, Tryz.ntmps10
  go_wp2_with (go_at_call 29; refine (H.out _).mono ?_; rintro r w1 ⟨rfl, hb⟩)
  go_ret2
  exact ⟨rfl, box_below _ hb⟩
theorem reck32_7 (m x a b R Q g : Int) (w : World) (a0 : 0 ≤ a) (a1 : a < 4294967296) (b0 : 0 ≤ b) (b1 : b < 4294967296) (r0 : 0 ≤ R) (r1 : R < 4294967296)
    (H : Hid (∀ w, Calls Tryz.prog 30 #[.agg #[.int .i64 m, .int .i64 x], .int .u64 a] w fun r w' => r = .returned (.tuple #[.int .u64 R, .int .i64 g]) ∧ Below w.heap.size w w'))
    : Calls Tryz.prog 10 #[.agg #[.int .i64 m, .int .i64 x], .int .i64 7, .int .u32 a, .int .u32 b] w fun r w' => r = .returned (.tuple #[.int .u32 R, .int .i64 g]) ∧ Below w.heap.size w w' := by
  go_enter Tryz.func10, Tryz.ntmps10
  go_wp2_with (go_at_call 30; refine (H.out _).mono ?_; rintro r w1 ⟨rfl, hb⟩)
  go_ret2
  exact ⟨rfl, box_below _ hb⟩
theorem reck32_8 (m x a b R Q g : Int) (w : World) (a0 : 0 ≤ a) (a1 : a < 4294967296) (b0 : 0 ≤ b) (b1 : b < 4294967296) (r0 : 0 ≤ R) (r1 : R < 4294967296)
    (H : Hid (∀ w, Calls Tryz.prog 31 #[.agg #[.int .i64 m, .int .i64 x], .int .u64 a] w fun r w' => r = .returned (.tuple #[.int .u64 R, .int .i64 g]) ∧ Below w.heap.size w w'))
    : Calls Tryz.prog 10 #[.agg #[.int .i64 m, .int .i64 x], .int .i64 8, .int .u32 a, .int .u32 b] w fun r w' => r = .returned (.tuple #[.int .u32 R, .int .i64 g]) ∧ Below w.heap.size w w' := by
  go_enter Tryz.func10, Tryz.ntmps10
  go_wp2_with (go_at_call 31; refine (H.out _).mono ?_; rintro r w1 ⟨rfl, hb⟩)
  go_ret2
  exact ⟨rfl, box_below _ hb⟩
theorem reck32_9 (m x a b R Q g : Int) (w : World) (a0 : 0 ≤ a) (a1 : a < 4294967296) (b0 : 0 ≤ b) (b1 : b < 4294967296) (r0 : 0 ≤ R) (r1 : R < 4294967296)
    (H : Hid (∀ w, Calls Tryz.prog 32 #[.agg #[.int .i64 m, .int .i64 x], .int .u64 a] w fun r w' => r = .returned (.tuple #[.int .u64 R, .int .i64 g]) ∧ Below w.heap.size w w'))
    : Calls Tryz.prog 10 #[.agg #[.int .i64 m, .int .i64 x], .int .i64 9, .int .u32 a, .int .u32 b] w fun r w' => r = .returned (.tuple #[.int .u32 R, .int .i64 g]) ∧ Below w.heap.size w w' := by
  go_enter Tryz.func10, Tryz.ntmps10
  go_wp2_with (go_at_call 32; refine (H.out _).mono ?_; rintro r w1 ⟨rfl, hb⟩)
  go_ret2
  exact ⟨rfl, box_below _ hb⟩
theorem reck32_no (m x op a b : Int) (w : World) (a0 : 0 ≤ a) (a1 : a < 4294967296) (b0 : 0 ≤ b) (b1 : b < 4294967296) (h : op < 1 ∨ 9 < op)
    : Calls Tryz.prog 10 #[.agg #[.int .i64 m, .int .i64 x], .int .i64 op, .int .u32 a, .int .u32 b] w fun r w' => r = .returned (.tuple #[.int .u32 0, .int .i64 1]) ∧ Below w.heap.size w w' := by
  have h1 : (op == 1) = false := by simp; omega
  have h2 : (op == 2) = false := by simp; omega
  have h3 : (op == 3) = false := by simp; omega
  have h4 : (op == 4) = false := by simp; omega
  have h5 : (op == 5) = false := by simp; omega
  have h6 : (op == 6) = false := by simp; omega
  have h7 : (op == 7) = false := by simp; omega
  have h8 : (op == 8) = false := by simp; omega
  have h9 : (op == 9) = false := by simp; omega
  clear h
  go_enter Tryz.func10, Tryz.ntmps10
  go_wp2
  go_ret2
  exact ⟨rfl, (Below.refl _ _).alloc (Nat.le_refl _) _⟩
theorem pSingle (op a b R g : Int) (w : World) (hl : Laid w)
    (HF : Hid (∀ w, Calls Tryz.prog 10 #[.agg #[.int .i64 23, .int .i64 8], .int .i64 op, .int .u32 a, .int .u32 b] w fun r w' => r = .returned (.tuple #[.int .u32 R, .int .i64 g]) ∧ Below w.heap.size w w'))
    : Calls Tryz.prog 5 #[.int .i64 op, .int .u32 a, .int .u32 b] w fun r w' => r = .returned (.tuple #[.int .u32 R, .int .i64 g]) ∧ Below w.heap.size w w' := by
  obtain ⟨l0, l1, l2, l3⟩ := hl
  go_enter Tryz.func5, Tryz.ntmps5
  go_wp2_with (go_at_call 10; refine (HF.out _).mono ?_; rintro r w1 ⟨rfl, hb⟩)
  go_ret2
  exact ⟨rfl, hb⟩
theorem reck64_1 (m x a b R Q g : Int) (w : World) (a0 : 0 ≤ a) (a1 : a < 18446744073709551616) (b0 : 0 ≤ b) (b1 : b < 18446744073709551616) (r0 : 0 ≤ R) (r1 : R < 18446744073709551616)
    (H : Hid (∀ w, Calls Tryz.prog 25 #[.agg #[.int .i64 m, .int .i64 x], .int .u64 a, .int .u64 b] w fun r w' => r = .returned (.tuple #[.int .u64 R, .int .i64 g]) ∧ Below w.heap.size w w'))
    : Calls Tryz.prog 24 #[.agg #[.int .i64 m, .int .i64 x], .int .i64 1, .int .u64 a, .int .u64 b] w fun r w' => r = .returned (.tuple #[.int .u64 R, .int .i64 g]) ∧ Below w.heap.size w w' := by
  go_enter Tryz.func24, Tryz.ntmps24
  go_wp2_with (go_at_call 25; refine (H.out _).mono ?_; rintro r w1 ⟨rfl, hb⟩)
  go_ret2
  exact ⟨rfl, box_below _ hb⟩
theorem reck64_2 (m x a b R Q g : Int) (w : World) (a0 : 0 ≤ a) (a1 : a < 18446744073709551616) (b0 : 0 ≤ b) (b1 : b < 18446744073709551616) (r0 : 0 ≤ R) (r1 : R < 18446744073709551616)
    (H : Hid (∀ w, Calls Tryz.prog 26 #[.agg #[.int .i64 m, .int .i64 x], .int .u64 a, .int .u64 b] w fun r w' => r = .returned (.tuple #[.int .u64 R, .int .i64 g]) ∧ Below w.heap.size w w'))
    : Calls Tryz.prog 24 #[.agg #[.int .i64 m, .int .i64 x], .int .i64 2, .int .u64 a, .int .u64 b] w fun r w' => r = .returned (.tuple #[.int .u64 R, .int .i64 g]) ∧ Below w.heap.size w w' := by
  go_enter Tryz.func24, Tryz.ntmps24
  go_wp2_with (go_at_call 26; refine (H.out _).mono ?_; rintro r w1 ⟨rfl, hb⟩)
  go_ret2
  exact ⟨rfl, box_below _ hb⟩
theorem reck64_3 (m x a b R Q g : Int) (w : World) (a0 : 0 ≤ a) (a1 : a < 18446744073709551616) (b0 : 0 ≤ b) (b1 : b < 18446744073709551616) (r0 : 0 ≤ R) (r1 : R < 18446744073709551616)
    (H : Hid (∀ w, Calls Tryz.prog 27 #[.agg #[.int .i64 m, .int .i64 x], .int .u64 a, .int .u64 b] w fun r w' => r = .returned (.tuple #[.int .u64 R, .int .i64 g]) ∧ Below w.heap.size w w'))
    : Calls Tryz.prog 24 #[.agg #[.int .i64 m, .int .i64 x], .int .i64 3, .int .u64 a, .int .u64 b] w fun r w' => r = .returned (.tuple #[.int .u64 R, .int .i64 g]) ∧ Below w.heap.size w w' := by
  go_enter Tryz.func24, Tryz.ntmps24
  go_wp2_with (go_at_call 27; refine (H.out _).mono ?_; rintro r w1 ⟨rfl, hb⟩)
  go_ret2
  exact ⟨rfl, box_below _ hb⟩
theorem reck64_4 (m x a b R Q g : Int) (w : World) (a0 : 0 ≤ a) (a1 : a < 18446744073709551616) (b0 : 0 ≤ b) (b1 : b < 18446744073709551616) (r0 : 0 ≤ R) (r1 : R < 18446744073709551616)
    (H : Hid (∀ w, Calls Tryz.prog 28 #[.agg #[.int .i64 m, .int .i64 x], .int .u64 a, .int .u64 b] w fun r w' => r = .returned (.tuple #[.int .u64 R, .int .i64 g]) ∧ Below w.heap.size w w'))
    : Calls Tryz.prog 24 #[.agg #[.int .i64 m, .int .i64 x], .int .i64 4, .int .u64 a, .int .u64 b] w fun r w' => r = .returned (.tuple #[.int .u64 R, .int .i64 g]) ∧ Below w.heap.size w w' := by
  go_enter Tryz.func24, Tryz.ntmps24
  go_wp2_with (go_at_call 28; refine (H.out _).mono ?_; rintro r w1 ⟨rfl, hb⟩)
  go_ret2
  exact ⟨rfl, box_below _ hb⟩
theorem reck64_5 (m x a b R Q g : Int) (w : World) (a0 : 0 ≤ a) (a1 : a < 18446744073709551616) (b0 : 0 ≤ b) (b1 : b < 18446744073709551616) (r0 : 0 ≤ R) (r1 : R < 18446744073709551616)
    (H : Hid (∀ w, Calls Tryz.prog 29 #[.agg #[.int .i64 m, .int .i64 x], .int .u64 a, .int .u64 b] w fun r w' => r = .returned (.tuple #[.int .u64 R, .int .u64 Q, .int .i64 g]) ∧ Below w.heap.size w w'))
    : Calls Tryz.prog 24 #[.agg #[.int .i64 m, .int .i64 x], .int .i64 5, .int .u64 a, .int .u64 b] w fun r w' => r = .returned (.tuple #[.int .u64 R, .int .i64 g]) ∧ Below w.heap.size w w' := by
  go_enter Tryz.func24, Tryz.ntmps24
  go_wp2_with (go_at_call 29; refine (H.out _).mono ?_; rintro r w1 ⟨rfl, hb⟩)
  go_ret2
  exact ⟨rfl, box_below _ hb⟩
theorem reck64_6 (m x a b R Q g : Int) (w : World) (a0 : 0 ≤ a) (a1 : a < 18446744073709551616) (b0 : 0 ≤ b) (b1 : b < 18446744073709551616) (r0 : 0 ≤ R) (r1 : R < 18446744073709551616)
    (H : Hid (∀ w, Calls Tryz.prog 29 #[.agg #[.int .i64 m, .int .i64 x], .int .u64 a, .int .u64 b] w fun r w' => r = .returned (.tuple #[.int .u64 Q, .int .u64 R, .int .i64 g]) ∧ Below w.heap.size w w'))
    : Calls Tryz.prog 24 #[.agg #[.int .i64 m, .int .i64 x], .int .i64 6, .int .u64 a, .int .u64 b] w fun r w' => r = .returned (.tuple #[.int .u64 R, .int .i64 g]) ∧ Below w.heap.size w w' := by
  go_enter Tryz.func24, Tryz.ntmps24
  go_wp2_with (go_at_call 29; refine (H.out _).mono ?_; rintro r w1 ⟨rfl, hb⟩)
  go_ret2
  exact ⟨rfl, box_below _ hb⟩
theorem reck64_7 (m x a b R Q g : Int) (w : World) (a0 : 0 ≤ a) (a1 : a < 18446744073709551616) (b0 : 0 ≤ b) (b1 : b < 18446744073709551616) (r0 : 0 ≤ R) (r1 : R < 18446744073709551616)
    (H : Hid (∀ w, Calls Tryz.prog 30 #[.agg #[.int .i64 m, .int .i64 x], .int .u64 a] w fun r w' => r = .returned (.tuple #[.int .u64 R, .int .i64 g]) ∧ Below w.heap.size w w'))
    : Calls Tryz.prog 24 #[.agg #[.int .i64 m, .int .i64 x], .int .i64 7, .int .u64 a, .int .u64 b] w fun r w' => r = .returned (.tuple #[.int .u64 R, .int .i64 g]) ∧ Below w.heap.size w w' := by
  go_enter Tryz.func24, Tryz.ntmps24
  go_wp2_with (go_at_call 30; refine (H.out _).mono ?_; rintro r w1 ⟨rfl, hb⟩)
  go_ret2
  exact ⟨rfl, box_below _ hb⟩
theorem reck64_8 (m x a b R Q g : Int) (w : World) (a0 : 0 ≤ a) (a1 : a < 18446744073709551616) (b0 : 0 ≤ b) (b1 : b < 18446744073709551616) (r0 : 0 ≤ R) (r1 : R < 18446744073709551616)
    (H : Hid (∀ w, Calls Tryz.prog 31 #[.agg #[.int .i64 m, .int .i64 x], .int .u64 a] w fun r w' => r = .returned (.tuple #[.int .u64 R, .int .i64 g]) ∧ Below w.heap.size w w'))
    : Calls Tryz.prog 24 #[.agg #[.int .i64 m, .int .i64 x], .int .i64 8, .int .u64 a, .int .u64 b] w fun r w' => r = .returned (.tuple #[.int .u64 R, .int .i64 g]) ∧ Below w.heap.size w w' := by
  go_enter Tryz.func24, Tryz.ntmps24
  go_wp2_with (go_at_call 31; refine (H.out _).mono ?_; rintro r w1 ⟨rfl, hb⟩)
  go_ret2
  exact ⟨rfl, box_below _ hb⟩
theorem reck64_9 (m x a b R Q g : Int) (w : World) (a0 : 0 ≤ a) (a1 : a < 18446744073709551616) (b0 : 0 ≤ b) (b1 : b < 18446744073709551616) (r0 : 0 ≤ R) (r1 : R < 18446744073709551616)
    (H : Hid (∀ w, Calls Tryz.prog 32 #[.agg #[.int .i64 m, .int .i64 x], .int .u64 a] w fun r w' => r = .returned (.tuple #[.int .u64 R, .int .i64 g]) ∧ Below w.heap.size w w'))
    : Calls Tryz.prog 24 #[.agg #[.int .i64 m, .int .i64 x], .int .i64 9, .int .u64 a, .int .u64 b] w fun r w' => r = .returned (.tuple #[.int .u64 R, .int .i64 g]) ∧ Below w.heap.size w w' := by
  go_enter Tryz.func24, Tryz.ntmps24
  go_wp2_with (go_at_call 32; refine (H.out _).mono ?_; rintro r w1 ⟨rfl, hb⟩)
  go_ret2
  exact ⟨rfl, box_below _ hb⟩
theorem reck64_no (m x op a b : Int) (w : World) (a0 : 0 ≤ a) (a1 : a < 18446744073709551616) (b0 : 0 ≤ b) (b1 : b < 18446744073709551616) (h : op < 1 ∨ 9 < op)
    : Calls Tryz.prog 24 #[.agg #[.int .i64 m, .int .i64 x], .int .i64 op, .int .u64 a, .int .u64 b] w fun r w' => r = .returned (.tuple #[.int .u64 0, .int .i64 1]) ∧ Below w.heap.size w w' := by
  have h1 : (op == 1) = false := by simp; omega
  have h2 : (op == 2) = false := by simp; omega
  have h3 : (op == 3) = false := by simp; omega
  have h4 : (op == 4) = false := by simp; omega
  have h5 : (op == 5) = false := by simp; omega
  have h6 : (op == 6) = false := by simp; omega
  have h7 : (op == 7) = false := by simp; omega
  have h8 : (op == 8) = false := by simp; omega
  have h9 : (op == 9) = false := by simp; omega
  clear h
  go_enter Tryz.func24, Tryz.ntmps24
  go_wp2
  go_ret2
  exact ⟨rfl, (Below.refl _ _).alloc (Nat.le_refl _) _⟩
theorem pDouble (op a b R g : Int) (w : World) (hl : Laid w)
    (HF : Hid (∀ w, Calls Tryz.prog 24 #[.agg #[.int .i64 52, .int .i64 11], .int .i64 op, .int .u64 a, .int .u64 b] w fun r w' => r = .returned (.tuple #[.int .u64 R, .int .i64 g]) ∧ Below w.heap.size w w'))
    : Calls Tryz.prog 9 #[.int .i64 op, .int .u64 a, .int .u64 b] w fun r w' => r = .returned (.tuple #[.int .u64 R, .int .i64 g]) ∧ Below w.heap.size w w' := by
  obtain ⟨l0, l1, l2, l3⟩ := hl
  go_enter Tryz.func9, Tryz.ntmps9
  go_wp2_with (go_at_call 24; refine (HF.out _).mono ?_; rintro r w1 ⟨rfl, hb⟩)
  go_ret2
  exact ⟨rfl, hb⟩
end Go.Proofs.YtbfbdemknggpkaaGreatDoor
namespace Go.Proofs.YtbfbdemknggpkaaGreatDoor
open Go.RowKit
set_option maxRecDepth 100000
set_option maxHeartbeats 400000
set_option linter.unusedVariables false

theorem open_box2 (m x m2 x2 K E M : Int) (n : Bool) (w w1 : World) (hb : Below ((w.alloc (.cells #[.int .i64 m, .int .i64 x] 37)).alloc (.cells #[.int .i64 m2, .int .i64 x2] 37)).heap.size ((w.alloc (.cells #[.int .i64 m, .int .i64 x] 37)).alloc (.cells #[.int .i64 m2, .int .i64 x2] 37)) w1) :
    ∃ w5, w5 = w1.alloc (prt K n E M) ∧ Below w.heap.size w w5 ∧ w5.cell? ⟨w.heap.size + 1, 0, none⟩ = some (.int .i64 m2) ∧ w5.cell? ⟨w.heap.size + 1, 1, none⟩ = some (.int .i64 x2) ∧
      w5.cell? ⟨w1.heap.size, 0, none⟩ = some (.int .i64 K) ∧ w5.cell? ⟨w1.heap.size, 1, none⟩ = some (.bool n) ∧ w5.cell? ⟨w1.heap.size, 2, none⟩ = some (.int .i64 E) ∧ w5.cell? ⟨w1.heap.size, 3, none⟩ = some (.int .u64 M) := by
  have hW : Below w.heap.size w ((w.alloc (.cells #[.int .i64 m, .int .i64 x] 37)).alloc (.cells #[.int .i64 m2, .int .i64 x2] 37)) := ((Below.refl _ _).alloc (Nat.le_refl _) _).alloc (by simp) _
  have hB := hW.trans (hb.mono hW.size)
  have d0 : w1.cell? ⟨w.heap.size + 1, 0, none⟩ = some (.int .i64 m2) := cellLater hb (by simp)
  have d1 : w1.cell? ⟨w.heap.size + 1, 1, none⟩ = some (.int .i64 x2) := cellLater hb (by simp)
  have hZ : Below w1.heap.size w1 (w1.alloc (prt K n E M)) := (Below.refl _ _).alloc (Nat.le_refl _) _
  obtain ⟨p0, p1, p2, p3, -⟩ := ps_fresh w1 K E M n
  exact ⟨_, rfl, hB.trans (hZ.mono hB.size), cellLater hZ d0, cellLater hZ d1, p0, p1, p2, p3⟩
theorem pconv_err (m x m2 x2 a : Int) (w : World)
    (HO : Hid (∀ w, Calls Tryz.prog 68 #[.agg #[.int .i64 m, .int .i64 x], .int .u64 a] w fun r w' => r = .returned (.tuple #[partsV 0 false 0 0, .int .i64 1]) ∧ Below w.heap.size w w')) :
    Calls Tryz.prog 81 #[.agg #[.int .i64 m, .int .i64 x], .agg #[.int .i64 m2, .int .i64 x2], .int .u64 a] w fun r w' => r = .returned (.tuple #[.int .u64 0, .int .i64 1]) ∧ Below w.heap.size w w' := by
  go_enter Tryz.func81, Tryz.ntmps81
  go_wp2_with fail
  refine (HO.out _).mono ?_
  rintro r w1 ⟨rfl, hb1⟩
  have hW : Below w.heap.size w ((w.alloc (.cells #[.int .i64 m, .int .i64 x] 37)).alloc (.cells #[.int .i64 m2, .int .i64 x2] 37)) := ((Below.refl _ _).alloc (Nat.le_refl _) _).alloc (by simp) _
  have HB1 := hidden (hW.trans (hb1.mono hW.size))
  clear hb1 hW
  go_wp2
  go_ret2
  exact ⟨rfl, HB1.out.alloc HB1.out.size _⟩
theorem pconv_no (m x m2 x2 a K E M : Int) (n : Bool) (w : World)
    (HO : Hid (∀ w, Calls Tryz.prog 68 #[.agg #[.int .i64 m, .int .i64 x], .int .u64 a] w fun r w' => r = .returned (.tuple #[partsV K n E M, .int .i64 0]) ∧ Below w.heap.size w w'))
    (HC : Hid (∀ w, Calls Tryz.prog 85 #[.agg #[.int .i64 m2, .int .i64 x2]] w fun r w' => r = .returned (.int .i64 1) ∧ Below w.heap.size w w'))
    : Calls Tryz.prog 81 #[.agg #[.int .i64 m, .int .i64 x], .agg #[.int .i64 m2, .int .i64 x2], .int .u64 a] w fun r w' => r = .returned (.tuple #[.int .u64 0, .int .i64 1]) ∧ Below w.heap.size w w' := by
  go_enter Tryz.func81, Tryz.ntmps81
  go_wp2_with fail
  refine (HO.out _).mono ?_
  rintro r w1 ⟨rfl, hb1⟩
  obtain ⟨w5, hw5, hx, c0, c1, p0, p1, p2', p3⟩ := open_box2 m x m2 x2 K E M n w w1 hb1
  have HB := hidden hx
  clear hx hb1
  go_upto_region 2 with fail
  change Code.wp _ _ _ _ (w1.alloc (prt K n E M))
  rw [← hw5]
  clear hw5
  go_wp2_with (first | (go_at_call 85; refine (HC.out _).mono ?_; rintro r w9 ⟨rfl, hb⟩; have zz := six_on hb ⟨c0, c1, p0, p1, p2', p3⟩; clear c0 c1 p0 p1 p2' p3; obtain ⟨c0, c1, p0, p1, p2', p3⟩ := zz; have HB := hidden (HB.out.trans (hb.mono HB.out.size)); clear hb))
  go_ret2
  exact ⟨rfl, HB.out⟩
theorem pconv_nan (m x m2 x2 a K E M R : Int) (n : Bool) (w : World)
    (HO : Hid (∀ w, Calls Tryz.prog 68 #[.agg #[.int .i64 m, .int .i64 x], .int .u64 a] w fun r w' => r = .returned (.tuple #[partsV K n E M, .int .i64 0]) ∧ Below w.heap.size w w'))
    (HC : Hid (∀ w, Calls Tryz.prog 85 #[.agg #[.int .i64 m2, .int .i64 x2]] w fun r w' => r = .returned (.int .i64 0) ∧ Below w.heap.size w w'))
    (HN : Hid (∀ w, Calls Tryz.prog 58 #[.agg #[.int .i64 m2, .int .i64 x2]] w fun r w' => r = .returned (.int .u64 R) ∧ Below w.heap.size w w'))
    (k4 : (K == 4) = true)
    : Calls Tryz.prog 81 #[.agg #[.int .i64 m, .int .i64 x], .agg #[.int .i64 m2, .int .i64 x2], .int .u64 a] w fun r w' => r = .returned (.tuple #[.int .u64 R, .int .i64 0]) ∧ Below w.heap.size w w' := by
  go_enter Tryz.func81, Tryz.ntmps81
  go_wp2_with fail
  refine (HO.out _).mono ?_
  rintro r w1 ⟨rfl, hb1⟩
  obtain ⟨w5, hw5, hx, c0, c1, p0, p1, p2', p3⟩ := open_box2 m x m2 x2 K E M n w w1 hb1
  have HB := hidden hx
  clear hx hb1
  go_upto_region 2 with fail
  change Code.wp _ _ _ _ (w1.alloc (prt K n E M))
  rw [← hw5]
  clear hw5
  go_wp2_with (first | (go_at_call 85; refine (HC.out _).mono ?_; rintro r w9 ⟨rfl, hb⟩; have zz := six_on hb ⟨c0, c1, p0, p1, p2', p3⟩; clear c0 c1 p0 p1 p2' p3; obtain ⟨c0, c1, p0, p1, p2', p3⟩ := zz; have HB := hidden (HB.out.trans (hb.mono HB.out.size)); clear hb) | (go_at_call 58; refine (HN.out _).mono ?_; rintro r w9 ⟨rfl, hb⟩; have zz := six_on hb ⟨c0, c1, p0, p1, p2', p3⟩; clear c0 c1 p0 p1 p2' p3; obtain ⟨c0, c1, p0, p1, p2', p3⟩ := zz; have HB := hidden (HB.out.trans (hb.mono HB.out.size)); clear hb))
  go_ret2
  exact ⟨rfl, HB.out⟩
theorem pconv_inf (m x m2 x2 a K E M R : Int) (n : Bool) (w : World)
    (HO : Hid (∀ w, Calls Tryz.prog 68 #[.agg #[.int .i64 m, .int .i64 x], .int .u64 a] w fun r w' => r = .returned (.tuple #[partsV K n E M, .int .i64 0]) ∧ Below w.heap.size w w'))
    (HC : Hid (∀ w, Calls Tryz.prog 85 #[.agg #[.int .i64 m2, .int .i64 x2]] w fun r w' => r = .returned (.int .i64 0) ∧ Below w.heap.size w w'))
    (HI : Hid (∀ w, Calls Tryz.prog 63 #[.agg #[.int .i64 m2, .int .i64 x2], .bool n] w fun r w' => r = .returned (.int .u64 R) ∧ Below w.heap.size w w'))
    (k4 : (K == 4) = false)
    (k3 : (K == 3) = true)
    : Calls Tryz.prog 81 #[.agg #[.int .i64 m, .int .i64 x], .agg #[.int .i64 m2, .int .i64 x2], .int .u64 a] w fun r w' => r = .returned (.tuple #[.int .u64 R, .int .i64 0]) ∧ Below w.heap.size w w' := by
  go_enter Tryz.func81, Tryz.ntmps81
  go_wp2_with fail
  refine (HO.out _).mono ?_
  rintro r w1 ⟨rfl, hb1⟩
  obtain ⟨w5, hw5, hx, c0, c1, p0, p1, p2', p3⟩ := open_box2 m x m2 x2 K E M n w w1 hb1
  have HB := hidden hx
  clear hx hb1
  go_upto_region 2 with fail
  change Code.wp _ _ _ _ (w1.alloc (prt K n E M))
  rw [← hw5]
  clear hw5
  go_wp2_with (first | (go_at_call 85; refine (HC.out _).mono ?_; rintro r w9 ⟨rfl, hb⟩; have zz := six_on hb ⟨c0, c1, p0, p1, p2', p3⟩; clear c0 c1 p0 p1 p2' p3; obtain ⟨c0, c1, p0, p1, p2', p3⟩ := zz; have HB := hidden (HB.out.trans (hb.mono HB.out.size)); clear hb) | (go_at_call 63; refine (HI.out _).mono ?_; rintro r w9 ⟨rfl, hb⟩; have zz := six_on hb ⟨c0, c1, p0, p1, p2', p3⟩; clear c0 c1 p0 p1 p2' p3; obtain ⟨c0, c1, p0, p1, p2', p3⟩ := zz; have HB := hidden (HB.out.trans (hb.mono HB.out.size)); clear hb))
  go_ret2
  exact ⟨rfl, HB.out⟩
theorem pconv_zero (m x m2 x2 a K E M R : Int) (n : Bool) (w : World)
    (HO : Hid (∀ w, Calls Tryz.prog 68 #[.agg #[.int .i64 m, .int .i64 x], .int .u64 a] w fun r w' => r = .returned (.tuple #[partsV K n E M, .int .i64 0]) ∧ Below w.heap.size w w'))
    (HC : Hid (∀ w, Calls Tryz.prog 85 #[.agg #[.int .i64 m2, .int .i64 x2]] w fun r w' => r = .returned (.int .i64 0) ∧ Below w.heap.size w w'))
    (HZ : Hid (∀ w, Calls Tryz.prog 60 #[.agg #[.int .i64 m2, .int .i64 x2], .bool n] w fun r w' => r = .returned (.int .u64 R) ∧ Below w.heap.size w w'))
    (k4 : (K == 4) = false)
    (k3 : (K == 3) = false)
    (k1 : (K == 1) = true)
    : Calls Tryz.prog 81 #[.agg #[.int .i64 m, .int .i64 x], .agg #[.int .i64 m2, .int .i64 x2], .int .u64 a] w fun r w' => r = .returned (.tuple #[.int .u64 R, .int .i64 0]) ∧ Below w.heap.size w w' := by
  go_enter Tryz.func81, Tryz.ntmps81
  go_wp2_with fail
  refine (HO.out _).mono ?_
  rintro r w1 ⟨rfl, hb1⟩
  obtain ⟨w5, hw5, hx, c0, c1, p0, p1, p2', p3⟩ := open_box2 m x m2 x2 K E M n w w1 hb1
  have HB := hidden hx
  clear hx hb1
  go_upto_region 2 with fail
  change Code.wp _ _ _ _ (w1.alloc (prt K n E M))
  rw [← hw5]
  clear hw5
  go_wp2_with (first | (go_at_call 85; refine (HC.out _).mono ?_; rintro r w9 ⟨rfl, hb⟩; have zz := six_on hb ⟨c0, c1, p0, p1, p2', p3⟩; clear c0 c1 p0 p1 p2' p3; obtain ⟨c0, c1, p0, p1, p2', p3⟩ := zz; have HB := hidden (HB.out.trans (hb.mono HB.out.size)); clear hb) | (go_at_call 60; refine (HZ.out _).mono ?_; rintro r w9 ⟨rfl, hb⟩; have zz := six_on hb ⟨c0, c1, p0, p1, p2', p3⟩; clear c0 c1 p0 p1 p2' p3; obtain ⟨c0, c1, p0, p1, p2', p3⟩ := zz; have HB := hidden (HB.out.trans (hb.mono HB.out.size)); clear hb))
  go_ret2
  exact ⟨rfl, HB.out⟩
theorem pconv_fin (m x m2 x2 a K E M R : Int) (n : Bool) (w : World)
    (HO : Hid (∀ w, Calls Tryz.prog 68 #[.agg #[.int .i64 m, .int .i64 x], .int .u64 a] w fun r w' => r = .returned (.tuple #[partsV K n E M, .int .i64 0]) ∧ Below w.heap.size w w'))
    (HC : Hid (∀ w, Calls Tryz.prog 85 #[.agg #[.int .i64 m2, .int .i64 x2]] w fun r w' => r = .returned (.int .i64 0) ∧ Below w.heap.size w w'))
    (HP : Hid (∀ w, Calls Tryz.prog 65 #[.agg #[.int .i64 m2, .int .i64 x2], .bool n, .int .u64 0, .int .u64 M, .int .i64 E, .bool false] w fun r w' => r = .returned (.tuple #[.int .u64 R, .int .i64 0]) ∧ Below w.heap.size w w'))
    (k4 : (K == 4) = false)
    (k3 : (K == 3) = false)
    (k1 : (K == 1) = false)
    : Calls Tryz.prog 81 #[.agg #[.int .i64 m, .int .i64 x], .agg #[.int .i64 m2, .int .i64 x2], .int .u64 a] w fun r w' => r = .returned (.tuple #[.int .u64 R, .int .i64 0]) ∧ Below w.heap.size w w' := by
  go_enter Tryz.func81, Tryz.ntmps81
  go_wp2_with fail
  refine (HO.out _).mono ?_
  rintro r w1 ⟨rfl, hb1⟩
  obtain ⟨w5, hw5, hx, c0, c1, p0, p1, p2', p3⟩ := open_box2 m x m2 x2 K E M n w w1 hb1
  have HB := hidden hx
  clear hx hb1
  go_upto_region 2 with fail
  change Code.wp _ _ _ _ (w1.alloc (prt K n E M))
  rw [← hw5]
  clear hw5
  go_wp2_with (first | (go_at_call 85; refine (HC.out _).mono ?_; rintro r w9 ⟨rfl, hb⟩; have zz := six_on hb ⟨c0, c1, p0, p1, p2', p3⟩; clear c0 c1 p0 p1 p2' p3; obtain ⟨c0, c1, p0, p1, p2', p3⟩ := zz; have HB := hidden (HB.out.trans (hb.mono HB.out.size)); clear hb) | (go_at_call 65; refine (HP.out _).mono ?_; rintro r w9 ⟨rfl, hb⟩; have zz := six_on hb ⟨c0, c1, p0, p1, p2', p3⟩; clear c0 c1 p0 p1 p2' p3; obtain ⟨c0, c1, p0, p1, p2', p3⟩ := zz; have HB := hidden (HB.out.trans (hb.mono HB.out.size)); clear hb))
  go_ret2
  exact ⟨rfl, HB.out⟩
end Go.Proofs.YtbfbdemknggpkaaGreatDoor
namespace Go.Proofs.YtbfbdemknggpkaaGreatDoor
open Go.RowKit
set_option maxHeartbeats 400000
set_option linter.unusedVariables false

/-- what is known of a pattern by its kind -/
structure PatK (m x : Nat) (a K : Int) (n : Bool) (E M : Int) : Prop where
  kind : K = 1 ∨ K = 2 ∨ K = 3 ∨ K = 4
  zero : K = 1 → E = 0 ∧ M = 0 ∧ a = sgnW n (m + x)
  fin : K = 2 → FinP m x E M ∧ packP m x M E false + sgnW n (m + x) = a
  inf : K = 3 → a = infI m x n
theorem patK (m x : Nat) (a : Int) (hok : okF m x) (a0 : 0 ≤ a) (ha : bl a ≤ 1 + x + m) : PatK m x a (kindI m x a) (negI m x a) (expI m x a) (manI m x a) := by
  have hx : 2 ≤ x := by have := hok.2.2.1; omega
  exact ⟨kind_all m x a, fun h => kind_zero m x a a0 ha h, fun h => ⟨fin_of m x a hx h, (kind_fin m x a a0 ha hx h).1⟩, fun h => (kind_inf m x a a0 ha h).2.2⟩
end Go.Proofs.YtbfbdemknggpkaaGreatDoor
namespace Go.Proofs.YtbfbdemknggpkaaGreatDoor
open Go.RowKit
set_option maxRecDepth 100000
set_option maxHeartbeats 400000
set_option linter.unusedVariables false

def convK (m x : Nat) (K : Int) (n : Bool) (E M : Int) : Int := if K = 4 then nanI m x else if K = 3 then infI m x n else if K = 1 then sgnW n (m + x) else packP m x M E false + sgnW n (m + x)
theorem nan_bd (m x : Nat) (hm : 1 ≤ m) : 0 ≤ nanI m x ∧ nanI m x < p2 (m + x) := by
  have h1 : (p2 x - 1) * p2 m = p2 (m + x) - p2 m := by rw [Int.sub_mul, Int.one_mul, ← p2_add, Nat.add_comm x m]
  have h2 : p2 m = 2 * p2 (m - 1) := by rw [← p2_succ]; congr 1; omega
  have h3 := p2_pos (m - 1)
  have h4 : p2 m ≤ p2 (m + x) := p2_mono (by omega)
  unfold nanI
  omega
theorem inf_bd (m x : Nat) (n : Bool) : 0 ≤ infI m x n ∧ infI m x n < p2 (m + x + 1) := by
  have h1 : (p2 x - 1) * p2 m = p2 (m + x) - p2 m := by rw [Int.sub_mul, Int.one_mul, ← p2_add, Nat.add_comm x m]
  have h3 := p2_pos m
  have h4 : p2 m ≤ p2 (m + x) := p2_mono (by omega)
  rw [p2_succ]
  unfold infI sgnW
  cases n <;> simp <;> omega
theorem pack_lt (m x : Nat) (N e : Int) (more s : Bool) (hN : 0 ≤ N) (hx : 2 ≤ x) : 0 ≤ packP m x N e more + sgnW s (m + x) ∧ packP m x N e more + sgnW s (m + x) < p2 (m + x + 1) := by
  obtain ⟨h0, h1⟩ := pack_bd m x N e more hN hx
  have h2 : (p2 x - 1) * p2 m = p2 (m + x) - p2 m := by rw [Int.sub_mul, Int.one_mul, ← p2_add, Nat.add_comm x m]
  have h3 := p2_pos m
  rw [p2_succ]
  unfold sgnW
  cases s <;> simp <;> omega
theorem sgn_lt (k : Nat) (s : Bool) : 0 ≤ sgnW s k ∧ sgnW s k < p2 (k + 1) := by
  have := p2_pos k
  rw [p2_succ]
  unfold sgnW
  cases s <;> simp <;> omega
theorem conv_bd (m x m2 x2 : Nat) (a K E M : Int) (n : Bool) (hok2 : okF m2 x2) (g : PatK m x a K n E M) : 0 ≤ convK m2 x2 K n E M ∧ convK m2 x2 K n E M < p2 (m2 + x2 + 1) := by
  have hx : 2 ≤ x2 := by have := hok2.2.2.1; omega
  have hm : 1 ≤ m2 := by have := hok2.1; omega
  rcases g.kind with rfl | rfl | rfl | rfl
  · exact sgn_lt _ n
  · have h := (g.fin rfl).1.1
    exact pack_lt m2 x2 M E false n (by omega) hx
  · exact inf_bd m2 x2 n
  · have h := nan_bd m2 x2 hm
    have := p2_mono (show m2 + x2 ≤ m2 + x2 + 1 by omega)
    change 0 ≤ nanI m2 x2 ∧ nanI m2 x2 < _
    omega
theorem pconv_k (m x m2 x2 : Nat) (a K E M : Int) (n : Bool) (w : World) (hok : okF m x) (hok2 : okF m2 x2) (g : PatK m x a K n E M) (HO : Open1C m x a K n E M) :
    Calls Tryz.prog 81 #[.agg #[.int .i64 (m : Int), .int .i64 (x : Int)], .agg #[.int .i64 (m2 : Int), .int .i64 (x2 : Int)], .int .u64 a] w fun r w' => r = .returned (.tuple #[.int .u64 (convK m2 x2 K n E M), .int .i64 0]) ∧ Below w.heap.size w w' := by
  have HC : Hid (∀ w, Calls Tryz.prog 85 #[.agg #[.int .i64 (m2 : Int), .int .i64 (x2 : Int)]] w fun r w' => r = .returned (.int .i64 0) ∧ Below w.heap.size w w') := hidden fun w => by
    refine (pcheck_ok m2 x2 w hok2).mono ?_
    rintro r w' ⟨rfl, rfl⟩
    exact ⟨rfl, (Below.refl _ _).alloc (Nat.le_refl _) _⟩
  rcases g.kind with rfl | rfl | rfl | rfl
  · exact pconv_zero m x m2 x2 a 1 E M _ n w HO HC (hidden fun w => pzero_any m2 x2 n w hok2) rfl rfl rfl
  · obtain ⟨f, -⟩ := g.fin rfl
    obtain ⟨r1, r2, r3, r4⟩ := f.rng hok
    exact pconv_fin m x m2 x2 a 2 E M _ n w HO HC (hidden fun w => ppack_any m2 x2 n false M 0 M E w hok2 (by omega) (by omega) (by omega) (by omega) (by omega) (by omega) (by omega) (fun h => by cases h)) rfl rfl rfl
  · exact pconv_inf m x m2 x2 a 3 E M _ n w HO HC (hidden fun w => pinf_any m2 x2 n w hok2) rfl rfl
  · exact pconv_nan m x m2 x2 a 4 E M _ n w HO HC (hidden fun w => pnan_any m2 x2 w hok2) rfl
end Go.Proofs.YtbfbdemknggpkaaGreatDoor
namespace Go.Proofs.YtbfbdemknggpkaaGreatDoor
open Go.RowKit
set_option maxRecDepth 100000
set_option maxHeartbeats 400000
set_option linter.unusedVariables false

def cmpOk (K1 K2 : Int) : Bool := !(K1 == 4 || K2 == 4)
def cmpR (m x : Nat) (a b K1 K2 : Int) : Int := if K1 = 4 ∨ K2 = 4 then 0 else cmpZ (rankI (m + x) a) (rankI (m + x) b)
theorem pcmp_k (m x : Nat) (a b K1 E1 M1 K2 E2 M2 : Int) (n1 n2 : Bool) (w : World) (hok : okF m x) (a0 : 0 ≤ a) (a1 : a < p2 (m + x + 1)) (b0 : 0 ≤ b) (b1 : b < p2 (m + x + 1)) (HO : OpenC m x a b K1 n1 E1 M1 K2 n2 E2 M2) :
    Calls Tryz.prog 101 #[.agg #[.int .i64 (m : Int), .int .i64 (x : Int)], .int .u64 a, .int .u64 b] w fun r w' => r = .returned (.tuple #[.int .i64 (cmpR m x a b K1 K2), .bool (cmpOk K1 K2), .int .i64 0]) ∧ Below w.heap.size w w' := by
  by_cases h4 : (K1 == 4 || K2 == 4) = true
  · rw [show cmpOk K1 K2 = false by unfold cmpOk; rw [h4]; rfl, show cmpR m x a b K1 K2 = 0 by unfold cmpR; rw [if_pos (by simpa using h4)]]
    exact pcmp_nan m x a b _ _ _ _ _ _ _ _ w HO (pei _ _ _ _ _ _ _ _ _ _ h4)
  · have h4' : (K1 == 4 || K2 == 4) = false := by simpa using h4
    rw [show cmpOk K1 K2 = true by unfold cmpOk; rw [h4']; rfl, show cmpR m x a b K1 K2 = cmpZ (rankI (m + x) a) (rankI (m + x) b) by unfold cmpR; rw [if_neg (by simpa using h4)]]
    exact pcmp_num m x a b _ _ _ _ _ _ _ _ _ _ w HO (pei _ _ _ _ _ _ _ _ _ _ h4') (hidden fun w => prank m x a w hok a0 a1) (hidden fun w => prank m x b w hok b0 b1)
/-- Sub is Add with the other sign -/
theorem psub_k (m x : Nat) (a b K1 E1 M1 K2 E2 M2 : Int) (n1 n2 : Bool) (w : World) (hok : okF m x) (b0 : 0 ≤ b) (b1 : b < p2 (m + x + 1)) (h1 : K1 = 1 ∨ K1 = 2 ∨ K1 = 3 ∨ K1 = 4) (h2 : K2 = 1 ∨ K2 = 2 ∨ K2 = 3 ∨ K2 = 4) (f1 : K1 = 2 → FinP m x E1 M1) (f2 : K2 = 2 → FinP m x E2 M2) (HO : OpenC m x a (turnI (m + x) b) K1 n1 E1 M1 K2 n2 E2 M2) :
    Calls Tryz.prog 26 #[.agg #[.int .i64 (m : Int), .int .i64 (x : Int)], .int .u64 a, .int .u64 b] w fun r w' => r = .returned (.tuple #[.int .u64 (addK m x a (turnI (m + x) b) K1 n1 E1 M1 K2 n2 E2 M2), .int .i64 0]) ∧ Below w.heap.size w w' := by
  have hk : m + x ≤ 63 := by have := hok.2.1; have := hok.2.2.2; omega
  have hp := p2_mono (show m + x + 1 ≤ 64 by omega)
  rw [p2_64] at hp
  exact psub_walk m x a b _ _ _ 0 w (xor_top (m + x) b hk b0 b1 (by omega)) (hidden fun w => psignbit_any m x w hok) (hidden fun w => padd_k m x a _ _ _ _ _ _ _ _ _ w hok h1 h2 f1 f2 HO)
end Go.Proofs.YtbfbdemknggpkaaGreatDoor
namespace Go.Proofs.YtbfbdemknggpkaaGreatDoor
open Go.RowKit
set_option maxRecDepth 100000
set_option maxHeartbeats 400000
set_option linter.unusedVariables false

theorem shr_min (M : Int) (k : Nat) (h0 : 0 ≤ M) (h1 : M < 18446744073709551616) : M / 2 ^ min k 64 = M / p2 k := by
  rcases Nat.lt_or_ge k 64 with h | h
  · rw [Nat.min_eq_left (by omega)]; rfl
  · rw [Nat.min_eq_right h]
    have h5 := p2_mono h
    rw [p2_64] at h5
    rw [Int.ediv_eq_zero_of_lt h0 (show M < p2 k by omega), show (2 : Int) ^ 64 = 18446744073709551616 by decide]
    omega
theorem pwpart_cut (K E M : Int) (n : Bool) (k : Nat) (w : World) (hk : -E = k) (hk0 : 0 < k) (hk1 : (k : Int) ≤ 3000) (m0 : 0 ≤ M) (m1 : M < 9007199254740992) :
    Calls Tryz.prog 100 #[partsV K n E M, .bool false] w fun r w' => r = .returned (.int .u64 (min (M / p2 k) 1099511627776)) ∧ Below w.heap.size w w' := by
  have hs := shr_min M k m0 (by omega)
  have hw : IntKind.i64.wrap (-E) = k := by rw [wrapi _ (by omega) (by omega)]; exact hk
  have hE : ¬ 0 ≤ E := by omega
  have hp := p2_pos k
  have q0 : 0 ≤ M / p2 k := Int.ediv_nonneg m0 (by omega)
  have q1 : M / p2 k ≤ M := Int.ediv_le_self _ m0
  have hkn : (0 : Int) ≤ k := by omega
  have ps1 := ps_fresh w K E M n
  have HB3 := hidden (((Below.refl w.heap.size w).alloc (Nat.le_refl _) (prt K n E M)))
  generalize M / p2 k = Q at *
  go_enter Tryz.func100, Tryz.ntmps100
  go_upto_region 1 with fail
  change Code.wp _ _ _ _ (w.alloc (prt K n E M))
  generalize w.alloc (prt K n E M) = w3 at *
  obtain ⟨f0, f1, f2, f3, v0, v1, v2, v3⟩ := ps1
  go_wp2
  go_ret
  exact ⟨rfl, HB3.out⟩
theorem pwpart_near0 (K E M : Int) (n : Bool) (k : Nat) (w : World) (hk : -E = k) (hk0 : 0 < k) (hk1 : (k : Int) ≤ 3000) (m0 : 0 ≤ M) (m1 : M < 9007199254740992) (hbit : M / p2 (k - 1) % 2 = 0) :
    Calls Tryz.prog 100 #[partsV K n E M, .bool true] w fun r w' => r = .returned (.int .u64 (min (M / p2 k) 1099511627776)) ∧ Below w.heap.size w w' := by
  have hs := shr_min M k m0 (by omega)
  have hw : IntKind.i64.wrap (-E) = k := by rw [wrapi _ (by omega) (by omega)]; exact hk
  have hE : ¬ 0 ≤ E := by omega
  have hp := p2_pos k
  have q0 : 0 ≤ M / p2 k := Int.ediv_nonneg m0 (by omega)
  have q1 : M / p2 k ≤ M := Int.ediv_le_self _ m0
  have hkn : (0 : Int) ≤ k := by omega
  have hs2 := shr_min M (k - 1) m0 (by omega)
  have hp1 := p2_pos (k - 1)
  have t0 : 0 ≤ M / p2 (k - 1) := Int.ediv_nonneg m0 (by omega)
  have t1 : M / p2 (k - 1) ≤ M := Int.ediv_le_self _ m0
  have hw2 : IntKind.i64.wrap ((k : Int) - 1) = ((k - 1 : Nat) : Int) := by rw [wrapi _ (by omega) (by omega)]; omega
  have hkn1 : (0 : Int) ≤ ((k - 1 : Nat) : Int) := by omega
  have hand : bits .and .u64 (M / p2 (k - 1)) 1 = M / p2 (k - 1) % 2 := and_low 1 _ t0 (by omega) (by decide)
  rw [hbit] at hand
  generalize M / p2 (k - 1) = H at *
  generalize k - 1 = k' at *
  have ps1 := ps_fresh w K E M n
  have HB3 := hidden (((Below.refl w.heap.size w).alloc (Nat.le_refl _) (prt K n E M)))
  generalize M / p2 k = Q at *
  go_enter Tryz.func100, Tryz.ntmps100
  go_upto_region 1 with fail
  change Code.wp _ _ _ _ (w.alloc (prt K n E M))
  generalize w.alloc (prt K n E M) = w3 at *
  obtain ⟨f0, f1, f2, f3, v0, v1, v2, v3⟩ := ps1
  go_wp2
  go_ret
  exact ⟨rfl, HB3.out⟩
theorem pwpart_near1 (K E M : Int) (n : Bool) (k : Nat) (w : World) (hk : -E = k) (hk0 : 0 < k) (hk1 : (k : Int) ≤ 3000) (m0 : 0 ≤ M) (m1 : M < 9007199254740992) (hbit : M / p2 (k - 1) % 2 = 1) :
    Calls Tryz.prog 100 #[partsV K n E M, .bool true] w fun r w' => r = .returned (.int .u64 (min (M / p2 k + 1) 1099511627776)) ∧ Below w.heap.size w w' := by
  have hs := shr_min M k m0 (by omega)
  have hw : IntKind.i64.wrap (-E) = k := by rw [wrapi _ (by omega) (by omega)]; exact hk
  have hE : ¬ 0 ≤ E := by omega
  have hp := p2_pos k
  have q0 : 0 ≤ M / p2 k := Int.ediv_nonneg m0 (by omega)
  have q1 : M / p2 k ≤ M := Int.ediv_le_self _ m0
  have hkn : (0 : Int) ≤ k := by omega
  have hs2 := shr_min M (k - 1) m0 (by omega)
  have hp1 := p2_pos (k - 1)
  have t0 : 0 ≤ M / p2 (k - 1) := Int.ediv_nonneg m0 (by omega)
  have t1 : M / p2 (k - 1) ≤ M := Int.ediv_le_self _ m0
  have hw2 : IntKind.i64.wrap ((k : Int) - 1) = ((k - 1 : Nat) : Int) := by rw [wrapi _ (by omega) (by omega)]; omega
  have hkn1 : (0 : Int) ≤ ((k - 1 : Nat) : Int) := by omega
  have hand : bits .and .u64 (M / p2 (k - 1)) 1 = M / p2 (k - 1) % 2 := and_low 1 _ t0 (by omega) (by decide)
  rw [hbit] at hand
  generalize M / p2 (k - 1) = H at *
  generalize k - 1 = k' at *
  have ps1 := ps_fresh w K E M n
  have HB3 := hidden (((Below.refl w.heap.size w).alloc (Nat.le_refl _) (prt K n E M)))
  generalize M / p2 k = Q at *
  go_enter Tryz.func100, Tryz.ntmps100
  go_upto_region 1 with fail
  change Code.wp _ _ _ _ (w.alloc (prt K n E M))
  generalize w.alloc (prt K n E M) = w3 at *
  obtain ⟨f0, f1, f2, f3, v0, v1, v2, v3⟩ := ps1
  go_wp2
  go_ret
  exact ⟨rfl, HB3.out⟩
theorem pwpart_big (K E M : Int) (n near : Bool) (w : World) (hE : 0 ≤ E) (hE1 : E ≤ 3000) (m0 : 0 ≤ M) (m1 : M < 9007199254740992) (hb : 64 < (bl M : Int) + E) :
    Calls Tryz.prog 100 #[partsV K n E M, .bool near] w fun r w' => r = .returned (.int .u64 1099511627776) ∧ Below w.heap.size w w' := by
  have HL := hidden (fun w => plen64 M w m0 (by omega))
  have hbl : (bl M : Int) ≤ 64 := by exact_mod_cast bl_64 M m0 (by omega)
  have ps1 := ps_fresh w K E M n
  have HB3 := hidden (((Below.refl w.heap.size w).alloc (Nat.le_refl _) (prt K n E M)))
  generalize (bl M : Int) = L at *
  go_enter Tryz.func100, Tryz.ntmps100
  go_upto_region 1 with fail
  change Code.wp _ _ _ _ (w.alloc (prt K n E M))
  generalize w.alloc (prt K n E M) = w3 at *
  obtain ⟨f0, f1, f2, f3, v0, v1, v2, v3⟩ := ps1
  go_upto_region 2 with fail
  go_quiet (exact Calls.quiet_of_same (HL.out _))
  go_wp2
  go_ret
  exact ⟨rfl, below_drewN HB3.out _⟩
theorem pwpart_up (K E M : Int) (n near : Bool) (k : Nat) (w : World) (hk : E = k) (hE1 : E ≤ 3000) (m0 : 0 < M) (m1 : M < 9007199254740992) (hb : (bl M : Int) + E ≤ 64) :
    Calls Tryz.prog 100 #[partsV K n E M, .bool near] w fun r w' => r = .returned (.int .u64 (min (M * p2 k) 1099511627776)) ∧ Below w.heap.size w w' := by
  subst hk
  have HL := hidden (fun w => plen64 M w (by omega) (by omega))
  obtain ⟨x, y, z⟩ := bl_bd M m0
  have hX : M * p2 k < 18446744073709551616 := by
    have h1 : M * p2 k < p2 (bl M) * p2 k := Int.mul_lt_mul_of_pos_right z (p2_pos k)
    rw [← p2_add] at h1
    have h2 : p2 (bl M + k) ≤ p2 64 := p2_mono (by omega)
    rw [p2_64] at h2
    omega
  have hX0 : 0 < M * p2 k := Int.mul_pos m0 (p2_pos k)
  have hmin : min k 64 = k := by omega
  have hs : IntKind.u64.wrap (M * 2 ^ k) = M * p2 k := by rw [IntKind.wrap_u64]; show M * p2 k % _ = _; omega
  have hs2 : IntKind.u64.wrap (M * 2 ^ min k 64) = M * p2 k := by rw [hmin]; exact hs
  have hkn : (0 : Int) ≤ k := by omega
  have hL0 : 0 ≤ (bl M : Int) := by omega
  clear x y z hX0 hmin
  have ps1 := ps_fresh w K (k : Int) M n
  have HB3 := hidden (((Below.refl w.heap.size w).alloc (Nat.le_refl _) (prt K n (k : Int) M)))
  generalize (bl M : Int) = L at *
  generalize M * p2 k = X at *
  go_enter Tryz.func100, Tryz.ntmps100
  go_upto_region 1 with fail
  change Code.wp _ _ _ _ (w.alloc (prt K n (k : Int) M))
  generalize w.alloc (prt K n (k : Int) M) = w3 at *
  obtain ⟨f0, f1, f2, f3, v0, v1, v2, v3⟩ := ps1
  go_upto_region 2 with fail
  go_quiet (exact Calls.quiet_of_same (HL.out _))
  go_wp2
  go_ret
  exact ⟨rfl, below_drewN HB3.out _⟩
end Go.Proofs.YtbfbdemknggpkaaGreatDoor
namespace Go.Proofs.YtbfbdemknggpkaaGreatDoor
open Go.RowKit
set_option maxRecDepth 100000
set_option maxHeartbeats 400000
set_option linter.unusedVariables false

theorem pwhole_err (m x a : Int) (near : Bool) (w : World)
    (HO : Hid (∀ w, Calls Tryz.prog 68 #[.agg #[.int .i64 m, .int .i64 x], .int .u64 a] w fun r w' => r = .returned (.tuple #[partsV 0 false 0 0, .int .i64 1]) ∧ Below w.heap.size w w')) :
    Calls Tryz.prog 80 #[.agg #[.int .i64 m, .int .i64 x], .int .u64 a, .bool near] w fun r w' => r = .returned (.tuple #[.int .u64 0, .bool false, .int .i64 1]) ∧ Below w.heap.size w w' := by
  go_enter Tryz.func80, Tryz.ntmps80
  go_wp2_with fail
  refine (HO.out _).mono ?_
  rintro r w1 ⟨rfl, hb1⟩
  have HB1 := hidden (box_below _ hb1)
  clear hb1
  go_wp2
  go_ret3
  exact ⟨rfl, HB1.out.alloc HB1.out.size _⟩
theorem pwhole_zero (m x : Nat) (a K E M : Int) (n near : Bool) (w : World)
    (HO : Hid (∀ w, Calls Tryz.prog 68 #[fmtV m x, .int .u64 a] w fun r w' => r = .returned (.tuple #[partsV K n E M, .int .i64 0]) ∧ Below w.heap.size w w'))
    (k1 : (K == 1) = true)
    : Calls Tryz.prog 80 #[fmtV m x, .int .u64 a, .bool near] w fun r w' => r = .returned (.tuple #[.int .u64 0, .bool n, .int .i64 0]) ∧ Below w.heap.size w w' := by
  go_enter Tryz.func80, Tryz.ntmps80
  go_wp2_with fail
  refine (HO.out _).mono ?_
  rintro r w1 ⟨rfl, hb1⟩
  obtain ⟨w5, hw5, hx, c0, c1, p0, p1, p2', p3⟩ := open_box m x K E M n w w1 hb1
  have HB := hidden hx
  clear hx hb1
  go_upto_region 2 with fail
  change Code.wp _ _ _ _ (w1.alloc (prt K n E M))
  rw [← hw5]
  clear hw5
  go_upto_region 5 with fail
  go_quiet (fail)
  go_wp2
  go_ret3
  exact ⟨rfl, below_drewN HB.out _⟩
theorem pwhole_inf (m x : Nat) (a K E M : Int) (n near : Bool) (w : World)
    (HO : Hid (∀ w, Calls Tryz.prog 68 #[fmtV m x, .int .u64 a] w fun r w' => r = .returned (.tuple #[partsV K n E M, .int .i64 0]) ∧ Below w.heap.size w w'))
    (k1 : (K == 1) = false)
    (k2 : (K != 2) = true)
    : Calls Tryz.prog 80 #[fmtV m x, .int .u64 a, .bool near] w fun r w' => r = .returned (.tuple #[.int .u64 1099511627776, .bool n, .int .i64 0]) ∧ Below w.heap.size w w' := by
  go_enter Tryz.func80, Tryz.ntmps80
  go_wp2_with fail
  refine (HO.out _).mono ?_
  rintro r w1 ⟨rfl, hb1⟩
  obtain ⟨w5, hw5, hx, c0, c1, p0, p1, p2', p3⟩ := open_box m x K E M n w w1 hb1
  have HB := hidden hx
  clear hx hb1
  go_upto_region 2 with fail
  change Code.wp _ _ _ _ (w1.alloc (prt K n E M))
  rw [← hw5]
  clear hw5
  go_upto_region 7 with fail
  go_quiet (fail)
  go_wp2
  go_ret3
  exact ⟨rfl, below_drewN HB.out _⟩
theorem pwhole_fin (m x : Nat) (a K E M R : Int) (n near : Bool) (w : World)
    (HO : Hid (∀ w, Calls Tryz.prog 68 #[fmtV m x, .int .u64 a] w fun r w' => r = .returned (.tuple #[partsV K n E M, .int .i64 0]) ∧ Below w.heap.size w w'))
    (HW : Hid (∀ w, Calls Tryz.prog 100 #[partsV K n E M, .bool near] w fun r w' => r = .returned (.int .u64 R) ∧ Below w.heap.size w w'))
    (k1 : (K == 1) = false)
    (k2 : (K != 2) = false)
    : Calls Tryz.prog 80 #[fmtV m x, .int .u64 a, .bool near] w fun r w' => r = .returned (.tuple #[.int .u64 R, .bool n, .int .i64 0]) ∧ Below w.heap.size w w' := by
  go_enter Tryz.func80, Tryz.ntmps80
  go_wp2_with fail
  refine (HO.out _).mono ?_
  rintro r w1 ⟨rfl, hb1⟩
  obtain ⟨w5, hw5, hx, c0, c1, p0, p1, p2', p3⟩ := open_box m x K E M n w w1 hb1
  have HB := hidden hx
  clear hx hb1
  go_upto_region 2 with fail
  change Code.wp _ _ _ _ (w1.alloc (prt K n E M))
  rw [← hw5]
  clear hw5
  go_upto_region 8 with fail
  go_region_held3 (fun w' => w'.cell? ⟨w1.heap.size, 0, none⟩ = some (.int .i64 K) ∧ w'.cell? ⟨w1.heap.size, 1, none⟩ = some (.bool n) ∧ w'.cell? ⟨w1.heap.size, 2, none⟩ = some (.int .i64 E) ∧ w'.cell? ⟨w1.heap.size, 3, none⟩ = some (.int .u64 M)) (go_keep) (first | (go_at_call 100; refine (HW.out _).mono ?_; rintro r w9 ⟨rfl, hb⟩; have p0 : w9.cell? ⟨w1.heap.size, 0, none⟩ = some (.int .i64 K) := cellLater hb (by go_keep); have p1 : w9.cell? ⟨w1.heap.size, 1, none⟩ = some (.bool n) := cellLater hb (by go_keep); have p2' : w9.cell? ⟨w1.heap.size, 2, none⟩ = some (.int .i64 E) := cellLater hb (by go_keep); have p3 : w9.cell? ⟨w1.heap.size, 3, none⟩ = some (.int .u64 M) := cellLater hb (by go_keep); have HB : Hid (Below w.heap.size w w9) := hidden (by first | exact HB.out.trans (hb.mono HB.out.size) | exact HB.out.drew.trans (hb.mono HB.out.drew.size)); clear hb))
  all_goals
    go_wp2
    go_ret3
    exact ⟨rfl, by first | exact HB.out | exact HB.out.drew⟩
end Go.Proofs.YtbfbdemknggpkaaGreatDoor
namespace Go.Proofs.YtbfbdemknggpkaaGreatDoor
open Go.RowKit
set_option maxRecDepth 100000
set_option maxHeartbeats 1000000
set_option linter.unusedVariables false

theorem num4_any (n : Int) (w : World) (n0 : 0 ≤ n) (n1 : n ≤ 1) : Calls Tryz.prog 7 #[.int .i64 n] w fun r w' => r = .returned (.int .i64 n) ∧ w' = w := by
  go_enter Tryz.func7, Tryz.ntmps7
  go_wp2
  go_ret
  exact ⟨ret_int (by (try unfold wrap64); omega), rfl⟩
theorem ok23 : okF ((23 : Nat) : Int) ((8 : Nat) : Int) := by unfold okF; omega
theorem ok52 : okF ((52 : Nat) : Int) ((11 : Nat) : Int) := by unfold okF; omega
theorem fin23 (a : Int) (h : kindI 23 8 a = 2) : FinP 23 8 (expI 23 8 a) (manI 23 8 a) := fin_of 23 8 a (by decide) h
theorem fin52 (a : Int) (h : kindI 52 11 a = 2) : FinP 52 11 (expI 52 11 a) (manI 52 11 a) := fin_of 52 11 a (by decide) h
theorem lv1 (w : World) (hl : Laid w) : Calls Tryz.prog 5 #[.int .i64 1, .int .u32 1065353216, .int .u32 1065353216] w fun r w' => r = .returned (.tuple #[.int .u32 1073741824, .int .i64 0]) ∧ Below w.heap.size w w' :=
  pSingle 1 1065353216 1065353216 1073741824 0 w hl (hidden fun w => reck32_1 23 8 1065353216 1065353216 1073741824 0 0 w (by decide) (by decide) (by decide) (by decide) (by decide) (by decide) (hidden fun w => by
    have h := padd_k 23 8 1065353216 1065353216 _ _ _ _ _ _ _ _ w ok23 (kind_all 23 8 1065353216) (kind_all 23 8 1065353216) (fin23 _) (fin23 _) (popen2 23 8 _ _ ok23 (by decide) (by decide) (by decide +kernel) (by decide) (by decide) (by decide +kernel))
    rw [show addK 23 8 1065353216 1065353216 (kindI 23 8 1065353216) (negI 23 8 1065353216) (expI 23 8 1065353216) (manI 23 8 1065353216) (kindI 23 8 1065353216) (negI 23 8 1065353216) (expI 23 8 1065353216) (manI 23 8 1065353216) = 1073741824 by decide +kernel] at h
    exact h))
theorem lv2 (w : World) (hl : Laid w) : Calls Tryz.prog 9 #[.int .i64 3, .int .u64 4613937818241073152, .int .u64 13835058055282163712] w fun r w' => r = .returned (.tuple #[.int .u64 13841813454723219456, .int .i64 0]) ∧ Below w.heap.size w w' :=
  pDouble 3 4613937818241073152 13835058055282163712 13841813454723219456 0 w hl (hidden fun w => reck64_3 52 11 4613937818241073152 13835058055282163712 13841813454723219456 0 0 w (by decide) (by decide) (by decide) (by decide) (by decide) (by decide) (hidden fun w => by
    have h := pmul_k 52 11 4613937818241073152 13835058055282163712 _ _ _ _ _ _ _ _ w ok52 (kind_all 52 11 4613937818241073152) (kind_all 52 11 13835058055282163712) (fin52 _) (fin52 _) (popen2 52 11 _ _ ok52 (by decide) (by decide) (by decide +kernel) (by decide) (by decide) (by decide +kernel))
    rw [show mulK 52 11 (kindI 52 11 4613937818241073152) (negI 52 11 4613937818241073152) (expI 52 11 4613937818241073152) (manI 52 11 4613937818241073152) (kindI 52 11 13835058055282163712) (negI 52 11 13835058055282163712) (expI 52 11 13835058055282163712) (manI 52 11 13835058055282163712) = 13841813454723219456 by decide +kernel] at h
    exact h))
theorem lv3 (w : World) (hl : Laid w) : Calls Tryz.prog 20 #[.int .u32 4294967295] w fun r w' => r = .returned (.int .u32 3212836864) ∧ Below w.heap.size w w' := by
  have h := singleOf_c 4294967295 w hl (by decide) (by decide)
  rw [show ofI 23 8 4294967295 = 3212836864 by decide +kernel] at h
  exact h
theorem lv4 (w : World) (hl : Laid w) : Calls Tryz.prog 21 #[.int .u32 3223322624, .bool true] w fun r w' => r = .returned (.int .u32 4294967293) ∧ Below w.heap.size w w' := by
  have HO := popen1 23 8 3223322624 ok23 (by decide) (by decide) (by decide +kernel)
  rw [show kindI 23 8 3223322624 = 2 by decide +kernel, show negI 23 8 3223322624 = true by decide +kernel, show expI 23 8 3223322624 = -22 by decide +kernel, show manI 23 8 3223322624 = 10485760 by decide +kernel] at HO
  have HP : Hid (∀ w, Calls Tryz.prog 100 #[partsV 2 true (-22) 10485760, .bool true] w fun r w' => r = .returned (.int .u64 3) ∧ Below w.heap.size w w') := hidden fun w => by
    have h := pwpart_near1 2 (-22) 10485760 true 22 w (by decide) (by decide) (by decide) (by decide) (by decide) (by decide +kernel)
    rw [show min (10485760 / p2 22 + 1) 1099511627776 = (3 : Int) by decide +kernel] at h
    exact h
  exact singleInt_c 3223322624 4294967293 true w hl (hidden fun w => toint32 23 8 3223322624 3 0 true true w (by decide) (by decide) (by decide) (by decide) (hidden fun w => pwhole_fin 23 8 3223322624 2 (-22) 10485760 3 true true w HO HP rfl rfl))
theorem lv5 (w : World) (hl : Laid w) : Calls Tryz.prog 21 #[.int .u32 4286578688, .bool false] w fun r w' => r = .returned (.int .u32 2147483648) ∧ Below w.heap.size w w' := by
  have HO := popen1 23 8 4286578688 ok23 (by decide) (by decide) (by decide +kernel)
  rw [show kindI 23 8 4286578688 = 3 by decide +kernel, show negI 23 8 4286578688 = true by decide +kernel] at HO
  exact singleInt_c 4286578688 2147483648 false w hl (hidden fun w => toint32 23 8 4286578688 1099511627776 0 false true w (by decide) (by decide) (by decide) (by decide) (hidden fun w => pwhole_inf 23 8 4286578688 3 _ _ true false w HO rfl rfl))
theorem lv6 (w : World) (hl : Laid w) : Calls Tryz.prog 22 #[.int .u32 1065353216] w fun r w' => r = .returned (.int .u64 4607182418800017408) ∧ Below w.heap.size w w' := by
  refine widen_c 1065353216 4607182418800017408 w hl (hidden fun w => conv_u64 23 8 52 11 1065353216 4607182418800017408 0 w (by decide) (by decide) (by decide) (by decide) (hidden fun w => ?_))
  have h := pconv_k 23 8 52 11 1065353216 _ _ _ _ w ok23 ok52 (patK 23 8 1065353216 ok23 (by decide) (by decide +kernel)) (popen1 23 8 1065353216 ok23 (by decide) (by decide) (by decide +kernel))
  rw [show convK 52 11 (kindI 23 8 1065353216) (negI 23 8 1065353216) (expI 23 8 1065353216) (manI 23 8 1065353216) = 4607182418800017408 by decide +kernel] at h
  exact h
theorem lv7 (w : World) (hl : Laid w) : Calls Tryz.prog 23 #[.int .i64 1, .int .u32 1065353216, .int .u32 1069547520, .int .u32 3204448256] w fun r w' => r = .returned (.bool true) ∧ Below w.heap.size w w' := by
  have HA := popen1 23 8 1065353216 ok23 (by decide) (by decide) (by decide +kernel)
  have HB := popen1 23 8 1069547520 ok23 (by decide) (by decide) (by decide +kernel)
  have k3 : ∀ (a : Int) (k : Int) (w : World) (v : Bool), 0 ≤ a → a ≤ 18446744073709551615 → bl a ≤ 1 + 8 + 23 → (kindI 23 8 a == k) = v → Calls Tryz.prog 83 #[.agg #[.int .i64 23, .int .i64 8], .int .u64 a, .int .i64 k] w fun r w' => r = .returned (.bool v) ∧ Below w.heap.size w w' := fun a k w v h0 h1 h2 hv => by
    have h := pkind 23 8 a _ _ _ k 0 _ w (popen1 23 8 a ok23 h0 h1 h2)
    rw [hv] at h
    exact h
  have HS : Hid (∀ w, Calls Tryz.prog 26 #[.agg #[.int .i64 23, .int .i64 8], .int .u64 1065353216, .int .u64 1069547520] w fun r w' => r = .returned (.tuple #[.int .u64 3204448256, .int .i64 0]) ∧ Below w.heap.size w w') := hidden fun w => by
    have h := psub_k 23 8 1065353216 1069547520 _ _ _ _ _ _ _ _ w ok23 (by decide) (by decide +kernel) (kind_all 23 8 1065353216) (kind_all 23 8 (turnI (23 + 8) 1069547520)) (fin23 _) (fin23 _) (popen2 23 8 _ _ ok23 (by decide) (by decide) (by decide +kernel) (by decide +kernel) (by decide +kernel) (by decide +kernel))
    rw [show addK 23 8 1065353216 (turnI (23 + 8) 1069547520) (kindI 23 8 1065353216) (negI 23 8 1065353216) (expI 23 8 1065353216) (manI 23 8 1065353216) (kindI 23 8 (turnI (23 + 8) 1069547520)) (negI 23 8 (turnI (23 + 8) 1069547520)) (expI 23 8 (turnI (23 + 8) 1069547520)) (manI 23 8 (turnI (23 + 8) 1069547520)) = 3204448256 by decide +kernel] at h
    exact h
  have HW : Hid (∀ w, Calls Tryz.prog 102 #[.agg #[.int .i64 23, .int .i64 8], .int .u64 3204448256] w fun r w' => r = .returned (.int .u64 1056964608) ∧ Below w.heap.size w w') := hidden fun w => by
    have h := pbare 23 8 3204448256 w ok23 (by decide) (by decide +kernel)
    rw [show (3204448256 : Int) % p2 (23 + 8) = 1056964608 by decide +kernel] at h
    exact h
  have HC : Hid (∀ w, Calls Tryz.prog 101 #[.agg #[.int .i64 23, .int .i64 8], .int .u64 1056964608, .int .u64 1056964608] w fun r w' => r = .returned (.tuple #[.int .i64 0, .bool true, .int .i64 0]) ∧ Below w.heap.size w w') := hidden fun w => by
    have h := pcmp_k 23 8 1056964608 1056964608 _ _ _ _ _ _ _ _ w ok23 (by decide) (by decide +kernel) (by decide) (by decide +kernel) (popen2 23 8 1056964608 1056964608 ok23 (by decide) (by decide) (by decide +kernel) (by decide) (by decide) (by decide +kernel))
    rw [show cmpR 23 8 1056964608 1056964608 (kindI 23 8 1056964608) (kindI 23 8 1056964608) = 0 by decide +kernel, show cmpOk (kindI 23 8 1056964608) (kindI 23 8 1056964608) = true by decide +kernel] at h
    exact h
  have HC2 := hidden fun w => pcmp_k 23 8 1065353216 1069547520 _ _ _ _ _ _ _ _ w ok23 (by decide) (by decide +kernel) (by decide) (by decide +kernel) (popen2 23 8 1065353216 1069547520 ok23 (by decide) (by decide) (by decide +kernel) (by decide) (by decide) (by decide +kernel))
  have HN : Hid (∀ w, Calls Tryz.prog 82 #[.agg #[.int .i64 23, .int .i64 8], .int .u64 1065353216, .int .u64 1069547520, .int .u64 3204448256] w fun r w' => r = .returned (.bool true) ∧ Below w.heap.size w w') := hidden fun w => pnear_num 23 8 1065353216 1069547520 3204448256 3204448256 1056964608 1056964608 0 0 0 false false true w rfl (hidden fun w => k3 _ _ _ _ (by decide) (by decide) (by decide +kernel) (by decide +kernel)) (hidden fun w => k3 _ _ _ _ (by decide) (by decide) (by decide +kernel) (by decide +kernel)) HS HW HW HC
  exact pSingleHolds 1 1065353216 1069547520 3204448256 true w hl (hidden fun w => pholds32 23 8 1 1065353216 1069547520 3204448256 true false false _ w (by decide) (by decide) (by decide) (by decide) (by decide) (by decide) HN (hidden fun w => k3 _ _ _ _ (by decide) (by decide) (by decide +kernel) (by decide +kernel)) (hidden fun w => k3 _ _ _ _ (by decide) (by decide) (by decide +kernel) (by decide +kernel)) (hidden fun w => pinorder 23 8 1 1065353216 1069547520 _ 0 _ w HC2))
theorem live4_any (w : World) (hl : Laid w) : Calls Tryz.prog 8 #[] w fun r w' => r = .returned (.bool true) ∧ Below w.heap.size w w' := by
  have H1 := hidden lv1
  have H2 := hidden lv2
  have H3 := hidden lv3
  have H4 := hidden lv4
  have H5 := hidden lv5
  have H6 := hidden lv6
  have H7 := hidden lv7
  have HM := hidden (fun w => num4_any 0 w (by decide) (by decide))
  have HL := hidden hl
  have HB := hidden (Below.refl w.heap.size w)
  clear hl
  go_enter Tryz.func8, Tryz.ntmps8
  go_wp2_with (first | (go_at_call 5; refine (H1.out _ HL.out).mono ?_; rintro r w9 ⟨rfl, hb⟩; have HL := hidden (HL.out.later hb); have HB := hidden (HB.out.trans (hb.mono HB.out.size)); clear hb) | (go_at_call 9; refine (H2.out _ HL.out).mono ?_; rintro r w9 ⟨rfl, hb⟩; have HL := hidden (HL.out.later hb); have HB := hidden (HB.out.trans (hb.mono HB.out.size)); clear hb) | (go_at_call 20; refine (H3.out _ HL.out).mono ?_; rintro r w9 ⟨rfl, hb⟩; have HL := hidden (HL.out.later hb); have HB := hidden (HB.out.trans (hb.mono HB.out.size)); clear hb) | (go_at_call_of 21 (Value.bool true); refine (H4.out _ HL.out).mono ?_; rintro r w9 ⟨rfl, hb⟩; have HL := hidden (HL.out.later hb); have HB := hidden (HB.out.trans (hb.mono HB.out.size)); clear hb) | (go_at_call_of 21 (Value.bool false); refine (H5.out _ HL.out).mono ?_; rintro r w9 ⟨rfl, hb⟩; have HL := hidden (HL.out.later hb); have HB := hidden (HB.out.trans (hb.mono HB.out.size)); clear hb) | (go_at_call 22; refine (H6.out _ HL.out).mono ?_; rintro r w9 ⟨rfl, hb⟩; have HL := hidden (HL.out.later hb); have HB := hidden (HB.out.trans (hb.mono HB.out.size)); clear hb) | (go_at_call 23; refine (H7.out _ HL.out).mono ?_; rintro r w9 ⟨rfl, hb⟩; have HL := hidden (HL.out.later hb); have HB := hidden (HB.out.trans (hb.mono HB.out.size)); clear hb) | (go_at_call 7; refine (HM.out _).mono ?_; rintro r w9 ⟨rfl, hw⟩; obtain rfl := hw.symm))
  go_ret
  exact ⟨rfl, HB.out⟩
end Go.Proofs.YtbfbdemknggpkaaGreatDoor
