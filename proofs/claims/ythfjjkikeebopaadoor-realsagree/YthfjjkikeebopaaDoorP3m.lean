/- Package soft's functions of one pattern, leaf by leaf: Sqrt, wholeBeside. -/
import Derived.Test.YthfjjkikeebopaaDoorP3l
namespace Go.Proofs.YthfjjkikeebopaaDoor
open Go.RowKit
set_option maxRecDepth 100000
set_option maxHeartbeats 400000
set_option linter.unusedVariables false

theorem six_on {w6 w7 : World} {A0 A1 A2 A3 A4 A5 : Addr} {a0 a1 a2 a3 a4 a5 : Value} (hb : Below w6.heap.size w6 w7) (h : w6.cell? A0 = some a0 ∧ w6.cell? A1 = some a1 ∧ w6.cell? A2 = some a2 ∧ w6.cell? A3 = some a3 ∧ w6.cell? A4 = some a4 ∧ w6.cell? A5 = some a5) :
    w7.cell? A0 = some a0 ∧ w7.cell? A1 = some a1 ∧ w7.cell? A2 = some a2 ∧ w7.cell? A3 = some a3 ∧ w7.cell? A4 = some a4 ∧ w7.cell? A5 = some a5 := by
  obtain ⟨h0, h1, h2, h3, h4, h5⟩ := h
  exact ⟨cellLater hb h0, cellLater hb h1, cellLater hb h2, cellLater hb h3, cellLater hb h4, cellLater hb h5⟩
theorem open_box (m x : Nat) (K E M : Int) (n : Bool) (w w1 : World) (hb : Below (w.alloc (fmt m x)).heap.size (w.alloc (fmt m x)) w1) :
    ∃ w5, w5 = w1.alloc (prt K n E M) ∧ Below w.heap.size w w5 ∧ w5.cell? ⟨w.heap.size, 0, none⟩ = some (.int .i64 m) ∧ w5.cell? ⟨w.heap.size, 1, none⟩ = some (.int .i64 x) ∧
      w5.cell? ⟨w1.heap.size, 0, none⟩ = some (.int .i64 K) ∧ w5.cell? ⟨w1.heap.size, 1, none⟩ = some (.bool n) ∧ w5.cell? ⟨w1.heap.size, 2, none⟩ = some (.int .i64 E) ∧ w5.cell? ⟨w1.heap.size, 3, none⟩ = some (.int .u64 M) := by
  have hB := box_below _ hb
  have d0 : w1.cell? ⟨w.heap.size, 0, none⟩ = some (.int .i64 m) := cellLater hb (by simp)
  have d1 : w1.cell? ⟨w.heap.size, 1, none⟩ = some (.int .i64 x) := cellLater hb (by simp)
  have hZ : Below w1.heap.size w1 (w1.alloc (prt K n E M)) := (Below.refl _ _).alloc (Nat.le_refl _) _
  obtain ⟨p0, p1, p2, p3, -⟩ := ps_fresh w1 K E M n
  exact ⟨_, rfl, hB.trans (hZ.mono hB.size), cellLater hZ d0, cellLater hZ d1, p0, p1, p2, p3⟩
theorem psqrt_err (m x a : Int) (w : World)
    (HO : Hid (∀ w, Calls Tryd.prog 41 #[.agg #[.int .i64 m, .int .i64 x], .int .u64 a] w fun r w' => r = .returned (.tuple #[partsV 0 false 0 0, .int .i64 1]) ∧ Below w.heap.size w w')) :
    Calls Tryd.prog 22 #[.agg #[.int .i64 m, .int .i64 x], .int .u64 a] w fun r w' => r = .returned (.tuple #[.int .u64 0, .int .i64 1]) ∧ Below w.heap.size w w' := by
  go_enter Tryd.func22, Tryd.ntmps22
  go_wp2_with fail
  refine (HO.out _).mono ?_
  rintro r w1 ⟨rfl, hb1⟩
  have HB1 := hidden (box_below _ hb1)
  clear hb1
  go_wp2
  go_ret2
  exact ⟨rfl, HB1.out.alloc HB1.out.size _⟩
theorem psqrt_zero (m x : Nat) (a K E M : Int) (n : Bool) (w : World)
    (HO : Hid (∀ w, Calls Tryd.prog 41 #[fmtV m x, .int .u64 a] w fun r w' => r = .returned (.tuple #[partsV K n E M, .int .i64 0]) ∧ Below w.heap.size w w'))
    (k1 : (K == 1) = true)
    : Calls Tryd.prog 22 #[fmtV m x, .int .u64 a] w fun r w' => r = .returned (.tuple #[.int .u64 a, .int .i64 0]) ∧ Below w.heap.size w w' := by
  go_enter Tryd.func22, Tryd.ntmps22
  go_wp2_with fail
  refine (HO.out _).mono ?_
  rintro r w1 ⟨rfl, hb1⟩
  obtain ⟨w5, hw5, hx, c0, c1, p0, p1, p2', p3⟩ := open_box m x K E M n w w1 hb1
  have HB := hidden hx
  clear hx hb1
  go_upto_region 2 with fail
  change Code.wp _ _ _ _ (w1.alloc (prt K n E M))
  rw [← hw5]
  clear hw5
  go_wp2
  go_ret2
  exact ⟨rfl, HB.out⟩
theorem psqrt_nan (m x : Nat) (a K E M R : Int) (n : Bool) (w : World)
    (HO : Hid (∀ w, Calls Tryd.prog 41 #[fmtV m x, .int .u64 a] w fun r w' => r = .returned (.tuple #[partsV K n E M, .int .i64 0]) ∧ Below w.heap.size w w'))
    (HN : Hid (∀ w, Calls Tryd.prog 31 #[fmtV m x] w fun r w' => r = .returned (.int .u64 R) ∧ Below w.heap.size w w'))
    (k1 : (K == 1) = false)
    (k4 : (K == 4) = true)
    : Calls Tryd.prog 22 #[fmtV m x, .int .u64 a] w fun r w' => r = .returned (.tuple #[.int .u64 R, .int .i64 0]) ∧ Below w.heap.size w w' := by
  go_enter Tryd.func22, Tryd.ntmps22
  go_wp2_with fail
  refine (HO.out _).mono ?_
  rintro r w1 ⟨rfl, hb1⟩
  obtain ⟨w5, hw5, hx, c0, c1, p0, p1, p2', p3⟩ := open_box m x K E M n w w1 hb1
  have HB := hidden hx
  clear hx hb1
  go_upto_region 2 with fail
  change Code.wp _ _ _ _ (w1.alloc (prt K n E M))
  rw [← hw5]
  clear hw5
  go_wp2_with (first | (go_at_call 31; refine (HN.out _).mono ?_; rintro r w9 ⟨rfl, hb⟩; have zz := six_on hb ⟨c0, c1, p0, p1, p2', p3⟩; clear c0 c1 p0 p1 p2' p3; obtain ⟨c0, c1, p0, p1, p2', p3⟩ := zz; have HB := hidden (HB.out.trans (hb.mono HB.out.size)); clear hb))
  go_ret2
  exact ⟨rfl, HB.out⟩
theorem psqrt_neg (m x : Nat) (a K E M R : Int) (w : World)
    (HO : Hid (∀ w, Calls Tryd.prog 41 #[fmtV m x, .int .u64 a] w fun r w' => r = .returned (.tuple #[partsV K true E M, .int .i64 0]) ∧ Below w.heap.size w w'))
    (HN : Hid (∀ w, Calls Tryd.prog 31 #[fmtV m x] w fun r w' => r = .returned (.int .u64 R) ∧ Below w.heap.size w w'))
    (k1 : (K == 1) = false)
    (k4 : (K == 4) = false)
    : Calls Tryd.prog 22 #[fmtV m x, .int .u64 a] w fun r w' => r = .returned (.tuple #[.int .u64 R, .int .i64 0]) ∧ Below w.heap.size w w' := by
  go_enter Tryd.func22, Tryd.ntmps22
  go_wp2_with fail
  refine (HO.out _).mono ?_
  rintro r w1 ⟨rfl, hb1⟩
  obtain ⟨w5, hw5, hx, c0, c1, p0, p1, p2', p3⟩ := open_box m x K E M true w w1 hb1
  have HB := hidden hx
  clear hx hb1
  go_upto_region 2 with fail
  change Code.wp _ _ _ _ (w1.alloc (prt K true E M))
  rw [← hw5]
  clear hw5
  go_wp2_with (first | (go_at_call 31; refine (HN.out _).mono ?_; rintro r w9 ⟨rfl, hb⟩; have zz := six_on hb ⟨c0, c1, p0, p1, p2', p3⟩; clear c0 c1 p0 p1 p2' p3; obtain ⟨c0, c1, p0, p1, p2', p3⟩ := zz; have HB := hidden (HB.out.trans (hb.mono HB.out.size)); clear hb))
  go_ret2
  exact ⟨rfl, HB.out⟩
theorem psqrt_inf (m x : Nat) (a K E M : Int) (w : World)
    (HO : Hid (∀ w, Calls Tryd.prog 41 #[fmtV m x, .int .u64 a] w fun r w' => r = .returned (.tuple #[partsV K false E M, .int .i64 0]) ∧ Below w.heap.size w w'))
    (k1 : (K == 1) = false)
    (k4 : (K == 4) = false)
    (k3 : (K == 3) = true)
    : Calls Tryd.prog 22 #[fmtV m x, .int .u64 a] w fun r w' => r = .returned (.tuple #[.int .u64 a, .int .i64 0]) ∧ Below w.heap.size w w' := by
  go_enter Tryd.func22, Tryd.ntmps22
  go_wp2_with fail
  refine (HO.out _).mono ?_
  rintro r w1 ⟨rfl, hb1⟩
  obtain ⟨w5, hw5, hx, c0, c1, p0, p1, p2', p3⟩ := open_box m x K E M false w w1 hb1
  have HB := hidden hx
  clear hx hb1
  go_upto_region 2 with fail
  change Code.wp _ _ _ _ (w1.alloc (prt K false E M))
  rw [← hw5]
  clear hw5
  go_wp2
  go_ret2
  exact ⟨rfl, HB.out⟩
theorem psqrt_fin (m x : Nat) (a K E M R NN SC : Int) (w : World)
    (HO : Hid (∀ w, Calls Tryd.prog 41 #[fmtV m x, .int .u64 a] w fun r w' => r = .returned (.tuple #[partsV K false E M, .int .i64 0]) ∧ Below w.heap.size w w'))
    (HQ : Hid (∀ w, Calls Tryd.prog 42 #[partsV K false E M] w fun r w' => ∃ Q : Int, IsRoot NN Q ∧ r = .returned (.tuple #[.int .u64 Q, .int .i64 SC, .bool (decide (Q * Q ≠ NN))]) ∧ Below w.heap.size w w'))
    (HP : ∀ Q, IsRoot NN Q → Hid (∀ w, Calls Tryd.prog 38 #[fmtV m x, .bool false, .int .u64 0, .int .u64 Q, .int .i64 SC, .bool (decide (Q * Q ≠ NN))] w fun r w' => r = .returned (.tuple #[.int .u64 R, .int .i64 0]) ∧ Below w.heap.size w w'))
    (k1 : (K == 1) = false)
    (k4 : (K == 4) = false)
    (k3 : (K == 3) = false)
    : Calls Tryd.prog 22 #[fmtV m x, .int .u64 a] w fun r w' => r = .returned (.tuple #[.int .u64 R, .int .i64 0]) ∧ Below w.heap.size w w' := by
  go_enter Tryd.func22, Tryd.ntmps22
  go_wp2_with fail
  refine (HO.out _).mono ?_
  rintro r w1 ⟨rfl, hb1⟩
  obtain ⟨w5, hw5, hx, c0, c1, p0, p1, p2', p3⟩ := open_box m x K E M false w w1 hb1
  have HB := hidden hx
  clear hx hb1
  go_upto_region 2 with fail
  change Code.wp _ _ _ _ (w1.alloc (prt K false E M))
  rw [← hw5]
  clear hw5
  have HPP := hidden HP
  clear HP
  go_wp2_with fail
  refine (HQ.out _).mono ?_
  rintro r w9 ⟨Q, hrt, rfl, hb⟩
  have zz := six_on hb ⟨c0, c1, p0, p1, p2', p3⟩; clear c0 c1 p0 p1 p2' p3; obtain ⟨c0, c1, p0, p1, p2', p3⟩ := zz; have HB := hidden (HB.out.trans (hb.mono HB.out.size)); clear hb
  have HP := HPP.out Q hrt
  clear hrt
  generalize decide (Q * Q ≠ NN) = mo at *
  go_wp2_with (go_at_call 38; refine (HP.out _).mono ?_; rintro r w9 ⟨rfl, hb⟩; have zz := six_on hb ⟨c0, c1, p0, p1, p2', p3⟩; clear c0 c1 p0 p1 p2' p3; obtain ⟨c0, c1, p0, p1, p2', p3⟩ := zz; have HB := hidden (HB.out.trans (hb.mono HB.out.size)); clear hb)
  go_ret2
  exact ⟨rfl, HB.out⟩
theorem pshift (x : Int) (k : Nat) (w : World) (x0 : 0 ≤ x) (x1 : x < 18446744073709551616) (hk : (k : Int) ≤ 100000) :
    Calls Tryd.prog 62 #[.int .u64 x, .int .i64 k] w fun r w' => r = .returned (.tuple #[.int .u64 (x / p2 k), .bool (decide (x % p2 k ≠ 0))]) ∧ Below w.heap.size w w' := by
  have hp := p2_pos k
  have h0 : 0 ≤ x / p2 k := Int.ediv_nonneg x0 (by omega)
  have h1 : x / p2 k ≤ x := Int.ediv_le_self _ x0
  have e := Int.mul_ediv_add_emod x (p2 k)
  have r0 := Int.emod_nonneg x (show p2 k ≠ 0 by omega)
  rw [Int.mul_comm] at e
  have hs1 : x / 2 ^ min k 64 = x / p2 k := by
    rcases Nat.lt_or_ge k 64 with h | h
    · rw [Nat.min_eq_left (by omega)]; rfl
    · rw [Nat.min_eq_right h]
      have h5 := p2_mono h
      rw [p2_64] at h5
      rw [Int.ediv_eq_zero_of_lt x0 (show x < p2 k by omega), show (2 : Int) ^ 64 = 18446744073709551616 by decide]
      omega
  have hs2 : IntKind.u64.wrap (x / p2 k * 2 ^ min k 64) = x / p2 k * p2 k := by
    rw [IntKind.wrap_u64]
    rcases Nat.lt_or_ge k 64 with h | h
    · rw [Nat.min_eq_left (by omega)]
      show x / p2 k * p2 k % _ = _
      have : 0 ≤ x / p2 k * p2 k := Int.mul_nonneg h0 (by omega)
      omega
    · have h5 := p2_mono h
      rw [p2_64] at h5
      rw [Int.ediv_eq_zero_of_lt x0 (show x < p2 k by omega)]
      omega
  have hne : Hid ((x / p2 k * p2 k != x) = decide (x % p2 k ≠ 0)) := hidden (by
    by_cases h : x % p2 k = 0
    · rw [decide_eq_false (by simpa using h)]; simp; omega
    · rw [decide_eq_true h]; simp; omega)
  have hkn : (0 : Int) ≤ k := by omega
  clear e r0
  generalize x % p2 k = RM at *
  generalize hQ : x / p2 k = Q at *
  generalize Q * p2 k = X at *
  clear hQ
  go_enter Tryd.func62, Tryd.ntmps62
  go_upto_region 2 with fail
  go_quiet (fail)
  go_wp2
  go_ret2
  exact ⟨by rw [hne.out]; rfl, below_drewN (Below.refl _ _) _⟩
theorem pwb_err (m x a : Int) (dn : Bool) (w : World)
    (HO : Hid (∀ w, Calls Tryd.prog 41 #[.agg #[.int .i64 m, .int .i64 x], .int .u64 a] w fun r w' => r = .returned (.tuple #[partsV 0 false 0 0, .int .i64 1]) ∧ Below w.heap.size w w')) :
    Calls Tryd.prog 43 #[.agg #[.int .i64 m, .int .i64 x], .int .u64 a, .bool dn] w fun r w' => r = .returned (.tuple #[.int .u64 0, .int .i64 1]) ∧ Below w.heap.size w w' := by
  go_enter Tryd.func43, Tryd.ntmps43
  go_wp2_with fail
  refine (HO.out _).mono ?_
  rintro r w1 ⟨rfl, hb1⟩
  have HB1 := hidden (box_below _ hb1)
  clear hb1
  go_wp2
  go_ret2
  exact ⟨rfl, HB1.out.alloc HB1.out.size _⟩
theorem pwb_nan (m x : Nat) (a K E M R : Int) (n dn : Bool) (w : World)
    (HO : Hid (∀ w, Calls Tryd.prog 41 #[fmtV m x, .int .u64 a] w fun r w' => r = .returned (.tuple #[partsV K n E M, .int .i64 0]) ∧ Below w.heap.size w w'))
    (HN : Hid (∀ w, Calls Tryd.prog 31 #[fmtV m x] w fun r w' => r = .returned (.int .u64 R) ∧ Below w.heap.size w w'))
    (k4 : (K == 4) = true)
    : Calls Tryd.prog 43 #[fmtV m x, .int .u64 a, .bool dn] w fun r w' => r = .returned (.tuple #[.int .u64 R, .int .i64 0]) ∧ Below w.heap.size w w' := by
  go_enter Tryd.func43, Tryd.ntmps43
  go_wp2_with fail
  refine (HO.out _).mono ?_
  rintro r w1 ⟨rfl, hb1⟩
  obtain ⟨w5, hw5, hx, c0, c1, p0, p1, p2', p3⟩ := open_box m x K E M n w w1 hb1
  have HB := hidden hx
  clear hx hb1
  go_upto_region 2 with fail
  change Code.wp _ _ _ _ (w1.alloc (prt K n E M))
  rw [← hw5]
  clear hw5
  go_wp2_with (first | (go_at_call 31; refine (HN.out _).mono ?_; rintro r w9 ⟨rfl, hb⟩; have zz := six_on hb ⟨c0, c1, p0, p1, p2', p3⟩; clear c0 c1 p0 p1 p2' p3; obtain ⟨c0, c1, p0, p1, p2', p3⟩ := zz; have HB := hidden (HB.out.trans (hb.mono HB.out.size)); clear hb))
  go_ret2
  exact ⟨rfl, HB.out⟩
theorem pwb_inf (m x : Nat) (a K E M : Int) (n dn : Bool) (w : World)
    (HO : Hid (∀ w, Calls Tryd.prog 41 #[fmtV m x, .int .u64 a] w fun r w' => r = .returned (.tuple #[partsV K n E M, .int .i64 0]) ∧ Below w.heap.size w w'))
    (k4 : (K == 4) = false)
    (k2 : (K != 2) = true)
    : Calls Tryd.prog 43 #[fmtV m x, .int .u64 a, .bool dn] w fun r w' => r = .returned (.tuple #[.int .u64 a, .int .i64 0]) ∧ Below w.heap.size w w' := by
  go_enter Tryd.func43, Tryd.ntmps43
  go_wp2_with fail
  refine (HO.out _).mono ?_
  rintro r w1 ⟨rfl, hb1⟩
  obtain ⟨w5, hw5, hx, c0, c1, p0, p1, p2', p3⟩ := open_box m x K E M n w w1 hb1
  have HB := hidden hx
  clear hx hb1
  go_upto_region 2 with fail
  change Code.wp _ _ _ _ (w1.alloc (prt K n E M))
  rw [← hw5]
  clear hw5
  go_wp2
  go_ret2
  exact ⟨rfl, HB.out⟩
theorem pwb_big (m x : Nat) (a K E M : Int) (n dn : Bool) (w : World)
    (HO : Hid (∀ w, Calls Tryd.prog 41 #[fmtV m x, .int .u64 a] w fun r w' => r = .returned (.tuple #[partsV K n E M, .int .i64 0]) ∧ Below w.heap.size w w'))
    (k4 : (K == 4) = false)
    (k2 : (K != 2) = false)
    (he : 0 ≤ E)
    : Calls Tryd.prog 43 #[fmtV m x, .int .u64 a, .bool dn] w fun r w' => r = .returned (.tuple #[.int .u64 a, .int .i64 0]) ∧ Below w.heap.size w w' := by
  go_enter Tryd.func43, Tryd.ntmps43
  go_wp2_with fail
  refine (HO.out _).mono ?_
  rintro r w1 ⟨rfl, hb1⟩
  obtain ⟨w5, hw5, hx, c0, c1, p0, p1, p2', p3⟩ := open_box m x K E M n w w1 hb1
  have HB := hidden hx
  clear hx hb1
  go_upto_region 2 with fail
  change Code.wp _ _ _ _ (w1.alloc (prt K n E M))
  rw [← hw5]
  clear hw5
  go_wp2
  go_ret2
  exact ⟨rfl, HB.out⟩
theorem pwb_tt_tt (m x : Nat) (a K E M R Q Q1 kk : Int) (w : World)
    (HO : Hid (∀ w, Calls Tryd.prog 41 #[fmtV m x, .int .u64 a] w fun r w' => r = .returned (.tuple #[partsV K true E M, .int .i64 0]) ∧ Below w.heap.size w w'))
    (HS : Hid (∀ w, Calls Tryd.prog 62 #[.int .u64 M, .int .i64 kk] w fun r w' => r = .returned (.tuple #[.int .u64 Q, .bool true]) ∧ Below w.heap.size w w'))
    (HP : Hid (∀ w, Calls Tryd.prog 38 #[fmtV m x, .bool true, .int .u64 0, .int .u64 Q1, .int .i64 0, .bool false] w fun r w' => r = .returned (.tuple #[.int .u64 R, .int .i64 0]) ∧ Below w.heap.size w w'))
    (k4 : (K == 4) = false)
    (k2 : (K != 2) = false)
    (he : E < 0)
    (hk : IntKind.i64.wrap (-E) = kk)
    (hq : IntKind.u64.wrap (Q + 1) = Q1)
    : Calls Tryd.prog 43 #[fmtV m x, .int .u64 a, .bool true] w fun r w' => r = .returned (.tuple #[.int .u64 R, .int .i64 0]) ∧ Below w.heap.size w w' := by
  go_enter Tryd.func43, Tryd.ntmps43
  go_wp2_with fail
  refine (HO.out _).mono ?_
  rintro r w1 ⟨rfl, hb1⟩
  obtain ⟨w5, hw5, hx, c0, c1, p0, p1, p2', p3⟩ := open_box m x K E M true w w1 hb1
  have HB := hidden hx
  clear hx hb1
  go_upto_region 2 with fail
  change Code.wp _ _ _ _ (w1.alloc (prt K true E M))
  rw [← hw5]
  clear hw5
  go_wp2_with (first | (go_at_call 62; refine (HS.out _).mono ?_; rintro r w9 ⟨rfl, hb⟩; have zz := six_on hb ⟨c0, c1, p0, p1, p2', p3⟩; clear c0 c1 p0 p1 p2' p3; obtain ⟨c0, c1, p0, p1, p2', p3⟩ := zz; have HB := hidden (HB.out.trans (hb.mono HB.out.size)); clear hb) | (go_at_call 38; refine (HP.out _).mono ?_; rintro r w9 ⟨rfl, hb⟩; have zz := six_on hb ⟨c0, c1, p0, p1, p2', p3⟩; clear c0 c1 p0 p1 p2' p3; obtain ⟨c0, c1, p0, p1, p2', p3⟩ := zz; have HB := hidden (HB.out.trans (hb.mono HB.out.size)); clear hb))
  go_ret2
  exact ⟨rfl, HB.out⟩
theorem pwb_tt_ff (m x : Nat) (a K E M R Q Q1 kk : Int) (w : World)
    (HO : Hid (∀ w, Calls Tryd.prog 41 #[fmtV m x, .int .u64 a] w fun r w' => r = .returned (.tuple #[partsV K false E M, .int .i64 0]) ∧ Below w.heap.size w w'))
    (HS : Hid (∀ w, Calls Tryd.prog 62 #[.int .u64 M, .int .i64 kk] w fun r w' => r = .returned (.tuple #[.int .u64 Q, .bool true]) ∧ Below w.heap.size w w'))
    (HP : Hid (∀ w, Calls Tryd.prog 38 #[fmtV m x, .bool false, .int .u64 0, .int .u64 Q1, .int .i64 0, .bool false] w fun r w' => r = .returned (.tuple #[.int .u64 R, .int .i64 0]) ∧ Below w.heap.size w w'))
    (k4 : (K == 4) = false)
    (k2 : (K != 2) = false)
    (he : E < 0)
    (hk : IntKind.i64.wrap (-E) = kk)
    (hq : IntKind.u64.wrap (Q + 1) = Q1)
    : Calls Tryd.prog 43 #[fmtV m x, .int .u64 a, .bool false] w fun r w' => r = .returned (.tuple #[.int .u64 R, .int .i64 0]) ∧ Below w.heap.size w w' := by
  go_enter Tryd.func43, Tryd.ntmps43
  go_wp2_with fail
  refine (HO.out _).mono ?_
  rintro r w1 ⟨rfl, hb1⟩
  obtain ⟨w5, hw5, hx, c0, c1, p0, p1, p2', p3⟩ := open_box m x K E M false w w1 hb1
  have HB := hidden hx
  clear hx hb1
  go_upto_region 2 with fail
  change Code.wp _ _ _ _ (w1.alloc (prt K false E M))
  rw [← hw5]
  clear hw5
  go_wp2_with (first | (go_at_call 62; refine (HS.out _).mono ?_; rintro r w9 ⟨rfl, hb⟩; have zz := six_on hb ⟨c0, c1, p0, p1, p2', p3⟩; clear c0 c1 p0 p1 p2' p3; obtain ⟨c0, c1, p0, p1, p2', p3⟩ := zz; have HB := hidden (HB.out.trans (hb.mono HB.out.size)); clear hb) | (go_at_call 38; refine (HP.out _).mono ?_; rintro r w9 ⟨rfl, hb⟩; have zz := six_on hb ⟨c0, c1, p0, p1, p2', p3⟩; clear c0 c1 p0 p1 p2' p3; obtain ⟨c0, c1, p0, p1, p2', p3⟩ := zz; have HB := hidden (HB.out.trans (hb.mono HB.out.size)); clear hb))
  go_ret2
  exact ⟨rfl, HB.out⟩
theorem pwb_tf_tf (m x : Nat) (a K E M R Q Q1 kk : Int) (w : World)
    (HO : Hid (∀ w, Calls Tryd.prog 41 #[fmtV m x, .int .u64 a] w fun r w' => r = .returned (.tuple #[partsV K true E M, .int .i64 0]) ∧ Below w.heap.size w w'))
    (HS : Hid (∀ w, Calls Tryd.prog 62 #[.int .u64 M, .int .i64 kk] w fun r w' => r = .returned (.tuple #[.int .u64 Q, .bool true]) ∧ Below w.heap.size w w'))
    (HP : Hid (∀ w, Calls Tryd.prog 38 #[fmtV m x, .bool true, .int .u64 0, .int .u64 Q, .int .i64 0, .bool false] w fun r w' => r = .returned (.tuple #[.int .u64 R, .int .i64 0]) ∧ Below w.heap.size w w'))
    (k4 : (K == 4) = false)
    (k2 : (K != 2) = false)
    (he : E < 0)
    (hk : IntKind.i64.wrap (-E) = kk)
    : Calls Tryd.prog 43 #[fmtV m x, .int .u64 a, .bool false] w fun r w' => r = .returned (.tuple #[.int .u64 R, .int .i64 0]) ∧ Below w.heap.size w w' := by
  go_enter Tryd.func43, Tryd.ntmps43
  go_wp2_with fail
  refine (HO.out _).mono ?_
  rintro r w1 ⟨rfl, hb1⟩
  obtain ⟨w5, hw5, hx, c0, c1, p0, p1, p2', p3⟩ := open_box m x K E M true w w1 hb1
  have HB := hidden hx
  clear hx hb1
  go_upto_region 2 with fail
  change Code.wp _ _ _ _ (w1.alloc (prt K true E M))
  rw [← hw5]
  clear hw5
  go_wp2_with (first | (go_at_call 62; refine (HS.out _).mono ?_; rintro r w9 ⟨rfl, hb⟩; have zz := six_on hb ⟨c0, c1, p0, p1, p2', p3⟩; clear c0 c1 p0 p1 p2' p3; obtain ⟨c0, c1, p0, p1, p2', p3⟩ := zz; have HB := hidden (HB.out.trans (hb.mono HB.out.size)); clear hb) | (go_at_call 38; refine (HP.out _).mono ?_; rintro r w9 ⟨rfl, hb⟩; have zz := six_on hb ⟨c0, c1, p0, p1, p2', p3⟩; clear c0 c1 p0 p1 p2' p3; obtain ⟨c0, c1, p0, p1, p2', p3⟩ := zz; have HB := hidden (HB.out.trans (hb.mono HB.out.size)); clear hb))
  go_ret2
  exact ⟨rfl, HB.out⟩
theorem pwb_tf_ft (m x : Nat) (a K E M R Q Q1 kk : Int) (w : World)
    (HO : Hid (∀ w, Calls Tryd.prog 41 #[fmtV m x, .int .u64 a] w fun r w' => r = .returned (.tuple #[partsV K false E M, .int .i64 0]) ∧ Below w.heap.size w w'))
    (HS : Hid (∀ w, Calls Tryd.prog 62 #[.int .u64 M, .int .i64 kk] w fun r w' => r = .returned (.tuple #[.int .u64 Q, .bool true]) ∧ Below w.heap.size w w'))
    (HP : Hid (∀ w, Calls Tryd.prog 38 #[fmtV m x, .bool false, .int .u64 0, .int .u64 Q, .int .i64 0, .bool false] w fun r w' => r = .returned (.tuple #[.int .u64 R, .int .i64 0]) ∧ Below w.heap.size w w'))
    (k4 : (K == 4) = false)
    (k2 : (K != 2) = false)
    (he : E < 0)
    (hk : IntKind.i64.wrap (-E) = kk)
    : Calls Tryd.prog 43 #[fmtV m x, .int .u64 a, .bool true] w fun r w' => r = .returned (.tuple #[.int .u64 R, .int .i64 0]) ∧ Below w.heap.size w w' := by
  go_enter Tryd.func43, Tryd.ntmps43
  go_wp2_with fail
  refine (HO.out _).mono ?_
  rintro r w1 ⟨rfl, hb1⟩
  obtain ⟨w5, hw5, hx, c0, c1, p0, p1, p2', p3⟩ := open_box m x K E M false w w1 hb1
  have HB := hidden hx
  clear hx hb1
  go_upto_region 2 with fail
  change Code.wp _ _ _ _ (w1.alloc (prt K false E M))
  rw [← hw5]
  clear hw5
  go_wp2_with (first | (go_at_call 62; refine (HS.out _).mono ?_; rintro r w9 ⟨rfl, hb⟩; have zz := six_on hb ⟨c0, c1, p0, p1, p2', p3⟩; clear c0 c1 p0 p1 p2' p3; obtain ⟨c0, c1, p0, p1, p2', p3⟩ := zz; have HB := hidden (HB.out.trans (hb.mono HB.out.size)); clear hb) | (go_at_call 38; refine (HP.out _).mono ?_; rintro r w9 ⟨rfl, hb⟩; have zz := six_on hb ⟨c0, c1, p0, p1, p2', p3⟩; clear c0 c1 p0 p1 p2' p3; obtain ⟨c0, c1, p0, p1, p2', p3⟩ := zz; have HB := hidden (HB.out.trans (hb.mono HB.out.size)); clear hb))
  go_ret2
  exact ⟨rfl, HB.out⟩
theorem pwb_ff_tt (m x : Nat) (a K E M R Q Q1 kk : Int) (w : World)
    (HO : Hid (∀ w, Calls Tryd.prog 41 #[fmtV m x, .int .u64 a] w fun r w' => r = .returned (.tuple #[partsV K true E M, .int .i64 0]) ∧ Below w.heap.size w w'))
    (HS : Hid (∀ w, Calls Tryd.prog 62 #[.int .u64 M, .int .i64 kk] w fun r w' => r = .returned (.tuple #[.int .u64 Q, .bool false]) ∧ Below w.heap.size w w'))
    (HP : Hid (∀ w, Calls Tryd.prog 38 #[fmtV m x, .bool true, .int .u64 0, .int .u64 Q, .int .i64 0, .bool false] w fun r w' => r = .returned (.tuple #[.int .u64 R, .int .i64 0]) ∧ Below w.heap.size w w'))
    (k4 : (K == 4) = false)
    (k2 : (K != 2) = false)
    (he : E < 0)
    (hk : IntKind.i64.wrap (-E) = kk)
    : Calls Tryd.prog 43 #[fmtV m x, .int .u64 a, .bool true] w fun r w' => r = .returned (.tuple #[.int .u64 R, .int .i64 0]) ∧ Below w.heap.size w w' := by
  go_enter Tryd.func43, Tryd.ntmps43
  go_wp2_with fail
  refine (HO.out _).mono ?_
  rintro r w1 ⟨rfl, hb1⟩
  obtain ⟨w5, hw5, hx, c0, c1, p0, p1, p2', p3⟩ := open_box m x K E M true w w1 hb1
  have HB := hidden hx
  clear hx hb1
  go_upto_region 2 with fail
  change Code.wp _ _ _ _ (w1.alloc (prt K true E M))
  rw [← hw5]
  clear hw5
  go_wp2_with (first | (go_at_call 62; refine (HS.out _).mono ?_; rintro r w9 ⟨rfl, hb⟩; have zz := six_on hb ⟨c0, c1, p0, p1, p2', p3⟩; clear c0 c1 p0 p1 p2' p3; obtain ⟨c0, c1, p0, p1, p2', p3⟩ := zz; have HB := hidden (HB.out.trans (hb.mono HB.out.size)); clear hb) | (go_at_call 38; refine (HP.out _).mono ?_; rintro r w9 ⟨rfl, hb⟩; have zz := six_on hb ⟨c0, c1, p0, p1, p2', p3⟩; clear c0 c1 p0 p1 p2' p3; obtain ⟨c0, c1, p0, p1, p2', p3⟩ := zz; have HB := hidden (HB.out.trans (hb.mono HB.out.size)); clear hb))
  go_ret2
  exact ⟨rfl, HB.out⟩
theorem pwb_ff_tf (m x : Nat) (a K E M R Q Q1 kk : Int) (w : World)
    (HO : Hid (∀ w, Calls Tryd.prog 41 #[fmtV m x, .int .u64 a] w fun r w' => r = .returned (.tuple #[partsV K true E M, .int .i64 0]) ∧ Below w.heap.size w w'))
    (HS : Hid (∀ w, Calls Tryd.prog 62 #[.int .u64 M, .int .i64 kk] w fun r w' => r = .returned (.tuple #[.int .u64 Q, .bool false]) ∧ Below w.heap.size w w'))
    (HP : Hid (∀ w, Calls Tryd.prog 38 #[fmtV m x, .bool true, .int .u64 0, .int .u64 Q, .int .i64 0, .bool false] w fun r w' => r = .returned (.tuple #[.int .u64 R, .int .i64 0]) ∧ Below w.heap.size w w'))
    (k4 : (K == 4) = false)
    (k2 : (K != 2) = false)
    (he : E < 0)
    (hk : IntKind.i64.wrap (-E) = kk)
    : Calls Tryd.prog 43 #[fmtV m x, .int .u64 a, .bool false] w fun r w' => r = .returned (.tuple #[.int .u64 R, .int .i64 0]) ∧ Below w.heap.size w w' := by
  go_enter Tryd.func43, Tryd.ntmps43
  go_wp2_with fail
  refine (HO.out _).mono ?_
  rintro r w1 ⟨rfl, hb1⟩
  obtain ⟨w5, hw5, hx, c0, c1, p0, p1, p2', p3⟩ := open_box m x K E M true w w1 hb1
  have HB := hidden hx
  clear hx hb1
  go_upto_region 2 with fail
  change Code.wp _ _ _ _ (w1.alloc (prt K true E M))
  rw [← hw5]
  clear hw5
  go_wp2_with (first | (go_at_call 62; refine (HS.out _).mono ?_; rintro r w9 ⟨rfl, hb⟩; have zz := six_on hb ⟨c0, c1, p0, p1, p2', p3⟩; clear c0 c1 p0 p1 p2' p3; obtain ⟨c0, c1, p0, p1, p2', p3⟩ := zz; have HB := hidden (HB.out.trans (hb.mono HB.out.size)); clear hb) | (go_at_call 38; refine (HP.out _).mono ?_; rintro r w9 ⟨rfl, hb⟩; have zz := six_on hb ⟨c0, c1, p0, p1, p2', p3⟩; clear c0 c1 p0 p1 p2' p3; obtain ⟨c0, c1, p0, p1, p2', p3⟩ := zz; have HB := hidden (HB.out.trans (hb.mono HB.out.size)); clear hb))
  go_ret2
  exact ⟨rfl, HB.out⟩
theorem pwb_ff_ft (m x : Nat) (a K E M R Q Q1 kk : Int) (w : World)
    (HO : Hid (∀ w, Calls Tryd.prog 41 #[fmtV m x, .int .u64 a] w fun r w' => r = .returned (.tuple #[partsV K false E M, .int .i64 0]) ∧ Below w.heap.size w w'))
    (HS : Hid (∀ w, Calls Tryd.prog 62 #[.int .u64 M, .int .i64 kk] w fun r w' => r = .returned (.tuple #[.int .u64 Q, .bool false]) ∧ Below w.heap.size w w'))
    (HP : Hid (∀ w, Calls Tryd.prog 38 #[fmtV m x, .bool false, .int .u64 0, .int .u64 Q, .int .i64 0, .bool false] w fun r w' => r = .returned (.tuple #[.int .u64 R, .int .i64 0]) ∧ Below w.heap.size w w'))
    (k4 : (K == 4) = false)
    (k2 : (K != 2) = false)
    (he : E < 0)
    (hk : IntKind.i64.wrap (-E) = kk)
    : Calls Tryd.prog 43 #[fmtV m x, .int .u64 a, .bool true] w fun r w' => r = .returned (.tuple #[.int .u64 R, .int .i64 0]) ∧ Below w.heap.size w w' := by
  go_enter Tryd.func43, Tryd.ntmps43
  go_wp2_with fail
  refine (HO.out _).mono ?_
  rintro r w1 ⟨rfl, hb1⟩
  obtain ⟨w5, hw5, hx, c0, c1, p0, p1, p2', p3⟩ := open_box m x K E M false w w1 hb1
  have HB := hidden hx
  clear hx hb1
  go_upto_region 2 with fail
  change Code.wp _ _ _ _ (w1.alloc (prt K false E M))
  rw [← hw5]
  clear hw5
  go_wp2_with (first | (go_at_call 62; refine (HS.out _).mono ?_; rintro r w9 ⟨rfl, hb⟩; have zz := six_on hb ⟨c0, c1, p0, p1, p2', p3⟩; clear c0 c1 p0 p1 p2' p3; obtain ⟨c0, c1, p0, p1, p2', p3⟩ := zz; have HB := hidden (HB.out.trans (hb.mono HB.out.size)); clear hb) | (go_at_call 38; refine (HP.out _).mono ?_; rintro r w9 ⟨rfl, hb⟩; have zz := six_on hb ⟨c0, c1, p0, p1, p2', p3⟩; clear c0 c1 p0 p1 p2' p3; obtain ⟨c0, c1, p0, p1, p2', p3⟩ := zz; have HB := hidden (HB.out.trans (hb.mono HB.out.size)); clear hb))
  go_ret2
  exact ⟨rfl, HB.out⟩
theorem pwb_ff_ff (m x : Nat) (a K E M R Q Q1 kk : Int) (w : World)
    (HO : Hid (∀ w, Calls Tryd.prog 41 #[fmtV m x, .int .u64 a] w fun r w' => r = .returned (.tuple #[partsV K false E M, .int .i64 0]) ∧ Below w.heap.size w w'))
    (HS : Hid (∀ w, Calls Tryd.prog 62 #[.int .u64 M, .int .i64 kk] w fun r w' => r = .returned (.tuple #[.int .u64 Q, .bool false]) ∧ Below w.heap.size w w'))
    (HP : Hid (∀ w, Calls Tryd.prog 38 #[fmtV m x, .bool false, .int .u64 0, .int .u64 Q, .int .i64 0, .bool false] w fun r w' => r = .returned (.tuple #[.int .u64 R, .int .i64 0]) ∧ Below w.heap.size w w'))
    (k4 : (K == 4) = false)
    (k2 : (K != 2) = false)
    (he : E < 0)
    (hk : IntKind.i64.wrap (-E) = kk)
    : Calls Tryd.prog 43 #[fmtV m x, .int .u64 a, .bool false] w fun r w' => r = .returned (.tuple #[.int .u64 R, .int .i64 0]) ∧ Below w.heap.size w w' := by
  go_enter Tryd.func43, Tryd.ntmps43
  go_wp2_with fail
  refine (HO.out _).mono ?_
  rintro r w1 ⟨rfl, hb1⟩
  obtain ⟨w5, hw5, hx, c0, c1, p0, p1, p2', p3⟩ := open_box m x K E M false w w1 hb1
  have HB := hidden hx
  clear hx hb1
  go_upto_region 2 with fail
  change Code.wp _ _ _ _ (w1.alloc (prt K false E M))
  rw [← hw5]
  clear hw5
  go_wp2_with (first | (go_at_call 62; refine (HS.out _).mono ?_; rintro r w9 ⟨rfl, hb⟩; have zz := six_on hb ⟨c0, c1, p0, p1, p2', p3⟩; clear c0 c1 p0 p1 p2' p3; obtain ⟨c0, c1, p0, p1, p2', p3⟩ := zz; have HB := hidden (HB.out.trans (hb.mono HB.out.size)); clear hb) | (go_at_call 38; refine (HP.out _).mono ?_; rintro r w9 ⟨rfl, hb⟩; have zz := six_on hb ⟨c0, c1, p0, p1, p2', p3⟩; clear c0 c1 p0 p1 p2' p3; obtain ⟨c0, c1, p0, p1, p2', p3⟩ := zz; have HB := hidden (HB.out.trans (hb.mono HB.out.size)); clear hb))
  go_ret2
  exact ⟨rfl, HB.out⟩
end Go.Proofs.YthfjjkikeebopaaDoor
