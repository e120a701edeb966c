/- The walks of package soft's sum, where the second number is the greater one. -/
import Derived.Test.YthfjjkikeebopaaDoorP3c
namespace Go.Proofs.YthfjjkikeebopaaDoor
open Go.RowKit
set_option maxHeartbeats 400000
set_option linter.unusedVariables false

theorem psum_same_sw (m x k : Nat) (E1 M1 E2 M2 K1 K2 hi lo low car HI PK R : Int) (n : Bool) (w : World)
    (ho : (E2 < E1) ∨ (¬ E2 < E1 ∧ (E2 == E1) = true ∧ M2 < M1))
    (hk : IntKind.i64.wrap (E1 - E2) = k) (hk63 : (k : Int) ≤ 63) (hs1 : IntKind.u64.wrap (2 ^ k) = PK) (hs2 : IntKind.u64.wrap (1 * 2 ^ k) = PK)
    (HM : Hid (∀ w, Calls Tryd.prog 37 #[.int .u64 M1, .int .u64 PK] w fun r w' => r = .returned (.tuple #[.int .u64 hi, .int .u64 lo]) ∧ w' = w))
    (HA : Hid (∀ w, (callFunc 52 #[.int .u64 lo, .int .u64 M2, .int .u64 0]).run Tryd.prog w = .ok (.value (.tuple #[.int .u64 low, .int .u64 car])) w))
    (hw : IntKind.u64.wrap (hi + car) = HI)
    (HP : Hid (∀ w, Calls Tryd.prog 38 #[fmtV m x, .bool n, .int .u64 HI, .int .u64 low, .int .i64 E2, .bool false] w fun r w' => r = .returned (.tuple #[.int .u64 R, .int .i64 0]) ∧ Below w.heap.size w w')) :
    Calls Tryd.prog 34 #[fmtV m x, partsV K2 n E2 M2, partsV K1 n E1 M1] w fun r w' => r = .returned (.tuple #[.int .u64 R, .int .i64 0]) ∧ Below w.heap.size w w' := by
  have hk0 : (0 : Int) ≤ k := by omega
  obtain ⟨w3, hw3, ps1, ps2, f0, f1, hb3⟩ := sum_boxes m x K2 E2 M2 K1 E1 M1 n n w
  have HB3 := hidden hb3
  clear hb3
  rcases ho with o1 | ⟨o1, o2, o3⟩
  all_goals
    go_enter Tryd.func34, Tryd.ntmps34
    go_upto_region 1 with fail
    change Code.wp _ _ _ _ (((w.alloc (fmt m x)).alloc (prt K2 n E2 M2)).alloc (prt K1 n E1 M1))
    rw [← hw3]
    clear hw3
    obtain ⟨u0, u1, u2, u3, v0, v1, v2, v3⟩ := ps1
    obtain ⟨s0, s1, s2, s3, t0, t1, t2, t3⟩ := ps2
    have q1 : PsAt (set4 (set4 w3 (w.heap.size + 1) (.int .i64 K1) (.bool n) (.int .i64 E1) (.int .u64 M1)) (w.heap.size + 1 + 1) (.int .i64 K2) (.bool n) (.int .i64 E2) (.int .u64 M2)) (w.heap.size + 1) K1 n E1 M1 := ps_set4 (ps_put ⟨u0, u1, u2, u3, v0, v1, v2, v3⟩ K1 E1 M1 n) (by omega) _ _ _ _
    have q2 : PsAt (set4 (set4 w3 (w.heap.size + 1) (.int .i64 K1) (.bool n) (.int .i64 E1) (.int .u64 M1)) (w.heap.size + 1 + 1) (.int .i64 K2) (.bool n) (.int .i64 E2) (.int .u64 M2)) (w.heap.size + 1 + 1) K2 n E2 M2 := ps_put (ps_set4 ⟨s0, s1, s2, s3, t0, t1, t2, t3⟩ (by omega) _ _ _ _) K2 E2 M2 n
    have g0 : (set4 (set4 w3 (w.heap.size + 1) (.int .i64 K1) (.bool n) (.int .i64 E1) (.int .u64 M1)) (w.heap.size + 1 + 1) (.int .i64 K2) (.bool n) (.int .i64 E2) (.int .u64 M2)).cell? ⟨w.heap.size, 0, none⟩ = some (.int .i64 m) := ((set4_far _ _ _ _ _ _ _ _ (by omega)).trans (set4_far _ _ _ _ _ _ _ _ (by omega))).trans f0
    have g1 : (set4 (set4 w3 (w.heap.size + 1) (.int .i64 K1) (.bool n) (.int .i64 E1) (.int .u64 M1)) (w.heap.size + 1 + 1) (.int .i64 K2) (.bool n) (.int .i64 E2) (.int .u64 M2)).cell? ⟨w.heap.size, 1, none⟩ = some (.int .i64 x) := ((set4_far _ _ _ _ _ _ _ _ (by omega)).trans (set4_far _ _ _ _ _ _ _ _ (by omega))).trans f1
    have HB5 := hidden (set4_below (set4_below HB3.out (w.heap.size + 1) (by omega) (.int .i64 K1) (.bool n) (.int .i64 E1) (.int .u64 M1)) (w.heap.size + 1 + 1) (by omega) (.int .i64 K2) (.bool n) (.int .i64 E2) (.int .u64 M2))
    have nb : ¬ w.heap.size + 1 = w.heap.size + 1 + 1 := by omega
    have nb' : ¬ w.heap.size + 1 + 1 = w.heap.size + 1 := by omega
    have nc : ¬ w.heap.size + 1 = w.heap.size := by omega
    have nc' : ¬ w.heap.size + 1 + 1 = w.heap.size := by omega
    go_upto_region 3 with fail
    clear u0 u1 u2 u3 v0 v1 v2 v3 s0 s1 s2 s3 t0 t1 t2 t3 f0 f1 HB3
    change Code.wp _ _ _ _ (set4 (set4 w3 (w.heap.size + 1) (.int .i64 K1) (.bool n) (.int .i64 E1) (.int .u64 M1)) (w.heap.size + 1 + 1) (.int .i64 K2) (.bool n) (.int .i64 E2) (.int .u64 M2))
    generalize (set4 (set4 w3 (w.heap.size + 1) (.int .i64 K1) (.bool n) (.int .i64 E1) (.int .u64 M1)) (w.heap.size + 1 + 1) (.int .i64 K2) (.bool n) (.int .i64 E2) (.int .u64 M2)) = w5 at *
    obtain ⟨u0, u1, u2, u3, v0, v1, v2, v3⟩ := q1
    obtain ⟨s0, s1, s2, s3, t0, t1, t2, t3⟩ := q2
    go_wp2_with fail
    go_quiet (exact Calls.quiet_of_same (HM.out _))
    go_wp2_with (first | (simp only [HA.out]) | (go_at_call 38; refine (HP.out _).mono ?_; rintro r w1 ⟨rfl, hb⟩))
    go_ret2
    refine ⟨rfl, ?_⟩
    exact (below_drewN HB5.out nq).trans (hb.mono (below_drewN HB5.out nq).size)
theorem psum_far_sw (m x k : Nat) (E1 M1 E2 M2 K1 K2 hi lo low car HI PK R : Int) (n1 n2 : Bool) (w : World)
    (ho : (E2 < E1) ∨ (¬ E2 < E1 ∧ (E2 == E1) = true ∧ M2 < M1))
    (hk : IntKind.i64.wrap (E1 - E2) = k) (hk63 : 63 < (k : Int))
    (HP : Hid (∀ w, Calls Tryd.prog 38 #[fmtV m x, .bool n1, .int .u64 0, .int .u64 M1, .int .i64 E1, .bool false] w fun r w' => r = .returned (.tuple #[.int .u64 R, .int .i64 0]) ∧ Below w.heap.size w w')) :
    Calls Tryd.prog 34 #[fmtV m x, partsV K2 n2 E2 M2, partsV K1 n1 E1 M1] w fun r w' => r = .returned (.tuple #[.int .u64 R, .int .i64 0]) ∧ Below w.heap.size w w' := by
  have hk0 : (0 : Int) ≤ k := by omega
  obtain ⟨w3, hw3, ps1, ps2, f0, f1, hb3⟩ := sum_boxes m x K2 E2 M2 K1 E1 M1 n2 n1 w
  have HB3 := hidden hb3
  clear hb3
  rcases ho with o1 | ⟨o1, o2, o3⟩
  all_goals
    go_enter Tryd.func34, Tryd.ntmps34
    go_upto_region 1 with fail
    change Code.wp _ _ _ _ (((w.alloc (fmt m x)).alloc (prt K2 n2 E2 M2)).alloc (prt K1 n1 E1 M1))
    rw [← hw3]
    clear hw3
    obtain ⟨u0, u1, u2, u3, v0, v1, v2, v3⟩ := ps1
    obtain ⟨s0, s1, s2, s3, t0, t1, t2, t3⟩ := ps2
    have q1 : PsAt (set4 (set4 w3 (w.heap.size + 1) (.int .i64 K1) (.bool n1) (.int .i64 E1) (.int .u64 M1)) (w.heap.size + 1 + 1) (.int .i64 K2) (.bool n2) (.int .i64 E2) (.int .u64 M2)) (w.heap.size + 1) K1 n1 E1 M1 := ps_set4 (ps_put ⟨u0, u1, u2, u3, v0, v1, v2, v3⟩ K1 E1 M1 n1) (by omega) _ _ _ _
    have q2 : PsAt (set4 (set4 w3 (w.heap.size + 1) (.int .i64 K1) (.bool n1) (.int .i64 E1) (.int .u64 M1)) (w.heap.size + 1 + 1) (.int .i64 K2) (.bool n2) (.int .i64 E2) (.int .u64 M2)) (w.heap.size + 1 + 1) K2 n2 E2 M2 := ps_put (ps_set4 ⟨s0, s1, s2, s3, t0, t1, t2, t3⟩ (by omega) _ _ _ _) K2 E2 M2 n2
    have g0 : (set4 (set4 w3 (w.heap.size + 1) (.int .i64 K1) (.bool n1) (.int .i64 E1) (.int .u64 M1)) (w.heap.size + 1 + 1) (.int .i64 K2) (.bool n2) (.int .i64 E2) (.int .u64 M2)).cell? ⟨w.heap.size, 0, none⟩ = some (.int .i64 m) := ((set4_far _ _ _ _ _ _ _ _ (by omega)).trans (set4_far _ _ _ _ _ _ _ _ (by omega))).trans f0
    have g1 : (set4 (set4 w3 (w.heap.size + 1) (.int .i64 K1) (.bool n1) (.int .i64 E1) (.int .u64 M1)) (w.heap.size + 1 + 1) (.int .i64 K2) (.bool n2) (.int .i64 E2) (.int .u64 M2)).cell? ⟨w.heap.size, 1, none⟩ = some (.int .i64 x) := ((set4_far _ _ _ _ _ _ _ _ (by omega)).trans (set4_far _ _ _ _ _ _ _ _ (by omega))).trans f1
    have HB5 := hidden (set4_below (set4_below HB3.out (w.heap.size + 1) (by omega) (.int .i64 K1) (.bool n1) (.int .i64 E1) (.int .u64 M1)) (w.heap.size + 1 + 1) (by omega) (.int .i64 K2) (.bool n2) (.int .i64 E2) (.int .u64 M2))
    have nb : ¬ w.heap.size + 1 = w.heap.size + 1 + 1 := by omega
    have nb' : ¬ w.heap.size + 1 + 1 = w.heap.size + 1 := by omega
    have nc : ¬ w.heap.size + 1 = w.heap.size := by omega
    have nc' : ¬ w.heap.size + 1 + 1 = w.heap.size := by omega
    go_upto_region 3 with fail
    clear u0 u1 u2 u3 v0 v1 v2 v3 s0 s1 s2 s3 t0 t1 t2 t3 f0 f1 HB3
    change Code.wp _ _ _ _ (set4 (set4 w3 (w.heap.size + 1) (.int .i64 K1) (.bool n1) (.int .i64 E1) (.int .u64 M1)) (w.heap.size + 1 + 1) (.int .i64 K2) (.bool n2) (.int .i64 E2) (.int .u64 M2))
    generalize (set4 (set4 w3 (w.heap.size + 1) (.int .i64 K1) (.bool n1) (.int .i64 E1) (.int .u64 M1)) (w.heap.size + 1 + 1) (.int .i64 K2) (.bool n2) (.int .i64 E2) (.int .u64 M2)) = w5 at *
    obtain ⟨u0, u1, u2, u3, v0, v1, v2, v3⟩ := q1
    obtain ⟨s0, s1, s2, s3, t0, t1, t2, t3⟩ := q2
    go_wp2_with (go_at_call 38; refine (HP.out _).mono ?_; rintro r w1 ⟨rfl, hb⟩)
    go_ret2
    refine ⟨rfl, ?_⟩
    exact HB5.out.trans (hb.mono HB5.out.size)
end Go.Proofs.YthfjjkikeebopaaDoor
