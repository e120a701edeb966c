/- The library's Add64, Sub64 and Mul64 over this program, and the walks of package soft's sum. -/
import Derived.Test.YthfjjkikeebopaaDoorP3a
import Derived.Test.YthfjjkikeebopaaDoorZ3
import Derived.Laws.Externs
import Derived.Shelf.Spec.BitsCarry
import Derived.BigQuiet
import Derived.Deep.QuietTactic
namespace Go.Proofs.YthfjjkikeebopaaDoor
open Go.RowKit
set_option maxHeartbeats 400000
set_option linter.unusedVariables false

theorem padd64 (x y : Int) (w : World) (x0 : 0 ≤ x) (x1 : x ≤ 18446744073709551615) (y0 : 0 ≤ y) (y1 : y ≤ 18446744073709551615) :
    (callFunc 52 #[.int .u64 x, .int .u64 y, .int .u64 0]).run Tryd.prog w = .ok (.value (.tuple #[.int .u64 ((x + y) % 18446744073709551616), .int .u64 ((x + y) / 18446744073709551616)])) w := by
  obtain ⟨a, rfl⟩ := Int.eq_ofNat_of_zero_le x0
  obtain ⟨b, rfl⟩ := Int.eq_ofNat_of_zero_le y0
  rw [run_callFunc_extern Tryd.func52 (by kernel_rfl) (by kernel_rfl) (by kernel_rfl) (e := add64Entry) (by kernel_rfl)]
  have h := run_add64 (P := Tryd.prog) (w := w) a b 0 (by omega) (by omega) (by omega) (by omega)
  rw [h]
  simp only [Result.andThen]
  congr 5 <;> omega
theorem psub64 (x y : Int) (w : World) (x0 : 0 ≤ x) (x1 : x ≤ 18446744073709551615) (y0 : 0 ≤ y) (y1 : y ≤ 18446744073709551615) :
    (callFunc 53 #[.int .u64 x, .int .u64 y, .int .u64 0]).run Tryd.prog w = .ok (.value (.tuple #[.int .u64 ((x - y) % 18446744073709551616), .int .u64 (if x < y then 1 else 0)])) w := by
  obtain ⟨a, rfl⟩ := Int.eq_ofNat_of_zero_le x0
  obtain ⟨b, rfl⟩ := Int.eq_ofNat_of_zero_le y0
  rw [run_callFunc_extern Tryd.func53 (by kernel_rfl) (by kernel_rfl) (by kernel_rfl) (e := sub64Entry) (by kernel_rfl)]
  have h := run_sub64 (P := Tryd.prog) a b 0 (by omega) w
  have e0 : Value.int .u64 ((0 : Nat) : Int) = Value.int .u64 0 := rfl
  rw [e0] at h
  rw [h]
  simp only [Result.andThen]
  congr 5
  · congr 1; omega
  · congr 2; split <;> split <;> omega
theorem pmul64 (x y : Int) (w : World) (x0 : 0 ≤ x) (x1 : x ≤ 18446744073709551615) (y0 : 0 ≤ y) (y1 : y ≤ 18446744073709551615) :
    Calls Tryd.prog 37 #[.int .u64 x, .int .u64 y] w fun r w' => r = .returned (.tuple #[.int .u64 (x * y / 18446744073709551616), .int .u64 (x * y % 18446744073709551616)]) ∧ w' = w := by
  obtain ⟨a, rfl⟩ := Int.eq_ofNat_of_zero_le x0
  obtain ⟨b, rfl⟩ := Int.eq_ofNat_of_zero_le y0
  have h := Tryd.bits_Mul64 a b (by omega) (by omega) w
  refine h.mono ?_
  rintro r w' ⟨rfl, rfl⟩
  refine ⟨?_, rfl⟩
  rw [Int.natCast_ediv, Int.natCast_emod, Int.natCast_mul]
  rfl
/-- the boxes of sum's arguments -/
theorem sum_boxes (m x : Nat) (Ka Ea Ma Kb Eb Mb : Int) (na nb : Bool) (w : World) : ∃ w3, w3 = ((w.alloc (fmt m x)).alloc (prt Ka na Ea Ma)).alloc (prt Kb nb Eb Mb) ∧ PsAt w3 (w.heap.size + 1) Ka na Ea Ma ∧ PsAt w3 (w.heap.size + 1 + 1) Kb nb Eb Mb ∧ w3.cell? ⟨w.heap.size, 0, none⟩ = some (.int .i64 m) ∧ w3.cell? ⟨w.heap.size, 1, none⟩ = some (.int .i64 x) ∧ Below w.heap.size w w3 := by
  have hA : Below (w.alloc (fmt m x)).heap.size (w.alloc (fmt m x)) (((w.alloc (fmt m x)).alloc (prt Ka na Ea Ma)).alloc (prt Kb nb Eb Mb)) := ((Below.refl _ _).alloc (Nat.le_refl _) _).alloc (by simp) _
  have h1 := ps_alloc (prt Kb nb Eb Mb) (ps_fresh (w.alloc (fmt m x)) Ka Ea Ma na)
  have h2 := ps_fresh ((w.alloc (fmt m x)).alloc (prt Ka na Ea Ma)) Kb Eb Mb nb
  refine ⟨_, rfl, by simpa using h1, by simpa using h2, cellLater hA (by simp), cellLater hA (by simp), ?_⟩
  exact (((Below.refl _ _).alloc (Nat.le_refl _) _).alloc (by simp) _).alloc (by simp; omega) _
theorem psum_same (m x k : Nat) (E1 M1 E2 M2 K1 K2 hi lo low car HI PK R : Int) (n : Bool) (w : World)
    (ho : (¬ E1 < E2 ∧ (E1 == E2) = false) ∨ (¬ E1 < E2 ∧ (E1 == E2) = true ∧ ¬ M1 < M2))
    (hk : IntKind.i64.wrap (E1 - E2) = k) (hk63 : (k : Int) ≤ 63) (hs1 : IntKind.u64.wrap (2 ^ k) = PK) (hs2 : IntKind.u64.wrap (1 * 2 ^ k) = PK)
    (HM : Hid (∀ w, Calls Tryd.prog 37 #[.int .u64 M1, .int .u64 PK] w fun r w' => r = .returned (.tuple #[.int .u64 hi, .int .u64 lo]) ∧ w' = w))
    (HA : Hid (∀ w, (callFunc 52 #[.int .u64 lo, .int .u64 M2, .int .u64 0]).run Tryd.prog w = .ok (.value (.tuple #[.int .u64 low, .int .u64 car])) w))
    (hw : IntKind.u64.wrap (hi + car) = HI)
    (HP : Hid (∀ w, Calls Tryd.prog 38 #[fmtV m x, .bool n, .int .u64 HI, .int .u64 low, .int .i64 E2, .bool false] w fun r w' => r = .returned (.tuple #[.int .u64 R, .int .i64 0]) ∧ Below w.heap.size w w')) :
    Calls Tryd.prog 34 #[fmtV m x, partsV K1 n E1 M1, partsV K2 n E2 M2] w fun r w' => r = .returned (.tuple #[.int .u64 R, .int .i64 0]) ∧ Below w.heap.size w w' := by
  have hk0 : (0 : Int) ≤ k := by omega
  obtain ⟨w3, hw3, ps1, ps2, f0, f1, hb3⟩ := sum_boxes m x K1 E1 M1 K2 E2 M2 n n w
  have HB3 := hidden hb3
  clear hb3
  rcases ho with ⟨o1, o2⟩ | ⟨o1, o2, o3⟩
  all_goals
    go_enter Tryd.func34, Tryd.ntmps34
    go_upto_region 1 with fail
    change Code.wp _ _ _ _ (((w.alloc (fmt m x)).alloc (prt K1 n E1 M1)).alloc (prt K2 n E2 M2))
    rw [← hw3]
    clear hw3
    obtain ⟨u0, u1, u2, u3, v0, v1, v2, v3⟩ := ps1
    obtain ⟨s0, s1, s2, s3, t0, t1, t2, t3⟩ := ps2
    go_wp2_with fail
    go_quiet (exact Calls.quiet_of_same (HM.out _))
    go_wp2_with (first | (simp only [HA.out]) | (go_at_call 38; refine (HP.out _).mono ?_; rintro r w1 ⟨rfl, hb⟩))
    go_ret2
    refine ⟨rfl, ?_⟩
    exact (below_drewN HB3.out nq).trans (hb.mono (below_drewN HB3.out nq).size)
theorem psum_far (m x k : Nat) (E1 M1 E2 M2 K1 K2 hi lo low car HI PK R : Int) (n1 n2 : Bool) (w : World)
    (ho : (¬ E1 < E2 ∧ (E1 == E2) = false) ∨ (¬ E1 < E2 ∧ (E1 == E2) = true ∧ ¬ M1 < M2))
    (hk : IntKind.i64.wrap (E1 - E2) = k) (hk63 : 63 < (k : Int))
    (HP : Hid (∀ w, Calls Tryd.prog 38 #[fmtV m x, .bool n1, .int .u64 0, .int .u64 M1, .int .i64 E1, .bool false] w fun r w' => r = .returned (.tuple #[.int .u64 R, .int .i64 0]) ∧ Below w.heap.size w w')) :
    Calls Tryd.prog 34 #[fmtV m x, partsV K1 n1 E1 M1, partsV K2 n2 E2 M2] w fun r w' => r = .returned (.tuple #[.int .u64 R, .int .i64 0]) ∧ Below w.heap.size w w' := by
  have hk0 : (0 : Int) ≤ k := by omega
  obtain ⟨w3, hw3, ps1, ps2, f0, f1, hb3⟩ := sum_boxes m x K1 E1 M1 K2 E2 M2 n1 n2 w
  have HB3 := hidden hb3
  clear hb3
  rcases ho with ⟨o1, o2⟩ | ⟨o1, o2, o3⟩
  all_goals
    go_enter Tryd.func34, Tryd.ntmps34
    go_upto_region 1 with fail
    change Code.wp _ _ _ _ (((w.alloc (fmt m x)).alloc (prt K1 n1 E1 M1)).alloc (prt K2 n2 E2 M2))
    rw [← hw3]
    clear hw3
    obtain ⟨u0, u1, u2, u3, v0, v1, v2, v3⟩ := ps1
    obtain ⟨s0, s1, s2, s3, t0, t1, t2, t3⟩ := ps2
    go_wp2_with (go_at_call 38; refine (HP.out _).mono ?_; rintro r w1 ⟨rfl, hb⟩)
    go_ret2
    refine ⟨rfl, ?_⟩
    exact HB3.out.trans (hb.mono HB3.out.size)
end Go.Proofs.YthfjjkikeebopaaDoor
