/- Contract of package soft's quotient. -/
import Derived.Test.YthfjjkikeebopaaDoorP3f
namespace Go.Proofs.YthfjjkikeebopaaDoor
open Go.RowKit
set_option maxRecDepth 100000
set_option maxHeartbeats 400000
set_option linter.unusedVariables false

theorem bne_dec (R : Int) : (R != 0) = decide (R ≠ 0) := by
  by_cases h : R = 0 <;> simp [h]
/-- two boxes of parts -/
theorem two_boxes (Ka Ea Ma Kb Eb Mb : Int) (na nb : Bool) (w : World) : ∃ w3, w3 = (w.alloc (prt Ka na Ea Ma)).alloc (prt Kb nb Eb Mb) ∧ PsAt w3 w.heap.size Ka na Ea Ma ∧ PsAt w3 (w.heap.size + 1) Kb nb Eb Mb ∧ Below w.heap.size w w3 := by
  have h1 := ps_alloc (prt Kb nb Eb Mb) (ps_fresh w Ka Ea Ma na)
  have h2 := ps_fresh (w.alloc (prt Ka na Ea Ma)) Kb Eb Mb nb
  refine ⟨_, rfl, by simpa using h1, by simpa using h2, ?_⟩
  exact ((Below.refl _ _).alloc (Nat.le_refl _) _).alloc (by simp) _
theorem pquotient (K1 E1 M1 K2 E2 M2 : Int) (n1 n2 : Bool) (w : World) (a0 : 0 < M1) (a1 : M1 < 18446744073709551616) (b0 : 0 < M2) (b1 : M2 < 18446744073709551616) (e1 : -3000 ≤ E1 ∧ E1 ≤ 3000) (e2 : -3000 ≤ E2 ∧ E2 ≤ 3000) :
    Calls Tryd.prog 39 #[partsV K1 n1 E1 M1, partsV K2 n2 E2 M2] w fun r w' => r = .returned (.tuple #[.int .u64 (quoQ M1 M2), .int .i64 (quoE E1 M1 E2 M2), .bool (decide (quoR M1 M2 ≠ 0))]) ∧ Below w.heap.size w w' := by
  obtain ⟨c1, c2, c3⟩ := up_full M1 a0 a1 _ rfl
  obtain ⟨d1, d2, d3⟩ := up_full M2 b0 b1 _ rfl
  have HL1 := hidden (fun w => plz64 M1 w (by omega) (by omega))
  have HL2 := hidden (fun w => plz64 M2 w (by omega) (by omega))
  have hE : Hid (quoE E1 M1 E2 M2 = (E1 - ((64 - bl M1 : Nat) : Int)) - (E2 - ((64 - bl M2 : Nat) : Int)) - 63) := rfl
  have hQ : Hid (quoQ M1 M2 = M1 * p2 (64 - bl M1) * 9223372036854775808 / (M2 * p2 (64 - bl M2))) := rfl
  have hR : Hid (quoR M1 M2 = M1 * p2 (64 - bl M1) * 9223372036854775808 % (M2 * p2 (64 - bl M2))) := rfl
  have hu1 : ((64 - bl M1 : Nat) : Int) ≤ 64 := by omega
  have hu2 : ((64 - bl M2 : Nat) : Int) ≤ 64 := by omega
  generalize quoE E1 M1 E2 M2 = QE at *
  generalize quoQ M1 M2 = QQ at *
  generalize quoR M1 M2 = QR at *
  generalize 64 - bl M1 = u1 at *
  generalize 64 - bl M2 = u2 at *
  have hs1 : IntKind.u64.wrap (M1 * 2 ^ u1) = M1 * p2 u1 := by rw [IntKind.wrap_u64]; show M1 * p2 u1 % _ = _; omega
  have hs2 : IntKind.u64.wrap (M2 * 2 ^ u2) = M2 * p2 u2 := by rw [IntKind.wrap_u64]; show M2 * p2 u2 % _ = _; omega
  generalize M1 * p2 u1 = X at *
  generalize M2 * p2 u2 = Y at *
  obtain ⟨XH, hXH⟩ : ∃ XH, X / 2 = XH := ⟨_, rfl⟩
  obtain ⟨XL, hXL⟩ : ∃ XL, IntKind.u64.wrap (X * 9223372036854775808) = XL := ⟨_, rfl⟩
  have hX2 : XH * 18446744073709551616 + XL = X * 9223372036854775808 ∧ 0 < XH ∧ XH < Y ∧ 0 ≤ XL ∧ XL ≤ 18446744073709551615 := by
    rw [IntKind.wrap_u64] at hXL; omega
  have HD : Hid (∀ w, Calls Tryd.prog 59 #[.int .u64 XH, .int .u64 XL, .int .u64 Y] w fun r w' => r = .returned (.tuple #[.int .u64 QQ, .int .u64 QR]) ∧ w' = w) := hidden fun w => by
    have h := pdiv64 XH XL Y w d2 (by omega) hX2.2.1 hX2.2.2.1 hX2.2.2.2.1 hX2.2.2.2.2
    rw [hX2.1, ← hQ.out, ← hR.out] at h
    exact h
  clear hX2 hQ hR
  obtain ⟨w3, hw3, ps1, ps2, hb3⟩ := two_boxes K1 E1 M1 K2 E2 M2 n1 n2 w
  have HB3 := hidden hb3
  clear hb3
  go_enter Tryd.func39, Tryd.ntmps39
  go_upto_region 1 with fail
  change Code.wp _ _ _ _ ((w.alloc (prt K1 n1 E1 M1)).alloc (prt K2 n2 E2 M2))
  rw [← hw3]
  clear hw3
  obtain ⟨f0, f1, f2, f3, v0, v1, v2, v3⟩ := ps1
  obtain ⟨s0, s1, s2, s3, t0, t1, t2, t3⟩ := ps2
  go_quiet (first | (go_at_call_of 58 (Value.int IntKind.u64 M1); exact Calls.quiet_of_same (HL1.out _)) | (go_at_call_of 58 (Value.int IntKind.u64 M2); exact Calls.quiet_of_same (HL2.out _)))
  go_upto_region 2 with fail
  go_quiet (fail)
  go_wp2_with (go_at_call 59; refine (HD.out _).mono ?_; rintro r w1 ⟨rfl, hw1⟩; obtain rfl := hw1.symm)
  go_quiet (fail)
  go_wp2
  go_ret3
  refine ⟨?_, below_drewN (below_drewN HB3.out _) _⟩
  rw [bne_dec, hE.out]
  rfl
end Go.Proofs.YthfjjkikeebopaaDoor
