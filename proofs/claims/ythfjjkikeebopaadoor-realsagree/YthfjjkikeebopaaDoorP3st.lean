/- Contract of package soft's wholePart: a number without its sign as a whole number. Package soft's Whole, leaf by leaf. -/
import Derived.Test.YthfjjkikeebopaaDoorP3q
import Derived.Test.YthfjjkikeebopaaDoorP3m
namespace Go.Proofs.YthfjjkikeebopaaDoor
open Go.RowKit
set_option maxRecDepth 100000
set_option maxHeartbeats 400000
set_option linter.unusedVariables false

theorem shr_min (M : Int) (k : Nat) (h0 : 0 ≤ M) (h1 : M < 18446744073709551616) : M / 2 ^ min k 64 = M / p2 k := by
  rcases Nat.lt_or_ge k 64 with h | h
  · rw [Nat.min_eq_left (by omega)]; rfl
  · rw [Nat.min_eq_right h]
    have h5 := p2_mono h
    rw [p2_64] at h5
    rw [Int.ediv_eq_zero_of_lt h0 (show M < p2 k by omega), show (2 : Int) ^ 64 = 18446744073709551616 by decide]
    omega
theorem pwpart_cut (K E M : Int) (n : Bool) (k : Nat) (w : World) (hk : -E = k) (hk0 : 0 < k) (hk1 : (k : Int) ≤ 3000) (m0 : 0 ≤ M) (m1 : M < 9007199254740992) :
    Calls Tryd.prog 63 #[partsV K n E M, .bool false] w fun r w' => r = .returned (.int .u64 (min (M / p2 k) 1099511627776)) ∧ Below w.heap.size w w' := by
  have hs := shr_min M k m0 (by omega)
  have hw : IntKind.i64.wrap (-E) = k := by rw [wrapi _ (by omega) (by omega)]; exact hk
  have hE : ¬ 0 ≤ E := by omega
  have hp := p2_pos k
  have q0 : 0 ≤ M / p2 k := Int.ediv_nonneg m0 (by omega)
  have q1 : M / p2 k ≤ M := Int.ediv_le_self _ m0
  have hkn : (0 : Int) ≤ k := by omega
  have ps1 := ps_fresh w K E M n
  have HB3 := hidden (((Below.refl w.heap.size w).alloc (Nat.le_refl _) (prt K n E M)))
  generalize M / p2 k = Q at *
  go_enter Tryd.func63, Tryd.ntmps63
  go_upto_region 1 with fail
  change Code.wp _ _ _ _ (w.alloc (prt K n E M))
  generalize w.alloc (prt K n E M) = w3 at *
  obtain ⟨f0, f1, f2, f3, v0, v1, v2, v3⟩ := ps1
  go_wp2
  go_ret
  exact ⟨rfl, HB3.out⟩
theorem pwpart_near0 (K E M : Int) (n : Bool) (k : Nat) (w : World) (hk : -E = k) (hk0 : 0 < k) (hk1 : (k : Int) ≤ 3000) (m0 : 0 ≤ M) (m1 : M < 9007199254740992) (hbit : M / p2 (k - 1) % 2 = 0) :
    Calls Tryd.prog 63 #[partsV K n E M, .bool true] w fun r w' => r = .returned (.int .u64 (min (M / p2 k) 1099511627776)) ∧ Below w.heap.size w w' := by
  have hs := shr_min M k m0 (by omega)
  have hw : IntKind.i64.wrap (-E) = k := by rw [wrapi _ (by omega) (by omega)]; exact hk
  have hE : ¬ 0 ≤ E := by omega
  have hp := p2_pos k
  have q0 : 0 ≤ M / p2 k := Int.ediv_nonneg m0 (by omega)
  have q1 : M / p2 k ≤ M := Int.ediv_le_self _ m0
  have hkn : (0 : Int) ≤ k := by omega
  have hs2 := shr_min M (k - 1) m0 (by omega)
  have hp1 := p2_pos (k - 1)
  have t0 : 0 ≤ M / p2 (k - 1) := Int.ediv_nonneg m0 (by omega)
  have t1 : M / p2 (k - 1) ≤ M := Int.ediv_le_self _ m0
  have hw2 : IntKind.i64.wrap ((k : Int) - 1) = ((k - 1 : Nat) : Int) := by rw [wrapi _ (by omega) (by omega)]; omega
  have hkn1 : (0 : Int) ≤ ((k - 1 : Nat) : Int) := by omega
  have hand : bits .and .u64 (M / p2 (k - 1)) 1 = M / p2 (k - 1) % 2 := and_low 1 _ t0 (by omega) (by decide)
  rw [hbit] at hand
  generalize M / p2 (k - 1) = H at *
  generalize k - 1 = k' at *
  have ps1 := ps_fresh w K E M n
  have HB3 := hidden (((Below.refl w.heap.size w).alloc (Nat.le_refl _) (prt K n E M)))
  generalize M / p2 k = Q at *
  go_enter Tryd.func63, Tryd.ntmps63
  go_upto_region 1 with fail
  change Code.wp _ _ _ _ (w.alloc (prt K n E M))
  generalize w.alloc (prt K n E M) = w3 at *
  obtain ⟨f0, f1, f2, f3, v0, v1, v2, v3⟩ := ps1
  go_wp2
  go_ret
  exact ⟨rfl, HB3.out⟩
theorem pwpart_near1 (K E M : Int) (n : Bool) (k : Nat) (w : World) (hk : -E = k) (hk0 : 0 < k) (hk1 : (k : Int) ≤ 3000) (m0 : 0 ≤ M) (m1 : M < 9007199254740992) (hbit : M / p2 (k - 1) % 2 = 1) :
    Calls Tryd.prog 63 #[partsV K n E M, .bool true] w fun r w' => r = .returned (.int .u64 (min (M / p2 k + 1) 1099511627776)) ∧ Below w.heap.size w w' := by
  have hs := shr_min M k m0 (by omega)
  have hw : IntKind.i64.wrap (-E) = k := by rw [wrapi _ (by omega) (by omega)]; exact hk
  have hE : ¬ 0 ≤ E := by omega
  have hp := p2_pos k
  have q0 : 0 ≤ M / p2 k := Int.ediv_nonneg m0 (by omega)
  have q1 : M / p2 k ≤ M := Int.ediv_le_self _ m0
  have hkn : (0 : Int) ≤ k := by omega
  have hs2 := shr_min M (k - 1) m0 (by omega)
  have hp1 := p2_pos (k - 1)
  have t0 : 0 ≤ M / p2 (k - 1) := Int.ediv_nonneg m0 (by omega)
  have t1 : M / p2 (k - 1) ≤ M := Int.ediv_le_self _ m0
  have hw2 : IntKind.i64.wrap ((k : Int) - 1) = ((k - 1 : Nat) : Int) := by rw [wrapi _ (by omega) (by omega)]; omega
  have hkn1 : (0 : Int) ≤ ((k - 1 : Nat) : Int) := by omega
  have hand : bits .and .u64 (M / p2 (k - 1)) 1 = M / p2 (k - 1) % 2 := and_low 1 _ t0 (by omega) (by decide)
  rw [hbit] at hand
  generalize M / p2 (k - 1) = H at *
  generalize k - 1 = k' at *
  have ps1 := ps_fresh w K E M n
  have HB3 := hidden (((Below.refl w.heap.size w).alloc (Nat.le_refl _) (prt K n E M)))
  generalize M / p2 k = Q at *
  go_enter Tryd.func63, Tryd.ntmps63
  go_upto_region 1 with fail
  change Code.wp _ _ _ _ (w.alloc (prt K n E M))
  generalize w.alloc (prt K n E M) = w3 at *
  obtain ⟨f0, f1, f2, f3, v0, v1, v2, v3⟩ := ps1
  go_wp2
  go_ret
  exact ⟨rfl, HB3.out⟩
theorem pwpart_big (K E M : Int) (n near : Bool) (w : World) (hE : 0 ≤ E) (hE1 : E ≤ 3000) (m0 : 0 ≤ M) (m1 : M < 9007199254740992) (hb : 64 < (bl M : Int) + E) :
    Calls Tryd.prog 63 #[partsV K n E M, .bool near] w fun r w' => r = .returned (.int .u64 1099511627776) ∧ Below w.heap.size w w' := by
  have HL := hidden (fun w => plen64 M w m0 (by omega))
  have hbl : (bl M : Int) ≤ 64 := by exact_mod_cast bl_64 M m0 (by omega)
  have ps1 := ps_fresh w K E M n
  have HB3 := hidden (((Below.refl w.heap.size w).alloc (Nat.le_refl _) (prt K n E M)))
  generalize (bl M : Int) = L at *
  go_enter Tryd.func63, Tryd.ntmps63
  go_upto_region 1 with fail
  change Code.wp _ _ _ _ (w.alloc (prt K n E M))
  generalize w.alloc (prt K n E M) = w3 at *
  obtain ⟨f0, f1, f2, f3, v0, v1, v2, v3⟩ := ps1
  go_upto_region 2 with fail
  go_quiet (exact Calls.quiet_of_same (HL.out _))
  go_wp2
  go_ret
  exact ⟨rfl, below_drewN HB3.out _⟩
theorem pwpart_up (K E M : Int) (n near : Bool) (k : Nat) (w : World) (hk : E = k) (hE1 : E ≤ 3000) (m0 : 0 < M) (m1 : M < 9007199254740992) (hb : (bl M : Int) + E ≤ 64) :
    Calls Tryd.prog 63 #[partsV K n E M, .bool near] w fun r w' => r = .returned (.int .u64 (min (M * p2 k) 1099511627776)) ∧ Below w.heap.size w w' := by
  subst hk
  have HL := hidden (fun w => plen64 M w (by omega) (by omega))
  obtain ⟨x, y, z⟩ := bl_bd M m0
  have hX : M * p2 k < 18446744073709551616 := by
    have h1 : M * p2 k < p2 (bl M) * p2 k := Int.mul_lt_mul_of_pos_right z (p2_pos k)
    rw [← p2_add] at h1
    have h2 : p2 (bl M + k) ≤ p2 64 := p2_mono (by omega)
    rw [p2_64] at h2
    omega
  have hX0 : 0 < M * p2 k := Int.mul_pos m0 (p2_pos k)
  have hmin : min k 64 = k := by omega
  have hs : IntKind.u64.wrap (M * 2 ^ k) = M * p2 k := by rw [IntKind.wrap_u64]; show M * p2 k % _ = _; omega
  have hs2 : IntKind.u64.wrap (M * 2 ^ min k 64) = M * p2 k := by rw [hmin]; exact hs
  have hkn : (0 : Int) ≤ k := by omega
  have hL0 : 0 ≤ (bl M : Int) := by omega
  clear x y z hX0 hmin
  have ps1 := ps_fresh w K (k : Int) M n
  have HB3 := hidden (((Below.refl w.heap.size w).alloc (Nat.le_refl _) (prt K n (k : Int) M)))
  generalize (bl M : Int) = L at *
  generalize M * p2 k = X at *
  go_enter Tryd.func63, Tryd.ntmps63
  go_upto_region 1 with fail
  change Code.wp _ _ _ _ (w.alloc (prt K n (k : Int) M))
  generalize w.alloc (prt K n (k : Int) M) = w3 at *
  obtain ⟨f0, f1, f2, f3, v0, v1, v2, v3⟩ := ps1
  go_upto_region 2 with fail
  go_quiet (exact Calls.quiet_of_same (HL.out _))
  go_wp2
  go_ret
  exact ⟨rfl, below_drewN HB3.out _⟩
end Go.Proofs.YthfjjkikeebopaaDoor
namespace Go.Proofs.YthfjjkikeebopaaDoor
open Go.RowKit
set_option maxRecDepth 100000
set_option maxHeartbeats 400000
set_option linter.unusedVariables false

theorem pwhole_err (m x a : Int) (near : Bool) (w : World)
    (HO : Hid (∀ w, Calls Tryd.prog 41 #[.agg #[.int .i64 m, .int .i64 x], .int .u64 a] w fun r w' => r = .returned (.tuple #[partsV 0 false 0 0, .int .i64 1]) ∧ Below w.heap.size w w')) :
    Calls Tryd.prog 45 #[.agg #[.int .i64 m, .int .i64 x], .int .u64 a, .bool near] w fun r w' => r = .returned (.tuple #[.int .u64 0, .bool false, .int .i64 1]) ∧ Below w.heap.size w w' := by
  go_enter Tryd.func45, Tryd.ntmps45
  go_wp2_with fail
  refine (HO.out _).mono ?_
  rintro r w1 ⟨rfl, hb1⟩
  have HB1 := hidden (box_below _ hb1)
  clear hb1
  go_wp2
  go_ret3
  exact ⟨rfl, HB1.out.alloc HB1.out.size _⟩
theorem pwhole_zero (m x : Nat) (a K E M : Int) (n near : Bool) (w : World)
    (HO : Hid (∀ w, Calls Tryd.prog 41 #[fmtV m x, .int .u64 a] w fun r w' => r = .returned (.tuple #[partsV K n E M, .int .i64 0]) ∧ Below w.heap.size w w'))
    (k1 : (K == 1) = true)
    : Calls Tryd.prog 45 #[fmtV m x, .int .u64 a, .bool near] w fun r w' => r = .returned (.tuple #[.int .u64 0, .bool n, .int .i64 0]) ∧ Below w.heap.size w w' := by
  go_enter Tryd.func45, Tryd.ntmps45
  go_wp2_with fail
  refine (HO.out _).mono ?_
  rintro r w1 ⟨rfl, hb1⟩
  obtain ⟨w5, hw5, hx, c0, c1, p0, p1, p2', p3⟩ := open_box m x K E M n w w1 hb1
  have HB := hidden hx
  clear hx hb1
  go_upto_region 2 with fail
  change Code.wp _ _ _ _ (w1.alloc (prt K n E M))
  rw [← hw5]
  clear hw5
  go_upto_region 5 with fail
  go_quiet (fail)
  go_wp2
  go_ret3
  exact ⟨rfl, below_drewN HB.out _⟩
theorem pwhole_inf (m x : Nat) (a K E M : Int) (n near : Bool) (w : World)
    (HO : Hid (∀ w, Calls Tryd.prog 41 #[fmtV m x, .int .u64 a] w fun r w' => r = .returned (.tuple #[partsV K n E M, .int .i64 0]) ∧ Below w.heap.size w w'))
    (k1 : (K == 1) = false)
    (k2 : (K != 2) = true)
    : Calls Tryd.prog 45 #[fmtV m x, .int .u64 a, .bool near] w fun r w' => r = .returned (.tuple #[.int .u64 1099511627776, .bool n, .int .i64 0]) ∧ Below w.heap.size w w' := by
  go_enter Tryd.func45, Tryd.ntmps45
  go_wp2_with fail
  refine (HO.out _).mono ?_
  rintro r w1 ⟨rfl, hb1⟩
  obtain ⟨w5, hw5, hx, c0, c1, p0, p1, p2', p3⟩ := open_box m x K E M n w w1 hb1
  have HB := hidden hx
  clear hx hb1
  go_upto_region 2 with fail
  change Code.wp _ _ _ _ (w1.alloc (prt K n E M))
  rw [← hw5]
  clear hw5
  go_upto_region 7 with fail
  go_quiet (fail)
  go_wp2
  go_ret3
  exact ⟨rfl, below_drewN HB.out _⟩
theorem pwhole_fin (m x : Nat) (a K E M R : Int) (n near : Bool) (w : World)
    (HO : Hid (∀ w, Calls Tryd.prog 41 #[fmtV m x, .int .u64 a] w fun r w' => r = .returned (.tuple #[partsV K n E M, .int .i64 0]) ∧ Below w.heap.size w w'))
    (HW : Hid (∀ w, Calls Tryd.prog 63 #[partsV K n E M, .bool near] w fun r w' => r = .returned (.int .u64 R) ∧ Below w.heap.size w w'))
    (k1 : (K == 1) = false)
    (k2 : (K != 2) = false)
    : Calls Tryd.prog 45 #[fmtV m x, .int .u64 a, .bool near] w fun r w' => r = .returned (.tuple #[.int .u64 R, .bool n, .int .i64 0]) ∧ Below w.heap.size w w' := by
  go_enter Tryd.func45, Tryd.ntmps45
  go_wp2_with fail
  refine (HO.out _).mono ?_
  rintro r w1 ⟨rfl, hb1⟩
  obtain ⟨w5, hw5, hx, c0, c1, p0, p1, p2', p3⟩ := open_box m x K E M n w w1 hb1
  have HB := hidden hx
  clear hx hb1
  go_upto_region 2 with fail
  change Code.wp _ _ _ _ (w1.alloc (prt K n E M))
  rw [← hw5]
  clear hw5
  go_upto_region 8 with fail
  go_region_held3 (fun w' => w'.cell? ⟨w1.heap.size, 0, none⟩ = some (.int .i64 K) ∧ w'.cell? ⟨w1.heap.size, 1, none⟩ = some (.bool n) ∧ w'.cell? ⟨w1.heap.size, 2, none⟩ = some (.int .i64 E) ∧ w'.cell? ⟨w1.heap.size, 3, none⟩ = some (.int .u64 M)) (go_keep) (first | (go_at_call 63; refine (HW.out _).mono ?_; rintro r w9 ⟨rfl, hb⟩; have p0 : w9.cell? ⟨w1.heap.size, 0, none⟩ = some (.int .i64 K) := cellLater hb (by go_keep); have p1 : w9.cell? ⟨w1.heap.size, 1, none⟩ = some (.bool n) := cellLater hb (by go_keep); have p2' : w9.cell? ⟨w1.heap.size, 2, none⟩ = some (.int .i64 E) := cellLater hb (by go_keep); have p3 : w9.cell? ⟨w1.heap.size, 3, none⟩ = some (.int .u64 M) := cellLater hb (by go_keep); have HB : Hid (Below w.heap.size w w9) := hidden (by first | exact HB.out.trans (hb.mono HB.out.size) | exact HB.out.drew.trans (hb.mono HB.out.drew.size)); clear hb))
  all_goals
    go_wp2
    go_ret3
    exact ⟨rfl, by first | exact HB.out | exact HB.out.drew⟩
end Go.Proofs.YthfjjkikeebopaaDoor
