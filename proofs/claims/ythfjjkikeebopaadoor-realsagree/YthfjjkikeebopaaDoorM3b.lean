/- Plain arithmetic for quotients, roots and products of patterns (no program in it). -/
import Derived.Test.YthfjjkikeebopaaDoorM3a
namespace Go.Proofs.YthfjjkikeebopaaDoor
open Go.RowKit
set_option maxHeartbeats 1000000
set_option linter.unusedVariables false

/-- a word shifted up until its highest bit is set -/
theorem up_full (M : Int) (h0 : 0 < M) (h1 : M < 18446744073709551616) (u : Nat) (hu : u = 64 - bl M) : bl M ≤ 64 ∧ 9223372036854775808 ≤ M * p2 u ∧ M * p2 u < 18446744073709551616 := by
  have hb : bl M ≤ 64 := bl_le (Int.le_of_lt h0) (by rw [p2_64]; exact h1)
  obtain ⟨a, b, c⟩ := bl_bd M h0
  have hp := p2_pos u
  refine ⟨hb, ?_, ?_⟩
  · have h2 : p2 (bl M - 1) * p2 u ≤ M * p2 u := Int.mul_le_mul_of_nonneg_right b (Int.le_of_lt hp)
    rw [← p2_add, show bl M - 1 + u = 63 by omega, p2_63] at h2
    exact h2
  · have h2 : M * p2 u < p2 (bl M) * p2 u := Int.mul_lt_mul_of_pos_right c hp
    rw [← p2_add, show bl M + u = 64 by omega, p2_64] at h2
    exact h2
/-- the quotient's digits: at least 63 bits -/
theorem quo_bits (X Y : Int) (hX : 9223372036854775808 ≤ X) (hX1 : X < 18446744073709551616) (hY : 9223372036854775808 ≤ Y) (hY1 : Y < 18446744073709551616) :
    4611686018427387904 ≤ X * 9223372036854775808 / Y ∧ X * 9223372036854775808 / Y < 18446744073709551616 := by
  constructor
  · refine Int.le_ediv_of_mul_le (by omega) ?_
    omega
  · refine Int.ediv_lt_of_lt_mul (by omega) ?_
    omega
/-- P is the nearest to a quotient whose digits and power are told: what near_pack_gen asks -/
theorem quo_near (M1 M2 E1 E2 : Int) (u1 u2 : Nat) (Q e : Int) (h1 : 0 < M1) (h2 : 0 < M2) (he : e = (E1 - u1) - (E2 - u2) - 63) (hQ : Q = M1 * p2 u1 * 9223372036854775808 / (M2 * p2 u2)) :
    Q * (M2 * p2 (e - (E1 - E2)).toNat) ≤ M1 * p2 ((E1 - E2) - e).toNat ∧ M1 * p2 ((E1 - E2) - e).toNat < (Q + 1) * (M2 * p2 (e - (E1 - E2)).toNat) ∧
    (M1 * p2 u1 * 9223372036854775808 % (M2 * p2 u2) = 0 ↔ M1 * p2 ((E1 - E2) - e).toNat = Q * (M2 * p2 (e - (E1 - E2)).toNat)) := by
  have hp1 := p2_pos u1
  have hp2 := p2_pos u2
  have hY : 0 < M2 * p2 u2 := Int.mul_pos h2 hp2
  have hA := Int.mul_ediv_add_emod (M1 * p2 u1 * 9223372036854775808) (M2 * p2 u2)
  have hr0 := Int.emod_nonneg (M1 * p2 u1 * 9223372036854775808) (show M2 * p2 u2 ≠ 0 by omega)
  have hr1 := Int.emod_lt_of_pos (M1 * p2 u1 * 9223372036854775808) hY
  rw [← hQ] at hA
  -- all in units in which both powers are whole
  have key : ∀ (α β : Nat) , (α : Int) - β = (u1 : Int) + 63 - u2 → M1 * p2 α * p2 u2 = M1 * p2 u1 * 9223372036854775808 * p2 β := by
    intro α β hab
    rw [← p2_63, Int.mul_assoc, ← p2_add, Int.mul_assoc M1, ← p2_add, Int.mul_assoc M1, ← p2_add]
    congr 2
    omega
  generalize hα : ((E1 - E2) - e).toNat = α at *
  generalize hβ : (e - (E1 - E2)).toNat = β at *
  have hk := key α β (by omega)
  have hpβ := p2_pos β
  generalize hR : M1 * p2 u1 * 9223372036854775808 % (M2 * p2 u2) = R at *
  have hS : M1 * p2 α * p2 u2 = (Q * (M2 * p2 β)) * p2 u2 + R * p2 β := by
    rw [hk, ← hA, Int.add_mul]
    congr 1
    rw [Int.mul_comm (M2 * p2 u2) Q, Int.mul_assoc Q, Int.mul_assoc Q, Int.mul_assoc M2, Int.mul_assoc M2, Int.mul_comm (p2 u2)]
  have hRb : R * p2 β < (M2 * p2 β) * p2 u2 := by
    have : R * p2 β < (M2 * p2 u2) * p2 β := Int.mul_lt_mul_of_pos_right hr1 hpβ
    rw [Int.mul_right_comm] at this
    exact this
  have hR0 : 0 ≤ R * p2 β := Int.mul_nonneg hr0 (Int.le_of_lt hpβ)
  generalize hT : M2 * p2 β = T at *
  refine ⟨?_, ?_, ?_⟩
  · refine Int.le_of_mul_le_mul_right ?_ hp2
    omega
  · refine Int.lt_of_mul_lt_mul_right ?_ (Int.le_of_lt hp2)
    rw [Int.add_mul, Int.one_mul, Int.add_mul]
    omega
  · constructor
    · intro h0
      rw [h0, Int.zero_mul, Int.add_zero] at hS
      exact Int.eq_of_mul_eq_mul_right (by omega) hS
    · intro h0
      rw [h0] at hS
      have : R * p2 β = 0 := by omega
      rcases Int.mul_eq_zero.1 this with h | h
      · exact h
      · omega
/-- the nearest pattern to a quotient, as the program reckons it -/
def quoE (E1 M1 E2 M2 : Int) : Int := (E1 - ((64 - bl M1 : Nat) : Int)) - (E2 - ((64 - bl M2 : Nat) : Int)) - 63
def quoQ (M1 M2 : Int) : Int := M1 * p2 (64 - bl M1) * 9223372036854775808 / (M2 * p2 (64 - bl M2))
def quoR (M1 M2 : Int) : Int := M1 * p2 (64 - bl M1) * 9223372036854775808 % (M2 * p2 (64 - bl M2))
def divI (m x : Nat) (E1 M1 E2 M2 : Int) : Int := packP m x (quoQ M1 M2) (quoE E1 M1 E2 M2) (decide (quoR M1 M2 ≠ 0))
theorem quoQ_bd (M1 M2 : Int) (h1 : 0 < M1) (h2 : M1 < 18446744073709551616) (h3 : 0 < M2) (h4 : M2 < 18446744073709551616) : 4611686018427387904 ≤ quoQ M1 M2 ∧ quoQ M1 M2 < 18446744073709551616 := by
  obtain ⟨_, a, b⟩ := up_full M1 h1 h2 _ rfl
  obtain ⟨_, c, d⟩ := up_full M2 h3 h4 _ rfl
  exact quo_bits _ _ a b c d
theorem quoQ_bl (M1 M2 : Int) (h1 : 0 < M1) (h2 : M1 < 18446744073709551616) (h3 : 0 < M2) (h4 : M2 < 18446744073709551616) : 63 ≤ bl (quoQ M1 M2) := by
  have h := (quoQ_bd M1 M2 h1 h2 h3 h4).1
  have : p2 62 = 4611686018427387904 := by decide +kernel
  have h5 := lt_bl (N := quoQ M1 M2) (k := 62) (by omega)
  omega
end Go.Proofs.YthfjjkikeebopaaDoor
