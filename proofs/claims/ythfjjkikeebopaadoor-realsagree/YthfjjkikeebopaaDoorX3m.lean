/- Plain arithmetic on a pattern's highest bit (no program in it): turned, masked. -/
import Derived.Test.YthfjjkikeebopaaDoorK3
import Derived.Test.YthfjjkikeebopaaDoorT3
namespace Go.Proofs.YthfjjkikeebopaaDoor
open Go.RowKit
set_option maxHeartbeats 400000
set_option linter.unusedVariables false

theorem nat_p2 (k : Nat) : (p2 k).toNat = 2 ^ k := by rw [p2_nat]; exact Int.toNat_natCast _
theorem nat_xor_low (k a : Nat) (h : a < 2 ^ k) : a ^^^ 2 ^ k = a + 2 ^ k := by
  have hh := Nat.two_pow_add_eq_or_of_lt h 1
  rw [Nat.mul_one] at hh
  have h1 : a ||| 2 ^ k = 2 ^ k + a := by rw [Nat.or_comm]; exact hh.symm
  have h2 : a ^^^ 2 ^ k = a ||| 2 ^ k := by
    apply Nat.eq_of_testBit_eq; intro j
    rw [Nat.testBit_xor, Nat.testBit_or, Nat.testBit_two_pow]
    by_cases hj : k = j
    · subst hj; rw [Nat.testBit_lt_two_pow h]; simp
    · simp [hj]
  omega
theorem nat_xor_high (k a : Nat) (h0 : 2 ^ k ≤ a) (h : a < 2 ^ (k + 1)) : a ^^^ 2 ^ k = a - 2 ^ k := by
  have h1 := nat_xor_low k (a - 2 ^ k) (by rw [Nat.pow_succ] at h; omega)
  have h2 : a = (a - 2 ^ k) ^^^ 2 ^ k := by omega
  have h3 : a ^^^ 2 ^ k = ((a - 2 ^ k) ^^^ 2 ^ k) ^^^ 2 ^ k := by rw [← h2]
  rw [h3, Nat.xor_assoc, Nat.xor_self, Nat.xor_zero]
theorem xor_top (k : Nat) (a : Int) (hk : k ≤ 63) (a0 : 0 ≤ a) (a1 : a < p2 (k + 1)) (a2 : a < 18446744073709551616) : bits .xor .u64 a (p2 k) = turnI k a := by
  have hp := p2_pos k
  rw [u64_xor a (p2 k) a0 a2 (by omega) (p2_lt64 hk), nat_p2]
  have e := p2_nat k
  have e1 := p2_nat (k + 1)
  unfold turnI
  split
  · rw [nat_xor_high k a.toNat (by omega) (by omega)]; omega
  · rw [nat_xor_low k a.toNat (by omega)]; omega
theorem xor_big (k : Nat) (a : Int) (hk : k ≤ 63) (a0 : 0 ≤ a) (a1 : p2 (k + 1) ≤ a) (a2 : a < 18446744073709551616) : p2 (k + 1) ≤ bits .xor .u64 a (p2 k) := by
  have hp := p2_pos k
  rw [u64_xor a (p2 k) a0 a2 (by omega) (p2_lt64 hk), nat_p2]
  have e := p2_nat k
  have e1 := p2_nat (k + 1)
  have hA : 2 ^ (k + 1) ≤ a.toNat := by omega
  obtain ⟨j, hj, hb⟩ := Nat.exists_ge_and_testBit_of_ge_two_pow hA
  have hx : (a.toNat ^^^ 2 ^ k).testBit j = true := by
    rw [Nat.testBit_xor, hb, Nat.testBit_two_pow]
    simp; omega
  have h2 := Nat.ge_two_pow_of_testBit hx
  have h3 : 2 ^ (k + 1) ≤ 2 ^ j := Nat.pow_le_pow_right (by decide) hj
  omega
theorem andnot_top (k : Nat) (a : Int) (hk : k ≤ 63) (a0 : 0 ≤ a) (a1 : a < p2 (k + 1)) (a2 : a < 18446744073709551616) : bits .andNot .u64 a (p2 k) = a % p2 k := by
  have hp := p2_pos k
  rw [u64_andNot a (p2 k) a0 a2 (by omega) (p2_lt64 hk), nat_p2]
  have e := p2_nat k
  have e1 := p2_nat (k + 1)
  have hk64 : 2 ^ k < 2 ^ 64 := Nat.pow_lt_pow_right (by decide) (by omega)
  have h : a.toNat &&& (18446744073709551615 - 2 ^ k) = a.toNat % 2 ^ k := by
    apply Nat.eq_of_testBit_eq; intro j
    rw [Nat.testBit_and, Nat.testBit_mod_two_pow, show 18446744073709551615 - 2 ^ k = 2 ^ 64 - (2 ^ k + 1) by omega, Nat.testBit_two_pow_sub_succ hk64, Nat.testBit_two_pow]
    by_cases h1 : j < k
    · have : j < 64 := by omega
      have : ¬ k = j := by omega
      simp [*]
    · by_cases h2 : k = j
      · simp [h2]
      · have h3 : a.toNat.testBit j = false := Nat.testBit_lt_two_pow (Nat.lt_of_lt_of_le (show a.toNat < 2 ^ (k + 1) by omega) (Nat.pow_le_pow_right (by decide) (by omega)))
        simp [h3]
  rw [h, Int.natCast_emod, Int.toNat_of_nonneg a0, ← p2_nat]
theorem andtop (k : Nat) (a : Int) (hk : k ≤ 63) (a0 : 0 ≤ a) (a1 : a < p2 (k + 1)) (a2 : a < 18446744073709551616) : bits .and .u64 a (p2 k) = if p2 k ≤ a then p2 k else 0 := by
  have hp := p2_pos k
  rw [p2_succ] at a1
  rw [and_bit k a a0 a2 hk]
  split
  · have : a / p2 k = 1 := by
      have h1 : 1 ≤ a / p2 k := Int.le_ediv_of_mul_le hp (by omega)
      have h2 : a / p2 k < 2 := Int.ediv_lt_of_lt_mul hp (by omega)
      omega
    rw [this]; omega
  · rw [Int.ediv_eq_zero_of_lt a0 (by omega)]; omega
/-- patterns of a format -/
theorem pat_lt (m e : Nat) (x : Int) (x0 : 0 ≤ x) (h : bl x ≤ 1 + e + m) : x < p2 (m + e + 1) := by
  rcases Int.lt_or_le 0 x with h1 | h1
  · exact Int.lt_of_lt_of_le (bl_bd x h1).2.2 (p2_mono (by omega))
  · have := p2_pos (m + e + 1); omega
theorem bl_of_lt (m e : Nat) (x : Int) (x0 : 0 ≤ x) (h : x < p2 (m + e + 1)) : bl x ≤ 1 + e + m := by
  have := bl_le x0 h
  omega
end Go.Proofs.YthfjjkikeebopaaDoor
