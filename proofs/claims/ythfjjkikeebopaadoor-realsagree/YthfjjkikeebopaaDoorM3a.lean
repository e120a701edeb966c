/- Plain arithmetic for sums of patterns (no program in it): the nearest pattern to the exact sum, and that a summand far below has no part in it. -/
import Derived.Test.YthfjjkikeebopaaDoorK3
namespace Go.Proofs.YthfjjkikeebopaaDoor
open Go.RowKit
set_option maxHeartbeats 1000000
set_option linter.unusedVariables false

def sg (n : Bool) : Int := if n then -1 else 1
theorem sg_t : sg true = -1 := rfl
theorem sg_f : sg false = 1 := rfl
/-- the exact sum of two numbers, in units of the smaller power -/
def sumS (n1 : Bool) (E1 M1 : Int) (n2 : Bool) (E2 M2 : Int) : Int := sg n1 * (M1 * p2 (E1 - min E1 E2).toNat) + sg n2 * (M2 * p2 (E2 - min E1 E2).toNat)
def absI (S : Int) : Int := if S < 0 then -S else S
/-- the nearest pattern to the sum -/
def sumI (m x : Nat) (n1 : Bool) (E1 M1 : Int) (n2 : Bool) (E2 M2 : Int) : Int := packP m x (absI (sumS n1 E1 M1 n2 E2 M2)) (min E1 E2) false + sgnW (decide (sumS n1 E1 M1 n2 E2 M2 < 0)) (m + x)
theorem sumS_comm (n1 n2 : Bool) (E1 M1 E2 M2 : Int) : sumS n1 E1 M1 n2 E2 M2 = sumS n2 E2 M2 n1 E1 M1 := by
  unfold sumS
  rw [Int.min_comm E2 E1, Int.add_comm]
theorem sumI_comm (m x : Nat) (n1 n2 : Bool) (E1 M1 E2 M2 : Int) : sumI m x n1 E1 M1 n2 E2 M2 = sumI m x n2 E2 M2 n1 E1 M1 := by
  unfold sumI
  rw [sumS_comm, Int.min_comm]
theorem p2_0 : p2 0 = 1 := rfl
theorem sumS_ord (n1 n2 : Bool) (E1 M1 E2 M2 : Int) (k : Nat) (hk : E1 - E2 = k) : sumS n1 E1 M1 n2 E2 M2 = sg n1 * (M1 * p2 k) + sg n2 * M2 := by
  unfold sumS
  rw [Int.min_eq_right (by omega), hk, show (E2 - E2).toNat = 0 by omega, p2_0, Int.mul_one]
  rfl
/-- of the same sign -/
theorem sum_same (m x : Nat) (n : Bool) (E1 M1 E2 M2 : Int) (k : Nat) (hk : E1 - E2 = k) (h1 : 0 < M1) (h2 : 0 < M2) : sumI m x n E1 M1 n E2 M2 = packP m x (M1 * p2 k + M2) E2 false + sgnW n (m + x) := by
  unfold sumI
  rw [sumS_ord n n E1 M1 E2 M2 k hk, Int.min_eq_right (by omega)]
  have hX : 0 < M1 * p2 k := Int.mul_pos h1 (p2_pos k)
  generalize M1 * p2 k = X at *
  unfold absI
  cases n
  · rw [sg_f, if_neg (by omega), decide_eq_false (by omega), show 1 * X + 1 * M2 = X + M2 by omega]
  · rw [sg_t, if_pos (by omega), decide_eq_true (by omega), show -(-1 * X + -1 * M2) = X + M2 by omega]
/-- of unlike signs, the greater first -/
theorem sum_diff (m x : Nat) (n : Bool) (E1 M1 E2 M2 : Int) (k : Nat) (hk : E1 - E2 = k) (h1 : M2 ≤ M1 * p2 k) : sumI m x n E1 M1 (!n) E2 M2 = packP m x (M1 * p2 k - M2) E2 false + sgnW (n && decide (M1 * p2 k - M2 ≠ 0)) (m + x) := by
  unfold sumI
  rw [sumS_ord n (!n) E1 M1 E2 M2 k hk, Int.min_eq_right (by omega)]
  generalize M1 * p2 k = X at *
  unfold absI
  cases n
  · simp only [Bool.not_false, Bool.false_and]
    rw [sg_f, sg_t, if_neg (by omega), decide_eq_false (by omega), show 1 * X + -1 * M2 = X - M2 by omega]
  · simp only [Bool.not_true, Bool.true_and]
    rw [sg_f, sg_t]
    by_cases h : X = M2
    · rw [if_neg (by omega), decide_eq_false (show ¬ (-1 * X + 1 * M2 < 0) by omega), decide_eq_false (show ¬ (X - M2 ≠ 0) by omega), show -1 * X + 1 * M2 = X - M2 by omega]
    · rw [if_pos (by omega), decide_eq_true (show -1 * X + 1 * M2 < 0 by omega), decide_eq_true (show X - M2 ≠ 0 by omega), show -(-1 * X + 1 * M2) = X - M2 by omega]
theorem pack_norm (m x : Nat) (E M : Int) (hx : 2 ≤ x) (h : FinP m x E M) (hM : p2 m ≤ M) : packP m x M E false = (E - least m x) * p2 m + M := by
  obtain ⟨h0, h1, h2, h3, _⟩ := h
  rw [p2_succ] at h1
  have hb := bias_two x hx
  have h := pack_fin m x (E + bias x + m) (M - p2 m) (by unfold least at h2; omega) (by omega) (by omega) (by omega) hx
  rw [show p2 m + (M - p2 m) = M by omega, show E + bias x + m - bias x - m = E by omega] at h
  rw [h]
  unfold least
  rw [show E + bias x + m = (E - (1 - bias x - m)) + 1 by omega, Int.add_mul, Int.one_mul]
  omega
theorem far_plus (m x : Nat) (E1 M1 E2 M2 : Int) (k : Nat) (hm : m ≤ 52) (hx : 2 ≤ x) (hk : E1 - E2 = k) (h63 : 63 < k) (h1 : FinP m x E1 M1) (h2 : FinP m x E2 M2) :
    packP m x (M1 * p2 k + M2) E2 false = packP m x M1 E1 false := by
  have hM : p2 m ≤ M1 := by
    rcases h1.2.2.2.2 with h | h
    · exact h
    · have := h2.2.2.1; omega
  rw [pack_norm m x E1 M1 hx h1 hM]
  obtain ⟨a0, a1, a2, a3, _⟩ := h1
  obtain ⟨b0, b1, b2, b3, _⟩ := h2
  have hp1 : p2 k = 2 * p2 (k - 1) := by rw [← p2_succ]; congr 1; omega
  have hq := p2_pos (k - 1)
  have hM2 : M2 < p2 (k - 1) := Int.lt_of_lt_of_le b1 (p2_mono (by omega))
  have hlo : p2 m * p2 k ≤ M1 * p2 k := Int.mul_le_mul_of_nonneg_right hM (by omega)
  have hhi : (M1 + 1) * p2 k ≤ p2 (m + 1) * p2 k := Int.mul_le_mul_of_nonneg_right (by omega) (by omega)
  rw [Int.add_mul, Int.one_mul] at hhi
  rw [← p2_add] at hlo hhi
  have hbl : bl (M1 * p2 k + M2) = m + k + 1 := bl_of (.inr ⟨by omega, by rw [show m + k + 1 - 1 = m + k by omega]; omega, by rw [show m + k + 1 = m + 1 + k by omega]; omega⟩)
  have hU : unitI m x (m + k + 1) E2 = E1 := by unfold unitI; omega
  rw [packP_pos _ _ _ _ _ (by have := p2_pos (m + k); omega), hbl, hU, if_neg (by omega)]
  have hd : (M1 * p2 k + M2) / p2 (k - 1) = 2 * M1 := by
    rw [hp1, ← Int.mul_assoc, Int.mul_comm M1 2, Int.add_comm, Int.add_mul_ediv_right _ _ (by omega), Int.ediv_eq_zero_of_lt (by omega) hM2, Int.zero_add]
  unfold unitsI
  rw [if_neg (by omega), hk, show ((k : Int)).toNat = k by omega]
  unfold rnd
  rw [hd, if_neg (by omega)]
  omega
theorem far_minus (m x : Nat) (E1 M1 E2 M2 : Int) (k : Nat) (hm : m ≤ 52) (hx : 2 ≤ x) (hk : E1 - E2 = k) (h63 : 63 < k) (h1 : FinP m x E1 M1) (h2 : FinP m x E2 M2) :
    packP m x (M1 * p2 k - M2) E2 false = packP m x M1 E1 false := by
  have hM : p2 m ≤ M1 := by
    rcases h1.2.2.2.2 with h | h
    · exact h
    · have := h2.2.2.1; omega
  rw [pack_norm m x E1 M1 hx h1 hM]
  obtain ⟨a0, a1, a2, a3, _⟩ := h1
  obtain ⟨b0, b1, b2, b3, _⟩ := h2
  have hp1 : p2 k = 2 * p2 (k - 1) := by rw [← p2_succ]; congr 1; omega
  have hp2 : p2 (k - 1) = 2 * p2 (k - 2) := by rw [← p2_succ]; congr 1; omega
  have hq := p2_pos (k - 2)
  have hM2 : M2 < p2 (k - 2) := Int.lt_of_lt_of_le b1 (p2_mono (by omega))
  have hlo : p2 m * p2 k ≤ M1 * p2 k := Int.mul_le_mul_of_nonneg_right hM (by omega)
  have hhi : M1 * p2 k ≤ p2 (m + 1) * p2 k := Int.mul_le_mul_of_nonneg_right (by omega) (by omega)
  rw [← p2_add] at hlo hhi
  rcases Int.lt_or_le (p2 m) M1 with hgt | hle
  · have hlo2 : (p2 m + 1) * p2 k ≤ M1 * p2 k := Int.mul_le_mul_of_nonneg_right (by omega) (by omega)
    rw [Int.add_mul, Int.one_mul, ← p2_add] at hlo2
    have hbl : bl (M1 * p2 k - M2) = m + k + 1 := bl_of (.inr ⟨by omega, by rw [show m + k + 1 - 1 = m + k by omega]; omega, by rw [show m + k + 1 = m + 1 + k by omega]; omega⟩)
    have hU : unitI m x (m + k + 1) E2 = E1 := by unfold unitI; omega
    rw [packP_pos _ _ _ _ _ (by have := p2_pos (m + k); omega), hbl, hU, if_neg (by omega)]
    have e1 : M1 * p2 k - M2 = (p2 (k - 1) - M2) + (2 * M1 - 1) * p2 (k - 1) := by
      rw [hp1, ← Int.mul_assoc, Int.mul_comm M1 2, Int.sub_mul]; omega
    have hd : (M1 * p2 k - M2) / p2 (k - 1) = 2 * M1 - 1 := by
      rw [e1, Int.add_mul_ediv_right _ _ (by omega), Int.ediv_eq_zero_of_lt (by omega) (by omega), Int.zero_add]
    have hr : (M1 * p2 k - M2) % p2 (k - 1) = p2 (k - 1) - M2 := by
      rw [e1, Int.add_mul_emod_self_right, Int.emod_eq_of_lt (by omega) (by omega)]
    unfold unitsI
    rw [if_neg (by omega), hk, show ((k : Int)).toNat = k by omega]
    unfold rnd
    rw [hd, hr, if_pos ⟨by omega, .inr (.inl (by omega))⟩]
    omega
  · obtain rfl : M1 = p2 m := by omega
    rw [← p2_add] at *
    have hb2 : p2 (m + k) = 2 * p2 (m + k - 1) := by rw [← p2_succ]; congr 1; omega
    have hb3 : p2 (k - 1) ≤ p2 (m + k - 1) := p2_mono (by omega)
    have hbl : bl (p2 (m + k) - M2) = m + k := bl_of (.inr ⟨by omega, by omega, by omega⟩)
    have hU : unitI m x (m + k) E2 = E1 - 1 := by unfold unitI; omega
    rw [packP_pos _ _ _ _ _ (by omega), hbl, hU, if_neg (by omega)]
    have e1 : p2 (m + k) - M2 = (p2 (k - 2) - M2) + (4 * p2 m - 1) * p2 (k - 2) := by
      rw [p2_add, hp1, hp2, Int.sub_mul, Int.mul_left_comm, Int.mul_left_comm (p2 m) 2, Int.mul_assoc 4]; omega
    have hd : (p2 (m + k) - M2) / p2 (k - 2) = 4 * p2 m - 1 := by
      rw [e1, Int.add_mul_ediv_right _ _ (by omega), Int.ediv_eq_zero_of_lt (by omega) (by omega), Int.zero_add]
    have hr : (p2 (m + k) - M2) % p2 (k - 2) = p2 (k - 2) - M2 := by
      rw [e1, Int.add_mul_emod_self_right, Int.emod_eq_of_lt (by omega) (by omega)]
    unfold unitsI
    rw [if_neg (by omega), show (E1 - 1 - E2).toNat = k - 1 by omega]
    unfold rnd
    rw [show k - 1 - 1 = k - 2 by omega, hd, hr, if_pos ⟨by omega, .inr (.inl (by omega))⟩, Int.sub_mul, Int.sub_mul, Int.sub_mul]
    omega
/-- the greater number first: no less than the other one -/
theorem ord_le (m x : Nat) (E1 M1 E2 M2 : Int) (k : Nat) (hk : E1 - E2 = k) (h1 : FinP m x E1 M1) (h2 : FinP m x E2 M2) (ho : ¬ (E1 < E2 ∨ (E1 = E2 ∧ M1 < M2))) : M2 ≤ M1 * p2 k := by
  rcases Nat.eq_zero_or_pos k with rfl | hk0
  · rw [p2_0]; omega
  · have hM : p2 m ≤ M1 := by
      rcases h1.2.2.2.2 with h | h
      · exact h
      · have := h2.2.2.1; omega
    have h3 : p2 m * p2 1 ≤ M1 * p2 k := Int.mul_le_mul hM (p2_mono hk0) (Int.le_of_lt (p2_pos _)) (by have := h1.1; omega)
    rw [← p2_add] at h3
    have := h2.2.1
    omega
end Go.Proofs.YthfjjkikeebopaaDoor
