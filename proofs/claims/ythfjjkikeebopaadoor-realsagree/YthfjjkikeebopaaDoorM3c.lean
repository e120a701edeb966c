/- Plain arithmetic for roots (no program in it): the root bit by bit. -/
import Derived.Test.YthfjjkikeebopaaDoorM3b
namespace Go.Proofs.YthfjjkikeebopaaDoor
open Go.RowKit
set_option maxHeartbeats 400000
set_option linter.unusedVariables false

/-- R is the root of N, downwards -/
def IsRoot (N R : Int) : Prop := 0 ≤ R ∧ R * R ≤ N ∧ N < (R + 1) * (R + 1)
theorem sq_lt {a b : Int} (h0 : 0 ≤ b) (h : a * a < b * b) : a < b := by
  rcases Int.lt_or_le a b with h1 | h1
  · exact h1
  · have := Int.mul_le_mul h1 h1 h0 (by omega)
    omega
theorem sq_le {a b : Int} (h0 : 0 ≤ a) (h : a ≤ b) : a * a ≤ b * b := Int.mul_le_mul h h h0 (by omega)
theorem IsRoot.uniq {N R S : Int} (h : IsRoot N R) (k : IsRoot N S) : R = S := by
  obtain ⟨a, b, c⟩ := h
  obtain ⟨d, e, f⟩ := k
  have h1 : R < S + 1 := sq_lt (by omega) (by omega)
  have h2 : S < R + 1 := sq_lt (by omega) (by omega)
  omega
/-- ahead of bit j: the root's bits from j on are known -/
def RootAt (N R : Int) (j : Nat) : Prop := 0 ≤ R ∧ R % p2 j = 0 ∧ R * R ≤ N ∧ N < (R + p2 j) * (R + p2 j)
theorem RootAt.yes {N R : Int} {j : Nat} (h : RootAt N R (j + 1)) (hc : (R + p2 j) * (R + p2 j) ≤ N) : RootAt N (R + p2 j) j := by
  obtain ⟨a, b, c, d⟩ := h
  have hp := p2_pos j
  rw [p2_succ] at b d
  refine ⟨by omega, ?_, hc, ?_⟩
  · have e := Int.mul_ediv_add_emod R (2 * p2 j)
    rw [b, Int.add_zero, Int.mul_comm 2, Int.mul_assoc] at e
    have e2 : R + p2 j = p2 j * (2 * (R / (p2 j * 2)) + 1) := by rw [Int.mul_add, Int.mul_one, e]
    rw [e2]
    exact Int.mul_emod_right _ _
  · rw [Int.add_assoc, show p2 j + p2 j = 2 * p2 j by omega]; exact d
theorem RootAt.no {N R : Int} {j : Nat} (h : RootAt N R (j + 1)) (hc : ¬ (R + p2 j) * (R + p2 j) ≤ N) : RootAt N R j := by
  obtain ⟨a, b, c, d⟩ := h
  rw [p2_succ] at b
  refine ⟨a, ?_, c, by omega⟩
  have e := Int.mul_ediv_add_emod R (2 * p2 j)
  rw [b, Int.add_zero, Int.mul_comm 2, Int.mul_assoc] at e
  rw [← e]
  exact Int.mul_emod_right _ _
theorem RootAt.done {N R : Int} (h : RootAt N R 0) : IsRoot N R := ⟨h.1, h.2.2.1, by have := h.2.2.2; rw [p2_0] at this; exact this⟩
theorem RootAt.bd {S R : Int} {j : Nat} (h : RootAt (S * 18446744073709551616) R j) (h1 : S < 18446744073709551616) : R < 18446744073709551616 := by
  refine sq_lt (by omega) ?_
  have := h.2.2.1
  omega
theorem RootAt.step_bd {S R : Int} {j : Nat} (h : RootAt (S * 18446744073709551616) R (j + 1)) (h1 : S < 18446744073709551616) (hj : j ≤ 63) : R + p2 j ≤ 18446744073709551615 := by
  have hb := h.bd h1
  obtain ⟨a, b, c, d⟩ := h
  have hp := p2_pos j
  have e := Int.mul_ediv_add_emod R (p2 (j + 1))
  rw [b, Int.add_zero] at e
  have hs : p2 (j + 1) * p2 (63 - j) = 18446744073709551616 := by rw [← p2_add, show j + 1 + (63 - j) = 64 by omega, p2_64]
  have hp1 := p2_pos (j + 1)
  have hlt : R / p2 (j + 1) < p2 (63 - j) := Int.ediv_lt_of_lt_mul hp1 (by rw [Int.mul_comm]; omega)
  have h2 : p2 (j + 1) * (R / p2 (j + 1) + 1) ≤ p2 (j + 1) * p2 (63 - j) := Int.mul_le_mul_of_nonneg_left (by omega) (by omega)
  rw [Int.mul_add, Int.mul_one, hs, e] at h2
  rw [p2_succ] at h2
  omega
theorem root_start (S : Int) (h0 : 0 ≤ S) (h1 : S < 18446744073709551616) : RootAt (S * 18446744073709551616) 0 64 := by
  refine ⟨by omega, Int.zero_emod _, by omega, ?_⟩
  rw [p2_64]
  omega
/-- the words of a product against a word and nothing -/
theorem sq_words (P S : Int) (h0 : 0 ≤ P) : (P / 18446744073709551616 < S ∨ (P / 18446744073709551616 = S ∧ P % 18446744073709551616 = 0)) ↔ P ≤ S * 18446744073709551616 := by
  constructor <;> intro h <;> omega
theorem sq_words_eq (P S : Int) (h0 : 0 ≤ P) : (P / 18446744073709551616 ≠ S ∨ P % 18446744073709551616 ≠ 0) ↔ P ≠ S * 18446744073709551616 := by
  constructor <;> intro h <;> omega
/-- how far a word goes up so that its power is even -/
def upE (E M : Int) : Nat := if (E - ((64 - bl M : Nat) : Int)) % 2 = 0 then 64 - bl M else 64 - bl M - 1
theorem upE_ok (E M : Int) (h0 : 0 < M) (h1 : M < 9223372036854775808) : (E - (upE E M : Int)) % 2 = 0 ∧ (upE E M : Int) ≤ 64 ∧ 4611686018427387904 ≤ M * p2 (upE E M) ∧ M * p2 (upE E M) < 18446744073709551616 := by
  obtain ⟨a, b, c⟩ := up_full M h0 (by omega) _ rfl
  have hb : bl M ≤ 63 := bl_le (Int.le_of_lt h0) (by rw [p2_63]; exact h1)
  unfold upE
  split
  · exact ⟨by assumption, by omega, by omega, c⟩
  · have e : M * p2 (64 - bl M) = 2 * (M * p2 (64 - bl M - 1)) := by
      rw [show 64 - bl M = 64 - bl M - 1 + 1 by omega, p2_succ, Int.mul_left_comm]
      simp
    exact ⟨by omega, by omega, by omega, by omega⟩
/-- the root's digits, and whether it is more -/
def rootS (E M : Int) : Int := M * p2 (upE E M)
def rootE (E M : Int) : Int := (E - (upE E M : Int) - 64) / 2
/-- the whole quotient's digits, as functions -/
def wqQ (a b : Int) (n : Nat) : Int := a * p2 n / b
def wqS (a b : Int) (n : Nat) : Nat := bl (wqQ a b n) - 64
/-- the times have at most 64 bits, and just 64 where some are cut off -/
theorem wq_top (a b : Int) (n : Nat) (hQ : 0 ≤ wqQ a b n) : wqQ a b n / p2 (wqS a b n) ≤ 18446744073709551615 ∧ (wqQ a b n % p2 (wqS a b n) ≠ 0 → bl (wqQ a b n / p2 (wqS a b n)) = 64) := by
  have hp := p2_pos (wqS a b n)
  rcases Int.lt_or_le 0 (wqQ a b n) with hq | hq
  · obtain ⟨x, y, z⟩ := bl_bd _ hq
    have hs : wqS a b n = bl (wqQ a b n) - 64 := rfl
    generalize wqQ a b n = Q at *
    generalize wqS a b n = s at *
    have h1 : Q / p2 s < 18446744073709551616 := by
      refine Int.ediv_lt_of_lt_mul hp ?_
      rw [← p2_64, ← p2_add]
      exact Int.lt_of_lt_of_le z (p2_mono (by omega))
    refine ⟨by omega, fun h => ?_⟩
    have hs0 : 0 < s := by
      rcases Nat.eq_zero_or_pos s with h0 | h0
      · subst h0; rw [p2_0, Int.emod_one] at h; exact absurd rfl h
      · exact h0
    have h2 : p2 63 ≤ Q / p2 s := by
      refine Int.le_ediv_of_mul_le hp ?_
      rw [← p2_add]
      exact Int.le_trans (p2_mono (by omega)) y
    exact bl_of (.inr ⟨by omega, h2, by rw [p2_64]; exact h1⟩)
  · have h0 : wqQ a b n = 0 := by omega
    rw [h0, Int.zero_ediv, Int.zero_emod]
    exact ⟨by omega, fun h => absurd rfl h⟩
end Go.Proofs.YthfjjkikeebopaaDoor
