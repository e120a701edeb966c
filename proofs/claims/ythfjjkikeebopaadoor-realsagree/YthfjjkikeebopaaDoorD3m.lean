/- Plain arithmetic for a division of two words by one (no program in it): one digit of 32 bits. -/
import Derived.Test.YthfjjkikeebopaaDoorM3b
namespace Go.Proofs.YthfjjkikeebopaaDoor
open Go.RowKit
set_option maxHeartbeats 400000
set_option linter.unusedVariables false

/-- u times 2^32 and v, divided by y, of which the halves are a and b: q is a guess, r what is left of u behind q times a -/
structure DgAt (u v y a b q r : Int) : Prop where
  eq : q * a + r = u
  r0 : 0 ≤ r
  le : (u * 4294967296 + v) / y ≤ q
  top : q ≤ 4294967297
theorem dg_t (u v y : Int) (hy : 0 < y) (u0 : 0 ≤ u) (u1 : u < y) (v0 : 0 ≤ v) (v1 : v < 4294967296) : 0 ≤ (u * 4294967296 + v) / y ∧ (u * 4294967296 + v) / y < 4294967296 :=
  ⟨Int.ediv_nonneg (by omega) (by omega), Int.ediv_lt_of_lt_mul hy (by omega)⟩
theorem dg_start (u v y a b : Int) (hy : y = a * 4294967296 + b) (a0 : 2147483648 ≤ a) (a1 : a < 4294967296) (b0 : 0 ≤ b) (b1 : b < 4294967296) (u0 : 0 ≤ u) (u1 : u < y) (v0 : 0 ≤ v) (v1 : v < 4294967296) :
    DgAt u v y a b (u / a) (u - u / a * a) ∧ u - u / a * a < a ∧ 0 ≤ u / a := by
  have e := Int.mul_ediv_add_emod u a
  rw [Int.mul_comm] at e
  have r0 := Int.emod_nonneg u (show a ≠ 0 by omega)
  have r1 := Int.emod_lt_of_pos u (show 0 < a by omega)
  have q0 : 0 ≤ u / a := Int.ediv_nonneg u0 (by omega)
  have ht := dg_t u v y (by omega) u0 u1 v0 v1
  have hm := Int.ediv_mul_le (u * 4294967296 + v) (show y ≠ 0 by omega)
  refine ⟨⟨by omega, by omega, ?_, ?_⟩, by omega, q0⟩
  · refine Int.le_ediv_of_mul_le (by omega) ?_
    generalize (u * 4294967296 + v) / y = T at *
    rw [hy, Int.mul_add, ← Int.mul_assoc] at hm
    have : 0 ≤ T * b := Int.mul_nonneg ht.1 b0
    omega
  · have h1 : u / a < 4294967298 := Int.ediv_lt_of_lt_mul (by omega) (by omega)
    omega
theorem dg_done (u v y q : Int) (hy : 0 < y) (hle : (u * 4294967296 + v) / y ≤ q) (h : q * y ≤ u * 4294967296 + v) : q = (u * 4294967296 + v) / y := by
  have := Int.le_ediv_of_mul_le hy h
  omega
/-- the guess is not too great -/
theorem dg_false (u v y a b q r : Int) (hy : y = a * 4294967296 + b) (a0 : 2147483648 ≤ a) (b0 : 0 ≤ b) (h : DgAt u v y a b q r) (hc : q * b ≤ 4294967296 * r + v) : q = (u * 4294967296 + v) / y := by
  refine dg_done u v y q (by omega) h.le ?_
  have e := h.eq
  rw [hy, Int.mul_add, ← Int.mul_assoc]
  omega
/-- it is too great -/
theorem dg_true (u v y a b q r : Int) (hy : y = a * 4294967296 + b) (a0 : 2147483648 ≤ a) (b0 : 0 ≤ b) (u0 : 0 ≤ u) (u1 : u < y) (v0 : 0 ≤ v) (v1 : v < 4294967296) (h : DgAt u v y a b q r) (hc : 4294967296 ≤ q ∨ 4294967296 * r + v < q * b) : 1 ≤ q ∧ DgAt u v y a b (q - 1) (r + a) := by
  have ht := dg_t u v y (by omega) u0 u1 v0 v1
  have hlt : (u * 4294967296 + v) / y < q := by
    rcases hc with hc | hc
    · omega
    · refine Int.ediv_lt_of_lt_mul (by omega) ?_
      have e := h.eq
      rw [hy, Int.mul_add, ← Int.mul_assoc]
      omega
  have e := h.eq
  have r0 := h.r0
  have top := h.top
  refine ⟨by omega, ⟨?_, by omega, by omega, by omega⟩⟩
  rw [Int.sub_mul]; omega
/-- what is left is so great that the guess is right -/
theorem dg_break (u v y a b q r : Int) (hy : y = a * 4294967296 + b) (a0 : 2147483648 ≤ a) (b0 : 0 ≤ b) (b1 : b < 4294967296) (v0 : 0 ≤ v) (h : DgAt u v y a b q r) (q0 : 0 ≤ q) (q1 : q ≤ 4294967296) (hr : 4294967296 ≤ r) : q = (u * 4294967296 + v) / y := by
  refine dg_false u v y a b q r hy a0 b0 h ?_
  have : q * b ≤ 4294967296 * b := Int.mul_le_mul_of_nonneg_right q1 b0
  omega
theorem dg_prod (q b : Int) (q0 : 0 ≤ q) (q1 : q ≤ 4294967297) (b0 : 0 ≤ b) (b1 : b < 4294967296) : 0 ≤ q * b ∧ q * b ≤ 18446744073709551615 := by
  refine ⟨Int.mul_nonneg q0 b0, ?_⟩
  have h1 : q * b ≤ 4294967297 * b := Int.mul_le_mul_of_nonneg_right q1 b0
  omega
/-- what is left behind a digit -/
theorem dg_rest (u v y : Int) (hy : 0 < y) (y1 : y ≤ 18446744073709551615) (u0 : 0 ≤ u) (v0 : 0 ≤ v) : IntKind.u64.wrap (IntKind.u64.wrap (IntKind.u64.wrap (u * 4294967296) + v) - IntKind.u64.wrap ((u * 4294967296 + v) / y * y)) = (u * 4294967296 + v) % y := by
  have e := Int.mul_ediv_add_emod (u * 4294967296 + v) y
  rw [Int.mul_comm] at e
  have r0 := Int.emod_nonneg (u * 4294967296 + v) (show y ≠ 0 by omega)
  have r1 := Int.emod_lt_of_pos (u * 4294967296 + v) hy
  generalize (u * 4294967296 + v) / y * y = X at *
  rw [IntKind.wrap_u64, IntKind.wrap_u64, IntKind.wrap_u64, IntKind.wrap_u64]
  omega
/-- both digits -/
theorem dg_two (hi lo y c d : Int) (hy : 0 < y) (hlo : lo = c * 4294967296 + d) (h0 : 0 ≤ hi) (h1 : hi < y) (c0 : 0 ≤ c) (d0 : 0 ≤ d) (d1 : d < 4294967296) :
    (hi * 18446744073709551616 + lo) / y = (hi * 4294967296 + c) / y * 4294967296 + ((hi * 4294967296 + c) % y * 4294967296 + d) / y ∧
    (hi * 18446744073709551616 + lo) % y = ((hi * 4294967296 + c) % y * 4294967296 + d) % y := by
  have e1 := Int.mul_ediv_add_emod (hi * 4294967296 + c) y
  rw [Int.mul_comm] at e1
  have e2 : hi * 18446744073709551616 + lo = ((hi * 4294967296 + c) % y * 4294967296 + d) + ((hi * 4294967296 + c) / y * 4294967296) * y := by
    rw [Int.mul_right_comm]
    omega
  rw [e2, Int.add_mul_ediv_right _ _ (show y ≠ 0 by omega), Int.add_mul_emod_self_right]
  omega
end Go.Proofs.YthfjjkikeebopaaDoor
