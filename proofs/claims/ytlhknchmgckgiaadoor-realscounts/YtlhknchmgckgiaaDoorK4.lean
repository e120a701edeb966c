/- Plain facts on kinds and signs of patterns (no program in it). -/
import Derived.Test.YtlhknchmgckgiaaDoorV3
import Derived.Test.YtlhknchmgckgiaaDoorK3
namespace Go.Proofs.YtlhknchmgckgiaaDoor
open Go.RowKit
set_option maxHeartbeats 400000
set_option linter.unusedVariables false

theorem low_eq (m x : Nat) (a : Int) : a % p2 (m + x) = fldI m x a * p2 m + frcI m a := by
  unfold fldI frcI
  have h1 := Int.mul_ediv_add_emod a (p2 m)
  have h2 := Int.mul_ediv_add_emod (a / p2 m) (p2 x)
  have hP := p2_pos m
  have hX := p2_pos x
  have e : a = p2 (m + x) * (a / p2 m / p2 x) + (a / p2 m % p2 x * p2 m + a % p2 m) := by
    rw [p2_add]
    have h3 : p2 m * (a / p2 m) = p2 m * (p2 x * (a / p2 m / p2 x)) + p2 m * (a / p2 m % p2 x) := by rw [← Int.mul_add, h2]
    rw [Int.mul_assoc, Int.mul_comm (a / p2 m % p2 x)]
    omega
  have b0 := Int.emod_nonneg (a / p2 m) (show p2 x ≠ 0 by omega)
  have b1 := Int.emod_lt_of_pos (a / p2 m) hX
  have c0 := Int.emod_nonneg a (show p2 m ≠ 0 by omega)
  have c1 := Int.emod_lt_of_pos a hP
  generalize a / p2 m / p2 x = q at e
  generalize a / p2 m % p2 x = f at *
  generalize a % p2 m = r at *
  have k0 : 0 ≤ f * p2 m + r := by have := Int.mul_nonneg b0 (Int.le_of_lt hP); omega
  have k1 : f * p2 m + r < p2 (m + x) := by
    have : (f + 1) * p2 m ≤ p2 x * p2 m := Int.mul_le_mul_of_nonneg_right (by omega) (Int.le_of_lt hP)
    rw [Int.add_mul, Int.one_mul, ← p2_add, Nat.add_comm x m] at this
    omega
  rw [e, Int.mul_add_emod_self_left]
  exact Int.emod_eq_of_lt k0 k1
/-- what is no number is above infinity -/
theorem kind4_iff (m x : Nat) (a : Int) : kindI m x a = 4 ↔ (p2 x - 1) * p2 m < a % p2 (m + x) := by
  have h := low_eq m x a
  obtain ⟨f0, f1⟩ := fld_bd m x a
  obtain ⟨r0, r1⟩ := frc_bd m a
  unfold kindI
  by_cases h1 : fldI m x a = p2 x - 1
  · rw [if_pos h1, h, h1]
    by_cases h2 : frcI m a = 0
    · rw [if_pos h2, h2]; simp
    · rw [if_neg h2]; simp; omega
  · rw [if_neg h1]
    have h3 : (fldI m x a + 1) * p2 m ≤ (p2 x - 1) * p2 m := Int.mul_le_mul_of_nonneg_right (by omega) (Int.le_of_lt (p2_pos m))
    rw [Int.add_mul, Int.one_mul] at h3
    constructor
    · intro h4
      split at h4 <;> (try split at h4) <;> omega
    · intro h4; omega
theorem kind3_iff (m x : Nat) (a : Int) : kindI m x a = 3 ↔ a % p2 (m + x) = (p2 x - 1) * p2 m := by
  have h := low_eq m x a
  obtain ⟨f0, f1⟩ := fld_bd m x a
  obtain ⟨r0, r1⟩ := frc_bd m a
  unfold kindI
  by_cases h1 : fldI m x a = p2 x - 1
  · rw [if_pos h1, h, h1]
    by_cases h2 : frcI m a = 0
    · rw [if_pos h2, h2]; simp
    · rw [if_neg h2]; simp; omega
  · rw [if_neg h1]
    have h3 : (fldI m x a + 1) * p2 m ≤ (p2 x - 1) * p2 m := Int.mul_le_mul_of_nonneg_right (by omega) (Int.le_of_lt (p2_pos m))
    rw [Int.add_mul, Int.one_mul] at h3
    constructor
    · intro h4
      split at h4 <;> (try split at h4) <;> omega
    · intro h4; omega
theorem low_kind (m x : Nat) (a : Int) : kindI m x (a % p2 (m + x)) = 4 ↔ kindI m x a = 4 := by
  rw [kind4_iff, kind4_iff, Int.emod_emod_of_dvd _ (Int.dvd_refl _)]
theorem neg_iff (m x : Nat) (a : Int) (a0 : 0 ≤ a) (a1 : a < p2 (m + x + 1)) : negI m x a = decide (p2 (m + x) ≤ a) := by
  unfold negI
  rw [div_div]
  have hP := p2_pos (m + x)
  rw [p2_succ] at a1
  by_cases h : p2 (m + x) ≤ a
  · rw [decide_eq_true h]
    have e : a / p2 (m + x) = 1 := by
      rw [show a = (a - p2 (m + x)) + p2 (m + x) * 1 by omega, Int.add_mul_ediv_left _ _ (by omega), Int.ediv_eq_zero_of_lt (by omega) (by omega)]
      rfl
    rw [e]; rfl
  · rw [decide_eq_false h, Int.ediv_eq_zero_of_lt a0 (by omega)]
    rfl
/-- without its sign -/
theorem bare_t (k : Nat) (a : Int) (h : p2 k ≤ a) (a1 : a < p2 (k + 1)) : turnI k a = a % p2 k := by
  unfold turnI
  rw [if_pos h]
  rw [p2_succ] at a1
  have e : a % p2 k = a - p2 k := by
    rw [show a = (a - p2 k) + p2 k * 1 by omega, Int.add_mul_emod_self_left, Int.emod_eq_of_lt (by omega) (by omega)]
    omega
  rw [e]
theorem bare_f (k : Nat) (a : Int) (a0 : 0 ≤ a) (h : a < p2 k) : a % p2 k = a := Int.emod_eq_of_lt a0 h
theorem sgn_low (k : Nat) (s : Bool) (v : Int) (v0 : 0 ≤ v) (v1 : v < p2 k) : (v + sgnW s k) % p2 k = v := by
  unfold sgnW
  cases s
  · simp; exact Int.emod_eq_of_lt v0 v1
  · simp; exact Int.emod_eq_of_lt v0 v1
/-- a sum is no number only where a summand is none, or two infinities differ -/
theorem add_num (m x : Nat) (a b K1 E1 M1 K2 E2 M2 : Int) (n1 n2 : Bool) (hm : 1 ≤ m) (hx : 2 ≤ x) (ha : kindI m x a = K1) (hb : kindI m x b = K2) (h1 : K1 ≠ 4) (h2 : K2 ≠ 4) (h3 : ¬ (K1 = 3 ∧ K2 = 3)) : kindI m x (addK m x a b K1 n1 E1 M1 K2 n2 E2 M2) ≠ 4 := by
  have hT : (p2 x - 1) * p2 m = p2 (m + x) - p2 m := by rw [Int.sub_mul, Int.one_mul, ← p2_add, Nat.add_comm x m]
  have hP := p2_pos m
  have hle : p2 m ≤ p2 (m + x) := p2_mono (by omega)
  have hs : ∀ (N e : Int) (s : Bool), 0 ≤ N → kindI m x (packP m x N e false + sgnW s (m + x)) ≠ 4 := by
    intro N e s hN h4
    have hbd := pack_bd m x N e false hN hx
    have h5 := (kind4_iff m x _).1 h4
    rw [sgn_low (m + x) s _ hbd.1 (by omega)] at h5
    omega
  unfold addK
  rw [if_neg (by omega), if_neg (by omega)]
  split
  · rw [ha]; exact h1
  · split
    · rw [hb]; exact h2
    · split
      · intro h4
        have h5 := (kind4_iff m x _).1 h4
        have h6 := sgn_low (m + x) (n1 && n2) 0 (by omega) (p2_pos _)
        rw [Int.zero_add] at h6
        rw [h6] at h5
        have : 0 ≤ (p2 x - 1) * p2 m := by rw [hT]; omega
        omega
      · split
        · rw [hb]; exact h2
        · split
          · rw [ha]; exact h1
          · exact hs _ _ _ (by unfold absI; split <;> omega)
end Go.Proofs.YtlhknchmgckgiaaDoor
