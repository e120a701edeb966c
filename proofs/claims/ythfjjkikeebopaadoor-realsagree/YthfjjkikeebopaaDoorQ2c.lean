/- Plain arithmetic on words of 64 bits (no program in it): bits that are joined or masked, numbers of two words, shifted. -/
import Derived.Test.YthfjjkikeebopaaDoorQ2b
namespace Go.Proofs.YthfjjkikeebopaaDoor
open Go.RowKit
set_option maxHeartbeats 400000
set_option linter.unusedVariables false

theorem p2_nat (i : Nat) : p2 i = ((2 ^ i : Nat) : Int) := by unfold p2; rw [Int.natCast_pow]; rfl
theorem p2_64 : p2 64 = 18446744073709551616 := by decide +kernel
theorem p2_lt64 {i : Nat} (h : i ≤ 63) : p2 i < 18446744073709551616 := by have := p2_le63 h; omega
theorem or_join (i : Nat) (a b : Int) (a0 : 0 ≤ a) (a1 : a < 18446744073709551616) (ha : a % p2 i = 0) (b0 : 0 ≤ b) (b1 : b < p2 i) (b2 : b < 18446744073709551616) : bits .or .u64 a b = a + b := by
  rw [u64_or a b a0 a1 b0 b2]
  have h1 : a.toNat % 2 ^ i = 0 := by
    have : (a.toNat : Int) % ((2 ^ i : Nat) : Int) = 0 := by rw [← p2_nat, Int.toNat_of_nonneg a0]; exact ha
    exact_mod_cast this
  have h2 : b.toNat < 2 ^ i := by
    have : (b.toNat : Int) < ((2 ^ i : Nat) : Int) := by rw [← p2_nat, Int.toNat_of_nonneg b0]; exact b1
    exact_mod_cast this
  rw [nat_join i a.toNat b.toNat h1 h2]
  omega
theorem and_low (i : Nat) (a : Int) (a0 : 0 ≤ a) (a1 : a < 18446744073709551616) (hi : i ≤ 63) : bits .and .u64 a (p2 i - 1) = a % p2 i := by
  have hp := p2_pos i
  have hq := p2_lt64 hi
  rw [u64_and a (p2 i - 1) a0 a1 (by omega) (by omega)]
  have h1 : (p2 i - 1).toNat = 2 ^ i - 1 := by
    have : 0 < 2 ^ i := Nat.pow_pos (by decide)
    have := p2_nat i
    omega
  rw [h1, Nat.and_two_pow_sub_one_eq_mod, Int.natCast_emod, ← p2_nat, Int.toNat_of_nonneg a0]
theorem and_bit (i : Nat) (a : Int) (a0 : 0 ≤ a) (a1 : a < 18446744073709551616) (hi : i ≤ 63) : bits .and .u64 a (p2 i) = p2 i * (a / p2 i % 2) := by
  have hp := p2_pos i
  have hq := p2_lt64 hi
  rw [u64_and a (p2 i) a0 a1 (by omega) (by omega)]
  have h1 : (p2 i).toNat = 2 ^ i := by rw [p2_nat]; exact Int.toNat_natCast _
  have h5 : a.toNat &&& 2 ^ i = (a.toNat / 2 ^ i % 2) * 2 ^ i := by
    have h6 : a.toNat / 2 ^ i % 2 = (a.toNat.testBit i).toNat := by rw [Nat.testBit_eq_decide_div_mod_eq]; rcases Nat.mod_two_eq_zero_or_one (a.toNat / 2 ^ i) with h | h <;> simp [h]
    rw [h6]
    apply Nat.eq_of_testBit_eq; intro j
    rw [Nat.testBit_and, Nat.testBit_two_pow]
    by_cases hj : i = j
    · subst hj; cases h : a.toNat.testBit i <;> simp
    · cases h : a.toNat.testBit i <;> simp [hj]
  rw [h1, h5]
  have h2 : a / p2 i % 2 = ((a.toNat / 2 ^ i % 2 : Nat) : Int) := by
    rw [Int.natCast_emod, Int.natCast_ediv, ← p2_nat, Int.toNat_of_nonneg a0]; rfl
  rw [h2, Int.natCast_mul, ← p2_nat]
  have h3 : a.toNat / 2 ^ i % 2 < 2 := Nat.mod_lt _ (by decide)
  generalize a.toNat / 2 ^ i % 2 = t at *
  have h4 : t = 0 ∨ t = 1 := by omega
  rcases h4 with rfl | rfl <;> simp
/-! ### two words -/
def hiW (X : Int) : Int := X / 18446744073709551616 % 18446744073709551616
def loW (X : Int) : Int := X % 18446744073709551616
theorem hiW_bd (X : Int) : 0 ≤ hiW X ∧ hiW X ≤ 18446744073709551615 := by unfold hiW; omega
theorem loW_bd (X : Int) : 0 ≤ loW X ∧ loW X ≤ 18446744073709551615 := by unfold loW; omega
theorem words_eq (X : Int) (h0 : 0 ≤ X) (h1 : X < 340282366920938463463374607431768211456) : hiW X * 18446744073709551616 + loW X = X := by unfold hiW loW; omega
theorem words_of (hi lo : Int) (a0 : 0 ≤ hi) (a1 : hi ≤ 18446744073709551615) (b0 : 0 ≤ lo) (b1 : lo ≤ 18446744073709551615) : hiW (hi * 18446744073709551616 + lo) = hi ∧ loW (hi * 18446744073709551616 + lo) = lo := by unfold hiW loW; omega
theorem p2_split64 (n : Nat) (h : n ≤ 64) : p2 n * p2 (64 - n) = 18446744073709551616 := by
  rw [← p2_add, show n + (64 - n) = 64 by omega, p2_64]
theorem shl_big (hi lo : Int) (n : Nat) (hn : 64 ≤ n) : hiW ((hi * 18446744073709551616 + lo) * p2 n) = lo * 2 ^ min (n - 64) 64 % 18446744073709551616 ∧ loW ((hi * 18446744073709551616 + lo) * p2 n) = 0 := by
  have e : p2 n = p2 (n - 64) * 18446744073709551616 := by rw [← p2_64, ← p2_add]; congr 1; omega
  have e2 : (hi * 18446744073709551616 + lo) * p2 n = (hi * 18446744073709551616 + lo) * p2 (n - 64) * 18446744073709551616 := by rw [e, Int.mul_assoc]
  have e3 : (hi * 18446744073709551616 + lo) * p2 (n - 64) = hi * p2 (n - 64) * 18446744073709551616 + lo * p2 (n - 64) := by
    rw [Int.add_mul, Int.mul_right_comm]
  rw [e2]
  unfold hiW loW
  refine ⟨?_, by omega⟩
  rw [e3]
  rcases Nat.lt_or_ge (n - 64) 64 with h | h
  · rw [Nat.min_eq_left (by omega)]
    show _ = lo * p2 (n - 64) % _
    omega
  · rw [Nat.min_eq_right h]
    have e4 : p2 (n - 64) = p2 (n - 64 - 64) * 18446744073709551616 := by rw [← p2_64, ← p2_add]; congr 1; omega
    have e5 : lo * p2 (n - 64) = lo * p2 (n - 64 - 64) * 18446744073709551616 := by rw [e4, Int.mul_assoc]
    have e6 : (2 : Int) ^ 64 = 18446744073709551616 := by decide
    rw [e5, e6]
    omega
theorem mul_mod_split (a P Q : Int) (hP : 0 < P) : a * P % (P * Q) = P * (a % Q) := by rw [Int.mul_comm a P]; exact Int.mul_emod_mul_of_pos _ _ hP
theorem part_bd (a P Q : Int) (hP : 0 < P) (hQ : 0 < Q) : 0 ≤ P * (a % Q) ∧ P * (a % Q) ≤ P * Q - P := by
  have h1 := Int.emod_nonneg a (show Q ≠ 0 by omega)
  have h2 := Int.emod_lt_of_pos a hQ
  refine ⟨Int.mul_nonneg (by omega) h1, ?_⟩
  have h3 : P * (a % Q) ≤ P * (Q - 1) := Int.mul_le_mul_of_nonneg_left (by omega) (by omega)
  rw [Int.mul_sub, Int.mul_one] at h3
  exact h3
theorem part_bd' (a P Q : Int) (hP : 0 < P) (hQ : 0 < Q) (a0 : 0 ≤ a) (a1 : a < P * Q) : 0 ≤ a / Q ∧ a / Q < P :=
  ⟨Int.ediv_nonneg a0 (by omega), Int.ediv_lt_of_lt_mul hQ a1⟩
theorem shl_small (hi lo : Int) (n : Nat) (hn : n < 64) (b0 : 0 ≤ lo) (b1 : lo ≤ 18446744073709551615) :
    bits .or .u64 (IntKind.u64.wrap (hi * 2 ^ n)) (lo / 2 ^ (64 - n)) = hiW ((hi * 18446744073709551616 + lo) * p2 n) ∧ IntKind.u64.wrap (lo * 2 ^ n) = loW ((hi * 18446744073709551616 + lo) * p2 n) := by
  have hs := p2_split64 n (by omega)
  have hP := p2_pos n
  have hQ := p2_pos (64 - n)
  rw [IntKind.wrap_u64, IntKind.wrap_u64]
  show bits .or .u64 (hi * p2 n % 18446744073709551616) (lo / p2 (64 - n)) = _ ∧ lo * p2 n % 18446744073709551616 = _
  have e3 : (hi * 18446744073709551616 + lo) * p2 n = hi * p2 n * 18446744073709551616 + lo * p2 n := by
    rw [Int.add_mul, Int.mul_right_comm]
  have e1 : hi * p2 n % 18446744073709551616 = p2 n * (hi % p2 (64 - n)) := by rw [← hs]; exact mul_mod_split _ _ _ hP
  have e2 : lo * p2 n / 18446744073709551616 = lo / p2 (64 - n) := by
    rw [← hs, Int.mul_comm lo]; exact Int.mul_ediv_mul_of_pos _ _ hP
  have k1 := part_bd hi _ _ hP hQ
  have k2 := part_bd' lo _ _ hP hQ b0 (by omega)
  unfold hiW loW
  refine ⟨?_, by omega⟩
  rw [or_join n _ _ (by omega) (by omega) (by rw [e1]; exact Int.mul_emod_right _ _) k2.1 k2.2 (by omega), e3]
  omega
theorem shr_big (hi lo : Int) (n : Nat) (hn : 64 ≤ n) (a0 : 0 ≤ hi) (a1 : hi ≤ 18446744073709551615) (b0 : 0 ≤ lo) (b1 : lo ≤ 18446744073709551615) :
    hiW ((hi * 18446744073709551616 + lo) / p2 n) = 0 ∧ loW ((hi * 18446744073709551616 + lo) / p2 n) = hi / 2 ^ min (n - 64) 64 := by
  have e : p2 n = 18446744073709551616 * p2 (n - 64) := by rw [← p2_64, ← p2_add]; congr 1; omega
  have e1 : (hi * 18446744073709551616 + lo) / p2 n = hi / p2 (n - 64) := by
    rw [e, ← Int.ediv_ediv_of_nonneg (by decide)]; congr 1; omega
  rw [e1]
  have h1 : 0 ≤ hi / p2 (n - 64) := Int.ediv_nonneg a0 (Int.le_of_lt (p2_pos _))
  have h2 : hi / p2 (n - 64) ≤ hi := Int.ediv_le_self _ a0
  have h3 : hi / 2 ^ min (n - 64) 64 = hi / p2 (n - 64) := by
    rcases Nat.lt_or_ge (n - 64) 64 with h | h
    · rw [Nat.min_eq_left (by omega)]; rfl
    · rw [Nat.min_eq_right h]
      have h5 := p2_mono h
      rw [p2_64] at h5
      rw [Int.ediv_eq_zero_of_lt a0 (show hi < p2 (n - 64) by omega), show (2 : Int) ^ 64 = 18446744073709551616 by decide]
      omega
  rw [h3]
  unfold hiW loW
  omega
theorem shr_small (hi lo : Int) (n : Nat) (hn : n < 64) (a0 : 0 ≤ hi) (a1 : hi ≤ 18446744073709551615) (b0 : 0 ≤ lo) (b1 : lo ≤ 18446744073709551615) :
    hi / 2 ^ n = hiW ((hi * 18446744073709551616 + lo) / p2 n) ∧ bits .or .u64 (IntKind.u64.wrap (hi * 2 ^ (64 - n))) (lo / 2 ^ n) = loW ((hi * 18446744073709551616 + lo) / p2 n) := by
  have hs := p2_split64 n (by omega)
  have hP := p2_pos n
  have hQ := p2_pos (64 - n)
  rw [IntKind.wrap_u64]
  show hi / p2 n = _ ∧ bits .or .u64 (hi * p2 (64 - n) % 18446744073709551616) (lo / p2 n) = _
  have hs' : p2 (64 - n) * p2 n = 18446744073709551616 := by rw [Int.mul_comm]; exact hs
  have e3 : (hi * 18446744073709551616 + lo) / p2 n = hi * p2 (64 - n) + lo / p2 n := by
    rw [← hs', ← Int.mul_assoc, Int.add_comm, Int.add_mul_ediv_right _ _ (by omega), Int.add_comm]
  have e1 : hi * p2 (64 - n) % 18446744073709551616 = p2 (64 - n) * (hi % p2 n) := by rw [← hs']; exact mul_mod_split _ _ _ hQ
  have k1 := part_bd hi _ _ hQ hP
  have k2 := part_bd' lo _ _ hQ hP b0 (by omega)
  have e4 : (hi * p2 (64 - n) + lo / p2 n) / 18446744073709551616 = hi / p2 n := by
    rw [← hs', ← Int.ediv_ediv_of_nonneg (Int.le_of_lt hQ), Int.add_comm, Int.add_mul_ediv_right _ _ (by omega), Int.ediv_eq_zero_of_lt k2.1 k2.2, Int.zero_add]
  have h1 : 0 ≤ hi / p2 n := Int.ediv_nonneg a0 (Int.le_of_lt (p2_pos _))
  have h2 : hi / p2 n ≤ hi := Int.ediv_le_self _ a0
  rw [e3]
  refine ⟨?_, ?_⟩
  · unfold hiW; rw [e4]; omega
  · rw [or_join (64 - n) _ _ (by omega) (by omega) (by rw [e1]; exact Int.mul_emod_right _ _) k2.1 k2.2 (by omega)]
    unfold loW
    omega
/-! ### what a pattern says -/
def fldI (m e : Nat) (x : Int) : Int := x / p2 m % p2 e
def frcI (m : Nat) (x : Int) : Int := x % p2 m
def negI (m e : Nat) (x : Int) : Bool := x / p2 m / p2 e == 1
def kindI (m e : Nat) (x : Int) : Int := if fldI m e x = p2 e - 1 then (if frcI m x = 0 then 3 else 4) else if fldI m e x = 0 then (if frcI m x = 0 then 1 else 2) else 2
def expI (m e : Nat) (x : Int) : Int := if kindI m e x = 2 then (if fldI m e x = 0 then least m e else fldI m e x - bias e - m) else 0
def manI (m e : Nat) (x : Int) : Int := if kindI m e x = 2 then (if fldI m e x = 0 then frcI m x else p2 m + frcI m x) else 0
abbrev openV (m e : Nat) (x : Int) : Value := partsV (kindI m e x) (negI m e x) (expI m e x) (manI m e x)
theorem fld_bd (m e : Nat) (x : Int) : 0 ≤ fldI m e x ∧ fldI m e x < p2 e := by
  have := p2_pos e
  exact ⟨Int.emod_nonneg _ (by omega), Int.emod_lt_of_pos _ this⟩
theorem frc_bd (m : Nat) (x : Int) : 0 ≤ frcI m x ∧ frcI m x < p2 m := by
  have := p2_pos m
  exact ⟨Int.emod_nonneg _ (by omega), Int.emod_lt_of_pos _ this⟩
theorem div_div (m e : Nat) (x : Int) : x / p2 m / p2 e = x / p2 (m + e) := by
  rw [Int.ediv_ediv_of_nonneg (Int.le_of_lt (p2_pos m)), ← p2_add]
theorem top_one (m e : Nat) (x : Int) (x0 : 0 ≤ x) (h : bl x ≤ 1 + e + m) : 0 ≤ x / p2 (m + e) ∧ x / p2 (m + e) ≤ 1 := by
  have hp := p2_pos (m + e)
  refine ⟨Int.ediv_nonneg x0 (by omega), ?_⟩
  have h1 : x < p2 (m + e + 1) := by
    rcases Int.lt_or_le 0 x with h2 | h2
    · have := (bl_bd x h2).2.2
      exact Int.lt_of_lt_of_le this (p2_mono (by omega))
    · have := p2_pos (m + e + 1); omega
  rw [p2_succ] at h1
  have h2 : x / p2 (m + e) < 2 := Int.ediv_lt_of_lt_mul hp h1
  omega
theorem top_big (m e : Nat) (x : Int) (x0 : 0 ≤ x) (h : 1 + e + m < bl x) : 1 < x / p2 m / p2 e := by
  rw [div_div]
  have hp := p2_pos (m + e)
  have h0 : 0 < x := by
    rcases Int.lt_or_le 0 x with h1 | h1
    · exact h1
    · have : bl x = 0 := by unfold bl; rw [if_pos h1]
      omega
  have h1 := (bl_bd x h0).2.1
  have h2 : p2 (m + e + 1) ≤ x := Int.le_trans (p2_mono (by omega)) h1
  rw [p2_succ] at h2
  have h3 : 2 ≤ x / p2 (m + e) := Int.le_ediv_of_mul_le hp (by omega)
  omega
/-- a pattern is its fraction, its field and its sign -/
theorem pat_eq (m e : Nat) (x : Int) (x0 : 0 ≤ x) (h : bl x ≤ 1 + e + m) : x = fldI m e x * p2 m + frcI m x + sgnW (negI m e x) (m + e) := by
  obtain ⟨h0, h1⟩ := top_one m e x x0 h
  have e1 := Int.mul_ediv_add_emod x (p2 m)
  have e2 := Int.mul_ediv_add_emod (x / p2 m) (p2 e)
  have e3 : p2 m * (x / p2 m) = fldI m e x * p2 m + p2 (m + e) * (x / p2 (m + e)) := by
    rw [← e2, Int.mul_add, ← Int.mul_assoc, ← p2_add, div_div, Int.mul_comm (p2 m) (x / p2 m % p2 e), Int.add_comm]; rfl
  have e4 : sgnW (negI m e x) (m + e) = p2 (m + e) * (x / p2 (m + e)) := by
    unfold sgnW negI
    rw [div_div]
    rcases (show x / p2 (m + e) = 0 ∨ x / p2 (m + e) = 1 by omega) with h2 | h2 <;> simp [h2]
  rw [e4]
  unfold frcI
  omega
end Go.Proofs.YthfjjkikeebopaaDoor
