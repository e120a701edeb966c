/- Contracts of RoundNearest's own functions: tiny, and the number of a pattern. -/
import Derived.Test.YtkbeceedafkhcaaN4m
import Derived.Test.YtkbeceedafkhcaaR2a
import Derived.Test.YtkbeceedafkhcaaL2a
namespace Go.Proofs.Ytkbeceedafkhcaa
open Go.RowKit
set_option maxHeartbeats 2000000
set_option linter.unusedVariables false

def tinyF (m x : Int) : Prop := 2 ≤ m ∧ m ≤ 4 ∧ 2 ≤ x ∧ x ≤ 4
theorem tiny_yes (m x : Int) (w : World) (h : tinyF m x) : Calls Try.prog 23 #[.agg #[.int .i64 m, .int .i64 x]] w fun r w' => r = .returned (.bool true) ∧ Below w.heap.size w w' := by
  obtain ⟨h1, h2, h3, h4⟩ := h
  go_enter Try.func23, Try.ntmps23
  go_wp2
  go_ret
  exact ⟨rfl, (Below.refl _ _).alloc (Nat.le_refl _) _⟩
theorem tiny_no (m x : Int) (w : World) (h : ¬ tinyF m x) : Calls Try.prog 23 #[.agg #[.int .i64 m, .int .i64 x]] w fun r w' => r = .returned (.bool false) ∧ Below w.heap.size w w' := by
  have hc : m < 2 ∨ (2 ≤ m ∧ 4 < m) ∨ (2 ≤ m ∧ m ≤ 4 ∧ x < 2) ∨ (2 ≤ m ∧ m ≤ 4 ∧ 2 ≤ x ∧ 4 < x) := by unfold tinyF at h; omega
  clear h
  rcases hc with h1 | ⟨h1, h2⟩ | ⟨h1, h2, h3⟩ | ⟨h1, h2, h3, h4⟩
  all_goals
    go_enter Try.func23, Try.ntmps23
    go_wp2
    go_ret
    refine ⟨?_, (Below.refl _ _).alloc (Nat.le_refl _) _⟩
    first
      | rfl
      | exact ret_bool (decide_eq_false (by omega))
theorem and_low_i (i : Nat) (n : Int) (h0 : 0 ≤ n) (h1 : n ≤ 9223372036854775807) (hi : i ≤ 62) : bits .and .i64 n (p2 i - 1) = n % p2 i := by
  have hp := p2_pos i
  have hq := p2_le63 (show i ≤ 63 by omega)
  have hlt : p2 i ≤ 4611686018427387904 := by rw [show (4611686018427387904 : Int) = p2 62 by decide +kernel]; exact p2_mono hi
  have e1 : (BitVec.ofInt 64 (p2 i - 1)).toNat = 2 ^ i - 1 := by
    rw [BitVec.toNat_ofInt]
    have h2 : (p2 i - 1) % ((2 ^ 64 : Nat) : Int) = p2 i - 1 := Int.emod_eq_of_lt (by omega) (by have : ((2 ^ 64 : Nat) : Int) = 18446744073709551616 := rfl; omega)
    rw [h2]
    have := p2_nat i
    have : 0 < 2 ^ i := Nat.pow_pos (by decide)
    omega
  have key : (BitVec.ofInt 64 n &&& BitVec.ofInt 64 (p2 i - 1)).toNat = n.toNat % 2 ^ i := by
    rw [BitVec.toNat_and, e1, Nat.and_two_pow_sub_one_eq_mod, BitVec.toNat_ofInt]
    have h2 : n % ((2 ^ 64 : Nat) : Int) = n := Int.emod_eq_of_lt h0 (by have : ((2 ^ 64 : Nat) : Int) = 18446744073709551616 := rfl; omega)
    rw [h2]
  show IntKind.i64.wrap ((BitVec.ofInt 64 n &&& BitVec.ofInt 64 (p2 i - 1)).toNat : Nat) = n % p2 i
  rw [key, Int.natCast_emod, ← p2_nat, Int.toNat_of_nonneg h0]
  have r0 := Int.emod_nonneg n (show p2 i ≠ 0 by omega)
  have r1 := Int.emod_lt_of_pos n hp
  exact wrapi _ (by omega) (by omega)
theorem val_small (fr P : Int) (k : Nat) (f0 : 0 ≤ fr) (f1 : fr ≤ 31) (hk : k ≤ 40) : wrap64 (fr * 2 ^ k) = fr * p2 k := by
  have h1 := p2_pos k
  have h2 : p2 k ≤ 1099511627776 := by rw [show (1099511627776 : Int) = p2 40 by decide +kernel]; exact p2_mono hk
  have h3 : 0 ≤ fr * p2 k := Int.mul_nonneg f0 (by omega)
  have h4 : fr * p2 k ≤ 31 * p2 k := Int.mul_le_mul_of_nonneg_right f1 (by omega)
  show wrap64 (fr * p2 k) = fr * p2 k
  unfold wrap64
  omega
theorem value_any (m x s : Nat) (y : Int) (w : World) (h : tinyF m x) (hs : (s : Int) = 24 + least m x) (y0 : 0 ≤ y) (y1 : y ≤ (p2 x - 1) * p2 m) :
    Calls Try.prog 24 #[.agg #[.int .i64 m, .int .i64 x], .int .i64 y] w fun r w' => r = .returned (.int .i64 (valI m s y)) ∧ Below w.heap.size w w' := by
  have hok : okF m x := by obtain ⟨h1, h2, h3, h4⟩ := h; exact ⟨h1, by omega, h3, by omega⟩
  have HLe := hidden (fun w => least_any m x w hok)
  obtain ⟨h1, h2, h3, h4⟩ := h
  have hb7 : 1 ≤ bias x ∧ bias x ≤ 7 := by
    have := bias_bd x h3 (by omega)
    have h5 : p2 ((x : Int) - 1).toNat ≤ p2 3 := p2_mono (by omega)
    have h6 : p2 3 = 8 := rfl
    unfold bias at *
    omega
  have hp16 : p2 m ≤ 16 := by rw [show (16 : Int) = p2 4 by rfl]; exact p2_mono (by omega)
  have hx16 : p2 x ≤ 16 := by rw [show (16 : Int) = p2 4 by rfl]; exact p2_mono (by omega)
  have hpm := p2_pos m
  have hpx := p2_pos x
  have hy : y ≤ 240 := by
    have h5 : (p2 x - 1) * p2 m ≤ 15 * p2 m := Int.mul_le_mul_of_nonneg_right (by omega) (by omega)
    omega
  have hw1 : wrap64 (2 ^ m) = p2 m := by
    show wrap64 (p2 m) = p2 m
    unfold wrap64; omega
  have q0 : 0 ≤ y / p2 m := Int.ediv_nonneg y0 (by omega)
  have q1 : y / p2 m ≤ 15 := by
    have h5 : y / p2 m < p2 x := Int.ediv_lt_of_lt_mul hpm (by
      have h6 : (p2 x - 1) * p2 m = p2 x * p2 m - p2 m := by rw [Int.sub_mul, Int.one_mul]
      omega)
    omega
  have r0 := Int.emod_nonneg y (show p2 m ≠ 0 by omega)
  have r1 := Int.emod_lt_of_pos y hpm
  have hand := and_low_i m y y0 (by omega) (by omega)
  have hdiv : y / 2 ^ m = y / p2 m := rfl
  have hl : least m x = (s : Int) - 24 := by omega
  have hsb : 14 ≤ s ∧ s ≤ 22 := by unfold least at hs; omega
  rw [hl] at HLe
  clear hl hs y1 hok hb7
  unfold valI
  generalize y % p2 m = fr at *
  generalize y / p2 m = F at *
  by_cases c : F = 0
  · subst c
    rw [if_pos rfl]
    have HV := hidden (val_small fr 0 s r0 (by omega) (by omega))
    go_enter Try.func24, Try.ntmps24
    go_wp2_with fail
    refine (HLe.out _).mono ?_
    rintro r w2 ⟨rfl, hw⟩
    subst hw
    go_wp2
    go_ret
    refine ⟨ret_int ?_, ?_⟩
    · rw [show (24 + ((s : Int) - 24)).toNat = s by omega]
      exact HV.out
    · repeat (first | exact Below.refl _ _ | apply Below.drew | (refine Below.alloc ?_ (by simp; try omega) _))
  · have c' : (F == 0) = false := by simp [c]
    rw [if_neg c]
    have HV := hidden (val_small (fr + p2 m) 0 (s + (F - 1).toNat) (by omega) (by omega) (by omega))
    go_enter Try.func24, Try.ntmps24
    go_wp2_with fail
    refine (HLe.out _).mono ?_
    rintro r w2 ⟨rfl, hw⟩
    subst hw
    go_wp2
    go_ret
    refine ⟨ret_int ?_, ?_⟩
    · rw [← HV.out]
      congr 2
      · omega
      · congr 1
        omega
    · repeat (first | exact Below.refl _ _ | apply Below.drew | (refine Below.alloc ?_ (by simp; try omega) _))
end Go.Proofs.Ytkbeceedafkhcaa
