/- Plain facts on patterns: what lies below the sign, the sign turned, sums in range, and what a finite number's own pattern says (no program in it). -/
import Derived.Test.YtlhknchmgckgiaaDoorK4
import Derived.Test.YtlhknchmgckgiaaDoorA4c
namespace Go.Proofs.YtlhknchmgckgiaaDoor
open Go.RowKit
set_option maxHeartbeats 400000
set_option linter.unusedVariables false

theorem kind_low (m x : Nat) (a : Int) : kindI m x (a % p2 (m + x)) = kindI m x a := by
  have h1 : frcI m (a % p2 (m + x)) = frcI m a := by
    unfold frcI
    exact Int.emod_emod_of_dvd _ ⟨p2 x, by rw [← p2_add]⟩
  have h2 : fldI m x (a % p2 (m + x)) = fldI m x a := by
    have e1 := low_eq m x (a % p2 (m + x))
    have e2 := low_eq m x a
    rw [Int.emod_emod_of_dvd _ (Int.dvd_refl _), h1] at e1
    have hP := p2_pos m
    have e3 : fldI m x a * p2 m = fldI m x (a % p2 (m + x)) * p2 m := by have h9 := e2.symm.trans e1; omega
    exact (Int.eq_of_mul_eq_mul_right (by omega) e3).symm
  unfold kindI
  rw [h1, h2]
theorem turn_low (k : Nat) (a : Int) : turnI k a % p2 k = a % p2 k := by
  unfold turnI
  split
  · exact Int.sub_emod_right _ _
  · exact Int.add_emod_right _ _
theorem turn_kind (m x : Nat) (a : Int) : kindI m x (turnI (m + x) a) = kindI m x a := by
  rw [← kind_low m x (turnI (m + x) a), turn_low, kind_low]
theorem turn_bd (k : Nat) (a : Int) (a0 : 0 ≤ a) (a1 : a < p2 (k + 1)) : 0 ≤ turnI k a ∧ turnI k a < p2 (k + 1) := by
  have := p2_pos k
  rw [p2_succ] at *
  unfold turnI
  split <;> omega
theorem add_bd (m x : Nat) (a b K1 E1 M1 K2 E2 M2 : Int) (n1 n2 : Bool) (hm : 1 ≤ m) (hx : 2 ≤ x) (a0 : 0 ≤ a) (a1 : a < p2 (m + x + 1)) (b0 : 0 ≤ b) (b1 : b < p2 (m + x + 1)) : 0 ≤ addK m x a b K1 n1 E1 M1 K2 n2 E2 M2 ∧ addK m x a b K1 n1 E1 M1 K2 n2 E2 M2 < p2 (m + x + 1) := by
  have hn : 0 ≤ nanI m x ∧ nanI m x < p2 (m + x + 1) := by
    have h := nan_bd m x hm
    have := p2_mono (show m + x ≤ m + x + 1 by omega)
    omega
  unfold addK
  split
  · exact hn
  split
  · exact hn
  split
  · exact ⟨a0, a1⟩
  split
  · exact ⟨b0, b1⟩
  split
  · exact sgn_lt _ _
  split
  · exact ⟨b0, b1⟩
  split
  · exact ⟨a0, a1⟩
  · exact pack_lt m x _ _ false _ (by unfold absI; split <;> omega) hx
theorem frc_low (m x : Nat) (a : Int) : frcI m (a % p2 (m + x)) = frcI m a := by
  unfold frcI
  exact Int.emod_emod_of_dvd _ ⟨p2 x, by rw [← p2_add]⟩
theorem fld_low (m x : Nat) (a : Int) : fldI m x (a % p2 (m + x)) = fldI m x a := by
  have e1 := low_eq m x (a % p2 (m + x))
  have e2 := low_eq m x a
  rw [Int.emod_emod_of_dvd _ (Int.dvd_refl _), frc_low] at e1
  have hP := p2_pos m
  have e3 : fldI m x a * p2 m = fldI m x (a % p2 (m + x)) * p2 m := by have h9 := e2.symm.trans e1; omega
  exact (Int.eq_of_mul_eq_mul_right (by omega) e3).symm
/-- the fields of a pattern that is laid out of them -/
theorem fields_of (m x : Nat) (F f : Int) (n : Bool) (F0 : 0 ≤ F) (F1 : F < p2 x) (f0 : 0 ≤ f) (f1 : f < p2 m) :
    fldI m x (F * p2 m + f + sgnW n (m + x)) = F ∧ frcI m (F * p2 m + f + sgnW n (m + x)) = f ∧ negI m x (F * p2 m + f + sgnW n (m + x)) = n := by
  have hP := p2_pos m
  have u0 : 0 ≤ F * p2 m + f := by have := Int.mul_nonneg F0 (Int.le_of_lt hP); omega
  have u1 : F * p2 m + f < p2 (m + x) := by
    have : (F + 1) * p2 m ≤ p2 x * p2 m := Int.mul_le_mul_of_nonneg_right (by omega) (Int.le_of_lt hP)
    rw [Int.add_mul, Int.one_mul, ← p2_add, Nat.add_comm x m] at this
    omega
  have hl := sgn_low (m + x) n _ u0 u1
  have c1 : fldI m x (F * p2 m + f) = F := by
    unfold fldI
    rw [show F * p2 m + f = f + p2 m * F by rw [Int.mul_comm]; omega, Int.add_mul_ediv_left _ _ (by omega), Int.ediv_eq_zero_of_lt f0 f1, Int.zero_add]
    exact Int.emod_eq_of_lt F0 F1
  have c2 : frcI m (F * p2 m + f) = f := by
    unfold frcI
    rw [show F * p2 m + f = f + p2 m * F by rw [Int.mul_comm]; omega, Int.add_mul_emod_self_left]
    exact Int.emod_eq_of_lt f0 f1
  refine ⟨by rw [← fld_low, hl, c1], by rw [← frc_low m x, hl, c2], ?_⟩
  have hpk := p2_pos (m + x)
  have b1 : 0 ≤ F * p2 m + f + sgnW n (m + x) ∧ F * p2 m + f + sgnW n (m + x) < p2 (m + x + 1) := by
    rw [p2_succ]; unfold sgnW; cases n <;> simp <;> omega
  rw [neg_iff m x _ b1.1 b1.2]
  unfold sgnW
  cases n
  · rw [decide_eq_false]; simp; omega
  · rw [decide_eq_true]; simp; omega
/-- what a finite number's pattern says is the number -/
theorem open_fin (m x : Nat) (E M : Int) (n : Bool) (hx : 2 ≤ x) (h : FinP m x E M) :
    kindI m x ((E - least m x) * p2 m + M + sgnW n (m + x)) = 2 ∧ negI m x ((E - least m x) * p2 m + M + sgnW n (m + x)) = n ∧ expI m x ((E - least m x) * p2 m + M + sgnW n (m + x)) = E ∧ manI m x ((E - least m x) * p2 m + M + sgnW n (m + x)) = M := by
  obtain ⟨h0, h1, h2, h3, h4⟩ := h
  have hP := p2_pos m
  have hb := bias_two x hx
  have h4x : p2 2 ≤ p2 x := p2_mono hx
  have e4 : p2 2 = 4 := rfl
  have hl : least m x = 1 - bias x - m := by unfold least; omega
  rw [p2_succ] at h1
  by_cases hn : p2 m ≤ M
  · have e : (E - least m x) * p2 m + M = (E - least m x + 1) * p2 m + (M - p2 m) := by rw [Int.add_mul, Int.one_mul]; omega
    rw [e]
    obtain ⟨c1, c2, c3⟩ := fields_of m x (E - least m x + 1) (M - p2 m) n (by omega) (by omega) (by omega) (by omega)
    have k2 : kindI m x ((E - least m x + 1) * p2 m + (M - p2 m) + sgnW n (m + x)) = 2 := by
      unfold kindI
      rw [c1, c2, if_neg (by omega), if_neg (by omega)]
    refine ⟨k2, c3, ?_, ?_⟩
    · unfold expI
      rw [if_pos k2, c1, if_neg (by omega)]
      omega
    · unfold manI
      rw [if_pos k2, c1, c2, if_neg (by omega)]
      omega
  · have hE : E = least m x := by rcases h4 with h | h <;> omega
    have e : (E - least m x) * p2 m + M = 0 * p2 m + M := by rw [hE, Int.sub_self]
    rw [e]
    obtain ⟨c1, c2, c3⟩ := fields_of m x 0 M n (by omega) (by omega) (by omega) (by omega)
    have k2 : kindI m x (0 * p2 m + M + sgnW n (m + x)) = 2 := by
      unfold kindI
      rw [c1, c2, if_neg (by omega), if_pos rfl, if_neg (by omega)]
    refine ⟨k2, c3, ?_, ?_⟩
    · unfold expI
      rw [if_pos k2, c1, if_pos rfl, hE]
    · unfold manI
      rw [if_pos k2, c1, c2, if_pos rfl]
theorem open_inf (m x : Nat) (n : Bool) (hx : 2 ≤ x) : kindI m x (infI m x n) = 3 ∧ negI m x (infI m x n) = n := by
  have h4x : p2 2 ≤ p2 x := p2_mono hx
  have e4 : p2 2 = 4 := rfl
  obtain ⟨c1, c2, c3⟩ := fields_of m x (p2 x - 1) 0 n (by omega) (by omega) (by omega) (p2_pos m)
  rw [Int.add_zero] at c1 c2 c3
  unfold infI kindI
  rw [c1, c2]
  exact ⟨by simp, c3⟩
theorem open_zero (m x : Nat) (n : Bool) (hx : 2 ≤ x) : kindI m x (sgnW n (m + x)) = 1 ∧ negI m x (sgnW n (m + x)) = n := by
  have h4x : p2 2 ≤ p2 x := p2_mono hx
  have e4 : p2 2 = 4 := rfl
  obtain ⟨c1, c2, c3⟩ := fields_of m x 0 0 n (by omega) (by omega) (by omega) (p2_pos m)
  rw [Int.zero_mul, Int.zero_add, Int.zero_add] at c1 c2 c3
  unfold kindI
  rw [c1, c2, if_neg (by omega)]
  exact ⟨by simp, c3⟩
end Go.Proofs.YtlhknchmgckgiaaDoor
