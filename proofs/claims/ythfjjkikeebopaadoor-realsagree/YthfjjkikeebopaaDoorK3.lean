/- What a pattern says, by its kind (plain arithmetic). -/
import Derived.Test.YthfjjkikeebopaaDoorP2c
namespace Go.Proofs.YthfjjkikeebopaaDoor
open Go.RowKit
set_option maxHeartbeats 1000000
set_option linter.unusedVariables false

/-- a pattern by its kind -/
theorem kind_zero (m e : Nat) (x : Int) (x0 : 0 ≤ x) (hb : bl x ≤ 1 + e + m) (h : kindI m e x = 1) : expI m e x = 0 ∧ manI m e x = 0 ∧ x = sgnW (negI m e x) (m + e) := by
  have hp := pat_eq m e x x0 hb
  unfold expI manI
  rw [h]
  refine ⟨by simp, by simp, ?_⟩
  unfold kindI at h
  split at h
  · split at h <;> omega
  · split at h
    · split at h
      · rename_i a b c
        rw [b, c] at hp
        simpa using hp
      · omega
    · omega
theorem kind_inf (m e : Nat) (x : Int) (x0 : 0 ≤ x) (hb : bl x ≤ 1 + e + m) (h : kindI m e x = 3) : expI m e x = 0 ∧ manI m e x = 0 ∧ x = (p2 e - 1) * p2 m + sgnW (negI m e x) (m + e) := by
  have hp := pat_eq m e x x0 hb
  unfold expI manI
  rw [h]
  refine ⟨by simp, by simp, ?_⟩
  unfold kindI at h
  split at h
  · split at h
    · rename_i b c
      rw [b, c] at hp
      simpa using hp
    · omega
  · split at h
    · split at h <;> omega
    · omega
theorem kind_nan (m e : Nat) (x : Int) (h : kindI m e x = 4) : expI m e x = 0 ∧ manI m e x = 0 := by
  unfold expI manI
  rw [h]
  simp
theorem kind_fin (m e : Nat) (x : Int) (x0 : 0 ≤ x) (hb : bl x ≤ 1 + e + m) (he : 2 ≤ e) (h : kindI m e x = 2) : packP m e (manI m e x) (expI m e x) false + sgnW (negI m e x) (m + e) = x ∧ 0 < manI m e x ∧ manI m e x < p2 (m + 1) ∧ (expI m e x = least m e ∨ (expI m e x = fldI m e x - bias e - m)) := by
  have hp := pat_eq m e x x0 hb
  have hf := fld_bd m e x
  have hr := frc_bd m x
  have hpm := p2_pos m
  unfold expI manI
  rw [if_pos h, if_pos h]
  rw [p2_succ]
  unfold kindI at h
  by_cases c3 : fldI m e x = 0
  · rw [if_pos c3, if_pos c3]
    have hne : frcI m x ≠ 0 := by
      intro h0
      rw [h0, if_pos rfl, if_pos rfl] at h
      split at h <;> omega
    rw [pack_sub m e (frcI m x) (by omega) hr.2 he]
    rw [c3] at hp
    exact ⟨by omega, by omega, by omega, .inl rfl⟩
  · rw [if_neg c3, if_neg c3]
    have hne : fldI m e x ≠ p2 e - 1 := by
      intro h0
      rw [if_pos h0] at h
      split at h <;> omega
    rw [pack_fin m e (fldI m e x) (frcI m x) (by omega) (by omega) hr.1 hr.2 he]
    exact ⟨by omega, by omega, by omega, .inr rfl⟩
theorem kind_all (m e : Nat) (x : Int) : kindI m e x = 1 ∨ kindI m e x = 2 ∨ kindI m e x = 3 ∨ kindI m e x = 4 := by
  unfold kindI
  split
  · split <;> omega
  · split
    · split <;> omega
    · omega
theorem nan_kind (m e : Nat) (h : okF m e) : 0 ≤ (p2 e - 1) * p2 m + p2 (m - 1) ∧ (p2 e - 1) * p2 m + p2 (m - 1) < p2 (m + e) ∧ kindI m e ((p2 e - 1) * p2 m + p2 (m - 1)) = 4 ∧ negI m e ((p2 e - 1) * p2 m + p2 (m - 1)) = false := by
  obtain ⟨t0, t1, t2, t3⟩ := top_bd m e h
  have hm : p2 m = 2 * p2 (m - 1) := by rw [← p2_succ]; congr 1; have := h.1; omega
  have hp := p2_pos (m - 1)
  have he := p2_pos e
  have hs : p2 (m + e) = p2 e * p2 m := by rw [p2_add, Int.mul_comm]
  have e1 : (p2 e - 1) * p2 m = p2 e * p2 m - p2 m := by rw [Int.sub_mul, Int.one_mul]
  have hd : ((p2 e - 1) * p2 m + p2 (m - 1)) / p2 m = p2 e - 1 := by
    rw [Int.add_comm, Int.add_mul_ediv_right _ _ (by omega), Int.ediv_eq_zero_of_lt (by omega) (by omega), Int.zero_add]
  have hr : ((p2 e - 1) * p2 m + p2 (m - 1)) % p2 m = p2 (m - 1) := by
    rw [Int.add_comm, Int.add_mul_emod_self_right, Int.emod_eq_of_lt (by omega) (by omega)]
  refine ⟨by omega, by omega, ?_, ?_⟩
  · unfold kindI fldI frcI
    rw [hd, hr, Int.emod_eq_of_lt (by omega) (by omega), if_pos rfl, if_neg (by omega)]
  · unfold negI
    rw [hd, Int.ediv_eq_zero_of_lt (by omega) (by omega)]
    rfl
/-- a unit and how many of them, as a finite pattern says them -/
def FinP (m x : Nat) (E M : Int) : Prop := 0 < M ∧ M < p2 (m + 1) ∧ least m x ≤ E ∧ E ≤ bias x - m ∧ (p2 m ≤ M ∨ E = least m x)
theorem fin_of (m e : Nat) (x : Int) (he : 2 ≤ e) (h : kindI m e x = 2) : FinP m e (expI m e x) (manI m e x) := by
  have hf := fld_bd m e x
  have hr := frc_bd m x
  have hpm := p2_pos m
  have hb := bias_two e he
  have hb4 : p2 2 ≤ p2 e := p2_mono he
  have h4 : p2 2 = 4 := rfl
  unfold FinP expI manI
  rw [if_pos h, if_pos h, p2_succ]
  unfold kindI at h
  by_cases c3 : fldI m e x = 0
  · rw [if_pos c3, if_pos c3]
    have hne : frcI m x ≠ 0 := by
      intro h0
      rw [h0, if_pos rfl, if_pos rfl] at h
      split at h <;> omega
    refine ⟨by omega, by omega, Int.le_refl _, ?_, .inr rfl⟩
    unfold least; omega
  · rw [if_neg c3, if_neg c3]
    have hne : fldI m e x ≠ p2 e - 1 := by
      intro h0
      rw [if_pos h0] at h
      split at h <;> omega
    refine ⟨by omega, by omega, ?_, ?_, .inl (by omega)⟩
    · unfold least; omega
    · omega
theorem FinP.rng {m x : Nat} {E M : Int} (h : FinP m x E M) (hok : okF m x) : -1100 ≤ E ∧ E ≤ 1100 ∧ 0 < M ∧ M < 9007199254740992 := by
  obtain ⟨h0, h1, h2, h3, _⟩ := h
  have hb := bias_bd x hok.2.2.1 hok.2.2.2
  have hm := hok.2.1
  have h53 : p2 (m + 1) ≤ p2 53 := p2_mono (by omega)
  have e53 : p2 53 = 9007199254740992 := by decide +kernel
  unfold least at h2
  have := hok.1
  omega
end Go.Proofs.YthfjjkikeebopaaDoor
