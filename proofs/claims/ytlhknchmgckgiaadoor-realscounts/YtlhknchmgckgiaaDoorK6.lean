/- Plain facts on differences of patterns: which way round does not matter to their size; nothing is left just of equals (no program in it). -/
import Derived.Test.YtlhknchmgckgiaaDoorK5
import Derived.Test.YtlhknchmgckgiaaDoorC3m
namespace Go.Proofs.YtlhknchmgckgiaaDoor
open Go.RowKit
set_option maxHeartbeats 400000
set_option linter.unusedVariables false

theorem turn_parts (m x : Nat) (b : Int) (b0 : 0 ≤ b) (b1 : b < p2 (m + x + 1)) : kindI m x (turnI (m + x) b) = kindI m x b ∧ negI m x (turnI (m + x) b) = !negI m x b ∧ expI m x (turnI (m + x) b) = expI m x b ∧ manI m x (turnI (m + x) b) = manI m x b := by
  have hf : fldI m x (turnI (m + x) b) = fldI m x b := by rw [← fld_low m x (turnI (m + x) b), turn_low, fld_low]
  have hr : frcI m (turnI (m + x) b) = frcI m b := by rw [← frc_low m x (turnI (m + x) b), turn_low, frc_low]
  have hk := turn_kind m x b
  obtain ⟨t0, t1⟩ := turn_bd (m + x) b b0 b1
  refine ⟨hk, ?_, ?_, ?_⟩
  · rw [neg_iff m x _ t0 t1, neg_iff m x b b0 b1]
    have hP := p2_pos (m + x)
    rw [p2_succ] at b1
    unfold turnI
    by_cases h : p2 (m + x) ≤ b
    · rw [if_pos h, decide_eq_true h, decide_eq_false (by omega)]; rfl
    · rw [if_neg h, decide_eq_false h, decide_eq_true (by omega)]; rfl
  · unfold expI; rw [hk, hf]
  · unfold manI; rw [hk, hf, hr]
/-- the difference -/
def subD (m x : Nat) (a b : Int) : Int := addK m x a (turnI (m + x) b) (kindI m x a) (negI m x a) (expI m x a) (manI m x a) (kindI m x b) (!negI m x b) (expI m x b) (manI m x b)
theorem sub_eq (m x : Nat) (a b : Int) (b0 : 0 ≤ b) (b1 : b < p2 (m + x + 1)) : addK m x a (turnI (m + x) b) (kindI m x a) (negI m x a) (expI m x a) (manI m x a) (kindI m x (turnI (m + x) b)) (negI m x (turnI (m + x) b)) (expI m x (turnI (m + x) b)) (manI m x (turnI (m + x) b)) = subD m x a b := by
  obtain ⟨h1, h2, h3, h4⟩ := turn_parts m x b b0 b1
  rw [h1, h2, h3, h4]
  rfl
theorem sumS_turn (n1 n2 : Bool) (E1 M1 E2 M2 : Int) : sumS n2 E2 M2 (!n1) E1 M1 = -(sumS n1 E1 M1 (!n2) E2 M2) := by
  unfold sumS
  rw [Int.min_comm E2 E1]
  generalize M1 * p2 (E1 - min E1 E2).toNat = X
  generalize M2 * p2 (E2 - min E1 E2).toNat = Y
  cases n1 <;> cases n2 <;> simp [sg] <;> omega
theorem sum_low (m x : Nat) (n1 n2 : Bool) (E1 M1 E2 M2 : Int) (hx : 2 ≤ x) : sumI m x n1 E1 M1 n2 E2 M2 % p2 (m + x) = packP m x (absI (sumS n1 E1 M1 n2 E2 M2)) (min E1 E2) false := by
  have hbd := pack_bd m x (absI (sumS n1 E1 M1 n2 E2 M2)) (min E1 E2) false (by unfold absI; split <;> omega) hx
  have hT : (p2 x - 1) * p2 m = p2 (m + x) - p2 m := by rw [Int.sub_mul, Int.one_mul, ← p2_add, Nat.add_comm x m]
  have hP := p2_pos m
  unfold sumI
  exact sgn_low (m + x) _ _ hbd.1 (by omega)
theorem inf_low (m x : Nat) (n : Bool) : infI m x n % p2 (m + x) = (p2 x - 1) * p2 m := by
  have hT : (p2 x - 1) * p2 m = p2 (m + x) - p2 m := by rw [Int.sub_mul, Int.one_mul, ← p2_add, Nat.add_comm x m]
  have hP := p2_pos m
  have hle : p2 m ≤ p2 (m + x) := p2_mono (by omega)
  unfold infI
  exact sgn_low (m + x) n _ (by rw [hT]; omega) (by rw [hT]; omega)
theorem zero_low (k : Nat) (n : Bool) : sgnW n k % p2 k = 0 := by
  have h := sgn_low k n 0 (by omega) (p2_pos k)
  rw [Int.zero_add] at h
  exact h
/-- either way round the difference is as great -/
theorem sub_swap (m x : Nat) (a b : Int) (hok : okF m x) (a0 : 0 ≤ a) (a1 : a < p2 (m + x + 1)) (b0 : 0 ≤ b) (b1 : b < p2 (m + x + 1)) : subD m x a b % p2 (m + x) = subD m x b a % p2 (m + x) := by
  have hx : 2 ≤ x := by have := hok.2.2.1; omega
  have g1 := patK m x a hok a0 (bl_of_lt m x a a0 a1)
  have g2 := patK m x b hok b0 (bl_of_lt m x b b0 b1)
  unfold subD
  generalize negI m x a = n1 at *
  generalize negI m x b = n2 at *
  generalize expI m x a = E1 at *
  generalize expI m x b = E2 at *
  generalize manI m x a = M1 at *
  generalize manI m x b = M2 at *
  generalize kindI m x a = K1 at *
  generalize kindI m x b = K2 at *
  rcases g1.kind with rfl | rfl | rfl | rfl <;> rcases g2.kind with rfl | rfl | rfl | rfl
  · simp [addK, zero_low]
  · simp [addK, turn_low]
  · simp [addK, turn_low]
  · simp [addK]
  · simp [addK, turn_low]
  · simp only [addK]
    simp
    rw [sum_low m x n1 (!n2) E1 M1 E2 M2 hx, sum_low m x n2 (!n1) E2 M2 E1 M1 hx, sumS_turn n1 n2, Int.min_comm E2 E1]
    congr 1
    unfold absI
    split <;> split <;> omega
  · simp [addK, turn_low]
  · simp [addK]
  · simp [addK, turn_low]
  · simp [addK, turn_low]
  · rw [g1.inf rfl, g2.inf rfl]
    cases n1 <;> cases n2 <;> simp [addK, inf_low]
  · simp [addK]
  · simp [addK]
  · simp [addK]
  · simp [addK]
  · simp [addK]
/-- what is not 0 has no pattern 0 -/
theorem pack_pos (m x : Nat) (N e : Int) (hx : 2 ≤ x) (hN : 0 < N) (he : least m x ≤ e) : 0 < packP m x N e false := by
  obtain ⟨k, hk⟩ : ∃ k : Nat, e - least m x = k := ⟨(e - least m x).toNat, by omega⟩
  have h1 := pack_scale m x N e k (by omega)
  rw [← h1, show e - (k : Int) = least m x by omega]
  have h2 : 1 ≤ N * p2 k := by have := Int.mul_pos hN (p2_pos k); omega
  have h3 := pack_mono m x 1 (N * p2 k) (least m x) false (by omega) h2 hx
  by_cases hm : 1 < p2 m
  · rw [pack_sub m x 1 (by omega) hm hx] at h3
    omega
  · have hm0 : p2 m = 1 := by have := p2_pos m; omega
    have e1 : packP m x 1 (least m x) false = (least m x - least m x) * p2 m + 1 := by
      have hl : least m x ≤ bias x - m := by
        have hb := bias_two x hx
        have h4x : p2 2 ≤ p2 x := p2_mono hx
        have e4 : p2 2 = 4 := rfl
        unfold least
        omega
      exact pack_self m x (least m x) 1 hx ⟨by omega, by rw [p2_succ]; omega, Int.le_refl _, hl, .inr rfl⟩
    rw [Int.sub_self, Int.zero_mul, Int.zero_add] at e1
    omega
/-- nothing is left just of equals -/
theorem sub_zero_iff (m x : Nat) (a b : Int) (hok : okF m x) (a0 : 0 ≤ a) (a1 : a < p2 (m + x + 1)) (b0 : 0 ≤ b) (b1 : b < p2 (m + x + 1)) (h1 : kindI m x a ≠ 4) (h2 : kindI m x b ≠ 4) (h3 : ¬ (kindI m x a = 3 ∧ kindI m x b = 3)) : subD m x a b % p2 (m + x) = 0 ↔ cmpZ (rankI (m + x) a) (rankI (m + x) b) = 0 := by
  have hx : 2 ≤ x := by have := hok.2.2.1; omega
  have g1 := patK m x a hok a0 (bl_of_lt m x a a0 a1)
  have g2 := patK m x b hok b0 (bl_of_lt m x b b0 b1)
  obtain ⟨r1, s1, u1, v1⟩ := mag_rank m x a _ _ _ _ hok g1 h1
  obtain ⟨r2, s2, u2, v2⟩ := mag_rank m x b _ _ _ _ hok g2 h2
  rw [r1, r2]
  have hT : 0 < (p2 x - 1) * p2 m := by
    have h4 : p2 2 ≤ p2 x := p2_mono hx
    have e4 : p2 2 = 4 := rfl
    exact Int.mul_pos (by omega) (p2_pos m)
  have hlow : ∀ c : Int, ∀ n : Bool, ∀ G : Int, 0 ≤ c → c < p2 (m + x + 1) → rankI (m + x) c = sg n * G → 0 ≤ G → c % p2 (m + x) = G := by
    intro c n G c0 c1 hr hG
    have hPk := p2_pos (m + x)
    have k0 := Int.emod_nonneg c (show p2 (m + x) ≠ 0 by omega)
    unfold rankI at hr
    unfold sg at hr
    split at hr <;> cases n <;> simp at hr <;> omega
  have la := hlow a _ _ a0 a1 r1 s1
  have lb := hlow b _ _ b0 b1 r2 s2
  unfold subD
  generalize negI m x a = n1 at *
  generalize negI m x b = n2 at *
  generalize expI m x a = E1 at *
  generalize expI m x b = E2 at *
  generalize manI m x a = M1 at *
  generalize manI m x b = M2 at *
  generalize kindI m x a = K1 at *
  generalize kindI m x b = K2 at *
  have cz : ∀ (p q : Bool) (X Y : Int), 0 ≤ X → 0 ≤ Y → (cmpZ (sg p * X) (sg q * Y) = 0 ↔ sg p * X = sg q * Y) := by
    intro p q X Y _ _
    unfold cmpZ
    split
    · constructor <;> intro h <;> omega
    · split
      · constructor <;> intro h <;> omega
      · constructor <;> intro h <;> omega
  have ne0 : ∀ (p q : Bool) (X Y : Int), 0 ≤ X → 0 ≤ Y → X ≠ Y → ¬ (cmpZ (sg p * X) (sg q * Y) = 0) ∨ (X = 0 ∧ Y = 0) := by
    intro p q X Y hX hY hXY
    left
    rw [cz p q X Y hX hY]
    unfold sg
    cases p <;> cases q <;> simp <;> omega
  rcases g1.kind with rfl | rfl | rfl | rfl <;> rcases g2.kind with rfl | rfl | rfl | rfl
  · rw [show magI m x 1 E1 M1 = 0 by simp [magI], show magI m x 1 E2 M2 = 0 by simp [magI]]
    simp [addK, zero_low, cmpZ]
  · have v := v2 rfl
    have e1 : magI m x 1 E1 M1 = 0 := by simp [magI]
    rw [e1]
    rcases ne0 n1 n2 0 (magI m x 2 E2 M2) (by omega) s2 (by omega) with h | h
    · simp only [addK]
      simp [turn_low]
      rw [lb]
      constructor
      · intro h'; omega
      · intro h'; exact absurd h' (by simpa using h)
    · omega
  · have e1 : magI m x 1 E1 M1 = 0 := by simp [magI]
    have e2 : magI m x 3 E2 M2 = (p2 x - 1) * p2 m := by simp [magI]
    rw [e1]
    rw [e2] at lb s2 ⊢
    rcases ne0 n1 n2 0 ((p2 x - 1) * p2 m) (by omega) s2 (by omega) with h | h
    · simp only [addK]
      simp [turn_low]
      rw [lb]
      constructor
      · intro h'; omega
      · intro h'; exact absurd h' (by simpa using h)
    · omega
  · exact absurd rfl h2
  · have v := v1 rfl
    have e2 : magI m x 1 E2 M2 = 0 := by simp [magI]
    rw [e2]
    rcases ne0 n1 n2 (magI m x 2 E1 M1) 0 s1 (by omega) (by omega) with h | h
    · simp only [addK]
      simp
      rw [la]
      constructor
      · intro h'; omega
      · intro h'; exact absurd h' (by simpa using h)
    · omega
  · obtain ⟨f1, -⟩ := g1.fin rfl
    obtain ⟨f2, -⟩ := g2.fin rfl
    obtain ⟨k1, hk1⟩ : ∃ k : Nat, E1 - min E1 E2 = k := ⟨(E1 - min E1 E2).toNat, by omega⟩
    obtain ⟨k2, hk2⟩ : ∃ k : Nat, E2 - min E1 E2 = k := ⟨(E2 - min E1 E2).toNat, by omega⟩
    have hX : 0 < M1 * p2 k1 := Int.mul_pos f1.1 (p2_pos k1)
    have hY : 0 < M2 * p2 k2 := Int.mul_pos f2.1 (p2_pos k2)
    have ho := fin_order m x E1 M1 E2 M2 k1 k2 f1 f2 hk1 hk2
    have m1 : magI m x 2 E1 M1 = (E1 - least m x) * p2 m + M1 := by simp [magI]
    have m2 : magI m x 2 E2 M2 = (E2 - least m x) * p2 m + M2 := by simp [magI]
    have w1 := (v1 rfl).1
    have w2 := (v2 rfl).1
    rw [m1] at w1 s1 ⊢
    rw [m2] at w2 s2 ⊢
    rw [cmp_sum n1 n2 (M1 * p2 k1) (M2 * p2 k2) _ _ (by omega) (by omega) s1 s2 ho.1 ho.2 (by omega) (by omega)]
    have hs : sumS n1 E1 M1 (!n2) E2 M2 = sg n1 * (M1 * p2 k1) + sg (!n2) * (M2 * p2 k2) := by
      unfold sumS
      rw [hk1, hk2]
      simp
    simp only [addK]
    simp
    rw [sum_low m x n1 (!n2) E1 M1 E2 M2 hx, hs]
    generalize sg n1 * (M1 * p2 k1) + sg (!n2) * (M2 * p2 k2) = S
    by_cases hS : S = 0
    · subst hS
      simp [absI, packP, sgz]
    · have hp := pack_pos m x (absI S) (min E1 E2) hx (by unfold absI; split <;> omega) (by have := f1.2.2.1; have := f2.2.2.1; omega)
      constructor
      · intro h; omega
      · intro h
        unfold sgz at h
        split at h
        · omega
        · split at h <;> omega
  · have v := v1 rfl
    have e2 : magI m x 3 E2 M2 = (p2 x - 1) * p2 m := by simp [magI]
    rw [e2] at lb s2 ⊢
    rcases ne0 n1 n2 (magI m x 2 E1 M1) ((p2 x - 1) * p2 m) s1 s2 (by omega) with h | h
    · simp only [addK]
      simp [turn_low]
      rw [lb]
      constructor
      · intro h'; omega
      · intro h'; exact absurd h' h
    · omega
  · exact absurd rfl h2
  · have e1 : magI m x 3 E1 M1 = (p2 x - 1) * p2 m := by simp [magI]
    have e2 : magI m x 1 E2 M2 = 0 := by simp [magI]
    rw [e2]
    rw [e1] at la s1 ⊢
    rcases ne0 n1 n2 ((p2 x - 1) * p2 m) 0 s1 (by omega) (by omega) with h | h
    · simp only [addK]
      simp
      rw [la]
      constructor
      · intro h'; omega
      · intro h'; exact absurd h' (by simpa using h)
    · omega
  · have v := v2 rfl
    have e1 : magI m x 3 E1 M1 = (p2 x - 1) * p2 m := by simp [magI]
    rw [e1] at la s1 ⊢
    rcases ne0 n1 n2 ((p2 x - 1) * p2 m) (magI m x 2 E2 M2) s1 s2 (by omega) with h | h
    · simp only [addK]
      simp
      rw [la]
      constructor
      · intro h'; omega
      · intro h'; exact absurd h' h
    · omega
  · exact absurd ⟨rfl, rfl⟩ h3
  · exact absurd rfl h2
  · exact absurd rfl h1
  · exact absurd rfl h1
  · exact absurd rfl h1
  · exact absurd rfl h1
end Go.Proofs.YtlhknchmgckgiaaDoor
