/- Plain facts: sums and products go either way round; a difference turned round is turned (no program in it). -/
import Derived.Test.YtlhknchmgckgiaaK6
namespace Go.Proofs.Ytlhknchmgckgiaa
open Go.RowKit
set_option maxHeartbeats 400000
set_option linter.unusedVariables false

theorem turn_turn (k : Nat) (a : Int) (a0 : 0 ≤ a) (a1 : a < p2 (k + 1)) : turnI k (turnI k a) = a := by
  have := p2_pos k
  rw [p2_succ] at a1
  unfold turnI
  split <;> split <;> omega
theorem bne_comm' (p q : Bool) : (p != q) = (q != p) := by cases p <;> cases q <;> rfl
theorem mulK_comm (m x : Nat) (K1 E1 M1 K2 E2 M2 : Int) (n1 n2 : Bool) : mulK m x K1 n1 E1 M1 K2 n2 E2 M2 = mulK m x K2 n2 E2 M2 K1 n1 E1 M1 := by
  unfold mulK
  rw [bne_comm' n1 n2, Int.mul_comm M1 M2, Int.add_comm E1 E2]
  simp only [Or.comm (a := K1 = 4), Or.comm (a := K1 = 3), Or.comm (a := K1 = 1)]
theorem addK_comm (m x : Nat) (a b K1 E1 M1 K2 E2 M2 : Int) (n1 n2 : Bool) (g1 : PatK m x a K1 n1 E1 M1) (g2 : PatK m x b K2 n2 E2 M2) : addK m x a b K1 n1 E1 M1 K2 n2 E2 M2 = addK m x b a K2 n2 E2 M2 K1 n1 E1 M1 := by
  rcases g1.kind with rfl | rfl | rfl | rfl <;> rcases g2.kind with rfl | rfl | rfl | rfl
  · simp [addK, Bool.and_comm]
  · simp [addK]
  · simp [addK]
  · simp [addK]
  · simp [addK]
  · simp [addK, sumI_comm m x n1 n2]
  · simp [addK]
  · simp [addK]
  · simp [addK]
  · simp [addK]
  · rw [g1.inf rfl, g2.inf rfl]
    cases n1 <;> cases n2 <;> simp [addK]
  · simp [addK]
  · simp [addK]
  · simp [addK]
  · simp [addK]
  · simp [addK]
theorem turn_sgn (k : Nat) (s : Bool) (v : Int) (v0 : 0 ≤ v) (v1 : v < p2 k) : turnI k (v + sgnW s k) = v + sgnW (!s) k := by
  unfold turnI sgnW
  cases s <;> simp <;> omega
theorem turn_inf (m x : Nat) (s : Bool) : turnI (m + x) (infI m x s) = infI m x (!s) := by
  have hT : (p2 x - 1) * p2 m = p2 (m + x) - p2 m := by rw [Int.sub_mul, Int.one_mul, ← p2_add, Nat.add_comm x m]
  have hP := p2_pos m
  have hle : p2 m ≤ p2 (m + x) := p2_mono (by omega)
  unfold infI
  exact turn_sgn (m + x) s _ (by rw [hT]; omega) (by rw [hT]; omega)
/-- what a difference is, either way round -/
theorem sub_cases (m x : Nat) (a b : Int) (hok : okF m x) (a0 : 0 ≤ a) (a1 : a < p2 (m + x + 1)) (b0 : 0 ≤ b) (b1 : b < p2 (m + x + 1)) (h1 : kindI m x a ≠ 4) (h2 : kindI m x b ≠ 4) :
    (subD m x a b = nanI m x ∧ subD m x b a = nanI m x) ∨
    (kindI m x (subD m x a b) ≠ 4 ∧ subD m x a b % p2 (m + x) = 0 ∧ (kindI m x a ≠ 1 ∨ kindI m x b ≠ 1 ∨ a = b) ∧ subD m x a b = 0 ∧ subD m x b a = 0) ∨
    (kindI m x (subD m x a b) ≠ 4 ∧ (subD m x a b % p2 (m + x) ≠ 0 ∨ (subD m x a b % p2 (m + x) = 0 ∧ kindI m x a = 1 ∧ kindI m x b = 1 ∧ a ≠ b)) ∧ subD m x b a = turnI (m + x) (subD m x a b)) := by
  have hx : 2 ≤ x := by have := hok.2.2.1; omega
  have hm1 : 1 ≤ m := by have := hok.1; omega
  have hT : (p2 x - 1) * p2 m = p2 (m + x) - p2 m := by rw [Int.sub_mul, Int.one_mul, ← p2_add, Nat.add_comm x m]
  have hPm := p2_pos m
  have hle : p2 m ≤ p2 (m + x) := p2_mono (by omega)
  have hTp : 0 < (p2 x - 1) * p2 m := by
    have h4 : p2 2 ≤ p2 x := p2_mono hx
    have e4 : p2 2 = 4 := rfl
    exact Int.mul_pos (by omega) hPm
  have g1 := patK m x a hok a0 (bl_of_lt m x a a0 a1)
  have g2 := patK m x b hok b0 (bl_of_lt m x b b0 b1)
  obtain ⟨r1, s1, u1, v1⟩ := mag_rank m x a _ _ _ _ hok g1 h1
  obtain ⟨r2, s2, u2, v2⟩ := mag_rank m x b _ _ _ _ hok g2 h2
  have hlow : ∀ c : Int, ∀ n : Bool, ∀ G : Int, 0 ≤ c → c < p2 (m + x + 1) → rankI (m + x) c = sg n * G → 0 ≤ G → c % p2 (m + x) = G := by
    intro c n G c0 c1 hr hG
    have hPk := p2_pos (m + x)
    have k0 := Int.emod_nonneg c (show p2 (m + x) ≠ 0 by omega)
    unfold rankI at hr
    unfold sg at hr
    split at hr <;> cases n <;> simp at hr <;> omega
  have la := hlow a _ _ a0 a1 r1 s1
  have lb := hlow b _ _ b0 b1 r2 s2
  have tta := turn_turn (m + x) a a0 a1
  have ttb := turn_turn (m + x) b b0 b1
  have hk : ¬ (kindI m x a = 3 ∧ kindI m x b = 3) → kindI m x (subD m x a b) ≠ 4 := fun h3 => add_num m x a (turnI (m + x) b) _ _ _ _ _ _ _ _ hm1 hx rfl (turn_kind m x b) h1 h2 h3
  have tka := turn_kind m x a
  have tkb := turn_kind m x b
  have ka : ∃ K, kindI m x a = K := ⟨_, rfl⟩
  have kb : ∃ K, kindI m x b = K := ⟨_, rfl⟩
  obtain ⟨K1, hK1⟩ := ka
  obtain ⟨K2, hK2⟩ := kb
  rw [hK1, hK2] at hk
  rw [hK1] at g1 v1 la h1 ⊢
  rw [hK2] at g2 v2 lb h2 ⊢
  unfold subD at hk ⊢
  rw [hK1, hK2] at hk ⊢
  generalize negI m x a = n1 at *
  generalize negI m x b = n2 at *
  generalize expI m x a = E1 at *
  generalize expI m x b = E2 at *
  generalize manI m x a = M1 at *
  generalize manI m x b = M2 at *
  rcases g1.kind with rfl | rfl | rfl | rfl <;> rcases g2.kind with rfl | rfl | rfl | rfl
  · have hk' := hk (by decide)
    obtain ⟨-, -, ea⟩ := g1.zero rfl
    obtain ⟨-, -, eb⟩ := g2.zero rfl
    have e1 : addK m x a (turnI (m + x) b) 1 n1 E1 M1 1 (!n2) E2 M2 = sgnW (n1 && !n2) (m + x) := by simp [addK]
    have e2 : addK m x b (turnI (m + x) a) 1 n2 E2 M2 1 (!n1) E1 M1 = sgnW (n2 && !n1) (m + x) := by simp [addK]
    rw [e1] at hk' ⊢
    rw [e2]
    by_cases hn : n1 = n2
    · subst hn
      right; left
      refine ⟨hk', zero_low _ _, .inr (.inr (by rw [ea, eb])), ?_, ?_⟩ <;> cases n1 <;> rfl
    · right; right
      have hne : a ≠ b := by
        rw [ea, eb]
        have := p2_pos (m + x)
        intro h
        cases n1 <;> cases n2 <;> simp [sgnW] at h hn <;> omega
      refine ⟨hk', .inr ⟨zero_low _ _, rfl, rfl, hne⟩, ?_⟩
      have ht : ∀ s, turnI (m + x) (sgnW s (m + x)) = sgnW (!s) (m + x) := fun s => by
        have h := turn_sgn (m + x) s 0 (by omega) (p2_pos _)
        rw [Int.zero_add, Int.zero_add] at h
        exact h
      rw [ht]
      cases n1 <;> cases n2 <;> simp at hn ⊢
  · have hk' := hk (by decide)
    have e1 : addK m x a (turnI (m + x) b) 1 n1 E1 M1 2 (!n2) E2 M2 = turnI (m + x) b := by simp [addK]
    have e2 : addK m x b (turnI (m + x) a) 2 n2 E2 M2 1 (!n1) E1 M1 = b := by simp [addK]
    rw [e1] at hk' ⊢
    rw [e2]
    right; right
    exact ⟨hk', .inl (by rw [turn_low, lb]; have := (v2 rfl).1; omega), ttb.symm⟩
  · have hk' := hk (by decide)
    have e1 : addK m x a (turnI (m + x) b) 1 n1 E1 M1 3 (!n2) E2 M2 = turnI (m + x) b := by simp [addK]
    have e2 : addK m x b (turnI (m + x) a) 3 n2 E2 M2 1 (!n1) E1 M1 = b := by simp [addK]
    rw [e1] at hk' ⊢
    rw [e2]
    right; right
    refine ⟨hk', .inl ?_, ttb.symm⟩
    rw [turn_low, lb, show magI m x 3 E2 M2 = (p2 x - 1) * p2 m by simp [magI]]
    omega
  · exact absurd rfl h2
  · have hk' := hk (by decide)
    have e1 : addK m x a (turnI (m + x) b) 2 n1 E1 M1 1 (!n2) E2 M2 = a := by simp [addK]
    have e2 : addK m x b (turnI (m + x) a) 1 n2 E2 M2 2 (!n1) E1 M1 = turnI (m + x) a := by simp [addK]
    rw [e1] at hk' ⊢
    rw [e2]
    right; right
    exact ⟨hk', .inl (by rw [la]; have := (v1 rfl).1; omega), rfl⟩
  · have hk' := hk (by decide)
    obtain ⟨f1, -⟩ := g1.fin rfl
    obtain ⟨f2, -⟩ := g2.fin rfl
    have e1 : addK m x a (turnI (m + x) b) 2 n1 E1 M1 2 (!n2) E2 M2 = sumI m x n1 E1 M1 (!n2) E2 M2 := by simp [addK]
    have e2 : addK m x b (turnI (m + x) a) 2 n2 E2 M2 2 (!n1) E1 M1 = sumI m x n2 E2 M2 (!n1) E1 M1 := by simp [addK]
    have lo := sum_low m x n1 (!n2) E1 M1 E2 M2 hx
    rw [e1] at hk' ⊢
    rw [e2]
    have es : sumI m x n2 E2 M2 (!n1) E1 M1 = packP m x (absI (sumS n1 E1 M1 (!n2) E2 M2)) (min E1 E2) false + sgnW (decide (-(sumS n1 E1 M1 (!n2) E2 M2) < 0)) (m + x) := by
      unfold sumI
      rw [sumS_turn n1 n2, Int.min_comm E2 E1]
      congr 2
      unfold absI
      split <;> split <;> omega
    rw [es]
    by_cases hS : sumS n1 E1 M1 (!n2) E2 M2 = 0
    · right; left
      have z : sumI m x n1 E1 M1 (!n2) E2 M2 = 0 := by unfold sumI; rw [hS]; simp [absI, packP, sgnW]
      refine ⟨hk', by rw [z]; exact Int.zero_emod _, .inl (by decide), z, ?_⟩
      rw [hS]; simp [absI, packP, sgnW]
    · right; right
      have hA : 0 < absI (sumS n1 E1 M1 (!n2) E2 M2) := by unfold absI; split <;> omega
      have hp := pack_pos m x (absI (sumS n1 E1 M1 (!n2) E2 M2)) (min E1 E2) hx hA (by have := f1.2.2.1; have := f2.2.2.1; omega)
      have hbd := pack_bd m x (absI (sumS n1 E1 M1 (!n2) E2 M2)) (min E1 E2) false (by omega) hx
      refine ⟨hk', .inl (by rw [lo]; omega), ?_⟩
      have e3 : sumI m x n1 E1 M1 (!n2) E2 M2 = packP m x (absI (sumS n1 E1 M1 (!n2) E2 M2)) (min E1 E2) false + sgnW (decide (sumS n1 E1 M1 (!n2) E2 M2 < 0)) (m + x) := rfl
      rw [e3, turn_sgn (m + x) _ _ hbd.1 (by omega)]
      congr 2
      by_cases hs : sumS n1 E1 M1 (!n2) E2 M2 < 0
      · rw [decide_eq_true hs, decide_eq_false (by omega)]; rfl
      · rw [decide_eq_false hs, decide_eq_true (by omega)]; rfl
  · have hk' := hk (by decide)
    have e1 : addK m x a (turnI (m + x) b) 2 n1 E1 M1 3 (!n2) E2 M2 = turnI (m + x) b := by simp [addK]
    have e2 : addK m x b (turnI (m + x) a) 3 n2 E2 M2 2 (!n1) E1 M1 = b := by simp [addK]
    rw [e1] at hk' ⊢
    rw [e2]
    right; right
    refine ⟨hk', .inl ?_, ttb.symm⟩
    rw [turn_low, lb, show magI m x 3 E2 M2 = (p2 x - 1) * p2 m by simp [magI]]
    omega
  · exact absurd rfl h2
  · have hk' := hk (by decide)
    have e1 : addK m x a (turnI (m + x) b) 3 n1 E1 M1 1 (!n2) E2 M2 = a := by simp [addK]
    have e2 : addK m x b (turnI (m + x) a) 1 n2 E2 M2 3 (!n1) E1 M1 = turnI (m + x) a := by simp [addK]
    rw [e1] at hk' ⊢
    rw [e2]
    right; right
    refine ⟨hk', .inl ?_, rfl⟩
    rw [la, show magI m x 3 E1 M1 = (p2 x - 1) * p2 m by simp [magI]]
    omega
  · have hk' := hk (by decide)
    have e1 : addK m x a (turnI (m + x) b) 3 n1 E1 M1 2 (!n2) E2 M2 = a := by simp [addK]
    have e2 : addK m x b (turnI (m + x) a) 2 n2 E2 M2 3 (!n1) E1 M1 = turnI (m + x) a := by simp [addK]
    rw [e1] at hk' ⊢
    rw [e2]
    right; right
    refine ⟨hk', .inl ?_, rfl⟩
    rw [la, show magI m x 3 E1 M1 = (p2 x - 1) * p2 m by simp [magI]]
    omega
  · have ea := g1.inf rfl
    have eb := g2.inf rfl
    by_cases hn : n1 = n2
    · subst hn
      left
      constructor <;> cases n1 <;> simp [addK]
    · right; right
      have e1 : addK m x a (turnI (m + x) b) 3 n1 E1 M1 3 (!n2) E2 M2 = a := by cases n1 <;> cases n2 <;> simp [addK] at hn ⊢
      have e2 : addK m x b (turnI (m + x) a) 3 n2 E2 M2 3 (!n1) E1 M1 = b := by cases n1 <;> cases n2 <;> simp [addK] at hn ⊢
      rw [e1, e2]
      refine ⟨by rw [hK1]; decide, .inl ?_, ?_⟩
      · rw [la, show magI m x 3 E1 M1 = (p2 x - 1) * p2 m by simp [magI]]; omega
      · rw [ea, eb, turn_inf]
        congr 1
        cases n1 <;> cases n2 <;> simp at hn ⊢
  · exact absurd rfl h2
  · exact absurd rfl h1
  · exact absurd rfl h1
  · exact absurd rfl h1
  · exact absurd rfl h1
end Go.Proofs.Ytlhknchmgckgiaa
