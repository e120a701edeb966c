/- Plain arithmetic for comparisons (no program in it): patterns stand in the order of their numbers. -/
import Derived.Test.YtlhknchmgckgiaaDoorA3p
namespace Go.Proofs.YtlhknchmgckgiaaDoor
open Go.RowKit
set_option maxHeartbeats 400000
set_option linter.unusedVariables false

theorem pack_self (m x : Nat) (E M : Int) (hx : 2 ≤ x) (h : FinP m x E M) : packP m x M E false = (E - least m x) * p2 m + M := by
  rcases Int.lt_or_le M (p2 m) with hM | hM
  · obtain ⟨h0, h1, h2, h3, h4⟩ := h
    obtain rfl : E = least m x := by omega
    rw [pack_sub m x M h0 hM hx, Int.sub_self, Int.zero_mul, Int.zero_add]
  · exact pack_norm m x E M hx h hM
theorem fin_lt (m x : Nat) (E1 M1 E2 M2 : Int) (k1 k2 : Nat) (h1 : FinP m x E1 M1) (h2 : FinP m x E2 M2) (hk1 : E1 - min E1 E2 = k1) (hk2 : E2 - min E1 E2 = k2) (hlt : E1 < E2) :
    M1 * p2 k1 < M2 * p2 k2 ∧ (E1 - least m x) * p2 m + M1 < (E2 - least m x) * p2 m + M2 := by
  obtain ⟨a0, a1, a2, a3, a4⟩ := h1
  obtain ⟨b0, b1, b2, b3, b4⟩ := h2
  have hM2 : p2 m ≤ M2 := by rcases b4 with h | h <;> omega
  obtain rfl : k1 = 0 := by omega
  have hk : 1 ≤ k2 := by omega
  have hp := p2_pos m
  have h3 : p2 m * p2 1 ≤ M2 * p2 k2 := Int.mul_le_mul hM2 (p2_mono hk) (Int.le_of_lt (p2_pos _)) (by omega)
  rw [← p2_add] at h3
  refine ⟨by rw [p2_0]; omega, ?_⟩
  have h4 : (E1 - least m x + 1) * p2 m ≤ (E2 - least m x) * p2 m := Int.mul_le_mul_of_nonneg_right (by omega) (by omega)
  rw [Int.add_mul, Int.one_mul] at h4
  rw [p2_succ] at a1
  omega
theorem fin_order (m x : Nat) (E1 M1 E2 M2 : Int) (k1 k2 : Nat) (h1 : FinP m x E1 M1) (h2 : FinP m x E2 M2) (hk1 : E1 - min E1 E2 = k1) (hk2 : E2 - min E1 E2 = k2) :
    (M1 * p2 k1 < M2 * p2 k2 ↔ (E1 - least m x) * p2 m + M1 < (E2 - least m x) * p2 m + M2) ∧ (M2 * p2 k2 < M1 * p2 k1 ↔ (E2 - least m x) * p2 m + M2 < (E1 - least m x) * p2 m + M1) := by
  rcases Int.lt_trichotomy E1 E2 with h | h | h
  · obtain ⟨a, b⟩ := fin_lt m x E1 M1 E2 M2 k1 k2 h1 h2 hk1 hk2 h
    omega
  · subst h
    obtain rfl : k1 = 0 := by omega
    obtain rfl : k2 = 0 := by omega
    rw [p2_0]
    omega
  · obtain ⟨a, b⟩ := fin_lt m x E2 M2 E1 M1 k2 k1 h2 h1 (by rw [Int.min_comm]; exact hk2) (by rw [Int.min_comm]; exact hk1) h
    omega
/-- a pattern without its sign -/
def magI (m x : Nat) (K E M : Int) : Int := if K = 1 then 0 else if K = 2 then (E - least m x) * p2 m + M else (p2 x - 1) * p2 m
theorem mag_rank (m x : Nat) (a K E M : Int) (n : Bool) (hok : okF m x) (g : PatK m x a K n E M) (h4 : K ≠ 4) : rankI (m + x) a = sg n * magI m x K E M ∧ 0 ≤ magI m x K E M ∧ magI m x K E M ≤ (p2 x - 1) * p2 m ∧ (K = 2 → 0 < magI m x K E M ∧ magI m x K E M < (p2 x - 1) * p2 m) := by
  obtain ⟨t0, t1, t2, t3⟩ := top_bd m x hok
  have hx : 2 ≤ x := by have := hok.2.2.1; omega
  have hp := p2_pos (m + x)
  have key : ∀ g : Int, 0 ≤ g → g < p2 (m + x) → rankI (m + x) (g + sgnW n (m + x)) = sg n * g := by
    intro g g0 g1
    unfold rankI sgnW sg
    cases n
    · simp only [Bool.false_eq_true, if_false]
      rw [if_neg (by omega), Int.add_zero, Int.emod_eq_of_lt g0 g1]; omega
    · simp only [if_true]
      rw [if_pos (by omega), Int.add_emod_right, Int.emod_eq_of_lt g0 g1]; omega
  rcases g.kind with rfl | rfl | rfl | rfl
  · obtain ⟨-, -, ha⟩ := g.zero rfl
    have e : magI m x 1 E M = 0 := by simp [magI]
    rw [e]
    refine ⟨?_, by omega, t0, fun h => by omega⟩
    have := key 0 (by omega) (by omega)
    rw [Int.zero_add] at this
    rw [ha]; exact this
  · obtain ⟨hf, ha⟩ := g.fin rfl
    have e : magI m x 2 E M = (E - least m x) * p2 m + M := by simp [magI]
    have hs := pack_self m x E M hx hf
    have hb := pack_bd m x M E false (Int.le_of_lt hf.1) hx
    rw [e, ← hs]
    have hpos : 0 < packP m x M E false := by
      rw [hs]
      have : 0 ≤ (E - least m x) * p2 m := Int.mul_nonneg (by have := hf.2.2.1; omega) (Int.le_of_lt (p2_pos m))
      have := hf.1
      omega
    have hlt : packP m x M E false < (p2 x - 1) * p2 m := by
      rw [hs]
      have hbt := bias_two x hx
      have h1 : (E - least m x) * p2 m ≤ (p2 x - 1 - 2) * p2 m := Int.mul_le_mul_of_nonneg_right (by have := hf.2.2.2.1; unfold least; omega) (Int.le_of_lt (p2_pos m))
      rw [Int.sub_mul (p2 x - 1) 2] at h1
      have h2 := hf.2.1
      rw [p2_succ] at h2
      omega
    refine ⟨?_, by omega, by omega, fun _ => ⟨hpos, hlt⟩⟩
    rw [← ha]; exact key _ (by omega) (by omega)
  · have ha := g.inf rfl
    have e : magI m x 3 E M = (p2 x - 1) * p2 m := by simp [magI]
    rw [e]
    refine ⟨?_, t0, Int.le_refl _, fun h => by omega⟩
    rw [ha]; exact key _ t0 t1
  · exact absurd rfl h4
/-- the sign of a number -/
def sgz (S : Int) : Int := if S < 0 then -1 else if 0 < S then 1 else 0
theorem cmp_sum (n1 n2 : Bool) (X Y A B : Int) (x0 : 0 ≤ X) (y0 : 0 ≤ Y) (a0 : 0 ≤ A) (b0 : 0 ≤ B) (h1 : X < Y ↔ A < B) (h2 : Y < X ↔ B < A) (h3 : X = 0 ↔ A = 0) (h4 : Y = 0 ↔ B = 0) :
    cmpZ (sg n1 * A) (sg n2 * B) = sgz (sg n1 * X + sg (!n2) * Y) := by
  unfold cmpZ sgz sg
  cases n1 <;> cases n2 <;> simp only [Bool.not_false, Bool.not_true, Bool.false_eq_true, if_false, if_true] <;> repeat (first | omega | split)
end Go.Proofs.YtlhknchmgckgiaaDoor
