/- Plain facts on integers as patterns: what their doubles and singles say, and how these add up and compare (no program in it). -/
import Derived.Test.YtlhknchmgckgiaaDoorK6
import Derived.Test.YtlhknchmgckgiaaDoorR4a
namespace Go.Proofs.YtlhknchmgckgiaaDoor
open Go.RowKit
set_option maxHeartbeats 400000
set_option linter.unusedVariables false

/-- the integer A in a format -/
def intP (m x : Nat) (A : Int) : Int := packP m x (absI A) 0 false + sgnW (decide (A < 0)) (m + x)
def valI (n : Int) : Int := if 2147483648 ≤ n then n - 4294967296 else n
theorem of_int (m x : Nat) (n : Int) (n0 : 0 ≤ n) (n1 : n ≤ 4294967295) : ofI m x n = intP m x (valI n) := by
  unfold ofI intP valI sizeI absI
  by_cases h : 2147483648 ≤ n
  · rw [if_pos h, if_pos h, if_pos (by omega), decide_eq_true h, decide_eq_true (show n - 4294967296 < 0 by omega), show -(n - 4294967296) = 4294967296 - n by omega]
  · rw [if_neg h, if_neg h, if_neg (by omega), decide_eq_false h, decide_eq_false (show ¬ n < 0 by omega)]
theorem int_zero (m x : Nat) : intP m x 0 = 0 := by simp [intP, absI, packP, sgnW]
/-- a number N above 0 that has at most m + 1 bits -/
theorem int_fin (m x : Nat) (N : Int) (hx : 2 ≤ x) (hN : 0 < N) (hb : bl N ≤ m + 1) (hl : least m x ≤ -((m + 1 - bl N : Nat) : Int)) (hu : -((m + 1 - bl N : Nat) : Int) ≤ bias x - m) : FinP m x (-((m + 1 - bl N : Nat) : Int)) (N * p2 (m + 1 - bl N)) := by
  obtain ⟨b0, b1, b2⟩ := bl_bd N hN
  refine ⟨Int.mul_pos hN (p2_pos _), ?_, hl, hu, .inl ?_⟩
  · have := Int.mul_lt_mul_of_pos_right b2 (p2_pos (m + 1 - bl N))
    rw [← p2_add, show bl N + (m + 1 - bl N) = m + 1 by omega] at this
    exact this
  · have := Int.mul_le_mul_of_nonneg_right b1 (Int.le_of_lt (p2_pos (m + 1 - bl N)))
    rw [← p2_add, show bl N - 1 + (m + 1 - bl N) = m by omega] at this
    exact this
/-- what the pattern of an integer says -/
theorem int_parts (m x : Nat) (A : Int) (k : Nat) (hx : 2 ≤ x) (h : FinP m x (-(k : Int)) (absI A * p2 k)) (hA : 0 ≤ absI A) :
    kindI m x (intP m x A) = 2 ∧ negI m x (intP m x A) = decide (A < 0) ∧ expI m x (intP m x A) = -(k : Int) ∧ manI m x (intP m x A) = absI A * p2 k := by
  have e : intP m x A = (-(k : Int) - least m x) * p2 m + absI A * p2 k + sgnW (decide (A < 0)) (m + x) := by
    unfold intP
    have h1 := pack_scale m x (absI A) 0 k hA
    rw [Int.zero_sub] at h1
    rw [← h1, pack_self m x _ _ hx h]
  rw [e]
  exact open_fin m x _ _ _ hx h
theorem abs_pos (A : Int) (h : A ≠ 0) : 0 < absI A := by unfold absI; split <;> omega
theorem abs_nn (A : Int) : 0 ≤ absI A := by unfold absI; split <;> omega
theorem bl53 (N : Int) (h0 : 0 < N) (h1 : N < 17179869184) : bl N ≤ 34 ∧ 0 < bl N := by
  have h := bl_le (Int.le_of_lt h0) (show N < p2 34 by rw [show p2 34 = 17179869184 by decide +kernel]; exact h1)
  exact ⟨h, (bl_bd N h0).1⟩
theorem dbl_fin (N : Int) (h0 : 0 < N) (h1 : N < 17179869184) : FinP 52 11 (-((52 + 1 - bl N : Nat) : Int)) (N * p2 (52 + 1 - bl N)) := by
  obtain ⟨b0, b1⟩ := bl53 N h0 h1
  have l2 : least ((52 : Nat) : Int) ((11 : Nat) : Int) = -1074 := by decide +kernel
  have c2 : bias ((11 : Nat) : Int) = 1023 := by decide +kernel
  exact int_fin 52 11 N (by decide) h0 (by omega) (by rw [l2]; omega) (by rw [c2]; omega)
/-- doubles of integers add up -/
theorem dbl_add (A B : Int) (hA : absI A < 8589934592) (hB : absI B < 8589934592) :
    addK 52 11 (intP 52 11 A) (intP 52 11 B) (kindI 52 11 (intP 52 11 A)) (negI 52 11 (intP 52 11 A)) (expI 52 11 (intP 52 11 A)) (manI 52 11 (intP 52 11 A)) (kindI 52 11 (intP 52 11 B)) (negI 52 11 (intP 52 11 B)) (expI 52 11 (intP 52 11 B)) (manI 52 11 (intP 52 11 B)) = intP 52 11 (A + B) := by
  have z := open_zero 52 11 false (by decide)
  rw [show sgnW false (52 + 11) = 0 from rfl] at z
  by_cases h1 : A = 0
  · subst h1
    rw [int_zero, z.1, Int.zero_add]
    by_cases h2 : B = 0
    · subst h2
      rw [int_zero, z.1, z.2]
      simp [addK, sgnW]
    · obtain ⟨p1, p2', p3, p4⟩ := int_parts 52 11 B _ (by decide) (dbl_fin (absI B) (abs_pos B h2) (by omega)) (abs_nn B)
      rw [p1]
      simp [addK]
  · obtain ⟨p1, p2', p3, p4⟩ := int_parts 52 11 A _ (by decide) (dbl_fin (absI A) (abs_pos A h1) (by omega)) (abs_nn A)
    by_cases h2 : B = 0
    · subst h2
      rw [int_zero, z.1, p1, Int.add_zero]
      simp [addK]
    · obtain ⟨q1, q2, q3, q4⟩ := int_parts 52 11 B _ (by decide) (dbl_fin (absI B) (abs_pos B h2) (by omega)) (abs_nn B)
      rw [p1, p2', p3, p4, q1, q2, q3, q4]
      generalize 52 + 1 - bl (absI A) = k1
      generalize 52 + 1 - bl (absI B) = k2
      have e : addK 52 11 (intP 52 11 A) (intP 52 11 B) 2 (decide (A < 0)) (-(k1 : Int)) (absI A * p2 k1) 2 (decide (B < 0)) (-(k2 : Int)) (absI B * p2 k2) = sumI 52 11 (decide (A < 0)) (-(k1 : Int)) (absI A * p2 k1) (decide (B < 0)) (-(k2 : Int)) (absI B * p2 k2) := by simp [addK]
      rw [e]
      obtain ⟨K, hK⟩ : ∃ K : Nat, min (-(k1 : Int)) (-(k2 : Int)) = -(K : Int) := ⟨max k1 k2, by omega⟩
      have sgA : sg (decide (A < 0)) * absI A = A := by unfold sg absI; by_cases h : A < 0 <;> simp [h] <;> omega
      have sgB : sg (decide (B < 0)) * absI B = B := by unfold sg absI; by_cases h : B < 0 <;> simp [h] <;> omega
      have hs : sumS (decide (A < 0)) (-(k1 : Int)) (absI A * p2 k1) (decide (B < 0)) (-(k2 : Int)) (absI B * p2 k2) = (A + B) * p2 K := by
        unfold sumS
        rw [hK, show (-(k1 : Int) - -(K : Int)).toNat = K - k1 by omega, show (-(k2 : Int) - -(K : Int)).toNat = K - k2 by omega, Int.mul_assoc, ← p2_add, Int.mul_assoc, ← p2_add, show k1 + (K - k1) = K by omega, show k2 + (K - k2) = K by omega, ← Int.mul_assoc, ← Int.mul_assoc, sgA, sgB, Int.add_mul]
      unfold sumI
      rw [hs, hK]
      have hP := p2_pos K
      have ha : absI ((A + B) * p2 K) = absI (A + B) * p2 K := by
        unfold absI
        by_cases h : A + B < 0
        · rw [if_pos h, if_pos (Int.mul_neg_of_neg_of_pos h hP), Int.neg_mul]
        · rw [if_neg h, if_neg (by have := Int.mul_nonneg (show 0 ≤ A + B by omega) (Int.le_of_lt hP); omega)]
      have hd : decide ((A + B) * p2 K < 0) = decide (A + B < 0) := by
        by_cases h : A + B < 0
        · rw [decide_eq_true h, decide_eq_true (Int.mul_neg_of_neg_of_pos h hP)]
        · rw [decide_eq_false h, decide_eq_false (by have := Int.mul_nonneg (show 0 ≤ A + B by omega) (Int.le_of_lt hP); omega)]
      rw [ha, hd]
      have h1 := pack_scale 52 11 (absI (A + B)) 0 K (abs_nn _)
      rw [Int.zero_sub] at h1
      rw [h1]
      rfl
theorem int_low (m x : Nat) (A : Int) (hx : 2 ≤ x) : intP m x A % p2 (m + x) = packP m x (absI A) 0 false := by
  have hbd := pack_bd m x (absI A) 0 false (abs_nn A) hx
  have hT : (p2 x - 1) * p2 m = p2 (m + x) - p2 m := by rw [Int.sub_mul, Int.one_mul, ← p2_add, Nat.add_comm x m]
  have hP := p2_pos m
  exact sgn_low (m + x) _ _ hbd.1 (by omega)
/-- doubles of integers stand in their order -/
theorem dbl_cmp (A B : Int) (hA : absI A < 8589934592) (hB : absI B < 8589934592) : (cmpZ (rankI (52 + 11) (intP 52 11 A)) (rankI (52 + 11) (intP 52 11 B)) < 0 ↔ A < B) := by
  have ok52' : okF ((52 : Nat) : Int) ((11 : Nat) : Int) := by unfold okF; omega
  have hbdA := pack_lt 52 11 (absI A) 0 false (decide (A < 0)) (abs_nn A) (by decide)
  have hbdB := pack_lt 52 11 (absI B) 0 false (decide (B < 0)) (abs_nn B) (by decide)
  have gA := patK 52 11 (intP 52 11 A) ok52' hbdA.1 (bl_of_lt 52 11 _ hbdA.1 hbdA.2)
  have gB := patK 52 11 (intP 52 11 B) ok52' hbdB.1 (bl_of_lt 52 11 _ hbdB.1 hbdB.2)
  have z := open_zero 52 11 false (by decide)
  rw [show sgnW false (52 + 11) = 0 from rfl] at z
  have key : ∀ C : Int, absI C < 8589934592 → C ≠ 0 → ∃ G : Int, 0 < G ∧ rankI (52 + 11) (intP 52 11 C) = sg (decide (C < 0)) * G := by
    intro C hC h
    obtain ⟨p1, p2', p3, p4⟩ := int_parts 52 11 C _ (by decide) (dbl_fin (absI C) (abs_pos C h) (by omega)) (abs_nn C)
    have hbd := pack_lt 52 11 (absI C) 0 false (decide (C < 0)) (abs_nn C) (by decide)
    have g := patK 52 11 (intP 52 11 C) ok52' hbd.1 (bl_of_lt 52 11 _ hbd.1 hbd.2)
    obtain ⟨r1, s1, u1, v1⟩ := mag_rank 52 11 _ _ _ _ _ ok52' g (by rw [p1]; decide)
    rw [p2'] at r1
    exact ⟨_, (v1 p1).1, r1⟩
  have rz : rankI (52 + 11) (intP 52 11 0) = 0 := by rw [int_zero]; decide +kernel
  have cz : ∀ p q : Int, cmpZ p q < 0 ↔ p < q := by
    intro p q
    unfold cmpZ
    split
    · constructor <;> intro h <;> omega
    · split
      · constructor <;> intro h <;> omega
      · constructor <;> intro h <;> omega
  by_cases h1 : A = 0
  · subst h1
    rw [rz, cz]
    by_cases h2 : B = 0
    · subst h2
      rw [rz]
    · obtain ⟨G, hG, e⟩ := key B hB h2
      rw [e]
      unfold sg
      by_cases h : B < 0
      · simp [h]; omega
      · simp [h]; omega
  · by_cases h2 : B = 0
    · subst h2
      rw [rz, cz]
      obtain ⟨G, hG, e⟩ := key A hA h1
      rw [e]
      unfold sg
      by_cases h : A < 0
      · simp [h]; omega
      · simp [h]; omega
    · obtain ⟨p1, p2', p3, p4⟩ := int_parts 52 11 A _ (by decide) (dbl_fin (absI A) (abs_pos A h1) (by omega)) (abs_nn A)
      obtain ⟨q1, q2, q3, q4⟩ := int_parts 52 11 B _ (by decide) (dbl_fin (absI B) (abs_pos B h2) (by omega)) (abs_nn B)
      obtain ⟨r1, s1, u1, v1⟩ := mag_rank 52 11 _ _ _ _ _ ok52' gA (by rw [p1]; decide)
      obtain ⟨r2, s2, u2, v2⟩ := mag_rank 52 11 _ _ _ _ _ ok52' gB (by rw [q1]; decide)
      have fA := dbl_fin (absI A) (abs_pos A h1) (by omega)
      have fB := dbl_fin (absI B) (abs_pos B h2) (by omega)
      rw [p1, p2', p3, p4] at r1
      rw [p1, p3, p4] at s1 v1
      rw [q1, q2, q3, q4] at r2
      rw [q1, q3, q4] at s2 v2
      have w1 := (v1 rfl).1
      have w2 := (v2 rfl).1
      rw [r1, r2]
      generalize 52 + 1 - bl (absI A) = k1 at *
      generalize 52 + 1 - bl (absI B) = k2 at *
      obtain ⟨K, hK⟩ : ∃ K : Nat, min (-(k1 : Int)) (-(k2 : Int)) = -(K : Int) := ⟨max k1 k2, by omega⟩
      have ho := fin_order 52 11 _ _ _ _ (K - k1) (K - k2) fA fB (by rw [hK]; omega) (by rw [hK]; omega)
      rw [Int.mul_assoc, ← p2_add, show k1 + (K - k1) = K by omega, Int.mul_assoc, ← p2_add, show k2 + (K - k2) = K by omega] at ho
      have hX : 0 < absI A * p2 K := Int.mul_pos (abs_pos A h1) (p2_pos K)
      have hY : 0 < absI B * p2 K := Int.mul_pos (abs_pos B h2) (p2_pos K)
      have m1 : magI 52 11 2 (-(k1 : Int)) (absI A * p2 k1) = (-(k1 : Int) - least ((52 : Nat) : Int) ((11 : Nat) : Int)) * p2 52 + absI A * p2 k1 := by simp [magI]
      have m2 : magI 52 11 2 (-(k2 : Int)) (absI B * p2 k2) = (-(k2 : Int) - least ((52 : Nat) : Int) ((11 : Nat) : Int)) * p2 52 + absI B * p2 k2 := by simp [magI]
      rw [m1] at w1 s1 ⊢
      rw [m2] at w2 s2 ⊢
      rw [cmp_sum _ _ (absI A * p2 K) (absI B * p2 K) _ _ (by omega) (by omega) s1 s2 ho.1 ho.2 (by omega) (by omega)]
      have sgA : sg (decide (A < 0)) * absI A = A := by unfold sg absI; by_cases h : A < 0 <;> simp [h] <;> omega
      have sgB : sg (!decide (B < 0)) * absI B = -B := by unfold sg absI; by_cases h : B < 0 <;> simp [h] <;> omega
      have es : sg (decide (A < 0)) * (absI A * p2 K) + sg (!decide (B < 0)) * (absI B * p2 K) = (A - B) * p2 K := by
        rw [← Int.mul_assoc, ← Int.mul_assoc, sgA, sgB, Int.sub_mul, Int.neg_mul]
        omega
      rw [es]
      have hP := p2_pos K
      by_cases h : A < B
      · have hn := Int.mul_neg_of_neg_of_pos (show A - B < 0 by omega) hP
        unfold sgz
        rw [if_pos hn]
        constructor
        · intro _; exact h
        · intro _; decide
      · have hn := Int.mul_nonneg (show 0 ≤ A - B by omega) (Int.le_of_lt hP)
        unfold sgz
        rw [if_neg (by omega)]
        constructor
        · intro h'; exfalso; split at h' <;> omega
        · intro h'; exact absurd h' h
end Go.Proofs.YtlhknchmgckgiaaDoor
