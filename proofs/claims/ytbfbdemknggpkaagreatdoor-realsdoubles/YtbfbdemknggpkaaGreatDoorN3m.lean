/- Plain arithmetic for the nearest pattern to a quotient (no program in it), and that for whole numbers it is Pack's. -/
import Derived.Test.YtbfbdemknggpkaaGreatDoorQ2b
namespace Go.Proofs.YtbfbdemknggpkaaGreatDoor
open Go.RowKit
set_option maxHeartbeats 1000000
set_option linter.unusedVariables false

/-- A times 2 to the power e, divided by B, in units of 2 to the power U: above and below the stroke -/
def numI (A e U : Int) : Int := A * p2 (e - U).toNat
def denI (B e U : Int) : Int := B * p2 (U - e).toNat
theorem den_pos (B e U : Int) (h : 0 < B) : 0 < denI B e U := Int.mul_pos h (p2_pos _)
theorem nd_step (A B e U : Int) (k : Nat) (h : p2 (k + 1) * denI B e U ≤ numI A e U) : p2 k * denI B e (U + 1) ≤ numI A e (U + 1) := by
  unfold denI numI at *
  rcases Int.lt_or_le U e with hc | hc
  · rw [show (U - e).toNat = 0 by omega, show (e - U).toNat = (e - (U + 1)).toNat + 1 by omega, p2_succ, p2_succ] at h
    rw [show (U + 1 - e).toNat = 0 by omega]
    have e1 : A * (2 * p2 (e - (U + 1)).toNat) = 2 * (A * p2 (e - (U + 1)).toNat) := Int.mul_left_comm _ _ _
    rw [e1, Int.mul_assoc] at h
    omega
  · rw [show (U + 1 - e).toNat = (U - e).toNat + 1 by omega, p2_succ, show (e - (U + 1)).toNat = 0 by omega]
    rw [show (e - U).toNat = 0 by omega, p2_succ] at h
    have e1 : p2 k * (B * (2 * p2 (U - e).toNat)) = 2 * p2 k * (B * p2 (U - e).toNat) := by
      rw [Int.mul_left_comm B 2, Int.mul_left_comm (p2 k) 2, Int.mul_assoc]
    rw [e1]
    exact h
theorem mul_mono {a b c d : Int} (h1 : a ≤ b) (h2 : c ≤ d) (h3 : 0 ≤ c) (h4 : 0 ≤ b) : a * c ≤ b * d :=
  Int.le_trans (Int.mul_le_mul_of_nonneg_right h1 h3) (Int.mul_le_mul_of_nonneg_left h2 h4)
theorem nd_low (A B e U : Int) (ba bb m : Nat) (h0 : 0 < ba) (hA : p2 (ba - 1) ≤ A) (hB : B ≤ p2 bb) (hB0 : 0 < B) (hU : U = ba - bb + e - m - 1) : p2 m * denI B e U ≤ numI A e U := by
  unfold denI numI
  have h1 : p2 m * (B * p2 (U - e).toNat) ≤ p2 m * (p2 bb * p2 (U - e).toNat) :=
    Int.mul_le_mul_of_nonneg_left (Int.mul_le_mul_of_nonneg_right hB (Int.le_of_lt (p2_pos _))) (Int.le_of_lt (p2_pos _))
  have h2 : p2 (ba - 1) * p2 (e - U).toNat ≤ A * p2 (e - U).toNat := Int.mul_le_mul_of_nonneg_right hA (Int.le_of_lt (p2_pos _))
  rw [← p2_add, ← p2_add] at h1
  rw [← p2_add] at h2
  have h3 : m + (bb + (U - e).toNat) = ba - 1 + (e - U).toNat := by omega
  rw [h3] at h1
  exact Int.le_trans h1 h2
theorem nd_high (A B e U : Int) (ba bb m : Nat) (hA : A < p2 ba) (hB : p2 (bb - 1) ≤ B) (h0 : 0 < bb) (h : p2 (m + 1) * denI B e U ≤ numI A e U) : U + 1 ≤ ba - bb + e - m := by
  unfold denI numI at h
  have h1 : p2 (m + 1) * (p2 (bb - 1) * p2 (U - e).toNat) ≤ p2 (m + 1) * (B * p2 (U - e).toNat) :=
    Int.mul_le_mul_of_nonneg_left (Int.mul_le_mul_of_nonneg_right hB (Int.le_of_lt (p2_pos _))) (Int.le_of_lt (p2_pos _))
  have h2 : A * p2 (e - U).toNat < p2 ba * p2 (e - U).toNat := Int.mul_lt_mul_of_pos_right hA (p2_pos _)
  rw [← p2_add, ← p2_add] at h1
  rw [← p2_add] at h2
  have h3 : p2 (m + 1 + (bb - 1 + (U - e).toNat)) < p2 (ba + (e - U).toNat) := by omega
  rcases Nat.lt_or_ge (m + 1 + (bb - 1 + (U - e).toNat)) (ba + (e - U).toNat) with h4 | h4
  · omega
  · have := p2_mono h4; omega
/-- rounded up, or not -/
def upI (q r D : Int) : Int := q + (if D < 2 * r ∨ (2 * r = D ∧ q % 2 = 1) then 1 else 0)
def nearP (m x : Nat) (U q r D : Int) : Int := min ((U - least m x) * p2 m + upI q r D) ((p2 x - 1) * p2 m)
/-- P is the pattern, without its sign, that is nearest to A times 2 to the power e, divided by B -/
def IsNear (m x : Nat) (A B e P : Int) : Prop := ∃ U q r, least m x ≤ U ∧ q * denI B e U + r = numI A e U ∧ 0 ≤ r ∧ r < denI B e U ∧ 0 ≤ q ∧ q < p2 (m + 1) ∧ (U = least m x ∨ p2 m ≤ q) ∧ P = nearP m x U q r (denI B e U)
/-! ### whole numbers -/
theorem near_unit (m x : Nat) (N e : Int) (c : Int) (hN : 0 < N) (c0 : 0 ≤ c) (c1 : c ≤ 1) (U q r : Int) (h0 : least m x ≤ U) (hq : q * denI 1 (e - 1) U + r = numI (2 * N + c) (e - 1) U) (r0 : 0 ≤ r) (r1 : r < denI 1 (e - 1) U) (q0 : 0 ≤ q) (q1 : q < p2 (m + 1)) (hU : U = least m x ∨ p2 m ≤ q) :
    U = unitI m x (bl N) e := by
  obtain ⟨a, b, d⟩ := bl_bd N hN
  have hD := den_pos 1 (e - 1) U (by decide)
  have eD : denI 1 (e - 1) U = p2 (U - (e - 1)).toNat := by unfold denI; rw [Int.one_mul]
  rw [eD] at hq r1 hD
  unfold numI at hq
  have hb0 : 0 < bl N := a
  -- the bounds of the number
  have hlo : p2 (bl N) ≤ 2 * N + c := by
    have := p2_succ (bl N - 1)
    rw [show bl N - 1 + 1 = bl N by omega] at this
    omega
  have hhi : 2 * N + c < p2 (bl N + 1) := by rw [p2_succ]; omega
  have hl : U ≤ unitI m x (bl N) e := by
    rcases Int.lt_or_le (unitI m x (bl N) e) U with h | h
    · exfalso
      have hu : e + bl N - 1 - m ≤ unitI m x (bl N) e ∧ least m x ≤ unitI m x (bl N) e := by unfold unitI; omega
      have hpq : p2 m ≤ q := by
        rcases hU with h2 | h2
        · omega
        · exact h2
      have h3 : p2 m * p2 (U - (e - 1)).toNat ≤ q * p2 (U - (e - 1)).toNat := Int.mul_le_mul_of_nonneg_right hpq (by omega)
      have h4 : (2 * N + c) * p2 (e - 1 - U).toNat < p2 (bl N + 1) * p2 (e - 1 - U).toNat := Int.mul_lt_mul_of_pos_right hhi (p2_pos _)
      rw [← p2_add] at h3
      rw [← p2_add] at h4
      have h5 : p2 (bl N + 1 + (e - 1 - U).toNat) ≤ p2 (m + (U - (e - 1)).toNat) := p2_mono (by omega)
      omega
    · exact h
  rcases Int.lt_or_le U (unitI m x (bl N) e) with h | h
  · exfalso
    have hu : unitI m x (bl N) e = e + bl N - 1 - m := by unfold unitI at *; omega
    have h3 : (q + 1) * p2 (U - (e - 1)).toNat ≤ p2 (m + 1) * p2 (U - (e - 1)).toNat := Int.mul_le_mul_of_nonneg_right (by omega) (by omega)
    rw [Int.add_mul, Int.one_mul] at h3
    have h4 : p2 (bl N) * p2 (e - 1 - U).toNat ≤ (2 * N + c) * p2 (e - 1 - U).toNat := Int.mul_le_mul_of_nonneg_right hlo (Int.le_of_lt (p2_pos _))
    rw [← p2_add] at h3
    rw [← p2_add] at h4
    have h5 : p2 (m + 1 + (U - (e - 1)).toNat) ≤ p2 (bl N + (e - 1 - U).toNat) := p2_mono (by omega)
    omega
  · omega
theorem near_units (N e U c q r : Int) (more : Bool) (hN : 0 ≤ N) (hc : c = if more then 1 else 0) (hm : more = true → 2 ≤ U - e) (hq : q * denI 1 (e - 1) U + r = numI (2 * N + c) (e - 1) U) (r0 : 0 ≤ r) (r1 : r < denI 1 (e - 1) U) :
    upI q r (denI 1 (e - 1) U) = unitsI N (U - e) more := by
  have eD : denI 1 (e - 1) U = p2 (U - (e - 1)).toNat := by unfold denI; rw [Int.one_mul]
  rw [eD] at hq r1 ⊢
  clear eD
  unfold numI at hq
  rcases Int.lt_or_le (U - e) 0 with h | h
  · have hc0 : c = 0 := by
      cases more
      · exact hc
      · have := hm rfl; omega
    subst hc0
    have p0 : p2 0 = 1 := rfl
    rw [show (U - (e - 1)).toNat = 0 by omega, p0] at hq r1 ⊢
    have hun : unitsI N (U - e) more = N * (2 * p2 (e - 1 - U).toNat) := by
      unfold unitsI
      rw [if_pos (by omega), show (-(U - e)).toNat = (e - 1 - U).toNat + 1 by omega, p2_succ]
    rw [hun]
    unfold upI
    rw [if_neg (by omega)]
    rw [Int.add_zero, Int.mul_assoc] at hq
    have : N * (2 * p2 (e - 1 - U).toNat) = 2 * (N * p2 (e - 1 - U).toNat) := Int.mul_left_comm _ _ _
    omega
  · have p0 : p2 0 = 1 := rfl
    rw [show (U - (e - 1)).toNat = (U - e).toNat + 1 by omega, p2_succ] at hq r1 ⊢
    rw [show (e - 1 - U).toNat = 0 by omega, p0, Int.mul_one] at hq
    rcases Int.lt_or_le 0 (U - e) with h2 | h2
    · -- the unit is greater
      have hk : (U - e).toNat = ((U - e).toNat - 1) + 1 := by omega
      have hun : unitsI N (U - e) more = N / p2 ((U - e).toNat - 1) / 2 + (if N / p2 ((U - e).toNat - 1) % 2 = 1 ∧ (more = true ∨ N % p2 ((U - e).toNat - 1) ≠ 0 ∨ N / p2 ((U - e).toNat - 1) / 2 % 2 = 1) then 1 else 0) := by
        unfold unitsI rnd
        rw [if_neg (by omega)]
      rw [hun]
      unfold upI
      have hkp : p2 (U - e).toNat = 2 * p2 ((U - e).toNat - 1) := by rw [← p2_succ]; congr 1
      rw [hkp] at hq r1 ⊢
      have hP := p2_pos ((U - e).toNat - 1)
      generalize p2 ((U - e).toNat - 1) = P at *
      have e1 := Int.mul_ediv_add_emod N P
      have e2 := Int.emod_nonneg N (show P ≠ 0 by omega)
      have e3 := Int.emod_lt_of_pos N hP
      have hH0 : 0 ≤ N / P := Int.ediv_nonneg hN (by omega)
      generalize N / P = H at *
      generalize N % P = R at *
      -- q is the half of H
      have hc01 : 0 ≤ c ∧ c ≤ 1 := by rw [hc]; split <;> omega
      have hqH : q = H / 2 := by
        have h5 : H = 2 * (H / 2) + H % 2 := by omega
        have h6 : P * H = 2 * (P * (H / 2)) + P * (H % 2) := by
          conv => lhs; rw [h5]
          rw [Int.mul_add, Int.mul_left_comm]
        have h7 : 0 ≤ P * (H % 2) ∧ P * (H % 2) ≤ P := by
          rcases (show H % 2 = 0 ∨ H % 2 = 1 by omega) with h8 | h8 <;> rw [h8] <;> omega
        have h9 : q * (2 * (2 * P)) = 4 * (q * P) := by rw [Int.mul_left_comm q 2, Int.mul_left_comm q 2]; omega
        have h10 : P * (H / 2) = (H / 2) * P := Int.mul_comm _ _
        rw [h9] at hq
        rw [h10] at h6
        -- 4 q P + r = 2 (2 (H/2) P + s + R) + c, with s at most P
        have hle : q * P - (H / 2) * P < P := by omega
        have hge : (H / 2) * P - q * P < P := by omega
        rw [← Int.sub_mul] at hle hge
        have k1 : q - H / 2 < 1 := by
          rcases Int.lt_or_le (q - H / 2) 1 with k | k
          · exact k
          · have := Int.mul_le_mul_of_nonneg_right k (Int.le_of_lt hP); omega
        have k2 : H / 2 - q < 1 := by
          rcases Int.lt_or_le (H / 2 - q) 1 with k | k
          · exact k
          · have := Int.mul_le_mul_of_nonneg_right k (Int.le_of_lt hP); omega
        omega
      subst hqH
      have hrr : r = 2 * (P * (H % 2)) + 2 * R + c := by
        have h5 : H = 2 * (H / 2) + H % 2 := by omega
        have h6 : P * H = 2 * (P * (H / 2)) + P * (H % 2) := by
          conv => lhs; rw [h5]
          rw [Int.mul_add, Int.mul_left_comm]
        have h9 : H / 2 * (2 * (2 * P)) = 4 * (P * (H / 2)) := by rw [Int.mul_comm P]; rw [Int.mul_left_comm _ 2, Int.mul_left_comm _ 2]; omega
        rw [h9] at hq
        omega
      congr 1
      have hcm : (more = true ↔ c = 1) := by rw [hc]; cases more <;> simp
      rcases (show H % 2 = 0 ∨ H % 2 = 1 by omega) with h8 | h8
      · rw [h8, Int.mul_zero] at hrr
        rw [if_neg (by omega), if_neg (by omega)]
      · rw [h8, Int.mul_one] at hrr
        cases more
        · have hc0 : c = 0 := hc
          simp only [Bool.false_eq_true, false_or]
          split <;> split <;> omega
        · have hc1 : c = 1 := hc
          simp only [true_or, and_true]
          split <;> omega
    · -- the unit is the number's own
      have hue : U = e := by omega
      subst hue
      have hc0 : c = 0 := by
        cases more
        · exact hc
        · have := hm rfl; omega
      subst hc0
      have hun : unitsI N (U - U) more = N := by
        unfold unitsI
        rw [if_pos (by omega), show (-(U - U)).toNat = 0 by omega, p0, Int.mul_one]
      rw [hun]
      rw [show (U - U).toNat = 0 by omega, p0] at hq r1 ⊢
      unfold upI
      rw [if_neg (by omega)]
      omega
theorem near_pack (m x : Nat) (N e P : Int) (more : Bool) (hN : 0 < N) (hx : 2 ≤ x) (hk : more = true → m + 3 ≤ bl N) (h : IsNear m x (2 * N + (if more then 1 else 0)) 1 (e - 1) P) : P = packP m x N e more := by
  obtain ⟨U, q, r, h0, hq, r0, r1, q0, q1, hU, hP⟩ := h
  have hc : 0 ≤ (if more then (1 : Int) else 0) ∧ (if more then (1 : Int) else 0) ≤ 1 := by split <;> omega
  have hu := near_unit m x N e _ hN hc.1 hc.2 U q r h0 hq r0 r1 q0 q1 hU
  have hmo : more = true → 2 ≤ U - e := by
    intro hm
    have := hk hm
    have : e + bl N - 1 - m ≤ unitI m x (bl N) e := by unfold unitI; omega
    omega
  have hv := near_units N e U _ q r more (by omega) rfl hmo hq r0 r1
  rw [hP]
  unfold nearP
  rw [hv, hu, packP_pos m x N e more hN]
  by_cases ht : bias x < e + bl N - 1
  · rw [if_pos ht]
    have hub := units_bd m x N e more hN
    have hb := bias_two x hx
    have h2 : bias x - m < unitI m x (bl N) e := by unfold unitI; omega
    have h3 : least m x = 1 - bias x - m := rfl
    have hpx4 : p2 2 ≤ p2 x := p2_mono hx
    have hp4 : p2 2 = 4 := rfl
    have h4 := hub.2.2 (by omega)
    have h5 : (p2 x - 2) * p2 m ≤ (unitI m x (bl N) e - least m x) * p2 m := Int.mul_le_mul_of_nonneg_right (by omega) (Int.le_of_lt (p2_pos _))
    have h6 : (p2 x - 1) * p2 m = (p2 x - 2) * p2 m + p2 m := by
      rw [show p2 x - 1 = p2 x - 2 + 1 by omega, Int.add_mul, Int.one_mul]
    omega
  · rw [if_neg ht]
    have := (pack_bd m x N e more (by omega) hx).2
    rw [packP_pos m x N e more hN, if_neg ht] at this
    omega
end Go.Proofs.YtbfbdemknggpkaaGreatDoor
