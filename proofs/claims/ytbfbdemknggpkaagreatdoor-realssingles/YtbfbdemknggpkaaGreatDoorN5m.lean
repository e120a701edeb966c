/- Plain arithmetic (no program in it): the nearest pattern to a quotient is Pack's, wherever a number of so many units, and perhaps a little more, is the quotient. -/
import Derived.Test.YtbfbdemknggpkaaGreatDoorN3m
namespace Go.Proofs.YtbfbdemknggpkaaGreatDoor
open Go.RowKit
set_option maxHeartbeats 1000000
set_option linter.unusedVariables false

theorem nd_cross (A B e e' U : Int) : numI A e U * ((B * p2 (e' - e).toNat) * p2 (U - e').toNat) = (A * p2 (e - e').toNat) * (denI B e U * p2 (e' - U).toNat) := by
  unfold numI denI
  have h1 : A * p2 (e - U).toNat * (B * p2 (e' - e).toNat * p2 (U - e').toNat) = A * B * (p2 (e - U).toNat * (p2 (e' - e).toNat * p2 (U - e').toNat)) := by ac_rfl
  have h2 : A * p2 (e - e').toNat * (B * p2 (U - e).toNat * p2 (e' - U).toNat) = A * B * (p2 (e - e').toNat * (p2 (U - e).toNat * p2 (e' - U).toNat)) := by ac_rfl
  rw [h1, h2, ← p2_add, ← p2_add, ← p2_add, ← p2_add]
  congr 2
  omega
theorem lt_of_mul {a b c : Int} (hc : 0 < c) (h : a * c < b * c) : a < b := by
  rcases Int.lt_or_le a b with h1 | h1
  · exact h1
  · have := Int.mul_le_mul_of_nonneg_right h1 (Int.le_of_lt hc); omega
theorem le_of_mul {a b c : Int} (hc : 0 < c) (h : a * c ≤ b * c) : a ≤ b := by
  rcases Int.lt_or_le b a with h1 | h1
  · have := Int.mul_lt_mul_of_pos_right h1 hc; omega
  · exact h1
/-- the quotient in the unit, out of the number in its own -/
theorem near_floor (A B e P N e' U q r : Int) (hB : 0 < B) (h1 : N * (B * p2 (e' - e).toNat) ≤ A * p2 (e - e').toNat) (h2 : A * p2 (e - e').toNat < (N + 1) * (B * p2 (e' - e).toNat))
    (hq : q * denI B e U + r = numI A e U) (r0 : 0 ≤ r) (r1 : r < denI B e U) :
    q * p2 (U - e').toNat < (N + 1) * p2 (e' - U).toNat ∧ N * p2 (e' - U).toNat < (q + 1) * p2 (U - e').toNat := by
  have hc := nd_cross A B e e' U
  have hb : 0 < B * p2 (e' - e).toNat := Int.mul_pos hB (p2_pos _)
  have hD := den_pos B e U hB
  have hα := p2_pos (e' - U).toNat
  have hβ := p2_pos (U - e').toNat
  generalize B * p2 (e' - e).toNat = b at *
  generalize A * p2 (e - e').toNat = a at *
  generalize denI B e U = D at *
  generalize numI A e U = n at *
  generalize p2 (e' - U).toNat = α at *
  generalize p2 (U - e').toNat = β at *
  have hbβ : 0 < b * β := Int.mul_pos hb hβ
  have hDα : 0 < D * α := Int.mul_pos hD hα
  have k1 : q * D ≤ n := by omega
  have k2 : n < (q + 1) * D := by rw [Int.add_mul, Int.one_mul]; omega
  have k3 : q * D * (b * β) ≤ a * (D * α) := by rw [← hc]; exact Int.mul_le_mul_of_nonneg_right k1 (by omega)
  have k4 : a * (D * α) < (q + 1) * D * (b * β) := by rw [← hc]; exact Int.mul_lt_mul_of_pos_right k2 hbβ
  have k5 : N * b * (D * α) ≤ a * (D * α) := Int.mul_le_mul_of_nonneg_right h1 (by omega)
  have k6 : a * (D * α) < (N + 1) * b * (D * α) := Int.mul_lt_mul_of_pos_right h2 hDα
  have hDb : 0 < D * b := Int.mul_pos hD hb
  constructor
  · refine lt_of_mul hDb ?_
    have e1 : q * β * (D * b) = q * D * (b * β) := by ac_rfl
    have e2 : (N + 1) * α * (D * b) = (N + 1) * b * (D * α) := by ac_rfl
    omega
  · refine lt_of_mul hDb ?_
    have e1 : (q + 1) * β * (D * b) = (q + 1) * D * (b * β) := by ac_rfl
    have e2 : N * α * (D * b) = N * b * (D * α) := by ac_rfl
    omega
theorem near_unit_gen (m x : Nat) (N e' U q : Int) (hN : 0 < N) (h0 : least m x ≤ U) (q0 : 0 ≤ q) (q1 : q < p2 (m + 1)) (hU : U = least m x ∨ p2 m ≤ q)
    (f1 : q * p2 (U - e').toNat < (N + 1) * p2 (e' - U).toNat) (f2 : N * p2 (e' - U).toNat < (q + 1) * p2 (U - e').toNat) : U = unitI m x (bl N) e' := by
  obtain ⟨a, b, d⟩ := bl_bd N hN
  have hα := p2_pos (e' - U).toNat
  have hβ := p2_pos (U - e').toNat
  rcases Int.lt_trichotomy U (unitI m x (bl N) e') with h | h | h
  · exfalso
    have hu : unitI m x (bl N) e' = e' + bl N - 1 - m := by unfold unitI at *; omega
    have h3 : (q + 1) * p2 (U - e').toNat ≤ p2 (m + 1) * p2 (U - e').toNat := Int.mul_le_mul_of_nonneg_right (by omega) (by omega)
    have h4 : p2 (bl N - 1) * p2 (e' - U).toNat ≤ N * p2 (e' - U).toNat := Int.mul_le_mul_of_nonneg_right b (by omega)
    rw [← p2_add] at h3 h4
    have h5 : p2 (m + 1 + (U - e').toNat) ≤ p2 (bl N - 1 + (e' - U).toNat) := p2_mono (by omega)
    omega
  · exact h
  · exfalso
    have hu : e' + bl N - 1 - m ≤ unitI m x (bl N) e' ∧ least m x ≤ unitI m x (bl N) e' := by unfold unitI; omega
    have hpq : p2 m ≤ q := by rcases hU with h2 | h2 <;> omega
    have h3 : p2 m * p2 (U - e').toNat ≤ q * p2 (U - e').toNat := Int.mul_le_mul_of_nonneg_right hpq (by omega)
    have h4 : (N + 1) * p2 (e' - U).toNat ≤ p2 (bl N) * p2 (e' - U).toNat := Int.mul_le_mul_of_nonneg_right (by omega) (by omega)
    rw [← p2_add] at h3 h4
    have h5 : p2 (bl N + (e' - U).toNat) ≤ p2 (m + (U - e').toNat) := p2_mono (by omega)
    omega
theorem near_pack_gen (m x : Nat) (A B e P N e' : Int) (more : Bool) (hN : 0 < N) (hB : 0 < B) (hx : 2 ≤ x) (hk : more = true → m + 3 ≤ bl N) (h : IsNear m x A B e P)
    (h1 : N * (B * p2 (e' - e).toNat) ≤ A * p2 (e - e').toNat) (h2 : A * p2 (e - e').toNat < (N + 1) * (B * p2 (e' - e).toNat)) (h3 : more = false ↔ A * p2 (e - e').toNat = N * (B * p2 (e' - e).toNat)) :
    P = packP m x N e' more := by
  obtain ⟨U, q, r, h0, hq, r0, r1, q0, q1, hU, hP⟩ := h
  obtain ⟨f1, f2⟩ := near_floor A B e P N e' U q r hB h1 h2 hq r0 r1
  have hu := near_unit_gen m x N e' U q hN h0 q0 q1 hU f1 f2
  have hmo : more = true → 2 ≤ U - e' := by
    intro hm
    have := hk hm
    have : e' + bl N - 1 - m ≤ unitI m x (bl N) e' := by unfold unitI; omega
    omega
  have hc := nd_cross A B e e' U
  have hb : 0 < B * p2 (e' - e).toNat := Int.mul_pos hB (p2_pos _)
  have hD := den_pos B e U hB
  have hv : upI q r (denI B e U) = unitsI N (U - e') more := by
    rcases Int.lt_or_le 0 (U - e') with hn | hn
    · -- a greater unit
      have hα : p2 (e' - U).toNat = 1 := by rw [show (e' - U).toNat = 0 by omega]; rfl
      rw [hα, Int.mul_one] at hc f1 f2
      obtain ⟨k, hkn⟩ : ∃ k : Nat, (U - e').toNat = k + 1 := ⟨(U - e').toNat - 1, by omega⟩
      have hun : unitsI N (U - e') more = rnd N (k + 1) more := by
        unfold unitsI
        rw [if_neg (by omega), hkn]
      rw [hun]
      rw [hkn, p2_succ] at hc f1 f2
      unfold rnd upI
      rw [show k + 1 - 1 = k by omega]
      have hH := p2_pos k
      have e1 := Int.mul_ediv_add_emod N (p2 k)
      have e2 := Int.emod_nonneg N (show p2 k ≠ 0 by omega)
      have e3 := Int.emod_lt_of_pos N hH
      generalize p2 k = H at *
      generalize B * p2 (e' - e).toNat = b at *
      generalize A * p2 (e - e').toNat = a at *
      generalize denI B e U = D at *
      generalize numI A e U = n at *
      generalize N / H = t at *
      generalize N % H = R at *
      -- q is the half of t
      have g1 : q * (2 * H) = 2 * (q * H) := Int.mul_left_comm _ _ _
      have g2 : (q + 1) * (2 * H) = 2 * (q * H) + 2 * H := by rw [Int.add_mul, Int.one_mul, g1]
      have g3 : H * t = t * H := Int.mul_comm _ _
      rw [g1] at f1
      rw [g2] at f2
      rw [g3] at e1
      have ht : t = 2 * q ∨ t = 2 * q + 1 := by
        have i1 : (2 * q) * H < (t + 1) * H := by rw [Int.add_mul, Int.one_mul, Int.mul_assoc]; omega
        have i2 : t * H < (2 * q + 2) * H := by rw [Int.add_mul, Int.mul_assoc]; omega
        have := lt_of_mul hH i1
        have := lt_of_mul hH i2
        omega
      have htq : t / 2 = q := by omega
      rw [htq]
      congr 1
      -- where the middle lies
      have hmid : ∀ z : Int, z = 2 * q + 1 → (D < 2 * r ↔ z * H * b < a) ∧ (2 * r = D ↔ a = z * H * b) := by
        intro z hz
        have i3 : 2 * n = 2 * (q * D) + 2 * r := by omega
        have i4 : z * H * b * (2 * D) = (2 * q + 1) * D * (b * (2 * H)) := by rw [hz]; ac_rfl
        have i5 : a * (2 * D) = 2 * n * (b * (2 * H)) := by
          have : 2 * n * (b * (2 * H)) = 2 * (n * (b * (2 * H))) := Int.mul_assoc _ _ _
          rw [this, hc]
          rw [Int.mul_left_comm]
        have hbH : 0 < b * (2 * H) := Int.mul_pos hb (by omega)
        have h2D : 0 < 2 * D := by omega
        have i6 : (2 * q + 1) * D = 2 * (q * D) + D := by rw [Int.add_mul, Int.one_mul, Int.mul_assoc]
        refine ⟨⟨fun hlt => lt_of_mul h2D ?_, fun hlt => ?_⟩, ⟨fun heq => ?_, fun heq => ?_⟩⟩
        · rw [i4, i5]
          exact Int.mul_lt_mul_of_pos_right (by omega) hbH
        · have := Int.mul_lt_mul_of_pos_right hlt h2D
          rw [i4, i5] at this
          have := lt_of_mul hbH this
          omega
        · have j1 : a * (2 * D) = z * H * b * (2 * D) := by rw [i4, i5]; congr 1; omega
          exact Int.le_antisymm (le_of_mul h2D (by omega)) (le_of_mul h2D (by omega))
        · have j1 : 2 * n * (b * (2 * H)) = (2 * q + 1) * D * (b * (2 * H)) := by rw [← i4, ← i5, heq]
          have j2 : 2 * n = (2 * q + 1) * D := Int.le_antisymm (le_of_mul hbH (by omega)) (le_of_mul hbH (by omega))
          omega
      obtain ⟨m1, m2⟩ := hmid (2 * q + 1) rfl
      rcases ht with ht | ht
      · -- below the middle
        subst ht
        have i7 : a < (2 * q + 1) * H * b := by
          refine Int.lt_of_lt_of_le h2 (Int.mul_le_mul_of_nonneg_right ?_ (by omega))
          rw [Int.add_mul, Int.one_mul]
          omega
        rw [if_neg, if_neg]
        · omega
        · intro hh
          rcases hh with hh | ⟨hh, _⟩
          · have := m1.1 hh; omega
          · have := m2.1 hh; omega
      · subst ht
        by_cases hR : R = 0
        · rw [hR, Int.add_zero] at e1
          cases more
          · have ha : a = (2 * q + 1) * H * b := by rw [e1]; exact h3.1 rfl
            have i8 := m2.2 ha
            have i9 : ¬ D < 2 * r := by omega
            simp only [Bool.false_eq_true, false_or]
            split <;> split <;> omega
          · have ha : (2 * q + 1) * H * b < a := by
              rw [e1]
              rcases Int.lt_or_le (N * b) a with i10 | i10
              · exact i10
              · have : (true : Bool) = false := h3.2 (by omega)
                cases this
            have i8 := m1.2 ha
            simp only [true_or, and_true]
            rw [if_pos (.inl i8), if_pos (by omega)]
        · have ha : (2 * q + 1) * H * b < a := by
            refine Int.lt_of_lt_of_le (Int.mul_lt_mul_of_pos_right ?_ hb) h1
            omega
          have i8 := m1.2 ha
          rw [if_pos (.inl i8), if_pos ⟨by omega, .inr (.inl hR)⟩]
    · -- the number's own unit, or a smaller one
      have hm0 : more = false := by
        cases more
        · rfl
        · have := hmo rfl; omega
      have ha := h3.1 hm0
      have hβ : p2 (U - e').toNat = 1 := by rw [show (U - e').toNat = 0 by omega]; rfl
      have hun : unitsI N (U - e') more = N * p2 (e' - U).toNat := by
        unfold unitsI
        rw [if_pos hn]
        congr 2
        omega
      rw [hun]
      rw [hβ, Int.mul_one, ha] at hc
      have hα := p2_pos (e' - U).toNat
      generalize B * p2 (e' - e).toNat = b at *
      generalize denI B e U = D at *
      generalize numI A e U = n at *
      generalize p2 (e' - U).toNat = α at *
      have i1 : n * b = N * α * D * b := by rw [hc]; ac_rfl
      have i2 : n = N * α * D := Int.le_antisymm (le_of_mul hb (by omega)) (le_of_mul hb (by omega))
      have i3 : q = N * α := by
        have j1 : q * D < (N * α + 1) * D := by rw [Int.add_mul, Int.one_mul]; omega
        have j2 : N * α * D < (q + 1) * D := by rw [Int.add_mul, Int.one_mul]; omega
        have := lt_of_mul hD j1
        have := lt_of_mul hD j2
        omega
      rw [← i3] at i2 ⊢
      unfold upI
      rw [if_neg (by omega), Int.add_zero]
  rw [hP]
  unfold nearP
  rw [hv, hu, packP_pos m x N e' more hN]
  by_cases ht : bias x < e' + bl N - 1
  · rw [if_pos ht]
    have hub := units_bd m x N e' more hN
    have hb2 := bias_two x hx
    have k2 : bias x - m < unitI m x (bl N) e' := by unfold unitI; omega
    have k3 : least m x = 1 - bias x - m := rfl
    have hpx4 : p2 2 ≤ p2 x := p2_mono hx
    have hp4 : p2 2 = 4 := rfl
    have k4 := hub.2.2 (by omega)
    have k5 : (p2 x - 2) * p2 m ≤ (unitI m x (bl N) e' - least m x) * p2 m := Int.mul_le_mul_of_nonneg_right (by omega) (Int.le_of_lt (p2_pos _))
    have k6 : (p2 x - 1) * p2 m = (p2 x - 2) * p2 m + p2 m := by
      rw [show p2 x - 1 = p2 x - 2 + 1 by omega, Int.add_mul, Int.one_mul]
    omega
  · rw [if_neg ht]
    have := (pack_bd m x N e' more (by omega) hx).2
    rw [packP_pos m x N e' more hN, if_neg ht] at this
    omega
end Go.Proofs.YtbfbdemknggpkaaGreatDoor
