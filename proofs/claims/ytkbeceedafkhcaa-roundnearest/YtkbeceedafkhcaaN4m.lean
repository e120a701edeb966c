/- Plain arithmetic for RoundNearest (no program in it): the numbers of a small format's patterns, and that no other is nearer than Pack's. -/
import Derived.Test.YtkbeceedafkhcaaQ2c
namespace Go.Proofs.Ytkbeceedafkhcaa
open Go.RowKit
set_option maxHeartbeats 1000000
set_option linter.unusedVariables false

/-- the number of a pattern without its sign, in units of 2 to the power -24 -/
def valI (m : Nat) (s : Nat) (y : Int) : Int := if y / p2 m = 0 then (y % p2 m) * p2 s else (y % p2 m + p2 m) * p2 (s + (y / p2 m - 1).toNat)
/-- k units from the least: u units of the k-th kind -/
theorem val_at (m s k : Nat) (u : Int) (u0 : 0 ≤ u) (u1 : u ≤ p2 (m + 1)) (hk : k = 0 ∨ p2 m ≤ u) : valI m s (k * p2 m + u) = u * p2 (s + k) := by
  have hp := p2_pos m
  have hs := p2_succ m
  unfold valI
  rcases Int.lt_or_le u (p2 m) with h | h
  · have hk0 : k = 0 := by omega
    subst hk0
    rw [show ((0 : Nat) : Int) * p2 m + u = u by simp, Int.ediv_eq_zero_of_lt u0 h, if_pos rfl, Int.emod_eq_of_lt u0 h]
    rfl
  · rcases Int.lt_or_le u (p2 (m + 1)) with h2 | h2
    · have e : (k : Int) * p2 m + u = (u - p2 m) + ((k : Int) + 1) * p2 m := by rw [Int.add_mul, Int.one_mul]; omega
      have hd : ((k : Int) * p2 m + u) / p2 m = (k : Int) + 1 := by
        rw [e, Int.add_mul_ediv_right _ _ (by omega), Int.ediv_eq_zero_of_lt (by omega) (by omega), Int.zero_add]
      have hr : ((k : Int) * p2 m + u) % p2 m = u - p2 m := by
        rw [e, Int.add_mul_emod_self_right, Int.emod_eq_of_lt (by omega) (by omega)]
      rw [hd, hr, if_neg (by omega), show ((k : Int) + 1 - 1).toNat = k by omega]
      congr 1
      omega
    · have hu : u = 2 * p2 m := by omega
      have e : (k : Int) * p2 m + u = 0 + ((k : Int) + 2) * p2 m := by rw [Int.add_mul]; omega
      have hd : ((k : Int) * p2 m + u) / p2 m = (k : Int) + 2 := by
        rw [e, Int.add_mul_ediv_right _ _ (by omega)]; simp
      have hr : ((k : Int) * p2 m + u) % p2 m = 0 := by
        rw [e, Int.add_mul_emod_self_right]; simp
      rw [hd, hr, if_neg (by omega), show s + ((k : Int) + 2 - 1).toNat = (s + k) + 1 by omega, p2_succ, hu, Int.zero_add, Int.mul_left_comm, Int.mul_assoc]
/-- each pattern in that form -/
theorem val_form (m : Nat) (y : Int) (hy : 0 ≤ y) : ∃ (k : Nat) (u : Int), y = k * p2 m + u ∧ 0 ≤ u ∧ u < p2 (m + 1) ∧ (k = 0 ∨ p2 m ≤ u) := by
  have hp := p2_pos m
  have hs := p2_succ m
  have e1 := Int.mul_ediv_add_emod y (p2 m)
  have r0 := Int.emod_nonneg y (show p2 m ≠ 0 by omega)
  have r1 := Int.emod_lt_of_pos y hp
  have q0 : 0 ≤ y / p2 m := Int.ediv_nonneg hy (by omega)
  by_cases hq : y / p2 m = 0
  · rw [hq] at e1
    exact ⟨0, y, by simp, hy, by omega, .inl rfl⟩
  · refine ⟨(y / p2 m - 1).toNat, y % p2 m + p2 m, ?_, by omega, by omega, .inr (by omega)⟩
    rw [show (((y / p2 m - 1).toNat : Nat) : Int) = y / p2 m - 1 by omega, Int.sub_mul, Int.one_mul, Int.mul_comm]
    omega
theorem val_step (m s : Nat) (y : Int) (hy : 0 ≤ y) : valI m s y < valI m s (y + 1) := by
  obtain ⟨k, u, e, u0, u1, hk⟩ := val_form m y hy
  rw [e, val_at m s k u u0 (by omega) hk, show (k : Int) * p2 m + u + 1 = k * p2 m + (u + 1) by omega, val_at m s k (u + 1) (by omega) (by omega) (by omega), Int.add_mul, Int.one_mul]
  have := p2_pos (s + k)
  omega
theorem val_mono (m s : Nat) (y : Int) (hy : 0 ≤ y) (d : Nat) : valI m s y + d ≤ valI m s (y + d) := by
  induction d with
  | zero => simp
  | succ d ih =>
    have := val_step m s (y + d) (by omega)
    rw [show y + ((d + 1 : Nat) : Int) = y + d + 1 by omega]
    omega
theorem val_lt (m s : Nat) (y z : Int) (hy : 0 ≤ y) (h : y < z) : valI m s y < valI m s z := by
  have := val_mono m s y hy (z - y).toNat
  rw [show y + ((z - y).toNat : Int) = z by omega] at this
  omega
theorem val_le (m s : Nat) (y z : Int) (hy : 0 ≤ y) (h : y ≤ z) : valI m s y ≤ valI m s z := by
  rcases Int.lt_or_le y z with h1 | h1
  · exact Int.le_of_lt (val_lt m s y z hy h1)
  · rw [show y = z by omega]; exact Int.le_refl _
theorem rnd_spec (W : Int) (k : Nat) (hk : 0 < k) : rnd W k false = W / p2 k + (if p2 (k - 1) < W % p2 k ∨ (W % p2 k = p2 (k - 1) ∧ W / p2 k % 2 = 1) then 1 else 0) := by
  unfold rnd
  have hP := p2_pos (k - 1)
  have hk2 : p2 k = 2 * p2 (k - 1) := by rw [← p2_succ]; congr 1; omega
  have e1 : W / p2 (k - 1) / 2 = W / p2 k := by rw [half_step]; congr 2; omega
  have m1 := Int.mul_ediv_add_emod W (p2 (k - 1))
  have m2 := Int.mul_ediv_add_emod W (p2 k)
  have r0 := Int.emod_nonneg W (show p2 (k - 1) ≠ 0 by omega)
  have r1 := Int.emod_lt_of_pos W hP
  have r2 := Int.emod_nonneg W (show p2 k ≠ 0 by omega)
  have r3 := Int.emod_lt_of_pos W (show 0 < p2 k by omega)
  rw [e1]
  congr 1
  rw [← e1] at m2 ⊢
  generalize W / p2 (k - 1) = h at *
  generalize W % p2 (k - 1) = a at *
  generalize W % p2 k = b at *
  rw [hk2] at m2 r3
  generalize p2 (k - 1) = P at *
  have hb : b = P * (h % 2) + a := by
    have h5 : h = 2 * (h / 2) + h % 2 := by omega
    have h6 : P * h = 2 * (P * (h / 2)) + P * (h % 2) := by
      conv => lhs; rw [h5]
      rw [Int.mul_add, Int.mul_left_comm]
    rw [Int.mul_assoc] at m2
    omega
  simp only [Bool.false_eq_true, false_or]
  rcases (show h % 2 = 0 ∨ h % 2 = 1 by omega) with h8 | h8
  · rw [h8, Int.mul_zero] at hb
    rw [if_neg (by omega), if_neg (by omega)]
  · rw [h8, Int.mul_one] at hb
    split <;> split <;> omega
/-- how far a number is from a pattern's -/
def farI (m s : Nat) (W y : Int) : Int := max (W - valI m s y) (-(W - valI m s y))
theorem nearest_fin (m x s : Nat) (W : Int) (hW : 0 < W) (hm : 1 ≤ m) (hs : (s : Int) = 24 + least m x) (hs1 : 1 ≤ s) (ht : ¬ bias x < -24 + bl W - 1) (X y : Int) (hX : X = packP m x W (-24) false) (hy : 0 ≤ y) (hne : y ≠ X) :
    farI m s W X < farI m s W y ∨ (farI m s W X = farI m s W y ∧ X % 2 = 0) := by
  rw [packP_pos m x W (-24) false hW, if_neg ht] at hX
  obtain ⟨b0, b1, b2⟩ := bl_bd W hW
  have hub := units_bd m x W (-24) false hW
  have hU0 : least m x ≤ unitI m x (bl W) (-24) := by unfold unitI; omega
  have hU1 : -24 + (bl W : Int) - 1 - m ≤ unitI m x (bl W) (-24) := by unfold unitI; omega
  have hUe : unitI m x (bl W) (-24) = least m x ∨ unitI m x (bl W) (-24) = -24 + (bl W : Int) - 1 - m := by unfold unitI; omega
  generalize unitI m x (bl W) (-24) = U at *
  obtain ⟨k, hk⟩ := Int.eq_ofNat_of_zero_le (show 0 ≤ U - least m x by omega)
  have hn : U - -24 = ((s + k : Nat) : Int) := by omega
  have hunits : unitsI W (U - -24) false = rnd W (s + k) false := by
    unfold unitsI
    rw [if_neg (by omega), hn]
    congr 1
  rw [hunits] at hX hub
  rw [hk] at hX
  have hspec := rnd_spec W (s + k) (by omega)
  have hP := p2_pos (s + k)
  have hH := p2_pos (s + k - 1)
  have hPH : p2 (s + k) = 2 * p2 (s + k - 1) := by rw [← p2_succ]; congr 1; omega
  have m2 := Int.mul_ediv_add_emod W (p2 (s + k))
  have r2 := Int.emod_nonneg W (show p2 (s + k) ≠ 0 by omega)
  have r3 := Int.emod_lt_of_pos W hP
  have q0 : 0 ≤ W / p2 (s + k) := Int.ediv_nonneg (by omega) (by omega)
  have hq1 : k = 0 ∨ p2 m ≤ W / p2 (s + k) := by
    rcases hUe with h | h
    · exact .inl (by omega)
    · refine .inr (Int.le_ediv_of_mul_le hP ?_)
      rw [← p2_add]
      exact Int.le_trans (p2_mono (by omega)) b1
  have hku : k = 0 ∨ p2 m ≤ rnd W (s + k) false := by
    rcases hq1 with h | h
    · exact .inl h
    · refine .inr ?_
      rw [hspec]
      split <;> omega
  generalize hq : W / p2 (s + k) = q at *
  generalize W % p2 (s + k) = r at *
  generalize hu : rnd W (s + k) false = u at *
  have hVX : valI m s X = u * p2 (s + k) := by rw [hX]; exact val_at m s k u hub.1 hub.2.1 hku
  have heven : u % 2 = 0 → X % 2 = 0 := by
    intro h
    have hpm : p2 m = 2 * p2 (m - 1) := by rw [← p2_succ]; congr 1; omega
    have : (k : Int) * p2 m = 2 * (k * p2 (m - 1)) := by rw [hpm, Int.mul_left_comm]
    omega
  have hX0 : 0 ≤ X := by
    have h1 : 0 ≤ (k : Int) * p2 m := Int.mul_nonneg (by omega) (Int.le_of_lt (p2_pos m))
    have h2 := hub.1
    omega
  have hVup : ∀ z, X < z → (u + 1) * p2 (s + k) ≤ valI m s z := by
    intro z hz
    have h1 := val_le m s (X + 1) z (by omega) (by omega)
    refine Int.le_trans ?_ h1
    rcases Int.lt_or_le u (p2 (m + 1)) with h2 | h2
    · rw [hX, show (k : Int) * p2 m + u + 1 = k * p2 m + (u + 1) by omega, val_at m s k (u + 1) (by omega) (by omega) (by omega)]
      exact Int.le_refl _
    · have hus : u = 2 * p2 m := by have := p2_succ m; omega
      have e2 : X + 1 = ((k + 1 : Nat) : Int) * p2 m + (p2 m + 1) := by
        rw [hX, show ((k + 1 : Nat) : Int) = (k : Int) + 1 by omega, Int.add_mul, Int.one_mul]; omega
      have hpm := p2_pos m
      rw [e2, val_at m s (k + 1) (p2 m + 1) (by omega) (by have := p2_succ m; omega) (.inr (by omega)), show s + (k + 1) = (s + k) + 1 by omega, p2_succ, hus]
      have e3 : (p2 m + 1) * (2 * p2 (s + k)) = (2 * p2 m + 1) * p2 (s + k) + p2 (s + k) := by
        rw [Int.mul_left_comm, ← Int.mul_assoc, Int.mul_add, Int.add_mul, Int.add_mul]; omega
      omega
  have hVdn : ∀ z, 0 ≤ z → z < X → u = q + 1 → valI m s z ≤ q * p2 (s + k) := by
    intro z hz0 hz hu1
    have h1 := val_le m s z (X - 1) hz0 (by omega)
    refine Int.le_trans h1 ?_
    rw [hX, show (k : Int) * p2 m + u - 1 = k * p2 m + q by omega, val_at m s k q q0 (by omega) hq1]
    exact Int.le_refl _
  have e4 : p2 (s + k) * q = q * p2 (s + k) := Int.mul_comm _ _
  rw [e4] at m2
  unfold farI
  rw [hVX]
  rcases Int.lt_or_le y X with hlt | hge
  · have hv := val_lt m s y X hy hlt
    rw [hVX] at hv
    by_cases hup : p2 (s + k - 1) < r ∨ (r = p2 (s + k - 1) ∧ q % 2 = 1)
    · rw [if_pos hup] at hspec
      subst hspec
      have h2 := hVdn y hy hlt rfl
      rw [Int.add_mul, Int.one_mul] at *
      by_cases hr : r = p2 (s + k - 1)
      · have := heven (by omega)
        omega
      · left
        omega
    · rw [if_neg hup, Int.add_zero] at hspec
      subst hspec
      left
      omega
  · have h2 := hVup y (by omega)
    rw [Int.add_mul, Int.one_mul] at h2
    by_cases hup : p2 (s + k - 1) < r ∨ (r = p2 (s + k - 1) ∧ q % 2 = 1)
    · rw [if_pos hup] at hspec
      subst hspec
      rw [Int.add_mul, Int.one_mul] at *
      left
      omega
    · rw [if_neg hup, Int.add_zero] at hspec
      subst hspec
      by_cases hr : r = p2 (s + k - 1)
      · have := heven (by omega)
        omega
      · left
        omega
theorem val_top (m x s : Nat) (hx : 2 ≤ x) (hs : (s : Int) = 24 + least m x) : valI m s ((p2 x - 1) * p2 m) = p2 (25 + bias x).toNat := by
  have hb := bias_two x hx
  have hx4 : p2 2 ≤ p2 x := p2_mono hx
  have hp4 : p2 2 = 4 := rfl
  have hpm := p2_pos m
  obtain ⟨k, hk⟩ := Int.eq_ofNat_of_zero_le (show 0 ≤ p2 x - 2 by omega)
  have e : (p2 x - 1) * p2 m = k * p2 m + p2 m := by
    rw [← hk, show p2 x - 1 = p2 x - 2 + 1 by omega, Int.add_mul, Int.one_mul]
  rw [e, val_at m s k (p2 m) (by omega) (by have := p2_succ m; omega) (.inr (Int.le_refl _)), ← p2_add]
  congr 1
  unfold least at hs
  omega
theorem nearest_inf (m x s : Nat) (W : Int) (hW : 0 < W) (hx : 2 ≤ x) (hs : (s : Int) = 24 + least m x) (ht : bias x < -24 + bl W - 1) : packP m x W (-24) false = (p2 x - 1) * p2 m ∧ valI m s ((p2 x - 1) * p2 m) ≤ W := by
  rw [packP_pos m x W (-24) false hW, if_pos ht, val_top m x s hx hs]
  refine ⟨rfl, Int.le_trans (p2_mono ?_) (bl_bd W hW).2.1⟩
  have : 0 ≤ bias x := by unfold bias; have := p2_pos (((x : Int) - 1).toNat); omega
  omega
end Go.Proofs.Ytkbeceedafkhcaa
