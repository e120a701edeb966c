/- Plain arithmetic (no program in it): rounding twice is rounding once, where the first rounding does not come to a middle. Plain arithmetic (no program in it): a number of a format is told without loss by the format that is more than twice as wide. Plain arithmetic (no program in it): what the wide format tells without loss is packed by the narrow one as if the wide one had not been asked; products are such. Plain arithmetic (no program in it): packing what a wider format left of a number is packing the number, where the wider one did not come to a middle. Plain arithmetic (no program in it): packed by the wide format, opened and packed by the narrow one: as by the narrow one alone, unless the wide one came to a middle. Plain arithmetic (no program in it): a sum of narrow numbers is never rounded to a middle by the wide format. Plain arithmetic (no program in it): where the wide format rounds a quotient of narrow numbers to a middle, it is exact. Plain arithmetic (no program in it): the wide format never rounds a root of a narrow number to a middle. Plain arithmetic (no program in it): sums, quotients and roots do not change when their numbers are scaled. Plain arithmetic (no program in it): rounding twice, infinities too; a narrow number in the wide format, scaled. Plain arithmetic (no program in it): products, quotients, roots and sums of narrow numbers, reckoned in the wide format and packed back, are the narrow format's own. Plain arithmetic (no program in it): a wide pattern converted back; sums with their signs. Plain arithmetic (no program in it): the wide pattern of a narrow one, and what it is converted back to. Plain arithmetic (no program in it): every operation, reckoned in the wide format and converted back, is the narrow format's own. Plain arithmetic (no program in it): the wide pattern of any narrow one with its parts; differences reckoned wide and converted back. Plain arithmetic (no program in it): the rest of a division, and the whole numbers beside a number, reckoned wide and converted back. -/
import Derived.Test.YthfjjkikeebopaaDoorW3n
import Derived.Test.YthfjjkikeebopaaDoorV3
namespace Go.Proofs.YthfjjkikeebopaaDoor
open Go.RowKit
set_option maxHeartbeats 1000000
set_option linter.unusedVariables false

/-- what rounding leaves out is at most half of what is cut, whatever lies below -/
theorem rnd_near_any (N : Int) (k : Nat) (more : Bool) (hk : 1 ≤ k) (h0 : 0 ≤ N) : rnd N k more * (2 * p2 (k - 1)) - N ≤ p2 (k - 1) ∧ N - rnd N k more * (2 * p2 (k - 1)) ≤ p2 (k - 1) := by
  have hp := p2_pos (k - 1)
  have hd := Int.mul_ediv_add_emod N (p2 (k - 1))
  have hr0 := Int.emod_nonneg N (show p2 (k - 1) ≠ 0 by omega)
  have hr1 := Int.emod_lt_of_pos N hp
  unfold rnd
  generalize N / p2 (k - 1) = q at *
  generalize N % p2 (k - 1) = r at *
  generalize p2 (k - 1) = H at *
  have e0 : q / 2 * (2 * H) = 2 * (q / 2) * H := by rw [← Int.mul_assoc, Int.mul_comm (q / 2) 2]
  by_cases hq : q % 2 = 1
  · have e1 : 2 * (q / 2) = q - 1 := by omega
    have e2 : (q - 1) * H = H * q - H := by rw [Int.sub_mul, Int.one_mul, Int.mul_comm]
    split
    · rw [Int.add_mul, e0, e1, e2]; omega
    · rename_i hc
      rw [Int.add_zero, e0, e1, e2]
      have : r = 0 := by
        apply Classical.byContradiction
        intro h
        exact hc ⟨hq, .inr (.inl h)⟩
      omega
  · have e1 : 2 * (q / 2) = q := by omega
    have e2 : q * H = H * q := Int.mul_comm _ _
    rw [if_neg (fun h => hq h.1), Int.add_zero, e0, e1, e2]
    omega
/-- what is whole at the first cut is rounded by the second alone -/
theorem rnd_exact (W : Int) (k j : Nat) (hj : 1 ≤ j) : rnd (W * p2 k) (k + j) false = rnd W j false := by
  have hk := p2_pos k
  have e : p2 (k + j - 1) = p2 (j - 1) * p2 k := by rw [← p2_add]; congr 1; omega
  have hq : W * p2 k / (p2 (j - 1) * p2 k) = W / p2 (j - 1) := Int.mul_ediv_mul_of_pos_left _ _ hk
  have hr : W * p2 k % (p2 (j - 1) * p2 k) = W % p2 (j - 1) * p2 k := by
    rw [Int.emod_def, hq, Int.emod_def, Int.sub_mul, Int.mul_right_comm]
  unfold rnd
  rw [e, hq, hr]
  have hz : (W % p2 (j - 1) * p2 k ≠ 0) ↔ (W % p2 (j - 1) ≠ 0) := by
    refine ⟨fun h h' => h (by rw [h', Int.zero_mul]), fun h h' => ?_⟩
    rcases Int.mul_eq_zero.1 h' with h2 | h2
    · exact h h2
    · omega
  simp only [hz]
theorem rnd_twice (N : Int) (k j : Nat) (more : Bool) (hk : 1 ≤ k) (hj : 1 ≤ j) (h0 : 0 ≤ N) (hW : 0 ≤ rnd N k more) (hmid : rnd N k more % p2 j ≠ p2 (j - 1)) : rnd N (k + j) more = rnd (rnd N k more) j false := by
  obtain ⟨n1, n2⟩ := rnd_near_any N k more hk h0
  generalize rnd N k more = W at *
  obtain ⟨m1, m2⟩ := rnd_near_any W j false hj hW
  generalize rnd W j false = M at *
  have hH := p2_pos (j - 1)
  have hG := p2_pos (k - 1)
  have ej : p2 j = 2 * p2 (j - 1) := by
    have := p2_succ (j - 1)
    rwa [show j - 1 + 1 = j by omega] at this
  have e : p2 (k + j - 1) = p2 (j - 1) * (2 * p2 (k - 1)) := by
    rw [show k + j - 1 = (j - 1) + (k - 1 + 1) by omega, p2_add, p2_succ]
  rw [ej] at hmid
  have x1 : M * (2 * p2 (j - 1)) - W ≠ p2 (j - 1) := fun h => hmid (by
    rw [show W = p2 (j - 1) + (M - 1) * (2 * p2 (j - 1)) by rw [Int.sub_mul, Int.one_mul]; omega, Int.add_mul_emod_self_right]
    exact Int.emod_eq_of_lt (by omega) (by omega))
  have x2 : W - M * (2 * p2 (j - 1)) ≠ p2 (j - 1) := fun h => hmid (by
    rw [show W = p2 (j - 1) + M * (2 * p2 (j - 1)) by omega, Int.add_mul_emod_self_right]
    exact Int.emod_eq_of_lt (by omega) (by omega))
  have y1 : (2 * M - 1) * p2 (j - 1) + 1 ≤ W := by
    have : (2 * M - 1) * p2 (j - 1) = M * (2 * p2 (j - 1)) - p2 (j - 1) := by rw [Int.sub_mul, Int.one_mul, ← Int.mul_assoc, Int.mul_comm M 2]
    omega
  have y2 : W + 1 ≤ (2 * M + 1) * p2 (j - 1) := by
    have : (2 * M + 1) * p2 (j - 1) = M * (2 * p2 (j - 1)) + p2 (j - 1) := by rw [Int.add_mul, Int.one_mul, ← Int.mul_assoc, Int.mul_comm M 2]
    omega
  have z1 : ((2 * M - 1) * p2 (j - 1) + 1) * (2 * p2 (k - 1)) ≤ W * (2 * p2 (k - 1)) := Int.mul_le_mul_of_nonneg_right y1 (by omega)
  have z2 : (W + 1) * (2 * p2 (k - 1)) ≤ (2 * M + 1) * p2 (j - 1) * (2 * p2 (k - 1)) := Int.mul_le_mul_of_nonneg_right y2 (by omega)
  rw [Int.add_mul, Int.one_mul] at z1 z2
  refine rnd_half M N (k + j) more (by omega) ?_ ?_ ?_
  · rw [e, ← Int.mul_assoc]; omega
  · rw [e, ← Int.mul_assoc]; omega
  · intro h
    rw [e, ← Int.mul_assoc] at h
    omega
end Go.Proofs.YthfjjkikeebopaaDoor
namespace Go.Proofs.YthfjjkikeebopaaDoor
open Go.RowKit
set_option maxHeartbeats 1000000
set_option linter.unusedVariables false

theorem bias_wide (x WX : Nat) (hx : 2 ≤ x) (hw2 : x + 2 ≤ WX) : 4 * bias x + 3 ≤ bias ((WX : Nat) : Int) := by
  unfold bias
  have h1 : p2 (((x + 2 : Nat) : Int) - 1).toNat ≤ p2 ((WX : Int) - 1).toNat := p2_mono (by omega)
  rw [show (((x + 2 : Nat) : Int) - 1).toNat = ((x : Int) - 1).toNat + 1 + 1 by omega, p2_succ, p2_succ] at h1
  omega
theorem least_wide (m x WM WX : Nat) (hx : 2 ≤ x) (hw1 : 2 * m + 4 ≤ WM ∧ (WM : Int) ≤ 2 * m + 4 + bias x ∧ (m : Int) ≤ 2 * bias x ∧ WM ≤ 60) (hw2 : x + 2 ≤ WX) : least ((WM : Nat) : Int) ((WX : Nat) : Int) ≤ -(4 * bias x) - 2 * m - 6 := by
  have h := bias_wide x WX hx hw2
  have hls : least ((WM : Nat) : Int) ((WX : Nat) : Int) = 1 - bias ((WX : Nat) : Int) - (WM : Nat) := rfl
  omega
/-- the wide format's pattern of a number of the narrow one -/
theorem wide_ex (m x WM WX : Nat) (E M : Int) (hx : 2 ≤ x) (hw1 : 2 * m + 4 ≤ WM ∧ (WM : Int) ≤ 2 * m + 4 + bias x ∧ (m : Int) ≤ 2 * bias x ∧ WM ≤ 60) (hw2 : x + 2 ≤ WX) (hb : 1 ≤ bias x) (f : FinP m x E M) :
    ∃ E' M', FinP WM WX E' M' ∧ M' * p2 (E' - least ((WM : Nat) : Int) ((WX : Nat) : Int)).toNat = M * p2 (E - least ((WM : Nat) : Int) ((WX : Nat) : Int)).toNat ∧
      packP WM WX M E false = (E' - least ((WM : Nat) : Int) ((WX : Nat) : Int)) * p2 WM + M' := by
  have hlq : least ((WM : Nat) : Int) ((WX : Nat) : Int) = 1 - bias ((WX : Nat) : Int) - (WM : Nat) := rfl
  have hl := least_wide m x WM WX hx hw1 hw2
  have hbw := bias_wide x WX hx hw2
  obtain ⟨h0, h1, h2, h3, h4⟩ := f
  have hls : least m x = 1 - bias x - m := rfl
  generalize hL : least ((WM : Nat) : Int) ((WX : Nat) : Int) = L at *
  have hp4 := p2_pos (m + 4)
  have hd : M * p2 (m + 4) < p2 (WM + 1) := by
    have e : p2 (m + 1) * p2 (m + 4) ≤ p2 (WM + 1) := by rw [← p2_add]; exact p2_mono (by omega)
    exact Int.lt_of_lt_of_le (Int.mul_lt_mul_of_pos_right h1 hp4) e
  obtain ⟨E', M', f', e'⟩ := norm_ex WM WX (E - m - 4 - L).toNat (M * p2 (m + 4)) (Int.mul_pos h0 hp4) hd (by rw [hL]; omega)
  rw [hL] at e'
  have ev : M' * p2 (E' - L).toNat = M * p2 (E - L).toNat := by
    rw [e', Int.mul_assoc, ← p2_add]
    congr 2
    omega
  refine ⟨E', M', f', ev, ?_⟩
  have hx2 : 2 ≤ WX := by omega
  have hE' := f'.2.2.1
  rw [hL] at hE'
  have s1 := pack_scale WM WX M E (E - L).toNat (by omega)
  have s2 := pack_scale WM WX M' E' (E' - L).toNat (by have := f'.1; omega)
  rw [show E - ((E - L).toNat : Int) = L by omega] at s1
  rw [show E' - ((E' - L).toNat : Int) = L by omega] at s2
  rw [← s1, ← ev, s2, pack_self WM WX E' M' hx2 f', hL]
end Go.Proofs.YthfjjkikeebopaaDoor
namespace Go.Proofs.YthfjjkikeebopaaDoor
open Go.RowKit
set_option maxHeartbeats 1000000
set_option linter.unusedVariables false

/-- equal numbers are packed alike -/
theorem pack_same (m x : Nat) (N N' e e' L : Int) (h0 : 0 ≤ N) (h0' : 0 ≤ N') (h : L ≤ e) (h' : L ≤ e') (hv : N * p2 (e - L).toNat = N' * p2 (e' - L).toNat) : packP m x N e false = packP m x N' e' false := by
  have s1 := pack_scale m x N e (e - L).toNat h0
  have s2 := pack_scale m x N' e' (e' - L).toNat h0'
  rw [show e - ((e - L).toNat : Int) = L by omega] at s1
  rw [show e' - ((e' - L).toNat : Int) = L by omega] at s2
  rw [← s1, hv, s2]
theorem exact_wide (m x WM WX : Nat) (N e : Int) (hx : 2 ≤ x) (hw1 : 2 * m + 4 ≤ WM ∧ (WM : Int) ≤ 2 * m + 4 + bias x ∧ (m : Int) ≤ 2 * bias x ∧ WM ≤ 60) (hw2 : x + 2 ≤ WX) (hN : 0 < N) (hN2 : N < p2 (WM + 1)) (he : least ((WM : Nat) : Int) ((WX : Nat) : Int) ≤ e) (he2 : e ≤ bias ((WX : Nat) : Int) - (WM : Nat)) :
    ∃ E' M', FinP WM WX E' M' ∧ packP WM WX N e false = (E' - least ((WM : Nat) : Int) ((WX : Nat) : Int)) * p2 WM + M' ∧ packP m x M' E' false = packP m x N e false := by
  generalize hL : least ((WM : Nat) : Int) ((WX : Nat) : Int) = L at *
  obtain ⟨E', M', f', ev⟩ := norm_ex WM WX (e - L).toNat N hN hN2 (by rw [hL]; omega)
  rw [hL] at ev
  have hE' := f'.2.2.1
  rw [hL] at hE'
  have hM' := f'.1
  refine ⟨E', M', f', ?_, pack_same m x M' N E' e L (by omega) (by omega) hE' he ev⟩
  rw [pack_same WM WX N M' e E' L (by omega) (by omega) he hE' ev.symm, pack_self WM WX E' M' (by omega) f', hL]
/-- a product of narrow numbers is told by the wide format -/
theorem mul_wide (m x WM WX : Nat) (E1 M1 E2 M2 : Int) (hx : 2 ≤ x) (hw1 : 2 * m + 4 ≤ WM ∧ (WM : Int) ≤ 2 * m + 4 + bias x ∧ (m : Int) ≤ 2 * bias x ∧ WM ≤ 60) (hw2 : x + 2 ≤ WX) (hb : 1 ≤ bias x) (f1 : FinP m x E1 M1) (f2 : FinP m x E2 M2) :
    ∃ E' M', FinP WM WX E' M' ∧ packP WM WX (M1 * M2) (E1 + E2) false = (E' - least ((WM : Nat) : Int) ((WX : Nat) : Int)) * p2 WM + M' ∧ packP m x M' E' false = packP m x (M1 * M2) (E1 + E2) false := by
  obtain ⟨a0, a1, a2, a3, -⟩ := f1
  obtain ⟨b0, b1, b2, b3, -⟩ := f2
  have hls : least m x = 1 - bias x - m := rfl
  have hl := least_wide m x WM WX hx hw1 hw2
  have hbw := bias_wide x WX hx hw2
  refine exact_wide m x WM WX (M1 * M2) (E1 + E2) hx hw1 hw2 (Int.mul_pos a0 b0) ?_ (by omega) (by omega)
  have h1 : M1 * M2 < p2 (m + 1) * p2 (m + 1) := Int.lt_of_le_of_lt (Int.mul_le_mul_of_nonneg_left (show M2 ≤ p2 (m + 1) by omega) (by omega)) (Int.mul_lt_mul_of_pos_right a1 (p2_pos _))
  have e : p2 (m + 1) * p2 (m + 1) * p2 3 ≤ p2 (WM + 1) := by rw [← p2_add, ← p2_add]; exact p2_mono (by omega)
  have hp := Int.mul_pos (p2_pos (m + 1)) (p2_pos (m + 1))
  have e3 : p2 3 = 8 := rfl
  rw [e3] at e
  omega
end Go.Proofs.YthfjjkikeebopaaDoor
namespace Go.Proofs.YthfjjkikeebopaaDoor
open Go.RowKit
set_option maxHeartbeats 1000000
set_option linter.unusedVariables false

theorem rnd_pow (a j : Nat) (hj : 1 ≤ j) : rnd (p2 (a + j)) j false = p2 a := by
  have hH := p2_pos (j - 1)
  have e : p2 (a + j) = 2 * p2 a * p2 (j - 1) := by
    rw [show a + j = (a + 1) + (j - 1) by omega, p2_add, p2_succ]
  refine rnd_half (p2 a) (p2 (a + j)) j false hj ?_ ?_ ?_
  · rw [e]; exact Int.mul_le_mul_of_nonneg_right (by omega) (by omega)
  · rw [e]; exact Int.mul_lt_mul_of_pos_right (by omega) hH
  · intro h
    rw [e] at h
    have := Int.eq_of_mul_eq_mul_right (by omega) h
    omega
/-- what is left of a number of L bits, of which k are cut -/
theorem rnd_bits (N : Int) (k : Nat) (more : Bool) (hN : 0 < N) (hk : 1 ≤ k) (hkb : k < bl N) : p2 (bl N - k - 1) ≤ rnd N k more ∧ rnd N k more ≤ p2 (bl N - k) := by
  obtain ⟨a, b, c⟩ := bl_bd N hN
  refine ⟨rnd_ge N k (bl N - k - 1) more (by omega) ?_, rnd_le N k (bl N - k) more (by omega) ?_⟩
  · rw [show k + (bl N - k - 1) = bl N - 1 by omega]; exact b
  · rw [show k + (bl N - k) = bl N by omega]; exact c
theorem pack_twice_inf (m x : Nat) (N e : Int) (more : Bool) (k : Nat) (hN : 0 < N) (hk : 1 ≤ k) (hkb : k < bl N) (h : bias x < e + bl N - 1) : packP m x (rnd N k more) (e + k) false = packP m x N e more := by
  obtain ⟨w1, w2⟩ := rnd_bits N k more hN hk hkb
  have hp := p2_pos (bl N - k - 1)
  have hb : bl N - k ≤ bl (rnd N k more) := by
    have h1 := bl_mono (a := p2 (bl N - k - 1)) (by omega) w1
    have h2 : bl (p2 (bl N - k - 1)) = bl N - k := bl_of (.inr ⟨by omega, Int.le_refl _, by
      have : p2 (bl N - k) = 2 * p2 (bl N - k - 1) := by
        have := p2_succ (bl N - k - 1)
        rwa [show bl N - k - 1 + 1 = bl N - k by omega] at this
      omega⟩)
    omega
  rw [packP_pos m x _ _ _ (by omega), packP_pos m x N e more hN, if_pos h, if_pos (by omega)]
theorem pack_twice (m x : Nat) (N e : Int) (more : Bool) (k j : Nat) (hx : 2 ≤ x) (hN : 0 < N) (hk : 1 ≤ k) (hkb : k < bl N) (hj : 1 ≤ j) (hno : e + bl N - 1 ≤ bias x) (hu : unitI m x (bl N) e = e + k + j)
    (hmid : rnd N k more % p2 j ≠ p2 (j - 1)) : packP m x (rnd N k more) (e + k) false = packP m x N e more := by
  obtain ⟨w1, w2⟩ := rnd_bits N k more hN hk hkb
  have hp := p2_pos (bl N - k - 1)
  have ht := rnd_twice N k j more hk hj (by omega) (rnd_nonneg N k more (by omega)) hmid
  have es : p2 (bl N - k) = 2 * p2 (bl N - k - 1) := by
    have := p2_succ (bl N - k - 1)
    rwa [show bl N - k - 1 + 1 = bl N - k by omega] at this
  have hr : packP m x N e more = (e + k + j - least m x) * p2 m + rnd (rnd N k more) j false := by
    rw [packP_pos m x N e more hN, if_neg (by omega), hu]
    congr 1
    unfold unitsI
    rw [if_neg (by omega), show (e + ↑k + ↑j - e).toNat = k + j by omega, ht]
  rw [hr]
  have hls : least m x = 1 - bias x - m := rfl
  have hb1 : 1 ≤ bias x := by
    unfold bias
    have e : p2 ((x : Int) - 1).toNat = 2 * p2 (x - 2) := by
      rw [show ((x : Int) - 1).toNat = (x - 2) + 1 by omega, p2_succ]
    have := p2_pos (x - 2)
    omega
  by_cases hc : rnd N k more < p2 (bl N - k)
  · have hbl : bl (rnd N k more) = bl N - k := bl_of (.inr ⟨by omega, w1, hc⟩)
    have hu2 : unitI m x (bl (rnd N k more)) (e + k) = e + k + j := by
      rw [hbl, ← hu]
      unfold unitI
      congr 1
      omega
    rw [packP_pos m x _ _ _ (by omega), if_neg (by rw [hbl]; omega), hu2]
    congr 1
    unfold unitsI
    rw [if_neg (by omega), show (e + ↑k + ↑j - (e + ↑k)).toNat = j by omega]
  · have hW : rnd N k more = p2 (bl N - k) := by omega
    have hbl : bl (rnd N k more) = bl N - k + 1 := by
      rw [hW]
      refine bl_of (.inr ⟨by omega, Int.le_refl _, ?_⟩)
      rw [p2_succ]; have := p2_pos (bl N - k); omega
    unfold unitI at hu
    by_cases hcase : e + bl N - m ≤ least m x
    · have hu2 : unitI m x (bl (rnd N k more)) (e + k) = e + k + j := by
        rw [hbl]
        unfold unitI
        omega
      rw [packP_pos m x _ _ _ (by omega), if_neg (by rw [hbl]; omega), hu2]
      congr 1
      unfold unitsI
      rw [if_neg (by omega), show (e + ↑k + ↑j - (e + ↑k)).toNat = j by omega]
    · have hjm : bl N - k = m + 1 + j := by omega
      rw [hW, hjm, rnd_pow (m + 1) j hj]
      rw [hW, hjm] at hbl
      by_cases ho : bias x < e + bl N
      · rw [packP_pos m x _ _ _ (p2_pos _), if_pos (by rw [hbl]; omega)]
        have hq : e + k + j - least m x = 2 * bias x - 1 := by omega
        have hpx : p2 x = 2 * (bias x + 1) := by
          unfold bias
          rw [show ((x : Int) - 1).toNat = x - 1 by omega, Int.sub_add_cancel]
          have := p2_succ (x - 1)
          rwa [show x - 1 + 1 = x by omega] at this
        rw [hq, hpx, p2_succ]
        rw [show 2 * (bias x + 1) - 1 = (2 * bias x - 1) + 2 by omega, Int.add_mul]
      · have hu2 : unitI m x (bl (p2 (m + 1 + j))) (e + k) = e + k + j + 1 := by
          rw [hbl]
          unfold unitI
          omega
        rw [packP_pos m x _ _ _ (p2_pos _), if_neg (by rw [hbl]; omega), hu2]
        unfold unitsI
        rw [if_neg (by omega), show (e + ↑k + ↑j + 1 - (e + ↑k)).toNat = j + 1 by omega, show m + 1 + j = m + (j + 1) by omega, rnd_pow m (j + 1) (by omega), p2_succ]
        rw [show e + ↑k + ↑j + 1 - least m x = (e + ↑k + ↑j - least m x) + 1 by omega, Int.add_mul, Int.one_mul]
        omega
end Go.Proofs.YthfjjkikeebopaaDoor
namespace Go.Proofs.YthfjjkikeebopaaDoor
open Go.RowKit
set_option maxHeartbeats 1000000
set_option linter.unusedVariables false

/-- what a format makes of a number that it cuts -/
theorem pack_cutfin (m x : Nat) (N e : Int) (more : Bool) (k : Nat) (hx : 2 ≤ x) (hN : 0 < N) (hk : 1 ≤ k) (hkb : k < bl N) (hu : unitI m x (bl N) e = e + k) (hno : e + bl N ≤ bias x) :
    ∃ E M, FinP m x E M ∧ packP m x N e more = (E - least m x) * p2 m + M ∧ e + k ≤ E ∧ M * p2 (E - (e + k)).toNat = rnd N k more := by
  obtain ⟨w1, w2⟩ := rnd_bits N k more hN hk hkb
  have hp := p2_pos (bl N - k - 1)
  have hls : least m x = 1 - bias x - m := rfl
  have hb1 : 1 ≤ bias x := by
    unfold bias
    have e : p2 ((x : Int) - 1).toNat = 2 * p2 (x - 2) := by
      rw [show ((x : Int) - 1).toNat = (x - 2) + 1 by omega, p2_succ]
    have := p2_pos (x - 2)
    omega
  have hr : packP m x N e more = (e + k - least m x) * p2 m + rnd N k more := by
    rw [packP_pos m x N e more hN, if_neg (by omega), hu]
    congr 1
    unfold unitsI
    rw [if_neg (by omega), show (e + ↑k - e).toNat = k by omega]
  unfold unitI at hu
  have hlm : bl N - k ≤ m + 1 := by omega
  have hle : p2 (bl N - k) ≤ p2 (m + 1) := p2_mono hlm
  by_cases hc : rnd N k more < p2 (m + 1)
  · refine ⟨e + k, rnd N k more, ⟨by omega, hc, by omega, by omega, ?_⟩, hr, Int.le_refl _, ?_⟩
    · by_cases hl : e + k = least m x
      · exact .inr hl
      · left
        have : bl N - k - 1 = m := by omega
        rw [this] at w1
        exact w1
    · rw [show (e + ↑k - (e + ↑k)).toNat = 0 by omega, show p2 0 = 1 from rfl, Int.mul_one]
  · have hW : rnd N k more = p2 (m + 1) := by omega
    have hpm := p2_pos m
    refine ⟨e + k + 1, p2 m, ⟨hpm, by rw [p2_succ]; omega, by omega, ?_, .inl (Int.le_refl _)⟩, ?_, by omega, ?_⟩
    · have h1 : bl N - k = m + 1 := by
        apply Classical.byContradiction
        intro h
        have h2 : p2 (bl N - k) ≤ p2 m := p2_mono (by omega)
        rw [hW, p2_succ] at w2
        omega
      omega
    · rw [hr, hW, p2_succ, show e + ↑k + 1 - least m x = (e + ↑k - least m x) + 1 by omega, Int.add_mul, Int.one_mul]
      omega
    · rw [show (e + ↑k + 1 - (e + ↑k)).toNat = 1 by omega, hW, show p2 1 = 2 from rfl, p2_succ, Int.mul_comm]
theorem exact_wide2 (m x WM WX : Nat) (N e : Int) (hx : 2 ≤ x) (hw1 : 2 * m + 4 ≤ WM ∧ (WM : Int) ≤ 2 * m + 4 + bias x ∧ (m : Int) ≤ 2 * bias x ∧ WM ≤ 60) (hw2 : x + 2 ≤ WX) (hN : 0 < N) (hN2 : N < p2 (WM + 1)) (he : least ((WM : Nat) : Int) ((WX : Nat) : Int) ≤ e) (he2 : e + bl N - 1 ≤ bias ((WX : Nat) : Int)) :
    ∃ E' M', FinP WM WX E' M' ∧ packP WM WX N e false = (E' - least ((WM : Nat) : Int) ((WX : Nat) : Int)) * p2 WM + M' ∧ packP m x M' E' false = packP m x N e false := by
  have hls : least ((WM : Nat) : Int) ((WX : Nat) : Int) = 1 - bias ((WX : Nat) : Int) - (WM : Nat) := rfl
  have hb1 : 1 ≤ bias x := by
    unfold bias
    have e : p2 ((x : Int) - 1).toNat = 2 * p2 (x - 2) := by
      rw [show ((x : Int) - 1).toNat = (x - 2) + 1 by omega, p2_succ]
    have := p2_pos (x - 2)
    omega
  have hbw := bias_wide x WX hx hw2
  have hbl : bl N ≤ WM + 1 := bl_le (by omega) hN2
  obtain ⟨c1, c2, c3⟩ := bl_bd N hN
  obtain ⟨s, hs1, hs2, hs3⟩ : ∃ s : Nat, bl N + s ≤ WM + 1 ∧ least ((WM : Nat) : Int) ((WX : Nat) : Int) ≤ e - s ∧ e - s ≤ bias ((WX : Nat) : Int) - (WM : Nat) :=
    ⟨min (WM + 1 - bl N) (e - least ((WM : Nat) : Int) ((WX : Nat) : Int)).toNat, by omega, by omega, by omega⟩
  have hp := p2_pos s
  have hlt : N * p2 s < p2 (WM + 1) := by
    have h1 := Int.mul_lt_mul_of_pos_right c3 hp
    rw [← p2_add] at h1
    exact Int.lt_of_lt_of_le h1 (p2_mono hs1)
  obtain ⟨E', M', f, h1, h2⟩ := exact_wide m x WM WX (N * p2 s) (e - s) hx hw1 hw2 (Int.mul_pos hN hp) hlt hs2 hs3
  exact ⟨E', M', f, by rw [← h1, pack_scale _ _ N e s (by omega)], by rw [h2, pack_scale _ _ N e s (by omega)]⟩
/-- rounding twice is rounding once -/
theorem wide_twice (m x WM WX : Nat) (N e : Int) (more : Bool) (hx : 2 ≤ x) (hw1 : 2 * m + 4 ≤ WM ∧ (WM : Int) ≤ 2 * m + 4 + bias x ∧ (m : Int) ≤ 2 * bias x ∧ WM ≤ 60) (hw2 : x + 2 ≤ WX) (hb : 1 ≤ bias x) (hN : 0 < N) (hno : e + bl N ≤ bias ((WX : Nat) : Int)) (hlo : least ((WM : Nat) : Int) ((WX : Nat) : Int) ≤ e + bl N - 1)
    (hmore : more = true → e < unitI WM WX (bl N) e)
    (hmid : ∀ k j : Nat, 1 ≤ k → unitI WM WX (bl N) e = e + k → unitI m x (bl N) e = e + k + j → rnd N k more % p2 j = p2 (j - 1) → N = rnd N k more * p2 k ∧ more = false) :
    ∃ E' M', FinP WM WX E' M' ∧ packP WM WX N e more = (E' - least ((WM : Nat) : Int) ((WX : Nat) : Int)) * p2 WM + M' ∧ packP m x M' E' false = packP m x N e more := by
  have hls : least m x = 1 - bias x - m := rfl
  have hl := least_wide m x WM WX hx hw1 hw2
  by_cases hex : unitI WM WX (bl N) e ≤ e
  · have hmf : more = false := by
      cases more with
      | false => rfl
      | true => have := hmore rfl; omega
    subst hmf
    unfold unitI at hex
    obtain ⟨b1, b2, b3⟩ := bl_bd N hN
    refine exact_wide2 m x WM WX N e hx hw1 hw2 hN ?_ (by omega) (by omega)
    exact Int.lt_of_lt_of_le b3 (p2_mono (by omega))
  · obtain ⟨k, hk⟩ : ∃ k : Nat, unitI WM WX (bl N) e = e + k := ⟨(unitI WM WX (bl N) e - e).toNat, by omega⟩
    have hk1 : 1 ≤ k := by omega
    have hkb : k < bl N := by
      unfold unitI at hk
      omega
    obtain ⟨E', M', f', hp, hE, hv⟩ := pack_cutfin WM WX N e more k (by omega) hN hk1 hkb hk hno
    refine ⟨E', M', f', hp, ?_⟩
    have h1 : packP m x M' E' false = packP m x (rnd N k more) (e + k) false := by
      refine pack_same m x M' (rnd N k more) E' (e + k) (e + k) (by have := f'.1; omega) (rnd_nonneg N k more (by omega)) hE (Int.le_refl _) ?_
      rw [hv, show (e + ↑k - (e + ↑k)).toNat = 0 by omega, show p2 0 = 1 from rfl, Int.mul_one]
    rw [h1]
    by_cases hov : bias x < e + bl N - 1
    · exact pack_twice_inf m x N e more k hN hk1 hkb hov
    · obtain ⟨j, hj⟩ : ∃ j : Nat, unitI m x (bl N) e = e + k + j := ⟨(unitI m x (bl N) e - e - k).toNat, by
        unfold unitI at hk ⊢
        omega⟩
      have hj1 : 1 ≤ j := by
        unfold unitI at hk hj
        omega
      by_cases hm : rnd N k more % p2 j = p2 (j - 1)
      · obtain ⟨h2, h3⟩ := hmid k j hk1 hk hj hm
        subst h3
        have := pack_scale m x (rnd N k false) (e + k) k (rnd_nonneg N k false (by omega))
        rw [show e + ↑k - ↑k = e by omega, ← h2] at this
        exact this.symm
      · exact pack_twice m x N e more k j hx hN hk1 hkb hj1 (by omega) hj hm
end Go.Proofs.YthfjjkikeebopaaDoor
namespace Go.Proofs.YthfjjkikeebopaaDoor
open Go.RowKit
set_option maxHeartbeats 1000000
set_option linter.unusedVariables false

theorem sum_nomid (m x WM WX : Nat) (E1 M1 E2 M2 s N : Int) (hs : s = 1 ∨ s = -1) (hx : 2 ≤ x) (hw1 : 2 * m + 4 ≤ WM ∧ (WM : Int) ≤ 2 * m + 4 + bias x ∧ (m : Int) ≤ 2 * bias x ∧ WM ≤ 60) (hw2 : x + 2 ≤ WX) (hb : 1 ≤ bias x) (f1 : FinP m x E1 M1) (f2 : FinP m x E2 M2) (hE : E2 ≤ E1) (hNe : N = M1 * p2 (E1 - E2).toNat + s * M2) (hN : 0 < N)
    (k j : Nat) (hk1 : 1 ≤ k) (hk : unitI WM WX (bl N) E2 = E2 + k) (hj : unitI m x (bl N) E2 = E2 + k + j) : rnd N k false % p2 j ≠ p2 (j - 1) := by
  intro hmid
  obtain ⟨a0, a1, a2, a3, a4⟩ := f1
  obtain ⟨b0, b1, b2, b3, -⟩ := f2
  have hls : least m x = 1 - bias x - m := rfl
  have hl := least_wide m x WM WX hx hw1 hw2
  obtain ⟨d, hd⟩ : ∃ d, d = (E1 - E2).toNat := ⟨_, rfl⟩
  rw [← hd] at hNe
  have hD := p2_pos d
  have hP := p2_pos (m + 1)
  have hPD : p2 (m + 1) ≤ p2 (m + 1) * p2 d := by
    have := Int.mul_le_mul_of_nonneg_left (show (1 : Int) ≤ p2 d by omega) (show 0 ≤ p2 (m + 1) by omega)
    omega
  have hM1 : M1 * p2 d ≤ p2 (m + 1) * p2 d - p2 d := by
    have := Int.mul_le_mul_of_nonneg_right (show M1 ≤ p2 (m + 1) - 1 by omega) (show 0 ≤ p2 d by omega)
    rw [Int.sub_mul, Int.one_mul] at this
    exact this
  have hsm : s * M2 ≤ M2 ∧ -M2 ≤ s * M2 := by rcases hs with rfl | rfl <;> omega
  have e2 : p2 (d + m + 2) = 2 * (p2 (m + 1) * p2 d) := by rw [show d + m + 2 = (m + 1 + d) + 1 by omega, p2_succ, p2_add]
  have hL : bl N ≤ d + m + 2 := bl_le (by omega) (by rw [e2]; omega)
  have hku : (k : Int) = bl N - 1 - WM := by
    unfold unitI at hk
    omega
  have hd4 : m + 4 ≤ d := by omega
  have hm1 : p2 m ≤ M1 := by
    rcases a4 with h | h
    · exact h
    · omega
  have hD16 : p2 4 ≤ p2 d := p2_mono (by omega)
  have h16 : p2 4 = 16 := rfl
  have hpm := p2_pos m
  have e1 : p2 (m + 1) = 2 * p2 m := p2_succ m
  have hlow : p2 (m + d - 1) ≤ N := by
    have e3 : p2 (m + d - 1) * 2 = p2 m * p2 d := by
      rw [← p2_add, Int.mul_comm, ← p2_succ]
      congr 1
      omega
    have h1 := Int.mul_le_mul_of_nonneg_right hm1 (show 0 ≤ p2 d by omega)
    have h2 := Int.mul_le_mul_of_nonneg_left (show (16 : Int) ≤ p2 d by omega) (show 0 ≤ p2 m by omega)
    omega
  have hLl : m + d - 1 < bl N := lt_bl hlow
  have hkj : k + j + m + 1 = bl N := by
    unfold unitI at hj
    omega
  obtain ⟨g, hg⟩ : ∃ g, g = k + j - 1 := ⟨_, rfl⟩
  have hj4 : m + 4 ≤ j := by omega
  have hgd : g ≤ d := by omega
  have hq := Int.mul_ediv_add_emod (rnd N k false) (p2 j)
  obtain ⟨n1, n2⟩ := rnd_near_any N k false hk1 (by omega)
  rw [hmid] at hq
  generalize rnd N k false = W at *
  generalize W / p2 j = q at *
  have ej : p2 j = 2 * p2 (j - 1) := by
    have := p2_succ (j - 1)
    rwa [show j - 1 + 1 = j by omega] at this
  have ek : 2 * p2 (k - 1) = p2 k := by
    have := p2_succ (k - 1)
    rw [show k - 1 + 1 = k by omega] at this
    omega
  have eg : p2 g = p2 (j - 1) * p2 k := by rw [← p2_add]; congr 1; omega
  have hWk : W * p2 k = (2 * q + 1) * p2 g := by
    rw [← hq, ej, eg, Int.add_mul, Int.add_mul, Int.one_mul, Int.mul_right_comm 2, Int.mul_assoc (2 * q)]
  have eD : p2 d = p2 (d - g) * p2 g := by rw [← p2_add]; congr 1; omega
  have hdiff : N - W * p2 k = (M1 * p2 (d - g) - (2 * q + 1)) * p2 g + s * M2 := by
    rw [hWk, Int.sub_mul, hNe, eD, Int.mul_assoc]
    omega
  rw [ek] at n1 n2
  have egk : p2 (m + 4) * p2 (k - 1) ≤ p2 g := by rw [← p2_add]; exact p2_mono (by omega)
  have hH := p2_pos (k - 1)
  have e4 : p2 (m + 4) = 8 * p2 (m + 1) := by
    rw [show m + 4 = (m + 1) + 3 by omega, p2_add, show p2 3 = 8 from rfl, Int.mul_comm]
  have hgg := p2_pos g
  have c1 := Int.mul_le_mul_of_nonneg_left (show (1 : Int) ≤ p2 (k - 1) by omega) (show 0 ≤ p2 (m + 1) by omega)
  have c2 := Int.mul_le_mul_of_nonneg_right (show (1 : Int) ≤ p2 (m + 1) by omega) (show 0 ≤ p2 (k - 1) by omega)
  rw [e4, Int.mul_assoc] at egk
  have hA : M1 * p2 (d - g) - (2 * q + 1) = 0 := by
    apply Classical.byContradiction
    intro hne
    generalize M1 * p2 (d - g) - (2 * q + 1) = A at *
    rcases Int.lt_or_le A 0 with h | h
    · have := Int.mul_le_mul_of_nonneg_right (show A ≤ -1 by omega) (show 0 ≤ p2 g by omega)
      omega
    · have := Int.mul_le_mul_of_nonneg_right (show 1 ≤ A by omega) (show 0 ≤ p2 g by omega)
      omega
  by_cases hdg : d = g
  · rw [hA, Int.zero_mul, Int.zero_add] at hdiff
    obtain ⟨-, l1, -⟩ := bl_bd N hN
    rw [show bl N - 1 = m + 1 + d by omega, p2_add] at l1
    have e6 : p2 d = 2 * p2 (d - 1) := by
      have := p2_succ (d - 1)
      rwa [show d - 1 + 1 = d by omega] at this
    have e7 : p2 (k - 1) ≤ p2 (d - 1) := p2_mono (by omega)
    have := p2_pos (d - 1)
    omega
  · have e5 : p2 (d - g) = 2 * p2 (d - g - 1) := by
      have := p2_succ (d - g - 1)
      rwa [show d - g - 1 + 1 = d - g by omega] at this
    rw [e5, ← Int.mul_assoc, Int.mul_comm M1 2, Int.mul_assoc] at hA
    omega
end Go.Proofs.YthfjjkikeebopaaDoor
namespace Go.Proofs.YthfjjkikeebopaaDoor
open Go.RowKit
set_option maxHeartbeats 1000000
set_option linter.unusedVariables false

/-- a number that a power of two divides is none or as great -/
theorem div_far (Z : Int) (t : Nat) (A : Int) (h : Z = A * p2 t) (hne : Z ≠ 0) : p2 t ≤ Z ∨ Z ≤ -p2 t := by
  have hp := p2_pos t
  rcases Int.lt_or_le A 0 with h1 | h1
  · right
    have := Int.mul_le_mul_of_nonneg_right (show A ≤ -1 by omega) (show 0 ≤ p2 t by omega)
    omega
  · left
    have h0 : A ≠ 0 := fun e => hne (by rw [h, e, Int.zero_mul])
    have := Int.mul_le_mul_of_nonneg_right (show 1 ≤ A by omega) (show 0 ≤ p2 t by omega)
    omega
theorem quo_mid (m x WM WX : Nat) (E1 M1 E2 M2 : Int) (hm : m ≤ 23) (hx : 2 ≤ x) (hw1 : 2 * m + 4 ≤ WM ∧ (WM : Int) ≤ 2 * m + 4 + bias x ∧ (m : Int) ≤ 2 * bias x ∧ WM ≤ 60) (hw2 : x + 2 ≤ WX) (hb : 1 ≤ bias x) (f1 : FinP m x E1 M1) (f2 : FinP m x E2 M2) (k j : Nat) (hk1 : 1 ≤ k)
    (hk : unitI WM WX (bl (quoQ M1 M2)) (quoE E1 M1 E2 M2) = quoE E1 M1 E2 M2 + k) (hj : unitI m x (bl (quoQ M1 M2)) (quoE E1 M1 E2 M2) = quoE E1 M1 E2 M2 + k + j)
    (hmid : rnd (quoQ M1 M2) k (decide (quoR M1 M2 ≠ 0)) % p2 j = p2 (j - 1)) : quoQ M1 M2 = rnd (quoQ M1 M2) k (decide (quoR M1 M2 ≠ 0)) * p2 k ∧ decide (quoR M1 M2 ≠ 0) = false := by
  obtain ⟨a0, a1, a2, a3, -⟩ := f1
  obtain ⟨b0, b1, b2, b3, -⟩ := f2
  have hls : least m x = 1 - bias x - m := rfl
  have hl := least_wide m x WM WX hx hw1 hw2
  have h24 : p2 (m + 1) ≤ p2 24 := p2_mono (by omega)
  have e24 : p2 24 = 16777216 := by decide +kernel
  have hQb := quoQ_bd M1 M2 a0 (by omega) b0 (by omega)
  have hQl := quoQ_bl M1 M2 a0 (by omega) b0 (by omega)
  have e64 : p2 64 = 18446744073709551616 := by decide +kernel
  have hQl2 : bl (quoQ M1 M2) ≤ 64 := bl_le (by omega) (by omega)
  have hl1 : bl M1 ≤ m + 1 := bl_le (by omega) a1
  have hl2 : bl M2 ≤ m + 1 := bl_le (by omega) b1
  obtain ⟨hp1, -, -⟩ := bl_bd M1 a0
  obtain ⟨hp2, -, c2⟩ := bl_bd M2 b0
  have hRd : M1 * p2 (64 - bl M1) * 9223372036854775808 = M2 * p2 (64 - bl M2) * quoQ M1 M2 + quoR M1 M2 := (Int.mul_ediv_add_emod _ _).symm
  have hB0 : 0 < M2 * p2 (64 - bl M2) := Int.mul_pos b0 (p2_pos _)
  have hR0 : 0 ≤ quoR M1 M2 := Int.emod_nonneg _ (by omega)
  have hR1 : quoR M1 M2 < M2 * p2 (64 - bl M2) := Int.emod_lt_of_pos _ hB0
  have hqE : quoE E1 M1 E2 M2 = (E1 - ((64 - bl M1 : Nat) : Int)) - (E2 - ((64 - bl M2 : Nat) : Int)) - 63 := rfl
  have hB1 : M2 * p2 (64 - bl M2) < p2 64 := by
    have h1 := Int.mul_lt_mul_of_pos_right c2 (p2_pos (64 - bl M2))
    rw [← p2_add, show bl M2 + (64 - bl M2) = 64 by omega] at h1
    exact h1
  have hj4 : m + 4 ≤ j := by
    unfold unitI at hk hj
    omega
  have hkb : 64 + k ≤ 64 - bl M1 + 63 := by
    unfold unitI at hk
    omega
  obtain ⟨n1, n2⟩ := rnd_near_any (quoQ M1 M2) k (decide (quoR M1 M2 ≠ 0)) hk1 (by omega)
  have hq := Int.mul_ediv_add_emod (rnd (quoQ M1 M2) k (decide (quoR M1 M2 ≠ 0))) (p2 j)
  rw [hmid] at hq
  have hW0 := rnd_nonneg (quoQ M1 M2) k (decide (quoR M1 M2 ≠ 0)) (by omega)
  generalize rnd (quoQ M1 M2) k (decide (quoR M1 M2 ≠ 0)) = W at *
  generalize W / p2 j = q at *
  obtain ⟨g, hg⟩ : ∃ g, g = k + j - 1 := ⟨_, rfl⟩
  have ej : p2 j = 2 * p2 (j - 1) := by
    have := p2_succ (j - 1)
    rwa [show j - 1 + 1 = j by omega] at this
  have ek : 2 * p2 (k - 1) = p2 k := by
    have := p2_succ (k - 1)
    rw [show k - 1 + 1 = k by omega] at this
    omega
  have eg : p2 g = p2 (j - 1) * p2 k := by rw [← p2_add]; congr 1; omega
  have hWk : W * p2 k = (2 * q + 1) * p2 g := by
    rw [← hq, ej, eg, Int.add_mul, Int.add_mul, Int.one_mul, Int.mul_right_comm 2, Int.mul_assoc (2 * q)]
  rw [ek] at n1 n2
  -- how far the middle lies off
  have hZ : M1 * p2 (64 - bl M1) * 9223372036854775808 - W * p2 k * (M2 * p2 (64 - bl M2)) = (quoQ M1 M2 - W * p2 k) * (M2 * p2 (64 - bl M2)) + quoR M1 M2 := by
    rw [hRd, Int.sub_mul, Int.mul_comm (M2 * p2 (64 - bl M2)) (quoQ M1 M2)]
    omega
  have hH := p2_pos (k - 1)
  have u1 := Int.mul_le_mul_of_nonneg_right n2 (show 0 ≤ M2 * p2 (64 - bl M2) by omega)
  have u2 := Int.mul_le_mul_of_nonneg_right (show -(p2 (k - 1)) ≤ quoQ M1 M2 - W * p2 k by omega) (show 0 ≤ M2 * p2 (64 - bl M2) by omega)
  have u3 := Int.mul_le_mul_of_nonneg_right (show (1 : Int) ≤ p2 (k - 1) by omega) (show 0 ≤ M2 * p2 (64 - bl M2) by omega)
  rw [Int.neg_mul] at u2
  have hz0 : M1 * p2 (64 - bl M1) * 9223372036854775808 - W * p2 k * (M2 * p2 (64 - bl M2)) = 0 := by
    apply Classical.byContradiction
    intro hne
    have e63 : (9223372036854775808 : Int) = p2 63 := by decide +kernel
    by_cases hlt : 64 - bl M1 + 63 ≤ g + (64 - bl M2)
    · have hdv : M1 * p2 (64 - bl M1) * 9223372036854775808 - W * p2 k * (M2 * p2 (64 - bl M2)) = (M1 - (2 * q + 1) * M2 * p2 (g + (64 - bl M2) - (64 - bl M1 + 63))) * p2 (64 - bl M1 + 63) := by
        have hs2 : p2 (g + (64 - bl M2)) = p2 g * p2 (64 - bl M2) := p2_add _ _
        rw [Int.sub_mul, Int.mul_assoc M1, e63, ← p2_add, hWk, Int.mul_assoc ((2 * q + 1) * M2), ← p2_add, show g + (64 - bl M2) - (64 - bl M1 + 63) + (64 - bl M1 + 63) = g + (64 - bl M2) by omega, hs2]
        congr 1
        ac_rfl
      have hfar := div_far _ _ _ hdv hne
      have hbnd : p2 (k - 1) * (M2 * p2 (64 - bl M2)) * 2 ≤ p2 (64 - bl M1 + 63) := by
        have h1 := Int.mul_le_mul_of_nonneg_left (show M2 * p2 (64 - bl M2) ≤ p2 64 by omega) (show 0 ≤ p2 k by omega)
        rw [← p2_add, ← ek] at h1
        have h2 : p2 (k + 64) ≤ p2 (64 - bl M1 + 63) := p2_mono (by omega)
        rw [Int.mul_right_comm, Int.mul_comm (p2 (k - 1)) 2]
        omega
      generalize M1 * p2 (64 - bl M1) * 9223372036854775808 - W * p2 k * (M2 * p2 (64 - bl M2)) = Z at *
      generalize (quoQ M1 M2 - W * p2 k) * (M2 * p2 (64 - bl M2)) = DB at *
      generalize p2 (k - 1) * (M2 * p2 (64 - bl M2)) = HB at *
      omega
    · have hdv : M1 * p2 (64 - bl M1) * 9223372036854775808 - W * p2 k * (M2 * p2 (64 - bl M2)) = (M1 * p2 (64 - bl M1 + 63 - (g + (64 - bl M2))) - (2 * q + 1) * M2) * p2 (g + (64 - bl M2)) := by
        have hs2 : p2 (g + (64 - bl M2)) = p2 g * p2 (64 - bl M2) := p2_add _ _
        have hs3 : p2 (64 - bl M1 + 63) = p2 (64 - bl M1 + 63 - (g + (64 - bl M2))) * p2 (g + (64 - bl M2)) := by rw [← p2_add]; congr 1; omega
        rw [Int.sub_mul, Int.mul_assoc M1, e63, ← p2_add, hWk, hs3, Int.mul_assoc M1]
        congr 1
        rw [hs2]
        ac_rfl
      have hfar := div_far _ _ _ hdv hne
      have hbnd : p2 (k - 1) * (M2 * p2 (64 - bl M2)) * 2 ≤ p2 (g + (64 - bl M2)) := by
        have h1 := Int.mul_le_mul_of_nonneg_left (show M2 ≤ p2 (m + 1) by omega) (show 0 ≤ p2 k by omega)
        rw [← p2_add] at h1
        have h2 : p2 (k + (m + 1)) ≤ p2 g := p2_mono (by omega)
        have h3 := Int.mul_le_mul_of_nonneg_right (show p2 k * M2 ≤ p2 g by omega) (show 0 ≤ p2 (64 - bl M2) by have := p2_pos (64 - bl M2); omega)
        rw [← p2_add, ← ek] at h3
        rw [show p2 (k - 1) * (M2 * p2 (64 - bl M2)) * 2 = 2 * p2 (k - 1) * M2 * p2 (64 - bl M2) by ac_rfl]
        exact h3
      generalize M1 * p2 (64 - bl M1) * 9223372036854775808 - W * p2 k * (M2 * p2 (64 - bl M2)) = Z at *
      generalize (quoQ M1 M2 - W * p2 k) * (M2 * p2 (64 - bl M2)) = DB at *
      generalize p2 (k - 1) * (M2 * p2 (64 - bl M2)) = HB at *
      omega
  rw [hz0] at hZ
  have hD : quoQ M1 M2 - W * p2 k = 0 := by
    generalize quoQ M1 M2 - W * p2 k = A at *
    generalize M2 * p2 (64 - bl M2) = B at *
    rcases Int.lt_trichotomy A 0 with h | h | h
    · have := Int.mul_le_mul_of_nonneg_right (show A ≤ -1 by omega) (show 0 ≤ B by omega)
      omega
    · exact h
    · have := Int.mul_le_mul_of_nonneg_right (show 1 ≤ A by omega) (show 0 ≤ B by omega)
      omega
  refine ⟨by omega, ?_⟩
  rw [hD, Int.zero_mul, Int.zero_add] at hZ
  rw [← hZ]
  decide
end Go.Proofs.YthfjjkikeebopaaDoor
namespace Go.Proofs.YthfjjkikeebopaaDoor
open Go.RowKit
set_option maxHeartbeats 1000000
set_option linter.unusedVariables false

theorem dif_sq (a b : Int) : (a - b) * (a + b) = a * a - b * b := by
  rw [Int.sub_mul, Int.mul_add, Int.mul_add, Int.mul_comm b a]
  omega
theorem odd_sq (q : Int) : (2 * q + 1) * (2 * q + 1) = 2 * (2 * (q * q) + 2 * q) + 1 := by
  rw [Int.add_mul, Int.mul_add, Int.one_mul, Int.mul_one, show 2 * q * (2 * q) = 4 * (q * q) by rw [Int.mul_assoc, Int.mul_left_comm q]; omega]
  omega
theorem root_nomid (m x WM WX : Nat) (E M R : Int) (more : Bool) (hm : m ≤ 23) (hx : 2 ≤ x) (hw1 : 2 * m + 4 ≤ WM ∧ (WM : Int) ≤ 2 * m + 4 + bias x ∧ (m : Int) ≤ 2 * bias x ∧ WM ≤ 60) (hw2 : x + 2 ≤ WX) (hb : 1 ≤ bias x) (f : FinP m x E M) (hR : IsRoot (rootS E M * 18446744073709551616) R) (k j : Nat) (hk1 : 1 ≤ k)
    (hk : unitI WM WX (bl R) (rootE E M) = rootE E M + k) (hj : unitI m x (bl R) (rootE E M) = rootE E M + k + j) : rnd R k more % p2 j ≠ p2 (j - 1) := by
  intro hmid
  obtain ⟨a0, a1, a2, a3, -⟩ := f
  have hls : least m x = 1 - bias x - m := rfl
  have hl := least_wide m x WM WX hx hw1 hw2
  have h24 : p2 (m + 1) ≤ p2 24 := p2_mono (by omega)
  have e24 : p2 24 = 16777216 := by decide +kernel
  have e64 : p2 64 = 18446744073709551616 := by decide +kernel
  have e63 : p2 63 = 9223372036854775808 := by decide +kernel
  have e65 : p2 65 = 36893488147419103232 := by decide +kernel
  obtain ⟨v1, v2, v3, v4⟩ := upE_ok E M a0 (by omega)
  have hlM : bl M ≤ m + 1 := bl_le (by omega) a1
  obtain ⟨hp1, -, -⟩ := bl_bd M a0
  have hu1 : 64 - bl M - 1 ≤ upE E M ∧ upE E M ≤ 64 - bl M := by
    unfold upE
    split <;> omega
  have he : 2 * rootE E M = E - (upE E M : Int) - 64 := by
    unfold rootE
    omega
  have hS : rootS E M = M * p2 (upE E M) := rfl
  obtain ⟨r0, r1, r2⟩ := hR
  rw [hS] at r1 r2
  have hSu : M * p2 (upE E M) * 18446744073709551616 = M * p2 (upE E M + 64) := by rw [p2_add, e64, Int.mul_assoc]
  have hR1 : R < 18446744073709551616 := sq_lt (by omega) (by omega)
  have hR2 : 9223372036854775808 < R + 1 := sq_lt (by omega) (Int.lt_of_le_of_lt (by omega) r2)
  have hRl : bl R = 64 := bl_of (.inr ⟨by omega, by rw [e63]; omega, by rw [e64]; omega⟩)
  rw [hRl] at hk hj
  generalize rootE E M = e at *
  generalize upE E M = u at *
  have hk59 : k + 2 * m ≤ 59 := by
    unfold unitI at hk
    omega
  have hkj5 : 63 ≤ k + j + m := by
    unfold unitI at hk hj
    omega
  have hku : k + 1 ≤ u := by
    unfold unitI at hk
    omega
  have hj4 : m + 4 ≤ j := by
    unfold unitI at hk hj
    omega
  obtain ⟨g, hg⟩ : ∃ g, g = k + j - 1 := ⟨_, rfl⟩
  have h2g : k + 65 ≤ 2 * g := by omega
  obtain ⟨n1, n2⟩ := rnd_near_any R k more hk1 (by omega)
  obtain ⟨-, w2⟩ := rnd_bits R k more (by omega) hk1 (by rw [hRl]; omega)
  rw [hRl] at w2
  have hW0 := rnd_nonneg R k more (by omega)
  have hq := Int.mul_ediv_add_emod (rnd R k more) (p2 j)
  rw [hmid] at hq
  generalize rnd R k more = W at *
  have hq0 : 0 ≤ W / p2 j := Int.ediv_nonneg hW0 (by have := p2_pos j; omega)
  generalize W / p2 j = q at *
  have ej : p2 j = 2 * p2 (j - 1) := by
    have := p2_succ (j - 1)
    rwa [show j - 1 + 1 = j by omega] at this
  have ek : 2 * p2 (k - 1) = p2 k := by
    have := p2_succ (k - 1)
    rw [show k - 1 + 1 = k by omega] at this
    omega
  have eg : p2 g = p2 (j - 1) * p2 k := by rw [← p2_add]; congr 1; omega
  have hWk : W * p2 k = (2 * q + 1) * p2 g := by
    rw [← hq, ej, eg, Int.add_mul, Int.add_mul, Int.one_mul, Int.mul_right_comm 2, Int.mul_assoc (2 * q)]
  have hV64 : W * p2 k ≤ 18446744073709551616 := by
    have := Int.mul_le_mul_of_nonneg_right w2 (show 0 ≤ p2 k by have := p2_pos k; omega)
    rw [← p2_add, show 64 - k + k = 64 by omega, e64] at this
    exact this
  rw [ek] at n1 n2
  have hH := p2_pos (k - 1)
  have hg0 := p2_pos g
  have hV0 : 0 < W * p2 k := by rw [hWk]; exact Int.mul_pos (by omega) hg0
  have hVV : W * p2 k * (W * p2 k) = (2 * q + 1) * (2 * q + 1) * p2 (2 * g) := by
    rw [hWk, show 2 * g = g + g by omega, p2_add]
    ac_rfl
  have ek65 : p2 (k + 65) = p2 (k - 1) * 73786976294838206464 := by
    rw [show k + 65 = (k - 1) + 66 by omega, p2_add, show p2 66 = 73786976294838206464 by decide +kernel]
  -- the square of the middle is not the number
  have hne : M * p2 (u + 64) - W * p2 k * (W * p2 k) ≠ 0 := by
    intro h0
    rw [hVV] at h0
    by_cases hc : 2 * g < u + 64
    · have e1 : p2 (u + 64) = 2 * p2 (u + 64 - 2 * g - 1) * p2 (2 * g) := by
        rw [← p2_succ, ← p2_add]; congr 1; omega
      rw [e1, ← Int.mul_assoc, ← Int.sub_mul] at h0
      rcases Int.mul_eq_zero.1 h0 with h | h
      · rw [odd_sq, Int.mul_left_comm] at h
        omega
      · have := p2_pos (2 * g); omega
    · have hgm : g = 62 - m := by
        unfold unitI at hj
        omega
      have e1 : p2 (2 * g) = p2 (2 * g - (u + 64)) * p2 (u + 64) := by rw [← p2_add]; congr 1; omega
      rw [e1, ← Int.mul_assoc, ← Int.sub_mul] at h0
      rcases Int.mul_eq_zero.1 h0 with h | h
      · have hpp := p2_pos (2 * g - (u + 64))
        have h63 : 9223372036854775808 ≤ W * p2 k := by
          have h1 : W * p2 k * (W * p2 k) = M * p2 (u + 64) := by
            rw [hVV, e1, ← Int.mul_assoc]
            have : M = (2 * q + 1) * (2 * q + 1) * p2 (2 * g - (u + 64)) := by omega
            rw [← this]
          have h2 : 9223372036854775807 < W * p2 k := sq_lt (by omega) (by rw [h1, ← hSu]; omega)
          omega
        have hqb : p2 (m + 1) ≤ 2 * q + 1 := by
          rw [hWk, ← e63, show 63 = (m + 1) + g by omega, p2_add] at h63
          exact Int.le_of_mul_le_mul_right h63 hg0
        have t1 := Int.mul_le_mul_of_nonneg_right hqb (show 0 ≤ 2 * q + 1 by omega)
        have t2 := Int.mul_le_mul_of_nonneg_left (show (1 : Int) ≤ 2 * q + 1 by omega) (show 0 ≤ p2 (m + 1) by omega)
        have t3 := Int.mul_le_mul_of_nonneg_left (show (1 : Int) ≤ p2 (2 * g - (u + 64)) by omega) (show 0 ≤ (2 * q + 1) * (2 * q + 1) by omega)
        omega
      · have := p2_pos (u + 64); omega
  have hdv : M * p2 (u + 64) - W * p2 k * (W * p2 k) = (M * p2 (u + 64 - (k + 65)) - (2 * q + 1) * (2 * q + 1) * p2 (2 * g - (k + 65))) * p2 (k + 65) := by
    rw [hVV, Int.sub_mul, Int.mul_assoc M, ← p2_add, Int.mul_assoc ((2 * q + 1) * (2 * q + 1)), ← p2_add, show u + 64 - (k + 65) + (k + 65) = u + 64 by omega, show 2 * g - (k + 65) + (k + 65) = 2 * g by omega]
  have hfar := div_far _ _ _ hdv hne
  rw [ek65] at hfar
  rw [hSu] at r1 r2
  generalize W * p2 k = V at *
  have d1 := dif_sq (R + 1) V
  have d2 := dif_sq R V
  generalize M * p2 (u + 64) = Z at *
  rcases hfar with h | h
  · have hpos : 0 ≤ R + 1 - V := by
      apply Classical.byContradiction
      intro hn
      have := Int.mul_le_mul (show R + 1 ≤ V by omega) (show R + 1 ≤ V by omega) (by omega) (by omega)
      omega
    have t1 := Int.mul_le_mul_of_nonneg_right (show R + 1 - V ≤ p2 (k - 1) + 1 by omega) (show 0 ≤ R + 1 + V by omega)
    have t2 := Int.mul_le_mul_of_nonneg_left (show R + 1 + V ≤ 36893488147419103232 by omega) (show 0 ≤ p2 (k - 1) + 1 by omega)
    omega
  · have t1 := Int.mul_le_mul_of_nonneg_right (show -(p2 (k - 1)) ≤ R - V by omega) (show 0 ≤ R + V by omega)
    have t2 := Int.mul_le_mul_of_nonneg_left (show R + V ≤ 36893488147419103232 by omega) (show 0 ≤ p2 (k - 1) by omega)
    rw [Int.neg_mul] at t1
    omega
end Go.Proofs.YthfjjkikeebopaaDoor
namespace Go.Proofs.YthfjjkikeebopaaDoor
open Go.RowKit
set_option maxHeartbeats 1000000
set_option linter.unusedVariables false

theorem bl_scale (M : Int) (t : Nat) (h : 0 < M) : bl (M * p2 t) = bl M + t := by
  obtain ⟨a, b, c⟩ := bl_bd M h
  have hp := p2_pos t
  refine bl_of (.inr ⟨by omega, ?_, ?_⟩)
  · rw [show bl M + t - 1 = (bl M - 1) + t by omega, p2_add]
    exact Int.mul_le_mul_of_nonneg_right b (by omega)
  · rw [p2_add]
    exact Int.mul_lt_mul_of_pos_right c hp
theorem up_scale (M : Int) (t : Nat) (h : 0 < M) (hb : bl M + t ≤ 64) : M * p2 t * p2 (64 - bl (M * p2 t)) = M * p2 (64 - bl M) := by
  rw [bl_scale M t h, Int.mul_assoc, ← p2_add]
  congr 2
  omega
theorem quo_scale (E1 M1 E2 M2 : Int) (a b : Nat) (h1 : 0 < M1) (h2 : 0 < M2) (hb1 : bl M1 + a ≤ 64) (hb2 : bl M2 + b ≤ 64) :
    quoQ (M1 * p2 a) (M2 * p2 b) = quoQ M1 M2 ∧ quoR (M1 * p2 a) (M2 * p2 b) = quoR M1 M2 ∧ quoE (E1 - a) (M1 * p2 a) (E2 - b) (M2 * p2 b) = quoE E1 M1 E2 M2 := by
  refine ⟨?_, ?_, ?_⟩
  · unfold quoQ
    rw [up_scale M1 a h1 hb1, up_scale M2 b h2 hb2]
  · unfold quoR
    rw [up_scale M1 a h1 hb1, up_scale M2 b h2 hb2]
  · unfold quoE
    rw [bl_scale M1 a h1, bl_scale M2 b h2]
    omega
theorem root_scale (E M : Int) (a : Nat) (h : 0 < M) (hb : bl M + a ≤ 63) : rootS (E - a) (M * p2 a) = rootS E M ∧ rootE (E - a) (M * p2 a) = rootE E M := by
  have hu : upE (E - a) (M * p2 a) + a = upE E M := by
    unfold upE
    rw [bl_scale M a h]
    split <;> split <;> omega
  refine ⟨?_, ?_⟩
  · unfold rootS
    rw [Int.mul_assoc, ← p2_add]
    congr 2
    omega
  · unfold rootE
    congr 1
    omega
/-- a sum's value over a common power -/
theorem sum_valL (n1 : Bool) (E1 M1 : Int) (n2 : Bool) (E2 M2 L : Int) (h1 : L ≤ E1) (h2 : L ≤ E2) : sumS n1 E1 M1 n2 E2 M2 * p2 (min E1 E2 - L).toNat = sg n1 * (M1 * p2 (E1 - L).toNat) + sg n2 * (M2 * p2 (E2 - L).toNat) := by
  unfold sumS
  rw [Int.add_mul, Int.mul_assoc, Int.mul_assoc, Int.mul_assoc, Int.mul_assoc, ← p2_add, ← p2_add]
  rw [show (E1 - min E1 E2).toNat + (min E1 E2 - L).toNat = (E1 - L).toNat by omega, show (E2 - min E1 E2).toNat + (min E1 E2 - L).toNat = (E2 - L).toNat by omega]
theorem abs_mul (S : Int) (t : Nat) : absI S * p2 t = absI (S * p2 t) := by
  have hp := p2_pos t
  unfold absI
  by_cases h : S < 0
  · rw [if_pos h, if_pos (Int.mul_neg_of_neg_of_pos h hp), Int.neg_mul]
  · rw [if_neg h, if_neg (by have := Int.mul_nonneg (show 0 ≤ S by omega) (show 0 ≤ p2 t by omega); omega)]
/-- equal numbers have equal sums -/
theorem sum_alike (m x : Nat) (n1 : Bool) (E1 M1 : Int) (n2 : Bool) (E2 M2 E1' M1' E2' M2' L : Int) (h1 : L ≤ E1) (h2 : L ≤ E2) (h1' : L ≤ E1') (h2' : L ≤ E2') (v1 : M1' * p2 (E1' - L).toNat = M1 * p2 (E1 - L).toNat) (v2 : M2' * p2 (E2' - L).toNat = M2 * p2 (E2 - L).toNat) :
    packP m x (absI (sumS n1 E1' M1' n2 E2' M2')) (min E1' E2') false = packP m x (absI (sumS n1 E1 M1 n2 E2 M2)) (min E1 E2) false ∧ (sumS n1 E1' M1' n2 E2' M2' < 0 ↔ sumS n1 E1 M1 n2 E2 M2 < 0) ∧ (sumS n1 E1' M1' n2 E2' M2' = 0 ↔ sumS n1 E1 M1 n2 E2 M2 = 0) := by
  have e1 := sum_valL n1 E1 M1 n2 E2 M2 L h1 h2
  have e2 := sum_valL n1 E1' M1' n2 E2' M2' L h1' h2'
  rw [v1, v2, ← e1] at e2
  have p1 := p2_pos (min E1 E2 - L).toNat
  have p2' := p2_pos (min E1' E2' - L).toNat
  have ab : ∀ S : Int, 0 ≤ absI S := fun S => by unfold absI; split <;> omega
  refine ⟨pack_same m x _ _ _ _ L (ab _) (ab _) (by omega) (by omega) (by rw [abs_mul, abs_mul, e2]), ?_, ?_⟩
  · generalize sumS n1 E1' M1' n2 E2' M2' = S' at *
    generalize sumS n1 E1 M1 n2 E2 M2 = S at *
    constructor
    · intro h
      have := Int.mul_neg_of_neg_of_pos h p2'
      apply Classical.byContradiction
      intro hn
      have := Int.mul_nonneg (show 0 ≤ S by omega) (Int.le_of_lt p1)
      omega
    · intro h
      have := Int.mul_neg_of_neg_of_pos h p1
      apply Classical.byContradiction
      intro hn
      have := Int.mul_nonneg (show 0 ≤ S' by omega) (Int.le_of_lt p2')
      omega
  · generalize sumS n1 E1' M1' n2 E2' M2' = S' at *
    generalize sumS n1 E1 M1 n2 E2 M2 = S at *
    constructor
    · intro h
      rw [h, Int.zero_mul] at e2
      rcases Int.mul_eq_zero.1 e2.symm with h' | h'
      · exact h'
      · omega
    · intro h
      rw [h, Int.zero_mul] at e2
      rcases Int.mul_eq_zero.1 e2 with h' | h'
      · exact h'
      · omega
end Go.Proofs.YthfjjkikeebopaaDoor
namespace Go.Proofs.YthfjjkikeebopaaDoor
open Go.RowKit
set_option maxHeartbeats 1000000
set_option linter.unusedVariables false

theorem p2x_bias (x : Nat) (hx : 2 ≤ x) : p2 x = 2 * (bias x + 1) := by
  unfold bias
  rw [show ((x : Int) - 1).toNat = x - 1 by omega, Int.sub_add_cancel]
  have := p2_succ (x - 1)
  rwa [show x - 1 + 1 = x by omega] at this
/-- what a format makes of a number at its end that it cuts: a number, or the infinity -/
theorem pack_end (m x : Nat) (N e : Int) (more : Bool) (k : Nat) (hx : 2 ≤ x) (hb : 1 ≤ bias x) (hN : 0 < N) (hk : 1 ≤ k) (hkb : k < bl N) (hu : unitI m x (bl N) e = e + k) (hno : e + bl N - 1 = bias x) :
    (FinP m x (e + k) (rnd N k more) ∧ packP m x N e more = (e + k - least m x) * p2 m + rnd N k more) ∨ packP m x N e more = (p2 x - 1) * p2 m := by
  obtain ⟨w1, w2⟩ := rnd_bits N k more hN hk hkb
  have hp := p2_pos (bl N - k - 1)
  have hls : least m x = 1 - bias x - m := rfl
  have hr : packP m x N e more = (e + k - least m x) * p2 m + rnd N k more := by
    rw [packP_pos m x N e more hN, if_neg (by omega), hu]
    congr 1
    unfold unitsI
    rw [if_neg (by omega), show (e + ↑k - e).toNat = k by omega]
  unfold unitI at hu
  have hlm : bl N - k = m + 1 := by omega
  rw [hlm] at w2
  rw [show bl N - k - 1 = m by omega] at w1 hp
  by_cases hc : rnd N k more < p2 (m + 1)
  · exact .inl ⟨⟨by omega, hc, by omega, by omega, .inl w1⟩, hr⟩
  · right
    have hW : rnd N k more = p2 (m + 1) := by omega
    rw [hr, hW, p2_succ, p2x_bias x hx, show e + ↑k - least m x = 2 * bias x - 1 by omega]
    rw [show 2 * (bias x + 1) - 1 = (2 * bias x - 1) + 2 by omega, Int.add_mul]
/-- rounding twice is rounding once, infinities too -/
theorem wide_all (m x WM WX : Nat) (N e : Int) (more : Bool) (hx : 2 ≤ x) (hw1 : 2 * m + 4 ≤ WM ∧ (WM : Int) ≤ 2 * m + 4 + bias x ∧ (m : Int) ≤ 2 * bias x ∧ WM ≤ 60) (hw2 : x + 2 ≤ WX) (hb : 1 ≤ bias x) (hN : 0 < N) (hlo : least ((WM : Nat) : Int) ((WX : Nat) : Int) ≤ e + bl N - 1)
    (hmore : more = true → e < unitI WM WX (bl N) e) (hov : bias ((WX : Nat) : Int) < e + bl N → e < unitI WM WX (bl N) e)
    (hmid : ∀ k j : Nat, 1 ≤ k → unitI WM WX (bl N) e = e + k → unitI m x (bl N) e = e + k + j → rnd N k more % p2 j = p2 (j - 1) → N = rnd N k more * p2 k ∧ more = false) :
    (∃ E' M', FinP WM WX E' M' ∧ packP WM WX N e more = (E' - least ((WM : Nat) : Int) ((WX : Nat) : Int)) * p2 WM + M' ∧ packP m x M' E' false = packP m x N e more) ∨
    (packP WM WX N e more = (p2 WX - 1) * p2 WM ∧ packP m x N e more = (p2 x - 1) * p2 m) := by
  by_cases hno : e + bl N ≤ bias ((WX : Nat) : Int)
  · exact .inl (wide_twice m x WM WX N e more hx hw1 hw2 hb hN hno hlo hmore hmid)
  have hbw := bias_wide x WX hx hw2
  have hnar : packP m x N e more = (p2 x - 1) * p2 m := by rw [packP_pos m x N e more hN, if_pos (by omega)]
  by_cases hend : e + bl N - 1 = bias ((WX : Nat) : Int)
  · have hex := hov (by omega)
    obtain ⟨k, hk⟩ : ∃ k : Nat, unitI WM WX (bl N) e = e + k := ⟨(unitI WM WX (bl N) e - e).toNat, by omega⟩
    have hk1 : 1 ≤ k := by omega
    have hkb : k < bl N := by
      unfold unitI at hk
      omega
    rcases pack_end WM WX N e more k (by omega) (by omega) hN hk1 hkb hk hend with ⟨f, h⟩ | h
    · exact .inl ⟨e + k, rnd N k more, f, h, pack_twice_inf m x N e more k hN hk1 hkb (by omega)⟩
    · exact .inr ⟨h, hnar⟩
  · refine .inr ⟨?_, hnar⟩
    rw [packP_pos WM WX N e more hN, if_pos (by omega)]
/-- a narrow number in the wide format is the number scaled -/
theorem wide_up (m x WM WX : Nat) (E M : Int) (hx : 2 ≤ x) (hw1 : 2 * m + 4 ≤ WM ∧ (WM : Int) ≤ 2 * m + 4 + bias x ∧ (m : Int) ≤ 2 * bias x ∧ WM ≤ 60) (hw2 : x + 2 ≤ WX) (hb : 1 ≤ bias x) (f : FinP m x E M) :
    ∃ t : Nat, FinP WM WX (E - t) (M * p2 t) ∧ packP WM WX M E false = (E - t - least ((WM : Nat) : Int) ((WX : Nat) : Int)) * p2 WM + M * p2 t ∧ bl M + t ≤ WM + 1 := by
  obtain ⟨E', M', f', hv, hp⟩ := wide_ex m x WM WX E M hx hw1 hw2 hb f
  have hl := least_wide m x WM WX hx hw1 hw2
  have hls : least m x = 1 - bias x - m := rfl
  obtain ⟨a0, a1, a2, a3, -⟩ := f
  obtain ⟨b0, b1, b2, b3, b4⟩ := f'
  generalize hL : least ((WM : Nat) : Int) ((WX : Nat) : Int) = L at *
  have hEE : E' ≤ E := by
    apply Classical.byContradiction
    intro hn
    have e1 : p2 (E' - L).toNat = p2 (E' - E).toNat * p2 (E - L).toNat := by rw [← p2_add]; congr 1; omega
    rw [e1, ← Int.mul_assoc] at hv
    have h2 := Int.eq_of_mul_eq_mul_right (by have := p2_pos (E - L).toNat; omega) hv
    have hq := p2_pos (E' - E).toNat
    have h3 := Int.mul_le_mul_of_nonneg_left (show (1 : Int) ≤ p2 (E' - E).toNat by omega) (show 0 ≤ M' by omega)
    have h4 : p2 (m + 1) ≤ p2 WM := p2_mono (by omega)
    rcases b4 with h | h
    · omega
    · omega
  have e1 : p2 (E - L).toNat = p2 (E - E').toNat * p2 (E' - L).toNat := by rw [← p2_add]; congr 1; omega
  rw [e1, ← Int.mul_assoc] at hv
  have h2 := Int.eq_of_mul_eq_mul_right (by have := p2_pos (E' - L).toNat; omega) hv
  have hE : E' = E - ((E - E').toNat : Int) := by omega
  refine ⟨(E - E').toNat, ?_, ?_, ?_⟩
  · rw [← h2, ← hE]; exact ⟨b0, b1, by rw [hL]; exact b2, b3, by rw [hL]; exact b4⟩
  · rw [hp, ← h2, ← hE]
  · rw [← bl_scale M _ a0, ← h2]
    exact bl_le (by omega) b1
end Go.Proofs.YthfjjkikeebopaaDoor
namespace Go.Proofs.YthfjjkikeebopaaDoor
open Go.RowKit
set_option maxHeartbeats 1000000
set_option linter.unusedVariables false

/-- a wide pattern (without its sign) that the narrow format packs as p -/
def BackP (m x WM WX : Nat) (P p : Int) : Prop :=
  (∃ E' M', FinP WM WX E' M' ∧ P = (E' - least ((WM : Nat) : Int) ((WX : Nat) : Int)) * p2 WM + M' ∧ packP m x M' E' false = p) ∨
  (P = (p2 WX - 1) * p2 WM ∧ p = (p2 x - 1) * p2 m)
theorem mul_back (m x WM WX : Nat) (E1 M1 E2 M2 : Int) (a b : Nat) (hx : 2 ≤ x) (hw1 : 2 * m + 4 ≤ WM ∧ (WM : Int) ≤ 2 * m + 4 + bias x ∧ (m : Int) ≤ 2 * bias x ∧ WM ≤ 60) (hw2 : x + 2 ≤ WX) (hb : 1 ≤ bias x) (f1 : FinP m x E1 M1) (f2 : FinP m x E2 M2) :
    BackP m x WM WX (packP WM WX (M1 * p2 a * (M2 * p2 b)) (E1 - a + (E2 - b)) false) (packP m x (M1 * M2) (E1 + E2) false) := by
  have h := pack_scale WM WX (M1 * M2) (E1 + E2) (a + b) (Int.mul_nonneg (by have := f1.1; omega) (by have := f2.1; omega))
  rw [show M1 * p2 a * (M2 * p2 b) = M1 * M2 * p2 (a + b) by rw [p2_add]; ac_rfl, show E1 - (a : Int) + (E2 - b) = E1 + E2 - ((a + b : Nat) : Int) by omega, h]
  exact .inl (mul_wide m x WM WX E1 M1 E2 M2 hx hw1 hw2 hb f1 f2)
theorem div_back (m x WM WX : Nat) (E1 M1 E2 M2 : Int) (a b : Nat) (hm : m ≤ 23) (hx : 2 ≤ x) (hw1 : 2 * m + 4 ≤ WM ∧ (WM : Int) ≤ 2 * m + 4 + bias x ∧ (m : Int) ≤ 2 * bias x ∧ WM ≤ 60) (hw2 : x + 2 ≤ WX) (hb : 1 ≤ bias x) (f1 : FinP m x E1 M1) (f2 : FinP m x E2 M2) (ha : bl M1 + a ≤ WM + 1) (hbb : bl M2 + b ≤ WM + 1) :
    BackP m x WM WX (divI WM WX (E1 - a) (M1 * p2 a) (E2 - b) (M2 * p2 b)) (divI m x E1 M1 E2 M2) := by
  have hmid := quo_mid m x WM WX E1 M1 E2 M2 hm hx hw1 hw2 hb f1 f2
  obtain ⟨a0, a1, a2, a3, -⟩ := f1
  obtain ⟨b0, b1, b2, b3, -⟩ := f2
  obtain ⟨s1, s2, s3⟩ := quo_scale E1 M1 E2 M2 a b a0 b0 (by omega) (by omega)
  unfold divI
  rw [s1, s2, s3]
  have hls : least m x = 1 - bias x - m := rfl
  have hl := least_wide m x WM WX hx hw1 hw2
  have h24 : p2 (m + 1) ≤ p2 24 := p2_mono (by omega)
  have e24 : p2 24 = 16777216 := by decide +kernel
  have hQb := quoQ_bd M1 M2 a0 (by omega) b0 (by omega)
  have hQl := quoQ_bl M1 M2 a0 (by omega) b0 (by omega)
  have hl1 : bl M1 ≤ m + 1 := bl_le (by omega) a1
  have hl2 : bl M2 ≤ m + 1 := bl_le (by omega) b1
  obtain ⟨hp1, -, -⟩ := bl_bd M1 a0
  obtain ⟨hp2, -, -⟩ := bl_bd M2 b0
  have hqE : quoE E1 M1 E2 M2 = (E1 - ((64 - bl M1 : Nat) : Int)) - (E2 - ((64 - bl M2 : Nat) : Int)) - 63 := rfl
  have hun : quoE E1 M1 E2 M2 < unitI WM WX (bl (quoQ M1 M2)) (quoE E1 M1 E2 M2) := by
    unfold unitI
    omega
  exact wide_all m x WM WX _ _ _ hx hw1 hw2 hb (by omega) (by omega) (fun _ => hun) (fun _ => hun) hmid
theorem root_back (m x WM WX : Nat) (E M R : Int) (more : Bool) (hm : m ≤ 23) (hx : 2 ≤ x) (hw1 : 2 * m + 4 ≤ WM ∧ (WM : Int) ≤ 2 * m + 4 + bias x ∧ (m : Int) ≤ 2 * bias x ∧ WM ≤ 60) (hw2 : x + 2 ≤ WX) (hb : 1 ≤ bias x) (f : FinP m x E M) (hR : IsRoot (rootS E M * 18446744073709551616) R) :
    BackP m x WM WX (packP WM WX R (rootE E M) more) (packP m x R (rootE E M) more) := by
  have hmid := root_nomid m x WM WX E M R more hm hx hw1 hw2 hb f hR
  obtain ⟨a0, a1, a2, a3, -⟩ := f
  have hls : least m x = 1 - bias x - m := rfl
  have hl := least_wide m x WM WX hx hw1 hw2
  have h24 : p2 (m + 1) ≤ p2 24 := p2_mono (by omega)
  have e24 : p2 24 = 16777216 := by decide +kernel
  have e64 : p2 64 = 18446744073709551616 := by decide +kernel
  have e63 : p2 63 = 9223372036854775808 := by decide +kernel
  obtain ⟨v1, v2, v3, v4⟩ := upE_ok E M a0 (by omega)
  have hlM : bl M ≤ m + 1 := bl_le (by omega) a1
  obtain ⟨hp1, -, -⟩ := bl_bd M a0
  have hu1 : 64 - bl M - 1 ≤ upE E M ∧ upE E M ≤ 64 - bl M := by
    unfold upE
    split <;> omega
  have he : 2 * rootE E M = E - (upE E M : Int) - 64 := by
    unfold rootE
    omega
  obtain ⟨r0, r1, r2⟩ := hR
  rw [show rootS E M = M * p2 (upE E M) from rfl] at r1 r2
  have hR1 : R < 18446744073709551616 := sq_lt (by omega) (by omega)
  have hR2 : 9223372036854775808 < R + 1 := sq_lt (by omega) (Int.lt_of_le_of_lt (by omega) r2)
  have hRl : bl R = 64 := bl_of (.inr ⟨by omega, by rw [e63]; omega, by rw [e64]; omega⟩)
  have hun : rootE E M < unitI WM WX (bl R) (rootE E M) := by
    rw [hRl]
    unfold unitI
    omega
  exact wide_all m x WM WX _ _ _ hx hw1 hw2 hb (by omega) (by rw [hRl]; omega) (fun _ => hun) (fun _ => hun) (fun k j h1 h2 h3 h4 => absurd h4 (hmid k j h1 h2 h3))
/-- a sum of two narrow numbers, the first at the higher power -/
theorem sum_back1 (m x WM WX : Nat) (E1 M1 E2 M2 s N : Int) (hs : s = 1 ∨ s = -1) (hx : 2 ≤ x) (hw1 : 2 * m + 4 ≤ WM ∧ (WM : Int) ≤ 2 * m + 4 + bias x ∧ (m : Int) ≤ 2 * bias x ∧ WM ≤ 60) (hw2 : x + 2 ≤ WX) (hb : 1 ≤ bias x) (f1 : FinP m x E1 M1) (f2 : FinP m x E2 M2) (hE : E2 ≤ E1) (hNe : N = M1 * p2 (E1 - E2).toNat + s * M2) (hN : 0 < N) :
    BackP m x WM WX (packP WM WX N E2 false) (packP m x N E2 false) := by
  have hmid := sum_nomid m x WM WX E1 M1 E2 M2 s N hs hx hw1 hw2 hb f1 f2 hE hNe hN
  obtain ⟨a0, a1, a2, a3, -⟩ := f1
  obtain ⟨b0, b1, b2, b3, -⟩ := f2
  have hls : least m x = 1 - bias x - m := rfl
  have hl := least_wide m x WM WX hx hw1 hw2
  have hbw := bias_wide x WX hx hw2
  obtain ⟨c1, c2, c3⟩ := bl_bd N hN
  obtain ⟨d, hd⟩ : ∃ d, d = (E1 - E2).toNat := ⟨_, rfl⟩
  rw [← hd] at hNe
  have hD := p2_pos d
  have hPD : p2 (m + 1) ≤ p2 (m + 1) * p2 d := by
    have := Int.mul_le_mul_of_nonneg_left (show (1 : Int) ≤ p2 d by omega) (show 0 ≤ p2 (m + 1) by omega)
    omega
  have hM1 : M1 * p2 d ≤ p2 (m + 1) * p2 d - p2 d := by
    have := Int.mul_le_mul_of_nonneg_right (show M1 ≤ p2 (m + 1) - 1 by omega) (show 0 ≤ p2 d by omega)
    rw [Int.sub_mul, Int.one_mul] at this
    exact this
  have hsm : s * M2 ≤ M2 := by rcases hs with rfl | rfl <;> omega
  have e2 : p2 (d + m + 2) = 2 * (p2 (m + 1) * p2 d) := by rw [show d + m + 2 = (m + 1 + d) + 1 by omega, p2_succ, p2_add]
  have hL : bl N ≤ d + m + 2 := bl_le (by omega) (by rw [e2]; omega)
  exact wide_all m x WM WX N E2 false hx hw1 hw2 hb hN (by omega) (fun h => by cases h) (fun h => by omega) (fun k j h1 h2 h3 h4 => absurd h4 (hmid k j h1 h2 h3))
end Go.Proofs.YthfjjkikeebopaaDoor
namespace Go.Proofs.YthfjjkikeebopaaDoor
open Go.RowKit
set_option maxHeartbeats 1000000
set_option linter.unusedVariables false

/-- what a wide pattern with its sign is converted to -/
theorem conv_back (m x WM WX : Nat) (P p : Int) (n : Bool) (hx : 2 ≤ x) (hw1 : 2 * m + 4 ≤ WM ∧ (WM : Int) ≤ 2 * m + 4 + bias x ∧ (m : Int) ≤ 2 * bias x ∧ WM ≤ 60) (hw2 : x + 2 ≤ WX) (h : BackP m x WM WX P p) :
    convK m x (kindI WM WX (P + sgnW n (WM + WX))) (negI WM WX (P + sgnW n (WM + WX))) (expI WM WX (P + sgnW n (WM + WX))) (manI WM WX (P + sgnW n (WM + WX))) = p + sgnW n (m + x) := by
  rcases h with ⟨E', M', f, rfl, h2⟩ | ⟨rfl, rfl⟩
  · have ho := open_fin WM WX E' M' n (by omega) f
    rw [ho.1, ho.2.1, ho.2.2.1, ho.2.2.2]
    unfold convK
    rw [if_neg (by decide), if_neg (by decide), if_neg (by decide), h2]
  · have ho := open_inf WM WX n (by omega)
    unfold infI at ho
    rw [ho.1, ho.2]
    unfold convK infI
    rw [if_neg (by decide), if_pos rfl]
/-- a sum's number, reckoned wide and packed back -/
theorem sum_back (m x WM WX : Nat) (n1 : Bool) (E1 M1 : Int) (n2 : Bool) (E2 M2 : Int) (hx : 2 ≤ x) (hw1 : 2 * m + 4 ≤ WM ∧ (WM : Int) ≤ 2 * m + 4 + bias x ∧ (m : Int) ≤ 2 * bias x ∧ WM ≤ 60) (hw2 : x + 2 ≤ WX) (hb : 1 ≤ bias x) (f1 : FinP m x E1 M1) (f2 : FinP m x E2 M2) (hne : sumS n1 E1 M1 n2 E2 M2 ≠ 0) :
    BackP m x WM WX (packP WM WX (absI (sumS n1 E1 M1 n2 E2 M2)) (min E1 E2) false) (packP m x (absI (sumS n1 E1 M1 n2 E2 M2)) (min E1 E2) false) := by
  have key : ∀ (n1 : Bool) (E1 M1 : Int) (n2 : Bool) (E2 M2 : Int), FinP m x E1 M1 → FinP m x E2 M2 → E2 ≤ E1 → sumS n1 E1 M1 n2 E2 M2 ≠ 0 → BackP m x WM WX (packP WM WX (absI (sumS n1 E1 M1 n2 E2 M2)) (min E1 E2) false) (packP m x (absI (sumS n1 E1 M1 n2 E2 M2)) (min E1 E2) false) := by
    intro n1 E1 M1 n2 E2 M2 f1 f2 hE hne
    have hS : sumS n1 E1 M1 n2 E2 M2 = sg n1 * (M1 * p2 (E1 - E2).toNat) + sg n2 * M2 := by
      unfold sumS
      rw [Int.min_eq_right hE, show (E2 - E2).toNat = 0 by omega, show p2 0 = 1 from rfl, Int.mul_one]
    rw [Int.min_eq_right hE]
    have hD := p2_pos (E1 - E2).toNat
    have hA := Int.mul_pos f1.1 hD
    have hB := f2.1
    by_cases hbig : M2 ≤ M1 * p2 (E1 - E2).toNat
    · obtain ⟨s, hs, he⟩ : ∃ s : Int, (s = 1 ∨ s = -1) ∧ absI (sumS n1 E1 M1 n2 E2 M2) = M1 * p2 (E1 - E2).toNat + s * M2 := by
        rw [hS] at hne ⊢
        generalize M1 * p2 (E1 - E2).toNat = A at *
        unfold absI
        cases n1 <;> cases n2 <;> simp only [sg, Bool.false_eq_true, if_true, if_false] at * <;> first
          | (refine ⟨1, .inl rfl, ?_⟩; split <;> omega)
          | (refine ⟨-1, .inr rfl, ?_⟩; split <;> omega)
      refine sum_back1 m x WM WX E1 M1 E2 M2 s _ hs hx hw1 hw2 hb f1 f2 hE he ?_
      unfold absI; split <;> omega
    · have hEq : E1 = E2 := by
        apply Classical.byContradiction
        intro h
        have h1 : p2 m ≤ M1 := by
          rcases f1.2.2.2.2 with h' | h'
          · exact h'
          · have := f2.2.2.1; omega
        have h2 : p2 1 ≤ p2 (E1 - E2).toNat := p2_mono (by omega)
        have e1 : p2 1 = 2 := rfl
        have hM1 := f1.1
        have h3 := Int.mul_le_mul h1 (show (2 : Int) ≤ p2 (E1 - E2).toNat by omega) (by omega) (by omega)
        have h4 := f2.2.1
        rw [p2_succ] at h4
        omega
      subst hEq
      rw [show (E1 - E1).toNat = 0 by omega, show p2 0 = 1 from rfl, Int.mul_one] at hS hbig
      obtain ⟨s, hs, he⟩ : ∃ s : Int, (s = 1 ∨ s = -1) ∧ absI (sumS n1 E1 M1 n2 E1 M2) = M2 * p2 (E1 - E1).toNat + s * M1 := by
        rw [show (E1 - E1).toNat = 0 by omega, show p2 0 = 1 from rfl, Int.mul_one]
        rw [hS] at hne ⊢
        have hM1 := f1.1
        unfold absI
        cases n1 <;> cases n2 <;> simp only [sg, Bool.false_eq_true, if_true, if_false] at * <;> first
          | (refine ⟨1, .inl rfl, ?_⟩; split <;> omega)
          | (refine ⟨-1, .inr rfl, ?_⟩; split <;> omega)
      refine sum_back1 m x WM WX E1 M2 E1 M1 s _ hs hx hw1 hw2 hb f2 f1 hE he ?_
      unfold absI; split <;> omega
  rcases Int.le_total E2 E1 with h | h
  · exact key n1 E1 M1 n2 E2 M2 f1 f2 h hne
  · have := key n2 E2 M2 n1 E1 M1 f2 f1 h (by rw [sumS_comm]; exact hne)
    rw [sumS_comm, Int.min_comm] at this
    exact this
end Go.Proofs.YthfjjkikeebopaaDoor
namespace Go.Proofs.YthfjjkikeebopaaDoor
open Go.RowKit
set_option maxHeartbeats 1000000
set_option linter.unusedVariables false

theorem nan_kindI (m x : Nat) (hm : 1 ≤ m) (hx : 2 ≤ x) : kindI m x (nanI m x) = 4 := by
  rw [kind4_iff]
  have h := nan_bd m x hm
  rw [Int.emod_eq_of_lt h.1 h.2]
  unfold nanI
  have := p2_pos (m - 1)
  omega
/-- converting no number -/
theorem conv_nan (m x : Nat) (n : Bool) (E M : Int) : convK m x 4 n E M = nanI m x := by
  unfold convK
  rw [if_pos rfl]
/-- how the wide pattern of a narrow one opens -/
theorem wide_open (m x WM WX : Nat) (K E M : Int) (n : Bool) (hx : 2 ≤ x) (hw1 : 2 * m + 4 ≤ WM ∧ (WM : Int) ≤ 2 * m + 4 + bias x ∧ (m : Int) ≤ 2 * bias x ∧ WM ≤ 60) (hw2 : x + 2 ≤ WX) (hb : 1 ≤ bias x) (hK : K = 1 ∨ K = 2 ∨ K = 3 ∨ K = 4) (f : K = 2 → FinP m x E M) :
    kindI WM WX (convK WM WX K n E M) = K ∧ (K ≠ 4 → negI WM WX (convK WM WX K n E M) = n) ∧
      (K = 2 → ∃ t : Nat, expI WM WX (convK WM WX K n E M) = E - t ∧ manI WM WX (convK WM WX K n E M) = M * p2 t ∧ bl M + t ≤ WM + 1 ∧ FinP WM WX (E - t) (M * p2 t)) := by
  rcases hK with rfl | rfl | rfl | rfl
  · have ho := open_zero WM WX n (by omega)
    unfold convK
    rw [if_neg (by decide), if_neg (by decide), if_pos rfl]
    exact ⟨ho.1, fun _ => ho.2, fun h => absurd h (by decide)⟩
  · obtain ⟨t, ft, hp, ht⟩ := wide_up m x WM WX E M hx hw1 hw2 hb (f rfl)
    have ho := open_fin WM WX (E - t) (M * p2 t) n (by omega) ft
    unfold convK
    rw [if_neg (by decide), if_neg (by decide), if_neg (by decide), hp]
    exact ⟨ho.1, fun _ => ho.2.1, fun _ => ⟨t, ho.2.2.1, ho.2.2.2, ht, ft⟩⟩
  · have ho := open_inf WM WX n (by omega)
    unfold convK
    rw [if_neg (by decide), if_pos rfl]
    exact ⟨ho.1, fun _ => ho.2, fun h => absurd h (by decide)⟩
  · rw [conv_nan]
    exact ⟨nan_kindI _ _ (by omega) (by omega), fun h => absurd rfl h, fun h => absurd h (by decide)⟩
/-- a narrow number's own pattern comes back -/
theorem self_back (m x WM WX : Nat) (E M : Int) (hx : 2 ≤ x) (hw1 : 2 * m + 4 ≤ WM ∧ (WM : Int) ≤ 2 * m + 4 + bias x ∧ (m : Int) ≤ 2 * bias x ∧ WM ≤ 60) (hw2 : x + 2 ≤ WX) (hb : 1 ≤ bias x) (f : FinP m x E M) : BackP m x WM WX (packP WM WX M E false) ((E - least m x) * p2 m + M) := by
  obtain ⟨t, ft, hp, ht⟩ := wide_up m x WM WX E M hx hw1 hw2 hb f
  refine .inl ⟨E - t, M * p2 t, ft, hp, ?_⟩
  rw [pack_scale m x M E t (by have := f.1; omega), pack_self m x E M hx f]
end Go.Proofs.YthfjjkikeebopaaDoor
namespace Go.Proofs.YthfjjkikeebopaaDoor
open Go.RowKit
set_option maxHeartbeats 1000000
set_option linter.unusedVariables false

/-- converted back out of the wide format -/
def bk (m x WM WX : Nat) (A : Int) : Int := convK m x (kindI WM WX A) (negI WM WX A) (expI WM WX A) (manI WM WX A)
theorem bk_nan (m x WM WX : Nat) (hx : 2 ≤ x) (hw1 : 2 * m + 4 ≤ WM ∧ (WM : Int) ≤ 2 * m + 4 + bias x ∧ (m : Int) ≤ 2 * bias x ∧ WM ≤ 60) (hw2 : x + 2 ≤ WX) : bk m x WM WX (nanI WM WX) = nanI m x := by
  unfold bk
  rw [nan_kindI _ _ (by omega) (by omega), conv_nan]
theorem bk_inf (m x WM WX : Nat) (n : Bool) (hx : 2 ≤ x) (hw1 : 2 * m + 4 ≤ WM ∧ (WM : Int) ≤ 2 * m + 4 + bias x ∧ (m : Int) ≤ 2 * bias x ∧ WM ≤ 60) (hw2 : x + 2 ≤ WX) : bk m x WM WX (infI WM WX n) = infI m x n := by
  have ho := open_inf WM WX n (by omega)
  unfold bk
  rw [ho.1, ho.2]
  unfold convK
  rw [if_neg (by decide), if_pos rfl]
theorem bk_zero (m x WM WX : Nat) (n : Bool) (hx : 2 ≤ x) (hw1 : 2 * m + 4 ≤ WM ∧ (WM : Int) ≤ 2 * m + 4 + bias x ∧ (m : Int) ≤ 2 * bias x ∧ WM ≤ 60) (hw2 : x + 2 ≤ WX) : bk m x WM WX (sgnW n (WM + WX)) = sgnW n (m + x) := by
  have ho := open_zero WM WX n (by omega)
  unfold bk
  rw [ho.1, ho.2]
  unfold convK
  rw [if_neg (by decide), if_neg (by decide), if_pos rfl]
theorem bk_fin (m x WM WX : Nat) (P p : Int) (n : Bool) (hx : 2 ≤ x) (hw1 : 2 * m + 4 ≤ WM ∧ (WM : Int) ≤ 2 * m + 4 + bias x ∧ (m : Int) ≤ 2 * bias x ∧ WM ≤ 60) (hw2 : x + 2 ≤ WX) (h : BackP m x WM WX P p) : bk m x WM WX (P + sgnW n (WM + WX)) = p + sgnW n (m + x) := conv_back m x WM WX P p n hx hw1 hw2 h
/-- a wide pattern of a narrow one, with its parts -/
structure WideP (m x WM WX : Nat) (K : Int) (n : Bool) (E M X : Int) (n' : Bool) (E' M' : Int) : Prop where
  is : X = convK WM WX K n E M
  neg : K ≠ 4 → n' = n
  fin : K = 2 → ∃ t : Nat, E' = E - t ∧ M' = M * p2 t ∧ bl M + t ≤ WM + 1
/-- it is converted back to the narrow one -/
theorem WideP.back {m x WM WX : Nat} {a K E M X E' M' : Int} {n n' : Bool} (h : WideP m x WM WX K n E M X n' E' M') (hx : 2 ≤ x) (hw1 : 2 * m + 4 ≤ WM ∧ (WM : Int) ≤ 2 * m + 4 + bias x ∧ (m : Int) ≤ 2 * bias x ∧ WM ≤ 60) (hw2 : x + 2 ≤ WX) (hb : 1 ≤ bias x) (g : PatK m x a K n E M) (h4 : K ≠ 4) : bk m x WM WX X = a := by
  rw [h.is]
  unfold convK
  rw [if_neg h4]
  by_cases h3 : K = 3
  · rw [if_pos h3, bk_inf m x WM WX n hx hw1 hw2, ← g.inf h3]
  rw [if_neg h3]
  by_cases h1 : K = 1
  · rw [if_pos h1, bk_zero m x WM WX n hx hw1 hw2, ← (g.zero h1).2.2]
  rw [if_neg h1]
  have h2 : K = 2 := by have := g.kind; omega
  obtain ⟨f, hp⟩ := g.fin h2
  rw [bk_fin m x WM WX _ _ n hx hw1 hw2 (self_back m x WM WX E M hx hw1 hw2 hb f), ← pack_self m x E M hx f, hp]
theorem pack_zero (m x : Nat) (e : Int) (more : Bool) : packP m x 0 e more = 0 := by unfold packP; rw [if_pos rfl]
theorem add_bk (m x WM WX : Nat) (a b K1 E1 M1 K2 E2 M2 X Y E1' M1' E2' M2' : Int) (n1 n2 n1' n2' : Bool) (hx : 2 ≤ x) (hw1 : 2 * m + 4 ≤ WM ∧ (WM : Int) ≤ 2 * m + 4 + bias x ∧ (m : Int) ≤ 2 * bias x ∧ WM ≤ 60) (hw2 : x + 2 ≤ WX) (hb : 1 ≤ bias x) (g1 : PatK m x a K1 n1 E1 M1) (g2 : PatK m x b K2 n2 E2 M2) (w1 : WideP m x WM WX K1 n1 E1 M1 X n1' E1' M1') (w2 : WideP m x WM WX K2 n2 E2 M2 Y n2' E2' M2') :
    bk m x WM WX (addK WM WX X Y K1 n1' E1' M1' K2 n2' E2' M2') = addK m x a b K1 n1 E1 M1 K2 n2 E2 M2 := by
  unfold addK
  by_cases c4 : K1 = 4 ∨ K2 = 4
  · rw [if_pos c4, if_pos c4]; exact bk_nan m x WM WX hx hw1 hw2
  rw [if_neg c4, if_neg c4]
  have k1 : K1 ≠ 4 := fun h => c4 (.inl h)
  have k2 : K2 ≠ 4 := fun h => c4 (.inr h)
  rw [w1.neg k1, w2.neg k2]
  by_cases c3 : K1 = 3 ∧ K2 = 3 ∧ n1 ≠ n2
  · rw [if_pos c3, if_pos c3]; exact bk_nan m x WM WX hx hw1 hw2
  rw [if_neg c3, if_neg c3]
  by_cases d1 : K1 = 3
  · rw [if_pos d1, if_pos d1]; exact w1.back hx hw1 hw2 hb g1 k1
  rw [if_neg d1, if_neg d1]
  by_cases d2 : K2 = 3
  · rw [if_pos d2, if_pos d2]; exact w2.back hx hw1 hw2 hb g2 k2
  rw [if_neg d2, if_neg d2]
  by_cases z : K1 = 1 ∧ K2 = 1
  · rw [if_pos z, if_pos z]; exact bk_zero m x WM WX _ hx hw1 hw2
  rw [if_neg z, if_neg z]
  by_cases z1 : K1 = 1
  · rw [if_pos z1, if_pos z1]; exact w2.back hx hw1 hw2 hb g2 k2
  rw [if_neg z1, if_neg z1]
  by_cases z2 : K2 = 1
  · rw [if_pos z2, if_pos z2]; exact w1.back hx hw1 hw2 hb g1 k1
  rw [if_neg z2, if_neg z2]
  have e1 : K1 = 2 := by have := g1.kind; omega
  have e2 : K2 = 2 := by have := g2.kind; omega
  obtain ⟨f1, -⟩ := g1.fin e1
  obtain ⟨f2, -⟩ := g2.fin e2
  obtain ⟨t1, rfl, rfl, -⟩ := w1.fin e1
  obtain ⟨t2, rfl, rfl, -⟩ := w2.fin e2
  have hm1 := Int.min_le_left E1 E2
  have hm2 := Int.min_le_right E1 E2
  have hv : ∀ (E M L : Int) (t : Nat), L ≤ E - t → M * p2 t * p2 (E - t - L).toNat = M * p2 (E - L).toNat := fun E M L t h => by
    rw [Int.mul_assoc, ← p2_add]; congr 2; omega
  obtain ⟨q1, q2, q3⟩ := sum_alike WM WX n1 E1 M1 n2 E2 M2 (E1 - t1) (M1 * p2 t1) (E2 - t2) (M2 * p2 t2) (min (E1 - t1) (E2 - t2)) (by omega) (by omega) (by omega) (by omega) (hv _ _ _ _ (by omega)) (hv _ _ _ _ (by omega))
  unfold sumI
  rw [q1]
  have hdec : decide (sumS n1 (E1 - t1) (M1 * p2 t1) n2 (E2 - t2) (M2 * p2 t2) < 0) = decide (sumS n1 E1 M1 n2 E2 M2 < 0) := decide_eq_decide.2 q2
  rw [hdec]
  by_cases h0 : sumS n1 E1 M1 n2 E2 M2 = 0
  · rw [h0, show absI 0 = 0 from rfl, pack_zero, pack_zero, Int.zero_add, Int.zero_add]
    exact bk_zero m x WM WX _ hx hw1 hw2
  · exact bk_fin m x WM WX _ _ _ hx hw1 hw2 (sum_back m x WM WX n1 E1 M1 n2 E2 M2 hx hw1 hw2 hb f1 f2 h0)
theorem mul_bk (m x WM WX : Nat) (a b K1 E1 M1 K2 E2 M2 X Y E1' M1' E2' M2' : Int) (n1 n2 n1' n2' : Bool) (hx : 2 ≤ x) (hw1 : 2 * m + 4 ≤ WM ∧ (WM : Int) ≤ 2 * m + 4 + bias x ∧ (m : Int) ≤ 2 * bias x ∧ WM ≤ 60) (hw2 : x + 2 ≤ WX) (hb : 1 ≤ bias x) (g1 : PatK m x a K1 n1 E1 M1) (g2 : PatK m x b K2 n2 E2 M2) (w1 : WideP m x WM WX K1 n1 E1 M1 X n1' E1' M1') (w2 : WideP m x WM WX K2 n2 E2 M2 Y n2' E2' M2') :
    bk m x WM WX (mulK WM WX K1 n1' E1' M1' K2 n2' E2' M2') = mulK m x K1 n1 E1 M1 K2 n2 E2 M2 := by
  unfold mulK
  by_cases c4 : K1 = 4 ∨ K2 = 4
  · rw [if_pos c4, if_pos c4]; exact bk_nan m x WM WX hx hw1 hw2
  rw [if_neg c4, if_neg c4]
  rw [w1.neg (fun h => c4 (.inl h)), w2.neg (fun h => c4 (.inr h))]
  by_cases c3 : (K1 = 3 ∨ K2 = 3) ∧ (K1 = 1 ∨ K2 = 1)
  · rw [if_pos c3, if_pos c3]; exact bk_nan m x WM WX hx hw1 hw2
  rw [if_neg c3, if_neg c3]
  by_cases d : K1 = 3 ∨ K2 = 3
  · rw [if_pos d, if_pos d]; exact bk_inf m x WM WX _ hx hw1 hw2
  rw [if_neg d, if_neg d]
  by_cases z : K1 = 1 ∨ K2 = 1
  · rw [if_pos z, if_pos z]; exact bk_zero m x WM WX _ hx hw1 hw2
  rw [if_neg z, if_neg z]
  have e1 : K1 = 2 := by have := g1.kind; omega
  have e2 : K2 = 2 := by have := g2.kind; omega
  obtain ⟨f1, -⟩ := g1.fin e1
  obtain ⟨f2, -⟩ := g2.fin e2
  obtain ⟨t1, rfl, rfl, -⟩ := w1.fin e1
  obtain ⟨t2, rfl, rfl, -⟩ := w2.fin e2
  exact bk_fin m x WM WX _ _ _ hx hw1 hw2 (mul_back m x WM WX E1 M1 E2 M2 t1 t2 hx hw1 hw2 hb f1 f2)
theorem div_bk (m x WM WX : Nat) (a b K1 E1 M1 K2 E2 M2 X Y E1' M1' E2' M2' : Int) (n1 n2 n1' n2' : Bool) (hm : m ≤ 23) (hx : 2 ≤ x) (hw1 : 2 * m + 4 ≤ WM ∧ (WM : Int) ≤ 2 * m + 4 + bias x ∧ (m : Int) ≤ 2 * bias x ∧ WM ≤ 60) (hw2 : x + 2 ≤ WX) (hb : 1 ≤ bias x) (g1 : PatK m x a K1 n1 E1 M1) (g2 : PatK m x b K2 n2 E2 M2) (w1 : WideP m x WM WX K1 n1 E1 M1 X n1' E1' M1') (w2 : WideP m x WM WX K2 n2 E2 M2 Y n2' E2' M2') :
    bk m x WM WX (divK WM WX K1 n1' E1' M1' K2 n2' E2' M2') = divK m x K1 n1 E1 M1 K2 n2 E2 M2 := by
  unfold divK
  by_cases c4 : K1 = 4 ∨ K2 = 4
  · rw [if_pos c4, if_pos c4]; exact bk_nan m x WM WX hx hw1 hw2
  rw [if_neg c4, if_neg c4]
  rw [w1.neg (fun h => c4 (.inl h)), w2.neg (fun h => c4 (.inr h))]
  by_cases c3 : K1 = 3 ∧ K2 = 3
  · rw [if_pos c3, if_pos c3]; exact bk_nan m x WM WX hx hw1 hw2
  rw [if_neg c3, if_neg c3]
  by_cases c1 : K1 = 1 ∧ K2 = 1
  · rw [if_pos c1, if_pos c1]; exact bk_nan m x WM WX hx hw1 hw2
  rw [if_neg c1, if_neg c1]
  by_cases d : K1 = 3 ∨ K2 = 1
  · rw [if_pos d, if_pos d]; exact bk_inf m x WM WX _ hx hw1 hw2
  rw [if_neg d, if_neg d]
  by_cases z : K1 = 1 ∨ K2 = 3
  · rw [if_pos z, if_pos z]; exact bk_zero m x WM WX _ hx hw1 hw2
  rw [if_neg z, if_neg z]
  have e1 : K1 = 2 := by have := g1.kind; omega
  have e2 : K2 = 2 := by have := g2.kind; omega
  obtain ⟨f1, -⟩ := g1.fin e1
  obtain ⟨f2, -⟩ := g2.fin e2
  obtain ⟨t1, rfl, rfl, ht1⟩ := w1.fin e1
  obtain ⟨t2, rfl, rfl, ht2⟩ := w2.fin e2
  exact bk_fin m x WM WX _ _ _ hx hw1 hw2 (div_back m x WM WX E1 M1 E2 M2 t1 t2 hm hx hw1 hw2 hb f1 f2 ht1 ht2)
theorem sqrt_bk (m x WM WX : Nat) (a K E M R X E' M' : Int) (n n' : Bool) (hm : m ≤ 23) (hx : 2 ≤ x) (hw1 : 2 * m + 4 ≤ WM ∧ (WM : Int) ≤ 2 * m + 4 + bias x ∧ (m : Int) ≤ 2 * bias x ∧ WM ≤ 60) (hw2 : x + 2 ≤ WX) (hb : 1 ≤ bias x) (g : PatK m x a K n E M) (w : WideP m x WM WX K n E M X n' E' M') (hR : K = 2 → IsRoot (rootS E M * 18446744073709551616) R) :
    bk m x WM WX (sqrtK WM WX X K n' E' M' R) = sqrtK m x a K n E M R := by
  unfold sqrtK
  by_cases c1 : K = 1
  · rw [if_pos c1, if_pos c1]; exact w.back hx hw1 hw2 hb g (by omega)
  rw [if_neg c1, if_neg c1]
  by_cases c4 : K = 4
  · rw [if_pos (.inl c4), if_pos (.inl c4)]; exact bk_nan m x WM WX hx hw1 hw2
  rw [w.neg c4]
  by_cases cn : K = 4 ∨ n = true
  · rw [if_pos cn, if_pos cn]; exact bk_nan m x WM WX hx hw1 hw2
  rw [if_neg cn, if_neg cn]
  by_cases c3 : K = 3
  · rw [if_pos c3, if_pos c3]; exact w.back hx hw1 hw2 hb g c4
  rw [if_neg c3, if_neg c3]
  have e : K = 2 := by have := g.kind; omega
  obtain ⟨f, -⟩ := g.fin e
  obtain ⟨t, rfl, rfl, ht⟩ := w.fin e
  obtain ⟨r1, r2⟩ := root_scale E M t f.1 (by omega)
  rw [r1, r2]
  have h := bk_fin m x WM WX _ _ false hx hw1 hw2 (root_back m x WM WX E M R (decide (R * R ≠ rootS E M * 18446744073709551616)) hm hx hw1 hw2 hb f (hR e))
  simpa [sgnW] using h
end Go.Proofs.YthfjjkikeebopaaDoor
namespace Go.Proofs.YthfjjkikeebopaaDoor
open Go.RowKit
set_option maxHeartbeats 1000000
set_option linter.unusedVariables false

theorem wideP_of (m x WM WX : Nat) (a K E M : Int) (n : Bool) (hx : 2 ≤ x) (hw1 : 2 * m + 4 ≤ WM ∧ (WM : Int) ≤ 2 * m + 4 + bias x ∧ (m : Int) ≤ 2 * bias x ∧ WM ≤ 60) (hw2 : x + 2 ≤ WX) (hb : 1 ≤ bias x) (g : PatK m x a K n E M) :
    kindI WM WX (convK WM WX K n E M) = K ∧
    WideP m x WM WX K n E M (convK WM WX K n E M) (negI WM WX (convK WM WX K n E M)) (expI WM WX (convK WM WX K n E M)) (manI WM WX (convK WM WX K n E M)) := by
  obtain ⟨h1, h2, h3⟩ := wide_open m x WM WX K E M n hx hw1 hw2 hb g.kind (fun h => (g.fin h).1)
  refine ⟨h1, rfl, h2, fun h => ?_⟩
  obtain ⟨t, e1, e2, e3, -⟩ := h3 h
  exact ⟨t, e1, e2, e3⟩
theorem turn_sg2 (k : Nat) (P : Int) (n : Bool) (h0 : 0 ≤ P) (h1 : P < p2 k) : turnI k (P + sgnW n k) = P + sgnW (!n) k := by
  have hp := p2_pos k
  cases n with
  | false =>
    show turnI k (P + 0) = P + p2 k
    unfold turnI
    rw [if_neg (by omega)]; omega
  | true =>
    show turnI k (P + p2 k) = P + 0
    unfold turnI
    rw [if_pos (by omega)]; omega
theorem turn_conv (m x : Nat) (K E M : Int) (n : Bool) (hm : 1 ≤ m) (hx : 2 ≤ x) (h4 : K ≠ 4) (hM : K = 2 → 0 ≤ M) (hK : K = 1 ∨ K = 2 ∨ K = 3 ∨ K = 4) : turnI (m + x) (convK m x K n E M) = convK m x K (!n) E M := by
  unfold convK
  rw [if_neg h4, if_neg h4]
  by_cases h3 : K = 3
  · rw [if_pos h3, if_pos h3]
    have hi : ∀ n, infI m x n = infI m x false + sgnW n (m + x) := fun n => by cases n <;> simp [infI, sgnW]
    have hbd := inf_bd m x false
    have h2 : infI m x false < p2 (m + x) := by
      have := inf_bd m x true
      rw [hi true] at this
      have e : sgnW true (m + x) = p2 (m + x) := rfl
      rw [e, p2_succ] at this
      omega
    rw [hi n, hi (!n)]
    exact turn_sg2 _ _ n hbd.1 h2
  rw [if_neg h3, if_neg h3]
  by_cases h1 : K = 1
  · rw [if_pos h1, if_pos h1]
    have := turn_sg2 (m + x) 0 n (by omega) (p2_pos _)
    simpa using this
  rw [if_neg h1, if_neg h1]
  have h2 : K = 2 := by omega
  obtain ⟨b0, b1⟩ := pack_bd m x M E false (hM h2) hx
  refine turn_sg2 _ _ n b0 ?_
  have h3 : (p2 x - 1) * p2 m = p2 (m + x) - p2 m := by rw [Int.sub_mul, Int.one_mul, ← p2_add, Nat.add_comm x m]
  have h4 := p2_pos m
  omega
theorem sub_bk (m x WM WX : Nat) (a b : Int) (hm : 1 ≤ m) (hx : 2 ≤ x) (hw1 : 2 * m + 4 ≤ WM ∧ (WM : Int) ≤ 2 * m + 4 + bias x ∧ (m : Int) ≤ 2 * bias x ∧ WM ≤ 60) (hw2 : x + 2 ≤ WX) (hb : 1 ≤ bias x) (a0 : 0 ≤ a) (ha : bl a ≤ 1 + x + m) (b0 : 0 ≤ b) (hbl : bl b ≤ 1 + x + m) (b1 : b < p2 (m + x + 1)) (hok : okF m x) (hok2 : okF ((WM : Nat) : Int) ((WX : Nat) : Int))
    (X Y : Int) (hX : X = convK WM WX (kindI m x a) (negI m x a) (expI m x a) (manI m x a)) (hY : Y = convK WM WX (kindI m x b) (negI m x b) (expI m x b) (manI m x b)) :
    bk m x WM WX (addK WM WX X (turnI (WM + WX) Y) (kindI WM WX X) (negI WM WX X) (expI WM WX X) (manI WM WX X) (kindI WM WX (turnI (WM + WX) Y)) (negI WM WX (turnI (WM + WX) Y)) (expI WM WX (turnI (WM + WX) Y)) (manI WM WX (turnI (WM + WX) Y))) =
      addK m x a (turnI (m + x) b) (kindI m x a) (negI m x a) (expI m x a) (manI m x a) (kindI m x (turnI (m + x) b)) (negI m x (turnI (m + x) b)) (expI m x (turnI (m + x) b)) (manI m x (turnI (m + x) b)) := by
  have gA := patK m x a hok a0 ha
  have gB := patK m x b hok b0 hbl
  obtain ⟨kA, wA⟩ := wideP_of m x WM WX a _ _ _ _ hx hw1 hw2 hb gA
  obtain ⟨kB, wB⟩ := wideP_of m x WM WX b _ _ _ _ hx hw1 hw2 hb gB
  rw [← hX] at kA wA
  rw [← hY] at kB wB
  have hYb := conv_bd m x WM WX b _ _ _ _ hok2 gB
  rw [← hY] at hYb
  obtain ⟨p1, p2', p3, p4⟩ := turn_parts m x b b0 b1
  obtain ⟨q1, q2, q3, q4⟩ := turn_parts WM WX Y hYb.1 hYb.2
  have htb := turn_bd (m + x) b b0 b1
  have gT := patK m x (turnI (m + x) b) hok htb.1 (bl_of_lt m x _ htb.1 htb.2)
  rw [p1, p2', p3, p4] at gT ⊢
  rw [q1, q2, q3, q4, kA, kB]
  by_cases h4 : kindI m x b = 4
  · unfold addK
    rw [if_pos (.inr h4), if_pos (.inr h4)]
    exact bk_nan m x WM WX hx hw1 hw2
  · refine add_bk m x WM WX a (turnI (m + x) b) _ _ _ _ _ _ X (turnI (WM + WX) Y) _ _ _ _ _ _ _ _ hx hw1 hw2 hb gA gT wA ⟨?_, fun h => by rw [wB.neg h], wB.fin⟩
    rw [hY]
    exact turn_conv WM WX _ _ _ _ (by omega) (by omega) h4 (fun _ => man_nn m x b) (kind_all m x b)
end Go.Proofs.YthfjjkikeebopaaDoor
namespace Go.Proofs.YthfjjkikeebopaaDoor
open Go.RowKit
set_option maxHeartbeats 1000000
set_option linter.unusedVariables false

/-- a number that the wide format tells without loss -/
theorem whole_back (m x WM WX : Nat) (N e : Int) (hx : 2 ≤ x) (hw1 : 2 * m + 4 ≤ WM ∧ (WM : Int) ≤ 2 * m + 4 + bias x ∧ (m : Int) ≤ 2 * bias x ∧ WM ≤ 60) (hw2 : x + 2 ≤ WX) (hN : 0 < N) (hN2 : N < p2 (WM + 1)) (he : least ((WM : Nat) : Int) ((WX : Nat) : Int) ≤ e) (he2 : e + bl N - 1 ≤ bias ((WX : Nat) : Int)) :
    BackP m x WM WX (packP WM WX N e false) (packP m x N e false) := .inl (exact_wide2 m x WM WX N e hx hw1 hw2 hN hN2 he he2)
theorem self_back2 (m x WM WX : Nat) (E M : Int) (hx : 2 ≤ x) (hw1 : 2 * m + 4 ≤ WM ∧ (WM : Int) ≤ 2 * m + 4 + bias x ∧ (m : Int) ≤ 2 * bias x ∧ WM ≤ 60) (hw2 : x + 2 ≤ WX) (hb : 1 ≤ bias x) (f : FinP m x E M) : BackP m x WM WX (packP WM WX M E false) (packP m x M E false) := by
  rw [pack_self m x E M hx f]
  exact self_back m x WM WX E M hx hw1 hw2 hb f
/-- a number with or without a sign, zero too -/
theorem bk_whole (m x WM WX : Nat) (N e : Int) (n : Bool) (hx : 2 ≤ x) (hw1 : 2 * m + 4 ≤ WM ∧ (WM : Int) ≤ 2 * m + 4 + bias x ∧ (m : Int) ≤ 2 * bias x ∧ WM ≤ 60) (hw2 : x + 2 ≤ WX) (hN : 0 ≤ N) (hN2 : N < p2 (WM + 1)) (he : least ((WM : Nat) : Int) ((WX : Nat) : Int) ≤ e) (he2 : e + bl N - 1 ≤ bias ((WX : Nat) : Int)) :
    bk m x WM WX (packP WM WX N e false + sgnW n (WM + WX)) = packP m x N e false + sgnW n (m + x) := by
  by_cases h0 : N = 0
  · rw [h0, pack_zero, pack_zero, Int.zero_add, Int.zero_add]; exact bk_zero m x WM WX n hx hw1 hw2
  · exact bk_fin m x WM WX _ _ n hx hw1 hw2 (whole_back m x WM WX N e hx hw1 hw2 (by omega) hN2 he he2)
theorem beside_bk (m x WM WX : Nat) (a K E M X E' M' : Int) (n n' dn : Bool) (hx : 2 ≤ x) (hw1 : 2 * m + 4 ≤ WM ∧ (WM : Int) ≤ 2 * m + 4 + bias x ∧ (m : Int) ≤ 2 * bias x ∧ WM ≤ 60) (hw2 : x + 2 ≤ WX) (hb : 1 ≤ bias x) (g : PatK m x a K n E M) (w : WideP m x WM WX K n E M X n' E' M') :
    bk m x WM WX (besideK WM WX X K n' E' M' dn) = besideK m x a K n E M dn := by
  unfold besideK
  by_cases c4 : K = 4
  · rw [if_pos c4, if_pos c4]; exact bk_nan m x WM WX hx hw1 hw2
  rw [if_neg c4, if_neg c4, w.neg c4]
  by_cases c2 : K ≠ 2
  · rw [if_pos c2, if_pos c2]; exact w.back hx hw1 hw2 hb g c4
  rw [if_neg c2, if_neg c2]
  have e2 : K = 2 := by omega
  obtain ⟨f, ha⟩ := g.fin e2
  obtain ⟨t, rfl, rfl, ht⟩ := w.fin e2
  have hback := w.back hx hw1 hw2 hb g c4
  have hl := least_wide m x WM WX hx hw1 hw2
  have hbw := bias_wide x WX hx hw2
  obtain ⟨f0, f1, f2, f3, f4⟩ := id f
  by_cases cE : 0 ≤ E
  · rw [if_pos cE]
    by_cases cW : 0 ≤ E - t
    · rw [if_pos cW]; exact hback
    rw [if_neg cW]
    have e1 : M * p2 t = M * p2 E.toNat * p2 (-(E - t)).toNat := by
      rw [Int.mul_assoc, ← p2_add]; congr 2; omega
    have hp := p2_pos (-(E - t)).toNat
    have d1 : M * p2 t / p2 (-(E - t)).toNat = M * p2 E.toNat := by rw [e1]; exact Int.mul_ediv_cancel _ (by omega)
    have d2 : M * p2 t % p2 (-(E - t)).toNat = 0 := by rw [e1]; exact Int.mul_emod_left _ _
    rw [d1, d2, if_neg (fun h => h.1 rfl), Int.add_zero]
    have s := pack_scale WM WX M E E.toNat (by omega)
    rw [show E - (E.toNat : Int) = 0 by omega] at s
    rw [s, bk_fin m x WM WX _ _ n hx hw1 hw2 (self_back2 m x WM WX E M hx hw1 hw2 hb f), ha]
  rw [if_neg cE, if_neg (show ¬ 0 ≤ E - (t : Int) by omega)]
  have e1 : p2 (-(E - t)).toNat = p2 (-E).toNat * p2 t := by rw [← p2_add]; congr 1; omega
  have hpt := p2_pos t
  have hpE := p2_pos (-E).toNat
  rw [e1, Int.mul_ediv_mul_of_pos_left _ _ hpt]
  have d2 : M * p2 t % (p2 (-E).toNat * p2 t) = M % p2 (-E).toNat * p2 t := by
    rw [Int.mul_comm M, Int.mul_comm (p2 (-E).toNat), Int.mul_emod_mul_of_pos _ _ hpt, Int.mul_comm]
  rw [d2]
  have d3 : (M % p2 (-E).toNat * p2 t ≠ 0 ∧ n = dn) ↔ (M % p2 (-E).toNat ≠ 0 ∧ n = dn) := by
    constructor
    · exact fun h => ⟨fun h0 => h.1 (by rw [h0, Int.zero_mul]), h.2⟩
    · exact fun h => ⟨fun h0 => h.1 ((Int.mul_eq_zero.1 h0).resolve_right (by omega)), h.2⟩
  have d4 : (if M % p2 (-E).toNat * p2 t ≠ 0 ∧ n = dn then (1 : Int) else 0) = if M % p2 (-E).toNat ≠ 0 ∧ n = dn then 1 else 0 := by
    by_cases h : M % p2 (-E).toNat ≠ 0 ∧ n = dn
    · rw [if_pos h, if_pos (d3.2 h)]
    · rw [if_neg h, if_neg (fun k => h (d3.1 k))]
  rw [d4]
  have q0 : 0 ≤ M / p2 (-E).toNat := Int.ediv_nonneg (by omega) (by omega)
  have q1 : M / p2 (-E).toNat ≤ M := Int.ediv_le_self _ (by omega)
  have hr : 0 ≤ (if M % p2 (-E).toNat ≠ 0 ∧ n = dn then (1 : Int) else 0) ∧ (if M % p2 (-E).toNat ≠ 0 ∧ n = dn then (1 : Int) else 0) ≤ 1 := by
    by_cases h : M % p2 (-E).toNat ≠ 0 ∧ n = dn
    · rw [if_pos h]; decide
    · rw [if_neg h]; decide
  generalize (if M % p2 (-E).toNat ≠ 0 ∧ n = dn then (1 : Int) else 0) = r at *
  generalize M / p2 (-E).toNat = q at *
  have hN : q + r < p2 (m + 2) := by
    have : p2 (m + 2) = 2 * p2 (m + 1) := p2_succ (m + 1)
    have := p2_pos (m + 1)
    omega
  have hbl : bl (q + r) ≤ m + 2 := bl_le (by omega) hN
  refine bk_whole m x WM WX (q + r) 0 n hx hw1 hw2 (by omega) (Int.lt_of_lt_of_le hN (p2_mono (by omega))) (by omega) (by omega)
theorem rest_bk (m x WM WX : Nat) (a b K1 E1 M1 K2 E2 M2 X Y E1' M1' E2' M2' : Int) (n1 n2 n1' n2' : Bool) (hx : 2 ≤ x) (hw1 : 2 * m + 4 ≤ WM ∧ (WM : Int) ≤ 2 * m + 4 + bias x ∧ (m : Int) ≤ 2 * bias x ∧ WM ≤ 60) (hw2 : x + 2 ≤ WX) (hb : 1 ≤ bias x) (g1 : PatK m x a K1 n1 E1 M1) (g2 : PatK m x b K2 n2 E2 M2) (w1 : WideP m x WM WX K1 n1 E1 M1 X n1' E1' M1') (w2 : WideP m x WM WX K2 n2 E2 M2 Y n2' E2' M2') (v1 : K1 = 2 → FinP WM WX E1' M1') (v2 : K2 = 2 → FinP WM WX E2' M2') :
    bk m x WM WX (restK WM WX X K1 n1' E1' M1' K2 n2' E2' M2') = restK m x a K1 n1 E1 M1 K2 n2 E2 M2 := by
  unfold restK
  by_cases c4 : K1 = 4 ∨ K2 = 4
  · rw [if_pos c4, if_pos c4]; exact bk_nan m x WM WX hx hw1 hw2
  rw [if_neg c4, if_neg c4]
  have k1 : K1 ≠ 4 := fun h => c4 (.inl h)
  have k2 : K2 ≠ 4 := fun h => c4 (.inr h)
  rw [w1.neg k1]
  by_cases c3 : K1 = 3 ∨ K2 = 1
  · rw [if_pos c3, if_pos c3]; exact bk_nan m x WM WX hx hw1 hw2
  rw [if_neg c3, if_neg c3]
  have hback := w1.back hx hw1 hw2 hb g1 k1
  by_cases c1 : K1 = 1 ∨ K2 = 3
  · rw [if_pos c1, if_pos c1]; exact hback
  rw [if_neg c1, if_neg c1]
  have e1 : K1 = 2 := by have := g1.kind; omega
  have e2 : K2 = 2 := by have := g2.kind; omega
  obtain ⟨f1, ha⟩ := g1.fin e1
  obtain ⟨f2, -⟩ := g2.fin e2
  have u1 := v1 e1
  have u2 := v2 e2
  obtain ⟨t1, rfl, rfl, ht1⟩ := w1.fin e1
  obtain ⟨t2, rfl, rfl, ht2⟩ := w2.fin e2
  have hl := least_wide m x WM WX hx hw1 hw2
  have hbw := bias_wide x WX hx hw2
  have hls : least m x = 1 - bias x - m := rfl
  obtain ⟨a0, a1, a2, a3, a4⟩ := id f1
  obtain ⟨b0, b1, b2, b3, b4⟩ := id f2
  obtain ⟨A0, A1, A2, A3, A4⟩ := u1
  obtain ⟨B0, B1, B2, B3, B4⟩ := u2
  by_cases cE : E1 < E2
  · rw [if_pos cE]
    by_cases cW : E1 - (t1 : Int) < E2 - t2
    · rw [if_pos cW]; exact hback
    rw [if_neg cW]
    have s1 : M1 * p2 t1 * p2 (E1 - t1 - (E2 - t2)).toNat = M1 * p2 (E1 - E2 + t2).toNat := by
      rw [Int.mul_assoc, ← p2_add]; congr 2; omega
    rw [s1]
    have hM2 : p2 m ≤ M2 := by omega
    have hlt : M1 * p2 (E1 - E2 + t2).toNat < M2 * p2 t2 := by
      have hp := p2_pos (E1 - E2 + t2).toNat
      have h1 := Int.mul_lt_mul_of_pos_right a1 hp
      rw [← p2_add] at h1
      have h2 : p2 (m + 1 + (E1 - E2 + t2).toNat) ≤ p2 (m + t2) := p2_mono (by omega)
      have h3 := Int.mul_le_mul_of_nonneg_right hM2 (Int.le_of_lt (p2_pos t2))
      rw [← p2_add] at h3
      omega
    have h0 : 0 ≤ M1 * p2 (E1 - E2 + t2).toNat := Int.mul_nonneg (by omega) (Int.le_of_lt (p2_pos _))
    rw [Int.emod_eq_of_lt h0 hlt]
    have s := pack_scale WM WX M1 E1 (E1 - E2 + t2).toNat (by omega)
    rw [show E1 - ((E1 - E2 + t2).toNat : Int) = E2 - t2 by omega] at s
    rw [s, bk_fin m x WM WX _ _ n1 hx hw1 hw2 (self_back2 m x WM WX E1 M1 hx hw1 hw2 hb f1), ha]
  rw [if_neg cE]
  by_cases cW : E1 - (t1 : Int) < E2 - t2
  · rw [if_pos cW, hback]
    have hM2 : p2 WM ≤ M2 * p2 t2 := by omega
    have hlt : M1 * p2 (E1 - E2).toNat < M2 := by
      have hp := p2_pos t2
      apply Classical.byContradiction
      intro hn
      have h1 := Int.mul_le_mul_of_nonneg_right (show M2 ≤ M1 * p2 (E1 - E2).toNat by omega) (Int.le_of_lt hp)
      have h2 : M1 * p2 (E1 - E2).toNat * p2 t2 * p2 (E2 - t2 - (E1 - t1)).toNat = M1 * p2 t1 := by
        rw [Int.mul_assoc, Int.mul_assoc, ← p2_add, ← p2_add]; congr 2; omega
      have h3 : p2 1 ≤ p2 (E2 - t2 - (E1 - t1)).toNat := p2_mono (by omega)
      have h4 := Int.mul_le_mul_of_nonneg_left h3 (show 0 ≤ M1 * p2 (E1 - E2).toNat * p2 t2 by have := p2_pos WM; omega)
      have h5 : p2 1 = 2 := rfl
      rw [h2, h5] at h4
      have h6 := p2_succ WM
      omega
    have h0 : 0 ≤ M1 * p2 (E1 - E2).toNat := Int.mul_nonneg (by omega) (Int.le_of_lt (p2_pos _))
    rw [Int.emod_eq_of_lt h0 hlt]
    have s := pack_scale m x M1 E1 (E1 - E2).toNat (by omega)
    rw [show E1 - ((E1 - E2).toNat : Int) = E2 by omega] at s
    rw [s, ha]
  rw [if_neg cW]
  have s1 : M1 * p2 t1 * p2 (E1 - t1 - (E2 - t2)).toNat = M1 * p2 (E1 - E2).toNat * p2 t2 := by
    rw [Int.mul_assoc, Int.mul_assoc, ← p2_add, ← p2_add]; congr 2; omega
  have hp := p2_pos t2
  have d2 : M1 * p2 (E1 - E2).toNat * p2 t2 % (M2 * p2 t2) = M1 * p2 (E1 - E2).toNat % M2 * p2 t2 := by
    rw [Int.mul_comm _ (p2 t2), Int.mul_comm M2, Int.mul_emod_mul_of_pos _ _ hp, Int.mul_comm]
  rw [s1, d2]
  have r0 := Int.emod_nonneg (M1 * p2 (E1 - E2).toNat) (show M2 ≠ 0 by omega)
  have r1 := Int.emod_lt_of_pos (M1 * p2 (E1 - E2).toNat) b0
  generalize M1 * p2 (E1 - E2).toNat % M2 = R at *
  rw [pack_scale WM WX R E2 t2 r0]
  have hbl : bl R ≤ m + 1 := bl_le r0 (by omega)
  exact bk_whole m x WM WX R E2 n1 hx hw1 hw2 r0 (Int.lt_of_lt_of_le (show R < p2 (m + 1) by omega) (p2_mono (by omega))) (by omega) (by omega)
end Go.Proofs.YthfjjkikeebopaaDoor
