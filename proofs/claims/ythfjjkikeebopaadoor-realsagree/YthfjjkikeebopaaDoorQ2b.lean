/- Plain arithmetic for the nearest pattern (no program in it): what Pack answers, as a function of numbers, and what follows from it: scaling, order, a little more. -/
import Derived.Test.YthfjjkikeebopaaDoorQ2a
namespace Go.Proofs.YthfjjkikeebopaaDoor
open Go.RowKit
set_option maxHeartbeats 400000
set_option linter.unusedVariables false

/-- how many bits a number has -/
def bl (N : Int) : Nat := if N ≤ 0 then 0 else N.toNat.log2 + 1
theorem isBits_bl (N : Int) (h : 0 ≤ N) : IsBits N (bl N) := by
  unfold bl
  split
  · exact .inl ⟨by omega, rfl⟩
  · have h1 : N.toNat ≠ 0 := by omega
    refine .inr ⟨by omega, ?_, ?_⟩
    · have h2 := Nat.log2_self_le h1
      have h3 : ((2 ^ N.toNat.log2 : Nat) : Int) ≤ (N.toNat : Int) := by exact_mod_cast h2
      rw [Int.natCast_pow] at h3
      unfold p2
      simp only [Nat.add_sub_cancel]
      have h4 : ((2 : Nat) : Int) = 2 := rfl
      rw [h4] at h3
      omega
    · have h2 := @Nat.lt_log2_self N.toNat
      have h3 : (N.toNat : Int) < ((2 ^ (N.toNat.log2 + 1) : Nat) : Int) := by exact_mod_cast h2
      rw [Int.natCast_pow] at h3
      unfold p2
      have h4 : ((2 : Nat) : Int) = 2 := rfl
      rw [h4] at h3
      omega
theorem bl_of {N : Int} {b : Nat} (h : IsBits N b) : bl N = b := by
  refine IsBits.uniq (isBits_bl N ?_) h
  rcases h with ⟨h, _⟩ | ⟨_, h, _⟩
  · omega
  · have := p2_pos (b - 1); omega
theorem bl_zero : bl 0 = 0 := rfl
theorem bl_bd (N : Int) (h : 0 < N) : 0 < bl N ∧ p2 (bl N - 1) ≤ N ∧ N < p2 (bl N) := by
  rcases isBits_bl N (by omega) with ⟨h1, _⟩ | h1
  · omega
  · exact h1
theorem bl_le {N : Int} {k : Nat} (h0 : 0 ≤ N) (h : N < p2 k) : bl N ≤ k := by
  rcases Int.lt_or_le 0 N with hN | hN
  · obtain ⟨a, b, c⟩ := bl_bd N hN
    rcases Nat.lt_or_ge k (bl N) with hk | hk
    · have := p2_mono (show k ≤ bl N - 1 by omega); omega
    · exact hk
  · obtain rfl : N = 0 := by omega
    rw [bl_zero]; omega
theorem lt_bl {N : Int} {k : Nat} (h : p2 k ≤ N) : k < bl N := by
  have hp := p2_pos k
  obtain ⟨a, b, c⟩ := bl_bd N (by omega)
  rcases Nat.lt_or_ge k (bl N) with hk | hk
  · exact hk
  · have := p2_mono hk; omega
theorem bl_two (N : Int) (h : 0 < N) : bl (2 * N) = bl N + 1 := by
  obtain ⟨a, b, c⟩ := bl_bd N h
  refine bl_of (.inr ⟨by omega, ?_, ?_⟩)
  · rw [show bl N + 1 - 1 = (bl N - 1) + 1 by omega, p2_succ]; omega
  · rw [p2_succ]; omega
theorem bl_two_one (N : Int) (h : 0 < N) : bl (2 * N + 1) = bl N + 1 := by
  obtain ⟨a, b, c⟩ := bl_bd N h
  refine bl_of (.inr ⟨by omega, ?_, ?_⟩)
  · rw [show bl N + 1 - 1 = (bl N - 1) + 1 by omega, p2_succ]; omega
  · rw [p2_succ]; omega
theorem bl_mono {a b : Int} (h0 : 0 ≤ a) (h : a ≤ b) : bl a ≤ bl b := by
  rcases Int.lt_or_le 0 a with ha | ha
  · obtain ⟨x, y, z⟩ := bl_bd b (by omega)
    exact bl_le h0 (by omega)
  · obtain rfl : a = 0 := by omega
    rw [bl_zero]; omega

/-- a number in units of 2 to the power k (k above 0), the nearest, the even one of two -/
def rnd (N : Int) (k : Nat) (more : Bool) : Int :=
  N / p2 (k - 1) / 2 + (if N / p2 (k - 1) % 2 = 1 ∧ (more = true ∨ N % p2 (k - 1) ≠ 0 ∨ N / p2 (k - 1) / 2 % 2 = 1) then 1 else 0)
def unitsI (N n : Int) (more : Bool) : Int := if n ≤ 0 then N * p2 (-n).toNat else rnd N n.toNat more
/-- the unit of a number of L bits at the power e -/
def unitI (m x : Nat) (L : Nat) (e : Int) : Int := max (e + L - 1 - m) (least m x)
/-- the pattern without its sign -/
def packP (m x : Nat) (N e : Int) (more : Bool) : Int :=
  if N = 0 then 0 else if bias x < e + bl N - 1 then (p2 x - 1) * p2 m
  else (unitI m x (bl N) e - least m x) * p2 m + unitsI N (unitI m x (bl N) e - e) more
theorem packP_pos (m x : Nat) (N e : Int) (more : Bool) (h : 0 < N) : packP m x N e more = if bias x < e + bl N - 1 then (p2 x - 1) * p2 m else (unitI m x (bl N) e - least m x) * p2 m + unitsI N (unitI m x (bl N) e - e) more := by
  unfold packP
  rw [if_neg (show ¬ N = 0 by omega)]
/-! ### scaling -/
theorem p2_toNat_succ (n : Int) (h : 0 ≤ n) : p2 (n + 1).toNat = 2 * p2 n.toNat := by
  rw [show (n + 1).toNat = n.toNat + 1 by omega, p2_succ]
theorem div_two_p (N P : Int) (hP : 0 < P) : 2 * N / (2 * P) = N / P := Int.mul_ediv_mul_of_pos _ _ (by decide)
theorem mod_two_p (N P : Int) : 2 * N % (2 * P) = 2 * (N % P) := Int.mul_emod_mul_of_pos _ _ (by decide)
theorem div_two_one (N P : Int) (hP : 0 < P) : (2 * N + 1) / (2 * P) = N / P := by
  rw [← Int.ediv_ediv_of_nonneg (by decide : (0 : Int) ≤ 2)]
  congr 1; omega
theorem mod_two_one (N P : Int) (hP : 0 < P) : (2 * N + 1) % (2 * P) = 2 * (N % P) + 1 := by
  have h1 := Int.mul_ediv_add_emod (2 * N + 1) (2 * P)
  rw [div_two_one N P hP] at h1
  have h2 := Int.mul_ediv_add_emod N P
  rw [Int.mul_assoc] at h1
  omega
theorem rnd_two (N : Int) (k : Nat) (hk : 0 < k) : rnd (2 * N) (k + 1) false = rnd N k false := by
  unfold rnd
  rw [show k + 1 - 1 = (k - 1) + 1 by omega, p2_succ, div_two_p _ _ (p2_pos _), mod_two_p]
  generalize N / p2 (k - 1) = q
  generalize N % p2 (k - 1) = r
  simp only [Bool.false_eq_true, false_or]
  split <;> split <;> omega
theorem rnd_two_one (N : Int) (k : Nat) (hk : 0 < k) : rnd (2 * N + 1) (k + 1) false = rnd N k true := by
  unfold rnd
  rw [show k + 1 - 1 = (k - 1) + 1 by omega, p2_succ, div_two_one _ _ (p2_pos _), mod_two_one _ _ (p2_pos _)]
  have : (2 * (N % p2 (k - 1)) + 1 ≠ 0) := by omega
  simp [this]
theorem units_two (N n : Int) : unitsI (2 * N) (n + 1) false = unitsI N n false := by
  unfold unitsI
  rcases Int.lt_trichotomy n 0 with h | h | h
  · rw [if_pos (by omega), if_pos (by omega)]
    have := p2_toNat_succ (-(n + 1)) (by omega)
    rw [show -(n + 1) + 1 = -n by omega] at this
    rw [this, Int.mul_comm 2 N, Int.mul_assoc]
  · subst h
    rw [if_neg (by omega), if_pos (by omega)]
    have h1 : p2 0 = 1 := rfl
    have h2 : (((0 : Int) + 1).toNat - 1) = 0 := rfl
    unfold rnd
    rw [h2, h1]
    simp [h1]
  · rw [if_neg (by omega), if_neg (by omega), show (n + 1).toNat = n.toNat + 1 by omega]
    exact rnd_two N _ (by omega)
theorem pack_two (m x : Nat) (N e : Int) (h : 0 ≤ N) : packP m x (2 * N) (e - 1) false = packP m x N e false := by
  rcases Int.lt_or_le 0 N with hN | hN
  · rw [packP_pos _ _ _ _ _ (show 0 < 2 * N by omega), packP_pos _ _ _ _ _ hN, bl_two N hN]
    have e1 : unitI m x (bl N + 1) (e - 1) = unitI m x (bl N) e := by unfold unitI; congr 1; omega
    rw [e1, show e - 1 + ((bl N + 1 : Nat) : Int) - 1 = e + bl N - 1 by omega, show unitI m x (bl N) e - (e - 1) = unitI m x (bl N) e - e + 1 by omega, units_two]
  · obtain rfl : N = 0 := by omega
    unfold packP
    simp
theorem pack_scale (m x : Nat) (N e : Int) (k : Nat) (h : 0 ≤ N) : packP m x (N * p2 k) (e - k) false = packP m x N e false := by
  induction k with
  | zero => simp [show p2 0 = 1 from rfl]
  | succ k ih =>
    have h1 : N * p2 (k + 1) = 2 * (N * p2 k) := by rw [p2_succ, Int.mul_left_comm]
    have h2 : 0 ≤ N * p2 k := Int.mul_nonneg h (Int.le_of_lt (p2_pos k))
    rw [h1, show e - ((k + 1 : Nat) : Int) = e - k - 1 by omega, pack_two m x _ _ h2, ih]
theorem pack_more (m x : Nat) (N e : Int) (h : m + 3 ≤ bl N) :
    packP m x (2 * N + 1) (e - 1) false = packP m x N e true ∧ (packP m x N e true = packP m x N e false ∨ packP m x N e true = packP m x N e false + 1) := by
  have hN : 0 < N := by
    rcases Int.lt_or_le 0 N with hN | hN
    · exact hN
    · have : bl N = 0 := by unfold bl; rw [if_pos hN]
      omega
  have hu : e + bl N - 1 - m ≤ unitI m x (bl N) e := by unfold unitI; omega
  rw [packP_pos _ _ _ _ _ (show 0 < 2 * N + 1 by omega), packP_pos _ _ _ _ _ hN, packP_pos _ _ _ _ _ hN, bl_two_one N hN]
  have e1 : unitI m x (bl N + 1) (e - 1) = unitI m x (bl N) e := by unfold unitI; congr 1; omega
  rw [e1, show e - 1 + ((bl N + 1 : Nat) : Int) - 1 = e + bl N - 1 by omega]
  split
  · exact ⟨rfl, .inl rfl⟩
  · have hn : 0 < (unitI m x (bl N) e - e).toNat := by omega
    have e2 : unitsI (2 * N + 1) (unitI m x (bl N) e - (e - 1)) false = unitsI N (unitI m x (bl N) e - e) true := by
      unfold unitsI
      rw [if_neg (by omega), if_neg (by omega), show (unitI m x (bl N) e - (e - 1)).toNat = (unitI m x (bl N) e - e).toNat + 1 by omega]
      exact rnd_two_one N _ hn
    have e3 : unitsI N (unitI m x (bl N) e - e) true = unitsI N (unitI m x (bl N) e - e) false ∨ unitsI N (unitI m x (bl N) e - e) true = unitsI N (unitI m x (bl N) e - e) false + 1 := by
      unfold unitsI
      rw [if_neg (by omega), if_neg (by omega)]
      unfold rnd
      simp only [Bool.false_eq_true, false_or, true_or, and_true]
      split <;> split <;> omega
    rw [e2]
    refine ⟨rfl, ?_⟩
    omega
/-! ### bounds and order -/
theorem rnd_le (N : Int) (k j : Nat) (more : Bool) (hk : 0 < k) (h : N < p2 (k + j)) : rnd N k more ≤ p2 j := by
  have h1 : N / p2 (k - 1) / 2 < p2 j := by
    rw [Int.ediv_ediv_of_nonneg (Int.le_of_lt (p2_pos _)), Int.mul_comm, ← p2_succ, show k - 1 + 1 = k by omega]
    refine Int.ediv_lt_of_lt_mul (p2_pos k) ?_
    rw [← p2_add, Nat.add_comm j k]; exact h
  unfold rnd
  split <;> omega
theorem rnd_ge (N : Int) (k j : Nat) (more : Bool) (hk : 0 < k) (h : p2 (k + j) ≤ N) : p2 j ≤ rnd N k more := by
  have h1 : p2 j ≤ N / p2 (k - 1) / 2 := by
    rw [Int.ediv_ediv_of_nonneg (Int.le_of_lt (p2_pos _)), Int.mul_comm, ← p2_succ, show k - 1 + 1 = k by omega]
    refine Int.le_ediv_of_mul_le (p2_pos k) ?_
    rw [← p2_add, Nat.add_comm j k]; exact h
  unfold rnd
  split <;> omega
theorem rnd_nonneg (N : Int) (k : Nat) (more : Bool) (h : 0 ≤ N) : 0 ≤ rnd N k more := by
  have h1 : 0 ≤ N / p2 (k - 1) := Int.ediv_nonneg h (Int.le_of_lt (p2_pos _))
  unfold rnd
  split <;> omega
theorem units_bd (m x : Nat) (N e : Int) (more : Bool) (h : 0 < N) :
    0 ≤ unitsI N (unitI m x (bl N) e - e) more ∧ unitsI N (unitI m x (bl N) e - e) more ≤ p2 (m + 1) ∧ (least m x < unitI m x (bl N) e → p2 m ≤ unitsI N (unitI m x (bl N) e - e) more) := by
  obtain ⟨a, b, c⟩ := bl_bd N h
  have hu : e + bl N - 1 - m ≤ unitI m x (bl N) e := by unfold unitI; omega
  have hv : least m x < unitI m x (bl N) e → unitI m x (bl N) e = e + bl N - 1 - m := by unfold unitI; omega
  generalize unitI m x (bl N) e = U at *
  generalize bl N = L at *
  unfold unitsI
  split
  · rename_i hn
    have hq : 0 < p2 (-(U - e)).toNat := p2_pos _
    refine ⟨Int.mul_nonneg (by omega) (by omega), ?_, fun hl => ?_⟩
    · have h1 : N * p2 (-(U - e)).toNat ≤ p2 L * p2 (-(U - e)).toNat := Int.mul_le_mul_of_nonneg_right (by omega) (by omega)
      rw [← p2_add] at h1
      exact Int.le_trans h1 (p2_mono (by omega))
    · have h1 : p2 (L - 1) * p2 (-(U - e)).toNat ≤ N * p2 (-(U - e)).toNat := Int.mul_le_mul_of_nonneg_right b (by omega)
      rw [← p2_add] at h1
      have := hv hl
      exact Int.le_trans (p2_mono (by omega)) h1
  · rename_i hn
    refine ⟨rnd_nonneg _ _ _ (by omega), ?_, fun hl => ?_⟩
    · exact rnd_le N _ _ more (by omega) (Int.lt_of_lt_of_le c (p2_mono (by omega)))
    · have := hv hl
      exact rnd_ge N _ _ more (by omega) (Int.le_trans (p2_mono (by omega)) b)
theorem bias_two (x : Nat) (h : 2 ≤ x) : 2 * bias x + 1 = p2 x - 1 := by
  unfold bias
  have : p2 x = 2 * p2 ((x : Int) - 1).toNat := by
    rw [← p2_succ]; congr 1; omega
  omega
theorem least_le_bias (m x : Nat) (h : 2 ≤ x) : least m x ≤ 1 - bias x - m := by unfold least; omega
theorem pack_bd (m x : Nat) (N e : Int) (more : Bool) (h : 0 ≤ N) (hx : 2 ≤ x) : 0 ≤ packP m x N e more ∧ packP m x N e more ≤ (p2 x - 1) * p2 m := by
  have hb := bias_two x hx
  have hp := p2_pos m
  have hpx := p2_pos x
  have hpx1 : 0 < p2 (((x : Int) - 1).toNat) := p2_pos _
  have hpx4 : p2 2 ≤ p2 x := p2_mono hx
  have hp4 : p2 2 = 4 := rfl
  have hb0 : 1 ≤ bias x := by omega
  have hT : 0 ≤ (p2 x - 1) * p2 m := Int.mul_nonneg (by omega) (by omega)
  unfold packP
  split
  · exact ⟨Int.le_refl _, hT⟩
  · split
    · exact ⟨hT, Int.le_refl _⟩
    · rename_i hN htop
      obtain ⟨u0, u1, u2⟩ := units_bd m x N e more (by omega)
      have hU0 : least m x ≤ unitI m x (bl N) e := by unfold unitI; omega
      have hU1 : unitI m x (bl N) e ≤ bias x - m := by unfold unitI least; omega
      generalize unitsI N (unitI m x (bl N) e - e) more = u at *
      generalize unitI m x (bl N) e = U at *
      have hl : least m x = 1 - bias x - m := rfl
      have h1 : 0 ≤ (U - least m x) * p2 m := Int.mul_nonneg (by omega) (by omega)
      have h2 : (U - least m x) * p2 m ≤ (p2 x - 1 - 2) * p2 m := Int.mul_le_mul_of_nonneg_right (by omega) (by omega)
      rw [Int.sub_mul (p2 x - 1) 2] at h2
      rw [p2_succ] at u1
      exact ⟨by omega, by omega⟩
theorem rnd_mono (a b : Int) (k : Nat) (more : Bool) (h : a ≤ b) (hk : 0 < k) : rnd a k more ≤ rnd b k more := by
  have hp := p2_pos (k - 1)
  have h1 : a / p2 (k - 1) ≤ b / p2 (k - 1) := Int.ediv_le_ediv hp h
  have ea := Int.mul_ediv_add_emod a (p2 (k - 1))
  have eb := Int.mul_ediv_add_emod b (p2 (k - 1))
  have ra := Int.emod_nonneg a (show p2 (k - 1) ≠ 0 by omega)
  have rb := Int.emod_nonneg b (show p2 (k - 1) ≠ 0 by omega)
  unfold rnd
  rcases Int.lt_or_le (a / p2 (k - 1)) (b / p2 (k - 1)) with hlt | hge
  · split <;> split <;> omega
  · have he : a / p2 (k - 1) = b / p2 (k - 1) := by omega
    rw [he] at ea ⊢
    have hr : a % p2 (k - 1) ≤ b % p2 (k - 1) := by omega
    cases more <;> simp only [Bool.false_eq_true, false_or, true_or, and_true] <;> split <;> (try split) <;> omega
theorem units_mono (a b n : Int) (more : Bool) (h : a ≤ b) : unitsI a n more ≤ unitsI b n more := by
  unfold unitsI
  split
  · exact Int.mul_le_mul_of_nonneg_right h (Int.le_of_lt (p2_pos _))
  · exact rnd_mono a b _ more h (by omega)
theorem pack_mono (m x : Nat) (a b e : Int) (more : Bool) (h0 : 0 ≤ a) (h : a ≤ b) (hx : 2 ≤ x) : packP m x a e more ≤ packP m x b e more := by
  rcases Int.lt_or_le 0 a with ha | ha
  · have hba := pack_bd m x a e more h0 hx
    have hm := bl_mono h0 h
    have A := units_bd m x a e more ha
    have B := units_bd m x b e more (by omega)
    have hp := p2_pos m
    by_cases hU : unitI m x (bl a) e = unitI m x (bl b) e
    · rw [packP_pos _ _ _ _ _ ha] at hba ⊢
      rw [packP_pos _ _ _ _ _ (show 0 < b by omega)]
      by_cases h1 : bias x < e + bl b - 1
      · rw [if_pos h1]; exact hba.2
      · rw [if_neg h1, if_neg (by omega), hU]
        have := units_mono a b (unitI m x (bl b) e - e) more h
        omega
    · have hlt : unitI m x (bl a) e < unitI m x (bl b) e := by
        have : unitI m x (bl a) e ≤ unitI m x (bl b) e := by unfold unitI; omega
        omega
      have hl : least m x ≤ unitI m x (bl a) e := by unfold unitI; omega
      rw [packP_pos _ _ _ _ _ ha] at hba ⊢
      rw [packP_pos _ _ _ _ _ (show 0 < b by omega)]
      by_cases h1 : bias x < e + bl b - 1
      · rw [if_pos h1]; exact hba.2
      · rw [if_neg h1, if_neg (by omega)]
        have hB := B.2.2 (by omega)
        have hA := A.2.1
        rw [p2_succ] at hA
        generalize unitsI a (unitI m x (bl a) e - e) more = ua at *
        generalize unitsI b (unitI m x (bl b) e - e) more = ub at *
        have h2 : (unitI m x (bl a) e - least m x + 1) * p2 m ≤ (unitI m x (bl b) e - least m x) * p2 m := Int.mul_le_mul_of_nonneg_right (by omega) (by omega)
        rw [Int.add_mul, Int.one_mul] at h2
        omega
  · obtain rfl : a = 0 := by omega
    have := (pack_bd m x b e more h hx).1
    have e0 : packP m x 0 e more = 0 := by unfold packP; simp
    rw [e0]; exact this
/-- P2.5: what a pattern with the field 0 says has that pattern -/
theorem pack_sub (m x : Nat) (M : Int) (h0 : 0 < M) (h1 : M < p2 m) (hx : 2 ≤ x) : packP m x M (least m x) false = M := by
  have hl := bl_le (Int.le_of_lt h0) h1
  have hb : 0 ≤ bias x := by unfold bias; have := p2_pos (((x : Int) - 1).toNat); omega
  have hU : unitI m x (bl M) (least m x) = least m x := by unfold unitI; omega
  rw [packP_pos _ _ _ _ _ h0, hU, if_neg (by unfold least; omega)]
  unfold unitsI
  rw [if_pos (by omega)]
  simp [show p2 0 = 1 from rfl]
/-- P2.5: and with any other field -/
theorem pack_fin (m x : Nat) (field frac : Int) (h0 : 1 ≤ field) (h1 : field ≤ p2 x - 2) (f0 : 0 ≤ frac) (f1 : frac < p2 m) (hx : 2 ≤ x) :
    packP m x (p2 m + frac) (field - bias x - m) false = field * p2 m + frac := by
  have hp := p2_pos m
  have hl : bl (p2 m + frac) = m + 1 := bl_of (.inr ⟨by omega, by rw [show m + 1 - 1 = m by omega]; omega, by rw [p2_succ]; omega⟩)
  have hb := bias_two x hx
  have hU : unitI m x (m + 1) (field - bias x - m) = field - bias x - m := by unfold unitI least; omega
  rw [packP_pos _ _ _ _ _ (show 0 < p2 m + frac by omega), hl, hU, if_neg (by omega)]
  unfold unitsI least
  rw [if_pos (by omega)]
  have : (field - bias x - m - (1 - bias x - m)) = field - 1 := by omega
  rw [this, Int.sub_mul]
  simp [show p2 0 = 1 from rfl]
  omega
end Go.Proofs.YthfjjkikeebopaaDoor
