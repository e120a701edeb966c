/- What is known of a pattern by its kind. A number that is near by the page is packed. Plain facts on what a pattern keeps of a number that is cut, and of a root told in another unit (no program in it). Plain arithmetic for comparisons (no program in it): patterns stand in the order of their numbers. Two patterns, held by the program and by the document: both say the same parts, or both refuse. The document's Mod answers what package soft's Mod answers, for every two patterns of a format. The walk of SoftMods: what a division of any two leaves, and its whole quotient, are the page's. -/
import Derived.Test.YtfjpiahgnojlhaaP3q
import Derived.Test.YtfjpiahgnojlhaaN5m
import Derived.Test.YtfjpiahgnojlhaaM3c
import Derived.Test.YtfjpiahgnojlhaaS3b
import Derived.Test.YtfjpiahgnojlhaaL2d
import Derived.Test.YtfjpiahgnojlhaaS3w
import Derived.Test.YtfjpiahgnojlhaaS3z
import Derived.Test.YtfjpiahgnojlhaaL3a
namespace Go.Proofs.Ytfjpiahgnojlhaa
open Go.RowKit
set_option maxHeartbeats 400000
set_option linter.unusedVariables false

/-- what is known of a pattern by its kind -/
structure PatK (m x : Nat) (a K : Int) (n : Bool) (E M : Int) : Prop where
  kind : K = 1 ∨ K = 2 ∨ K = 3 ∨ K = 4
  zero : K = 1 → E = 0 ∧ M = 0 ∧ a = sgnW n (m + x)
  fin : K = 2 → FinP m x E M ∧ packP m x M E false + sgnW n (m + x) = a
  inf : K = 3 → a = infI m x n
theorem patK (m x : Nat) (a : Int) (hok : okF m x) (a0 : 0 ≤ a) (ha : bl a ≤ 1 + x + m) : PatK m x a (kindI m x a) (negI m x a) (expI m x a) (manI m x a) := by
  have hx : 2 ≤ x := by have := hok.2.2.1; omega
  exact ⟨kind_all m x a, fun h => kind_zero m x a a0 ha h, fun h => ⟨fin_of m x a hx h, (kind_fin m x a a0 ha hx h).1⟩, fun h => (kind_inf m x a a0 ha h).2.2⟩
end Go.Proofs.Ytfjpiahgnojlhaa
namespace Go.Proofs.Ytfjpiahgnojlhaa
open Go.RowKit
set_option maxHeartbeats 400000
set_option linter.unusedVariables false

theorem near_one (m x : Nat) (A e P : Int) (hA : 0 < A) (hx : 2 ≤ x) (h : IsNear m x A 1 e P) : P = packP m x A e false := by
  refine near_pack_gen m x A 1 e P A e false hA (by decide) hx (fun h => by cases h) h ?_ ?_ ?_
  · rw [show (e - e).toNat = 0 by omega, show p2 0 = 1 from rfl]; omega
  · rw [show (e - e).toNat = 0 by omega, show p2 0 = 1 from rfl]; omega
  · rw [show (e - e).toNat = 0 by omega, show p2 0 = 1 from rfl]; simp
end Go.Proofs.Ytfjpiahgnojlhaa
namespace Go.Proofs.Ytfjpiahgnojlhaa
open Go.RowKit
set_option maxHeartbeats 400000
set_option linter.unusedVariables false

theorem rnd_half (N : Int) (k : Nat) (more : Bool) (hk : 2 ≤ k) : rnd N k more = rnd (N / 2) (k - 1) (more || decide (N % 2 ≠ 0)) := by
  have e : p2 (k - 1) = 2 * p2 (k - 1 - 1) := by rw [← p2_succ]; congr 1; omega
  have hP := p2_pos (k - 1 - 1)
  unfold rnd
  rw [e]
  generalize p2 (k - 1 - 1) = P at *
  have d1 : N / (2 * P) = N / 2 / P := (Int.ediv_ediv_of_nonneg (show (0 : Int) ≤ 2 by decide)).symm
  have d2 : N % (2 * P) ≠ 0 ↔ (N / 2 % P ≠ 0 ∨ N % 2 ≠ 0) := by
    have h1 := Int.mul_ediv_add_emod N (2 * P)
    have h2 := Int.mul_ediv_add_emod (N / 2) P
    have h3 := Int.mul_ediv_add_emod N 2
    rw [d1] at h1
    have h4 := Int.emod_nonneg (N / 2) (show P ≠ 0 by omega)
    rw [Int.mul_assoc] at h1
    generalize P * (N / 2 / P) = U at *
    omega
  rw [d1]
  have d3 : (more = true ∨ N % (2 * P) ≠ 0 ∨ N / 2 / P / 2 % 2 = 1) ↔ ((more || decide (N % 2 ≠ 0)) = true ∨ N / 2 % P ≠ 0 ∨ N / 2 / P / 2 % 2 = 1) := by
    rw [d2, Bool.or_eq_true, decide_eq_true_iff]
    constructor
    · rintro (h | (h | h) | h)
      · exact .inl (.inl h)
      · exact .inr (.inl h)
      · exact .inl (.inr h)
      · exact .inr (.inr h)
    · rintro ((h | h) | h | h)
      · exact .inl h
      · exact .inr (.inl (.inr h))
      · exact .inr (.inl (.inl h))
      · exact .inr (.inr h)
  simp only [d3]
theorem bl_half (N : Int) (h : 0 < N / 2) : bl N = bl (N / 2) + 1 := by
  rcases (show N = 2 * (N / 2) ∨ N = 2 * (N / 2) + 1 by omega) with e | e
  · have := bl_two (N / 2) h
    rw [← e] at this
    exact this
  · have := bl_two_one (N / 2) h
    rw [← e] at this
    exact this
theorem bl_pos_of {N : Int} {k : Nat} (h : k + 1 ≤ bl N) : 0 < N := by
  rcases Int.lt_or_le 0 N with hN | hN
  · exact hN
  · have : bl N = 0 := by unfold bl; rw [if_pos hN]
    omega
theorem pack_half (m x : Nat) (N e : Int) (more : Bool) (h : m + 3 ≤ bl (N / 2)) : packP m x N e more = packP m x (N / 2) (e + 1) (more || decide (N % 2 ≠ 0)) := by
  have h0 : 0 < N / 2 := bl_pos_of (k := m + 2) h
  have hb := bl_half N h0
  rw [packP_pos _ _ _ _ _ (show 0 < N by omega), packP_pos _ _ _ _ _ h0, hb]
  have e1 : unitI m x (bl (N / 2) + 1) e = unitI m x (bl (N / 2)) (e + 1) := by unfold unitI; congr 1; omega
  have hu : e + 1 + bl (N / 2) - 1 - m ≤ unitI m x (bl (N / 2)) (e + 1) := by unfold unitI; omega
  rw [e1, show e + ((bl (N / 2) + 1 : Nat) : Int) - 1 = e + 1 + bl (N / 2) - 1 by omega]
  generalize unitI m x (bl (N / 2)) (e + 1) = U at *
  unfold unitsI
  rw [if_neg (show ¬ U - e ≤ 0 by omega), if_neg (show ¬ U - (e + 1) ≤ 0 by omega), rnd_half N _ more (by omega), show (U - e).toNat - 1 = (U - (e + 1)).toNat by omega]
/-- the lowest d bits cut off, and remembered -/
theorem pack_cut (m x : Nat) (N e : Int) (more : Bool) (d : Nat) (h : m + 3 ≤ bl (N / p2 d)) : packP m x N e more = packP m x (N / p2 d) (e + d) (more || decide (N % p2 d ≠ 0)) := by
  induction d with
  | zero =>
    rw [show p2 0 = 1 from rfl, Int.ediv_one, Int.emod_one]
    simp
  | succ d ih =>
    have hN : 0 < N / p2 (d + 1) := bl_pos_of (k := m + 2) h
    have e1 : N / p2 (d + 1) = N / p2 d / 2 := (half_step N d).symm
    have h1 : m + 3 ≤ bl (N / p2 d) := by
      have := bl_half (N / p2 d) (by rw [← e1]; exact hN)
      rw [← e1] at this
      omega
    rw [ih h1, pack_half m x (N / p2 d) (e + d) _ (by rw [← e1]; exact h), ← e1, show e + ((d + 1 : Nat) : Int) = e + d + 1 by omega]
    congr 1
    have hP := p2_pos d
    have d2 : N % p2 (d + 1) ≠ 0 ↔ (N % p2 d ≠ 0 ∨ N / p2 d % 2 ≠ 0) := by
      have g1 := Int.mul_ediv_add_emod N (p2 (d + 1))
      have g2 := Int.mul_ediv_add_emod N (p2 d)
      have g3 : N / p2 d = 2 * (N / p2 d / 2) + N / p2 d % 2 := by omega
      rw [e1, p2_succ] at g1
      rw [p2_succ]
      have g4 := Int.emod_nonneg N (show p2 d ≠ 0 by omega)
      have g5 : p2 d * (N / p2 d) = 2 * p2 d * (N / p2 d / 2) + p2 d * (N / p2 d % 2) := by
        rw [show p2 d * (N / p2 d) = p2 d * (2 * (N / p2 d / 2) + N / p2 d % 2) by rw [← g3], Int.mul_add, ← Int.mul_assoc, Int.mul_comm (p2 d) 2]
      rcases (show N / p2 d % 2 = 0 ∨ N / p2 d % 2 = 1 by omega) with g | g
      · rw [g] at g5 ⊢
        rw [Int.mul_zero] at g5
        generalize 2 * p2 d * (N / p2 d / 2) = U at *
        omega
      · rw [g] at g5 ⊢
        rw [Int.mul_one] at g5
        generalize 2 * p2 d * (N / p2 d / 2) = U at *
        omega
    simp only [d2]
    cases more <;> by_cases ha : N % p2 d = 0 <;> by_cases hb : N / p2 d % 2 = 0 <;> simp [ha, hb]
/-- a root told in a coarser unit -/
theorem root_cut (X R r : Int) (d : Nat) (hR : IsRoot (X * (p2 d * p2 d)) R) (hr : IsRoot X r) : r = R / p2 d ∧ (r * r ≠ X ↔ (R * R ≠ X * (p2 d * p2 d) ∨ R % p2 d ≠ 0)) := by
  obtain ⟨R0, R1, R2⟩ := hR
  have hP := p2_pos d
  have hPP : 0 < p2 d * p2 d := Int.mul_pos hP hP
  have g1 := Int.mul_ediv_add_emod R (p2 d)
  have g2 := Int.emod_nonneg R (show p2 d ≠ 0 by omega)
  have g3 := Int.emod_lt_of_pos R hP
  have q0 : 0 ≤ R / p2 d := Int.ediv_nonneg R0 (by omega)
  have sq : ∀ a : Int, p2 d * a * (p2 d * a) = a * a * (p2 d * p2 d) := fun a => by
    rw [Int.mul_comm (p2 d) a, Int.mul_assoc, Int.mul_left_comm (p2 d) a, ← Int.mul_assoc]
  have k : IsRoot X (R / p2 d) := by
    refine ⟨q0, ?_, ?_⟩
    · have h1 : p2 d * (R / p2 d) ≤ R := by omega
      have h2 := sq_le (Int.mul_nonneg (Int.le_of_lt hP) q0) h1
      rw [sq] at h2
      have h3 := Int.le_trans h2 R1
      rcases Int.lt_or_le X (R / p2 d * (R / p2 d)) with h | h
      · have := Int.mul_lt_mul_of_pos_right h hPP
        omega
      · exact h
    · have h1 : R + 1 ≤ p2 d * (R / p2 d + 1) := by rw [Int.mul_add]; omega
      have h2 := sq_le (show (0 : Int) ≤ R + 1 by omega) h1
      rw [sq] at h2
      have h3 := Int.lt_of_lt_of_le R2 h2
      rcases Int.lt_or_le X ((R / p2 d + 1) * (R / p2 d + 1)) with h | h
      · exact h
      · have := Int.mul_le_mul_of_nonneg_right h (Int.le_of_lt hPP)
        omega
  have e := hr.uniq k
  refine ⟨e, ?_⟩
  by_cases hz : R % p2 d = 0
  · have e2 : R = p2 d * r := by rw [e]; omega
    have e3 : R * R = r * r * (p2 d * p2 d) := by rw [e2, sq]
    rw [e3]
    constructor
    · intro h
      left
      intro h4
      exact h (Int.eq_of_mul_eq_mul_right (by omega) h4)
    · rintro (h | h) h4
      · exact h (by rw [h4])
      · exact h hz
  · constructor
    · intro _
      exact .inr hz
    · intro _ h4
      apply hz
      have e5 : IsRoot (X * (p2 d * p2 d)) (p2 d * r) := by
        refine ⟨Int.mul_nonneg (Int.le_of_lt hP) hr.1, ?_, ?_⟩
        · rw [sq, h4]; exact Int.le_refl _
        · have h5 := sq r
          rw [h4] at h5
          rw [← h5]
          have h6 : 0 ≤ p2 d * r := Int.mul_nonneg (Int.le_of_lt hP) hr.1
          rw [Int.add_mul, Int.mul_add, Int.mul_one, Int.one_mul]
          omega
      have e6 := IsRoot.uniq ⟨R0, R1, R2⟩ e5
      rw [e6]
      exact Int.mul_emod_right _ _
/-- what the page reckons of a root (X told in an even power e of 2) is what the finer root R gives -/
theorem root_pack (m x : Nat) (X R r e : Int) (d : Nat) (hR : IsRoot (X * (p2 d * p2 d)) R) (hr : IsRoot X r) (hb : m + 3 ≤ bl r) :
    packP m x r (e + d) (decide (r * r ≠ X)) = packP m x R e (decide (R * R ≠ X * (p2 d * p2 d))) := by
  obtain ⟨h1, h2⟩ := root_cut X R r d hR hr
  rw [pack_cut m x R e _ d (by rw [← h1]; exact hb), ← h1]
  congr 1
  rw [show (decide (r * r ≠ X)) = decide (R * R ≠ X * (p2 d * p2 d) ∨ R % p2 d ≠ 0) from decide_eq_decide.2 h2]
  by_cases ha : R * R = X * (p2 d * p2 d) <;> by_cases hc : R % p2 d = 0 <;> simp [ha, hc]
end Go.Proofs.Ytfjpiahgnojlhaa
namespace Go.Proofs.Ytfjpiahgnojlhaa
open Go.RowKit
set_option maxHeartbeats 400000
set_option linter.unusedVariables false

theorem pack_self (m x : Nat) (E M : Int) (hx : 2 ≤ x) (h : FinP m x E M) : packP m x M E false = (E - least m x) * p2 m + M := by
  rcases Int.lt_or_le M (p2 m) with hM | hM
  · obtain ⟨h0, h1, h2, h3, h4⟩ := h
    obtain rfl : E = least m x := by omega
    rw [pack_sub m x M h0 hM hx, Int.sub_self, Int.zero_mul, Int.zero_add]
  · exact pack_norm m x E M hx h hM
theorem fin_lt (m x : Nat) (E1 M1 E2 M2 : Int) (k1 k2 : Nat) (h1 : FinP m x E1 M1) (h2 : FinP m x E2 M2) (hk1 : E1 - min E1 E2 = k1) (hk2 : E2 - min E1 E2 = k2) (hlt : E1 < E2) :
    M1 * p2 k1 < M2 * p2 k2 ∧ (E1 - least m x) * p2 m + M1 < (E2 - least m x) * p2 m + M2 := by
  obtain ⟨a0, a1, a2, a3, a4⟩ := h1
  obtain ⟨b0, b1, b2, b3, b4⟩ := h2
  have hM2 : p2 m ≤ M2 := by rcases b4 with h | h <;> omega
  obtain rfl : k1 = 0 := by omega
  have hk : 1 ≤ k2 := by omega
  have hp := p2_pos m
  have h3 : p2 m * p2 1 ≤ M2 * p2 k2 := Int.mul_le_mul hM2 (p2_mono hk) (Int.le_of_lt (p2_pos _)) (by omega)
  rw [← p2_add] at h3
  refine ⟨by rw [p2_0]; omega, ?_⟩
  have h4 : (E1 - least m x + 1) * p2 m ≤ (E2 - least m x) * p2 m := Int.mul_le_mul_of_nonneg_right (by omega) (by omega)
  rw [Int.add_mul, Int.one_mul] at h4
  rw [p2_succ] at a1
  omega
theorem fin_order (m x : Nat) (E1 M1 E2 M2 : Int) (k1 k2 : Nat) (h1 : FinP m x E1 M1) (h2 : FinP m x E2 M2) (hk1 : E1 - min E1 E2 = k1) (hk2 : E2 - min E1 E2 = k2) :
    (M1 * p2 k1 < M2 * p2 k2 ↔ (E1 - least m x) * p2 m + M1 < (E2 - least m x) * p2 m + M2) ∧ (M2 * p2 k2 < M1 * p2 k1 ↔ (E2 - least m x) * p2 m + M2 < (E1 - least m x) * p2 m + M1) := by
  rcases Int.lt_trichotomy E1 E2 with h | h | h
  · obtain ⟨a, b⟩ := fin_lt m x E1 M1 E2 M2 k1 k2 h1 h2 hk1 hk2 h
    omega
  · subst h
    obtain rfl : k1 = 0 := by omega
    obtain rfl : k2 = 0 := by omega
    rw [p2_0]
    omega
  · obtain ⟨a, b⟩ := fin_lt m x E2 M2 E1 M1 k2 k1 h2 h1 (by rw [Int.min_comm]; exact hk2) (by rw [Int.min_comm]; exact hk1) h
    omega
/-- a pattern without its sign -/
def magI (m x : Nat) (K E M : Int) : Int := if K = 1 then 0 else if K = 2 then (E - least m x) * p2 m + M else (p2 x - 1) * p2 m
theorem mag_rank (m x : Nat) (a K E M : Int) (n : Bool) (hok : okF m x) (g : PatK m x a K n E M) (h4 : K ≠ 4) : rankI (m + x) a = sg n * magI m x K E M ∧ 0 ≤ magI m x K E M ∧ magI m x K E M ≤ (p2 x - 1) * p2 m ∧ (K = 2 → 0 < magI m x K E M ∧ magI m x K E M < (p2 x - 1) * p2 m) := by
  obtain ⟨t0, t1, t2, t3⟩ := top_bd m x hok
  have hx : 2 ≤ x := by have := hok.2.2.1; omega
  have hp := p2_pos (m + x)
  have key : ∀ g : Int, 0 ≤ g → g < p2 (m + x) → rankI (m + x) (g + sgnW n (m + x)) = sg n * g := by
    intro g g0 g1
    unfold rankI sgnW sg
    cases n
    · simp only [Bool.false_eq_true, if_false]
      rw [if_neg (by omega), Int.add_zero, Int.emod_eq_of_lt g0 g1]; omega
    · simp only [if_true]
      rw [if_pos (by omega), Int.add_emod_right, Int.emod_eq_of_lt g0 g1]; omega
  rcases g.kind with rfl | rfl | rfl | rfl
  · obtain ⟨-, -, ha⟩ := g.zero rfl
    have e : magI m x 1 E M = 0 := by simp [magI]
    rw [e]
    refine ⟨?_, by omega, t0, fun h => by omega⟩
    have := key 0 (by omega) (by omega)
    rw [Int.zero_add] at this
    rw [ha]; exact this
  · obtain ⟨hf, ha⟩ := g.fin rfl
    have e : magI m x 2 E M = (E - least m x) * p2 m + M := by simp [magI]
    have hs := pack_self m x E M hx hf
    have hb := pack_bd m x M E false (Int.le_of_lt hf.1) hx
    rw [e, ← hs]
    have hpos : 0 < packP m x M E false := by
      rw [hs]
      have : 0 ≤ (E - least m x) * p2 m := Int.mul_nonneg (by have := hf.2.2.1; omega) (Int.le_of_lt (p2_pos m))
      have := hf.1
      omega
    have hlt : packP m x M E false < (p2 x - 1) * p2 m := by
      rw [hs]
      have hbt := bias_two x hx
      have h1 : (E - least m x) * p2 m ≤ (p2 x - 1 - 2) * p2 m := Int.mul_le_mul_of_nonneg_right (by have := hf.2.2.2.1; unfold least; omega) (Int.le_of_lt (p2_pos m))
      rw [Int.sub_mul (p2 x - 1) 2] at h1
      have h2 := hf.2.1
      rw [p2_succ] at h2
      omega
    refine ⟨?_, by omega, by omega, fun _ => ⟨hpos, hlt⟩⟩
    rw [← ha]; exact key _ (by omega) (by omega)
  · have ha := g.inf rfl
    have e : magI m x 3 E M = (p2 x - 1) * p2 m := by simp [magI]
    rw [e]
    refine ⟨?_, t0, Int.le_refl _, fun h => by omega⟩
    rw [ha]; exact key _ t0 t1
  · exact absurd rfl h4
/-- the sign of a number -/
def sgz (S : Int) : Int := if S < 0 then -1 else if 0 < S then 1 else 0
theorem cmp_sum (n1 n2 : Bool) (X Y A B : Int) (x0 : 0 ≤ X) (y0 : 0 ≤ Y) (a0 : 0 ≤ A) (b0 : 0 ≤ B) (h1 : X < Y ↔ A < B) (h2 : Y < X ↔ B < A) (h3 : X = 0 ↔ A = 0) (h4 : Y = 0 ↔ B = 0) :
    cmpZ (sg n1 * A) (sg n2 * B) = sgz (sg n1 * X + sg (!n2) * Y) := by
  unfold cmpZ sgz sg
  cases n1 <;> cases n2 <;> simp only [Bool.not_false, Bool.not_true, Bool.false_eq_true, if_false, if_true] <;> repeat (first | omega | split)
end Go.Proofs.Ytfjpiahgnojlhaa
namespace Go.Proofs.Ytfjpiahgnojlhaa
open Go.RowKit
set_option maxRecDepth 100000
set_option maxHeartbeats 400000
set_option linter.unusedVariables false

abbrev ROpen2 (m x : Nat) (a b K1 : Int) (n1 : Bool) (E1 M1 K2 : Int) (n2 : Bool) (E2 M2 : Int) : Prop := Hid (∀ w, Calls Try.prog 25 #[.agg #[.int .i64 (m : Int), .int .i64 (x : Int)], .int .u64 a, .int .u64 b] w fun r w' => r = .returned (.tuple #[partsV K1 n1 E1 M1, partsV K2 n2 E2 M2, .int .i64 0]) ∧ Below w.heap.size w w')
abbrev BothErr (F : Nat) (m x a b : Int) : Prop := Hid (∀ w, Calls Try.prog F #[.agg #[.int .i64 m, .int .i64 x], .int .u64 a, .int .u64 b] w fun r w' => r = .returned (.tuple #[partsV 0 false 0 0, partsV 0 false 0 0, .int .i64 1]) ∧ Below w.heap.size w w')
abbrev ROpenC1 (m x : Nat) (a K : Int) (n : Bool) (E M : Int) : Prop := Hid (∀ w, Calls Try.prog 41 #[.agg #[.int .i64 (m : Int), .int .i64 (x : Int)], .int .u64 a] w fun r w' => r = .returned (.tuple #[partsV K n E M, .int .i64 0]) ∧ Below w.heap.size w w')
abbrev OpenErr (F : Nat) (m x a : Int) : Prop := Hid (∀ w, Calls Try.prog F #[.agg #[.int .i64 m, .int .i64 x], .int .u64 a] w fun r w' => r = .returned (.tuple #[partsV 0 false 0 0, .int .i64 1]) ∧ Below w.heap.size w w')
theorem ropen_one (m x : Nat) (a : Int) (hok : okF m x) (a0 : 0 ≤ a) (a1 : a ≤ 18446744073709551615) (ha : bl a ≤ 1 + x + m) : ROpenC1 m x a (kindI m x a) (negI m x a) (expI m x a) (manI m x a) := hidden fun w => ropen_any m x a w hok a0 a1 ha
theorem ropen_one_big (m x : Nat) (a : Int) (hok : okF m x) (a0 : 0 ≤ a) (a1 : a ≤ 18446744073709551615) (ha : 1 + x + m < bl a) : OpenErr 41 m x a := hidden fun w => ropen_big m x a _ _ w hok a0 a1 rfl rfl (top_big m x a a0 ha)
/-- one pattern -/
theorem open_one (m x a : Int) (a0 : 0 ≤ a) (a1 : a ≤ 18446744073709551615) :
    (∃ (m' x' : Nat) (K E M : Int) (n : Bool), m = m' ∧ x = x' ∧ okF m' x' ∧ bl a ≤ 1 + x' + m' ∧ PatK m' x' a K n E M ∧ Open1C m' x' a K n E M ∧ ROpenC1 m' x' a K n E M) ∨ (OpenErr 39 m x a ∧ OpenErr 41 m x a) := by
  by_cases hok : okF m x
  · obtain ⟨m, rfl⟩ := Int.eq_ofNat_of_zero_le (show 0 ≤ m by have := hok.1; omega)
    obtain ⟨x, rfl⟩ := Int.eq_ofNat_of_zero_le (show 0 ≤ x by have := hok.2.2.1; omega)
    by_cases ha : bl a ≤ 1 + x + m
    · exact .inl ⟨m, x, _, _, _, _, rfl, rfl, hok, ha, patK m x a hok a0 ha, popen1 m x a hok a0 a1 ha, ropen_one m x a hok a0 a1 ha⟩
    · exact .inr ⟨hidden fun w => popen_big m x a w hok a0 a1 (by omega), ropen_one_big m x a hok a0 a1 (by omega)⟩
  · exact .inr ⟨hidden fun w => popen_no m x a w hok, hidden fun w => ropen_no m x a w hok⟩
/-- two patterns -/
theorem open_both (m x a b : Int) (a0 : 0 ≤ a) (a1 : a ≤ 18446744073709551615) (b0 : 0 ≤ b) (b1 : b ≤ 18446744073709551615) :
    (∃ (m' x' : Nat) (K1 E1 M1 K2 E2 M2 : Int) (n1 n2 : Bool), m = m' ∧ x = x' ∧ okF m' x' ∧ bl a ≤ 1 + x' + m' ∧ bl b ≤ 1 + x' + m' ∧ PatK m' x' a K1 n1 E1 M1 ∧ PatK m' x' b K2 n2 E2 M2 ∧ OpenC m' x' a b K1 n1 E1 M1 K2 n2 E2 M2 ∧ ROpen2 m' x' a b K1 n1 E1 M1 K2 n2 E2 M2) ∨
    (BothErr 18 m x a b ∧ BothErr 25 m x a b) := by
  by_cases hok : okF m x
  · obtain ⟨m, rfl⟩ := Int.eq_ofNat_of_zero_le (show 0 ≤ m by have := hok.1; omega)
    obtain ⟨x, rfl⟩ := Int.eq_ofNat_of_zero_le (show 0 ≤ x by have := hok.2.2.1; omega)
    by_cases ha : bl a ≤ 1 + x + m
    · by_cases hb : bl b ≤ 1 + x + m
      · exact .inl ⟨m, x, _, _, _, _, _, _, _, _, rfl, rfl, hok, ha, hb, patK m x a hok a0 ha, patK m x b hok b0 hb, popen2 m x a b hok a0 a1 ha b0 b1 hb, hidden fun w => open2_any m x a b _ _ _ _ _ _ _ _ w (ropen_one m x a hok a0 a1 ha) (ropen_one m x b hok b0 b1 hb)⟩
      · exact .inr ⟨hidden fun w => pboth2_no2 m x a b _ _ _ _ w (popen1 m x a hok a0 a1 ha) (hidden fun w => popen_big m x b w hok b0 b1 (by omega)), hidden fun w => open2_no m x a b _ _ _ 0 0 0 0 1 _ false w (.inr ⟨rfl, rfl⟩) (ropen_one m x a hok a0 a1 ha) (ropen_one_big m x b hok b0 b1 (by omega))⟩
    · refine .inr ⟨hidden fun w => pboth2_no1 m x a b w (hidden fun w => popen_big m x a w hok a0 a1 (by omega)), hidden fun w => ?_⟩
      by_cases hb : bl b ≤ 1 + x + m
      · exact open2_no m x a b 0 0 0 _ _ _ 1 0 false _ w (.inl ⟨rfl, .inl rfl⟩) (ropen_one_big m x a hok a0 a1 (by omega)) (ropen_one m x b hok b0 b1 hb)
      · exact open2_no m x a b 0 0 0 0 0 0 1 1 false false w (.inl ⟨rfl, .inr rfl⟩) (ropen_one_big m x a hok a0 a1 (by omega)) (ropen_one_big m x b hok b0 b1 (by omega))
  · exact .inr ⟨hidden fun w => pboth2_no1 m x a b w (hidden fun w => popen_no m x a w hok), hidden fun w => open2_no m x a b 0 0 0 0 0 0 1 1 false false w (.inl ⟨rfl, .inr rfl⟩) (hidden fun w => ropen_no m x a w hok) (hidden fun w => ropen_no m x b w hok)⟩
end Go.Proofs.Ytfjpiahgnojlhaa
namespace Go.Proofs.Ytfjpiahgnojlhaa
open Go.RowKit
set_option maxRecDepth 100000
set_option maxHeartbeats 400000
set_option linter.unusedVariables false

abbrev Ret3 (F : Nat) (m x : Nat) (a b R Q : Int) (w : World) : Prop := Calls Try.prog F #[.agg #[.int .i64 (m : Int), .int .i64 (x : Int)], .int .u64 a, .int .u64 b] w fun r w' => r = .returned (.tuple #[.int .u64 R, .int .u64 Q, .int .i64 0]) ∧ Below w.heap.size w w'
theorem quo_pack (m x : Nat) (Q : Int) (hm : m ≤ 52) (hQ : 0 ≤ Q) : packP m x Q 0 false = packP m x (Q / p2 (bl Q - 64)) ((bl Q - 64 : Nat) : Int) (decide (Q % p2 (bl Q - 64) ≠ 0)) := by
  by_cases h : bl Q ≤ 64
  · rw [show bl Q - 64 = 0 by omega, show p2 0 = 1 from rfl, Int.ediv_one, Int.emod_one]
    simp
  · have hQ0 : 0 < Q := by
      rcases Int.lt_or_le 0 Q with h1 | h1
      · exact h1
      · have : bl Q = 0 := by unfold bl; rw [if_pos h1]
        omega
    obtain ⟨b0, b1, b2⟩ := bl_bd Q hQ0
    have h2 : p2 63 ≤ Q / p2 (bl Q - 64) := by
      have h3 : p2 63 * p2 (bl Q - 64) ≤ Q := by rw [← p2_add, show 63 + (bl Q - 64) = bl Q - 1 by omega]; exact b1
      exact (Int.le_ediv_iff_mul_le (p2_pos _)).2 h3
    have h4 := lt_bl h2
    have h5 := pack_cut m x Q 0 false (bl Q - 64) (by omega)
    rw [Bool.false_or, Int.zero_add] at h5
    exact h5
theorem rmod_small (m x : Nat) (a b K1 E1 M1 E2 M2 : Int) (n1 n2 : Bool) (w : World) (hok : okF m x) (g1 : PatK m x a K1 n1 E1 M1) (g2 : PatK m x b 2 n2 E2 M2) (h1 : K1 = 1 ∨ K1 = 2) (HO : ROpen2 m x a b K1 n1 E1 M1 2 n2 E2 M2) :
    Ret3 17 m x a b (restK m x a K1 n1 E1 M1 2 n2 E2 M2) (quoK m x K1 n1 E1 M1 2 n2 E2 M2) w := by
  have hx : 2 ≤ x := by have := hok.2.2.1; omega
  have hm : m ≤ 52 := by have := hok.2.1; omega
  obtain ⟨f2, hf2⟩ := g2.fin rfl
  obtain ⟨r1, r2, r3, r4⟩ := f2.rng hok
  have q1 : 0 ≤ M1 ∧ M1 < 9007199254740992 ∧ -1100 ≤ E1 ∧ E1 ≤ 1100 := by
    rcases h1 with rfl | rfl
    · obtain ⟨rfl, rfl, -⟩ := g1.zero rfl
      omega
    · obtain ⟨f1, -⟩ := g1.fin rfl
      obtain ⟨s1, s2, s3, s4⟩ := f1.rng hok
      omega
  obtain ⟨k1, hk1⟩ : ∃ k : Nat, E1 - min E1 E2 = k := ⟨(E1 - min E1 E2).toNat, by omega⟩
  obtain ⟨k2, hk2⟩ : ∃ k : Nat, E2 - min E1 E2 = k := ⟨(E2 - min E1 E2).toNat, by omega⟩
  refine (rmod_num m x a b K1 E1 M1 E2 M2 (min E1 E2) n1 n2 k1 k2 w hok (by rcases h1 with rfl | rfl <;> rfl) (by rcases h1 with rfl | rfl <;> rfl) q1.1 (by omega) r3 (by omega) rfl hk1 hk2 (by omega) (by omega) HO).mono ?_
  rintro r w' ⟨P, Q, R, T, rfl, hE, hR0, hR1, hQ0, hP, hT, hb⟩
  have hPe : P = packP m x R (min E1 E2) false := by
    rcases hP with ⟨h, h'⟩ | ⟨h, h'⟩
    · rw [h, h']; simp [packP]
    · exact near_one m x R _ P h hx h'
  have hTe : T = packP m x Q 0 false := by
    rcases hT with ⟨h, h'⟩ | ⟨h, h'⟩
    · rw [h, h']; simp [packP]
    · exact near_one m x Q 0 T h hx h'
  have hY : 0 < M2 * p2 k2 := Int.mul_pos r3 (p2_pos k2)
  have hdm : M1 * p2 k1 / (M2 * p2 k2) = Q ∧ M1 * p2 k1 % (M2 * p2 k2) = R := by
    have h : M1 * p2 k1 = R + M2 * p2 k2 * Q := by rw [Int.mul_comm (M2 * p2 k2) Q]; omega
    rw [h, Int.add_mul_ediv_left _ _ (by omega), Int.add_mul_emod_self_left, Int.ediv_eq_zero_of_lt hR0 hR1, Int.emod_eq_of_lt hR0 hR1]
    omega
  have goal : P + sgnW n1 (m + x) = restK m x a K1 n1 E1 M1 2 n2 E2 M2 ∧ T + sgnW (n1 != n2) (m + x) = quoK m x K1 n1 E1 M1 2 n2 E2 M2 := by
    rcases h1 with rfl | rfl
    · obtain ⟨rfl, rfl, ha⟩ := g1.zero rfl
      rw [Int.zero_mul, Int.zero_ediv, Int.zero_emod] at hdm
      obtain ⟨rfl, rfl⟩ := hdm
      rw [hPe, hTe]
      constructor
      · simp [packP, restK]; exact ha.symm
      · simp [packP, quoK]
    · obtain ⟨f1, hf1⟩ := g1.fin rfl
      by_cases hlt : E1 < E2
      · have e1 : k1 = 0 := by omega
        subst e1
        have hmin : min E1 E2 = E1 := by omega
        have hM : M1 < M2 * p2 k2 := by
          have n2' : p2 m ≤ M2 := by
            rcases f2.2.2.2.2 with h | h
            · exact h
            · have := f1.2.2.1; omega
          have h3 := f1.2.1
          rw [p2_succ] at h3
          have h4 : 2 ≤ p2 k2 := by
            have := p2_mono (show 1 ≤ k2 by omega)
            rw [show p2 1 = 2 from rfl] at this
            exact this
          have h5 := Int.mul_le_mul n2' h4 (by decide) (by omega)
          omega
        rw [show p2 0 = 1 from rfl, Int.mul_one, Int.ediv_eq_zero_of_lt q1.1 hM, Int.emod_eq_of_lt q1.1 hM] at hdm
        obtain ⟨rfl, rfl⟩ := hdm
        rw [hPe, hTe, hmin]
        constructor
        · simp [restK, hlt]; exact hf1
        · simp [packP, quoK, hlt]
      · have e2 : k2 = 0 := by omega
        subst e2
        have hmin : min E1 E2 = E2 := by omega
        have hk : (E1 - E2).toNat = k1 := by omega
        rw [show p2 0 = 1 from rfl, Int.mul_one] at hdm
        obtain ⟨h5, h6⟩ := hdm
        rw [hPe, hTe, hmin, quo_pack m x Q hm hQ0]
        constructor
        · simp [restK, hlt, hk, h6]
        · simp [quoK, hlt, hk, wqQ, wqS, h5]
  exact ⟨by rw [goal.1, goal.2], hb⟩
theorem rmod_k (m x : Nat) (a b K1 E1 M1 K2 E2 M2 : Int) (n1 n2 : Bool) (w : World) (hok : okF m x) (g1 : PatK m x a K1 n1 E1 M1) (g2 : PatK m x b K2 n2 E2 M2) (HO : ROpen2 m x a b K1 n1 E1 M1 K2 n2 E2 M2) :
    Ret3 17 m x a b (restK m x a K1 n1 E1 M1 K2 n2 E2 M2) (quoK m x K1 n1 E1 M1 K2 n2 E2 M2) w := by
  have nan : restK m x a K1 n1 E1 M1 K2 n2 E2 M2 = (p2 x - 1) * p2 m + p2 (m - 1) → quoK m x K1 n1 E1 M1 K2 n2 E2 M2 = (p2 x - 1) * p2 m + p2 (m - 1) → ((K1 = 1 ∧ K2 = 1) ∨ (K1 = 1 ∧ K2 = 4) ∨ (K1 = 2 ∧ K2 = 1) ∨ (K1 = 2 ∧ K2 = 4) ∨ (K1 = 3 ∧ K2 = 1) ∨ (K1 = 3 ∧ K2 = 2) ∨ (K1 = 3 ∧ K2 = 3) ∨ (K1 = 3 ∧ K2 = 4) ∨ (K1 = 4 ∧ K2 = 1) ∨ (K1 = 4 ∧ K2 = 2) ∨ (K1 = 4 ∧ K2 = 3) ∨ (K1 = 4 ∧ K2 = 4)) → Ret3 17 m x a b (restK m x a K1 n1 E1 M1 K2 n2 E2 M2) (quoK m x K1 n1 E1 M1 K2 n2 E2 M2) w := fun e e' h => by rw [e, e']; unfold Ret3; exact rmod_nan m x a b K1 E1 M1 K2 E2 M2 n1 n2 w hok h HO
  have inf : restK m x a K1 n1 E1 M1 K2 n2 E2 M2 = a → quoK m x K1 n1 E1 M1 K2 n2 E2 M2 = sgnW (n1 != n2) (m + x) → ((K1 = 1 ∧ K2 = 3) ∨ (K1 = 2 ∧ K2 = 3)) → Ret3 17 m x a b (restK m x a K1 n1 E1 M1 K2 n2 E2 M2) (quoK m x K1 n1 E1 M1 K2 n2 E2 M2) w := fun e e' h => by rw [e, e']; unfold Ret3; exact rmod_inf m x a b K1 E1 M1 K2 E2 M2 n1 n2 w hok h HO
  rcases g1.kind with rfl | rfl | rfl | rfl <;> rcases g2.kind with rfl | rfl | rfl | rfl
  all_goals first
    | exact rmod_small m x a b _ E1 M1 E2 M2 n1 n2 w hok g1 g2 (by decide) HO
    | exact nan (by simp [restK, nanI]) (by simp [quoK, nanI]) (by decide)
    | exact inf (by simp [restK]) (by simp [quoK]) (by decide)
end Go.Proofs.Ytfjpiahgnojlhaa
namespace Go.Proofs.Ytfjpiahgnojlhaa
open Go.RowKit
set_option maxRecDepth 100000
set_option maxHeartbeats 1000000
set_option linter.unusedVariables false

abbrev ModC (F : Nat) (m x a b R Q g : Int) : Prop := Hid (∀ w, Calls Try.prog F #[.agg #[.int .i64 m, .int .i64 x], .int .u64 a, .int .u64 b] w fun r w' => r = .returned (.tuple #[.int .u64 R, .int .u64 Q, .int .i64 g]) ∧ Below w.heap.size w w')
theorem mods_same (m x a b : Int) (a0 : 0 ≤ a) (a1 : a ≤ 18446744073709551615) (b0 : 0 ≤ b) (b1 : b ≤ 18446744073709551615) :
    ∃ R Q g, (g = 0 ∨ g = 1) ∧ ModC 16 m x a b R Q g ∧ ModC 17 m x a b R Q g := by
  rcases open_both m x a b a0 a1 b0 b1 with ⟨m, x, K1, E1, M1, K2, E2, M2, n1, n2, rfl, rfl, hok, ha, hb, g1, g2, HO, HR⟩ | ⟨HO, HR⟩
  · exact ⟨_, _, 0, .inl rfl, hidden fun w => pmod_k m x a b _ _ _ _ _ _ _ _ w hok g1.kind g2.kind (fun h => (g1.fin h).1) (fun h => (g2.fin h).1) HO, hidden fun w => rmod_k m x a b _ _ _ _ _ _ _ _ w hok g1 g2 HR⟩
  · exact ⟨0, 0, 1, .inr rfl, hidden fun w => pmod_err m x a b w HO, hidden fun w => rmod_err m x a b w HR⟩
theorem softMods_one (m x a b R Q g : Int) (w : World) (hg : g = 0 ∨ g = 1) (H1 : ModC 16 m x a b R Q g) (H2 : ModC 17 m x a b R Q g) :
    Calls Try.prog 5 #[.agg #[.int .i64 m, .int .i64 x], .int .u64 a, .int .u64 b] w fun r w' => r = .returned (.bool true) ∧ Below w.heap.size w w' := by
  have HL := hidden live_any
  have HM1 : Hid (∀ w, Calls Try.prog 10 #[.int .i64 g] w fun r w' => r = .returned (.int .i64 g) ∧ w' = w) := hidden (fun w => num_any g w (by omega) (by omega))
  clear hg
  have c0 : (w.alloc (.cells #[.int .i64 m, .int .i64 x] 23)).cell? ⟨w.heap.size, 0, none⟩ = some (.int .i64 m) := by simp
  have c1 : (w.alloc (.cells #[.int .i64 m, .int .i64 x] 23)).cell? ⟨w.heap.size, 1, none⟩ = some (.int .i64 x) := by simp
  have HB := hidden ((Below.refl w.heap.size w).alloc (Nat.le_refl _) (.cells #[.int .i64 m, .int .i64 x] 23))
  go_enter Try.func5, Try.ntmps5
  go_upto_region 1 with fail
  generalize w.alloc (.cells #[.int .i64 m, .int .i64 x] 23) = w5 at *
  go_wp2_with (first | (go_at_call 16; refine (H1.out _).mono ?_; rintro r w9 ⟨rfl, hb⟩; have c0 := cellLater hb c0; have c1 := cellLater hb c1; have HB := hidden (HB.out.trans (hb.mono HB.out.size)); clear hb) | (go_at_call 17; refine (H2.out _).mono ?_; rintro r w9 ⟨rfl, hb⟩; have c0 := cellLater hb c0; have c1 := cellLater hb c1; have HB := hidden (HB.out.trans (hb.mono HB.out.size)); clear hb) | (go_at_call 10; refine (HM1.out _).mono ?_; rintro r w9 ⟨rfl, hw⟩; obtain rfl := hw.symm) | (go_at_call 11; refine (HL.out _).mono ?_; rintro r w9 ⟨rfl, hb⟩; have HB := hidden (HB.out.trans (hb.mono HB.out.size)); clear hb))
  go_ret
  exact ⟨rfl, HB.out⟩
theorem softMods_walk (a0 b0 a1 a2 : Int) (w : World) (w0 : (Lit.int .i64 a0).wf = true) (x0 : (Lit.int .i64 b0).wf = true) (w1 : (Lit.int .u64 a1).wf = true) (w2 : (Lit.int .u64 a2).wf = true) :
    Calls Try.prog 5 #[.agg #[.int .i64 a0, .int .i64 b0], .int .u64 a1, .int .u64 a2] w fun r w' => r = .returned (.bool true) ∧ Below w.heap.size w w' := by
  have c1 := bounds_u64 w1
  have c2 := bounds_u64 w2
  obtain ⟨R, Q, g, hg, H1, H2⟩ := mods_same a0 b0 a1 a2 c1.1 c1.2 c2.1 c2.2
  exact softMods_one a0 b0 a1 a2 R Q g w hg H1 H2
end Go.Proofs.Ytfjpiahgnojlhaa
