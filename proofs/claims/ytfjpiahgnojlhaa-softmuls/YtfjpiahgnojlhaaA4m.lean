/- The document's Mul and Div answer what package soft's answer, for every two patterns of a format. -/
import Derived.Test.YtfjpiahgnojlhaaS3r
import Derived.Test.YtfjpiahgnojlhaaA4o
import Derived.Test.YtfjpiahgnojlhaaA3n
namespace Go.Proofs.Ytfjpiahgnojlhaa
open Go.RowKit
set_option maxRecDepth 100000
set_option maxHeartbeats 400000
set_option linter.unusedVariables false

abbrev Ret2 (F : Nat) (m x : Nat) (a b R : Int) (w : World) : Prop := Calls Try.prog F #[.agg #[.int .i64 (m : Int), .int .i64 (x : Int)], .int .u64 a, .int .u64 b] w fun r w' => r = .returned (.tuple #[.int .u64 R, .int .i64 0]) ∧ Below w.heap.size w w'
theorem PatK.small {m x : Nat} {a K E M : Int} {n : Bool} (g : PatK m x a K n E M) (hok : okF m x) (h : K = 1 ∨ K = 2) : 0 ≤ M ∧ M < 9007199254740992 ∧ -1100 ≤ E ∧ E ≤ 1100 ∧ (K = 1 → M = 0) ∧ (K = 2 → 0 < M) := by
  rcases h with rfl | rfl
  · obtain ⟨rfl, rfl, -⟩ := g.zero rfl
    refine ⟨by omega, by omega, by omega, by omega, fun _ => rfl, fun h => by cases h⟩
  · obtain ⟨f, -⟩ := g.fin rfl
    obtain ⟨h1, h2, h3, h4⟩ := f.rng hok
    exact ⟨by omega, h4, h1, h2, (fun h => by cases h), fun _ => h3⟩
theorem rmul_small (m x : Nat) (a b K1 E1 M1 K2 E2 M2 : Int) (n1 n2 : Bool) (w : World) (hok : okF m x) (g1 : PatK m x a K1 n1 E1 M1) (g2 : PatK m x b K2 n2 E2 M2) (h1 : K1 = 1 ∨ K1 = 2) (h2 : K2 = 1 ∨ K2 = 2) (HO : ROpen2 m x a b K1 n1 E1 M1 K2 n2 E2 M2) :
    Ret2 7 m x a b (mulK m x K1 n1 E1 M1 K2 n2 E2 M2) w := by
  have hx : 2 ≤ x := by have := hok.2.2.1; omega
  obtain ⟨a0, a1, a2, a3, a4, a5⟩ := g1.small hok h1
  obtain ⟨b0, b1, b2, b3, b4, b5⟩ := g2.small hok h2
  refine (rmul_near m x a b K1 E1 M1 K2 E2 M2 n1 n2 w hok h1 h2 a0 (by omega) b0 (by omega) (by omega) (by omega) HO).mono ?_
  rintro r w' ⟨P, rfl, hP, hb⟩
  have e : P + sgnW (n1 != n2) (m + x) = mulK m x K1 n1 E1 M1 K2 n2 E2 M2 := by
    rcases h1 with rfl | rfl
    · rw [a4 rfl, Int.zero_mul] at hP
      have h0 : P = 0 := by rcases hP with h | h <;> omega
      rcases h2 with rfl | rfl <;> simp [mulK, h0]
    · rcases h2 with rfl | rfl
      · rw [b4 rfl, Int.mul_zero] at hP
        have h0 : P = 0 := by rcases hP with h | h <;> omega
        simp [mulK, h0]
      · have hp := Int.mul_pos (a5 rfl) (b5 rfl)
        rcases hP with h | h
        · omega
        · rw [near_one m x (M1 * M2) (E1 + E2) P hp hx h.2]
          simp [mulK]
  exact ⟨by rw [e], hb⟩
theorem rmul_k (m x : Nat) (a b K1 E1 M1 K2 E2 M2 : Int) (n1 n2 : Bool) (w : World) (hok : okF m x) (g1 : PatK m x a K1 n1 E1 M1) (g2 : PatK m x b K2 n2 E2 M2) (HO : ROpen2 m x a b K1 n1 E1 M1 K2 n2 E2 M2) :
    Ret2 7 m x a b (mulK m x K1 n1 E1 M1 K2 n2 E2 M2) w := by
  have nan : mulK m x K1 n1 E1 M1 K2 n2 E2 M2 = (p2 x - 1) * p2 m + p2 (m - 1) → ((K1 = 1 ∧ K2 = 3) ∨ (K1 = 1 ∧ K2 = 4) ∨ (K1 = 2 ∧ K2 = 4) ∨ (K1 = 3 ∧ K2 = 1) ∨ (K1 = 3 ∧ K2 = 4) ∨ (K1 = 4 ∧ K2 = 1) ∨ (K1 = 4 ∧ K2 = 2) ∨ (K1 = 4 ∧ K2 = 3) ∨ (K1 = 4 ∧ K2 = 4)) → Ret2 7 m x a b (mulK m x K1 n1 E1 M1 K2 n2 E2 M2) w := fun e h => by rw [e]; unfold Ret2; exact rmul_nan m x a b K1 E1 M1 K2 E2 M2 n1 n2 w hok h HO
  have inf : mulK m x K1 n1 E1 M1 K2 n2 E2 M2 = (p2 x - 1) * p2 m + sgnW (n1 != n2) (m + x) → ((K1 = 2 ∧ K2 = 3) ∨ (K1 = 3 ∧ K2 = 2) ∨ (K1 = 3 ∧ K2 = 3)) → Ret2 7 m x a b (mulK m x K1 n1 E1 M1 K2 n2 E2 M2) w := fun e h => by rw [e]; unfold Ret2; exact rmul_inf m x a b K1 E1 M1 K2 E2 M2 n1 n2 w hok h HO
  rcases g1.kind with rfl | rfl | rfl | rfl <;> rcases g2.kind with rfl | rfl | rfl | rfl
  all_goals first
    | exact rmul_small m x a b _ E1 M1 _ E2 M2 n1 n2 w hok g1 g2 (by decide) (by decide) HO
    | exact nan (by simp [mulK, nanI]) (by decide)
    | exact inf (by simp [mulK, infI]) (by decide)
theorem rdiv_small (m x : Nat) (a b K1 E1 M1 K2 E2 M2 : Int) (n1 n2 : Bool) (w : World) (hok : okF m x) (g1 : PatK m x a K1 n1 E1 M1) (g2 : PatK m x b K2 n2 E2 M2) (h1 : K1 = 1 ∨ K1 = 2) (h2 : K2 = 2) (HO : ROpen2 m x a b K1 n1 E1 M1 K2 n2 E2 M2) :
    Ret2 9 m x a b (divK m x K1 n1 E1 M1 K2 n2 E2 M2) w := by
  have hx : 2 ≤ x := by have := hok.2.2.1; omega
  have hm : m ≤ 52 := by have := hok.2.1; omega
  obtain ⟨a0, a1, a2, a3, a4, a5⟩ := g1.small hok h1
  obtain ⟨b0, b1, b2, b3, b4, b5⟩ := g2.small hok (.inr h2)
  have hM2 := b5 h2
  refine (rdiv_near m x a b K1 E1 M1 K2 E2 M2 n1 n2 w hok h1 h2 a0 (by omega) hM2 (by omega) (by omega) (by omega) HO).mono ?_
  rintro r w' ⟨P, rfl, hP, hb⟩
  have e : P + sgnW (n1 != n2) (m + x) = divK m x K1 n1 E1 M1 K2 n2 E2 M2 := by
    subst h2
    rcases h1 with rfl | rfl
    · have := a4 rfl
      have h0 : P = 0 := by rcases hP with h | h <;> omega
      simp [divK, h0]
    · have hM1 := a5 rfl
      rcases hP with h | h
      · omega
      · obtain ⟨q1, q2, q3⟩ := quo_near M1 M2 E1 E2 _ _ (quoQ M1 M2) (quoE E1 M1 E2 M2) hM1 hM2 rfl rfl
        have hq := quoQ_bd M1 M2 hM1 (by omega) hM2 (by omega)
        have hl := quoQ_bl M1 M2 hM1 (by omega) hM2 (by omega)
        have hp : P = divI m x E1 M1 E2 M2 := near_pack_gen m x M1 M2 (E1 - E2) P (quoQ M1 M2) (quoE E1 M1 E2 M2) _ (by omega) hM2 hx (fun _ => by omega) h.2 q1 q2 (by rw [← q3, decide_eq_false_iff_not, Decidable.not_not]; rfl)
        rw [hp]
        simp [divK]
  exact ⟨by rw [e], hb⟩
theorem rdiv_k (m x : Nat) (a b K1 E1 M1 K2 E2 M2 : Int) (n1 n2 : Bool) (w : World) (hok : okF m x) (g1 : PatK m x a K1 n1 E1 M1) (g2 : PatK m x b K2 n2 E2 M2) (HO : ROpen2 m x a b K1 n1 E1 M1 K2 n2 E2 M2) :
    Ret2 9 m x a b (divK m x K1 n1 E1 M1 K2 n2 E2 M2) w := by
  have nan : divK m x K1 n1 E1 M1 K2 n2 E2 M2 = (p2 x - 1) * p2 m + p2 (m - 1) → ((K1 = 1 ∧ K2 = 1) ∨ (K1 = 1 ∧ K2 = 4) ∨ (K1 = 2 ∧ K2 = 4) ∨ (K1 = 3 ∧ K2 = 3) ∨ (K1 = 3 ∧ K2 = 4) ∨ (K1 = 4 ∧ K2 = 1) ∨ (K1 = 4 ∧ K2 = 2) ∨ (K1 = 4 ∧ K2 = 3) ∨ (K1 = 4 ∧ K2 = 4)) → Ret2 9 m x a b (divK m x K1 n1 E1 M1 K2 n2 E2 M2) w := fun e h => by rw [e]; unfold Ret2; exact rdiv_nan m x a b K1 E1 M1 K2 E2 M2 n1 n2 w hok h HO
  have inf : divK m x K1 n1 E1 M1 K2 n2 E2 M2 = (p2 x - 1) * p2 m + sgnW (n1 != n2) (m + x) → ((K1 = 2 ∧ K2 = 1) ∨ (K1 = 3 ∧ K2 = 1) ∨ (K1 = 3 ∧ K2 = 2)) → Ret2 9 m x a b (divK m x K1 n1 E1 M1 K2 n2 E2 M2) w := fun e h => by rw [e]; unfold Ret2; exact rdiv_inf m x a b K1 E1 M1 K2 E2 M2 n1 n2 w hok h HO
  have zero : divK m x K1 n1 E1 M1 K2 n2 E2 M2 = sgnW (n1 != n2) (m + x) → ((K1 = 1 ∧ K2 = 3) ∨ (K1 = 2 ∧ K2 = 3)) → Ret2 9 m x a b (divK m x K1 n1 E1 M1 K2 n2 E2 M2) w := fun e h => by rw [e]; unfold Ret2; exact rdiv_zero m x a b K1 E1 M1 K2 E2 M2 n1 n2 w hok h HO
  rcases g1.kind with rfl | rfl | rfl | rfl <;> rcases g2.kind with rfl | rfl | rfl | rfl
  all_goals first
    | exact rdiv_small m x a b _ E1 M1 _ E2 M2 n1 n2 w hok g1 g2 (by decide) (by decide) HO
    | exact nan (by simp [divK, nanI]) (by decide)
    | exact inf (by simp [divK, infI]) (by decide)
    | exact zero (by simp [divK]) (by decide)
end Go.Proofs.Ytfjpiahgnojlhaa
