/- Contract of package soft's sum: the nearest pattern to the exact sum of two finite numbers. -/
import Derived.Test.YthfjjkikeebopaaDoorP3e
import Derived.Test.YthfjjkikeebopaaDoorP3d
import Derived.Test.YthfjjkikeebopaaDoorM3a
namespace Go.Proofs.YthfjjkikeebopaaDoor
open Go.RowKit
set_option maxRecDepth 100000
set_option maxHeartbeats 400000
set_option linter.unusedVariables false

abbrev MulC (a b hi lo : Int) : Prop := Hid (∀ w, Calls Tryd.prog 37 #[.int .u64 a, .int .u64 b] w fun r w' => r = .returned (.tuple #[.int .u64 hi, .int .u64 lo]) ∧ w' = w)
abbrev AddC (a b lo ca : Int) : Prop := Hid (∀ w, (callFunc 52 #[.int .u64 a, .int .u64 b, .int .u64 0]).run Tryd.prog w = .ok (.value (.tuple #[.int .u64 lo, .int .u64 ca])) w)
abbrev SubC (a b lo ca : Int) : Prop := Hid (∀ w, (callFunc 53 #[.int .u64 a, .int .u64 b, .int .u64 0]).run Tryd.prog w = .ok (.value (.tuple #[.int .u64 lo, .int .u64 ca])) w)
abbrev PackC (m x : Nat) (n : Bool) (hi lo e : Int) (mo : Bool) (R : Int) : Prop := Hid (∀ w, Calls Tryd.prog 38 #[fmtV m x, .bool n, .int .u64 hi, .int .u64 lo, .int .i64 e, .bool mo] w fun r w' => r = .returned (.tuple #[.int .u64 R, .int .i64 0]) ∧ Below w.heap.size w w')
theorem shl_one (k : Nat) (h : k ≤ 63) : IntKind.u64.wrap (2 ^ k) = p2 k ∧ IntKind.u64.wrap (1 * 2 ^ k) = p2 k := by
  have h1 := p2_lt64 h
  have h0 := p2_pos k
  rw [Int.one_mul, IntKind.wrap_u64]
  show p2 k % _ = _ ∧ p2 k % _ = _
  omega
theorem mul_bd53 (M : Int) (k : Nat) (h0 : 0 < M) (h1 : M < 9007199254740992) (hk : k ≤ 63) : 0 < M * p2 k ∧ M * p2 k < 166153499473114484112975882535043072 := by
  refine ⟨Int.mul_pos h0 (p2_pos k), ?_⟩
  have h2 : M * p2 k < 9007199254740992 * p2 k := Int.mul_lt_mul_of_pos_right h1 (p2_pos k)
  have h3 := p2_le63 hk
  omega
theorem sum_same_l (m x k : Nat) (E1 M1 E2 M2 : Int) (n : Bool) (hok : okF m x) (f1 : FinP m x E1 M1) (f2 : FinP m x E2 M2) (hk : E1 - E2 = k) (h63 : k ≤ 63) :
    ∃ hi lo low car HI, MulC M1 (p2 k) hi lo ∧ AddC lo M2 low car ∧ IntKind.u64.wrap (hi + car) = HI ∧ PackC m x n HI low E2 false (sumI m x n E1 M1 n E2 M2) := by
  obtain ⟨r1, r2, r3, r4⟩ := f1.rng hok
  obtain ⟨s1, s2, s3, s4⟩ := f2.rng hok
  obtain ⟨x0, x1⟩ := mul_bd53 M1 k r3 r4 h63
  have hp := p2_pos k
  have hp1 := p2_lt64 h63
  refine ⟨M1 * p2 k / 18446744073709551616, M1 * p2 k % 18446744073709551616, (M1 * p2 k % 18446744073709551616 + M2) % 18446744073709551616, (M1 * p2 k % 18446744073709551616 + M2) / 18446744073709551616, M1 * p2 k / 18446744073709551616 + (M1 * p2 k % 18446744073709551616 + M2) / 18446744073709551616, ?_, ?_, ?_, ?_⟩
  · exact hidden fun w => pmul64 M1 (p2 k) w (by omega) (by omega) (by omega) (by omega)
  · exact hidden fun w => padd64 _ M2 w (by omega) (by omega) (by omega) (by omega)
  · rw [IntKind.wrap_u64]; omega
  · refine hidden fun w => ?_
    have h := ppack_any m x n false (M1 * p2 k + M2) (M1 * p2 k / 18446744073709551616 + (M1 * p2 k % 18446744073709551616 + M2) / 18446744073709551616) ((M1 * p2 k % 18446744073709551616 + M2) % 18446744073709551616) E2 w hok (by omega) (by omega) (by omega) (by omega) (by omega) (by omega) (by omega) (fun h => by cases h)
    rw [sum_same m x n E1 M1 E2 M2 k hk r3 s3]
    exact h
theorem sum_diff_l (m x k : Nat) (E1 M1 E2 M2 : Int) (n : Bool) (hok : okF m x) (f1 : FinP m x E1 M1) (f2 : FinP m x E2 M2) (hk : E1 - E2 = k) (h63 : k ≤ 63) (ho : ¬ (E1 < E2 ∨ (E1 = E2 ∧ M1 < M2))) :
    ∃ hi lo low car HI NG, MulC M1 (p2 k) hi lo ∧ SubC lo M2 low car ∧ IntKind.u64.wrap (hi - car) = HI ∧ Hid (NG = (n && (HI != 0 || low != 0))) ∧ PackC m x NG HI low E2 false (sumI m x n E1 M1 (!n) E2 M2) := by
  obtain ⟨r1, r2, r3, r4⟩ := f1.rng hok
  obtain ⟨s1, s2, s3, s4⟩ := f2.rng hok
  obtain ⟨x0, x1⟩ := mul_bd53 M1 k r3 r4 h63
  have hle := ord_le m x E1 M1 E2 M2 k hk f1 f2 ho
  have hp := p2_pos k
  have hp1 := p2_lt64 h63
  have HM : MulC M1 (p2 k) (M1 * p2 k / 18446744073709551616) (M1 * p2 k % 18446744073709551616) := hidden fun w => pmul64 M1 (p2 k) w (by omega) (by omega) (by omega) (by omega)
  have HI := sum_diff m x n E1 M1 E2 M2 k hk hle
  generalize M1 * p2 k = X at *
  have HW : X / 18446744073709551616 - (if X % 18446744073709551616 < M2 then 1 else 0) = (X - M2) / 18446744073709551616 ∧ (X % 18446744073709551616 - M2) % 18446744073709551616 = (X - M2) % 18446744073709551616 := by
    split <;> omega
  refine ⟨X / 18446744073709551616, X % 18446744073709551616, (X % 18446744073709551616 - M2) % 18446744073709551616, (if X % 18446744073709551616 < M2 then 1 else 0), (X - M2) / 18446744073709551616, n && decide (X - M2 ≠ 0), HM, ?_, ?_, ?_, ?_⟩
  · exact hidden fun w => psub64 _ M2 w (by omega) (by omega) (by omega) (by omega)
  · rw [HW.1, IntKind.wrap_u64]; omega
  · refine hidden ?_
    rw [HW.2]
    congr 1
    by_cases h : X - M2 = 0
    · rw [h]; rfl
    · rw [decide_eq_true h]
      by_cases h2 : (X - M2) / 18446744073709551616 = 0
      · have h3 : (X - M2) % 18446744073709551616 ≠ 0 := by omega
        simp [h3]
      · simp [h2]
  · refine hidden fun w => ?_
    have h := ppack_any m x (n && decide (X - M2 ≠ 0)) false (X - M2) ((X - M2) / 18446744073709551616) ((X - M2) % 18446744073709551616) E2 w hok (by omega) (by omega) (by omega) (by omega) (by omega) (by omega) (by omega) (fun h => by cases h)
    rw [HI, HW.2]
    exact h
theorem sum_far_l (m x k : Nat) (E1 M1 E2 M2 : Int) (n1 n2 : Bool) (hok : okF m x) (f1 : FinP m x E1 M1) (f2 : FinP m x E2 M2) (hk : E1 - E2 = k) (h63 : 63 < k) :
    PackC m x n1 0 M1 E1 false (sumI m x n1 E1 M1 n2 E2 M2) := by
  obtain ⟨r1, r2, r3, r4⟩ := f1.rng hok
  have hx : 2 ≤ x := by have := hok.2.2.1; omega
  have hm : m ≤ 52 := by have := hok.2.1; omega
  refine hidden fun w => ?_
  have h := ppack_any m x n1 false M1 0 M1 E1 w hok (by omega) (by omega) (by omega) (by omega) (by omega) (by omega) (by omega) (fun h => by cases h)
  have e : sumI m x n1 E1 M1 n2 E2 M2 = packP m x M1 E1 false + sgnW n1 (m + x) := by
    by_cases hn : n2 = n1
    · subst hn
      rw [sum_same m x n2 E1 M1 E2 M2 k hk r3 f2.1, far_plus m x E1 M1 E2 M2 k hm hx hk h63 f1 f2]
    · obtain rfl : n2 = !n1 := by cases n1 <;> cases n2 <;> simp_all
      have hle := ord_le m x E1 M1 E2 M2 k hk f1 f2 (by omega)
      rw [sum_diff m x n1 E1 M1 E2 M2 k hk hle, far_minus m x E1 M1 E2 M2 k hm hx hk h63 f1 f2]
      have hne : M1 * p2 k - M2 ≠ 0 := by
        intro h0
        have h1 := far_minus m x E1 M1 E2 M2 k hm hx hk h63 f1 f2
        rw [h0] at h1
        have h2 : p2 k ≤ M1 * p2 k := by
          have := Int.mul_le_mul_of_nonneg_right (show 1 ≤ M1 by omega) (Int.le_of_lt (p2_pos k))
          omega
        have h3 : p2 64 ≤ p2 k := p2_mono (by omega)
        rw [p2_64] at h3
        have := (f2.rng hok).2.2.2
        omega
      rw [decide_eq_true hne, Bool.and_true]
  rw [e]
  exact h
theorem psum_any (m x : Nat) (E1 M1 E2 M2 K1 K2 : Int) (n1 n2 : Bool) (w : World) (hok : okF m x) (f1 : FinP m x E1 M1) (f2 : FinP m x E2 M2) :
    Calls Tryd.prog 34 #[fmtV m x, partsV K1 n1 E1 M1, partsV K2 n2 E2 M2] w fun r w' => r = .returned (.tuple #[.int .u64 (sumI m x n1 E1 M1 n2 E2 M2), .int .i64 0]) ∧ Below w.heap.size w w' := by
  have r := f1.rng hok
  have s := f2.rng hok
  by_cases ho : E1 < E2 ∨ (E1 = E2 ∧ M1 < M2)
  · -- the second one is greater
    obtain ⟨k, hk⟩ : ∃ k : Nat, E2 - E1 = k := ⟨(E2 - E1).toNat, by omega⟩
    have hw : IntKind.i64.wrap (E2 - E1) = k := by rw [wrapi _ (by omega) (by omega)]; exact hk
    have ho' : (E1 < E2) ∨ (¬ E1 < E2 ∧ (E1 == E2) = true ∧ M1 < M2) := by
      rcases ho with h | ⟨h, h'⟩
      · exact .inl h
      · exact .inr ⟨by omega, by simpa using h, h'⟩
    have hno : ¬ (E2 < E1 ∨ (E2 = E1 ∧ M2 < M1)) := by omega
    rw [sumI_comm]
    by_cases h63 : k ≤ 63
    · obtain ⟨g1, g2⟩ := shl_one k h63
      by_cases hn : n1 = n2
      · subst hn
        obtain ⟨hi, lo, low, car, HI, a, b, c, d⟩ := sum_same_l m x k E2 M2 E1 M1 n1 hok f2 f1 hk h63
        exact psum_same_sw m x k E2 M2 E1 M1 K2 K1 hi lo low car HI (p2 k) _ n1 w ho' hw (by omega) g1 g2 a b c d
      · obtain rfl : n1 = !n2 := by cases n1 <;> cases n2 <;> simp_all
        obtain ⟨hi, lo, low, car, HI, NG, a, b, c, d, e⟩ := sum_diff_l m x k E2 M2 E1 M1 n2 hok f2 f1 hk h63 hno
        exact psum_diff_sw m x k E2 M2 E1 M1 K2 K1 hi lo low car HI (p2 k) _ n2 (!n2) NG w ho' (by cases n2 <;> rfl) hw (by omega) g1 g2 a b c d e
    · exact psum_far_sw m x k E2 M2 E1 M1 K2 K1 0 0 0 0 0 0 _ n2 n1 w ho' hw (by omega) (sum_far_l m x k E2 M2 E1 M1 n2 n1 hok f2 f1 hk (by omega))
  · obtain ⟨k, hk⟩ : ∃ k : Nat, E1 - E2 = k := ⟨(E1 - E2).toNat, by omega⟩
    have hw : IntKind.i64.wrap (E1 - E2) = k := by rw [wrapi _ (by omega) (by omega)]; exact hk
    have ho' : (¬ E1 < E2 ∧ (E1 == E2) = false) ∨ (¬ E1 < E2 ∧ (E1 == E2) = true ∧ ¬ M1 < M2) := by
      by_cases h : E1 = E2
      · exact .inr ⟨by omega, by simpa using h, by omega⟩
      · exact .inl ⟨by omega, by simpa using h⟩
    by_cases h63 : k ≤ 63
    · obtain ⟨g1, g2⟩ := shl_one k h63
      by_cases hn : n2 = n1
      · subst hn
        obtain ⟨hi, lo, low, car, HI, a, b, c, d⟩ := sum_same_l m x k E1 M1 E2 M2 n2 hok f1 f2 hk h63
        exact psum_same m x k E1 M1 E2 M2 K1 K2 hi lo low car HI (p2 k) _ n2 w ho' hw (by omega) g1 g2 a b c d
      · obtain rfl : n2 = !n1 := by cases n1 <;> cases n2 <;> simp_all
        obtain ⟨hi, lo, low, car, HI, NG, a, b, c, d, e⟩ := sum_diff_l m x k E1 M1 E2 M2 n1 hok f1 f2 hk h63 ho
        exact psum_diff m x k E1 M1 E2 M2 K1 K2 hi lo low car HI (p2 k) _ n1 (!n1) NG w ho' (by cases n1 <;> rfl) hw (by omega) g1 g2 a b c d e
    · exact psum_far m x k E1 M1 E2 M2 K1 K2 0 0 0 0 0 0 _ n1 n2 w ho' hw (by omega) (sum_far_l m x k E1 M1 E2 M2 n1 n2 hok f1 f2 hk (by omega))
end Go.Proofs.YthfjjkikeebopaaDoor
