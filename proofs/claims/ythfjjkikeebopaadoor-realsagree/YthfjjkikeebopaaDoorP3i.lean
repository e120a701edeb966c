/- Contract of package soft's wholeQuotient. -/
import Derived.Test.YthfjjkikeebopaaDoorP3h
namespace Go.Proofs.YthfjjkikeebopaaDoor
open Go.RowKit
set_option maxRecDepth 100000
set_option maxHeartbeats 400000
set_option linter.unusedVariables false

theorem div_is {N b q r : Int} (h : b * q + r = N) (r0 : 0 ≤ r) (r1 : r < b) : N / b = q ∧ N % b = r := by
  rw [← h, Int.add_comm, Int.add_mul_ediv_left _ _ (by omega), Int.add_mul_emod_self_left, Int.ediv_eq_zero_of_lt r0 r1, Int.emod_eq_of_lt r0 r1]
  omega
/-- how many times b goes into a, i digits behind: at most 64 bits of it, whether it is more, and what is left -/
structure WQ (a b : Int) (i : Nat) (t : Int) (s : Nat) (mo : Bool) (l : Int) : Prop where
  left : a * p2 i % b = l
  times : a * p2 i / b / p2 s = t
  more : mo = decide (a * p2 i / b % p2 s ≠ 0)
  t1 : t < 18446744073709551616
  full : s = 0 ∨ 9223372036854775808 ≤ t
theorem WQ.bd {a b : Int} {i s : Nat} {t l : Int} {mo : Bool} (h : WQ a b i t s mo l) (a0 : 0 ≤ a) (b0 : 0 < b) : 0 ≤ l ∧ l < b ∧ 0 ≤ t := by
  have hA : 0 ≤ a * p2 i := Int.mul_nonneg a0 (Int.le_of_lt (p2_pos i))
  rw [← h.left, ← h.times]
  exact ⟨Int.emod_nonneg _ (by omega), Int.emod_lt_of_pos _ b0, Int.ediv_nonneg (Int.ediv_nonneg hA (by omega)) (Int.le_of_lt (p2_pos s))⟩
theorem WQ.next {a b : Int} {i : Nat} (b0 : 0 < b) (l d : Int) (hl : a * p2 i % b = l) (l0 : 0 ≤ l) (hd : (d = 0 ∧ 2 * l < b) ∨ (d = 1 ∧ b ≤ 2 * l)) (l1 : l < b) :
    a * p2 (i + 1) / b = 2 * (a * p2 i / b) + d ∧ a * p2 (i + 1) % b = 2 * l - d * b := by
  have e := Int.mul_ediv_add_emod (a * p2 i) b
  rw [hl] at e
  refine div_is (q := 2 * (a * p2 i / b) + d) (r := 2 * l - d * b) ?_ ?_ ?_
  · have e2 : a * p2 (i + 1) = 2 * (a * p2 i) := by rw [p2_succ, Int.mul_left_comm]
    rw [e2, Int.mul_add, Int.mul_left_comm b 2]
    generalize b * (a * p2 i / b) = X at *
    rcases hd with ⟨rfl, _⟩ | ⟨rfl, _⟩ <;> omega
  · rcases hd with ⟨rfl, _⟩ | ⟨rfl, _⟩ <;> omega
  · rcases hd with ⟨rfl, _⟩ | ⟨rfl, _⟩ <;> omega
theorem WQ.small {a b : Int} {i s : Nat} {t l : Int} {mo : Bool} (h : WQ a b i t s mo l) (a0 : 0 ≤ a) (b0 : 0 < b) (ht : t < 9223372036854775808) (d : Int) (hd : (d = 0 ∧ 2 * l < b) ∨ (d = 1 ∧ b ≤ 2 * l)) : WQ a b (i + 1) (2 * t + d) s mo (2 * l - d * b) := by
  obtain ⟨l0, l1, t0⟩ := h.bd a0 b0
  obtain ⟨e1, e2⟩ := WQ.next b0 l d h.left l0 hd l1
  obtain rfl : s = 0 := by have := h.full; omega
  have ht' := h.times
  have hm := h.more
  rw [p2_0, Int.ediv_one] at ht'
  rw [p2_0, Int.emod_one] at hm
  exact ⟨e2, by rw [e1, p2_0, Int.ediv_one, ht'], by rw [hm, p2_0, Int.emod_one], by omega, .inl rfl⟩
theorem WQ.great {a b : Int} {i s : Nat} {t l : Int} {mo : Bool} (h : WQ a b i t s mo l) (a0 : 0 ≤ a) (b0 : 0 < b) (ht : 9223372036854775808 ≤ t) (d : Int) (hd : (d = 0 ∧ 2 * l < b) ∨ (d = 1 ∧ b ≤ 2 * l)) : WQ a b (i + 1) t (s + 1) (mo || d == 1) (2 * l - d * b) := by
  obtain ⟨l0, l1, t0⟩ := h.bd a0 b0
  obtain ⟨e1, e2⟩ := WQ.next b0 l d h.left l0 hd l1
  have ht' := h.times
  have hm := h.more
  have hp := p2_pos s
  refine ⟨e2, ?_, ?_, h.t1, .inr ht⟩
  · rw [e1, p2_succ, ← ht']
    rcases hd with ⟨rfl, _⟩ | ⟨rfl, _⟩
    · rw [Int.add_zero, div_two_p _ _ hp]
    · rw [div_two_one _ _ hp]
  · rw [e1, p2_succ, hm]
    have hr := Int.emod_nonneg (a * p2 i / b) (show p2 s ≠ 0 by omega)
    rcases hd with ⟨rfl, _⟩ | ⟨rfl, _⟩
    · rw [Int.add_zero, mod_two_p]
      simp only [show ((0 : Int) == 1) = false from rfl, Bool.or_false]
      exact decide_eq_decide.2 (by omega)
    · rw [mod_two_one _ _ hp]
      simp only [show ((1 : Int) == 1) = true from rfl, Bool.or_true]
      exact (decide_eq_true (by omega)).symm
def WQRet (w : World) (a b : Int) (n : Nat) (r : Ending) (w' : World) : Prop := ∃ (t l : Int) (s : Nat) (mo : Bool), WQ a b n t s mo l ∧ s ≤ n ∧ r = .returned (.tuple #[.int .u64 t, .int .i64 s, .bool mo, .int .u64 l]) ∧ Below w.heap.size w w'
theorem pwquo (a b : Int) (n : Nat) (w : World) (a0 : 0 ≤ a) (a1 : a < 9007199254740992) (b0 : 0 < b) (b1 : b < 9007199254740992) (hn : (n : Int) ≤ 10000) :
    Calls Tryd.prog 40 #[.int .u64 a, .int .u64 b, .int .i64 n] w fun r w' => WQRet w a b n r w' := by
  have hq : IntKind.u64.wrap (a.tdiv b) = a / b := tdiv_u a b a0 (by omega) b0
  have hr : a.tmod b = a % b := Int.tmod_eq_emod_of_nonneg a0
  have r0 := Int.emod_nonneg a (show b ≠ 0 by omega)
  have r1 := Int.emod_lt_of_pos a b0
  have q0 : 0 ≤ a / b := Int.ediv_nonneg a0 (by omega)
  have q1 : a / b ≤ a := Int.ediv_le_self _ a0
  have hr' : IntKind.u64.wrap (a % b) = a % b := by rw [IntKind.wrap_u64]; omega
  have hb0 : (b == 0) = false := by simp; omega
  have hb0' : ¬ b = 0 := by omega
  have HS : Hid (WQ a b 0 (a / b) 0 false (a % b)) := hidden ⟨by rw [p2_0, Int.mul_one], by rw [p2_0, Int.mul_one, Int.ediv_one], by rw [p2_0, Int.mul_one, Int.emod_one]; rfl, by omega, .inl rfl⟩
  generalize a / b = Q at *
  generalize a % b = L at *
  go_enter Tryd.func40, Tryd.ntmps40
  go_upto_region 1 with fail
  go_quiet (fail)
  go_wp2
  go_loop [6, 7, 8, 9, 18] (fun vt vs vm vl vi => ∃ (i s : Nat) (t l : Int) (mo : Bool), vt = .int .u64 t ∧ vs = .int .i64 s ∧ vm = .bool mo ∧ vl = .int .u64 l ∧ vi = .int .i64 i ∧ i ≤ n ∧ s ≤ i ∧ WQ a b i t s mo l) (fun _ _ _ _ vi => n - (intOf vi).toNat)
  case atStart => exact ⟨0, 0, Q, L, false, rfl, rfl, rfl, rfl, rfl, by omega, by omega, HS.out⟩
  case round =>
    obtain ⟨i, s, t, l, mo, rfl, rfl, rfl, rfl, rfl, hi, hsi, hwq⟩ := hrel
    obtain ⟨l0, l1, t0⟩ := hwq.bd a0 b0
    have t1 := hwq.t1
    by_cases hlt : (i : Int) < (n : Int)
    · by_cases hc : b ≤ l * 2
      · by_cases ht : t < 9223372036854775808
        · have X := hidden (hwq.small a0 b0 ht 1 (.inr ⟨rfl, by omega⟩))
          clear hwq
          have k1 : t / 9223372036854775808 = 0 := by omega
          have k2 : bits .or .u64 (t * 2) 1 = t * 2 + 1 := or_join 1 (t * 2) 1 (by omega) (by omega) (by show t * 2 % 2 = 0; omega) (by omega) (by decide) (by omega)
          go_wp2
          go_round
          case rel => exact ⟨i + 1, s, 2 * t + 1, 2 * l - 1 * b, mo, int_eq (by omega), rfl, rfl, int_eq (by omega), by go_num, by omega, by omega, X.out⟩
          case measure => simp [intOf]; omega
        · have X := hidden (hwq.great a0 b0 (by omega) 1 (.inr ⟨rfl, by omega⟩))
          clear hwq
          have k1 : t / 9223372036854775808 = 1 := by omega
          cases mo
          all_goals
            go_wp2
            go_round
            case rel => exact ⟨i + 1, s + 1, t, 2 * l - 1 * b, _, rfl, by go_num, rfl, int_eq (by omega), by go_num, by omega, by omega, X.out⟩
            case measure => simp [intOf]; omega
      · by_cases ht : t < 9223372036854775808
        · have X := hidden (hwq.small a0 b0 ht 0 (.inl ⟨rfl, by omega⟩))
          clear hwq
          have k1 : t / 9223372036854775808 = 0 := by omega
          have k2 : bits .or .u64 (t * 2) 0 = t * 2 := or_zero _ (by omega) (by omega)
          go_wp2
          go_round
          case rel => exact ⟨i + 1, s, 2 * t + 0, 2 * l - 0 * b, mo, int_eq (by omega), rfl, rfl, int_eq (by omega), by go_num, by omega, by omega, X.out⟩
          case measure => simp [intOf]; omega
        · have X := hidden (hwq.great a0 b0 (by omega) 0 (.inl ⟨rfl, by omega⟩))
          clear hwq
          have k1 : t / 9223372036854775808 = 1 := by omega
          cases mo
          all_goals
            go_wp2
            go_round
            case rel => exact ⟨i + 1, s + 1, t, 2 * l - 0 * b, _, rfl, by go_num, rfl, int_eq (by omega), by go_num, by omega, by omega, X.out⟩
            case measure => simp [intOf]; omega
    · obtain rfl : i = n := by omega
      have X := hidden hwq
      clear hwq
      go_wp2
      refine bodyPost_ret (v := .tuple #[.int .u64 t, .int .i64 s, .bool mo, .int .u64 l]) (by simp [results, Tryd.results40, go_sem]) rfl ⟨t, l, s, mo, X.out, hsi, rfl, ?_⟩
      exact below_drewN (Below.refl _ _) _
end Go.Proofs.YthfjjkikeebopaaDoor
