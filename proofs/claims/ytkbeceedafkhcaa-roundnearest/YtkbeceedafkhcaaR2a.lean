/- Contracts of the document's small functions for formats (package grottoref02: power, Check, Bias, Least): powers of two, and what a format has. -/
import Derived.Test.YtkbeceedafkhcaaQ2a
namespace Go.Proofs.Ytkbeceedafkhcaa
open Go.RowKit
set_option maxHeartbeats 1000000

theorem power_any (n : Nat) (w : World) (hn : n ≤ 63) :
    Calls Try.prog 31 #[.int .i64 n] w fun e w' => e = .returned (.int .u64 (p2 n)) ∧ w' = w := by
  go_enter Try.func31, Try.ntmps31
  go_wp2
  go_loop [3, 4] (fun x i => ∃ k : Nat, k ≤ n ∧ i = .int .i64 k ∧ x = .int .u64 (p2 k)) (fun _ i => n - (intOf i).toNat)
  case atStart => exact ⟨0, Nat.zero_le _, rfl, rfl⟩
  case round =>
    obtain ⟨k, hk, rfl, rfl⟩ := hrel
    by_cases hlt : (k : Int) < (n : Int)
    · have h1 := p2_pos k
      have h2 : p2 (k + 1) ≤ 9223372036854775808 := p2_le63 (by omega)
      have h3 := hidden (p2_succ k)
      have h4 : 2 * p2 k ≤ 9223372036854775808 := by rw [← h3.out]; exact h2
      clear h2
      generalize p2 k = P at *
      go_wp2
      go_round
      case rel => exact ⟨k + 1, by omega, by go_num, by rw [h3.out]⟩
      case measure => simp [intOf]; omega
    · obtain rfl : k = n := by omega
      go_wp2
      go_ret
      exact ⟨rfl, rfl⟩
theorem check_ok (m e : Int) (w : World) (h : okF m e) :
    Calls Try.prog 13 #[.agg #[.int .i64 m, .int .i64 e]] w fun r w' => r = .returned (.int .i64 0) ∧ w' = w.alloc (.cells #[.int .i64 m, .int .i64 e] 23) := by
  obtain ⟨h1, h2, h3, h4⟩ := h
  go_enter Try.func13, Try.ntmps13
  go_wp2
  go_ret
  exact ⟨rfl, rfl⟩
theorem check_no (m e : Int) (w : World) (h : ¬ okF m e) :
    Calls Try.prog 13 #[.agg #[.int .i64 m, .int .i64 e]] w fun r w' => r = .returned (.int .i64 1) ∧ w' = w.alloc (.cells #[.int .i64 m, .int .i64 e] 23) := by
  have hc : m < 2 ∨ (2 ≤ m ∧ 52 < m) ∨ (2 ≤ m ∧ m ≤ 52 ∧ e < 2) ∨ (2 ≤ m ∧ m ≤ 52 ∧ 2 ≤ e ∧ 11 < e) := by unfold okF at h; omega
  clear h
  rcases hc with h1 | ⟨h1, h2⟩ | ⟨h1, h2, h3⟩ | ⟨h1, h2, h3, h4⟩
  all_goals
    go_enter Try.func13, Try.ntmps13
    go_wp2
    go_ret
    exact ⟨rfl, rfl⟩
theorem bias_any (m e : Int) (w : World) (h : okF m e) :
    Calls Try.prog 33 #[.agg #[.int .i64 m, .int .i64 e]] w fun r w' => r = .returned (.int .i64 (bias e)) ∧ w' = w.alloc (.cells #[.int .i64 m, .int .i64 e] 23) := by
  obtain ⟨h1, h2, h3, h4⟩ := h
  have hb := bias_bd e h3 h4
  have hp : 0 < p2 (e - 1).toNat ∧ p2 (e - 1).toNat ≤ 1024 := by unfold bias at hb; omega
  have he : Hid (bias e = p2 (e - 1).toNat - 1) := hidden rfl
  have hC : Hid (∀ w, Calls Try.prog 31 #[.int .i64 (e - 1)] w fun r w' => r = .returned (.int .u64 (p2 (e - 1).toNat)) ∧ w' = w) := hidden fun w => by
    have := power_any (e - 1).toNat w (by omega)
    rwa [show (((e - 1).toNat : Nat) : Int) = e - 1 by omega] at this
  generalize p2 (e - 1).toNat = P at *
  go_enter Try.func33, Try.ntmps33
  go_wp2_with (go_at_call 31; refine (hC.out _).mono ?_; rintro r w1 ⟨rfl, hw⟩; obtain rfl := hw.symm)
  go_ret
  exact ⟨ret_int he.out.symm, rfl⟩
theorem least_any (m e : Int) (w : World) (h : okF m e) :
    Calls Try.prog 32 #[.agg #[.int .i64 m, .int .i64 e]] w fun r w' => r = .returned (.int .i64 (least m e)) ∧ w' = ((w.alloc (.cells #[.int .i64 m, .int .i64 e] 23)).alloc (.cells #[.int .i64 m, .int .i64 e] 23)).drew := by
  have h0 := h
  obtain ⟨h1, h2, h3, h4⟩ := h
  have hb := bias_bd e h3 h4
  have he : Hid (least m e = 1 - bias e - m) := hidden rfl
  have HB := hidden (fun w => bias_any m e w h0)
  clear h0
  go_enter Try.func32, Try.ntmps32
  go_wp2_with fail
  go_region_held3 (fun w' => w'.cell? ⟨w.heap.size, 0, none⟩ = some (.int .i64 m) ∧ w'.cell? ⟨w.heap.size, 1, none⟩ = some (.int .i64 e)) (go_keep) (first | (go_at_call 33; refine (HB.out _).mono ?_; rintro r w1 ⟨rfl, hw⟩; subst hw))
  all_goals
    go_wp2
    go_ret
    refine ⟨ret_int ?_, rfl⟩
    rw [he.out, wrapi (1 - bias e) (by omega) (by omega), wrapi _ (by omega) (by omega)]
end Go.Proofs.Ytkbeceedafkhcaa
