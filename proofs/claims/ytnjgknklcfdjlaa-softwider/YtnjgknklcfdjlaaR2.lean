/- Contracts of the document's small functions for formats (package grottoref02: power, Check, Bias, Least): powers of two, and what a format has. Contracts of the document's patterns (package grottoref02: Whole, Zero, Inf, NaN): a pattern out of its sign, field and fraction. Contracts of the document's Open (package grottoref02): what any pattern of any format says. Contracts of the document's Open (package grottoref02) at finite numbers: the fraction and the exponent that a pattern says. -/
import Derived.Test.YtnjgknklcfdjlaaQ2a
import Derived.Deep.RegionHeld3
namespace Go.Proofs.Ytnjgknklcfdjlaa
open Go.RowKit
set_option maxHeartbeats 1000000

theorem power_any (n : Nat) (w : World) (hn : n ≤ 63) :
    Calls Try.prog 14 #[.int .i64 n] w fun e w' => e = .returned (.int .u64 (p2 n)) ∧ w' = w := by
  go_enter Try.func14, Try.ntmps14
  go_wp2
  go_loop [3, 4] (fun x i => ∃ k : Nat, k ≤ n ∧ i = .int .i64 k ∧ x = .int .u64 (p2 k)) (fun _ i => n - (intOf i).toNat)
  case atStart => exact ⟨0, Nat.zero_le _, rfl, rfl⟩
  case round =>
    obtain ⟨k, hk, rfl, rfl⟩ := hrel
    by_cases hlt : (k : Int) < (n : Int)
    · have h1 := p2_pos k
      have h2 : p2 (k + 1) ≤ 9223372036854775808 := p2_le63 (by omega)
      have h3 := hidden (p2_succ k)
      have h4 : 2 * p2 k ≤ 9223372036854775808 := by rw [← h3.out]; exact h2
      clear h2
      generalize p2 k = P at *
      go_wp2
      go_round
      case rel => exact ⟨k + 1, by omega, by go_num, by rw [h3.out]⟩
      case measure => simp [intOf]; omega
    · obtain rfl : k = n := by omega
      go_wp2
      go_ret
      exact ⟨rfl, rfl⟩
theorem check_ok (m e : Int) (w : World) (h : okF m e) :
    Calls Try.prog 13 #[.agg #[.int .i64 m, .int .i64 e]] w fun r w' => r = .returned (.int .i64 0) ∧ w' = w.alloc (.cells #[.int .i64 m, .int .i64 e] 23) := by
  obtain ⟨h1, h2, h3, h4⟩ := h
  go_enter Try.func13, Try.ntmps13
  go_wp2
  go_ret
  exact ⟨rfl, rfl⟩
theorem check_no (m e : Int) (w : World) (h : ¬ okF m e) :
    Calls Try.prog 13 #[.agg #[.int .i64 m, .int .i64 e]] w fun r w' => r = .returned (.int .i64 1) ∧ w' = w.alloc (.cells #[.int .i64 m, .int .i64 e] 23) := by
  have hc : m < 2 ∨ (2 ≤ m ∧ 52 < m) ∨ (2 ≤ m ∧ m ≤ 52 ∧ e < 2) ∨ (2 ≤ m ∧ m ≤ 52 ∧ 2 ≤ e ∧ 11 < e) := by unfold okF at h; omega
  clear h
  rcases hc with h1 | ⟨h1, h2⟩ | ⟨h1, h2, h3⟩ | ⟨h1, h2, h3, h4⟩
  all_goals
    go_enter Try.func13, Try.ntmps13
    go_wp2
    go_ret
    exact ⟨rfl, rfl⟩
theorem bias_any (m e : Int) (w : World) (h : okF m e) :
    Calls Try.prog 16 #[.agg #[.int .i64 m, .int .i64 e]] w fun r w' => r = .returned (.int .i64 (bias e)) ∧ w' = w.alloc (.cells #[.int .i64 m, .int .i64 e] 23) := by
  obtain ⟨h1, h2, h3, h4⟩ := h
  have hb := bias_bd e h3 h4
  have hp : 0 < p2 (e - 1).toNat ∧ p2 (e - 1).toNat ≤ 1024 := by unfold bias at hb; omega
  have he : Hid (bias e = p2 (e - 1).toNat - 1) := hidden rfl
  have hC : Hid (∀ w, Calls Try.prog 14 #[.int .i64 (e - 1)] w fun r w' => r = .returned (.int .u64 (p2 (e - 1).toNat)) ∧ w' = w) := hidden fun w => by
    have := power_any (e - 1).toNat w (by omega)
    rwa [show (((e - 1).toNat : Nat) : Int) = e - 1 by omega] at this
  generalize p2 (e - 1).toNat = P at *
  go_enter Try.func16, Try.ntmps16
  go_wp2_with (go_at_call 14; refine (hC.out _).mono ?_; rintro r w1 ⟨rfl, hw⟩; obtain rfl := hw.symm)
  go_ret
  exact ⟨ret_int he.out.symm, rfl⟩
theorem least_any (m e : Int) (w : World) (h : okF m e) :
    Calls Try.prog 15 #[.agg #[.int .i64 m, .int .i64 e]] w fun r w' => r = .returned (.int .i64 (least m e)) ∧ w' = ((w.alloc (.cells #[.int .i64 m, .int .i64 e] 23)).alloc (.cells #[.int .i64 m, .int .i64 e] 23)).drew := by
  have h0 := h
  obtain ⟨h1, h2, h3, h4⟩ := h
  have hb := bias_bd e h3 h4
  have he : Hid (least m e = 1 - bias e - m) := hidden rfl
  have HB := hidden (fun w => bias_any m e w h0)
  clear h0
  go_enter Try.func15, Try.ntmps15
  go_wp2_with fail
  go_region_held3 (fun w' => w'.cell? ⟨w.heap.size, 0, none⟩ = some (.int .i64 m) ∧ w'.cell? ⟨w.heap.size, 1, none⟩ = some (.int .i64 e)) (go_keep) (first | (go_at_call 16; refine (HB.out _).mono ?_; rintro r w1 ⟨rfl, hw⟩; subst hw))
  all_goals
    go_wp2
    go_ret
    refine ⟨ret_int ?_, rfl⟩
    rw [he.out, wrapi (1 - bias e) (by omega) (by omega), wrapi _ (by omega) (by omega)]
end Go.Proofs.Ytnjgknklcfdjlaa
namespace Go.Proofs.Ytnjgknklcfdjlaa
open Go.RowKit
set_option maxHeartbeats 400000

end Go.Proofs.Ytnjgknklcfdjlaa
namespace Go.Proofs.Ytnjgknklcfdjlaa
open Go.RowKit
set_option maxHeartbeats 400000

theorem ropen_no (m e x : Int) (w : World) (h : ¬ okF m e) :
    Calls Try.prog 4 #[.agg #[.int .i64 m, .int .i64 e], .int .u64 x] w fun r w' => r = .returned (.tuple #[partsV 0 false 0 0, .int .i64 1]) ∧ Below w.heap.size w w' := by
  have HC := hidden (fun w => check_no m e w h)
  clear h
  go_enter Try.func4, Try.ntmps4
  go_wp2_with fail
  refine (HC.out _).mono ?_
  rintro r w1 ⟨rfl, hw⟩
  subst hw
  go_wp2
  refine bodyPost_ret (v := .tuple #[partsV 0 false 0 0, .int .i64 1]) (by simp [results, Try.results4, go_sem]) rfl ⟨rfl, ?_⟩
  exact (below_two _ _ _).alloc (by simp; omega) _
theorem ropen_big (m e : Nat) (x PM PE : Int) (w : World) (h : okF m e) (x0 : 0 ≤ x) (x1 : x ≤ 18446744073709551615) (hm : p2 m = PM) (he : p2 e = PE) (hb : 1 < x / PM / PE) :
    Calls Try.prog 4 #[.agg #[.int .i64 m, .int .i64 e], .int .u64 x] w fun r w' => r = .returned (.tuple #[partsV 0 false 0 0, .int .i64 1]) ∧ Below w.heap.size w w' := by
  have h0 := h
  obtain ⟨h1, h2, h3, h4⟩ := h0
  have HC := hidden (fun w => check_ok m e w h)
  have HM := hidden (fun w => power_any m w (by omega))
  have HE := hidden (fun w => power_any e w (by omega))
  have hpm := p2_pos m
  have hpe := p2_pos e
  rw [hm] at HM hpm
  rw [he] at HE hpe
  clear hm he h
  have q0 : 0 ≤ x / PM := Int.ediv_nonneg x0 (by omega)
  have q1 : x / PM ≤ 18446744073709551615 := Int.le_trans (Int.ediv_le_self _ x0) x1
  go_enter Try.func4, Try.ntmps4
  go_wp2_with fail
  refine (HC.out _).mono ?_
  rintro r w1 ⟨rfl, hw⟩
  subst hw
  go_wp2_with (first | (go_at_call_of 14 (Value.int IntKind.i64 (m : Int)); refine (HM.out _).mono ?_; rintro r w1 ⟨rfl, hw⟩; subst hw) | (go_at_call_of 14 (Value.int IntKind.i64 (e : Int)); refine (HE.out _).mono ?_; rintro r w1 ⟨rfl, hw⟩; subst hw))
  refine bodyPost_ret (v := .tuple #[partsV 0 false 0 0, .int .i64 1]) (by simp [results, Try.results4, go_sem]) rfl ⟨rfl, ?_⟩
  exact (below_two _ _ _).alloc (by simp; omega) _
theorem ropen_inf (m e : Nat) (x PM PE : Int) (w : World) (h : okF m e) (x0 : 0 ≤ x) (x1 : x ≤ 18446744073709551615) (hm : p2 m = PM) (he : p2 e = PE) (hb : x / PM / PE ≤ 1) (h5 : (x / PM % PE == PE - 1) = true) (h6 : (x % PM == 0) = true) :
    Calls Try.prog 4 #[.agg #[.int .i64 m, .int .i64 e], .int .u64 x] w fun r w' => r = .returned (.tuple #[partsV 3 (x / PM / PE == 1) 0 0, .int .i64 0]) ∧ Below w.heap.size w w' := by
  have h0 := h
  obtain ⟨h1, h2, h3, h4⟩ := h0
  have HC := hidden (fun w => check_ok m e w h)
  have HM := hidden (fun w => power_any m w (by omega))
  have HE := hidden (fun w => power_any e w (by omega))
  have HB := hidden (fun w => bias_any m e w h)
  have HL := hidden (fun w => least_any m e w h)
  have hbb := bias_bd e h3 h4
  have hpm := p2_pos m
  have hpe := p2_pos e
  have hm52 : p2 m ≤ 4503599627370496 := by rw [← p2_52]; exact p2_mono (by omega)
  have he11 : p2 e ≤ 2048 := by rw [← p2_11]; exact p2_mono (by omega)
  rw [hm] at HM hpm hm52
  rw [he] at HE hpe he11
  clear hm he h
  have q0 : 0 ≤ x / PM := Int.ediv_nonneg x0 (by omega)
  have q1 : x / PM ≤ 18446744073709551615 := Int.le_trans (Int.ediv_le_self _ x0) x1
  have q2 := Int.emod_nonneg x (show PM ≠ 0 by omega)
  have q3 := Int.emod_lt_of_pos x hpm
  have q4 := Int.emod_nonneg (x / PM) (show PE ≠ 0 by omega)
  have q5 := Int.emod_lt_of_pos (x / PM) hpe
  have q6 : 0 ≤ x / PM / PE := Int.ediv_nonneg q0 (by omega)
  go_enter Try.func4, Try.ntmps4
  go_wp2_with fail
  refine (HC.out _).mono ?_
  rintro r w1 ⟨rfl, hw⟩
  subst hw
  go_wp2_with (first | (go_at_call_of 14 (Value.int IntKind.i64 (m : Int)); refine (HM.out _).mono ?_; rintro r w1 ⟨rfl, hw⟩; subst hw) | (go_at_call_of 14 (Value.int IntKind.i64 (e : Int)); refine (HE.out _).mono ?_; rintro r w1 ⟨rfl, hw⟩; subst hw))
  refine bodyPost_ret (v := .tuple #[partsV 3 (x / PM / PE == 1) 0 0, .int .i64 0]) (by simp [results, Try.results4, go_sem]) rfl ⟨rfl, ?_⟩
  exact ((below_two _ _ _).alloc (by simp; omega) _).alloc (by simp; omega) _
theorem ropen_nan (m e : Nat) (x PM PE : Int) (w : World) (h : okF m e) (x0 : 0 ≤ x) (x1 : x ≤ 18446744073709551615) (hm : p2 m = PM) (he : p2 e = PE) (hb : x / PM / PE ≤ 1) (h5 : (x / PM % PE == PE - 1) = true) (h6 : (x % PM == 0) = false) :
    Calls Try.prog 4 #[.agg #[.int .i64 m, .int .i64 e], .int .u64 x] w fun r w' => r = .returned (.tuple #[partsV 4 (x / PM / PE == 1) 0 0, .int .i64 0]) ∧ Below w.heap.size w w' := by
  have h0 := h
  obtain ⟨h1, h2, h3, h4⟩ := h0
  have HC := hidden (fun w => check_ok m e w h)
  have HM := hidden (fun w => power_any m w (by omega))
  have HE := hidden (fun w => power_any e w (by omega))
  have HB := hidden (fun w => bias_any m e w h)
  have HL := hidden (fun w => least_any m e w h)
  have hbb := bias_bd e h3 h4
  have hpm := p2_pos m
  have hpe := p2_pos e
  have hm52 : p2 m ≤ 4503599627370496 := by rw [← p2_52]; exact p2_mono (by omega)
  have he11 : p2 e ≤ 2048 := by rw [← p2_11]; exact p2_mono (by omega)
  rw [hm] at HM hpm hm52
  rw [he] at HE hpe he11
  clear hm he h
  have q0 : 0 ≤ x / PM := Int.ediv_nonneg x0 (by omega)
  have q1 : x / PM ≤ 18446744073709551615 := Int.le_trans (Int.ediv_le_self _ x0) x1
  have q2 := Int.emod_nonneg x (show PM ≠ 0 by omega)
  have q3 := Int.emod_lt_of_pos x hpm
  have q4 := Int.emod_nonneg (x / PM) (show PE ≠ 0 by omega)
  have q5 := Int.emod_lt_of_pos (x / PM) hpe
  have q6 : 0 ≤ x / PM / PE := Int.ediv_nonneg q0 (by omega)
  go_enter Try.func4, Try.ntmps4
  go_wp2_with fail
  refine (HC.out _).mono ?_
  rintro r w1 ⟨rfl, hw⟩
  subst hw
  go_wp2_with (first | (go_at_call_of 14 (Value.int IntKind.i64 (m : Int)); refine (HM.out _).mono ?_; rintro r w1 ⟨rfl, hw⟩; subst hw) | (go_at_call_of 14 (Value.int IntKind.i64 (e : Int)); refine (HE.out _).mono ?_; rintro r w1 ⟨rfl, hw⟩; subst hw))
  refine bodyPost_ret (v := .tuple #[partsV 4 (x / PM / PE == 1) 0 0, .int .i64 0]) (by simp [results, Try.results4, go_sem]) rfl ⟨rfl, ?_⟩
  exact ((below_two _ _ _).alloc (by simp; omega) _).alloc (by simp; omega) _
theorem ropen_zero (m e : Nat) (x PM PE : Int) (w : World) (h : okF m e) (x0 : 0 ≤ x) (x1 : x ≤ 18446744073709551615) (hm : p2 m = PM) (he : p2 e = PE) (hb : x / PM / PE ≤ 1) (h5 : (x / PM % PE == PE - 1) = false) (h6 : (x % PM == 0) = true) (h7 : (x / PM % PE == 0) = true) :
    Calls Try.prog 4 #[.agg #[.int .i64 m, .int .i64 e], .int .u64 x] w fun r w' => r = .returned (.tuple #[partsV 1 (x / PM / PE == 1) 0 0, .int .i64 0]) ∧ Below w.heap.size w w' := by
  have h0 := h
  obtain ⟨h1, h2, h3, h4⟩ := h0
  have HC := hidden (fun w => check_ok m e w h)
  have HM := hidden (fun w => power_any m w (by omega))
  have HE := hidden (fun w => power_any e w (by omega))
  have HB := hidden (fun w => bias_any m e w h)
  have HL := hidden (fun w => least_any m e w h)
  have hbb := bias_bd e h3 h4
  have hpm := p2_pos m
  have hpe := p2_pos e
  have hm52 : p2 m ≤ 4503599627370496 := by rw [← p2_52]; exact p2_mono (by omega)
  have he11 : p2 e ≤ 2048 := by rw [← p2_11]; exact p2_mono (by omega)
  rw [hm] at HM hpm hm52
  rw [he] at HE hpe he11
  clear hm he h
  have q0 : 0 ≤ x / PM := Int.ediv_nonneg x0 (by omega)
  have q1 : x / PM ≤ 18446744073709551615 := Int.le_trans (Int.ediv_le_self _ x0) x1
  have q2 := Int.emod_nonneg x (show PM ≠ 0 by omega)
  have q3 := Int.emod_lt_of_pos x hpm
  have q4 := Int.emod_nonneg (x / PM) (show PE ≠ 0 by omega)
  have q5 := Int.emod_lt_of_pos (x / PM) hpe
  have q6 : 0 ≤ x / PM / PE := Int.ediv_nonneg q0 (by omega)
  go_enter Try.func4, Try.ntmps4
  go_wp2_with fail
  refine (HC.out _).mono ?_
  rintro r w1 ⟨rfl, hw⟩
  subst hw
  go_wp2_with (first | (go_at_call_of 14 (Value.int IntKind.i64 (m : Int)); refine (HM.out _).mono ?_; rintro r w1 ⟨rfl, hw⟩; subst hw) | (go_at_call_of 14 (Value.int IntKind.i64 (e : Int)); refine (HE.out _).mono ?_; rintro r w1 ⟨rfl, hw⟩; subst hw))
  refine bodyPost_ret (v := .tuple #[partsV 1 (x / PM / PE == 1) 0 0, .int .i64 0]) (by simp [results, Try.results4, go_sem]) rfl ⟨rfl, ?_⟩
  exact ((below_two _ _ _).alloc (by simp; omega) _).alloc (by simp; omega) _
end Go.Proofs.Ytnjgknklcfdjlaa
namespace Go.Proofs.Ytnjgknklcfdjlaa
open Go.RowKit
set_option maxHeartbeats 1000000

theorem ropen_sub (m e : Nat) (x PM PE : Int) (w : World) (h : okF m e) (x0 : 0 ≤ x) (x1 : x ≤ 18446744073709551615) (hm : p2 m = PM) (he : p2 e = PE) (hb : x / PM / PE ≤ 1) (h5 : (x / PM % PE == PE - 1) = false) (h6 : (x % PM == 0) = false) (h7 : (x / PM % PE == 0) = true) :
    Calls Try.prog 4 #[.agg #[.int .i64 m, .int .i64 e], .int .u64 x] w fun r w' => r = .returned (.tuple #[partsV 2 (x / PM / PE == 1) (least m e) (x % PM), .int .i64 0]) ∧ Below w.heap.size w w' := by
  have h0 := h
  obtain ⟨h1, h2, h3, h4⟩ := h0
  have HC := hidden (fun w => check_ok m e w h)
  have HM := hidden (fun w => power_any m w (by omega))
  have HE := hidden (fun w => power_any e w (by omega))
  have HB := hidden (fun w => bias_any m e w h)
  have HL := hidden (fun w => least_any m e w h)
  have hbb := bias_bd e h3 h4
  have hpm := p2_pos m
  have hpe := p2_pos e
  have hm52 : p2 m ≤ 4503599627370496 := by rw [← p2_52]; exact p2_mono (by omega)
  have he11 : p2 e ≤ 2048 := by rw [← p2_11]; exact p2_mono (by omega)
  rw [hm] at HM hpm hm52
  rw [he] at HE hpe he11
  clear hm he h
  have q0 : 0 ≤ x / PM := Int.ediv_nonneg x0 (by omega)
  have q1 : x / PM ≤ 18446744073709551615 := Int.le_trans (Int.ediv_le_self _ x0) x1
  have q2 := Int.emod_nonneg x (show PM ≠ 0 by omega)
  have q3 := Int.emod_lt_of_pos x hpm
  have q4 := Int.emod_nonneg (x / PM) (show PE ≠ 0 by omega)
  have q5 := Int.emod_lt_of_pos (x / PM) hpe
  have q6 : 0 ≤ x / PM / PE := Int.ediv_nonneg q0 (by omega)
  go_enter Try.func4, Try.ntmps4
  go_wp2_with fail
  refine (HC.out _).mono ?_
  rintro r w1 ⟨rfl, hw⟩
  subst hw
  go_wp2_with (first | (go_at_call_of 14 (Value.int IntKind.i64 (m : Int)); refine (HM.out _).mono ?_; rintro r w1 ⟨rfl, hw⟩; subst hw) | (go_at_call_of 14 (Value.int IntKind.i64 (e : Int)); refine (HE.out _).mono ?_; rintro r w1 ⟨rfl, hw⟩; subst hw) | (go_at_call 15; refine (HL.out _).mono ?_; rintro r w1 ⟨rfl, hw⟩; subst hw))
  refine bodyPost_ret (v := .tuple #[partsV 2 (x / PM / PE == 1) (least m e) (x % PM), .int .i64 0]) (by simp [results, Try.results4, go_sem]) rfl ⟨rfl, ?_⟩
  repeat (first | exact Below.refl _ _ | apply Below.drew | (refine Below.alloc ?_ (by simp; try omega) _))
theorem ropen_fin (m e : Nat) (x PM PE : Int) (w : World) (h : okF m e) (x0 : 0 ≤ x) (x1 : x ≤ 18446744073709551615) (hm : p2 m = PM) (he : p2 e = PE) (hb : x / PM / PE ≤ 1) (h5 : (x / PM % PE == PE - 1) = false) (h7 : (x / PM % PE == 0) = false) :
    Calls Try.prog 4 #[.agg #[.int .i64 m, .int .i64 e], .int .u64 x] w fun r w' => r = .returned (.tuple #[partsV 2 (x / PM / PE == 1) (x / PM % PE - bias e - m) (PM + x % PM), .int .i64 0]) ∧ Below w.heap.size w w' := by
  have h0 := h
  obtain ⟨h1, h2, h3, h4⟩ := h0
  have HC := hidden (fun w => check_ok m e w h)
  have HM := hidden (fun w => power_any m w (by omega))
  have HE := hidden (fun w => power_any e w (by omega))
  have HB := hidden (fun w => bias_any m e w h)
  have HL := hidden (fun w => least_any m e w h)
  have hbb := bias_bd e h3 h4
  have hpm := p2_pos m
  have hpe := p2_pos e
  have hm52 : p2 m ≤ 4503599627370496 := by rw [← p2_52]; exact p2_mono (by omega)
  have he11 : p2 e ≤ 2048 := by rw [← p2_11]; exact p2_mono (by omega)
  rw [hm] at HM hpm hm52
  rw [he] at HE hpe he11
  clear hm he h
  have q0 : 0 ≤ x / PM := Int.ediv_nonneg x0 (by omega)
  have q1 : x / PM ≤ 18446744073709551615 := Int.le_trans (Int.ediv_le_self _ x0) x1
  have q2 := Int.emod_nonneg x (show PM ≠ 0 by omega)
  have q3 := Int.emod_lt_of_pos x hpm
  have q4 := Int.emod_nonneg (x / PM) (show PE ≠ 0 by omega)
  have q5 := Int.emod_lt_of_pos (x / PM) hpe
  have q6 : 0 ≤ x / PM / PE := Int.ediv_nonneg q0 (by omega)
  go_enter Try.func4, Try.ntmps4
  go_wp2_with fail
  refine (HC.out _).mono ?_
  rintro r w1 ⟨rfl, hw⟩
  subst hw
  go_wp2_with (first | (go_at_call_of 14 (Value.int IntKind.i64 (m : Int)); refine (HM.out _).mono ?_; rintro r w1 ⟨rfl, hw⟩; subst hw) | (go_at_call_of 14 (Value.int IntKind.i64 (e : Int)); refine (HE.out _).mono ?_; rintro r w1 ⟨rfl, hw⟩; subst hw))
  have bl3 : ∀ o1 o2 o3, Below (w.alloc (.cells #[.int .i64 (m : Int), .int .i64 (e : Int)] 23)).heap.size (w.alloc (.cells #[.int .i64 (m : Int), .int .i64 (e : Int)] 23)) ((((w.alloc (.cells #[.int .i64 (m : Int), .int .i64 (e : Int)] 23)).alloc o1).alloc o2).alloc o3) := fun o1 o2 o3 => (((Below.refl _ _).alloc (Nat.le_refl _) _).alloc (by simp) _).alloc (by simp) _
  have bl4 : ∀ o1 o2 o3 o4, Below (w.alloc (.cells #[.int .i64 (m : Int), .int .i64 (e : Int)] 23)).heap.size (w.alloc (.cells #[.int .i64 (m : Int), .int .i64 (e : Int)] 23)) (((((w.alloc (.cells #[.int .i64 (m : Int), .int .i64 (e : Int)] 23)).alloc o1).alloc o2).alloc o3).alloc o4) := fun o1 o2 o3 o4 => (bl3 o1 o2 o3).alloc (by simp) _
  have k30 : ∀ o1 o2 o3, ((((w.alloc (.cells #[.int .i64 (m : Int), .int .i64 (e : Int)] 23)).alloc o1).alloc o2).alloc o3).cell? ⟨w.heap.size, 0, none⟩ = some (.int .i64 (m : Int)) := fun o1 o2 o3 => cellLater (bl3 o1 o2 o3) (by simp)
  have k31 : ∀ o1 o2 o3, ((((w.alloc (.cells #[.int .i64 (m : Int), .int .i64 (e : Int)] 23)).alloc o1).alloc o2).alloc o3).cell? ⟨w.heap.size, 1, none⟩ = some (.int .i64 (e : Int)) := fun o1 o2 o3 => cellLater (bl3 o1 o2 o3) (by simp)
  have k40 : ∀ o1 o2 o3 o4, (((((w.alloc (.cells #[.int .i64 (m : Int), .int .i64 (e : Int)] 23)).alloc o1).alloc o2).alloc o3).alloc o4).cell? ⟨w.heap.size, 0, none⟩ = some (.int .i64 (m : Int)) := fun o1 o2 o3 o4 => cellLater (bl4 o1 o2 o3 o4) (by simp)
  have k41 : ∀ o1 o2 o3 o4, (((((w.alloc (.cells #[.int .i64 (m : Int), .int .i64 (e : Int)] 23)).alloc o1).alloc o2).alloc o3).alloc o4).cell? ⟨w.heap.size, 1, none⟩ = some (.int .i64 (e : Int)) := fun o1 o2 o3 o4 => cellLater (bl4 o1 o2 o3 o4) (by simp)
  clear bl3 bl4
  go_region_held3 (fun w' => w'.cell? ⟨w.heap.size, 0, none⟩ = some (.int .i64 m) ∧ w'.cell? ⟨w.heap.size, 1, none⟩ = some (.int .i64 e)) (first | go_keep | exact ⟨k40 _ _ _ _, k41 _ _ _ _⟩ | exact ⟨k30 _ _ _, k31 _ _ _⟩) (first | (go_at_call_of 14 (Value.int IntKind.i64 (m : Int)); refine (HM.out _).mono ?_; rintro r w1 ⟨rfl, hw⟩; subst hw) | (go_at_call 16; refine (HB.out _).mono ?_; rintro r w1 ⟨rfl, hw⟩; subst hw))
  all_goals
    go_wp2
    refine bodyPost_ret (v := .tuple #[partsV 2 (x / PM / PE == 1) (x / PM % PE - bias e - m) (PM + x % PM), .int .i64 0]) (by simp [results, Try.results4, go_sem]) rfl ⟨rfl, ?_⟩
    repeat (first | exact Below.refl _ _ | apply Below.drew | (refine Below.alloc ?_ (by simp; try omega) _))
end Go.Proofs.Ytnjgknklcfdjlaa
