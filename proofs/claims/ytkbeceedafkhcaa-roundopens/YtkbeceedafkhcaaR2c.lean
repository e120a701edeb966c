/- Contracts of the document's Open (package grottoref02): what any pattern of any format says. -/
import Derived.Test.YtkbeceedafkhcaaR2b
namespace Go.Proofs.Ytkbeceedafkhcaa
open Go.RowKit
set_option maxHeartbeats 400000

theorem ropen_no (m e x : Int) (w : World) (h : ¬ okF m e) :
    Calls Try.prog 10 #[.agg #[.int .i64 m, .int .i64 e], .int .u64 x] w fun r w' => r = .returned (.tuple #[partsV 0 false 0 0, .int .i64 1]) ∧ Below w.heap.size w w' := by
  have HC := hidden (fun w => check_no m e w h)
  clear h
  go_enter Try.func10, Try.ntmps10
  go_wp2_with fail
  refine (HC.out _).mono ?_
  rintro r w1 ⟨rfl, hw⟩
  subst hw
  go_wp2
  refine bodyPost_ret (v := .tuple #[partsV 0 false 0 0, .int .i64 1]) (by simp [results, Try.results10, go_sem]) rfl ⟨rfl, ?_⟩
  exact (below_two _ _ _).alloc (by simp; omega) _
theorem ropen_big (m e : Nat) (x PM PE : Int) (w : World) (h : okF m e) (x0 : 0 ≤ x) (x1 : x ≤ 18446744073709551615) (hm : p2 m = PM) (he : p2 e = PE) (hb : 1 < x / PM / PE) :
    Calls Try.prog 10 #[.agg #[.int .i64 m, .int .i64 e], .int .u64 x] w fun r w' => r = .returned (.tuple #[partsV 0 false 0 0, .int .i64 1]) ∧ Below w.heap.size w w' := by
  have h0 := h
  obtain ⟨h1, h2, h3, h4⟩ := h0
  have HC := hidden (fun w => check_ok m e w h)
  have HM := hidden (fun w => power_any m w (by omega))
  have HE := hidden (fun w => power_any e w (by omega))
  have hpm := p2_pos m
  have hpe := p2_pos e
  rw [hm] at HM hpm
  rw [he] at HE hpe
  clear hm he h
  have q0 : 0 ≤ x / PM := Int.ediv_nonneg x0 (by omega)
  have q1 : x / PM ≤ 18446744073709551615 := Int.le_trans (Int.ediv_le_self _ x0) x1
  go_enter Try.func10, Try.ntmps10
  go_wp2_with fail
  refine (HC.out _).mono ?_
  rintro r w1 ⟨rfl, hw⟩
  subst hw
  go_wp2_with (first | (go_at_call_of 31 (Value.int IntKind.i64 (m : Int)); refine (HM.out _).mono ?_; rintro r w1 ⟨rfl, hw⟩; subst hw) | (go_at_call_of 31 (Value.int IntKind.i64 (e : Int)); refine (HE.out _).mono ?_; rintro r w1 ⟨rfl, hw⟩; subst hw))
  refine bodyPost_ret (v := .tuple #[partsV 0 false 0 0, .int .i64 1]) (by simp [results, Try.results10, go_sem]) rfl ⟨rfl, ?_⟩
  exact (below_two _ _ _).alloc (by simp; omega) _
theorem ropen_inf (m e : Nat) (x PM PE : Int) (w : World) (h : okF m e) (x0 : 0 ≤ x) (x1 : x ≤ 18446744073709551615) (hm : p2 m = PM) (he : p2 e = PE) (hb : x / PM / PE ≤ 1) (h5 : (x / PM % PE == PE - 1) = true) (h6 : (x % PM == 0) = true) :
    Calls Try.prog 10 #[.agg #[.int .i64 m, .int .i64 e], .int .u64 x] w fun r w' => r = .returned (.tuple #[partsV 3 (x / PM / PE == 1) 0 0, .int .i64 0]) ∧ Below w.heap.size w w' := by
  have h0 := h
  obtain ⟨h1, h2, h3, h4⟩ := h0
  have HC := hidden (fun w => check_ok m e w h)
  have HM := hidden (fun w => power_any m w (by omega))
  have HE := hidden (fun w => power_any e w (by omega))
  have HB := hidden (fun w => bias_any m e w h)
  have HL := hidden (fun w => least_any m e w h)
  have hbb := bias_bd e h3 h4
  have hpm := p2_pos m
  have hpe := p2_pos e
  have hm52 : p2 m ≤ 4503599627370496 := by rw [← p2_52]; exact p2_mono (by omega)
  have he11 : p2 e ≤ 2048 := by rw [← p2_11]; exact p2_mono (by omega)
  rw [hm] at HM hpm hm52
  rw [he] at HE hpe he11
  clear hm he h
  have q0 : 0 ≤ x / PM := Int.ediv_nonneg x0 (by omega)
  have q1 : x / PM ≤ 18446744073709551615 := Int.le_trans (Int.ediv_le_self _ x0) x1
  have q2 := Int.emod_nonneg x (show PM ≠ 0 by omega)
  have q3 := Int.emod_lt_of_pos x hpm
  have q4 := Int.emod_nonneg (x / PM) (show PE ≠ 0 by omega)
  have q5 := Int.emod_lt_of_pos (x / PM) hpe
  have q6 : 0 ≤ x / PM / PE := Int.ediv_nonneg q0 (by omega)
  go_enter Try.func10, Try.ntmps10
  go_wp2_with fail
  refine (HC.out _).mono ?_
  rintro r w1 ⟨rfl, hw⟩
  subst hw
  go_wp2_with (first | (go_at_call_of 31 (Value.int IntKind.i64 (m : Int)); refine (HM.out _).mono ?_; rintro r w1 ⟨rfl, hw⟩; subst hw) | (go_at_call_of 31 (Value.int IntKind.i64 (e : Int)); refine (HE.out _).mono ?_; rintro r w1 ⟨rfl, hw⟩; subst hw))
  refine bodyPost_ret (v := .tuple #[partsV 3 (x / PM / PE == 1) 0 0, .int .i64 0]) (by simp [results, Try.results10, go_sem]) rfl ⟨rfl, ?_⟩
  exact ((below_two _ _ _).alloc (by simp; omega) _).alloc (by simp; omega) _
theorem ropen_nan (m e : Nat) (x PM PE : Int) (w : World) (h : okF m e) (x0 : 0 ≤ x) (x1 : x ≤ 18446744073709551615) (hm : p2 m = PM) (he : p2 e = PE) (hb : x / PM / PE ≤ 1) (h5 : (x / PM % PE == PE - 1) = true) (h6 : (x % PM == 0) = false) :
    Calls Try.prog 10 #[.agg #[.int .i64 m, .int .i64 e], .int .u64 x] w fun r w' => r = .returned (.tuple #[partsV 4 (x / PM / PE == 1) 0 0, .int .i64 0]) ∧ Below w.heap.size w w' := by
  have h0 := h
  obtain ⟨h1, h2, h3, h4⟩ := h0
  have HC := hidden (fun w => check_ok m e w h)
  have HM := hidden (fun w => power_any m w (by omega))
  have HE := hidden (fun w => power_any e w (by omega))
  have HB := hidden (fun w => bias_any m e w h)
  have HL := hidden (fun w => least_any m e w h)
  have hbb := bias_bd e h3 h4
  have hpm := p2_pos m
  have hpe := p2_pos e
  have hm52 : p2 m ≤ 4503599627370496 := by rw [← p2_52]; exact p2_mono (by omega)
  have he11 : p2 e ≤ 2048 := by rw [← p2_11]; exact p2_mono (by omega)
  rw [hm] at HM hpm hm52
  rw [he] at HE hpe he11
  clear hm he h
  have q0 : 0 ≤ x / PM := Int.ediv_nonneg x0 (by omega)
  have q1 : x / PM ≤ 18446744073709551615 := Int.le_trans (Int.ediv_le_self _ x0) x1
  have q2 := Int.emod_nonneg x (show PM ≠ 0 by omega)
  have q3 := Int.emod_lt_of_pos x hpm
  have q4 := Int.emod_nonneg (x / PM) (show PE ≠ 0 by omega)
  have q5 := Int.emod_lt_of_pos (x / PM) hpe
  have q6 : 0 ≤ x / PM / PE := Int.ediv_nonneg q0 (by omega)
  go_enter Try.func10, Try.ntmps10
  go_wp2_with fail
  refine (HC.out _).mono ?_
  rintro r w1 ⟨rfl, hw⟩
  subst hw
  go_wp2_with (first | (go_at_call_of 31 (Value.int IntKind.i64 (m : Int)); refine (HM.out _).mono ?_; rintro r w1 ⟨rfl, hw⟩; subst hw) | (go_at_call_of 31 (Value.int IntKind.i64 (e : Int)); refine (HE.out _).mono ?_; rintro r w1 ⟨rfl, hw⟩; subst hw))
  refine bodyPost_ret (v := .tuple #[partsV 4 (x / PM / PE == 1) 0 0, .int .i64 0]) (by simp [results, Try.results10, go_sem]) rfl ⟨rfl, ?_⟩
  exact ((below_two _ _ _).alloc (by simp; omega) _).alloc (by simp; omega) _
theorem ropen_zero (m e : Nat) (x PM PE : Int) (w : World) (h : okF m e) (x0 : 0 ≤ x) (x1 : x ≤ 18446744073709551615) (hm : p2 m = PM) (he : p2 e = PE) (hb : x / PM / PE ≤ 1) (h5 : (x / PM % PE == PE - 1) = false) (h6 : (x % PM == 0) = true) (h7 : (x / PM % PE == 0) = true) :
    Calls Try.prog 10 #[.agg #[.int .i64 m, .int .i64 e], .int .u64 x] w fun r w' => r = .returned (.tuple #[partsV 1 (x / PM / PE == 1) 0 0, .int .i64 0]) ∧ Below w.heap.size w w' := by
  have h0 := h
  obtain ⟨h1, h2, h3, h4⟩ := h0
  have HC := hidden (fun w => check_ok m e w h)
  have HM := hidden (fun w => power_any m w (by omega))
  have HE := hidden (fun w => power_any e w (by omega))
  have HB := hidden (fun w => bias_any m e w h)
  have HL := hidden (fun w => least_any m e w h)
  have hbb := bias_bd e h3 h4
  have hpm := p2_pos m
  have hpe := p2_pos e
  have hm52 : p2 m ≤ 4503599627370496 := by rw [← p2_52]; exact p2_mono (by omega)
  have he11 : p2 e ≤ 2048 := by rw [← p2_11]; exact p2_mono (by omega)
  rw [hm] at HM hpm hm52
  rw [he] at HE hpe he11
  clear hm he h
  have q0 : 0 ≤ x / PM := Int.ediv_nonneg x0 (by omega)
  have q1 : x / PM ≤ 18446744073709551615 := Int.le_trans (Int.ediv_le_self _ x0) x1
  have q2 := Int.emod_nonneg x (show PM ≠ 0 by omega)
  have q3 := Int.emod_lt_of_pos x hpm
  have q4 := Int.emod_nonneg (x / PM) (show PE ≠ 0 by omega)
  have q5 := Int.emod_lt_of_pos (x / PM) hpe
  have q6 : 0 ≤ x / PM / PE := Int.ediv_nonneg q0 (by omega)
  go_enter Try.func10, Try.ntmps10
  go_wp2_with fail
  refine (HC.out _).mono ?_
  rintro r w1 ⟨rfl, hw⟩
  subst hw
  go_wp2_with (first | (go_at_call_of 31 (Value.int IntKind.i64 (m : Int)); refine (HM.out _).mono ?_; rintro r w1 ⟨rfl, hw⟩; subst hw) | (go_at_call_of 31 (Value.int IntKind.i64 (e : Int)); refine (HE.out _).mono ?_; rintro r w1 ⟨rfl, hw⟩; subst hw))
  refine bodyPost_ret (v := .tuple #[partsV 1 (x / PM / PE == 1) 0 0, .int .i64 0]) (by simp [results, Try.results10, go_sem]) rfl ⟨rfl, ?_⟩
  exact ((below_two _ _ _).alloc (by simp; omega) _).alloc (by simp; omega) _
end Go.Proofs.Ytkbeceedafkhcaa
