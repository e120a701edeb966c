/- Contracts of package round's small functions: what a format has. -/
import Derived.Test.YthfjjkikeebopaaDoorQ2c
import Derived.Deep.QuietTactic
import Derived.BigQuiet
namespace Go.Proofs.YthfjjkikeebopaaDoor
open Go.RowKit
set_option maxHeartbeats 1000000
set_option linter.unusedVariables false

abbrev fmt (m x : Nat) : Obj := .cells #[.int .i64 m, .int .i64 x] 36
abbrev fmtV (m x : Nat) : Value := .agg #[.int .i64 m, .int .i64 x]
theorem pcheck_ok (m e : Int) (w : World) (h : okF m e) :
    Calls Tryd.prog 44 #[.agg #[.int .i64 m, .int .i64 e]] w fun r w' => r = .returned (.int .i64 0) ∧ w' = w.alloc (.cells #[.int .i64 m, .int .i64 e] 36) := by
  obtain ⟨h1, h2, h3, h4⟩ := h
  go_enter Tryd.func44, Tryd.ntmps44
  go_wp2
  go_ret
  exact ⟨rfl, rfl⟩
theorem pcheck_no (m e : Int) (w : World) (h : ¬ okF m e) :
    Calls Tryd.prog 44 #[.agg #[.int .i64 m, .int .i64 e]] w fun r w' => r = .returned (.int .i64 1) ∧ w' = w.alloc (.cells #[.int .i64 m, .int .i64 e] 36) := by
  have hc : m < 2 ∨ (2 ≤ m ∧ 52 < m) ∨ (2 ≤ m ∧ m ≤ 52 ∧ e < 2) ∨ (2 ≤ m ∧ m ≤ 52 ∧ 2 ≤ e ∧ 11 < e) := by unfold okF at h; omega
  clear h
  rcases hc with h1 | ⟨h1, h2⟩ | ⟨h1, h2, h3⟩ | ⟨h1, h2, h3, h4⟩
  all_goals
    go_enter Tryd.func44, Tryd.ntmps44
    go_wp2
    go_ret
    exact ⟨rfl, rfl⟩
theorem pbias_any (m x : Nat) (w : World) (h : okF m x) :
    Calls Tryd.prog 55 #[fmtV m x] w fun r w' => r = .returned (.int .i64 (bias x)) ∧ w' = w.alloc (fmt m x) := by
  obtain ⟨h1, h2, h3, h4⟩ := h
  have hb := hidden (bias_bd x h3 h4)
  go_enter Tryd.func55, Tryd.ntmps55
  go_wp2
  go_ret
  refine ⟨ret_int ?_, rfl⟩
  have hp : (2 : Int) ^ (x - 1) = bias x + 1 := by unfold bias p2; rw [show ((x : Int) - 1).toNat = x - 1 by omega]; omega
  have := hb.out
  rw [hp]
  unfold wrap64
  omega
theorem ptop_any (m x : Nat) (w : World) (h : okF m x) :
    Calls Tryd.prog 49 #[fmtV m x] w fun r w' => r = .returned (.int .u64 (p2 x - 1)) ∧ w' = w.alloc (fmt m x) := by
  obtain ⟨h1, h2, h3, h4⟩ := h
  have hb : Hid (0 < p2 x ∧ p2 x < 18446744073709551616) := hidden ⟨p2_pos _, p2_lt64 (by omega)⟩
  go_enter Tryd.func49, Tryd.ntmps49
  go_wp2
  go_ret
  refine ⟨ret_int ?_, rfl⟩
  have := hb.out
  show IntKind.u64.wrap (IntKind.u64.wrap (p2 x) - 1) = _
  rw [IntKind.wrap_u64, IntKind.wrap_u64]
  omega
theorem phidden_any (m x : Nat) (w : World) (h : okF m x) :
    Calls Tryd.prog 50 #[fmtV m x] w fun r w' => r = .returned (.int .u64 (p2 m)) ∧ w' = w.alloc (fmt m x) := by
  obtain ⟨h1, h2, h3, h4⟩ := h
  have hb : Hid (0 < p2 m ∧ p2 m < 18446744073709551616) := hidden ⟨p2_pos _, p2_lt64 (by omega)⟩
  go_enter Tryd.func50, Tryd.ntmps50
  go_wp2
  go_ret
  refine ⟨ret_int ?_, rfl⟩
  have := hb.out
  show IntKind.u64.wrap (p2 m) = _
  rw [IntKind.wrap_u64]
  omega
theorem psign_any (m x : Nat) (w : World) (h : okF m x) :
    Calls Tryd.prog 61 #[fmtV m x] w fun r w' => r = .returned (.int .u64 (p2 (m + x))) ∧ w' = w.alloc (fmt m x) := by
  obtain ⟨h1, h2, h3, h4⟩ := h
  have hb : Hid (0 < p2 (m + x) ∧ p2 (m + x) < 18446744073709551616) := hidden ⟨p2_pos _, p2_lt64 (by omega)⟩
  go_enter Tryd.func61, Tryd.ntmps61
  go_wp2
  go_ret
  refine ⟨ret_int ?_, rfl⟩
  have := hb.out
  show IntKind.u64.wrap (p2 (x + m)) = _
  rw [IntKind.wrap_u64, Nat.add_comm x m]
  omega
theorem pleast_any (m x : Nat) (w : World) (h : okF m x) :
    Calls Tryd.prog 56 #[fmtV m x] w fun r w' => r = .returned (.int .i64 (least m x)) ∧ w' = (al2 w (fmt m x)).drew := by
  have h0 := h
  obtain ⟨h1, h2, h3, h4⟩ := h
  have hb := bias_bd x h3 h4
  have he : Hid (least m x = 1 - bias x - m) := hidden rfl
  have HB := hidden (fun w => pbias_any m x w h0)
  clear h0
  go_enter Tryd.func56, Tryd.ntmps56
  go_wp2_with fail
  go_region_held3 (fun w' => w'.cell? ⟨w.heap.size, 0, none⟩ = some (.int .i64 m) ∧ w'.cell? ⟨w.heap.size, 1, none⟩ = some (.int .i64 x)) (go_keep) (first | (go_at_call 55; refine (HB.out _).mono ?_; rintro r w1 ⟨rfl, hw⟩; subst hw))
  all_goals
    go_wp2
    go_ret
    refine ⟨ret_int ?_, rfl⟩
    rw [he.out, wrapi (1 - bias x) (by omega) (by omega), wrapi _ (by omega) (by omega)]
theorem pwith_no (m x : Nat) (p : Int) (w : World) :
    Calls Tryd.prog 51 #[fmtV m x, .bool false, .int .u64 p] w fun r w' => r = .returned (.int .u64 p) ∧ w' = w.alloc (fmt m x) := by
  go_enter Tryd.func51, Tryd.ntmps51
  go_wp2
  go_ret
  exact ⟨rfl, rfl⟩
theorem pwith_neg (m x : Nat) (p : Int) (w : World) (h : okF m x) (p0 : 0 ≤ p) (p1 : p < p2 (m + x)) :
    Calls Tryd.prog 51 #[fmtV m x, .bool true, .int .u64 p] w fun r w' => r = .returned (.int .u64 (p + p2 (m + x))) ∧ w' = al2 w (fmt m x) := by
  have HB := hidden (fun w => psign_any m x w h)
  have hq : p2 (m + x) < 18446744073709551616 := p2_lt64 (by obtain ⟨h1, h2, h3, h4⟩ := h; omega)
  have hor : Hid (bits .or .u64 p (p2 (m + x)) = p + p2 (m + x)) := hidden (by
    have hc : bits .or .u64 p (p2 (m + x)) = bits .or .u64 (p2 (m + x)) p := by
      rw [u64_or _ _ p0 (by omega) (Int.le_of_lt (p2_pos _)) hq, u64_or _ _ (Int.le_of_lt (p2_pos _)) hq p0 (by omega), Nat.or_comm]
    rw [hc, or_join (m + x) _ _ (Int.le_of_lt (p2_pos _)) hq Int.emod_self p0 p1 (by omega), Int.add_comm])
  go_enter Tryd.func51, Tryd.ntmps51
  go_wp2_with (go_at_call 61; refine (HB.out _).mono ?_; rintro r w1 ⟨rfl, hw⟩; subst hw)
  go_ret
  exact ⟨ret_int hor.out, rfl⟩
theorem pwith_any (m x : Nat) (neg : Bool) (p : Int) (w : World) (h : okF m x) (p0 : 0 ≤ p) (p1 : p < p2 (m + x)) :
    Calls Tryd.prog 51 #[fmtV m x, .bool neg, .int .u64 p] w fun r w' => r = .returned (.int .u64 (p + sgnW neg (m + x))) ∧ Below w.heap.size w w' := by
  cases neg
  · refine (pwith_no m x p w).mono ?_
    rintro r w1 ⟨rfl, rfl⟩
    exact ⟨ret_int (by simp [sgnW]), (Below.refl _ _).alloc (Nat.le_refl _) _⟩
  · refine (pwith_neg m x p w h p0 p1).mono ?_
    rintro r w1 ⟨rfl, rfl⟩
    exact ⟨ret_int (by simp [sgnW]), ((Below.refl _ _).alloc (Nat.le_refl _) _).alloc (by simp) _⟩
/-! ### two words -/
theorem pshl_any (N hi lo : Int) (n : Nat) (w : World) (hN : hi * 18446744073709551616 + lo = N) (a0 : 0 ≤ hi) (a1 : hi ≤ 18446744073709551615) (b0 : 0 ≤ lo) (b1 : lo ≤ 18446744073709551615) (hn : (n : Int) ≤ 100000) :
    Calls Tryd.prog 66 #[.int .u64 hi, .int .u64 lo, .int .i64 n] w fun r w' => r = .returned (.tuple #[.int .u64 (hiW (N * p2 n)), .int .u64 (loW (N * p2 n))]) ∧ ∃ q, w' = w.drewN q := by
  subst hN
  by_cases hc : 64 ≤ n
  · have H := hidden (shl_big hi lo n hc)
    go_enter Tryd.func66, Tryd.ntmps66
    go_wp2
    go_ret2
    refine ⟨?_, 0, rfl⟩
    rw [H.out.1, H.out.2, IntKind.wrap_u64]
    rfl
  · have H := hidden (shl_small hi lo n (by omega) b0 b1)
    go_enter Tryd.func66, Tryd.ntmps66
    go_wp2
    go_quiet (fail)
    go_wp2
    go_ret2
    refine ⟨?_, _, rfl⟩
    rw [← H.out.1, ← H.out.2]
    rfl
theorem pshr_any (N hi lo : Int) (n : Nat) (w : World) (hN : hi * 18446744073709551616 + lo = N) (a0 : 0 ≤ hi) (a1 : hi ≤ 18446744073709551615) (b0 : 0 ≤ lo) (b1 : lo ≤ 18446744073709551615) (hn : (n : Int) ≤ 100000) :
    Calls Tryd.prog 67 #[.int .u64 hi, .int .u64 lo, .int .i64 n] w fun r w' => r = .returned (.tuple #[.int .u64 (hiW (N / p2 n)), .int .u64 (loW (N / p2 n))]) ∧ ∃ q, w' = w.drewN q := by
  subst hN
  by_cases hc : 64 ≤ n
  · have H := hidden (shr_big hi lo n hc a0 a1 b0 b1)
    go_enter Tryd.func67, Tryd.ntmps67
    go_wp2
    go_quiet (fail)
    go_wp2
    go_ret2
    refine ⟨?_, _, rfl⟩
    rw [H.out.1, H.out.2]
    rfl
  · have H := hidden (shr_small hi lo n (by omega) a0 a1 b0 b1)
    go_enter Tryd.func67, Tryd.ntmps67
    go_wp2
    go_quiet (fail)
    go_wp2
    go_ret2
    refine ⟨?_, _, rfl⟩
    rw [← H.out.1, ← H.out.2]
    rfl
end Go.Proofs.YthfjjkikeebopaaDoor
