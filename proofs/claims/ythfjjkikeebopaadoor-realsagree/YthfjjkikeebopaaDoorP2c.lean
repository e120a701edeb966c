/- Contracts of package round's Zero and Inf. -/
import Derived.Test.YthfjjkikeebopaaDoorP2b
namespace Go.Proofs.YthfjjkikeebopaaDoor
open Go.RowKit
set_option maxHeartbeats 1000000
set_option linter.unusedVariables false

theorem pzero_no (m x : Int) (neg : Bool) (w : World) (h : ¬ okF m x) :
    Calls Tryd.prog 33 #[.agg #[.int .i64 m, .int .i64 x], .bool neg] w fun r w' => r = .returned (.int .u64 0) ∧ Below w.heap.size w w' := by
  have HC := hidden (fun w => pcheck_no m x w h)
  clear h
  go_enter Tryd.func33, Tryd.ntmps33
  go_wp2_with (go_at_call 44; refine (HC.out _).mono ?_; rintro r w1 ⟨rfl, hw⟩; subst hw)
  go_ret
  exact ⟨rfl, ((Below.refl _ _).alloc (Nat.le_refl _) _).alloc (by simp) _⟩
theorem pinf_no (m x : Int) (neg : Bool) (w : World) (h : ¬ okF m x) :
    Calls Tryd.prog 36 #[.agg #[.int .i64 m, .int .i64 x], .bool neg] w fun r w' => r = .returned (.int .u64 0) ∧ Below w.heap.size w w' := by
  have HC := hidden (fun w => pcheck_no m x w h)
  clear h
  go_enter Tryd.func36, Tryd.ntmps36
  go_wp2_with (go_at_call 44; refine (HC.out _).mono ?_; rintro r w1 ⟨rfl, hw⟩; subst hw)
  go_ret
  exact ⟨rfl, ((Below.refl _ _).alloc (Nat.le_refl _) _).alloc (by simp) _⟩
theorem pzero_any (m x : Nat) (neg : Bool) (w : World) (h : okF m x) :
    Calls Tryd.prog 33 #[fmtV m x, .bool neg] w fun r w' => r = .returned (.int .u64 (sgnW neg (m + x))) ∧ Below w.heap.size w w' := by
  have HC := hidden (fun w => pcheck_ok m x w h)
  have HN := hidden (fun w => pwith_no m x 0 w)
  have HY := hidden (fun w => pwith_neg m x 0 w h (Int.le_refl 0) (p2_pos _))
  clear h
  cases neg
  · go_enter Tryd.func33, Tryd.ntmps33
    go_wp2_with (first | (go_at_call 44; refine (HC.out _).mono ?_; rintro r w1 ⟨rfl, hw⟩; subst hw) | (go_at_call 51; refine (HN.out _).mono ?_; rintro r w1 ⟨rfl, hw⟩; subst hw))
    go_ret
    refine ⟨ret_int (by simp [sgnW]), ?_⟩
    (try simp only [al2])
    repeat (first | exact Below.refl _ _ | apply Below.drew | (refine Below.alloc ?_ (by simp; try omega) _))
  · go_enter Tryd.func33, Tryd.ntmps33
    go_wp2_with (first | (go_at_call 44; refine (HC.out _).mono ?_; rintro r w1 ⟨rfl, hw⟩; subst hw) | (go_at_call 51; refine (HY.out _).mono ?_; rintro r w1 ⟨rfl, hw⟩; subst hw))
    go_ret
    refine ⟨ret_int (by simp [sgnW]), ?_⟩
    (try simp only [al2])
    repeat (first | exact Below.refl _ _ | apply Below.drew | (refine Below.alloc ?_ (by simp; try omega) _))
theorem top_bd (m x : Nat) (h : okF m x) : 0 ≤ (p2 x - 1) * p2 m ∧ (p2 x - 1) * p2 m < p2 (m + x) ∧ p2 (m + x) < 18446744073709551616 ∧ IntKind.u64.wrap ((p2 x - 1) * 2 ^ m) = (p2 x - 1) * p2 m := by
  obtain ⟨h1, h2, h3, h4⟩ := h
  have a := p2_pos m
  have b := p2_pos x
  have c : p2 (m + x) = p2 x * p2 m := by rw [p2_add, Int.mul_comm]
  have d := p2_lt64 (show m + x ≤ 63 by omega)
  have e : (p2 x - 1) * p2 m = p2 x * p2 m - p2 m := by rw [Int.sub_mul, Int.one_mul]
  have f : 0 ≤ (p2 x - 1) * p2 m := Int.mul_nonneg (by omega) (by omega)
  refine ⟨f, by omega, d, ?_⟩
  show IntKind.u64.wrap ((p2 x - 1) * p2 m) = _
  rw [IntKind.wrap_u64]
  omega
theorem pinf_any (m x : Nat) (neg : Bool) (w : World) (h : okF m x) :
    Calls Tryd.prog 36 #[fmtV m x, .bool neg] w fun r w' => r = .returned (.int .u64 ((p2 x - 1) * p2 m + sgnW neg (m + x))) ∧ Below w.heap.size w w' := by
  have HC := hidden (fun w => pcheck_ok m x w h)
  have HT := hidden (fun w => ptop_any m x w h)
  obtain ⟨t0, t1, t2, t3⟩ := top_bd m x h
  have HN := hidden (fun w => pwith_no m x ((p2 x - 1) * p2 m) w)
  have HY := hidden (fun w => pwith_neg m x ((p2 x - 1) * p2 m) w h t0 t1)
  rw [← t3] at HN HY t0 ⊢
  have hm52 := h.2.1
  clear h t1 t2 t3
  generalize p2 x - 1 = T at *
  cases neg
  · go_enter Tryd.func36, Tryd.ntmps36
    go_wp2_with (first | (go_at_call 44; refine (HC.out _).mono ?_; rintro r w1 ⟨rfl, hw⟩; subst hw))
    go_region_held3 (fun w' => w'.cell? ⟨w.heap.size, 0, none⟩ = some (.int .i64 m) ∧ w'.cell? ⟨w.heap.size, 1, none⟩ = some (.int .i64 x)) (go_keep) (first | (go_at_call 49; refine (HT.out _).mono ?_; rintro r w1 ⟨rfl, hw⟩; subst hw) | (go_at_call 51; refine (HN.out _).mono ?_; rintro r w1 ⟨rfl, hw⟩; subst hw))
    all_goals
      (try simp only [al2])
      go_wp2
      go_ret
      refine ⟨ret_int (by simp [sgnW]), ?_⟩
      repeat (first | exact Below.refl _ _ | apply Below.drew | (refine Below.alloc ?_ (by simp; try omega) _))
  · go_enter Tryd.func36, Tryd.ntmps36
    go_wp2_with (first | (go_at_call 44; refine (HC.out _).mono ?_; rintro r w1 ⟨rfl, hw⟩; subst hw))
    go_region_held3 (fun w' => w'.cell? ⟨w.heap.size, 0, none⟩ = some (.int .i64 m) ∧ w'.cell? ⟨w.heap.size, 1, none⟩ = some (.int .i64 x)) (simp [*, World.cell?_alloc_some, al2_cell]) (first | (go_at_call 49; refine (HT.out _).mono ?_; rintro r w1 ⟨rfl, hw⟩; subst hw) | (go_at_call 51; refine (HY.out _).mono ?_; rintro r w1 ⟨rfl, hw⟩; subst hw))
    all_goals
      (try simp only [al2])
      go_wp2
      go_ret
      refine ⟨ret_int (by simp [sgnW]), ?_⟩
      repeat (first | exact Below.refl _ _ | apply Below.drew | (refine Below.alloc ?_ (by simp; try omega) _))
end Go.Proofs.YthfjjkikeebopaaDoor
