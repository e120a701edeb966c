/- Contracts of package round's NaN. -/
import Derived.Test.YthfjjkikeebopaaDoorP2c
namespace Go.Proofs.YthfjjkikeebopaaDoor
open Go.RowKit
set_option maxHeartbeats 1000000
set_option linter.unusedVariables false

theorem pnan_no (m x : Int) (w : World) (h : ¬ okF m x) :
    Calls Tryd.prog 31 #[.agg #[.int .i64 m, .int .i64 x]] w fun r w' => r = .returned (.int .u64 0) ∧ Below w.heap.size w w' := by
  have HC := hidden (fun w => pcheck_no m x w h)
  clear h
  go_enter Tryd.func31, Tryd.ntmps31
  go_wp2_with (go_at_call 44; refine (HC.out _).mono ?_; rintro r w1 ⟨rfl, hw⟩; subst hw)
  go_ret
  exact ⟨rfl, ((Below.refl _ _).alloc (Nat.le_refl _) _).alloc (by simp) _⟩
theorem pnan_any (m x : Nat) (w : World) (h : okF m x) :
    Calls Tryd.prog 31 #[fmtV m x] w fun r w' => r = .returned (.int .u64 ((p2 x - 1) * p2 m + p2 (m - 1))) ∧ Below w.heap.size w w' := by
  have HC := hidden (fun w => pcheck_ok m x w h)
  have HT := hidden (fun w => ptop_any m x w h)
  have HI := hidden (fun w => phidden_any m x w h)
  obtain ⟨t0, t1, t2, t3⟩ := top_bd m x h
  have hm : p2 m = 2 * p2 (m - 1) := by rw [← p2_succ]; congr 1; have := h.1; omega
  have hp := p2_pos (m - 1)
  have hor : Hid (bits .or .u64 (IntKind.u64.wrap ((p2 x - 1) * 2 ^ m)) (p2 m / 2) = (p2 x - 1) * p2 m + p2 (m - 1)) := hidden (by
    have hle : p2 m ≤ p2 (m + x) := p2_mono (by omega)
    rw [t3, or_join m _ _ t0 (by omega) (Int.mul_emod_left _ _) (by omega) (by omega) (by omega)]
    omega)
  have hm0 := h.1
  have hm52 := h.2.1
  have hpm := p2_pos m
  clear h t0 t1 t2 t3 hm hp
  generalize p2 x - 1 = T at *
  generalize p2 m = P at *
  generalize p2 (m - 1) = Q at *
  go_enter Tryd.func31, Tryd.ntmps31
  go_wp2_with (first | (go_at_call 44; refine (HC.out _).mono ?_; rintro r w1 ⟨rfl, hw⟩; subst hw))
  go_region_held3 (fun w' => w'.cell? ⟨w.heap.size, 0, none⟩ = some (.int .i64 m) ∧ w'.cell? ⟨w.heap.size, 1, none⟩ = some (.int .i64 x)) (go_keep) (first | (go_at_call 49; refine (HT.out _).mono ?_; rintro r w1 ⟨rfl, hw⟩; subst hw) | (go_at_call 50; refine (HI.out _).mono ?_; rintro r w1 ⟨rfl, hw⟩; subst hw))
  all_goals
    go_wp2
    go_ret
    refine ⟨ret_int hor.out, ?_⟩
    repeat (first | exact Below.refl _ _ | apply Below.drew | (refine Below.alloc ?_ (by simp; try omega) _))
end Go.Proofs.YthfjjkikeebopaaDoor
