/- The document's Turn (package grottoref03): the other sign. -/
import Derived.Test.YtheolhlccibmgaaR2
import Derived.Test.YtheolhlccibmgaaT3
namespace Go.Proofs.Ytheolhlccibmgaa
open Go.RowKit
set_option maxRecDepth 100000
set_option maxHeartbeats 400000
set_option linter.unusedVariables false

theorem turn_any (m x : Nat) (a : Int) (w : World) (hok : okF m x) (a0 : 0 ≤ a) (a1 : a < p2 (m + x + 1)) :
    Calls Try.prog 10 #[.agg #[.int .i64 m, .int .i64 x], .int .u64 a] w fun r w' => r = .returned (.int .u64 (turnI (m + x) a)) ∧ Below w.heap.size w w' := by
  have HZ := hidden (fun w => zero_any m x true w (by have := hok.2.1; omega) (by have := hok.2.2.2; omega))
  rw [show sgnW true (m + x) = p2 (m + x) from rfl] at HZ
  have h63 := p2_le63 (show m + x ≤ 63 by have := hok.2.1; have := hok.2.2.2; omega)
  have hp := p2_pos (m + x)
  rw [p2_succ] at a1
  unfold turnI
  generalize p2 (m + x) = T at *
  by_cases h : T ≤ a
  · rw [if_pos h]
    go_enter Try.func10, Try.ntmps10
    go_wp2_with (go_at_call 32; refine (HZ.out _).mono ?_; rintro r w1 ⟨rfl, hw⟩; subst hw)
    go_ret
    refine ⟨rfl, ?_⟩
    repeat (first | exact Below.refl _ _ | apply Below.drew | (refine Below.alloc ?_ (by simp; try omega) _))
  · rw [if_neg h]
    go_enter Try.func10, Try.ntmps10
    go_wp2_with (go_at_call 32; refine (HZ.out _).mono ?_; rintro r w1 ⟨rfl, hw⟩; subst hw)
    go_ret
    refine ⟨rfl, ?_⟩
    repeat (first | exact Below.refl _ _ | apply Below.drew | (refine Below.alloc ?_ (by simp; try omega) _))
end Go.Proofs.Ytheolhlccibmgaa
