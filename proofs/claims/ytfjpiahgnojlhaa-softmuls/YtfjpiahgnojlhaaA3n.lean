/- A number that is near by the page is packed. -/
import Derived.Test.YtfjpiahgnojlhaaN5m
namespace Go.Proofs.Ytfjpiahgnojlhaa
open Go.RowKit
set_option maxHeartbeats 400000
set_option linter.unusedVariables false

theorem near_one (m x : Nat) (A e P : Int) (hA : 0 < A) (hx : 2 ≤ x) (h : IsNear m x A 1 e P) : P = packP m x A e false := by
  refine near_pack_gen m x A 1 e P A e false hA (by decide) hx (fun h => by cases h) h ?_ ?_ ?_
  · rw [show (e - e).toNat = 0 by omega, show p2 0 = 1 from rfl]; omega
  · rw [show (e - e).toNat = 0 by omega, show p2 0 = 1 from rfl]; omega
  · rw [show (e - e).toNat = 0 by omega, show p2 0 = 1 from rfl]; simp
end Go.Proofs.Ytfjpiahgnojlhaa
