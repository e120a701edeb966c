/- Contracts of package soft's small functions: either, both, signBit, openBoth. -/
import Derived.Test.YtfjpiahgnojlhaaP2d
import Derived.Test.YtfjpiahgnojlhaaP2e
import Derived.Test.YtfjpiahgnojlhaaP2n
namespace Go.Proofs.Ytfjpiahgnojlhaa
open Go.RowKit
set_option maxHeartbeats 2000000
set_option linter.unusedVariables false

abbrev prt (k : Int) (n : Bool) (E M : Int) : Obj := .cells #[.int .i64 k, .bool n, .int .i64 E, .int .u64 M] 43
theorem peither_any (K1 E1 M1 K2 E2 M2 k : Int) (n1 n2 : Bool) (w : World) :
    Calls Try.prog 19 #[partsV K1 n1 E1 M1, partsV K2 n2 E2 M2, .int .i64 k] w fun r w' => r = .returned (.bool (K1 == k || K2 == k)) ∧ w' = (w.alloc (prt K1 n1 E1 M1)).alloc (prt K2 n2 E2 M2) := by
  by_cases h1 : K1 = k
  · have g1 : (K1 == k) = true := by simpa using h1
    clear h1
    go_enter Try.func19, Try.ntmps19
    go_wp2
    go_ret
    exact ⟨ret_bool (by rw [g1]; rfl), rfl⟩
  · have g1 : (K1 == k) = false := by simpa using h1
    clear h1
    go_enter Try.func19, Try.ntmps19
    go_wp2
    go_ret
    exact ⟨ret_bool (by rw [g1]; rfl), rfl⟩
theorem pboth_any (K1 E1 M1 K2 E2 M2 k : Int) (n1 n2 : Bool) (w : World) :
    Calls Try.prog 32 #[partsV K1 n1 E1 M1, partsV K2 n2 E2 M2, .int .i64 k] w fun r w' => r = .returned (.bool (K1 == k && K2 == k)) ∧ w' = (w.alloc (prt K1 n1 E1 M1)).alloc (prt K2 n2 E2 M2) := by
  by_cases h1 : K1 = k
  · have g1 : (K1 == k) = true := by simpa using h1
    clear h1
    go_enter Try.func32, Try.ntmps32
    go_wp2
    go_ret
    exact ⟨ret_bool (by rw [g1]; rfl), rfl⟩
  · have g1 : (K1 == k) = false := by simpa using h1
    clear h1
    go_enter Try.func32, Try.ntmps32
    go_wp2
    go_ret
    exact ⟨ret_bool (by rw [g1]; rfl), rfl⟩
end Go.Proofs.Ytfjpiahgnojlhaa
