/- Package soft's Ceil, Floor, Cmp and Sub. -/
import Derived.Test.YtfjpiahgnojlhaaP3m
import Derived.Test.YtfjpiahgnojlhaaX3m
namespace Go.Proofs.Ytfjpiahgnojlhaa
open Go.RowKit
set_option maxRecDepth 100000
set_option maxHeartbeats 400000
set_option linter.unusedVariables false

theorem pceil (m x a R g : Int) (w : World)
    (HW : Hid (∀ w, Calls Try.prog 67 #[.agg #[.int .i64 m, .int .i64 x], .int .u64 a, .bool false] w fun r w' => r = .returned (.tuple #[.int .u64 R, .int .i64 g]) ∧ Below w.heap.size w w')) :
    Calls Try.prog 38 #[.agg #[.int .i64 m, .int .i64 x], .int .u64 a] w fun r w' => r = .returned (.tuple #[.int .u64 R, .int .i64 g]) ∧ Below w.heap.size w w' := by
  go_enter Try.func38, Try.ntmps38
  go_wp2_with (go_at_call 67; refine (HW.out _).mono ?_; rintro r w1 ⟨rfl, hb⟩)
  go_ret2
  exact ⟨rfl, box_below _ hb⟩
theorem pfloor (m x a R g : Int) (w : World)
    (HW : Hid (∀ w, Calls Try.prog 67 #[.agg #[.int .i64 m, .int .i64 x], .int .u64 a, .bool true] w fun r w' => r = .returned (.tuple #[.int .u64 R, .int .i64 g]) ∧ Below w.heap.size w w')) :
    Calls Try.prog 37 #[.agg #[.int .i64 m, .int .i64 x], .int .u64 a] w fun r w' => r = .returned (.tuple #[.int .u64 R, .int .i64 g]) ∧ Below w.heap.size w w' := by
  go_enter Try.func37, Try.ntmps37
  go_wp2_with (go_at_call 67; refine (HW.out _).mono ?_; rintro r w1 ⟨rfl, hb⟩)
  go_ret2
  exact ⟨rfl, box_below _ hb⟩
/-- a pattern's rank -/
def rankI (k : Nat) (a : Int) : Int := if p2 k ≤ a then -(a % p2 k) else a % p2 k
def cmpZ (a b : Int) : Int := if a < b then -1 else if b < a then 1 else 0
end Go.Proofs.Ytfjpiahgnojlhaa
