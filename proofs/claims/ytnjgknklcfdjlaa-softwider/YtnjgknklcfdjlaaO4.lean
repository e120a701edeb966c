/- The document's Open of any pattern, told with the very answers. -/
import Derived.Test.YtnjgknklcfdjlaaL2d
import Derived.Test.YtnjgknklcfdjlaaP2c
namespace Go.Proofs.Ytnjgknklcfdjlaa
open Go.RowKit
set_option maxHeartbeats 1000000
set_option linter.unusedVariables false

abbrev ROpn (m x a K : Int) (n : Bool) (E M g : Int) : Prop := Hid (∀ w, Calls Try.prog 4 #[.agg #[.int .i64 m, .int .i64 x], .int .u64 a] w fun r w' => r = .returned (.tuple #[partsV K n E M, .int .i64 g]) ∧ Below w.heap.size w w')
theorem ro1 (m x : Nat) (a : Int) (hok : okF m x) (a0 : 0 ≤ a) (a1 : a ≤ 18446744073709551615) (ha : bl a ≤ 1 + x + m) : ROpn m x a (kindI m x a) (negI m x a) (expI m x a) (manI m x a) 0 := hidden fun w => ropen_any m x a w hok a0 a1 ha
theorem ro1_big (m x : Nat) (a : Int) (hok : okF m x) (a0 : 0 ≤ a) (a1 : a ≤ 18446744073709551615) (ha : 1 + x + m < bl a) : ROpn m x a 0 false 0 0 1 := hidden fun w => ropen_big m x a _ _ w hok a0 a1 rfl rfl (top_big m x a a0 ha)
theorem ro1_no (m x a : Int) (hok : ¬ okF m x) : ROpn m x a 0 false 0 0 1 := hidden fun w => ropen_no m x a w hok
end Go.Proofs.Ytnjgknklcfdjlaa
