/- A pattern with its sign turned. -/
import Derived.Test.YthfjjkikeebopaaDoorQ2a
namespace Go.Proofs.YthfjjkikeebopaaDoor
/-- the sign turned -/
def turnI (k : Nat) (a : Int) : Int := if p2 k ≤ a then a - p2 k else a + p2 k
end Go.Proofs.YthfjjkikeebopaaDoor
