/- A pattern with its sign turned. -/
import Derived.Test.YtnjgknklcfdjlaaQ2a
namespace Go.Proofs.Ytnjgknklcfdjlaa
/-- the sign turned -/
def turnI (k : Nat) (a : Int) : Int := if p2 k ≤ a then a - p2 k else a + p2 k
end Go.Proofs.Ytnjgknklcfdjlaa
