/- The walk of HeapBack. -/
import Derived.Test.YthdbaiddmelhgaaE8v
namespace Go.Proofs.Ythdbaiddmelhgaa
open Go.RowKit
set_option maxHeartbeats 1000000
set_option maxRecDepth 100000
set_option linter.unusedVariables false

/-- what an act makes of a heap (HeapBack, HeapLoads) -/
def actB (s : Hs) (r : Ac) : Hs := if r.k = 0 then mallocS s r.n r.e else if r.k = 1 then freeS s r.a else s
theorem ok_actB {s : Hs} (r : Ac) (ok : OkS s) : OkS (actB s r) := by
  unfold actB
  split
  · exact ok_malloc _ _ ok
  · split
    · exact ok_free _ ok
    · exact ok
theorem most_actB (s : Hs) (r : Ac) : (actB s r).most = s.most := by
  unfold actB
  split
  · exact most_malloc _ _ _
  · split
    · exact most_free _ _
    · rfl
end Go.Proofs.Ythdbaiddmelhgaa
