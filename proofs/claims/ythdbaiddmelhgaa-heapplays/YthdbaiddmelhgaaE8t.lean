/- The walk of HeapApart. -/
import Derived.Test.YthdbaiddmelhgaaE8s
import Derived.Deep.Cut
import Derived.Deep.CutRange
import Derived.Deep.RegionHeld3
namespace Go.Proofs.Ythdbaiddmelhgaa
open Go.RowKit
set_option maxHeartbeats 1000000
set_option maxRecDepth 100000
set_option linter.unusedVariables false

theorem Run.below {B h : Nat} {w0 w : World} {s : Hs} (r : Run B h w0 w s) : Below B w0 w := by obtain ⟨v, _, hb, _⟩ := r; exact hb
theorem Run.drew {B h : Nat} {w0 w : World} {s : Hs} (r : Run B h w0 w s) : Run B h w0 w.drew s := r.later ((Below.refl _ _).drew)
/-- what an act makes of a heap (HeapApart) -/
def actR (s : Hs) (r : Ac) : Hs := if r.k = 0 then mallocS s r.n r.e else if r.k = 1 then freeS s r.a else if r.k = 3 then loadS s r.a r.e r.lb else s
theorem ok_act {s : Hs} (r : Ac) (ok : OkS s) : OkS (actR s r) := by
  unfold actR
  split
  · exact ok_malloc _ _ ok
  · split
    · exact ok_free _ ok
    · split
      · exact ok_load _ _ _ ok
      · exact ok
theorem most_act (s : Hs) (r : Ac) : (actR s r).most = s.most := by
  unfold actR
  split
  · exact most_malloc _ _ _
  · split
    · exact most_free _ _
    · split
      · exact most_load _ _ _ _
      · rfl
end Go.Proofs.Ythdbaiddmelhgaa
