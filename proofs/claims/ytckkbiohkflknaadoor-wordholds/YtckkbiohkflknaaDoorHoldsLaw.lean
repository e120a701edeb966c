/- The walk of WordHolds: for every number of a comparison and any two words the law answers true. -/
import Derived.Test.YtckkbiohkflknaaDoorTabs
import Derived.Test.YtckkbiohkflknaaDoorRefs3
namespace Go.Proofs.YtckkbiohkflknaaDoor
open Go.RowKit
set_option maxHeartbeats 2000000
theorem wordHolds_walk (a0 a1 a2 : Int) (w : World) (_w0 : (Lit.int .i64 a0).wf = true) (w1 : (Lit.int .u32 a1).wf = true) (w2 : (Lit.int .u32 a2).wf = true) (ht : Laid w) :
    Calls Tryd.prog 8 #[.int .i64 a0, .int .u32 a1, .int .u32 a2] w fun e w' => e = .returned (.bool true) ∧ Below w.heap.size w w' := by
  have b1 := bounds_u32 w1
  have b2 := bounds_u32 w2
  clear _w0 w1 w2
  go_enter Tryd.func8, Tryd.ntmps8
  go_wp2_with (first | (go_at_call 31; refine (holds_any _ _ _ _).mono ?_; rintro e w' ⟨rfl, rfl⟩) | (go_at_call 32; refine (holdsR_any _ _ _ _ b1.1 b1.2 b2.1 b2.2).mono ?_; rintro e w' ⟨rfl, rfl⟩) | (go_at_call 9; refine (live_any _ ht).mono ?_; rintro e w' ⟨rfl, hb⟩))
  go_ret
  exact ⟨rfl, hb⟩
end Go.Proofs.YtckkbiohkflknaaDoor
