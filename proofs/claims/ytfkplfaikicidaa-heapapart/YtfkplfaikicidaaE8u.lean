/- HeapApart, for every input. -/
import Derived.Test.YtfkplfaikicidaaE8t
namespace Go.Proofs.Ytfkplfaikicidaa
open Go.RowKit
set_option maxHeartbeats 1000000
set_option maxRecDepth 100000
set_option linter.unusedVariables false

theorem apart_huge (m : Nat) (ao : Option Addr) (len cap : Nat) (rs : List Ac) (w : World) (ha : IsActs w ao len cap rs) (hh : hugeB rs = true) :
    Calls Try.prog 3 #[.int .u32 m, .slice ao len cap] w fun e w' => e = .returned (.bool true) ∧ Below w.heap.size w w' := by
  have HH := hidden (huge_any ao len cap rs w ha)
  rw [hh] at HH
  clear ha hh
  go_enter Try.func3, Try.ntmps3
  go_wp2_with (first | (go_at_call 9; refine HH.out.mono ?_; rintro e w1 ⟨rfl, rfl⟩) | (go_at_call 10; refine (live_any _).mono ?_; rintro e w9 ⟨rfl, hb9⟩))
  go_ret
  exact ⟨rfl, hb9⟩
theorem heapApart_walk (m : Int) (ao : Option Addr) (len cap : Nat) (rs : List Ac) (w : World) (hm : (Lit.int .u32 m).wf = true) (ha : IsActs w ao len cap rs) :
    Calls Try.prog 3 #[.int .u32 m, .slice ao len cap] w fun e w' => e = .returned (.bool true) ∧ Below w.heap.size w w' := by
  have b0 := bounds_u32 hm
  obtain ⟨m, rfl⟩ := Int.eq_ofNat_of_zero_le b0.1
  cases hh : hugeB rs with
  | true => exact apart_huge m ao len cap rs w ha hh
  | false => exact apart_main m ao len cap rs w (by omega) ha hh
end Go.Proofs.Ytfkplfaikicidaa
