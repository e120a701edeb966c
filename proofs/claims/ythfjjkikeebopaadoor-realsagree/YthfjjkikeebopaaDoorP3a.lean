/- Contracts of package soft's small functions: either, both, signBit, openBoth. -/
import Derived.Test.YthfjjkikeebopaaDoorP2d
import Derived.Test.YthfjjkikeebopaaDoorP2e
import Derived.Test.YthfjjkikeebopaaDoorP2n
namespace Go.Proofs.YthfjjkikeebopaaDoor
open Go.RowKit
set_option maxHeartbeats 2000000
set_option linter.unusedVariables false

abbrev prt (k : Int) (n : Bool) (E M : Int) : Obj := .cells #[.int .i64 k, .bool n, .int .i64 E, .int .u64 M] 52
theorem peither_any (K1 E1 M1 K2 E2 M2 k : Int) (n1 n2 : Bool) (w : World) :
    Calls Tryd.prog 30 #[partsV K1 n1 E1 M1, partsV K2 n2 E2 M2, .int .i64 k] w fun r w' => r = .returned (.bool (K1 == k || K2 == k)) ∧ w' = (w.alloc (prt K1 n1 E1 M1)).alloc (prt K2 n2 E2 M2) := by
  by_cases h1 : K1 = k
  · have g1 : (K1 == k) = true := by simpa using h1
    clear h1
    go_enter Tryd.func30, Tryd.ntmps30
    go_wp2
    go_ret
    exact ⟨ret_bool (by rw [g1]; rfl), rfl⟩
  · have g1 : (K1 == k) = false := by simpa using h1
    clear h1
    go_enter Tryd.func30, Tryd.ntmps30
    go_wp2
    go_ret
    exact ⟨ret_bool (by rw [g1]; rfl), rfl⟩
theorem pboth_any (K1 E1 M1 K2 E2 M2 k : Int) (n1 n2 : Bool) (w : World) :
    Calls Tryd.prog 32 #[partsV K1 n1 E1 M1, partsV K2 n2 E2 M2, .int .i64 k] w fun r w' => r = .returned (.bool (K1 == k && K2 == k)) ∧ w' = (w.alloc (prt K1 n1 E1 M1)).alloc (prt K2 n2 E2 M2) := by
  by_cases h1 : K1 = k
  · have g1 : (K1 == k) = true := by simpa using h1
    clear h1
    go_enter Tryd.func32, Tryd.ntmps32
    go_wp2
    go_ret
    exact ⟨ret_bool (by rw [g1]; rfl), rfl⟩
  · have g1 : (K1 == k) = false := by simpa using h1
    clear h1
    go_enter Tryd.func32, Tryd.ntmps32
    go_wp2
    go_ret
    exact ⟨ret_bool (by rw [g1]; rfl), rfl⟩
theorem psignbit_any (m x : Nat) (w : World) (h : okF m x) :
    Calls Tryd.prog 35 #[fmtV m x] w fun r w' => r = .returned (.int .u64 (p2 (m + x))) ∧ Below w.heap.size w w' := by
  have HZ := hidden (fun w => pzero_any m x true w h)
  rw [show sgnW true (m + x) = p2 (m + x) from rfl] at HZ
  go_enter Tryd.func35, Tryd.ntmps35
  go_wp2_with (go_at_call 33; refine (HZ.out _).mono ?_; rintro r w1 ⟨rfl, hb⟩)
  go_ret
  exact ⟨rfl, box_below _ hb⟩
theorem psignbit_no (m x : Int) (w : World) (h : ¬ okF m x) :
    Calls Tryd.prog 35 #[.agg #[.int .i64 m, .int .i64 x]] w fun r w' => r = .returned (.int .u64 0) ∧ Below w.heap.size w w' := by
  have HZ := hidden (fun w => pzero_no m x true w h)
  clear h
  go_enter Tryd.func35, Tryd.ntmps35
  go_wp2_with (go_at_call 33; refine (HZ.out _).mono ?_; rintro r w1 ⟨rfl, hb⟩)
  go_ret
  exact ⟨rfl, box_below _ hb⟩
end Go.Proofs.YthfjjkikeebopaaDoor
