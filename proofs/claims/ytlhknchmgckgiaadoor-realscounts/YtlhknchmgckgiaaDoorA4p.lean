/- What package soft's Cmp and Sub answer, for every two patterns of a format. -/
import Derived.Test.YtlhknchmgckgiaaDoorA3p
namespace Go.Proofs.YtlhknchmgckgiaaDoor
open Go.RowKit
set_option maxRecDepth 100000
set_option maxHeartbeats 400000
set_option linter.unusedVariables false

def cmpOk (K1 K2 : Int) : Bool := !(K1 == 4 || K2 == 4)
def cmpR (m x : Nat) (a b K1 K2 : Int) : Int := if K1 = 4 ∨ K2 = 4 then 0 else cmpZ (rankI (m + x) a) (rankI (m + x) b)
theorem pcmp_k (m x : Nat) (a b K1 E1 M1 K2 E2 M2 : Int) (n1 n2 : Bool) (w : World) (hok : okF m x) (a0 : 0 ≤ a) (a1 : a < p2 (m + x + 1)) (b0 : 0 ≤ b) (b1 : b < p2 (m + x + 1)) (HO : OpenC m x a b K1 n1 E1 M1 K2 n2 E2 M2) :
    Calls Tryd.prog 48 #[.agg #[.int .i64 (m : Int), .int .i64 (x : Int)], .int .u64 a, .int .u64 b] w fun r w' => r = .returned (.tuple #[.int .i64 (cmpR m x a b K1 K2), .bool (cmpOk K1 K2), .int .i64 0]) ∧ Below w.heap.size w w' := by
  by_cases h4 : (K1 == 4 || K2 == 4) = true
  · rw [show cmpOk K1 K2 = false by unfold cmpOk; rw [h4]; rfl, show cmpR m x a b K1 K2 = 0 by unfold cmpR; rw [if_pos (by simpa using h4)]]
    exact pcmp_nan m x a b _ _ _ _ _ _ _ _ w HO (pei _ _ _ _ _ _ _ _ _ _ h4)
  · have h4' : (K1 == 4 || K2 == 4) = false := by simpa using h4
    rw [show cmpOk K1 K2 = true by unfold cmpOk; rw [h4']; rfl, show cmpR m x a b K1 K2 = cmpZ (rankI (m + x) a) (rankI (m + x) b) by unfold cmpR; rw [if_neg (by simpa using h4)]]
    exact pcmp_num m x a b _ _ _ _ _ _ _ _ _ _ w HO (pei _ _ _ _ _ _ _ _ _ _ h4') (hidden fun w => prank m x a w hok a0 a1) (hidden fun w => prank m x b w hok b0 b1)
/-- Sub is Add with the other sign -/
theorem psub_k (m x : Nat) (a b K1 E1 M1 K2 E2 M2 : Int) (n1 n2 : Bool) (w : World) (hok : okF m x) (b0 : 0 ≤ b) (b1 : b < p2 (m + x + 1)) (h1 : K1 = 1 ∨ K1 = 2 ∨ K1 = 3 ∨ K1 = 4) (h2 : K2 = 1 ∨ K2 = 2 ∨ K2 = 3 ∨ K2 = 4) (f1 : K1 = 2 → FinP m x E1 M1) (f2 : K2 = 2 → FinP m x E2 M2) (HO : OpenC m x a (turnI (m + x) b) K1 n1 E1 M1 K2 n2 E2 M2) :
    Calls Tryd.prog 34 #[.agg #[.int .i64 (m : Int), .int .i64 (x : Int)], .int .u64 a, .int .u64 b] w fun r w' => r = .returned (.tuple #[.int .u64 (addK m x a (turnI (m + x) b) K1 n1 E1 M1 K2 n2 E2 M2), .int .i64 0]) ∧ Below w.heap.size w w' := by
  have hk : m + x ≤ 63 := by have := hok.2.1; have := hok.2.2.2; omega
  have hp := p2_mono (show m + x + 1 ≤ 64 by omega)
  rw [p2_64] at hp
  exact psub_walk m x a b _ _ _ 0 w (xor_top (m + x) b hk b0 b1 (by omega)) (hidden fun w => psignbit_any m x w hok) (hidden fun w => padd_k m x a _ _ _ _ _ _ _ _ _ w hok h1 h2 f1 f2 HO)
end Go.Proofs.YtlhknchmgckgiaaDoor
