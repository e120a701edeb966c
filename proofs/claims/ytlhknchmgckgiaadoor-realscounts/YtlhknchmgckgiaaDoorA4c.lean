/- What package soft's Convert answers, for every pattern of a format. -/
import Derived.Test.YtlhknchmgckgiaaDoorP3r
import Derived.Test.YtlhknchmgckgiaaDoorA3p
namespace Go.Proofs.YtlhknchmgckgiaaDoor
open Go.RowKit
set_option maxRecDepth 100000
set_option maxHeartbeats 400000
set_option linter.unusedVariables false

def convK (m x : Nat) (K : Int) (n : Bool) (E M : Int) : Int := if K = 4 then nanI m x else if K = 3 then infI m x n else if K = 1 then sgnW n (m + x) else packP m x M E false + sgnW n (m + x)
theorem nan_bd (m x : Nat) (hm : 1 ≤ m) : 0 ≤ nanI m x ∧ nanI m x < p2 (m + x) := by
  have h1 : (p2 x - 1) * p2 m = p2 (m + x) - p2 m := by rw [Int.sub_mul, Int.one_mul, ← p2_add, Nat.add_comm x m]
  have h2 : p2 m = 2 * p2 (m - 1) := by rw [← p2_succ]; congr 1; omega
  have h3 := p2_pos (m - 1)
  have h4 : p2 m ≤ p2 (m + x) := p2_mono (by omega)
  unfold nanI
  omega
theorem inf_bd (m x : Nat) (n : Bool) : 0 ≤ infI m x n ∧ infI m x n < p2 (m + x + 1) := by
  have h1 : (p2 x - 1) * p2 m = p2 (m + x) - p2 m := by rw [Int.sub_mul, Int.one_mul, ← p2_add, Nat.add_comm x m]
  have h3 := p2_pos m
  have h4 : p2 m ≤ p2 (m + x) := p2_mono (by omega)
  rw [p2_succ]
  unfold infI sgnW
  cases n <;> simp <;> omega
theorem pack_lt (m x : Nat) (N e : Int) (more s : Bool) (hN : 0 ≤ N) (hx : 2 ≤ x) : 0 ≤ packP m x N e more + sgnW s (m + x) ∧ packP m x N e more + sgnW s (m + x) < p2 (m + x + 1) := by
  obtain ⟨h0, h1⟩ := pack_bd m x N e more hN hx
  have h2 : (p2 x - 1) * p2 m = p2 (m + x) - p2 m := by rw [Int.sub_mul, Int.one_mul, ← p2_add, Nat.add_comm x m]
  have h3 := p2_pos m
  rw [p2_succ]
  unfold sgnW
  cases s <;> simp <;> omega
theorem sgn_lt (k : Nat) (s : Bool) : 0 ≤ sgnW s k ∧ sgnW s k < p2 (k + 1) := by
  have := p2_pos k
  rw [p2_succ]
  unfold sgnW
  cases s <;> simp <;> omega
theorem conv_bd (m x m2 x2 : Nat) (a K E M : Int) (n : Bool) (hok2 : okF m2 x2) (g : PatK m x a K n E M) : 0 ≤ convK m2 x2 K n E M ∧ convK m2 x2 K n E M < p2 (m2 + x2 + 1) := by
  have hx : 2 ≤ x2 := by have := hok2.2.2.1; omega
  have hm : 1 ≤ m2 := by have := hok2.1; omega
  rcases g.kind with rfl | rfl | rfl | rfl
  · exact sgn_lt _ n
  · have h := (g.fin rfl).1.1
    exact pack_lt m2 x2 M E false n (by omega) hx
  · exact inf_bd m2 x2 n
  · have h := nan_bd m2 x2 hm
    have := p2_mono (show m2 + x2 ≤ m2 + x2 + 1 by omega)
    change 0 ≤ nanI m2 x2 ∧ nanI m2 x2 < _
    omega
theorem pconv_k (m x m2 x2 : Nat) (a K E M : Int) (n : Bool) (w : World) (hok : okF m x) (hok2 : okF m2 x2) (g : PatK m x a K n E M) (HO : Open1C m x a K n E M) :
    Calls Tryd.prog 29 #[.agg #[.int .i64 (m : Int), .int .i64 (x : Int)], .agg #[.int .i64 (m2 : Int), .int .i64 (x2 : Int)], .int .u64 a] w fun r w' => r = .returned (.tuple #[.int .u64 (convK m2 x2 K n E M), .int .i64 0]) ∧ Below w.heap.size w w' := by
  have HC : Hid (∀ w, Calls Tryd.prog 44 #[.agg #[.int .i64 (m2 : Int), .int .i64 (x2 : Int)]] w fun r w' => r = .returned (.int .i64 0) ∧ Below w.heap.size w w') := hidden fun w => by
    refine (pcheck_ok m2 x2 w hok2).mono ?_
    rintro r w' ⟨rfl, rfl⟩
    exact ⟨rfl, (Below.refl _ _).alloc (Nat.le_refl _) _⟩
  rcases g.kind with rfl | rfl | rfl | rfl
  · exact pconv_zero m x m2 x2 a 1 E M _ n w HO HC (hidden fun w => pzero_any m2 x2 n w hok2) rfl rfl rfl
  · obtain ⟨f, -⟩ := g.fin rfl
    obtain ⟨r1, r2, r3, r4⟩ := f.rng hok
    exact pconv_fin m x m2 x2 a 2 E M _ n w HO HC (hidden fun w => ppack_any m2 x2 n false M 0 M E w hok2 (by omega) (by omega) (by omega) (by omega) (by omega) (by omega) (by omega) (fun h => by cases h)) rfl rfl rfl
  · exact pconv_inf m x m2 x2 a 3 E M _ n w HO HC (hidden fun w => pinf_any m2 x2 n w hok2) rfl rfl
  · exact pconv_nan m x m2 x2 a 4 E M _ n w HO HC (hidden fun w => pnan_any m2 x2 w hok2) rfl
end Go.Proofs.YtlhknchmgckgiaaDoor
