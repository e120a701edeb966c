/- Contracts of package soft's functions for every two patterns of a format, by what they say. -/
import Derived.Test.YthfjjkikeebopaaDoorP3o
import Derived.Test.YthfjjkikeebopaaDoorP3n
import Derived.Test.YthfjjkikeebopaaDoorV3
namespace Go.Proofs.YthfjjkikeebopaaDoor
open Go.RowKit
set_option maxRecDepth 100000
set_option maxHeartbeats 1000000
set_option linter.unusedVariables false

theorem two_below (w : World) (a b : Obj) : Below w.heap.size w ((w.alloc a).alloc b) := ((Below.refl _ _).alloc (Nat.le_refl _) _).alloc (by simp) _
theorem pei (K1 E1 M1 K2 E2 M2 k : Int) (n1 n2 c : Bool) (hc : (K1 == k || K2 == k) = c) : Hid (∀ w, Calls Tryd.prog 30 #[partsV K1 n1 E1 M1, partsV K2 n2 E2 M2, .int .i64 k] w fun r w' => r = .returned (.bool c) ∧ Below w.heap.size w w') := hidden fun w => by
  refine (peither_any K1 E1 M1 K2 E2 M2 k n1 n2 w).mono ?_
  rintro r w' ⟨rfl, rfl⟩
  exact ⟨by rw [hc], two_below _ _ _⟩
theorem pbo (K1 E1 M1 K2 E2 M2 k : Int) (n1 n2 c : Bool) (hc : (K1 == k && K2 == k) = c) : Hid (∀ w, Calls Tryd.prog 32 #[partsV K1 n1 E1 M1, partsV K2 n2 E2 M2, .int .i64 k] w fun r w' => r = .returned (.bool c) ∧ Below w.heap.size w w') := hidden fun w => by
  refine (pboth_any K1 E1 M1 K2 E2 M2 k n1 n2 w).mono ?_
  rintro r w' ⟨rfl, rfl⟩
  exact ⟨by rw [hc], two_below _ _ _⟩
abbrev OpenC (m x : Nat) (a b K1 : Int) (n1 : Bool) (E1 M1 K2 : Int) (n2 : Bool) (E2 M2 : Int) : Prop := Hid (∀ w, Calls Tryd.prog 29 #[fmtV m x, .int .u64 a, .int .u64 b] w fun r w' => r = .returned (.tuple #[partsV K1 n1 E1 M1, partsV K2 n2 E2 M2, .int .i64 0]) ∧ Below w.heap.size w w')
theorem mulc_below {a b hi lo : Int} (h : MulC a b hi lo) : Hid (∀ w, Calls Tryd.prog 37 #[.int .u64 a, .int .u64 b] w fun r w' => r = .returned (.tuple #[.int .u64 hi, .int .u64 lo]) ∧ Below w.heap.size w w') := hidden fun w => by
  refine (h.out w).mono ?_
  rintro r w' ⟨rfl, rfl⟩
  exact ⟨rfl, Below.refl _ _⟩
theorem padd_k (m x : Nat) (a b K1 E1 M1 K2 E2 M2 : Int) (n1 n2 : Bool) (w : World) (hok : okF m x) (h1 : K1 = 1 ∨ K1 = 2 ∨ K1 = 3 ∨ K1 = 4) (h2 : K2 = 1 ∨ K2 = 2 ∨ K2 = 3 ∨ K2 = 4) (f1 : K1 = 2 → FinP m x E1 M1) (f2 : K2 = 2 → FinP m x E2 M2) (HO : OpenC m x a b K1 n1 E1 M1 K2 n2 E2 M2) :
    Calls Tryd.prog 17 #[fmtV m x, .int .u64 a, .int .u64 b] w fun r w' => r = .returned (.tuple #[.int .u64 (addK m x a b K1 n1 E1 M1 K2 n2 E2 M2), .int .i64 0]) ∧ Below w.heap.size w w' := by
  have HN : Hid (∀ w, Calls Tryd.prog 31 #[fmtV m x] w fun r w' => r = .returned (.int .u64 (nanI m x)) ∧ Below w.heap.size w w') := hidden fun w => pnan_any m x w hok
  have HZ : ∀ s, Hid (∀ w, Calls Tryd.prog 33 #[fmtV m x, .bool s] w fun r w' => r = .returned (.int .u64 (sgnW s (m + x))) ∧ Below w.heap.size w w') := fun s => hidden fun w => pzero_any m x s w hok
  have HI : ∀ s, Hid (∀ w, Calls Tryd.prog 36 #[fmtV m x, .bool s] w fun r w' => r = .returned (.int .u64 (infI m x s)) ∧ Below w.heap.size w w') := fun s => hidden fun w => pinf_any m x s w hok
  rcases h1 with rfl | rfl | rfl | rfl <;> rcases h2 with rfl | rfl | rfl | rfl
  · cases n1
    · rw [show addK m x a b 1 false E1 M1 1 n2 E2 M2 = sgnW (false && n2) (m + x) by simp [addK]]; exact padd_zz_f m x a b 1 E1 M1 1 E2 M2 _ n2 w HO (pei 1 E1 M1 1 E2 M2 4 _ _ _ rfl) (pbo 1 E1 M1 1 E2 M2 3 _ _ _ rfl) (pbo 1 E1 M1 1 E2 M2 1 _ _ _ rfl) (HZ _) rfl rfl
    · rw [show addK m x a b 1 true E1 M1 1 n2 E2 M2 = sgnW (true && n2) (m + x) by simp [addK]]; exact padd_zz_t m x a b 1 E1 M1 1 E2 M2 _ n2 w HO (pei 1 E1 M1 1 E2 M2 4 _ _ _ rfl) (pbo 1 E1 M1 1 E2 M2 3 _ _ _ rfl) (pbo 1 E1 M1 1 E2 M2 1 _ _ _ rfl) (HZ _) rfl rfl
  · rw [show addK m x a b 1 n1 E1 M1 2 n2 E2 M2 = b by simp [addK]]; exact padd_zb m x a b 1 E1 M1 2 E2 M2 n1 n2 w HO (pei 1 E1 M1 2 E2 M2 4 _ _ _ rfl) (pbo 1 E1 M1 2 E2 M2 3 _ _ _ rfl) (pbo 1 E1 M1 2 E2 M2 1 _ _ _ rfl) rfl rfl rfl
  · rw [show addK m x a b 1 n1 E1 M1 3 n2 E2 M2 = b by simp [addK]]; exact padd_ib m x a b 1 E1 M1 3 E2 M2 n1 n2 w HO (pei 1 E1 M1 3 E2 M2 4 _ _ _ rfl) (pbo 1 E1 M1 3 E2 M2 3 _ _ _ rfl) rfl rfl
  · rw [show addK m x a b 1 n1 E1 M1 4 n2 E2 M2 = nanI m x by simp [addK]]; exact padd_nan m x a b 1 E1 M1 4 E2 M2 _ n1 n2 w HO (pei 1 E1 M1 4 E2 M2 4 _ _ _ rfl) HN
  · rw [show addK m x a b 2 n1 E1 M1 1 n2 E2 M2 = a by simp [addK]]; exact padd_az m x a b 2 E1 M1 1 E2 M2 n1 n2 w HO (pei 2 E1 M1 1 E2 M2 4 _ _ _ rfl) (pbo 2 E1 M1 1 E2 M2 3 _ _ _ rfl) (pbo 2 E1 M1 1 E2 M2 1 _ _ _ rfl) rfl rfl rfl rfl
  · rw [show addK m x a b 2 n1 E1 M1 2 n2 E2 M2 = sumI m x n1 E1 M1 n2 E2 M2 by simp [addK]]; exact padd_sum m x a b 2 E1 M1 2 E2 M2 _ n1 n2 w HO (pei 2 E1 M1 2 E2 M2 4 _ _ _ rfl) (pbo 2 E1 M1 2 E2 M2 3 _ _ _ rfl) (pbo 2 E1 M1 2 E2 M2 1 _ _ _ rfl) (hidden fun w => psum_any m x E1 M1 E2 M2 2 2 n1 n2 w hok (f1 rfl) (f2 rfl)) rfl rfl rfl rfl
  · rw [show addK m x a b 2 n1 E1 M1 3 n2 E2 M2 = b by simp [addK]]; exact padd_ib m x a b 2 E1 M1 3 E2 M2 n1 n2 w HO (pei 2 E1 M1 3 E2 M2 4 _ _ _ rfl) (pbo 2 E1 M1 3 E2 M2 3 _ _ _ rfl) rfl rfl
  · rw [show addK m x a b 2 n1 E1 M1 4 n2 E2 M2 = nanI m x by simp [addK]]; exact padd_nan m x a b 2 E1 M1 4 E2 M2 _ n1 n2 w HO (pei 2 E1 M1 4 E2 M2 4 _ _ _ rfl) HN
  · rw [show addK m x a b 3 n1 E1 M1 1 n2 E2 M2 = a by simp [addK]]; exact padd_ia2 m x a b 3 E1 M1 1 E2 M2 n1 n2 w HO (pei 3 E1 M1 1 E2 M2 4 _ _ _ rfl) (pbo 3 E1 M1 1 E2 M2 3 _ _ _ rfl) rfl
  · rw [show addK m x a b 3 n1 E1 M1 2 n2 E2 M2 = a by simp [addK]]; exact padd_ia2 m x a b 3 E1 M1 2 E2 M2 n1 n2 w HO (pei 3 E1 M1 2 E2 M2 4 _ _ _ rfl) (pbo 3 E1 M1 2 E2 M2 3 _ _ _ rfl) rfl
  · cases n1 <;> cases n2
    · rw [show addK m x a b 3 false E1 M1 3 false E2 M2 = a by simp [addK]]; exact padd_ia1_f m x a b 3 E1 M1 3 E2 M2 w HO (pei 3 E1 M1 3 E2 M2 4 _ _ _ rfl) (pbo 3 E1 M1 3 E2 M2 3 _ _ _ rfl) rfl
    · rw [show addK m x a b 3 false E1 M1 3 true E2 M2 = nanI m x by simp [addK]]; exact padd_nan2_f m x a b 3 E1 M1 3 E2 M2 _ w HO (pei 3 E1 M1 3 E2 M2 4 _ _ _ rfl) (pbo 3 E1 M1 3 E2 M2 3 _ _ _ rfl) HN
    · rw [show addK m x a b 3 true E1 M1 3 false E2 M2 = nanI m x by simp [addK]]; exact padd_nan2_t m x a b 3 E1 M1 3 E2 M2 _ w HO (pei 3 E1 M1 3 E2 M2 4 _ _ _ rfl) (pbo 3 E1 M1 3 E2 M2 3 _ _ _ rfl) HN
    · rw [show addK m x a b 3 true E1 M1 3 true E2 M2 = a by simp [addK]]; exact padd_ia1_t m x a b 3 E1 M1 3 E2 M2 w HO (pei 3 E1 M1 3 E2 M2 4 _ _ _ rfl) (pbo 3 E1 M1 3 E2 M2 3 _ _ _ rfl) rfl
  · rw [show addK m x a b 3 n1 E1 M1 4 n2 E2 M2 = nanI m x by simp [addK]]; exact padd_nan m x a b 3 E1 M1 4 E2 M2 _ n1 n2 w HO (pei 3 E1 M1 4 E2 M2 4 _ _ _ rfl) HN
  · rw [show addK m x a b 4 n1 E1 M1 1 n2 E2 M2 = nanI m x by simp [addK]]; exact padd_nan m x a b 4 E1 M1 1 E2 M2 _ n1 n2 w HO (pei 4 E1 M1 1 E2 M2 4 _ _ _ rfl) HN
  · rw [show addK m x a b 4 n1 E1 M1 2 n2 E2 M2 = nanI m x by simp [addK]]; exact padd_nan m x a b 4 E1 M1 2 E2 M2 _ n1 n2 w HO (pei 4 E1 M1 2 E2 M2 4 _ _ _ rfl) HN
  · rw [show addK m x a b 4 n1 E1 M1 3 n2 E2 M2 = nanI m x by simp [addK]]; exact padd_nan m x a b 4 E1 M1 3 E2 M2 _ n1 n2 w HO (pei 4 E1 M1 3 E2 M2 4 _ _ _ rfl) HN
  · rw [show addK m x a b 4 n1 E1 M1 4 n2 E2 M2 = nanI m x by simp [addK]]; exact padd_nan m x a b 4 E1 M1 4 E2 M2 _ n1 n2 w HO (pei 4 E1 M1 4 E2 M2 4 _ _ _ rfl) HN
theorem pmul_k (m x : Nat) (a b K1 E1 M1 K2 E2 M2 : Int) (n1 n2 : Bool) (w : World) (hok : okF m x) (h1 : K1 = 1 ∨ K1 = 2 ∨ K1 = 3 ∨ K1 = 4) (h2 : K2 = 1 ∨ K2 = 2 ∨ K2 = 3 ∨ K2 = 4) (f1 : K1 = 2 → FinP m x E1 M1) (f2 : K2 = 2 → FinP m x E2 M2) (HO : OpenC m x a b K1 n1 E1 M1 K2 n2 E2 M2) :
    Calls Tryd.prog 19 #[fmtV m x, .int .u64 a, .int .u64 b] w fun r w' => r = .returned (.tuple #[.int .u64 (mulK m x K1 n1 E1 M1 K2 n2 E2 M2), .int .i64 0]) ∧ Below w.heap.size w w' := by
  have HN : Hid (∀ w, Calls Tryd.prog 31 #[fmtV m x] w fun r w' => r = .returned (.int .u64 (nanI m x)) ∧ Below w.heap.size w w') := hidden fun w => pnan_any m x w hok
  have HZ : ∀ s, Hid (∀ w, Calls Tryd.prog 33 #[fmtV m x, .bool s] w fun r w' => r = .returned (.int .u64 (sgnW s (m + x))) ∧ Below w.heap.size w w') := fun s => hidden fun w => pzero_any m x s w hok
  have HI : ∀ s, Hid (∀ w, Calls Tryd.prog 36 #[fmtV m x, .bool s] w fun r w' => r = .returned (.int .u64 (infI m x s)) ∧ Below w.heap.size w w') := fun s => hidden fun w => pinf_any m x s w hok
  rcases h1 with rfl | rfl | rfl | rfl <;> rcases h2 with rfl | rfl | rfl | rfl
  · rw [show mulK m x 1 n1 E1 M1 1 n2 E2 M2 = sgnW (n1 != n2) (m + x) by simp [mulK]]; exact pmul_zero m x a b 1 E1 M1 1 E2 M2 _ n1 n2 w HO (pei 1 E1 M1 1 E2 M2 4 _ _ _ rfl) (pei 1 E1 M1 1 E2 M2 3 _ _ _ rfl) (pei 1 E1 M1 1 E2 M2 1 _ _ _ rfl) (HZ _)
  · rw [show mulK m x 1 n1 E1 M1 2 n2 E2 M2 = sgnW (n1 != n2) (m + x) by simp [mulK]]; exact pmul_zero m x a b 1 E1 M1 2 E2 M2 _ n1 n2 w HO (pei 1 E1 M1 2 E2 M2 4 _ _ _ rfl) (pei 1 E1 M1 2 E2 M2 3 _ _ _ rfl) (pei 1 E1 M1 2 E2 M2 1 _ _ _ rfl) (HZ _)
  · rw [show mulK m x 1 n1 E1 M1 3 n2 E2 M2 = nanI m x by simp [mulK]]; exact pmul_nan2 m x a b 1 E1 M1 3 E2 M2 _ n1 n2 w HO (pei 1 E1 M1 3 E2 M2 4 _ _ _ rfl) (pei 1 E1 M1 3 E2 M2 3 _ _ _ rfl) (pei 1 E1 M1 3 E2 M2 1 _ _ _ rfl) HN
  · rw [show mulK m x 1 n1 E1 M1 4 n2 E2 M2 = nanI m x by simp [mulK]]; exact pmul_nan m x a b 1 E1 M1 4 E2 M2 _ n1 n2 w HO (pei 1 E1 M1 4 E2 M2 4 _ _ _ rfl) HN
  · rw [show mulK m x 2 n1 E1 M1 1 n2 E2 M2 = sgnW (n1 != n2) (m + x) by simp [mulK]]; exact pmul_zero m x a b 2 E1 M1 1 E2 M2 _ n1 n2 w HO (pei 2 E1 M1 1 E2 M2 4 _ _ _ rfl) (pei 2 E1 M1 1 E2 M2 3 _ _ _ rfl) (pei 2 E1 M1 1 E2 M2 1 _ _ _ rfl) (HZ _)
  · obtain ⟨r1, r2, r3, r4⟩ := (f1 rfl).rng hok
    obtain ⟨s1, s2, s3, s4⟩ := (f2 rfl).rng hok
    have hM : 0 ≤ M1 * M2 := Int.mul_nonneg (by omega) (by omega)
    have hM1 : M1 * M2 ≤ 9007199254740992 * 9007199254740992 := Int.mul_le_mul (by omega) (by omega) (by omega) (by omega)
    rw [show mulK m x 2 n1 E1 M1 2 n2 E2 M2 = packP m x (M1 * M2) (E1 + E2) false + sgnW (n1 != n2) (m + x) by simp [mulK]]; 
    exact pmul_fin m x a b 2 E1 M1 2 E2 M2 _ (M1 * M2 / 18446744073709551616) (M1 * M2 % 18446744073709551616) (E1 + E2) n1 n2 w HO (pei 2 E1 M1 2 E2 M2 4 _ _ _ rfl) (pei 2 E1 M1 2 E2 M2 3 _ _ _ rfl) (pei 2 E1 M1 2 E2 M2 1 _ _ _ rfl) (mulc_below (hidden fun w => pmul64 M1 M2 w (by omega) (by omega) (by omega) (by omega))) (hidden fun w => ppack_any m x (n1 != n2) false (M1 * M2) _ _ (E1 + E2) w hok (by omega) (by omega) (by omega) (by omega) (by omega) (by omega) (by omega) (fun h => by cases h)) (wrapi _ (by omega) (by omega))
  · rw [show mulK m x 2 n1 E1 M1 3 n2 E2 M2 = infI m x (n1 != n2) by simp [mulK]]; exact pmul_inf m x a b 2 E1 M1 3 E2 M2 _ n1 n2 w HO (pei 2 E1 M1 3 E2 M2 4 _ _ _ rfl) (pei 2 E1 M1 3 E2 M2 3 _ _ _ rfl) (pei 2 E1 M1 3 E2 M2 1 _ _ _ rfl) (HI _)
  · rw [show mulK m x 2 n1 E1 M1 4 n2 E2 M2 = nanI m x by simp [mulK]]; exact pmul_nan m x a b 2 E1 M1 4 E2 M2 _ n1 n2 w HO (pei 2 E1 M1 4 E2 M2 4 _ _ _ rfl) HN
  · rw [show mulK m x 3 n1 E1 M1 1 n2 E2 M2 = nanI m x by simp [mulK]]; exact pmul_nan2 m x a b 3 E1 M1 1 E2 M2 _ n1 n2 w HO (pei 3 E1 M1 1 E2 M2 4 _ _ _ rfl) (pei 3 E1 M1 1 E2 M2 3 _ _ _ rfl) (pei 3 E1 M1 1 E2 M2 1 _ _ _ rfl) HN
  · rw [show mulK m x 3 n1 E1 M1 2 n2 E2 M2 = infI m x (n1 != n2) by simp [mulK]]; exact pmul_inf m x a b 3 E1 M1 2 E2 M2 _ n1 n2 w HO (pei 3 E1 M1 2 E2 M2 4 _ _ _ rfl) (pei 3 E1 M1 2 E2 M2 3 _ _ _ rfl) (pei 3 E1 M1 2 E2 M2 1 _ _ _ rfl) (HI _)
  · rw [show mulK m x 3 n1 E1 M1 3 n2 E2 M2 = infI m x (n1 != n2) by simp [mulK]]; exact pmul_inf m x a b 3 E1 M1 3 E2 M2 _ n1 n2 w HO (pei 3 E1 M1 3 E2 M2 4 _ _ _ rfl) (pei 3 E1 M1 3 E2 M2 3 _ _ _ rfl) (pei 3 E1 M1 3 E2 M2 1 _ _ _ rfl) (HI _)
  · rw [show mulK m x 3 n1 E1 M1 4 n2 E2 M2 = nanI m x by simp [mulK]]; exact pmul_nan m x a b 3 E1 M1 4 E2 M2 _ n1 n2 w HO (pei 3 E1 M1 4 E2 M2 4 _ _ _ rfl) HN
  · rw [show mulK m x 4 n1 E1 M1 1 n2 E2 M2 = nanI m x by simp [mulK]]; exact pmul_nan m x a b 4 E1 M1 1 E2 M2 _ n1 n2 w HO (pei 4 E1 M1 1 E2 M2 4 _ _ _ rfl) HN
  · rw [show mulK m x 4 n1 E1 M1 2 n2 E2 M2 = nanI m x by simp [mulK]]; exact pmul_nan m x a b 4 E1 M1 2 E2 M2 _ n1 n2 w HO (pei 4 E1 M1 2 E2 M2 4 _ _ _ rfl) HN
  · rw [show mulK m x 4 n1 E1 M1 3 n2 E2 M2 = nanI m x by simp [mulK]]; exact pmul_nan m x a b 4 E1 M1 3 E2 M2 _ n1 n2 w HO (pei 4 E1 M1 3 E2 M2 4 _ _ _ rfl) HN
  · rw [show mulK m x 4 n1 E1 M1 4 n2 E2 M2 = nanI m x by simp [mulK]]; exact pmul_nan m x a b 4 E1 M1 4 E2 M2 _ n1 n2 w HO (pei 4 E1 M1 4 E2 M2 4 _ _ _ rfl) HN
theorem pdiv_k (m x : Nat) (a b K1 E1 M1 K2 E2 M2 : Int) (n1 n2 : Bool) (w : World) (hok : okF m x) (h1 : K1 = 1 ∨ K1 = 2 ∨ K1 = 3 ∨ K1 = 4) (h2 : K2 = 1 ∨ K2 = 2 ∨ K2 = 3 ∨ K2 = 4) (f1 : K1 = 2 → FinP m x E1 M1) (f2 : K2 = 2 → FinP m x E2 M2) (HO : OpenC m x a b K1 n1 E1 M1 K2 n2 E2 M2) :
    Calls Tryd.prog 20 #[fmtV m x, .int .u64 a, .int .u64 b] w fun r w' => r = .returned (.tuple #[.int .u64 (divK m x K1 n1 E1 M1 K2 n2 E2 M2), .int .i64 0]) ∧ Below w.heap.size w w' := by
  have HN : Hid (∀ w, Calls Tryd.prog 31 #[fmtV m x] w fun r w' => r = .returned (.int .u64 (nanI m x)) ∧ Below w.heap.size w w') := hidden fun w => pnan_any m x w hok
  have HZ : ∀ s, Hid (∀ w, Calls Tryd.prog 33 #[fmtV m x, .bool s] w fun r w' => r = .returned (.int .u64 (sgnW s (m + x))) ∧ Below w.heap.size w w') := fun s => hidden fun w => pzero_any m x s w hok
  have HI : ∀ s, Hid (∀ w, Calls Tryd.prog 36 #[fmtV m x, .bool s] w fun r w' => r = .returned (.int .u64 (infI m x s)) ∧ Below w.heap.size w w') := fun s => hidden fun w => pinf_any m x s w hok
  rcases h1 with rfl | rfl | rfl | rfl <;> rcases h2 with rfl | rfl | rfl | rfl
  · rw [show divK m x 1 n1 E1 M1 1 n2 E2 M2 = nanI m x by simp [divK]]; exact pdiv_nan3 m x a b 1 E1 M1 1 E2 M2 _ n1 n2 w HO (pei 1 E1 M1 1 E2 M2 4 _ _ _ rfl) (pbo 1 E1 M1 1 E2 M2 3 _ _ _ rfl) (pbo 1 E1 M1 1 E2 M2 1 _ _ _ rfl) HN
  · rw [show divK m x 1 n1 E1 M1 2 n2 E2 M2 = sgnW (n1 != n2) (m + x) by simp [divK]]; exact pdiv_zero1 m x a b 1 E1 M1 2 E2 M2 _ n1 n2 w HO (pei 1 E1 M1 2 E2 M2 4 _ _ _ rfl) (pbo 1 E1 M1 2 E2 M2 3 _ _ _ rfl) (pbo 1 E1 M1 2 E2 M2 1 _ _ _ rfl) (HZ _) rfl rfl rfl
  · rw [show divK m x 1 n1 E1 M1 3 n2 E2 M2 = sgnW (n1 != n2) (m + x) by simp [divK]]; exact pdiv_zero1 m x a b 1 E1 M1 3 E2 M2 _ n1 n2 w HO (pei 1 E1 M1 3 E2 M2 4 _ _ _ rfl) (pbo 1 E1 M1 3 E2 M2 3 _ _ _ rfl) (pbo 1 E1 M1 3 E2 M2 1 _ _ _ rfl) (HZ _) rfl rfl rfl
  · rw [show divK m x 1 n1 E1 M1 4 n2 E2 M2 = nanI m x by simp [divK]]; exact pdiv_nan m x a b 1 E1 M1 4 E2 M2 _ n1 n2 w HO (pei 1 E1 M1 4 E2 M2 4 _ _ _ rfl) HN
  · rw [show divK m x 2 n1 E1 M1 1 n2 E2 M2 = infI m x (n1 != n2) by simp [divK]]; exact pdiv_inf2 m x a b 2 E1 M1 1 E2 M2 _ n1 n2 w HO (pei 2 E1 M1 1 E2 M2 4 _ _ _ rfl) (pbo 2 E1 M1 1 E2 M2 3 _ _ _ rfl) (pbo 2 E1 M1 1 E2 M2 1 _ _ _ rfl) (HI _) rfl rfl
  · obtain ⟨r1, r2, r3, r4⟩ := (f1 rfl).rng hok
    obtain ⟨s1, s2, s3, s4⟩ := (f2 rfl).rng hok
    obtain ⟨q1, q2⟩ := quoQ_bd M1 M2 (by omega) (by omega) (by omega) (by omega)
    have q3 := quoQ_bl M1 M2 (by omega) (by omega) (by omega) (by omega)
    have q4 : -4096 ≤ quoE E1 M1 E2 M2 ∧ quoE E1 M1 E2 M2 ≤ 4096 := by unfold quoE; omega
    have hm52 := hok.2.1
    rw [show divK m x 2 n1 E1 M1 2 n2 E2 M2 = divI m x E1 M1 E2 M2 + sgnW (n1 != n2) (m + x) by simp [divK]]; 
    exact pdiv_fin m x a b 2 E1 M1 2 E2 M2 _ (quoQ M1 M2) (quoE E1 M1 E2 M2) n1 n2 (decide (quoR M1 M2 ≠ 0)) w HO (pei 2 E1 M1 2 E2 M2 4 _ _ _ rfl) (pbo 2 E1 M1 2 E2 M2 3 _ _ _ rfl) (pbo 2 E1 M1 2 E2 M2 1 _ _ _ rfl) (hidden fun w => pquotient 2 E1 M1 2 E2 M2 n1 n2 w (by omega) (by omega) (by omega) (by omega) (by omega) (by omega)) (hidden fun w => ppack_any m x (n1 != n2) (decide (quoR M1 M2 ≠ 0)) (quoQ M1 M2) _ _ (quoE E1 M1 E2 M2) w hok q4.1 q4.2 (by omega) (by omega) (by omega) (by omega) (by omega) (fun _ => by omega)) rfl rfl rfl rfl
  · rw [show divK m x 2 n1 E1 M1 3 n2 E2 M2 = sgnW (n1 != n2) (m + x) by simp [divK]]; exact pdiv_zero2 m x a b 2 E1 M1 3 E2 M2 _ n1 n2 w HO (pei 2 E1 M1 3 E2 M2 4 _ _ _ rfl) (pbo 2 E1 M1 3 E2 M2 3 _ _ _ rfl) (pbo 2 E1 M1 3 E2 M2 1 _ _ _ rfl) (HZ _) rfl rfl rfl rfl
  · rw [show divK m x 2 n1 E1 M1 4 n2 E2 M2 = nanI m x by simp [divK]]; exact pdiv_nan m x a b 2 E1 M1 4 E2 M2 _ n1 n2 w HO (pei 2 E1 M1 4 E2 M2 4 _ _ _ rfl) HN
  · rw [show divK m x 3 n1 E1 M1 1 n2 E2 M2 = infI m x (n1 != n2) by simp [divK]]; exact pdiv_inf1 m x a b 3 E1 M1 1 E2 M2 _ n1 n2 w HO (pei 3 E1 M1 1 E2 M2 4 _ _ _ rfl) (pbo 3 E1 M1 1 E2 M2 3 _ _ _ rfl) (pbo 3 E1 M1 1 E2 M2 1 _ _ _ rfl) (HI _) rfl
  · rw [show divK m x 3 n1 E1 M1 2 n2 E2 M2 = infI m x (n1 != n2) by simp [divK]]; exact pdiv_inf1 m x a b 3 E1 M1 2 E2 M2 _ n1 n2 w HO (pei 3 E1 M1 2 E2 M2 4 _ _ _ rfl) (pbo 3 E1 M1 2 E2 M2 3 _ _ _ rfl) (pbo 3 E1 M1 2 E2 M2 1 _ _ _ rfl) (HI _) rfl
  · rw [show divK m x 3 n1 E1 M1 3 n2 E2 M2 = nanI m x by simp [divK]]; exact pdiv_nan2 m x a b 3 E1 M1 3 E2 M2 _ n1 n2 w HO (pei 3 E1 M1 3 E2 M2 4 _ _ _ rfl) (pbo 3 E1 M1 3 E2 M2 3 _ _ _ rfl) HN
  · rw [show divK m x 3 n1 E1 M1 4 n2 E2 M2 = nanI m x by simp [divK]]; exact pdiv_nan m x a b 3 E1 M1 4 E2 M2 _ n1 n2 w HO (pei 3 E1 M1 4 E2 M2 4 _ _ _ rfl) HN
  · rw [show divK m x 4 n1 E1 M1 1 n2 E2 M2 = nanI m x by simp [divK]]; exact pdiv_nan m x a b 4 E1 M1 1 E2 M2 _ n1 n2 w HO (pei 4 E1 M1 1 E2 M2 4 _ _ _ rfl) HN
  · rw [show divK m x 4 n1 E1 M1 2 n2 E2 M2 = nanI m x by simp [divK]]; exact pdiv_nan m x a b 4 E1 M1 2 E2 M2 _ n1 n2 w HO (pei 4 E1 M1 2 E2 M2 4 _ _ _ rfl) HN
  · rw [show divK m x 4 n1 E1 M1 3 n2 E2 M2 = nanI m x by simp [divK]]; exact pdiv_nan m x a b 4 E1 M1 3 E2 M2 _ n1 n2 w HO (pei 4 E1 M1 3 E2 M2 4 _ _ _ rfl) HN
  · rw [show divK m x 4 n1 E1 M1 4 n2 E2 M2 = nanI m x by simp [divK]]; exact pdiv_nan m x a b 4 E1 M1 4 E2 M2 _ n1 n2 w HO (pei 4 E1 M1 4 E2 M2 4 _ _ _ rfl) HN
theorem pmod_k (m x : Nat) (a b K1 E1 M1 K2 E2 M2 : Int) (n1 n2 : Bool) (w : World) (hok : okF m x) (h1 : K1 = 1 ∨ K1 = 2 ∨ K1 = 3 ∨ K1 = 4) (h2 : K2 = 1 ∨ K2 = 2 ∨ K2 = 3 ∨ K2 = 4) (f1 : K1 = 2 → FinP m x E1 M1) (f2 : K2 = 2 → FinP m x E2 M2) (HO : OpenC m x a b K1 n1 E1 M1 K2 n2 E2 M2) :
    Calls Tryd.prog 21 #[fmtV m x, .int .u64 a, .int .u64 b] w fun r w' => r = .returned (.tuple #[.int .u64 (restK m x a K1 n1 E1 M1 K2 n2 E2 M2), .int .u64 (quoK m x K1 n1 E1 M1 K2 n2 E2 M2), .int .i64 0]) ∧ Below w.heap.size w w' := by
  have HN : Hid (∀ w, Calls Tryd.prog 31 #[fmtV m x] w fun r w' => r = .returned (.int .u64 (nanI m x)) ∧ Below w.heap.size w w') := hidden fun w => pnan_any m x w hok
  have HZ : ∀ s, Hid (∀ w, Calls Tryd.prog 33 #[fmtV m x, .bool s] w fun r w' => r = .returned (.int .u64 (sgnW s (m + x))) ∧ Below w.heap.size w w') := fun s => hidden fun w => pzero_any m x s w hok
  have HI : ∀ s, Hid (∀ w, Calls Tryd.prog 36 #[fmtV m x, .bool s] w fun r w' => r = .returned (.int .u64 (infI m x s)) ∧ Below w.heap.size w w') := fun s => hidden fun w => pinf_any m x s w hok
  rcases h1 with rfl | rfl | rfl | rfl <;> rcases h2 with rfl | rfl | rfl | rfl
  · rw [show restK m x a 1 n1 E1 M1 1 n2 E2 M2 = nanI m x by simp [restK], show quoK m x 1 n1 E1 M1 1 n2 E2 M2 = nanI m x by simp [quoK]]; exact pmod_nan3 m x a b 1 E1 M1 1 E2 M2 _ n1 n2 w HO (pei 1 E1 M1 1 E2 M2 4 _ _ _ rfl) HN rfl rfl
  · rw [show restK m x a 1 n1 E1 M1 2 n2 E2 M2 = a by simp [restK], show quoK m x 1 n1 E1 M1 2 n2 E2 M2 = sgnW (n1 != n2) (m + x) by simp [quoK]]; exact pmod_z1 m x a b 1 E1 M1 2 E2 M2 _ n1 n2 w HO (pei 1 E1 M1 2 E2 M2 4 _ _ _ rfl) (HZ _) rfl rfl rfl
  · rw [show restK m x a 1 n1 E1 M1 3 n2 E2 M2 = a by simp [restK], show quoK m x 1 n1 E1 M1 3 n2 E2 M2 = sgnW (n1 != n2) (m + x) by simp [quoK]]; exact pmod_z1 m x a b 1 E1 M1 3 E2 M2 _ n1 n2 w HO (pei 1 E1 M1 3 E2 M2 4 _ _ _ rfl) (HZ _) rfl rfl rfl
  · rw [show restK m x a 1 n1 E1 M1 4 n2 E2 M2 = nanI m x by simp [restK], show quoK m x 1 n1 E1 M1 4 n2 E2 M2 = nanI m x by simp [quoK]]; exact pmod_nan m x a b 1 E1 M1 4 E2 M2 _ n1 n2 w HO (pei 1 E1 M1 4 E2 M2 4 _ _ _ rfl) HN
  · rw [show restK m x a 2 n1 E1 M1 1 n2 E2 M2 = nanI m x by simp [restK], show quoK m x 2 n1 E1 M1 1 n2 E2 M2 = nanI m x by simp [quoK]]; exact pmod_nan3 m x a b 2 E1 M1 1 E2 M2 _ n1 n2 w HO (pei 2 E1 M1 1 E2 M2 4 _ _ _ rfl) HN rfl rfl
  · by_cases hlt : E1 < E2
    · rw [show restK m x a 2 n1 E1 M1 2 n2 E2 M2 = a by simp [restK, hlt], show quoK m x 2 n1 E1 M1 2 n2 E2 M2 = sgnW (n1 != n2) (m + x) by simp [quoK, hlt]]; exact pmod_lt m x a b 2 E1 M1 2 E2 M2 _ n1 n2 w HO (pei 2 E1 M1 2 E2 M2 4 _ _ _ rfl) (HZ _) rfl rfl rfl rfl hlt
    · obtain ⟨r1, r2, r3, r4⟩ := (f1 rfl).rng hok
      obtain ⟨s1, s2, s3, s4⟩ := (f2 rfl).rng hok
      obtain ⟨k, hk⟩ : ∃ k : Nat, E1 - E2 = k := ⟨(E1 - E2).toNat, by omega⟩
      have hkn : (E1 - E2).toNat = k := by omega
      have hA : 0 ≤ M1 * p2 k := Int.mul_nonneg (by omega) (Int.le_of_lt (p2_pos k))
      have l0 := Int.emod_nonneg (M1 * p2 k) (show M2 ≠ 0 by omega)
      have l1 := Int.emod_lt_of_pos (M1 * p2 k) (show 0 < M2 by omega)
      have hs := wqS_le M1 M2 k (by omega) r4 (by omega)
      have hQ : 0 ≤ wqQ M1 M2 k := Int.ediv_nonneg hA (by omega)
      have t0 : 0 ≤ wqQ M1 M2 k / p2 (wqS M1 M2 k) := Int.ediv_nonneg hQ (Int.le_of_lt (p2_pos _))
      obtain ⟨t1, t2⟩ := wq_top M1 M2 k hQ
      have hm52 := hok.2.1
      simp only [restK, quoK, hlt, hkn]
      exact pmod_fin m x a b 2 E1 M1 2 E2 M2 _ _ (wqQ M1 M2 k / p2 (wqS M1 M2 k)) (wqS M1 M2 k) (M1 * p2 k % M2) k n1 n2 (decide (wqQ M1 M2 k % p2 (wqS M1 M2 k) ≠ 0)) w HO (pei 2 E1 M1 2 E2 M2 4 _ _ _ rfl) (hidden fun w => pwquo_fun M1 M2 k w (by omega) r4 (by omega) s4 (by omega)) (hidden fun w => ppack_any m x (n1 != n2) _ (wqQ M1 M2 k / p2 (wqS M1 M2 k)) _ _ (wqS M1 M2 k) w hok (by omega) (by omega) (by omega) (by omega) (by omega) t0 (by omega) (fun h => by have := t2 (by simpa using h); omega)) (hidden fun w => ppack_any m x n1 false (M1 * p2 k % M2) _ _ E2 w hok (by omega) (by omega) (by omega) (by omega) (by omega) l0 (by omega) (fun h => by cases h)) rfl rfl rfl rfl hlt (by rw [wrapi _ (by omega) (by omega)]; exact hk)
  · rw [show restK m x a 2 n1 E1 M1 3 n2 E2 M2 = a by simp [restK], show quoK m x 2 n1 E1 M1 3 n2 E2 M2 = sgnW (n1 != n2) (m + x) by simp [quoK]]; exact pmod_z2 m x a b 2 E1 M1 3 E2 M2 _ n1 n2 w HO (pei 2 E1 M1 3 E2 M2 4 _ _ _ rfl) (HZ _) rfl rfl rfl rfl
  · rw [show restK m x a 2 n1 E1 M1 4 n2 E2 M2 = nanI m x by simp [restK], show quoK m x 2 n1 E1 M1 4 n2 E2 M2 = nanI m x by simp [quoK]]; exact pmod_nan m x a b 2 E1 M1 4 E2 M2 _ n1 n2 w HO (pei 2 E1 M1 4 E2 M2 4 _ _ _ rfl) HN
  · rw [show restK m x a 3 n1 E1 M1 1 n2 E2 M2 = nanI m x by simp [restK], show quoK m x 3 n1 E1 M1 1 n2 E2 M2 = nanI m x by simp [quoK]]; exact pmod_nan2 m x a b 3 E1 M1 1 E2 M2 _ n1 n2 w HO (pei 3 E1 M1 1 E2 M2 4 _ _ _ rfl) HN rfl
  · rw [show restK m x a 3 n1 E1 M1 2 n2 E2 M2 = nanI m x by simp [restK], show quoK m x 3 n1 E1 M1 2 n2 E2 M2 = nanI m x by simp [quoK]]; exact pmod_nan2 m x a b 3 E1 M1 2 E2 M2 _ n1 n2 w HO (pei 3 E1 M1 2 E2 M2 4 _ _ _ rfl) HN rfl
  · rw [show restK m x a 3 n1 E1 M1 3 n2 E2 M2 = nanI m x by simp [restK], show quoK m x 3 n1 E1 M1 3 n2 E2 M2 = nanI m x by simp [quoK]]; exact pmod_nan2 m x a b 3 E1 M1 3 E2 M2 _ n1 n2 w HO (pei 3 E1 M1 3 E2 M2 4 _ _ _ rfl) HN rfl
  · rw [show restK m x a 3 n1 E1 M1 4 n2 E2 M2 = nanI m x by simp [restK], show quoK m x 3 n1 E1 M1 4 n2 E2 M2 = nanI m x by simp [quoK]]; exact pmod_nan m x a b 3 E1 M1 4 E2 M2 _ n1 n2 w HO (pei 3 E1 M1 4 E2 M2 4 _ _ _ rfl) HN
  · rw [show restK m x a 4 n1 E1 M1 1 n2 E2 M2 = nanI m x by simp [restK], show quoK m x 4 n1 E1 M1 1 n2 E2 M2 = nanI m x by simp [quoK]]; exact pmod_nan m x a b 4 E1 M1 1 E2 M2 _ n1 n2 w HO (pei 4 E1 M1 1 E2 M2 4 _ _ _ rfl) HN
  · rw [show restK m x a 4 n1 E1 M1 2 n2 E2 M2 = nanI m x by simp [restK], show quoK m x 4 n1 E1 M1 2 n2 E2 M2 = nanI m x by simp [quoK]]; exact pmod_nan m x a b 4 E1 M1 2 E2 M2 _ n1 n2 w HO (pei 4 E1 M1 2 E2 M2 4 _ _ _ rfl) HN
  · rw [show restK m x a 4 n1 E1 M1 3 n2 E2 M2 = nanI m x by simp [restK], show quoK m x 4 n1 E1 M1 3 n2 E2 M2 = nanI m x by simp [quoK]]; exact pmod_nan m x a b 4 E1 M1 3 E2 M2 _ n1 n2 w HO (pei 4 E1 M1 3 E2 M2 4 _ _ _ rfl) HN
  · rw [show restK m x a 4 n1 E1 M1 4 n2 E2 M2 = nanI m x by simp [restK], show quoK m x 4 n1 E1 M1 4 n2 E2 M2 = nanI m x by simp [quoK]]; exact pmod_nan m x a b 4 E1 M1 4 E2 M2 _ n1 n2 w HO (pei 4 E1 M1 4 E2 M2 4 _ _ _ rfl) HN
end Go.Proofs.YthfjjkikeebopaaDoor
