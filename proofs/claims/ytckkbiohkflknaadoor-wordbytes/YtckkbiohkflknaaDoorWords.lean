/- Contracts of package word's reckonings (Div, Mod, Shl, Shr, Sar, Extend, isWidth) and of the law's num: for all words each answers what Math's functions say, and leaves the world as it was. -/
import Derived.Test.YtckkbiohkflknaaDoorMath
import Derived.Test.YtckkbiohkflknaaDoorRows
namespace Go.Proofs.YtckkbiohkflknaaDoor
open Go.RowKit
set_option maxHeartbeats 1000000

theorem isWidth_yes (n : Int) (w : World) (h : n = 1 ∨ n = 2 ∨ n = 4) :
    Calls Tryd.prog 35 #[.int .i64 n] w fun e w' => e = .returned (.bool true) ∧ w' = w := by
  rcases h with rfl | rfl | rfl
  all_goals
    go_enter Tryd.func35, Tryd.ntmps35
    go_wp2
    go_ret
    exact ⟨rfl, rfl⟩
theorem isWidth_no (n : Int) (w : World) (h1 : (n == 1) = false) (h2 : (n == 2) = false) (h4 : (n == 4) = false) :
    Calls Tryd.prog 35 #[.int .i64 n] w fun e w' => e = .returned (.bool false) ∧ w' = w := by
  go_enter Tryd.func35, Tryd.ntmps35
  go_wp2
  go_ret
  exact ⟨rfl, rfl⟩
theorem num_any (n : Int) (w : World) :
    Calls Tryd.prog 14 #[.int .i64 n] w fun e w' => e = .returned (.int .i64 n) ∧ w' = w := by
  go_enter Tryd.func14, Tryd.ntmps14
  go_wp2
  go_ret
  exact ⟨rfl, rfl⟩
theorem div_zero (a : Int) (w : World) :
    Calls Tryd.prog 19 #[.int .u32 a, .int .u32 0] w fun e w' => e = .returned (.tuple #[.int .u32 0, .int .i64 10]) ∧ w' = w := by
  go_enter Tryd.func19, Tryd.ntmps19
  go_wp2
  go_ret2
  exact ⟨rfl, rfl⟩
theorem div_any (a b : Int) (w : World) (hb : (b == 0) = false) (b0 : 0 ≤ b) (b1 : b ≤ 4294967295) :
    Calls Tryd.prog 19 #[.int .u32 a, .int .u32 b] w fun e w' => e = .returned (.tuple #[.int .u32 (divW a b), .int .i64 0]) ∧ w' = w := by
  have hz : ¬ wrap32 b = 0 := by rw [wrap32_zero b b0 b1]; simpa using hb
  have hz2 : (wrap32 b == 0) = false := by simpa using hz
  go_enter Tryd.func19, Tryd.ntmps19
  go_wp2
  go_ret2
  exact ⟨rfl, rfl⟩
theorem mod_zero (a : Int) (w : World) :
    Calls Tryd.prog 20 #[.int .u32 a, .int .u32 0] w fun e w' => e = .returned (.tuple #[.int .u32 0, .int .i64 10]) ∧ w' = w := by
  go_enter Tryd.func20, Tryd.ntmps20
  go_wp2
  go_ret2
  exact ⟨rfl, rfl⟩
theorem mod_any (a b : Int) (w : World) (hb : (b == 0) = false) (b0 : 0 ≤ b) (b1 : b ≤ 4294967295) :
    Calls Tryd.prog 20 #[.int .u32 a, .int .u32 b] w fun e w' => e = .returned (.tuple #[.int .u32 (modW a b), .int .i64 0]) ∧ w' = w := by
  have hz : ¬ wrap32 b = 0 := by rw [wrap32_zero b b0 b1]; simpa using hb
  have hz2 : (wrap32 b == 0) = false := by simpa using hz
  go_enter Tryd.func20, Tryd.ntmps20
  go_wp2
  go_ret2
  exact ⟨rfl, rfl⟩
theorem sar_any (a n : Int) (w : World) (h0 : 0 ≤ n) (_h1 : n ≤ 4294967295) :
    Calls Tryd.prog 27 #[.int .u32 a, .int .u32 n] w fun e w' => e = .returned (.int .u32 (sarW a n)) ∧ w' = w := by
  go_enter Tryd.func27, Tryd.ntmps27
  go_wp2
  go_ret
  exact ⟨rfl, rfl⟩
theorem ext_any (a n : Int) (w : World) :
    Calls Tryd.prog 29 #[.int .u32 a, .int .i64 n] w fun e w' => e = .returned (.int .u32 (extW a n)) ∧ w' = w := by
  by_cases h1 : n = 1
  · subst h1
    go_enter Tryd.func29, Tryd.ntmps29
    go_wp2
    go_ret
    refine ⟨ret_int ?_, rfl⟩
    simp only [extW, if_true]
    rw [wrap32_mod, wrap_8]
  by_cases h2 : n = 2
  · subst h2
    go_enter Tryd.func29, Tryd.ntmps29
    go_wp2
    go_ret
    refine ⟨ret_int ?_, rfl⟩
    simp only [extW, if_true, if_neg (show ¬ (2 : Int) = 1 by decide)]
    rw [wrap32_mod, wrap_16]
  have e : extW a n = a := by simp [extW, h1, h2]
  have n1 : (n == 1) = false := by simpa using h1
  have n2 : (n == 2) = false := by simpa using h2
  rw [e]
  clear h1 h2 e
  go_enter Tryd.func29, Tryd.ntmps29
  go_wp2
  go_ret
  exact ⟨rfl, rfl⟩
theorem align_zero (a : Int) (w : World) :
    Calls Tryd.prog 33 #[.int .u32 a, .int .u32 0] w fun e w' => e = .returned (.tuple #[.int .u32 0, .bool false]) ∧ w' = w := by
  go_enter Tryd.func33, Tryd.ntmps33
  go_wp2
  go_ret2
  exact ⟨rfl, rfl⟩
theorem up64 (a b : Int) (a0 : 0 ≤ a) (a1 : a ≤ 4294967295) (b0 : 0 < b) (b1 : b ≤ 4294967295) : IntKind.u64.wrap ((a + b - 1) / b * b) = upW a b := by
  have h := up_bd a b a0 b0
  exact u64_of _ h.1 (by unfold upW at h; omega)
theorem align_no (a b : Int) (w : World) (a0 : 0 ≤ a) (a1 : a ≤ 4294967295) (b0 : 0 < b) (b1 : b ≤ 4294967295) (h : 4294967295 < upW a b) :
    Calls Tryd.prog 33 #[.int .u32 a, .int .u32 b] w fun e w' => e = .returned (.tuple #[.int .u32 0, .bool false]) ∧ w' = w := by
  have hz : (b == 0) = false := by simp; omega
  have hz1 : 0 ≤ b := by omega
  have hu := up64 a b a0 a1 b0 b1
  go_enter Tryd.func33, Tryd.ntmps33
  go_wp2
  go_ret2
  exact ⟨rfl, rfl⟩
theorem align_yes (a b : Int) (w : World) (a0 : 0 ≤ a) (a1 : a ≤ 4294967295) (b0 : 0 < b) (b1 : b ≤ 4294967295) (h : upW a b ≤ 4294967295) :
    Calls Tryd.prog 33 #[.int .u32 a, .int .u32 b] w fun e w' => e = .returned (.tuple #[.int .u32 (upW a b), .bool true]) ∧ w' = w := by
  have hz : (b == 0) = false := by simp; omega
  have hz1 : 0 ≤ b := by omega
  have hu := up64 a b a0 a1 b0 b1
  have hb := up_bd a b a0 b0
  have e : upW a b % 4294967296 = upW a b := by omega
  clear hb
  go_enter Tryd.func33, Tryd.ntmps33
  go_wp2
  go_ret2
  exact ⟨rfl, rfl⟩
end Go.Proofs.YtckkbiohkflknaaDoor
