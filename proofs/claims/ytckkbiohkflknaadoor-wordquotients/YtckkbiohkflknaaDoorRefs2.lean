/- Contracts of the document's own reckonings Div, Mod and Holds (package grottoref01): for all words each answers the same as package word's. -/
import Derived.Test.YtckkbiohkflknaaDoorRefs
namespace Go.Proofs.YtckkbiohkflknaaDoor
open Go.RowKit
set_option maxHeartbeats 400000

theorem divR_zero (a : Int) (w : World) :
    Calls Tryd.prog 21 #[.int .u32 a, .int .u32 0] w fun e w' => e = .returned (.tuple #[.int .u32 0, .int .i64 10]) ∧ w' = w := by
  go_enter Tryd.func21, Tryd.ntmps21
  go_wp2
  go_ret2
  exact ⟨rfl, rfl⟩
theorem modR_zero (a : Int) (w : World) :
    Calls Tryd.prog 22 #[.int .u32 a, .int .u32 0] w fun e w' => e = .returned (.tuple #[.int .u32 0, .int .i64 10]) ∧ w' = w := by
  go_enter Tryd.func22, Tryd.ntmps22
  go_wp2
  go_ret2
  exact ⟨rfl, rfl⟩
theorem quot_bd (x y : Nat) (hx : (x : Int) ≤ 2147483648) : 0 ≤ (x : Int) / (y : Int) ∧ (x : Int) / (y : Int) ≤ 2147483648 := by
  refine ⟨Int.ediv_nonneg (by omega) (by omega), ?_⟩
  exact Int.le_trans (Int.ediv_le_self _ (by omega)) hx
theorem divW_same (a b : Int) (h : (wrap32 a < 0) ↔ (wrap32 b < 0)) : ((wrap32 a).natAbs : Int) / ((wrap32 b).natAbs : Int) % 4294967296 = divW a b := by
  unfold divW
  rw [wrap32_mod, tdiv_signs, if_pos h]
theorem divW_diff (a b : Int) (h : ¬ ((wrap32 a < 0) ↔ (wrap32 b < 0))) : -(((wrap32 a).natAbs : Int) / ((wrap32 b).natAbs : Int)) % 4294967296 = divW a b := by
  unfold divW
  rw [wrap32_mod, tdiv_signs, if_neg h]
theorem modW_neg (a b : Int) (h : wrap32 a < 0) : -(((wrap32 a).natAbs : Int) % ((wrap32 b).natAbs : Int)) % 4294967296 = modW a b := by
  unfold modW
  rw [tmod_signs, if_pos h]
theorem modW_pos (a b : Int) (h : ¬ wrap32 a < 0) : ((wrap32 a).natAbs : Int) % ((wrap32 b).natAbs : Int) % 4294967296 = modW a b := by
  unfold modW
  rw [tmod_signs, if_neg h]
theorem divR_any (a b : Int) (w : World) (hb : (b == 0) = false) (a0 : 0 ≤ a) (a1 : a ≤ 4294967295) (b0 : 0 ≤ b) (b1 : b ≤ 4294967295) :
    Calls Tryd.prog 21 #[.int .u32 a, .int .u32 b] w fun e w' => e = .returned (.tuple #[.int .u32 (divW a b), .int .i64 0]) ∧ w' = w := by
  have hz : ¬ wrap32 b = 0 := by rw [wrap32_zero b b0 b1]; simpa using hb
  have hx := wrap32_range a
  have hy := wrap32_range b
  have hq := quot_bd (wrap32 a).natAbs (wrap32 b).natAbs (by omega)
  have hn : (((wrap32 b).natAbs : Int) == 0) = false := by simpa using hz
  have hn2 : (0 : Int) ≤ ((wrap32 a).natAbs : Int) := by omega
  have hn3 : (0 : Int) ≤ ((wrap32 b).natAbs : Int) := by omega
  by_cases hs : (wrap32 a < 0) ↔ (wrap32 b < 0)
  case' pos => have hng : (!(decide (wrap32 a < 0) == decide (wrap32 b < 0))) = false := by simp [hs]
  case' neg => have hng : (!(decide (wrap32 a < 0) == decide (wrap32 b < 0))) = true := by simp; simpa using hs
  case' pos => have H := hidden (divW_same a b hs)
  case' neg => have H := hidden (divW_diff a b hs)
  all_goals clear hs
  all_goals
    go_enter Tryd.func21, Tryd.ntmps21
    go_wp2_with (first | (go_at_call 23; refine (int_any _ _ (by omega) (by omega)).mono ?_; rintro e w' ⟨rfl, rfl⟩) | (go_at_call 36; refine (abs_any _ _ (by omega) (by omega)).mono ?_; rintro e w' ⟨rfl, rfl⟩) | (go_at_call 37; refine (of_any _ _).mono ?_; rintro e w' ⟨rfl, rfl⟩))
    go_ret2
    exact ⟨ret_two H.out, rfl⟩
theorem rest_bd (x y : Nat) (hy : (0 : Int) < (y : Int)) (hy2 : (y : Int) ≤ 2147483648) : 0 ≤ (x : Int) % (y : Int) ∧ (x : Int) % (y : Int) ≤ 2147483648 := by
  have h1 := Int.emod_nonneg (x : Int) (show (y : Int) ≠ 0 by omega)
  have h2 := Int.emod_lt_of_pos (x : Int) hy
  omega
theorem modR_any (a b : Int) (w : World) (hb : (b == 0) = false) (a0 : 0 ≤ a) (a1 : a ≤ 4294967295) (b0 : 0 ≤ b) (b1 : b ≤ 4294967295) :
    Calls Tryd.prog 22 #[.int .u32 a, .int .u32 b] w fun e w' => e = .returned (.tuple #[.int .u32 (modW a b), .int .i64 0]) ∧ w' = w := by
  have hz : ¬ wrap32 b = 0 := by rw [wrap32_zero b b0 b1]; simpa using hb
  have hx := wrap32_range a
  have hy := wrap32_range b
  have hq := rest_bd (wrap32 a).natAbs (wrap32 b).natAbs (by omega) (by omega)
  have hn : (((wrap32 b).natAbs : Int) == 0) = false := by simpa using hz
  have hn2 : (0 : Int) ≤ ((wrap32 a).natAbs : Int) := by omega
  have hn3 : (0 : Int) ≤ ((wrap32 b).natAbs : Int) := by omega
  by_cases sx : wrap32 a < 0
  case' pos => have H := hidden (modW_neg a b sx)
  case' neg => have H := hidden (modW_pos a b sx)
  all_goals
    go_enter Tryd.func22, Tryd.ntmps22
    go_wp2_with (first | (go_at_call 23; refine (int_any _ _ (by omega) (by omega)).mono ?_; rintro e w' ⟨rfl, rfl⟩) | (go_at_call 36; refine (abs_any _ _ (by omega) (by omega)).mono ?_; rintro e w' ⟨rfl, rfl⟩) | (go_at_call 37; refine (of_any _ _).mono ?_; rintro e w' ⟨rfl, rfl⟩))
    go_ret2
    exact ⟨ret_two H.out, rfl⟩
end Go.Proofs.YtckkbiohkflknaaDoor
