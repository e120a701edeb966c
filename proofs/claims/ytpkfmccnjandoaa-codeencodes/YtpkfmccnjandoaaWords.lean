/- Contracts of package word's reckonings (Div, Mod, Shl, Shr, Sar, Extend, isWidth) and of the law's num: for all words each answers what Math's functions say, and leaves the world as it was. -/
import Derived.Test.YtpkfmccnjandoaaMath
import Derived.Test.YtpkfmccnjandoaaRows
namespace Go.Proofs.Ytpkfmccnjandoaa
open Go.RowKit
set_option maxHeartbeats 1000000

theorem isWidth_yes (n : Int) (w : World) (h : n = 1 ∨ n = 2 ∨ n = 4) :
    Calls Try.prog 58 #[.int .i64 n] w fun e w' => e = .returned (.bool true) ∧ w' = w := by
  rcases h with rfl | rfl | rfl
  all_goals
    go_enter Try.func58, Try.ntmps58
    go_wp2
    go_ret
    exact ⟨rfl, rfl⟩
theorem isWidth_no (n : Int) (w : World) (h1 : (n == 1) = false) (h2 : (n == 2) = false) (h4 : (n == 4) = false) :
    Calls Try.prog 58 #[.int .i64 n] w fun e w' => e = .returned (.bool false) ∧ w' = w := by
  go_enter Try.func58, Try.ntmps58
  go_wp2
  go_ret
  exact ⟨rfl, rfl⟩
theorem ext_any (a n : Int) (w : World) :
    Calls Try.prog 52 #[.int .u32 a, .int .i64 n] w fun e w' => e = .returned (.int .u32 (extW a n)) ∧ w' = w := by
  by_cases h1 : n = 1
  · subst h1
    go_enter Try.func52, Try.ntmps52
    go_wp2
    go_ret
    refine ⟨ret_int ?_, rfl⟩
    simp only [extW, if_true]
    rw [wrap32_mod, wrap_8]
  by_cases h2 : n = 2
  · subst h2
    go_enter Try.func52, Try.ntmps52
    go_wp2
    go_ret
    refine ⟨ret_int ?_, rfl⟩
    simp only [extW, if_true, if_neg (show ¬ (2 : Int) = 1 by decide)]
    rw [wrap32_mod, wrap_16]
  have e : extW a n = a := by simp [extW, h1, h2]
  have n1 : (n == 1) = false := by simpa using h1
  have n2 : (n == 2) = false := by simpa using h2
  rw [e]
  clear h1 h2 e
  go_enter Try.func52, Try.ntmps52
  go_wp2
  go_ret
  exact ⟨rfl, rfl⟩
theorem up64 (a b : Int) (a0 : 0 ≤ a) (a1 : a ≤ 4294967295) (b0 : 0 < b) (b1 : b ≤ 4294967295) : IntKind.u64.wrap ((a + b - 1) / b * b) = upW a b := by
  have h := up_bd a b a0 b0
  exact u64_of _ h.1 (by unfold upW at h; omega)
end Go.Proofs.Ytpkfmccnjandoaa
