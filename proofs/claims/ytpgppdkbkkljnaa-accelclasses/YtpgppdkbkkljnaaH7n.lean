/- The walk of HeaderParses: what Parse answers of any bytes is what the document answers. -/
import Derived.Test.YtpgppdkbkkljnaaH7l
import Derived.Test.YtpgppdkbkkljnaaH7p
namespace Go.Proofs.Ytpgppdkbkkljnaa
open Go.RowKit
set_option maxHeartbeats 1000000
set_option maxRecDepth 100000
set_option linter.unusedVariables false

theorem rparse_nil (a : Option Addr) (cap : Nat) (w : World) :
    Calls Try.prog 39 #[.slice a 0 cap] w fun e w' => e = .returned (.tuple #[.agg #[.int .u32 0, .int .u32 0, .int .u32 0, .int .u32 0, .int .u32 0, .int .u32 0, .int .u32 0, .int .u32 0], .int .i64 2, .int .i64 0]) ∧ Below w.heap.size w w' := by
  go_enter Try.func39, Try.ntmps39
  go_wp2
  go_rounds 1
  refine bodyPost_ret (v := .tuple #[.agg #[.int .u32 0, .int .u32 0, .int .u32 0, .int .u32 0, .int .u32 0, .int .u32 0, .int .u32 0, .int .u32 0], .int .i64 2, .int .i64 0]) (by simp [results, Try.results39, go_sem]) rfl ⟨rfl, ?_⟩
  exact ((Below.refl _ _).alloc (Nat.le_refl _) _).alloc (by simp) _
theorem rparse_any (a : Option Addr) (L cap : Nat) (zs : List Int) (w : World) (h : Reads w a L cap zs) (hb : OkB zs) (hm : L ≤ 1000000) :
    Calls Try.prog 39 #[.slice a L cap] w fun e w' => e = .returned (.tuple #[hdV (parseH zs).1, .int .i64 (parseH zs).2.1, .int .i64 (parseH zs).2.2]) ∧ Below w.heap.size w w' := by
  by_cases h0 : L = 0
  · subst h0
    obtain rfl := List.eq_nil_of_length_eq_zero h.1
    exact rparse_nil a cap w
  · obtain ⟨g, o, rfl, hB⟩ := h.bs (by omega)
    exact rparse_some g o L cap zs w hB hb h.2.1 (by omega) hm _ _ _ _ _ _ _ _ _ rfl rfl rfl rfl rfl rfl rfl rfl rfl _ rfl
end Go.Proofs.Ytpgppdkbkkljnaa
