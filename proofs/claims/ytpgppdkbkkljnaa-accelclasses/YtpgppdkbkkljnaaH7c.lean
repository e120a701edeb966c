/- Contracts of package header's wholePages, checkNumbers, numberAt and Sum. -/
import Derived.Test.YtpgppdkbkkljnaaH7a
import Derived.Deep.QuietTactic
import Derived.BigQuiet
namespace Go.Proofs.Ytpgppdkbkkljnaa
open Go.RowKit
set_option maxHeartbeats 1000000
set_option maxRecDepth 100000
set_option linter.unusedVariables false

theorem tmod256 (x : Int) : x.tmod 256 = 0 ↔ x % 256 = 0 := by rw [← Int.dvd_iff_tmod_eq_zero, Int.dvd_iff_emod_eq_zero]
theorem pages_yes (x : Int) (w : World) (h : x % 256 = 0) : Calls Try.prog 74 #[.int .u32 x] w fun e w' => e = .returned (.bool true) ∧ w' = w := by
  have h1 : (x.tmod 256 == 0) = true := by simpa using (tmod256 x).2 h
  go_enter Try.func74, Try.ntmps74
  go_wp2
  go_ret
  exact ⟨rfl, rfl⟩
theorem pages_no (x : Int) (w : World) (h : ¬ x % 256 = 0) : Calls Try.prog 74 #[.int .u32 x] w fun e w' => e = .returned (.bool false) ∧ w' = w := by
  have h1 : (x.tmod 256 == 0) = false := by simpa using fun z => h ((tmod256 x).1 z)
  go_enter Try.func74, Try.ntmps74
  go_wp2
  go_ret
  exact ⟨rfl, rfl⟩
theorem hnum_any (g o L cap p : Nat) (zs : List Int) (w : World) (h : Bs w g o L zs) (hb : OkB zs) (hp : p + 4 ≤ L) (hcap : L ≤ cap) (hm : (L : Int) ≤ 9223372036854775807) :
    Calls Try.prog 73 #[.slice (some ⟨g, o, none⟩) L cap, .int .i64 (p : Int)] w fun e w' => e = .returned (.int .u32 (beV zs p 4)) ∧ w' = w := by
  have HB := hidden (be_any g o L cap zs p 4 w (Or.inr (Or.inr rfl)) (by omega) (by omega) (by omega) hcap h.2 hb)
  rw [Int.toNat_natCast] at HB
  clear h
  go_enter Try.func73, Try.ntmps73
  go_wp2_with (go_at_call 32; refine HB.out.mono ?_; rintro e w9 ⟨rfl, hw⟩; obtain rfl := hw.symm)
  go_ret
  exact ⟨rfl, rfl⟩
end Go.Proofs.Ytpgppdkbkkljnaa
