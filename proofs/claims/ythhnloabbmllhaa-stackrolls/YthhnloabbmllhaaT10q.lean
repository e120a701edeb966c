/- The walk of StackRolls: all its cases. -/
import Derived.Test.YthhnloabbmllhaaT10m
import Derived.Test.YthhnloabbmllhaaT10n
import Derived.Test.YthhnloabbmllhaaT10o
import Derived.Test.YthhnloabbmllhaaT10p
namespace Go.Proofs.Ythhnloabbmllhaa
open Go.RowKit
set_option maxHeartbeats 1000000
set_option maxRecDepth 100000
set_option linter.unusedVariables false

theorem stackRolls_walk (a : Option Addr) (len cap : Nat) (zs : List Int) (n k : Int) (w : World) (hb : IsRow .u32 w a len cap zs) (hn : (Lit.int .u32 n).wf = true) (hk : (Lit.int .u32 k).wf = true) :
    Calls Try.prog 4 #[.slice a len cap, .int .u32 n, .int .u32 k] w fun e w' => e = .returned (.bool true) ∧ Below w.heap.size w w' := by
  have b0 := bounds_u32 hn
  have b1 := bounds_u32 hk
  obtain ⟨n, rfl⟩ := Int.eq_ofNat_of_zero_le b0.1
  obtain ⟨k, rfl⟩ := Int.eq_ofNat_of_zero_le b1.1
  obtain ⟨xs, hv, hc, hl2⟩ := vrow_of hb
  by_cases hl : len ≤ 400
  · by_cases hnl : n ≤ len
    · by_cases hn0 : n = 0
      · by_cases hkx : k = 2147483648
        · exact rolls_zx a len cap n k xs w hv hc hl (by omega) (by omega) hnl hn0 hkx
        · exact rolls_zn a len cap n k xs w hv hc hl (by omega) (by omega) hnl hn0 hkx
      · by_cases hkx : k = 2147483648
        · exact rolls_px a len cap n k xs w hv hc hl (by omega) (by omega) hnl hn0 hkx
        · exact rolls_pn a len cap n k xs w hv hc hl (by omega) (by omega) hnl hn0 hkx
    · exact rolls_under a len cap n k xs w hv hc hl (by omega) (by omega) hnl
  · exact rolls_live a len cap n k w (by omega) hl2
end Go.Proofs.Ythhnloabbmllhaa
