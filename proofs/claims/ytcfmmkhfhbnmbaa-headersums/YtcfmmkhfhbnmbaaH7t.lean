/- The walk of HeaderSums: the sum of any bytes is the document's. -/
import Derived.Test.YtcfmmkhfhbnmbaaH7l
import Derived.Test.YtcfmmkhfhbnmbaaH7s
namespace Go.Proofs.Ytcfmmkhfhbnmbaa
open Go.RowKit
set_option maxHeartbeats 1000000
set_option maxRecDepth 100000
set_option linter.unusedVariables false

theorem headerSums_walk (a : Option Addr) (len cap : Nat) (zs : List Int) (w : World) (h : IsRow .u8 w a len cap zs) :
    Calls Try.prog 4 #[.slice a len cap] w fun e w' => e = .returned (.bool true) ∧ Below w.heap.size w w' := by
  obtain ⟨r1, r2, r3⟩ := reads_of_row h
  have HL := hidden live_any
  have hn1 : (len : Int) ≤ 9223372036854775807 := by omega
  have HS := hidden (hsum_any a len cap _ w r1 r2 r3)
  have HR := hidden (rsum_any a len cap _ w r1 r2 r3)
  clear r1 r2 h
  generalize sumV (zs.take len) = S at *
  by_cases hbig : (65536 : Int) < (len : Int)
  · go_enter Try.func4, Try.ntmps4
    go_wp2_with (go_at_call 9; refine (HL.out _).mono ?_; rintro e w9 ⟨rfl, hb⟩)
    go_ret
    exact ⟨rfl, hb⟩
  · go_enter Try.func4, Try.ntmps4
    go_wp2_with (first | (go_at_call 15; refine HS.out.mono ?_; rintro e w9 ⟨rfl, hw⟩; obtain rfl := hw.symm) | (go_at_call 16; refine HR.out.mono ?_; rintro e w9 ⟨rfl, hw⟩; obtain rfl := hw.symm) | (go_at_call 9; refine (HL.out _).mono ?_; rintro e w9 ⟨rfl, hb⟩))
    go_ret
    exact ⟨rfl, hb⟩
end Go.Proofs.Ytcfmmkhfhbnmbaa
