/- Contract of the document's Div (package grottoref03): quotients of two patterns. -/
import Derived.Test.YthmobhnkoinmcaaS3b
import Derived.Test.YthmobhnkoinmcaaN5m
namespace Go.Proofs.Ythmobhnkoinmcaa
open Go.RowKit
set_option maxRecDepth 100000
set_option maxHeartbeats 2000000
set_option linter.unusedVariables false

theorem has_of3 {w : World} {a : Option Addr} {l c : Nat} {ds : List Int} {N : Int} (rt : RdD w a l c ds) (kt : OkD ds) (vt : nv ds = N) (tt : l = 0 ∨ ds.getD (l - 1) 0 ≠ 0) : HasNat w a l c ds N := ⟨rt, kt, vt, tt⟩
end Go.Proofs.Ythmobhnkoinmcaa
