/- Contract of endAt of package memory: its four ways. -/
import Derived.Test.YtejkaambbaejaaaY9A
import Derived.Deep.RegionHeld3
namespace Go.Proofs.Ytejkaambbaejaaa
open Go.RowKit
set_option maxHeartbeats 1000000
set_option maxRecDepth 100000
set_option linter.unusedVariables false

end Go.Proofs.Ytejkaambbaejaaa
