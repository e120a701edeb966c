/- Contract of endAt of package memory: its four ways. -/
import Derived.Test.YtppgpfppmbdfhaaY9A
import Derived.Deep.RegionHeld3
namespace Go.Proofs.Ytppgpfppmbdfhaa
open Go.RowKit
set_option maxHeartbeats 1000000
set_option maxRecDepth 100000
set_option linter.unusedVariables false

end Go.Proofs.Ytppgpfppmbdfhaa
