/- The document's Sub (package grottoref03). -/
import Derived.Test.YthmobhnkoinmcaaS3ij
namespace Go.Proofs.Ythmobhnkoinmcaa
open Go.RowKit
set_option maxRecDepth 100000
set_option maxHeartbeats 1000000
set_option linter.unusedVariables false

end Go.Proofs.Ythmobhnkoinmcaa
