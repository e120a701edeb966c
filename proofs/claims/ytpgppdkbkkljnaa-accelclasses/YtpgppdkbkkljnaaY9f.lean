/- Contract of endAt of package memory: its four ways. -/
import Derived.Test.YtpgppdkbkkljnaaY9A
import Derived.Deep.RegionHeld3
namespace Go.Proofs.Ytpgppdkbkkljnaa
open Go.RowKit
set_option maxHeartbeats 1000000
set_option maxRecDepth 100000
set_option linter.unusedVariables false

end Go.Proofs.Ytpgppdkbkkljnaa
