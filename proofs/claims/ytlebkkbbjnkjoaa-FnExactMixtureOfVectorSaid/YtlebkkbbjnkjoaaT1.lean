/- Walks: four numbers, copied and looked at. -/
import Derived.Test.YtlebkkbbjnkjoaaMem
import Derived.Test.YtlebkkbbjnkjoaaArr
namespace Go.Proofs.Ytlebkkbbjnkjoaa
open Go.RowKit
