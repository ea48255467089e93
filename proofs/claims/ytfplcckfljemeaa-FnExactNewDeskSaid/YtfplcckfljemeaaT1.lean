/- Walks: four numbers, copied and looked at. -/
import Derived.Test.YtfplcckfljemeaaMem
import Derived.Test.YtfplcckfljemeaaArr
namespace Go.Proofs.Ytfplcckfljemeaa
open Go.RowKit
