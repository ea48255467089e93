/- Walks: powers of two. -/
import Derived.Test.YtfplcckfljemeaaWA
namespace Go.Proofs.Ytfplcckfljemeaa
open Go.RowKit
