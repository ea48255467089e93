/- Walks: powers of two. -/
import Derived.Test.YtibmaflcfmphgaaWA
namespace Go.Proofs.Ytibmaflcfmphgaa
open Go.RowKit
