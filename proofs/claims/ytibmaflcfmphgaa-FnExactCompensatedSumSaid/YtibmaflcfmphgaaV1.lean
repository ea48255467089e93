/- Walks: vectors of three float32. -/
import Derived.Test.YtibmaflcfmphgaaMem
import Derived.RegionTactic
import Derived.LoopTactic
import Derived.Below
namespace Go.Proofs.Ytibmaflcfmphgaa
open Go.RowKit
