/- Walks: a number in a range. -/
import Derived.Test.YtibmaflcfmphgaaRows
import Derived.WalkKit
import Derived.WalkSpells
import Derived.WalkLawsBesides
namespace Go.Proofs.Ytibmaflcfmphgaa
open Go.RowKit
