/- For every int64, BellPair of the program hands back what BellPair of the specification does, the signs of zeros too: the law FnExactBellPair returns true, and its argument reads as before. No condition. -/
import Derived.Test.YtlglbinalocilaaBell
import Derived.Test.YtlglbinalocilaaB3
namespace Go.Proofs.Ytlglbinalocilaa
open Go.RowKit

theorem bellHolds : Rows.FnExactBellPairSaid := BellPair.holds bellOk

end Go.Proofs.Ytlglbinalocilaa
