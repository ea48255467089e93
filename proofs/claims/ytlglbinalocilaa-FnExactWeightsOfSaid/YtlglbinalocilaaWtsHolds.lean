/- For every float32, WeightsOf of the program hands back what WeightsOf of the specification does, the signs of zeros too: the law FnExactWeightsOf returns true, and its argument reads as before. No condition. -/
import Derived.Test.YtlglbinalocilaaWeights
import Derived.Test.YtlglbinalocilaaWt4
namespace Go.Proofs.Ytlglbinalocilaa
open Go.RowKit

theorem wtsHolds : Rows.FnExactWeightsOfSaid := WeightsOf.holds implWts

end Go.Proofs.Ytlglbinalocilaa
