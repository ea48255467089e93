/- Walks: vectors and their sums. -/
import Derived.Test.YtibmaflcfmphgaaV1
import Derived.Test.YtibmaflcfmphgaaArr
import Derived.Lib.Hide
namespace Go.Proofs.Ytibmaflcfmphgaa
open Go.RowKit

/-- The vector's result, or the limit. -/
def vecOr (k : Int) (a b c : Nat) : Value := if fin a && fin b && fin c then .tuple #[.agg #[.float .f32 a, .float .f32 b, .float .f32 c], .int .i64 0] else .tuple #[.agg #[.float .f32 0, .float .f32 0, .float .f32 0], .int .i64 k]
