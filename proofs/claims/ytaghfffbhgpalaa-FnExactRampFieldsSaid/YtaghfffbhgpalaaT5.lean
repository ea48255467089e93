/- Walks: TurnOfParts of the program and of the specification. -/
import Derived.Test.YtaghfffbhgpalaaKat
namespace Go.Proofs.Ytaghfffbhgpalaa
open Go.RowKit

/-- What TurnOfParts hands back. -/
def turnRes (a b c d : Nat) : Value := if fin a && (fin b && (fin c && fin d)) then .tuple #[tableOf a b c d, .int .i64 0] else .tuple #[noTable, .int .i64 1]

end Go.Proofs.Ytaghfffbhgpalaa
