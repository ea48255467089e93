/- InnerOfVectors of the specification: sums of products, whatever comes. -/
import Derived.Test.YtibmaflcfmphgaaOp
import Derived.Test.YtibmaflcfmphgaaV2
import Derived.Lib.Hide
namespace Go.Proofs.Ytibmaflcfmphgaa
open Go.RowKit

/-- What the inner product is worth. -/
def innO (a b c d e f : Nat) : Option Nat := opO .add (opO .add (opO .mul (some a) (some d)) (opO .mul (some b) (some e))) (opO .mul (some c) (some f))

def vec3 (a b c : Nat) : Value := .agg #[.float .f32 a, .float .f32 b, .float .f32 c]
