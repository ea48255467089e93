/- Walks: numbers by their bits, finite numbers. -/
import Derived.Test.YtfplcckfljemeaaWA
import Derived.Test.YtfplcckfljemeaaTwo
namespace Go.Proofs.Ytfplcckfljemeaa
open Go.RowKit

theorem andNot_sign (x : Nat) (hx : x < 4294967296) : bits .andNot .u32 (x : Int) 2147483648 = (mag x : Int) := by
  have h := Go.u32_andNot_nat x 2147483648 hx (by omega)
  rw [show ((2147483648 : Nat) : Int) = 2147483648 from rfl] at h
  rw [h, show (4294967295 - 2147483648 : Nat) = 2 ^ 31 - 1 from rfl, Nat.and_two_pow_sub_one_eq_mod]; rfl

