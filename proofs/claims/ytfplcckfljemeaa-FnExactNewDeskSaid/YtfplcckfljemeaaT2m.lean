/- Walks: tables of parts. -/
import Derived.Test.YtfplcckfljemeaaMem
import Derived.Test.YtfplcckfljemeaaArr
namespace Go.Proofs.Ytfplcckfljemeaa
open Go.RowKit

def noTable : Value := .agg #[.complex .f32 0 0, .complex .f32 0 0, .complex .f32 0 0, .complex .f32 0 0]

/-- The table of parts, as a value. -/
def tableOf (a b c d : Nat) : Value := .agg #[.complex .f32 a (Op.negFloat .f32 d), .complex .f32 (Op.negFloat .f32 c) (Op.negFloat .f32 b), .complex .f32 c (Op.negFloat .f32 b), .complex .f32 a d]

theorem neg_facts (x : Nat) (hx : x < 4294967296) : Op.negFloat .f32 x < 4294967296 ∧ fin (Op.negFloat .f32 x) = fin x := by
  have h1 := word_split x hx
  have h2 := mag_lt x
  have h3 : Op.negFloat .f32 x = Ieee.single.word (!(x / 2147483648 % 2 == 1)) (mag x) := by
    conv => lhs; rw [h1]
    exact Flt.flip_word Ieee.single _ (mag x) (by rw [Flt.s_sw]; exact h2)
  rw [h3]
  have h4 : mag (Ieee.single.word (!(x / 2147483648 % 2 == 1)) (mag x)) = mag x := by
    generalize (!(x / 2147483648 % 2 == 1)) = s
    generalize hm : mag x = m at *
    unfold mag Ieee.Format.word
    rw [Flt.s_sw]
    cases s <;> simp <;> omega
  constructor
  · generalize (!(x / 2147483648 % 2 == 1)) = s
    unfold Ieee.Format.word
    rw [Flt.s_sw]
    cases s <;> simp <;> omega
  · unfold fin
    rw [h4]
end Go.Proofs.Ytfplcckfljemeaa
