/- Walks: rounded products and sums of complex numbers, those of the specification. -/
import Derived.Test.YtibmaflcfmphgaaBd
import Derived.Test.YtibmaflcfmphgaaW1
import Derived.Test.YtibmaflcfmphgaaMem
import Derived.Laws.ComplexArith
import Derived.Lib.Hide
namespace Go.Proofs.Ytibmaflcfmphgaa
open Go.RowKit

theorem cv_wd {x : Nat} {v : Int} (h : Vl x v) (w : World) : (convert 23 28 (.float .f32 x)).run Try.prog w = .ok (.float .f64 (wd x)) w :=
  run_convert_float_float w 23 28 .f32 .f64 _ _ (by rw [Try.underlying23]; rfl) Try.underlying28 (wd_ok h)

theorem cv_nr {x y : Nat} (h : floatToFloatBits .f64 x .f32 = some y) (w : World) : (convert 28 23 (.float .f64 x)).run Try.prog w = .ok (.float .f32 y) w :=
  run_convert_float_float w 28 23 .f64 .f32 _ _ (by rw [Try.underlying28]; rfl) Try.underlying23 h

/-- The parts of a product of complex numbers. -/
def pre (a b c d : Nat) : Nat := ex a c (Op.negFloat .f32 b) d
def pim (a b c d : Nat) : Nat := ex a d b c

/-- Two complex numbers whose product stays below a power of two. -/
def Pb (k : Int) (a b c d : Nat) : Prop := -126 ≤ k ∧ k ≤ 127 ∧ ∃ va vb vc vd, Vl a va ∧ Vl b vb ∧ Vl c vc ∧ Vl d vd ∧ (va * vc + -vb * vd).natAbs ≤ 2 ^ (k + 298).toNat ∧ (va * vd + vb * vc).natAbs ≤ 2 ^ (k + 298).toNat

/-- Two complex numbers whose sum stays below a power of two. -/
def Sb (k : Int) (a b c d : Nat) : Prop := -126 ≤ k ∧ k ≤ 127 ∧ ∃ va vb vc vd, Vl a va ∧ Vl b vb ∧ Vl c vc ∧ Vl d vd ∧ (va + vc).natAbs ≤ 2 ^ (k + 149).toNat ∧ (vb + vd).natAbs ≤ 2 ^ (k + 149).toNat
