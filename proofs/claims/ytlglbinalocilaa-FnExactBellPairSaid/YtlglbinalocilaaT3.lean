/- Walks: tables held against each other. -/
import Derived.Test.YtlglbinalocilaaT2
import Derived.Test.YtlglbinalocilaaSame
import Derived.Laws.ComplexArith
namespace Go.Proofs.Ytlglbinalocilaa
open Go.RowKit

theorem sameComplex_any (x y : Nat) (hx : ∀ w, Calls Try.prog 47 #[.float .f64 x, .float .f64 x] w fun e w' => e = .returned (.bool true) ∧ w = w') (hy : ∀ w, Calls Try.prog 47 #[.float .f64 y, .float .f64 y] w fun e w' => e = .returned (.bool true) ∧ w = w') (w : World) :
    Calls Try.prog 50 #[.complex .f64 x y, .complex .f64 x y] w fun e w' => e = .returned (.bool true) ∧ w = w' := by
  have HX := Lib.hid hx
  have HY := Lib.hid hy
  clear hx hy
  go_enter Try.func50, Try.ntmps50
  go_wp2_with fail
  refine (HX.out _).mono ?_
  rintro e w' ⟨rfl, rfl⟩
  go_wp2_with fail
  refine (HY.out _).mono ?_
  rintro e w' ⟨rfl, rfl⟩
  go_wp2_with fail
  go_ret
  exact ⟨rfl, rfl⟩

theorem same_pair (a b : Nat) (ha : a < 4294967296) (hb : b < 4294967296) (fa : fin a = true) (fb : fin b = true) :
    ∃ x y, (∀ w, (convert 26 88 (.complex .f32 a b)).run Try.prog w = .ok (.complex .f64 x y) w) ∧ ∀ w, Calls Try.prog 50 #[.complex .f64 x y, .complex .f64 x y] w fun e w' => e = .returned (.bool true) ∧ w = w' := by
  obtain ⟨x, hx, sx⟩ := wide_same a ha fa
  obtain ⟨y, hy, sy⟩ := wide_same b hb fb
  refine ⟨x, y, fun w => ?_, sameComplex_any x y sx sy⟩
  exact run_convert_complex w 26 88 .f32 .f64 a b x y (by rw [Try.underlying26]; rfl) Try.underlying88 (by unfold cConvBits; rw [hx, hy]; rfl)

def Num (x : Nat) : Prop := x < 4294967296 ∧ fin x = true
