/- Walks: four numbers, copied and looked at. -/
import Derived.Test.YtaghfffbhgpalaaKac
import Derived.Test.YtaghfffbhgpalaaKad
namespace Go.Proofs.Ytaghfffbhgpalaa
open Go.RowKit

/-- Four numbers held against each other. -/
theorem eql_four (a b c d a' b' c' d' : Nat) (w : World) :
    (binOp .eql 79 (.agg #[.float .f32 a, .float .f32 b, .float .f32 c, .float .f32 d]) (.agg #[.float .f32 a', .float .f32 b', .float .f32 c', .float .f32 d'])).run Try.prog w =
      .ok (.bool ((FloatKind.f32.format.order a a' == some .eq) && ((FloatKind.f32.format.order b b' == some .eq) && ((FloatKind.f32.format.order c c' == some .eq) && (FloatKind.f32.format.order d d' == some .eq))))) w := by
  rw [run_eql_struct]
  rw [run_equalIn_array w 9999 4 1 79 22 _ _ Try.underlying79 (by kernel_rfl)]
  have h0 : ∀ (x y z u : Nat) (w : World), (part 22 #[.float .f32 x, .float .f32 y, .float .f32 z, .float .f32 u] (0 * 1)).run Try.prog w = .ok (.float .f32 x) w := fun _ _ _ _ _ => by kernel_rfl
  have h1 : ∀ (x y z u : Nat) (w : World), (part 22 #[.float .f32 x, .float .f32 y, .float .f32 z, .float .f32 u] (1 * 1)).run Try.prog w = .ok (.float .f32 y) w := fun _ _ _ _ _ => by kernel_rfl
  have h2 : ∀ (x y z u : Nat) (w : World), (part 22 #[.float .f32 x, .float .f32 y, .float .f32 z, .float .f32 u] (2 * 1)).run Try.prog w = .ok (.float .f32 z) w := fun _ _ _ _ _ => by kernel_rfl
  have h3 : ∀ (x y z u : Nat) (w : World), (part 22 #[.float .f32 x, .float .f32 y, .float .f32 z, .float .f32 u] (3 * 1)).run Try.prog w = .ok (.float .f32 u) w := fun _ _ _ _ _ => by kernel_rfl
  have he : ∀ (x y : Nat) (w : World), (Op.equalIn 9999 22 (.float .f32 x) (.float .f32 y)).run Try.prog w = .ok (FloatKind.f32.format.order x y == some .eq) w := fun x y w => run_equalIn_float w 9998 22 .f32 .f32 x y Try.underlying22
  show ((eqElems 9999 22 1 _ _ [0, 1, 2, 3]).run Try.prog w).andThen _ = _
  simp only [eqElems, Sem.run_bind, h0, h1, h2, h3, Result.andThen_ok, he, Sem.run_ite, Sem.run_pure]
  cases (FloatKind.f32.format.order a a' == some .eq) <;> cases (FloatKind.f32.format.order b b' == some .eq) <;> cases (FloatKind.f32.format.order c c' == some .eq) <;> cases (FloatKind.f32.format.order d d' == some .eq) <;> rfl

end Go.Proofs.Ytaghfffbhgpalaa
