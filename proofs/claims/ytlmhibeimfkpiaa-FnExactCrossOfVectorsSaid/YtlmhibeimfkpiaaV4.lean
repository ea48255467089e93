/- Walks: sums of vectors. -/
import Derived.Test.YtlmhibeimfkpiaaKae
namespace Go.Proofs.Ytlmhibeimfkpiaa
open Go.RowKit

theorem vecOr_form (a b c : Nat) : ∃ (x y z : Nat) (k : Int), vecOr 3 a b c = .tuple #[.agg #[.float .f32 x, .float .f32 y, .float .f32 z], .int .i64 k] := by
  unfold vecOr
  split
  · exact ⟨_, _, _, _, rfl⟩
  · exact ⟨_, _, _, _, rfl⟩

end Go.Proofs.Ytlmhibeimfkpiaa
