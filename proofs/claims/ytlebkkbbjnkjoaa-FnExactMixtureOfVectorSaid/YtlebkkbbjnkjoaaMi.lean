/- Walks: mixtures of the program. -/
import Derived.Test.YtlebkkbbjnkjoaaMt
namespace Go.Proofs.Ytlebkkbbjnkjoaa
open Go.RowKit

set_option maxRecDepth 100000 in
set_option maxHeartbeats 1000000 in
theorem table_any (a d x y : Nat) (w : World) :
    Calls Try.prog 50 #[.agg #[.float .f32 a, .float .f32 d, .complex .f32 x y]] w fun e w' => e = .returned (mixTb a d x y).v ∧ Below w.heap.size w w' := by
  unfold mixTb Tb.v
  simp only [Cx.v]
  go_enter Try.func50, Try.ntmps50
  go_wp2_with fail
  refine still_tail 14 (by kernel_rfl) (by kernel_rfl) ?_
  simp only [List.take_succ_cons, List.take_zero, List.drop_succ_cons, List.drop_zero]
  iterate 5 still_step
  still_call ((conjugate_any _ _ _).mono (by rintro e w' ⟨rfl, rfl⟩; exact ⟨rfl, rfl⟩))
  iterate 8 still_step
  refine wpStill_nil ?_
  go_wp2_with fail
  refine bodyPost_ret (v := .agg #[.complex .f32 a 0, .complex .f32 x (Op.negFloat .f32 y), .complex .f32 x y, .complex .f32 d 0]) (by simp [results, Try.results50, go_sem]) rfl ⟨rfl, ?_⟩
  all_goals repeat first
    | exact Below.refl _ _
    | refine Below.setCell ?_ ?_ _
    | refine Below.alloc ?_ ?_ _
    | refine below_drewN ?_ _
    | refine Below.drew ?_
  all_goals first | omega | (simp; done) | (simp; omega)

set_option maxHeartbeats 1000000 in
theorem mixtureIn_any (a b c d e f g h : Nat) (w : World) :
    Calls Try.prog 69 #[.agg #[.complex .f32 a b, .complex .f32 c d, .complex .f32 e f, .complex .f32 g h]] w fun e' w' => e' = .returned (.agg #[.float .f32 a, .float .f32 g, .complex .f32 e f]) ∧ Below w.heap.size w w' := by
  go_enter Try.func69, Try.ntmps69
  go_wp2_with fail
  refine bodyPost_ret (v := .agg #[.float .f32 a, .float .f32 g, .complex .f32 e f]) (by simp [results, Try.results69, go_sem]) rfl ⟨rfl, ?_⟩
  all_goals repeat first
    | exact Below.refl _ _
    | refine Below.setCell ?_ ?_ _
    | refine Below.alloc ?_ ?_ _
  all_goals first | omega | (simp; done) | (simp; omega)
end Go.Proofs.Ytlebkkbbjnkjoaa
