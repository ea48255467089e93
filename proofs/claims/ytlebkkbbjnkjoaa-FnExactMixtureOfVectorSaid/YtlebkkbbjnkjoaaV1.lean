/- Walks: vectors of three float32. -/
import Derived.Test.YtlebkkbbjnkjoaaMem
import Derived.RegionTactic
import Derived.LoopTactic
import Derived.Below
namespace Go.Proofs.Ytlebkkbbjnkjoaa
open Go.RowKit

set_option maxHeartbeats 400000 in
theorem toVector_any (a b c : Nat) (w : World) :
    Calls Try.prog 7 #[.agg #[.float .f32 a, .float .f32 b, .float .f32 c]] w fun e w' => e = .returned (.agg #[.float .f32 a, .float .f32 b, .float .f32 c]) ∧ Below w.heap.size w w' := by
  go_enter Try.func7, Try.ntmps7
  go_wp2
  generalize hW0 : ((w.alloc (.cells #[.float .f32 a, .float .f32 b, .float .f32 c] 23)).alloc (.cells #[.float .f32 0, .float .f32 0, .float .f32 0] 30)) = W0
  have hs : W0.heap.size = w.heap.size + 1 + 1 := by subst hW0; simp
  go_loopw [4] (fun i wr => (i = .int .i64 0 ∧ wr = W0.alloc (.cells #[.float .f32 0, .float .f32 0, .float .f32 0] 30)) ∨ (i = .int .i64 1 ∧ wr = W0.alloc (.cells #[.float .f32 a, .float .f32 0, .float .f32 0] 30)) ∨
      (i = .int .i64 2 ∧ wr = W0.alloc (.cells #[.float .f32 a, .float .f32 b, .float .f32 0] 30)) ∨ (i = .int .i64 3 ∧ wr = W0.alloc (.cells #[.float .f32 a, .float .f32 b, .float .f32 c] 30))) (fun i _ => 3 - (intOf i).toNat)
  case atStart => exact .inl ⟨rfl, rfl⟩
  case round =>
    clear hs
    subst hW0
    rcases hrel with ⟨rfl, rfl⟩ | ⟨rfl, rfl⟩ | ⟨rfl, rfl⟩ | ⟨rfl, rfl⟩
    · go_wp2
      go_roundw
      case rel => exact .inr (.inl ⟨by go_num, trivial⟩)
      case measure => simp [intOf]
    · go_wp2
      go_roundw
      case rel => exact .inr (.inr (.inl ⟨by go_num, trivial⟩))
      case measure => simp [intOf]
    · go_wp2
      go_roundw
      case rel => exact .inr (.inr (.inr ⟨by go_num, trivial⟩))
      case measure => simp [intOf]
    · go_wp2
      exact bodyPost_ret (v := .agg #[.float .f32 a, .float .f32 b, .float .f32 c]) (by simp [results, Try.results7, go_sem]) rfl ⟨rfl, (((Below.refl _ _).alloc (Nat.le_refl _) _).alloc (by simp) _).alloc (by simp; omega) _⟩
end Go.Proofs.Ytlebkkbbjnkjoaa
