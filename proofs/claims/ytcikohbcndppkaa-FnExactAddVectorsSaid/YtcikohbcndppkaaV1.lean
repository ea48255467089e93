/- Walks: vectors of three float32. -/
import Derived.Test.YtcikohbcndppkaaW1
import Derived.RegionTactic
import Derived.LoopTactic
import Derived.Below
namespace Go.Proofs.Ytcikohbcndppkaa
open Go.RowKit

@[go_sem] theorem run_store_float (P : Program) (w : World) (a : Addr) (m : Mode) (k : FloatKind) (n : Nat) : (store a (.float k n) m).run P w = stored P w a (.float k n) m := run_store P w a _ m rfl

set_option maxHeartbeats 400000 in
theorem toVector_any (a b c : Nat) (w : World) :
    Calls Try.prog 52 #[.agg #[.float .f32 a, .float .f32 b, .float .f32 c]] w fun e w' => e = .returned (.agg #[.float .f32 a, .float .f32 b, .float .f32 c]) ∧ Below w.heap.size w w' := by
  go_enter Try.func52, Try.ntmps52
  go_wp2
  generalize hW0 : ((w.alloc (.cells #[.float .f32 a, .float .f32 b, .float .f32 c] 39)).alloc (.cells #[.float .f32 0, .float .f32 0, .float .f32 0] 40)) = W0
  have hs : W0.heap.size = w.heap.size + 1 + 1 := by subst hW0; simp
  go_loopw [4] (fun i wr => (i = .int .i64 0 ∧ wr = W0.alloc (.cells #[.float .f32 0, .float .f32 0, .float .f32 0] 40)) ∨ (i = .int .i64 1 ∧ wr = W0.alloc (.cells #[.float .f32 a, .float .f32 0, .float .f32 0] 40)) ∨
      (i = .int .i64 2 ∧ wr = W0.alloc (.cells #[.float .f32 a, .float .f32 b, .float .f32 0] 40)) ∨ (i = .int .i64 3 ∧ wr = W0.alloc (.cells #[.float .f32 a, .float .f32 b, .float .f32 c] 40))) (fun i _ => 3 - (intOf i).toNat)
  case atStart => exact .inl ⟨rfl, rfl⟩
  case round =>
    clear hs
    subst hW0
    rcases hrel with ⟨rfl, rfl⟩ | ⟨rfl, rfl⟩ | ⟨rfl, rfl⟩ | ⟨rfl, rfl⟩
    · go_wp2
      go_roundw
      case rel => exact .inr (.inl ⟨by go_num, trivial⟩)
      case measure => simp [intOf]
    · go_wp2
      go_roundw
      case rel => exact .inr (.inr (.inl ⟨by go_num, trivial⟩))
      case measure => simp [intOf]
    · go_wp2
      go_roundw
      case rel => exact .inr (.inr (.inr ⟨by go_num, trivial⟩))
      case measure => simp [intOf]
    · go_wp2
      exact bodyPost_ret (v := .agg #[.float .f32 a, .float .f32 b, .float .f32 c]) (by simp [results, Try.results52, go_sem]) rfl ⟨rfl, (((Below.refl _ _).alloc (Nat.le_refl _) _).alloc (by simp) _).alloc (by simp; omega) _⟩
end Go.Proofs.Ytcikohbcndppkaa
