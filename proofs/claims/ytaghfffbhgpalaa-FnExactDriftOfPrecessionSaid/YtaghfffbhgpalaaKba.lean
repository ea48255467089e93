/- Walks: sums of vectors. Walks: two vectors are the same. -/
import Derived.Test.YtaghfffbhgpalaaKaz
import Derived.Test.YtaghfffbhgpalaaKax
import Derived.Deep.QuietTactic
import Derived.BigQuiet
namespace Go.Proofs.Ytaghfffbhgpalaa
open Go.RowKit

theorem vecOr_form (a b c : Nat) : ∃ (x y z : Nat) (k : Int), vecOr 3 a b c = .tuple #[.agg #[.float .f32 x, .float .f32 y, .float .f32 z], .int .i64 k] := by
  unfold vecOr
  split
  · exact ⟨_, _, _, _, rfl⟩
  · exact ⟨_, _, _, _, rfl⟩

end Go.Proofs.Ytaghfffbhgpalaa

namespace Go.Proofs.Ytaghfffbhgpalaa
open Go.RowKit

set_option maxHeartbeats 1000000 in
theorem eqVector_any (a b c : Nat) (w : World) (ha : a < 4294967296) (hb : b < 4294967296) (hc : c < 4294967296) (fa : fin a = true) (fb : fin b = true) (fc : fin c = true) :
    Calls Try.prog 21 #[.agg #[.float .f32 a, .float .f32 b, .float .f32 c], .agg #[.float .f32 a, .float .f32 b, .float .f32 c]] w fun e w' => e = .returned (.bool true) ∧ Below w.heap.size w w' := by
  obtain ⟨x0, cv0, sm0⟩ := same_word a ha fa
  obtain ⟨x1, cv1, sm1⟩ := same_word b hb fb
  obtain ⟨x2, cv2, sm2⟩ := same_word c hc fc
  have S0 := Lib.hid sm0
  have S1 := Lib.hid sm1
  have S2 := Lib.hid sm2
  clear sm0 sm1 sm2 ha hb hc fa fb fc
  go_enter Try.func21, Try.ntmps21
  go_wp2
  go_loopw [5] (fun i wr => (i = .int .i64 0 ∨ i = .int .i64 1 ∨ i = .int .i64 2 ∨ i = .int .i64 3) ∧ ∃ n, wr = ((w.alloc (.cells #[.float .f32 a, .float .f32 b, .float .f32 c] 27)).alloc (.cells #[.float .f32 a, .float .f32 b, .float .f32 c] 27)).drewN n) (fun i _ => 3 - (intOf i).toNat)
  case atStart => exact ⟨.inl rfl, 0, rfl⟩
  case round =>
    obtain ⟨rfl | rfl | rfl | rfl, n, rfl⟩ := hrel
    · go_wp2_with fail
      go_quiet ((go_at_call 31; exact still_call S0.out _ _ _))
      go_wp2_with fail
      go_roundw
      case rel => exact ⟨.inr (.inl (by go_num)), _, rfl⟩
      case measure => simp [intOf]
    · go_wp2_with fail
      go_quiet ((go_at_call 31; exact still_call S1.out _ _ _))
      go_wp2_with fail
      go_roundw
      case rel => exact ⟨.inr (.inr (.inl (by go_num))), _, rfl⟩
      case measure => simp [intOf]
    · go_wp2_with fail
      go_quiet ((go_at_call 31; exact still_call S2.out _ _ _))
      go_wp2_with fail
      go_roundw
      case rel => exact ⟨.inr (.inr (.inr (by go_num))), _, rfl⟩
      case measure => simp [intOf]
    · go_wp2_with fail
      go_ret
      exact ⟨rfl, below_drewN (((Below.refl _ _).alloc (Nat.le_refl _) _).alloc (by simp) _) _⟩

end Go.Proofs.Ytaghfffbhgpalaa
