/- Walks: two vectors are the same. -/
import Derived.Test.YtcikohbcndppkaaV4
import Derived.Test.YtcikohbcndppkaaSame
import Derived.Deep.QuietTactic
import Derived.BigQuiet
namespace Go.Proofs.Ytcikohbcndppkaa
open Go.RowKit

/-- A call that leaves the world alone, in a quiet walk that began behind draws. -/
theorem still_call {f : FuncId} {args : Array Value} {v : Value} (c : ∀ W : World, Calls Try.prog f args W fun e w' => e = .returned v ∧ W = w') (w : World) (a n : Nat) :
    Calls Try.prog f args (w.drewN (a + n)) fun e w' => e = .returned v ∧ ∃ m, w' = w.drewN (a + m) := by
  refine (c (w.drewN (a + n))).mono ?_
  rintro e w' ⟨he, rfl⟩
  exact ⟨he, n, rfl⟩

theorem same_word (x : Nat) (hx : x < 4294967296) (h : fin x = true) : ∃ y, (∀ w, (convert 38 104 (.float .f32 x)).run Try.prog w = .ok (.float .f64 y) w) ∧ ∀ w, Calls Try.prog 107 #[.float .f64 y, .float .f64 y] w fun e w' => e = .returned (.bool true) ∧ w = w' := by
  obtain ⟨y, hy, hs⟩ := wide_same x hx h
  exact ⟨y, fun w => run_convert_float_float w 38 104 .f32 .f64 _ _ (by rw [Try.underlying38]; rfl) Try.underlying104 hy, hs⟩

set_option maxHeartbeats 1000000 in
theorem eqVector_any (a b c : Nat) (w : World) (ha : a < 4294967296) (hb : b < 4294967296) (hc : c < 4294967296) (fa : fin a = true) (fb : fin b = true) (fc : fin c = true) :
    Calls Try.prog 53 #[.agg #[.float .f32 a, .float .f32 b, .float .f32 c], .agg #[.float .f32 a, .float .f32 b, .float .f32 c]] w fun e w' => e = .returned (.bool true) ∧ Below w.heap.size w w' := by
  obtain ⟨x0, cv0, sm0⟩ := same_word a ha fa
  obtain ⟨x1, cv1, sm1⟩ := same_word b hb fb
  obtain ⟨x2, cv2, sm2⟩ := same_word c hc fc
  have S0 := Lib.hid sm0
  have S1 := Lib.hid sm1
  have S2 := Lib.hid sm2
  clear sm0 sm1 sm2 ha hb hc fa fb fc
  go_enter Try.func53, Try.ntmps53
  go_wp2
  go_loopw [5] (fun i wr => (i = .int .i64 0 ∨ i = .int .i64 1 ∨ i = .int .i64 2 ∨ i = .int .i64 3) ∧ ∃ n, wr = ((w.alloc (.cells #[.float .f32 a, .float .f32 b, .float .f32 c] 40)).alloc (.cells #[.float .f32 a, .float .f32 b, .float .f32 c] 40)).drewN n) (fun i _ => 3 - (intOf i).toNat)
  case atStart => exact ⟨.inl rfl, 0, rfl⟩
  case round =>
    obtain ⟨rfl | rfl | rfl | rfl, n, rfl⟩ := hrel
    · go_wp2_with fail
      go_quiet ((go_at_call 107; exact still_call S0.out _ _ _))
      go_wp2_with fail
      go_roundw
      case rel => exact ⟨.inr (.inl (by go_num)), _, rfl⟩
      case measure => simp [intOf]
    · go_wp2_with fail
      go_quiet ((go_at_call 107; exact still_call S1.out _ _ _))
      go_wp2_with fail
      go_roundw
      case rel => exact ⟨.inr (.inr (.inl (by go_num))), _, rfl⟩
      case measure => simp [intOf]
    · go_wp2_with fail
      go_quiet ((go_at_call 107; exact still_call S2.out _ _ _))
      go_wp2_with fail
      go_roundw
      case rel => exact ⟨.inr (.inr (.inr (by go_num))), _, rfl⟩
      case measure => simp [intOf]
    · go_wp2_with fail
      go_ret
      exact ⟨rfl, below_drewN (((Below.refl _ _).alloc (Nat.le_refl _) _).alloc (by simp) _) _⟩
end Go.Proofs.Ytcikohbcndppkaa
