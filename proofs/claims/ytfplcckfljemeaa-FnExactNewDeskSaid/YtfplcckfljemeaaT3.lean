/- Walks: tables held against each other. -/
import Derived.Test.YtfplcckfljemeaaT2
import Derived.Test.YtfplcckfljemeaaSame
import Derived.Laws.ComplexArith
namespace Go.Proofs.Ytfplcckfljemeaa
open Go.RowKit

theorem sameComplex_any (x y : Nat) (hx : ∀ w, Calls Try.prog 18 #[.float .f64 x, .float .f64 x] w fun e w' => e = .returned (.bool true) ∧ w = w') (hy : ∀ w, Calls Try.prog 18 #[.float .f64 y, .float .f64 y] w fun e w' => e = .returned (.bool true) ∧ w = w') (w : World) :
    Calls Try.prog 16 #[.complex .f64 x y, .complex .f64 x y] w fun e w' => e = .returned (.bool true) ∧ w = w' := by
  have HX := Lib.hid hx
  have HY := Lib.hid hy
  clear hx hy
  go_enter Try.func16, Try.ntmps16
  go_wp2_with fail
  refine (HX.out _).mono ?_
  rintro e w' ⟨rfl, rfl⟩
  go_wp2_with fail
  refine (HY.out _).mono ?_
  rintro e w' ⟨rfl, rfl⟩
  go_wp2_with fail
  go_ret
  exact ⟨rfl, rfl⟩

theorem same_pair (a b : Nat) (ha : a < 4294967296) (hb : b < 4294967296) (fa : fin a = true) (fb : fin b = true) :
    ∃ x y, (∀ w, (convert 22 40 (.complex .f32 a b)).run Try.prog w = .ok (.complex .f64 x y) w) ∧ ∀ w, Calls Try.prog 16 #[.complex .f64 x y, .complex .f64 x y] w fun e w' => e = .returned (.bool true) ∧ w = w' := by
  obtain ⟨x, hx, sx⟩ := wide_same a ha fa
  obtain ⟨y, hy, sy⟩ := wide_same b hb fb
  refine ⟨x, y, fun w => ?_, sameComplex_any x y sx sy⟩
  exact run_convert_complex w 22 40 .f32 .f64 a b x y (by rw [Try.underlying22]; rfl) Try.underlying40 (by unfold cConvBits; rw [hx, hy]; rfl)

def Num (x : Nat) : Prop := x < 4294967296 ∧ fin x = true

set_option maxHeartbeats 1000000 in
theorem eqPair_any (a b c d : Nat) (w : World) (ha : Num a) (hb : Num b) (hc : Num c) (hd : Num d) :
    Calls Try.prog 17 #[.agg #[.complex .f32 a b, .complex .f32 c d], .agg #[.complex .f32 a b, .complex .f32 c d]] w fun e w' => e = .returned (.bool true) ∧ Below w.heap.size w w' := by
  obtain ⟨x0, y0, cv0, sm0⟩ := same_pair a b ha.1 hb.1 ha.2 hb.2
  obtain ⟨x1, y1, cv1, sm1⟩ := same_pair c d hc.1 hd.1 hc.2 hd.2
  have S0 := Lib.hid sm0
  have S1 := Lib.hid sm1
  clear sm0 sm1 ha hb hc hd
  go_enter Try.func17, Try.ntmps17
  go_wp2
  go_loopw [5] (fun i wr => (i = .int .i64 0 ∨ i = .int .i64 1 ∨ i = .int .i64 2) ∧ ∃ n, wr = ((w.alloc (.cells #[.complex .f32 a b, .complex .f32 c d] 23)).alloc (.cells #[.complex .f32 a b, .complex .f32 c d] 23)).drewN n) (fun i _ => 2 - (intOf i).toNat)
  case atStart => exact ⟨.inl rfl, 0, rfl⟩
  case round =>
    obtain ⟨rfl | rfl | rfl, n, rfl⟩ := hrel
    · go_wp2_with fail
      go_quiet ((go_at_call 16; exact still_call S0.out _ _ _))
      go_wp2_with fail
      go_roundw
      case rel => exact ⟨.inr (.inl (by go_num)), _, rfl⟩
      case measure => simp [intOf]
    · go_wp2_with fail
      go_quiet ((go_at_call 16; exact still_call S1.out _ _ _))
      go_wp2_with fail
      go_roundw
      case rel => exact ⟨.inr (.inr (by go_num)), _, rfl⟩
      case measure => simp [intOf]
    · go_wp2_with fail
      go_ret
      exact ⟨rfl, below_drewN (((Below.refl _ _).alloc (Nat.le_refl _) _).alloc (by simp) _) _⟩
end Go.Proofs.Ytfplcckfljemeaa
