/- Walks: numbers by their bits, finite numbers. -/
import Derived.Test.YtibmaflcfmphgaaWA
import Derived.Test.YtibmaflcfmphgaaTwo
namespace Go.Proofs.Ytibmaflcfmphgaa
open Go.RowKit

theorem run_f32bits (b : Nat) (w : World) : (callFunc 19 #[.float .f32 b]).run Try.prog w = .ok (.value (.int .u32 b)) w := by
  rw [run_callFunc_extern (e := Extern.MathFloatBits.float32bits) Try.func19 (by kernel_rfl) (by kernel_rfl) (by kernel_rfl) (by kernel_rfl)]
  rfl

theorem andNot_sign (x : Nat) (hx : x < 4294967296) : bits .andNot .u32 (x : Int) 2147483648 = (mag x : Int) := by
  have h := Go.u32_andNot_nat x 2147483648 hx (by omega)
  rw [show ((2147483648 : Nat) : Int) = 2147483648 from rfl] at h
  rw [h, show (4294967295 - 2147483648 : Nat) = 2 ^ 31 - 1 from rfl, Nat.and_two_pow_sub_one_eq_mod]; rfl

/-- The bits of a float32 without its sign. -/
theorem bits_any (x : Nat) (w : World) (hx : x < 4294967296) :
    Calls Try.prog 18 #[.float .f32 x] w fun e w' => e = .returned (.int .i64 (mag x)) ∧ w = w' := by
  have hr := run_f32bits x
  have hb := andNot_sign x hx
  have hm := mag_lt x
  go_enter Try.func18, Try.ntmps18
  go_wp2
  go_ret
  exact ⟨rfl, rfl⟩

theorem isNumber_any (x : Nat) (w : World) (hx : x < 4294967296) :
    Calls Try.prog 16 #[.float .f32 x] w fun e w' => e = .returned (.bool (fin x)) ∧ w = w' := by
  have hd : decide ((mag x : Int) ≤ 2139095039) = fin x := by
    unfold fin; exact decide_eq_decide.2 (by omega)
  go_enter Try.func16, Try.ntmps16
  go_wp2_with (go_at_call 18; refine (bits_any _ _ hx).mono ?_; rintro e w' ⟨rfl, rfl⟩)
  go_ret
  exact ⟨rfl, rfl⟩


/-- 'x - x == 0' of a finite one. -/
theorem fine_yes (x : Nat) (w : World) (hx : x < 4294967296) (h : fin x = true) :
    Calls Try.prog 9 #[.float .f32 x] w fun e w' => e = .returned (.bool true) ∧ w = w' := by
  have hs := less_self x hx h
  have hop : ∀ t w, (binOp .sub t (.float .f32 x) (.float .f32 x)).run Try.prog w = .ok (.float .f32 0) w := fun t w => run_float_arith w .sub t .f32 _ _ _ hs
  have ho : (FloatKind.f32.format.order 0 0 == some .eq) = true := by decide +kernel
  go_enter Try.func9, Try.ntmps9
  go_wp2_with (simp only [hop])
  go_ret
  exact ⟨rfl, rfl⟩

theorem fine_no (x : Nat) (w : World) (hx : x < 4294967296) (h : fin x = false) :
    Calls Try.prog 9 #[.float .f32 x] w fun e w' => e = .returned (.bool false) ∧ w.drewN 1 = w' := by
  obtain ⟨b, hn, hop⟩ := run_float_nan (P := Try.prog) w .sub 23 .f32 x x (.inr (.inl rfl)) (less_none x hx h)
  have ho : (FloatKind.f32.format.order b 0 == some .eq) = false := by rw [nan_order hn]; rfl
  clear hn
  go_enter Try.func9, Try.ntmps9
  go_wp2_with (simp only [hop])
  go_ret
  exact ⟨rfl, rfl⟩
end Go.Proofs.Ytibmaflcfmphgaa
