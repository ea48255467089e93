/- Walks: two floats held against each other. -/
import Derived.Test.YtfplcckfljemeaaWA
namespace Go.Proofs.Ytfplcckfljemeaa
open Go.RowKit

theorem order_self (s : Bool) (m : Nat) (p : Int) (h : Flt.Fit Ieee.double m p) : FloatKind.f64.format.order (D s m p) (D s m p) = some .eq := by
  have := Flt.order_fit Ieee.double (by decide) s s m m p p p h h (Int.le_refl _) (Int.le_refl _)
  rw [cmp_eq rfl] at this
  exact this

theorem zero_quo (s : Bool) (p : Int) : floatBits .quo .f64 4607182418800017408 (D s 0 p) = some (Ieee.double.word s Ieee.double.infRung) := by
  rw [D_zero]; cases s <;> decide +kernel

theorem same_D (s : Bool) (m : Nat) (p : Int) (w : World) (h : Flt.Fit Ieee.double m p) :
    Calls Try.prog 18 #[.float .f64 (D s m p), .float .f64 (D s m p)] w fun e w' => e = .returned (.bool true) ∧ w = w' := by
  have ho := order_self s m p h
  have h0 := ord0D s m p h
  by_cases hm : m = 0
  · subst hm
    have hz : (FloatKind.f64.format.order (D s 0 p) 0 == some .eq) = true := by rw [h0, cmp_eq (by cases s <;> rfl)]; rfl
    have hq : ∀ t w, (binOp .quo t (.float .f64 4607182418800017408) (.float .f64 (D s 0 p))).run Try.prog w = .ok (.float .f64 (Ieee.double.word s Ieee.double.infRung)) w := fun t w => run_float_arith w .quo t .f64 _ _ _ (zero_quo s p)
    clear h0
    generalize D s 0 p = y at *
    generalize Ieee.double.word s Ieee.double.infRung = z at *
    go_enter Try.func18, Try.ntmps18
    go_wp2
    go_ret
    exact ⟨rfl, rfl⟩
  · have hz : (FloatKind.f64.format.order (D s m p) 0 == some .eq) = false := by
      rw [h0]
      cases s
      · rw [cmp_gt (by show (0 : Int) < m; omega)]; rfl
      · rw [cmp_lt (by show -(m : Int) < 0; omega)]; rfl
    clear h0
    generalize D s m p = y at *
    go_enter Try.func18, Try.ntmps18
    go_wp2
    go_ret
    exact ⟨rfl, rfl⟩

/-- A finite float32, made wide, is the same as itself. -/
theorem wide_same (x : Nat) (hx : x < 4294967296) (hf : fin x = true) :
    ∃ y, floatToFloatBits .f32 x .f64 = some y ∧ ∀ w, Calls Try.prog 18 #[.float .f64 y, .float .f64 y] w fun e w' => e = .returned (.bool true) ∧ w = w' := by
  obtain ⟨s, m, p, rfl, h, _⟩ := fin_cases x hx hf
  exact ⟨D s m p, widen h, fun w => same_D s m p w (fit_wide h)⟩
