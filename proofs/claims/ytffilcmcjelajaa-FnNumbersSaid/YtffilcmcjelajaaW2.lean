/- Walks: the place of a finite number, by the specification's loop. -/
import Derived.Test.YtffilcmcjelajaaW1
import Derived.Lib.Hide
namespace Go.Proofs.Ytffilcmcjelajaa
open Go.RowKit

theorem ret_int {k : IntKind} {a b : Int} (h : a = b) : Ending.returned (.int k a) = .returned (.int k b) := by rw [h]

theorem one_le_pow (d : Nat) : (1 : Int) ≤ 2 ^ d := by
  have : (0 : Int) < 2 ^ d := Int.pow_pos (by omega)
  omega

theorem fitD (m : Nat) (p : Int) (j : Nat) (hm : m < 9007199254740992) (hj : m < 2 ^ j) (h1 : -1074 ≤ p) (h2 : p + j ≤ 1024) : Flt.Fit Ieee.double m p :=
  Flt.fit_lt _ _ _ j hm h1 hj (by rw [topD]; omega)

theorem run_to_int {P : Program} (w : World) (src dst : TypeId) (m : Nat) (hs : (P.underlying src).isSome = true) (hd : P.underlying dst = some (.int .i64)) (h : Flt.Fit Ieee.double m 0) (hm : m < 9223372036854775808) :
    (convert src dst (.float .f64 (D false m 0))).run P w = .ok (.int .i64 (m : Int)) w := by
  refine run_convert_float_int w src dst .f64 .i64 _ (m : Int) hs hd ?_
  unfold floatToIntVal
  have : (FloatKind.f64.decode (D false m 0)).toInt .zero = some (m : Int) := Flt.toInt_fit Ieee.double (by decide) false m h
  rw [this]
  simp only []
  rw [if_pos]
  have h1 : IntKind.i64.min = -9223372036854775808 := by decide +kernel
  have h2 : IntKind.i64.max = 9223372036854775807 := by decide +kernel
  omega

/-- Its place, of a number that is not below 0. -/
theorem bits_pos (m : Nat) (p : Int) (w : World) (h : Flt.Fit Ieee.single m p)
    (hc : (m < 8388608 ∧ p = -149) ∨ (8388608 ≤ m ∧ m < 16777216 ∧ -149 ≤ p ∧ p ≤ 104)) :
    Calls Try.prog 26 #[.float .f32 (S false m p)] w fun e w' => e = .returned (.int .i64 (if m < 8388608 then (m : Int) else (p + 149) * 8388608 + m)) ∧ w = w' := by
  have hw := fit_wide h
  have hconv : ∀ w, (convert 24 32 (.float .f32 (S false m p))).run Try.prog w = .ok (.float .f64 (D false m p)) w := fun w => run_convert_float_float w 24 32 .f32 .f64 _ _ (by rw [Try.underlying24]; rfl) Try.underlying32 (widen h)
  have h0 : (FloatKind.f64.format.order (D false m p) 0 == some .lt) = false := by
    rw [ord0D false m p hw]
    by_cases hm : m = 0
    · rw [cmp_eq (by subst hm; rfl)]; rfl
    · rw [cmp_gt (by show (0 : Int) < (m : Int); omega)]; rfl
  rcases hc with ⟨hm, rfl⟩ | ⟨hm1, hm2, hp1, hp2⟩
  · have hl : (FloatKind.f64.format.order (D false m (-149)) (D false 1 (-126)) == some .lt) = true := by
      rw [ordPow m (-149) (-126) (-149) hw (by omega) (by omega) (by omega) (by omega), cmp_lt (by
        show (m : Int) * 1 < 2 ^ 23
        omega)]; rfl
    have hop : ∀ t w, (binOp .mul t (.float .f64 (D false m (-149))) (.float .f64 (D false 1 149))).run Try.prog w = .ok (.float .f64 (D false m 0)) w := fun t w => run_float_arith w .mul t .f64 _ _ _ (by
      have := Flt.mul_fit Ieee.double (by decide) false false m 1 (-149) 149 hw (fitD_one 149 (by omega) (by omega))
      rw [Nat.mul_one] at this
      exact this)
    have hti : ∀ w, (convert 32 2 (.float .f64 (D false m 0))).run Try.prog w = .ok (.int .i64 (m : Int)) w := fun w => run_to_int w 32 2 m (by rw [Try.underlying32]; rfl) Try.underlying2 (fitD m 0 23 (by omega) (by omega) (by omega) (by omega)) (by omega)
    go_enter Try.func26, Try.ntmps26
    go_wp2_with ((go_at_call 36; refine (two_any _ _ (by omega) (by omega)).mono ?_; rintro e w' ⟨rfl, rfl⟩))
    go_ret
    exact ⟨rfl, rfl⟩
  · have hge : ¬ m < 8388608 := by omega
    have hl : (FloatKind.f64.format.order (D false m p) (D false 1 (-126)) == some .lt) = false := by
      rw [ordPow m p (-126) (-149) hw (by omega) (by omega) (by omega) (by omega)]
      have hp := one_le_pow (p - -149).toNat
      have hq : (8388608 : Int) ≤ (m : Int) * 2 ^ (p - -149).toNat := by
        calc (8388608 : Int) ≤ (m : Int) * 1 := by omega
          _ ≤ (m : Int) * 2 ^ (p - -149).toNat := Int.mul_le_mul_of_nonneg_left hp (by omega)
      have h23 : (2 : Int) ^ (-126 - -149 : Int).toNat = 8388608 := by decide
      rw [h23]
      rcases Int.lt_or_eq_of_le hq with g | g
      · rw [cmp_gt g]; rfl
      · rw [cmp_eq g.symm]; rfl
    have hcmp : ∀ E : Int, -126 ≤ E → E < p + 23 → FloatKind.f64.format.order (D false m p) (D false 1 (E + 1)) = some (compare ((m : Int) * 2 ^ (p - -149).toNat) (2 ^ (E + 1 - -149).toNat)) := fun E e1 e2 => ordPow m p (E + 1) (-149) hw (by omega) (by omega) (by omega) (by omega)
    have hlast : FloatKind.f64.format.order (D false m p) (D false 1 (p + 23 + 1)) = some .lt := by
      rw [ordPow m p (p + 23 + 1) (-149) hw (by omega) (by omega) (by omega) (by omega), cmp_lt]
      have : (p + 23 + 1 - -149).toNat = 24 + (p - -149).toNat := by omega
      rw [this, Int.pow_add]
      exact Int.mul_lt_mul_of_pos_right (by show (m : Int) < 16777216; omega) (Int.pow_pos (by omega))
    have hstep : ∀ E : Int, -126 ≤ E → E < p + 23 → (FloatKind.f64.format.order (D false m p) (D false 1 (E + 1)) == some .gt || FloatKind.f64.format.order (D false m p) (D false 1 (E + 1)) == some .eq) = true := by
      intro E e1 e2
      rw [hcmp E e1 e2]
      have hq : (2 : Int) ^ (E + 1 - -149).toNat ≤ (m : Int) * 2 ^ (p - -149).toNat := by
        obtain ⟨d, hd⟩ : ∃ d : Nat, 23 + (p - -149).toNat = (E + 1 - -149).toNat + d := ⟨23 + (p - -149).toNat - (E + 1 - -149).toNat, by omega⟩
        calc (2 : Int) ^ (E + 1 - -149).toNat = 2 ^ (E + 1 - -149).toNat * 1 := by omega
          _ ≤ 2 ^ (E + 1 - -149).toNat * 2 ^ d := Int.mul_le_mul_of_nonneg_left (one_le_pow d) (Int.le_of_lt (Int.pow_pos (by omega)))
          _ = 2 ^ 23 * 2 ^ (p - -149).toNat := by rw [← Int.pow_add, ← Int.pow_add, hd]
          _ ≤ (m : Int) * 2 ^ (p - -149).toNat := Int.mul_le_mul_of_nonneg_right (by show (8388608 : Int) ≤ m; omega) (Int.le_of_lt (Int.pow_pos (by omega)))
      rcases Int.lt_or_eq_of_le hq with g | g
      · rw [cmp_gt g]; rfl
      · rw [cmp_eq g.symm]; rfl
    have hdiv : ∀ t w, (binOp .quo t (.float .f64 (D false m p)) (.float .f64 (D false 1 p))).run Try.prog w = .ok (.float .f64 (D false m 0)) w := fun t w => run_float_arith w .quo t .f64 _ _ _ (by
      have := Flt.div_pow Ieee.double (by decide) false false m p p hw (fitD_one p (by omega) (by omega))
      rw [Int.sub_self] at this
      exact this)
    have hti : ∀ w, (convert 32 2 (.float .f64 (D false m 0))).run Try.prog w = .ok (.int .i64 (m : Int)) w := fun w => run_to_int w 32 2 m (by rw [Try.underlying32]; rfl) Try.underlying2 (fitD m 0 24 (by omega) (by omega) (by omega) (by omega)) (by omega)
    clear hcmp
    have Hlast := Lib.hid hlast
    have Hstep := Lib.hid hstep
    have Hdiv := Lib.hid hdiv
    clear hlast hstep hdiv
    go_enter Try.func26, Try.ntmps26
    go_wp2_with ((go_at_call 36; refine (two_any _ _ (by omega) (by omega)).mono ?_; rintro e w' ⟨rfl, rfl⟩))
    go_loop [4] (fun i => ∃ E : Int, i = .int .i64 E ∧ -126 ≤ E ∧ E ≤ p + 23) (fun i => (p + 23 - intOf i).toNat)
    case atStart => exact ⟨-126, rfl, by omega, by omega⟩
    case round =>
      obtain ⟨E, rfl, e1, e2⟩ := hrel
      by_cases hE : E < p + 23
      · have hs := Hstep.out E e1 hE
        go_wp2_with ((go_at_call 36; refine (two_any _ _ (by omega) (by omega)).mono ?_; rintro e w' ⟨rfl, rfl⟩))
        go_round
        case rel => exact ⟨E + 1, by go_num, by omega, by omega⟩
        case measure => simp [intOf]; omega
      · obtain rfl : E = p + 23 := by omega
        have hlast := Hlast.out
        have hdiv := Hdiv.out
        go_wp2_with ((go_at_call 36; refine (two_any _ _ (by omega) (by omega)).mono ?_; rintro e w' ⟨rfl, rfl⟩))
        go_ret
        exact ⟨ret_int (by omega), rfl⟩

/-- The place of a finite number. -/
def place (x : Nat) : Int := if less0 x then -(mag x : Int) else mag x

theorem less0_S (s : Bool) (m : Nat) (p : Int) (h : Flt.Fit Ieee.single m p) : less0 (S s m p) = (s && decide (m ≠ 0)) := by
  unfold less0
  rw [ord0S s m p h]
  by_cases hm : m = 0
  · subst hm
    rw [cmp_eq (by cases s <;> rfl)]; simp
  · cases s
    · rw [cmp_gt (by show (0 : Int) < m; omega)]; simp
    · rw [cmp_lt (by show -(m : Int) < 0; omega)]; simp [hm]

theorem bits_fin (x : Nat) (w : World) (hx : x < 4294967296) (hf : fin x = true) :
    Calls Try.prog 26 #[.float .f32 x] w fun e w' => e = .returned (.int .i64 (place x)) ∧ w = w' := by
  obtain ⟨s, m, p, rfl, h, hc⟩ := fin_cases x hx hf
  have hpl : (if m < 8388608 then (m : Int) else (p + 149) * 8388608 + m) = mag (S s m p) := by
    rcases hc with ⟨h1, h2, h3⟩ | ⟨h1, h2, h3, h4, h5⟩
    · rw [if_pos h1, h3]
    · rw [if_neg (by omega), h5]
  have hc2 : (m < 8388608 ∧ p = -149) ∨ (8388608 ≤ m ∧ m < 16777216 ∧ -149 ≤ p ∧ p ≤ 104) := by omega
  have hl := less0_S s m p h
  by_cases hm : m = 0 ∧ s = true
  · obtain ⟨rfl, rfl⟩ := hm
    obtain rfl : p = -149 := by omega
    have hp0 : place (S true 0 (-149)) = 0 := by decide +kernel
    rw [hp0]
    have hw := fit_wide h
    have hconv : ∀ w, (convert 24 32 (.float .f32 (S true 0 (-149)))).run Try.prog w = .ok (.float .f64 (D true 0 (-149))) w := fun w => run_convert_float_float w 24 32 .f32 .f64 _ _ (by rw [Try.underlying24]; rfl) Try.underlying32 (widen h)
    have h0 : (FloatKind.f64.format.order (D true 0 (-149)) 0 == some .lt) = false := by decide +kernel
    have h1 : (FloatKind.f64.format.order (D true 0 (-149)) (D false 1 (-126)) == some .lt) = true := by decide +kernel
    have hop : ∀ t w, (binOp .mul t (.float .f64 (D true 0 (-149))) (.float .f64 (D false 1 149))).run Try.prog w = .ok (.float .f64 (D true 0 0)) w := fun t w => run_float_arith w .mul t .f64 _ _ _ (by decide +kernel)
    have hti : ∀ w, (convert 32 2 (.float .f64 (D true 0 0))).run Try.prog w = .ok (.int .i64 0) w := fun w => run_convert_float_int w 32 2 .f64 .i64 _ 0 (by rw [Try.underlying32]; rfl) Try.underlying2 (by decide +kernel)
    clear hpl hl hc
    go_enter Try.func26, Try.ntmps26
    go_wp2_with (go_at_call 36; refine (two_any _ _ (by omega) (by omega)).mono ?_; rintro e w' ⟨rfl, rfl⟩)
    go_ret
    exact ⟨rfl, rfl⟩
  · cases s
    · have := bits_pos m p w h hc2
      unfold place
      rw [hl]
      rw [hpl] at this
      simpa using this
    · have hm : m ≠ 0 := fun g => hm ⟨g, rfl⟩
      have hs : place (S true m p) = -(mag (S true m p) : Int) := by unfold place; rw [hl]; simp [hm]
      rw [hs]
      have hw := fit_wide h
      have hconv : ∀ w, (convert 24 32 (.float .f32 (S true m p))).run Try.prog w = .ok (.float .f64 (D true m p)) w := fun w => run_convert_float_float w 24 32 .f32 .f64 _ _ (by rw [Try.underlying24]; rfl) Try.underlying32 (widen h)
      have h0 : (FloatKind.f64.format.order (D true m p) 0 == some .lt) = true := by
        rw [ord0D true m p hw, cmp_lt (by show -(m : Int) < 0; omega)]; rfl
      have hfl : ∀ w, (Op.unary .neg (.float .f32 (S true m p))).run Try.prog w = .ok (.float .f32 (S false m p)) w := fun w => congrArg (fun b => Result.ok (Value.float .f32 b) w) (Flt.flip_nearest Ieee.single true m p)
      have hmg : mag (S true m p) < 2147483648 := mag_lt _
      have hbp := bits_pos m p
      rw [hpl] at hbp
      generalize mag (S true m p) = g at *
      clear hpl hl hs hc
      go_enter Try.func26, Try.ntmps26
      go_wp2_with (go_at_call 26; refine (hbp _ h hc2).mono ?_; rintro e w' ⟨rfl, rfl⟩)
      go_ret
      exact ⟨rfl, rfl⟩

theorem place_lt (x : Nat) : -2147483648 < place x ∧ place x < 2147483648 := by
  have := mag_lt x
  unfold place
  split <;> omega
end Go.Proofs.Ytffilcmcjelajaa
