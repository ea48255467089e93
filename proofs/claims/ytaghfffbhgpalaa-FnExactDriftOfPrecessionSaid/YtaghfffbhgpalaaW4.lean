/- Walks: the root of a float32, by the specification's digits and by the program's float64. -/
import Derived.Test.YtaghfffbhgpalaaF3
import Derived.Test.YtaghfffbhgpalaaRoot
import Derived.Lib.Hide
namespace Go.Proofs.Ytaghfffbhgpalaa
open Go.RowKit

theorem pow50 : (2 : Nat) ^ 50 = 1125899906842624 := by decide
theorem pow24 : (2 : Nat) ^ 24 = 16777216 := by decide

theorem D_four : (4616189618054758400 : Nat) = D false 1 2 := by decide +kernel

/-- A number against a power of two, by its digits. -/
theorem ordLog (m : Nat) (p j : Int) (hm : m ≠ 0) (h : Flt.Fit Ieee.double m p) (h1 : -1074 ≤ j) (h2 : j ≤ 1023) :
    (p + m.log2 < j → FloatKind.f64.format.order (D false m p) (D false 1 j) = some .lt) ∧
    (j ≤ p + m.log2 → (FloatKind.f64.format.order (D false m p) (D false 1 j) == some .lt) = false ∧ (FloatKind.f64.format.order (D false m p) (D false 1 j) == some .gt || FloatKind.f64.format.order (D false m p) (D false 1 j) == some .eq) = true) := by
  have hlo := Nat.log2_self_le hm
  have hhi := Nat.lt_log2_self (n := m)
  obtain ⟨b, hb⟩ : ∃ b, b = min p j := ⟨_, rfl⟩
  have ho := ordPow m p j b h h1 h2 (by omega) (by omega)
  have hlo' : (2 : Int) ^ m.log2 ≤ m := by exact_mod_cast hlo
  have hhi' : (m : Int) < 2 ^ (m.log2 + 1) := by exact_mod_cast hhi
  have hpp : (0 : Int) < 2 ^ (p - b).toNat := Int.pow_pos (by omega)
  constructor
  · intro hl
    rw [ho, cmp_lt]
    have e1 : (m : Int) * 2 ^ (p - b).toNat < 2 ^ (m.log2 + 1) * 2 ^ (p - b).toNat := Int.mul_lt_mul_of_pos_right hhi' hpp
    rw [← Int.pow_add] at e1
    have e2 : (2 : Int) ^ (m.log2 + 1 + (p - b).toNat) ≤ 2 ^ (j - b).toNat := by
      exact_mod_cast Nat.pow_le_pow_right (n := 2) (by omega) (show m.log2 + 1 + (p - b).toNat ≤ (j - b).toNat by omega)
    omega
  · intro hl
    have e1 : (2 : Int) ^ m.log2 * 2 ^ (p - b).toNat ≤ (m : Int) * 2 ^ (p - b).toNat := Int.mul_le_mul_of_nonneg_right hlo' (Int.le_of_lt hpp)
    rw [← Int.pow_add] at e1
    have e2 : (2 : Int) ^ (j - b).toNat ≤ 2 ^ (m.log2 + (p - b).toNat) := by
      exact_mod_cast Nat.pow_le_pow_right (n := 2) (by omega) (show (j - b).toNat ≤ m.log2 + (p - b).toNat by omega)
    have e3 := Int.le_trans e2 e1
    rw [ho]
    rcases Int.lt_or_eq_of_le e3 with g | g
    · rw [cmp_gt g]; exact ⟨rfl, rfl⟩
    · rw [cmp_eq g.symm]; exact ⟨rfl, rfl⟩


theorem conv_int (m : Nat) (j N : Nat) (hN : N = m * 2 ^ j) (hb : N < 1125899906842624) (w : World) :
    (convert 58 2 (.float .f64 (D false m (j : Int)))).run Try.prog w = .ok (.int .i64 (N : Int)) w := by
  have e : D false m (j : Int) = D false N 0 := by
    unfold D
    have := Flt.nearest_shl Ieee.double false m j 0
    rw [Int.zero_add] at this
    rw [hN, this]
  rw [e]
  exact run_to_int w 58 2 N (by rw [Try.underlying58]; rfl) Try.underlying2 (fitD N 0 50 (by omega) (by have := pow50; omega) (by omega) (by omega)) (by omega)

theorem quad (m : Nat) (p : Int) (hm : m < 16777216) (h1 : -1000 ≤ p) (h2 : p ≤ 900) (t : TypeId) (w : World) :
    (binOp .mul t (.float .f64 (D false m p)) (.float .f64 4616189618054758400)).run Try.prog w = .ok (.float .f64 (D false m (p + 2))) w := run_float_arith w .mul t .f64 _ _ _ (by
      rw [D_four]
      have := Flt.mul_fit Ieee.double (by decide) false false m 1 p 2 (fitD m p 24 (by omega) (by omega) (by omega) (by omega)) (fitD_one 2 (by omega) (by omega))
      rw [Nat.mul_one] at this
      exact this)

theorem quart (m : Nat) (p : Int) (hm : m < 16777216) (h1 : -1000 ≤ p) (h2 : p ≤ 900) (t : TypeId) (w : World) :
    (binOp .quo t (.float .f64 (D false m p)) (.float .f64 4616189618054758400)).run Try.prog w = .ok (.float .f64 (D false m (p - 2))) w := run_float_arith w .quo t .f64 _ _ _ (by
      rw [D_four]
      exact Flt.div_pow Ieee.double (by decide) false false m p 2 (fitD m p 24 (by omega) (by omega) (by omega) (by omega)) (fitD_one 2 (by omega) (by omega)))

/-- The float32 of an even number of 25 digits at a scale. -/
theorem conv_root (R : Nat) (k : Int) (hR : R % 2 = 0) (hR1 : 2 ^ 24 ≤ R) (hR2 : R ≤ 2 ^ 25) (hk1 : -60 ≤ k) (hk2 : k ≤ 120) (w : World) :
    (convert 58 22 (.float .f64 (D false R (-k)))).run Try.prog w = .ok (.float .f32 (S false R (-k))) w := by
  obtain ⟨n, j, hf, he, _⟩ := Flt.fit_even R k hR hR1 hR2 hk1 hk2
  have e26 : (2 : Nat) ^ 26 = 67108864 := by decide
  have e25 : (2 : Nat) ^ 25 = 33554432 := by decide
  have := Flt.narrow_any (fitD R (-k) 26 (by omega) (by omega) (by omega) (by omega)) hf he
  rw [← he] at this
  exact run_convert_float_float (P := Try.prog) w 58 22 .f64 .f32 _ _ (by rw [Try.underlying58]; rfl) Try.underlying22 this

end Go.Proofs.Ytaghfffbhgpalaa
