/- Walks: powers of two. -/
import Derived.Test.YtlglbinalocilaaWA
namespace Go.Proofs.Ytlglbinalocilaa
open Go.RowKit

set_option maxHeartbeats 400000 in
theorem two_any (k : Int) (w : World) (hlo : -1074 ≤ k) (hhi : k ≤ 1023) :
    Calls Try.prog 69 #[.int .i64 k] w fun e w' => e = .returned (.float .f64 (D false 1 k)) ∧ w = w' := by
  go_enter Try.func69, Try.ntmps69
  go_wp2_with fail
  go_loop [0, 3] (fun i t => ∃ j : Int, i = .int .i64 j ∧ t = .float .f64 (D false 1 (k - j)) ∧ ((0 ≤ j ∧ j ≤ k) ∨ (k ≤ j ∧ j ≤ 0) ∨ j = k)) (fun i _ => (intOf i).toNat)
  case atStart => exact ⟨k, rfl, by rw [Int.sub_self, ← D_one], .inr (.inr rfl)⟩
  case round =>
    obtain ⟨j, rfl, rfl, hj⟩ := hrel
    by_cases hlt : 0 < j
    · have hop : ∀ t w, (binOp .mul t (.float .f64 (D false 1 (k - j))) (.float .f64 4611686018427387904)).run Try.prog w = .ok (.float .f64 (D false 1 (k - j + 1))) w := fun t w => run_float_arith w .mul t .f64 _ _ _ (D_double (k - j) (by omega) (by omega))
      go_wp2_with (simp only [hop])
      go_round
      case rel => exact ⟨j - 1, by go_num, by rw [show k - (j - 1) = k - j + 1 by omega], by omega⟩
      case measure => simp [intOf]; omega
    · go_wp2_with fail
      have hj2 : (k ≤ j ∧ j ≤ 0) ∨ j = 0 := by omega
      clear hj hlt
      go_loop [0, 3] (fun i t => ∃ j : Int, i = .int .i64 j ∧ t = .float .f64 (D false 1 (k - j)) ∧ ((k ≤ j ∧ j ≤ 0) ∨ j = 0)) (fun i _ => (- intOf i).toNat)
      case atStart => exact ⟨j, rfl, rfl, hj2⟩
      case round =>
        clear hj2
        obtain ⟨j, rfl, rfl, hj1⟩ := hrel
        by_cases hlt : j < 0
        · have hop : ∀ t w, (binOp .quo t (.float .f64 (D false 1 (k - j))) (.float .f64 4611686018427387904)).run Try.prog w = .ok (.float .f64 (D false 1 (k - j - 1))) w := fun t w => run_float_arith w .quo t .f64 _ _ _ (D_half (k - j) (by omega) (by omega))
          go_wp2_with (simp only [hop])
          go_round
          case rel => exact ⟨j + 1, by go_num, by rw [show k - (j + 1) = k - j - 1 by omega], by omega⟩
          case measure => simp [intOf]; omega
        · have hj0 : j = 0 := by omega
          subst hj0
          go_wp2_with fail
          go_ret
          exact ⟨rfl, rfl⟩
end Go.Proofs.Ytlglbinalocilaa
