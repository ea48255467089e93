/- Walks: the loops that halve. -/
import Derived.Test.YtmaohbddmafifaaH1
namespace Go.Proofs.Ytmaohbddmafifaa
open Go.RowKit

theorem step_facts (k : Nat) (h : k < 24) :
    (∀ t w, (binOp .add t (.float .f32 1065353216) (.float .f32 (halved k).1)).run Try.prog w = .ok (.float .f32 (upW (halved k).1)) w) ∧
    (∀ t w, (binOp .quo t (.float .f32 (upW (halved k).1)) (.float .f32 1073741824)).run Try.prog w = .ok (.float .f32 (halfW (halved k).1)) w) ∧
    posW (halfW (halved k).1) = true ∧
    (∀ t w, (binOp .mul t (.float .f32 1073741824) (.float .f32 (halved (k + 1)).1)).run Try.prog w = .ok (.float .f32 (twiceW (halved (k + 1)).1)) w) ∧
    (∀ t w, (binOp .quo t (.float .f32 (halved k).2) (.float .f32 (twiceW (halved (k + 1)).1))).run Try.prog w = .ok (.float .f32 (halved (k + 1)).2) w) := by
  have h := step_of k h
  unfold stepOk at h
  simp only [Bool.and_eq_true, beq_iff_eq] at h
  obtain ⟨⟨⟨⟨h1, h2⟩, h3⟩, h4⟩, h5⟩ := h
  exact ⟨fun t w => run_float_arith w .add t .f32 _ _ _ h1, fun t w => run_float_arith w .quo t .f32 _ _ _ h2, h3, fun t w => run_float_arith w .mul t .f32 _ _ _ h4, fun t w => run_float_arith w .quo t .f32 _ _ _ h5⟩

theorem root_eq (k : Nat) : rootW (halfW (halved k).1) = (halved (k + 1)).1 := rfl

set_option maxHeartbeats 1000000 in
theorem implHalved (n : Nat) (w : World) (hn : n ≤ 24) :
    Calls Try.prog 102 #[.int .i64 n] w fun e w' => e = .returned (.tuple #[.float .f32 (halved n).1, .float .f32 (halved n).2, .int .i64 0]) ∧ w = w' := by
  go_enter Try.func102, Try.ntmps102
  go_wp2
  go_loop [5, 6, 10] (fun c s i => ∃ k : Nat, k ≤ n ∧ c = .float .f32 (halved k).1 ∧ s = .float .f32 (halved k).2 ∧ i = .int .i64 k) (fun _ _ i => n - (intOf i).toNat)
  case atStart => exact ⟨0, by omega, rfl, rfl, rfl⟩
  case round =>
    obtain ⟨k, hk, rfl, rfl, rfl⟩ := hrel
    by_cases hlt : k < n
    · obtain ⟨f1, f2, f3, f4, f5⟩ := step_facts k (by omega)
      have HR := Lib.hid (fun w => implRootW _ w f3)
      rw [root_eq] at HR
      clear f3
      generalize hq : halved (k + 1) = q at *
      have HQ := Lib.hid hq
      clear hq
      go_wp2_with fail
      refine (HR.out _).mono ?_
      rintro e w' ⟨rfl, rfl⟩
      go_wp2_with fail
      go_round
      case rel => exact ⟨k + 1, by omega, by rw [HQ.out], by rw [HQ.out], by go_num⟩
      case measure => simp [intOf]; omega
    · obtain rfl : n = k := by omega
      go_wp2_with fail
      exact bodyPost_ret (v := .tuple #[.float .f32 (halved n).1, .float .f32 (halved n).2, .int .i64 0]) (by simp [results, Try.results102, go_sem]) rfl ⟨rfl, rfl⟩

set_option maxHeartbeats 1000000 in
theorem specHalved (n : Nat) (w : World) (hn : n ≤ 24) :
    Calls Try.prog 59 #[.int .i64 n] w fun e w' => e = .returned (.tuple #[.float .f32 (halved n).1, .float .f32 (halved n).2]) ∧ w = w' := by
  go_enter Try.func59, Try.ntmps59
  go_wp2
  go_loop [4, 5, 0] (fun c s i => ∃ k : Nat, k ≤ n ∧ c = .float .f32 (halved k).1 ∧ s = .float .f32 (halved k).2 ∧ i = .int .i64 ((n : Int) - k)) (fun _ _ i => (intOf i).toNat)
  case atStart => exact ⟨0, by omega, rfl, rfl, by simp⟩
  case round =>
    obtain ⟨k, hk, rfl, rfl, rfl⟩ := hrel
    by_cases hlt : k < n
    · obtain ⟨f1, f2, f3, f4, f5⟩ := step_facts k (by omega)
      have HR := Lib.hid (fun w => specRootW _ w f3)
      rw [root_eq] at HR
      clear f3
      generalize hq : halved (k + 1) = q at *
      have HQ := Lib.hid hq
      clear hq
      have hpos : (0 : Int) < (n : Int) - k := by omega
      go_wp2_with fail
      refine (HR.out _).mono ?_
      rintro e w' ⟨rfl, rfl⟩
      go_wp2_with fail
      go_round
      case rel => exact ⟨k + 1, by omega, by rw [HQ.out], by rw [HQ.out], by congr 1; omega⟩
      case measure => simp [intOf]; omega
    · obtain rfl : n = k := by omega
      have hz : ¬ (0 : Int) < (n : Int) - n := by omega
      go_wp2_with fail
      exact bodyPost_ret (v := .tuple #[.float .f32 (halved n).1, .float .f32 (halved n).2]) (by simp [results, Try.results59, go_sem]) rfl ⟨rfl, rfl⟩
end Go.Proofs.Ytmaohbddmafifaa
