/- Walks: BellPair of the program; its law holds. -/
import Derived.Test.YtlglbinalocilaaB2
namespace Go.Proofs.Ytlglbinalocilaa
open Go.RowKit

set_option maxHeartbeats 1000000 in
theorem implBell0 (w : World) :
    Calls Try.prog 23 #[.int .i64 0] w fun e w' => e = .returned (bellRes 0) ∧ Below w.heap.size w w' := by
  have HR := Lib.hid (fun w => implRootW 1056964608 w half_pos)
  have hr : rootW 1056964608 = hR := rfl
  rw [hr] at HR
  have hv : bellRes 0 = .tuple #[.agg #[.complex .f32 hR 0, .complex .f32 0 0, .complex .f32 0 0, .complex .f32 hR 0], .int .i64 0] := rfl
  rw [hv]
  have hi : ∀ (h n z : Nat) w, (Instr.index 86 (.agg #[.complex .f32 h 0, .complex .f32 0 0, .complex .f32 0 0, .complex .f32 h 0, .complex .f32 h 0, .complex .f32 0 0, .complex .f32 0 0, .complex .f32 n z, .complex .f32 0 0, .complex .f32 h 0, .complex .f32 h 0, .complex .f32 0 0, .complex .f32 0 0, .complex .f32 h 0, .complex .f32 n z, .complex .f32 0 0]) (.int .i64 0)).run Try.prog w = .ok (.agg #[.complex .f32 h 0, .complex .f32 0 0, .complex .f32 0 0, .complex .f32 h 0]) w := fun _ _ _ _ => by kernel_rfl
  clear hv hr
  generalize hR = h at *
  go_enter Try.func23, Try.ntmps23
  go_wp2_with fail
  refine (HR.out _).mono ?_
  rintro e w' ⟨rfl, rfl⟩
  go_wp2_with fail
  refine bodyPost_ret (v := .tuple #[.agg #[.complex .f32 h 0, .complex .f32 0 0, .complex .f32 0 0, .complex .f32 h 0], .int .i64 0]) (by simp [results, Try.results23, go_sem]) rfl ⟨rfl, ?_⟩
  all_goals repeat first
    | exact Below.refl _ _
    | refine Below.setCell ?_ ?_ _
    | refine Below.alloc ?_ ?_ _
  all_goals first | omega | (simp; done) | (simp; omega)

set_option maxHeartbeats 1000000 in
theorem implBell1 (w : World) :
    Calls Try.prog 23 #[.int .i64 1] w fun e w' => e = .returned (bellRes 1) ∧ Below w.heap.size w w' := by
  have HR := Lib.hid (fun w => implRootW 1056964608 w half_pos)
  have hr : rootW 1056964608 = hR := rfl
  rw [hr] at HR
  have hv : bellRes 1 = .tuple #[.agg #[.complex .f32 hR 0, .complex .f32 0 0, .complex .f32 0 0, .complex .f32 (Op.negFloat .f32 hR) (Op.negFloat .f32 0)], .int .i64 0] := rfl
  rw [hv]
  have hi : ∀ (h n z : Nat) w, (Instr.index 86 (.agg #[.complex .f32 h 0, .complex .f32 0 0, .complex .f32 0 0, .complex .f32 h 0, .complex .f32 h 0, .complex .f32 0 0, .complex .f32 0 0, .complex .f32 n z, .complex .f32 0 0, .complex .f32 h 0, .complex .f32 h 0, .complex .f32 0 0, .complex .f32 0 0, .complex .f32 h 0, .complex .f32 n z, .complex .f32 0 0]) (.int .i64 1)).run Try.prog w = .ok (.agg #[.complex .f32 h 0, .complex .f32 0 0, .complex .f32 0 0, .complex .f32 n z]) w := fun _ _ _ _ => by kernel_rfl
  clear hv hr
  generalize hR = h at *
  go_enter Try.func23, Try.ntmps23
  go_wp2_with fail
  refine (HR.out _).mono ?_
  rintro e w' ⟨rfl, rfl⟩
  go_wp2_with fail
  refine bodyPost_ret (v := .tuple #[.agg #[.complex .f32 h 0, .complex .f32 0 0, .complex .f32 0 0, .complex .f32 (Op.negFloat .f32 h) (Op.negFloat .f32 0)], .int .i64 0]) (by simp [results, Try.results23, go_sem]) rfl ⟨rfl, ?_⟩
  all_goals repeat first
    | exact Below.refl _ _
    | refine Below.setCell ?_ ?_ _
    | refine Below.alloc ?_ ?_ _
  all_goals first | omega | (simp; done) | (simp; omega)

set_option maxHeartbeats 1000000 in
theorem implBell2 (w : World) :
    Calls Try.prog 23 #[.int .i64 2] w fun e w' => e = .returned (bellRes 2) ∧ Below w.heap.size w w' := by
  have HR := Lib.hid (fun w => implRootW 1056964608 w half_pos)
  have hr : rootW 1056964608 = hR := rfl
  rw [hr] at HR
  have hv : bellRes 2 = .tuple #[.agg #[.complex .f32 0 0, .complex .f32 hR 0, .complex .f32 hR 0, .complex .f32 0 0], .int .i64 0] := rfl
  rw [hv]
  have hi : ∀ (h n z : Nat) w, (Instr.index 86 (.agg #[.complex .f32 h 0, .complex .f32 0 0, .complex .f32 0 0, .complex .f32 h 0, .complex .f32 h 0, .complex .f32 0 0, .complex .f32 0 0, .complex .f32 n z, .complex .f32 0 0, .complex .f32 h 0, .complex .f32 h 0, .complex .f32 0 0, .complex .f32 0 0, .complex .f32 h 0, .complex .f32 n z, .complex .f32 0 0]) (.int .i64 2)).run Try.prog w = .ok (.agg #[.complex .f32 0 0, .complex .f32 h 0, .complex .f32 h 0, .complex .f32 0 0]) w := fun _ _ _ _ => by kernel_rfl
  clear hv hr
  generalize hR = h at *
  go_enter Try.func23, Try.ntmps23
  go_wp2_with fail
  refine (HR.out _).mono ?_
  rintro e w' ⟨rfl, rfl⟩
  go_wp2_with fail
  refine bodyPost_ret (v := .tuple #[.agg #[.complex .f32 0 0, .complex .f32 h 0, .complex .f32 h 0, .complex .f32 0 0], .int .i64 0]) (by simp [results, Try.results23, go_sem]) rfl ⟨rfl, ?_⟩
  all_goals repeat first
    | exact Below.refl _ _
    | refine Below.setCell ?_ ?_ _
    | refine Below.alloc ?_ ?_ _
  all_goals first | omega | (simp; done) | (simp; omega)

set_option maxHeartbeats 1000000 in
theorem implBell3 (w : World) :
    Calls Try.prog 23 #[.int .i64 3] w fun e w' => e = .returned (bellRes 3) ∧ Below w.heap.size w w' := by
  have HR := Lib.hid (fun w => implRootW 1056964608 w half_pos)
  have hr : rootW 1056964608 = hR := rfl
  rw [hr] at HR
  have hv : bellRes 3 = .tuple #[.agg #[.complex .f32 0 0, .complex .f32 hR 0, .complex .f32 (Op.negFloat .f32 hR) (Op.negFloat .f32 0), .complex .f32 0 0], .int .i64 0] := rfl
  rw [hv]
  have hi : ∀ (h n z : Nat) w, (Instr.index 86 (.agg #[.complex .f32 h 0, .complex .f32 0 0, .complex .f32 0 0, .complex .f32 h 0, .complex .f32 h 0, .complex .f32 0 0, .complex .f32 0 0, .complex .f32 n z, .complex .f32 0 0, .complex .f32 h 0, .complex .f32 h 0, .complex .f32 0 0, .complex .f32 0 0, .complex .f32 h 0, .complex .f32 n z, .complex .f32 0 0]) (.int .i64 3)).run Try.prog w = .ok (.agg #[.complex .f32 0 0, .complex .f32 h 0, .complex .f32 n z, .complex .f32 0 0]) w := fun _ _ _ _ => by kernel_rfl
  clear hv hr
  generalize hR = h at *
  go_enter Try.func23, Try.ntmps23
  go_wp2_with fail
  refine (HR.out _).mono ?_
  rintro e w' ⟨rfl, rfl⟩
  go_wp2_with fail
  refine bodyPost_ret (v := .tuple #[.agg #[.complex .f32 0 0, .complex .f32 h 0, .complex .f32 (Op.negFloat .f32 h) (Op.negFloat .f32 0), .complex .f32 0 0], .int .i64 0]) (by simp [results, Try.results23, go_sem]) rfl ⟨rfl, ?_⟩
  all_goals repeat first
    | exact Below.refl _ _
    | refine Below.setCell ?_ ?_ _
    | refine Below.alloc ?_ ?_ _
  all_goals first | omega | (simp; done) | (simp; omega)

set_option maxHeartbeats 1000000 in
theorem implBell_no (k : Int) (hk : k < 0 ∨ 4 ≤ k) (w : World) :
    Calls Try.prog 23 #[.int .i64 k] w fun e w' => e = .returned (bellRes k) ∧ Below w.heap.size w w' := by
  have hv : bellRes k = .tuple #[.agg #[.complex .f32 0 0, .complex .f32 0 0, .complex .f32 0 0, .complex .f32 0 0], .int .i64 2] := if_neg (by omega)
  rw [hv]
  clear hv
  rcases hk with hk | hk
  · go_enter Try.func23, Try.ntmps23
    go_wp2_with fail
    refine bodyPost_ret (v := .tuple #[.agg #[.complex .f32 0 0, .complex .f32 0 0, .complex .f32 0 0, .complex .f32 0 0], .int .i64 2]) (by simp [results, Try.results23, go_sem]) rfl ⟨rfl, ?_⟩
    all_goals repeat first
      | exact Below.refl _ _
      | refine Below.setCell ?_ ?_ _
      | refine Below.alloc ?_ ?_ _
    all_goals first | omega | (simp; done) | (simp; omega)
  · have h0 : ¬ k < 0 := by omega
    go_enter Try.func23, Try.ntmps23
    go_wp2_with fail
    refine bodyPost_ret (v := .tuple #[.agg #[.complex .f32 0 0, .complex .f32 0 0, .complex .f32 0 0, .complex .f32 0 0], .int .i64 2]) (by simp [results, Try.results23, go_sem]) rfl ⟨rfl, ?_⟩
    all_goals repeat first
      | exact Below.refl _ _
      | refine Below.setCell ?_ ?_ _
      | refine Below.alloc ?_ ?_ _
    all_goals first | omega | (simp; done) | (simp; omega)

theorem bellOk : BellOk := fun k w _ _ => by
  by_cases hk : k < 0 ∨ 4 ≤ k
  · exact implBell_no k hk w
  · have hk4 : k = 0 ∨ k = 1 ∨ k = 2 ∨ k = 3 := by omega
    clear hk
    rcases hk4 with rfl | rfl | rfl | rfl
    · exact implBell0 w
    · exact implBell1 w
    · exact implBell2 w
    · exact implBell3 w
end Go.Proofs.Ytlglbinalocilaa
