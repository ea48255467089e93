/- Walks: StepsBetween of the program and of the specification. -/
import Derived.Test.YtffilcmcjelajacW2
namespace Go.Proofs.Ytffilcmcjelajac
open Go.RowKit

/-- What stepsBetween hands back. -/
def dist (a b : Int) : Int := if a - b < 0 then -(a - b) else a - b

def stepsRes (x y : Nat) : Value := if fin x && fin y then .tuple #[.int .i64 (dist (place x) (place y)), .int .i64 0] else .tuple #[.int .i64 0, .int .i64 1]

theorem stepsBetween_any (x y : Nat) (w : World) (hx : x < 4294967296) (hy : y < 4294967296) :
    Calls Try.prog 9 #[.float .f32 x, .float .f32 y] w fun e w' => e = .returned (.int .i64 (dist (place x) (place y))) ∧ w = w' := by
  have hX := fun w => placeOf_any x w hx
  have hY := fun w => placeOf_any y w hy
  have bx := place_lt x
  have by' := place_lt y
  change ∀ w, Calls Try.prog 12 #[.float .f32 x] w fun e w' => e = .returned (.int .i64 (place x)) ∧ w = w' at hX
  change ∀ w, Calls Try.prog 12 #[.float .f32 y] w fun e w' => e = .returned (.int .i64 (place y)) ∧ w = w' at hY
  unfold dist
  generalize place x = a at *
  generalize place y = b at *
  have HX := Lib.hid hX
  have HY := Lib.hid hY
  clear hX hY
  by_cases h : a - b < 0
  all_goals
    simp only [h, if_true, if_false]
    go_enter Try.func9, Try.ntmps9
    go_wp2_with fail
    refine (HX.out _).mono ?_
    rintro e w' ⟨rfl, rfl⟩
    go_wp2_with fail
    refine (HY.out _).mono ?_
    rintro e w' ⟨rfl, rfl⟩
    go_wp2_with fail
    go_ret
    exact ⟨rfl, rfl⟩

theorem implSteps (x y : Nat) (w : World) (hx : x < 4294967296) (hy : y < 4294967296) :
    Calls Try.prog 5 #[.float .f32 x, .float .f32 y] w fun e w' => e = .returned (stepsRes x y) ∧ w = w' := by
  have hX := fun w => isNumber_any x w hx
  have hY := fun w => isNumber_any y w hy
  have HS := Lib.hid (fun w => stepsBetween_any x y w hx hy)
  unfold stepsRes
  cases h1 : fin x
  · rw [h1] at hX
    have HX := Lib.hid hX
    clear hX hY h1
    go_enter Try.func5, Try.ntmps5
    go_wp2_with fail
    refine (HX.out _).mono ?_
    rintro e w' ⟨rfl, rfl⟩
    go_wp2_with fail
    go_ret2
    exact ⟨rfl, rfl⟩
  · rw [h1] at hX
    cases h2 : fin y
    all_goals
      rw [h2] at hY
      have HX := Lib.hid hX
      have HY := Lib.hid hY
      clear hX hY h1 h2
      go_enter Try.func5, Try.ntmps5
      go_wp2_with fail
      refine (HX.out _).mono ?_
      rintro e w' ⟨rfl, rfl⟩
      go_wp2_with fail
      refine (HY.out _).mono ?_
      rintro e w' ⟨rfl, rfl⟩
      go_wp2_with (go_at_call 9; refine (HS.out _).mono ?_; rintro e w' ⟨rfl, rfl⟩)
      go_ret2
      exact ⟨rfl, rfl⟩

theorem specSteps (x y : Nat) (w : World) (hx : x < 4294967296) (hy : y < 4294967296) :
    Calls Try.prog 4 #[.float .f32 x, .float .f32 y] w fun e w' => e = .returned (stepsRes x y) ∧ ∃ n, w.drewN n = w' := by
  unfold stepsRes
  cases h1 : fin x
  · have HX := Lib.hid (fun w => fine_no x w hx h1)
    clear h1
    go_enter Try.func4, Try.ntmps4
    go_wp2_with fail
    refine (HX.out _).mono ?_
    rintro e w' ⟨rfl, rfl⟩
    go_wp2_with fail
    go_ret2
    exact ⟨rfl, 1, rfl⟩
  · have HX := Lib.hid (fun w => fine_yes x w hx h1)
    cases h2 : fin y
    · have HY := Lib.hid (fun w => fine_no y w hy h2)
      clear h1 h2
      go_enter Try.func4, Try.ntmps4
      go_wp2_with fail
      refine (HX.out _).mono ?_
      rintro e w' ⟨rfl, rfl⟩
      go_wp2_with fail
      refine (HY.out _).mono ?_
      rintro e w' ⟨rfl, rfl⟩
      go_wp2_with fail
      go_ret2
      exact ⟨rfl, 1, rfl⟩
    · have HY := Lib.hid (fun w => fine_yes y w hy h2)
      have BX := Lib.hid (fun w => bits_fin x w hx h1)
      have BY := Lib.hid (fun w => bits_fin y w hy h2)
      have bx := place_lt x
      have by' := place_lt y
      unfold dist
      generalize place x = a at *
      generalize place y = b at *
      clear h1 h2
      by_cases h : a - b < 0
      all_goals
        simp only [h, if_true, if_false]
        go_enter Try.func4, Try.ntmps4
        go_wp2_with fail
        refine (HX.out _).mono ?_
        rintro e w' ⟨rfl, rfl⟩
        go_wp2_with fail
        refine (HY.out _).mono ?_
        rintro e w' ⟨rfl, rfl⟩
        go_wp2_with fail
        refine (BX.out _).mono ?_
        rintro e w' ⟨rfl, rfl⟩
        go_wp2_with fail
        refine (BY.out _).mono ?_
        rintro e w' ⟨rfl, rfl⟩
        go_wp2_with fail
        go_ret2
        exact ⟨rfl, 0, rfl⟩
end Go.Proofs.Ytffilcmcjelajac
