/- For all float32 x and y, StepsBetween of the program hands back what StepsBetween of the specification does: the law FnExactStepsBetween returns true, and its arguments read as before. No condition. -/
import Derived.Test.YtffilcmcjelajacW2
import Derived.ProofKit
namespace Go.Proofs.Ytffilcmcjelajac
open Go.ChangeShapes Go.WideShapes Go.ChangeAt Go.RowKit

namespace Steps

/-- What stepsBetween hands back. -/
def dist (a b : Int) : Int := if a - b < 0 then -(a - b) else a - b

def stepsRes (x y : Nat) : Value := if fin x && fin y then .tuple #[.int .i64 (dist (place x) (place y)), .int .i64 0] else .tuple #[.int .i64 0, .int .i64 1]

theorem stepsBetween_any (x y : Nat) (w : World) (hx : x < 4294967296) (hy : y < 4294967296) :
    Calls Try.prog 9 #[.float .f32 x, .float .f32 y] w fun e w' => e = .returned (.int .i64 (dist (place x) (place y))) ∧ w = w' := by
  have hX := fun w => placeOf_any x w hx
  have hY := fun w => placeOf_any y w hy
  have bx := place_lt x
  have by' := place_lt y
  change ∀ w, Calls Try.prog 12 #[.float .f32 x] w fun e w' => e = .returned (.int .i64 (place x)) ∧ w = w' at hX
  change ∀ w, Calls Try.prog 12 #[.float .f32 y] w fun e w' => e = .returned (.int .i64 (place y)) ∧ w = w' at hY
  unfold dist
  generalize place x = a at *
  generalize place y = b at *
  have HX := Lib.hid hX
  have HY := Lib.hid hY
  clear hX hY
  by_cases h : a - b < 0
  all_goals
    simp only [h, if_true, if_false]
    go_enter Try.func9, Try.ntmps9
    go_wp2_with fail
    refine (HX.out _).mono ?_
    rintro e w' ⟨rfl, rfl⟩
    go_wp2_with fail
    refine (HY.out _).mono ?_
    rintro e w' ⟨rfl, rfl⟩
    go_wp2_with fail
    go_ret
    exact ⟨rfl, rfl⟩

theorem implSteps (x y : Nat) (w : World) (hx : x < 4294967296) (hy : y < 4294967296) :
    Calls Try.prog 5 #[.float .f32 x, .float .f32 y] w fun e w' => e = .returned (stepsRes x y) ∧ w = w' := by
  have hX := fun w => isNumber_any x w hx
  have hY := fun w => isNumber_any y w hy
  have HS := Lib.hid (fun w => stepsBetween_any x y w hx hy)
  unfold stepsRes
  cases h1 : fin x
  · rw [h1] at hX
    have HX := Lib.hid hX
    clear hX hY h1
    go_enter Try.func5, Try.ntmps5
    go_wp2_with fail
    refine (HX.out _).mono ?_
    rintro e w' ⟨rfl, rfl⟩
    go_wp2_with fail
    go_ret2
    exact ⟨rfl, rfl⟩
  · rw [h1] at hX
    cases h2 : fin y
    all_goals
      rw [h2] at hY
      have HX := Lib.hid hX
      have HY := Lib.hid hY
      clear hX hY h1 h2
      go_enter Try.func5, Try.ntmps5
      go_wp2_with fail
      refine (HX.out _).mono ?_
      rintro e w' ⟨rfl, rfl⟩
      go_wp2_with fail
      refine (HY.out _).mono ?_
      rintro e w' ⟨rfl, rfl⟩
      go_wp2_with (go_at_call 9; refine (HS.out _).mono ?_; rintro e w' ⟨rfl, rfl⟩)
      go_ret2
      exact ⟨rfl, rfl⟩

theorem specSteps (x y : Nat) (w : World) (hx : x < 4294967296) (hy : y < 4294967296) :
    Calls Try.prog 4 #[.float .f32 x, .float .f32 y] w fun e w' => e = .returned (stepsRes x y) ∧ ∃ n, w.drewN n = w' := by
  unfold stepsRes
  cases h1 : fin x
  · have HX := Lib.hid (fun w => fine_no x w hx h1)
    clear h1
    go_enter Try.func4, Try.ntmps4
    go_wp2_with fail
    refine (HX.out _).mono ?_
    rintro e w' ⟨rfl, rfl⟩
    go_wp2_with fail
    go_ret2
    exact ⟨rfl, 1, rfl⟩
  · have HX := Lib.hid (fun w => fine_yes x w hx h1)
    cases h2 : fin y
    · have HY := Lib.hid (fun w => fine_no y w hy h2)
      clear h1 h2
      go_enter Try.func4, Try.ntmps4
      go_wp2_with fail
      refine (HX.out _).mono ?_
      rintro e w' ⟨rfl, rfl⟩
      go_wp2_with fail
      refine (HY.out _).mono ?_
      rintro e w' ⟨rfl, rfl⟩
      go_wp2_with fail
      go_ret2
      exact ⟨rfl, 1, rfl⟩
    · have HY := Lib.hid (fun w => fine_yes y w hy h2)
      have BX := Lib.hid (fun w => bits_fin x w hx h1)
      have BY := Lib.hid (fun w => bits_fin y w hy h2)
      have bx := place_lt x
      have by' := place_lt y
      unfold dist
      generalize place x = a at *
      generalize place y = b at *
      clear h1 h2
      by_cases h : a - b < 0
      all_goals
        simp only [h, if_true, if_false]
        go_enter Try.func4, Try.ntmps4
        go_wp2_with fail
        refine (HX.out _).mono ?_
        rintro e w' ⟨rfl, rfl⟩
        go_wp2_with fail
        refine (HY.out _).mono ?_
        rintro e w' ⟨rfl, rfl⟩
        go_wp2_with fail
        refine (BX.out _).mono ?_
        rintro e w' ⟨rfl, rfl⟩
        go_wp2_with fail
        refine (BY.out _).mono ?_
        rintro e w' ⟨rfl, rfl⟩
        go_wp2_with fail
        go_ret2
        exact ⟨rfl, 0, rfl⟩
theorem law_true (x y : Nat) (w : World) (hx : x < 4294967296) (hy : y < 4294967296) :
    Calls Try.prog 3 #[.float .f32 x, .float .f32 y] w fun e w' => e = .returned (.bool true) ∧ ∃ n, w.drewN n = w' := by
  have hI := fun w => implSteps x y w hx hy
  have hS := fun w => specSteps x y w hx hy
  unfold stepsRes at hI hS
  generalize dist (place x) (place y) = d at *
  cases hf : fin x && fin y
  all_goals
    simp only [hf, if_true, Bool.false_eq_true, if_false] at hI hS
    clear hf
    have HI := Lib.hid hI
    have HS := Lib.hid hS
    clear hI hS
    go_enter Try.func3, Try.ntmps3
    go_wp2_with (first | (go_at_call 5; refine (HI.out _).mono ?_; rintro e w' ⟨rfl, rfl⟩) | (go_at_call 4; refine (HS.out _).mono ?_; rintro e w' ⟨rfl, n, rfl⟩))
    go_ret
    exact ⟨rfl, _, rfl⟩

theorem own : ownKnob Try.prog.godebug = none := by kernel_rfl

set_option maxRecDepth 100000 in
theorem lifted (os : Os) (started : os.Started) (H : Type) (enc : TypeId × Value → H) :
    ReturnsInHanded {} Try.checked os 3 .any (Rows.fnExactStepsBetweenSpec.pre6 enc Try.prog Try.f3 Rows.fnExactStepsBetweenRow.domain false) (Rows.fnExactStepsBetweenSpec.post enc Try.prog Try.f3 false true false false) := by
  refine returnsInHanded_of_change (C := Try.checked) own started (by kernel_rfl) Try.func3
    (ChangeSpec.witness6 (enc := enc) (C := Try.checked) false ⟨#[], #[.float .f32 0, .float .f32 0], []⟩ 8 (by kernel_rfl) (by kernel_rfl) (by kernel_rfl) (by kernel_rfl)) ?_
  intro W base args ds gs before hval0 hW hcnd _
  have hval : ∀ (j : Nat) t v, Try.f3.params[j]? = some t → args[j]? = some v → Value.okWide Try.prog W .any base t v := hval0
  have hW' := hW
  obtain ⟨p, q, hA0, hV, rfl, hfz, hnd⟩ := hW
  have hA : DataW.TrodAll enc Try.prog W 0 (fun _ => true) true Try.f3.params.toList args.toList ds p := hA0
  rw [Try.params3] at hA hval
  obtain ⟨v0, v1, d0, d1, p0, p1, rfl, rfl, rfl, h0, h1⟩ := trodAll_two hA
  obtain ⟨rfl, rfl⟩ := trodVars_none hV
  obtain ⟨a, rfl, rfl, rfl, wa⟩ := open_float Try.underlying22 (hval 0 22 v0 rfl rfl) h0
  obtain ⟨b, rfl, rfl, rfl, wb⟩ := open_float Try.underlying22 (hval 1 22 v1 rfl rfl) h1
  clear hA0 hval0
  simp only [List.append_nil] at hW'
  have ha : a < 4294967296 := by simpa [Lit.wf] using wa
  have hb : b < 4294967296 := by simpa [Lit.wf] using wb
  refine (law_true a b W ha hb).mono fun e W' ⟨he, n, hw⟩ => ?_
  subst he
  refine ⟨_, rfl, ChangeSpec.post_alike (post_of_same (pa := []) (pv := []) hW' (fun _ _ _ => trodAll_mk1 (shut_bool Try.underlying4 _)) (fun sp _ => trodAll_mk2 (shut_float Try.underlying22 wa) (shut_float Try.underlying22 wb)) (fun _ _ => rfl) rfl
    (World.keptBut_refl _ _) (fun _ => rfl) (ok_one (by kernel_rfl) rfl (okWide_bool_mk Try.underlying4 _))) ?_⟩
  rw [← hw]
  exact World.drewN_alike W n

theorem holds : Rows.FnExactStepsBetweenSaid :=
  OpenClaim.holds_of_wide 3 Try.f3 rfl rfl rfl rfl rfl rfl rfl ⟨rfl, rfl, rfl, rfl, rfl⟩ rfl rfl rfl rfl rfl (by kernel_rfl) Try.func3 (by kernel_rfl)
    (of_decide_eq_true (by kernel_rfl)) (by unfold Func.isWrapper; first | (rw [if_pos (by decide +kernel)]; kernel_rfl) | (rw [if_neg (by decide +kernel)]; exact ⟨rfl, rfl⟩))
    (fun os started H enc _ => lifted os started H enc)

end Steps
end Go.Proofs.Ytffilcmcjelajac
