/- For every int64, FloatAt of the program hands back what FloatAt of the specification does, the sign of a zero too: the law FnExactFloatAt returns true, and its argument reads as before. No condition. -/
import Derived.Test.YtffilcmcjelajaaW3
import Derived.ProofKit
namespace Go.Proofs.Ytffilcmcjelajaa
open Go.ChangeShapes Go.WideShapes Go.ChangeAt Go.RowKit

namespace FloatAt

theorem wordAt_fin (i : Int) (h1 : -2139095040 < i) (h2 : i < 2139095040) : wordAt i < 4294967296 ∧ fin (wordAt i) = true := by
  unfold fin mag wordAt
  split
  · exact ⟨by omega, decide_eq_true (by omega)⟩
  · exact ⟨by omega, decide_eq_true (by omega)⟩

theorem law_true (i : Int) (w : World) (h1 : -9223372036854775808 ≤ i) (h2 : i ≤ 9223372036854775807) :
    Calls Try.prog 5 #[.int .i64 i] w fun e w' => e = .returned (.bool true) ∧ w = w' := by
  have hI := fun w => implFloatAt i w h1 h2
  have hS := fun w => specFloatAt i w
  clear h1 h2
  unfold atRes at hI hS
  by_cases hr : -2139095040 < i ∧ i < 2139095040
  · obtain ⟨hw, hf⟩ := wordAt_fin i hr.1 hr.2
    simp only [if_pos hr] at hI hS
    obtain ⟨y, hy, hsame⟩ := wide_same (wordAt i) hw hf
    have hconv : ∀ w, (convert 24 32 (.float .f32 (wordAt i))).run Try.prog w = .ok (.float .f64 y) w := fun w => run_convert_float_float w 24 32 .f32 .f64 _ _ (by rw [Try.underlying24]; rfl) Try.underlying32 hy
    generalize wordAt i = n at *
    have HI := Lib.hid hI
    have HS := Lib.hid hS
    have HE := Lib.hid hsame
    clear hI hS hsame hy hr hw hf
    go_enter Try.func5, Try.ntmps5
    go_wp2_with (first | (go_at_call 10; refine (HI.out _).mono ?_; rintro e w' ⟨rfl, rfl⟩) | (go_at_call 12; refine (HS.out _).mono ?_; rintro e w' ⟨rfl, rfl⟩) | (go_at_call 19; refine (HE.out _).mono ?_; rintro e w' ⟨rfl, rfl⟩))
    go_ret
    exact ⟨rfl, rfl⟩
  · simp only [if_neg hr] at hI hS
    obtain ⟨y, hy, hsame⟩ := wide_same 0 (by decide) (by decide +kernel)
    have hconv : ∀ w, (convert 24 32 (.float .f32 0)).run Try.prog w = .ok (.float .f64 y) w := fun w => run_convert_float_float w 24 32 .f32 .f64 _ _ (by rw [Try.underlying24]; rfl) Try.underlying32 hy
    have HI := Lib.hid hI
    have HS := Lib.hid hS
    have HE := Lib.hid hsame
    clear hI hS hsame hy hr
    go_enter Try.func5, Try.ntmps5
    go_wp2_with (first | (go_at_call 10; refine (HI.out _).mono ?_; rintro e w' ⟨rfl, rfl⟩) | (go_at_call 12; refine (HS.out _).mono ?_; rintro e w' ⟨rfl, rfl⟩) | (go_at_call 19; refine (HE.out _).mono ?_; rintro e w' ⟨rfl, rfl⟩))
    go_ret
    exact ⟨rfl, rfl⟩

theorem own : ownKnob Try.prog.godebug = none := by kernel_rfl

set_option maxRecDepth 100000 in
theorem lifted (os : Os) (started : os.Started) (H : Type) (enc : TypeId × Value → H) :
    ReturnsInHanded {} Try.checked os 5 .any (Rows.fnExactFloatAtSpec.pre6 enc Try.prog Try.f5 Rows.fnExactFloatAtRow.domain false) (Rows.fnExactFloatAtSpec.post enc Try.prog Try.f5 false true false false) := by
  refine returnsInHanded_of_change (C := Try.checked) own started (by kernel_rfl) Try.func5
    (ChangeSpec.witness6 (enc := enc) (C := Try.checked) false ⟨#[], #[.int .i64 0], []⟩ 8 (by kernel_rfl) (by kernel_rfl) (by kernel_rfl) (by kernel_rfl)) ?_
  intro W base args ds gs before hval0 hW hcnd _
  have hval : ∀ (j : Nat) t v, Try.f5.params[j]? = some t → args[j]? = some v → Value.okWide Try.prog W .any base t v := hval0
  have hW' := hW
  obtain ⟨p, q, hA0, hV, rfl, hfz, hnd⟩ := hW
  have hA : DataW.TrodAll enc Try.prog W 0 (fun _ => true) true Try.f5.params.toList args.toList ds p := hA0
  rw [Try.params5] at hA hval
  obtain ⟨v0, d0, rfl, rfl, h0⟩ := trodAll_one hA
  obtain ⟨rfl, rfl⟩ := trodVars_none hV
  obtain ⟨a, rfl, rfl, rfl, wa⟩ := open_int Try.underlying2 (hval 0 2 v0 rfl rfl) h0
  clear hA0 hval0
  simp only [List.append_nil] at hW'
  have ha : -9223372036854775808 ≤ a ∧ a ≤ 9223372036854775807 := i64_bounds wa
  refine (law_true a W ha.1 ha.2).mono fun e W' ⟨he, hw⟩ => ?_
  subst he; subst hw
  exact ⟨_, rfl, post_of_same (pa := []) (pv := []) hW' (fun _ _ _ => trodAll_mk1 (shut_bool Try.underlying4 _)) (fun sp _ => trodAll_mk1 (shut_int Try.underlying2 wa)) (fun _ _ => rfl) rfl
    (World.keptBut_refl _ _) (fun _ => rfl) (ok_one (by kernel_rfl) rfl (okWide_bool_mk Try.underlying4 _))⟩

theorem holds : Rows.FnExactFloatAtSaid :=
  OpenClaim.holds_of_wide 5 Try.f5 rfl rfl rfl rfl rfl rfl rfl ⟨rfl, rfl, rfl, rfl, rfl⟩ rfl rfl rfl rfl rfl (by kernel_rfl) Try.func5 (by kernel_rfl)
    (of_decide_eq_true (by kernel_rfl)) (by unfold Func.isWrapper; first | (rw [if_pos (by decide +kernel)]; kernel_rfl) | (rw [if_neg (by decide +kernel)]; exact ⟨rfl, rfl⟩))
    (fun os started H enc _ => lifted os started H enc)

end FloatAt
end Go.Proofs.Ytffilcmcjelajaa
