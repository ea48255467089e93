/- Walks: the weights for a tangle, of the program: WeightsOf. -/
import Derived.Test.YtlglbinalocilaaWt3
import Derived.Test.YtlglbinalocilaaW5
namespace Go.Proofs.Ytlglbinalocilaa
open Go.RowKit

theorem max_none {P : Program} (w : World) (ts : Array TypeId) (t : TypeId) (x : Nat) (h : FloatKind.f32.format.order x 0 = some .lt ∨ (FloatKind.f32.format.order x 0 = some .eq ∧ x = 0)) :
    (Builtin.max_ ts t #[.float .f32 x, .float .f32 0]).run P w = .ok (.float .f32 0) w := by
  have hm : (Builtin.max2 (.float .f32 x) (.float .f32 0)).run P w = .ok (.float .f32 0) w := by
    unfold Builtin.max2
    rcases h with h | ⟨h, rfl⟩
    · simp only [h]; rfl
    · simp only [h, ite_self]; rfl
  unfold Builtin.max_
  simp only [List.foldlM, Sem.run_bind, hm, Result.andThen_ok]
  first | rfl | simp

theorem max_some {P : Program} (w : World) (ts : Array TypeId) (t : TypeId) (x : Nat) (h : FloatKind.f32.format.order x 0 = some .gt) :
    (Builtin.max_ ts t #[.float .f32 x, .float .f32 0]).run P w = .ok (.float .f32 x) w := by
  have hm : (Builtin.max2 (.float .f32 x) (.float .f32 0)).run P w = .ok (.float .f32 x) w := by
    unfold Builtin.max2
    simp only [h]; rfl
  unfold Builtin.max_
  simp only [List.foldlM, Sem.run_bind, hm, Result.andThen_ok]
  first | rfl | simp

theorem impl_root_nil (w : World) : Calls Try.prog 45 #[.float .f32 0] w fun e w' => e = .returned (.tuple #[.float .f32 0, .int .i64 0]) ∧ w = w' := by
  have h0 : S false 0 0 = 0 := by decide +kernel
  have h1 : rootBits false 0 0 = 0 := by decide +kernel
  have := implRoot false 0 0 w (by rw [h0]; omega) (by rw [h0]; decide +kernel) (by omega) (by omega) (by omega) ⟨by decide, by decide, .inl rfl⟩ (fun h => by cases h)
  rw [h0, h1] at this
  exact this

theorem timesNumber_any (x y z : Nat) (h : floatBits .mul .f32 x y = some z) (w : World) : Calls Try.prog 46 #[.float .f32 x, .float .f32 y] w fun e w' => e = .returned (.float .f32 z) ∧ w = w' := by
  have M0 : ∀ t w, (binOp .mul t (.float .f32 x) (.float .f32 y)).run Try.prog w = .ok (.float .f32 z) w := fun t w => run_float_arith w .mul t .f32 _ _ _ h
  clear h
  go_enter Try.func46, Try.ntmps46
  go_wp2_with (first | simp only [M0] | fail)
  go_ret
  exact ⟨rfl, rfl⟩

set_option maxHeartbeats 2000000 in
theorem implWts (c : Nat) (hc : c < 4294967296) : GivesW 18 c (wtN c) (wtW c) (wtC c) := by
  intro w
  have HF := Lib.hid (fun w => isNumber_any c w hc)
  unfold wtN wtC
  cases hf : fin c
  · rw [hf] at HF
    simp only [Bool.false_and, Bool.false_eq_true, if_false]
    clear hc hf
    go_enter Try.func18, Try.ntmps18
    go_wp2_with fail
    refine (HF.out _).mono ?_
    rintro e w1 ⟨rfl, rfl⟩
    go_wp2_with fail
    go_ret2
    exact ⟨_, rfl, Below.refl _ _, ownv_none _ _ _ _⟩
  rw [hf] at HF
  simp only [Bool.true_and]
  rcases ord_some ⟨hc, hf⟩ num_nought with h1 | h1
  · have hi : inTwo c = false := by unfold inTwo; rw [h1]; rfl
    have hz : (FloatKind.f32.format.order c 0 == some .lt) = true := by rw [h1]; rfl
    simp only [hi, Bool.false_eq_true, if_false, if_true]
    clear hc hf hi
    go_enter Try.func18, Try.ntmps18
    go_wp2_with fail
    refine (HF.out _).mono ?_
    rintro e w1 ⟨rfl, rfl⟩
    go_wp2_with fail
    go_ret2
    exact ⟨_, rfl, Below.refl _ _, ownv_none _ _ _ _⟩
  have hz : (FloatKind.f32.format.order c 0 == some .lt) = false := by rcases h1 with h1 | h1 <;> rw [h1] <;> rfl
  have hz2 : (FloatKind.f32.format.order c 0 != some .lt) = true := by rcases h1 with h1 | h1 <;> rw [h1] <;> rfl
  clear h1
  rcases ord_some ⟨hc, hf⟩ num_two with h2 | h2 | h2
  all_goals
    first
    | (have hi : inTwo c = false := by unfold inTwo; rw [h2, hz2]; rfl
       have hg : (FloatKind.f32.format.order c 1073741824 == some .gt) = true := by rw [h2]; rfl
       simp only [hi, Bool.false_eq_true, if_false, if_true]
       clear hc hf hi hz2
       go_enter Try.func18, Try.ntmps18
       go_wp2_with fail
       refine (HF.out _).mono ?_
       rintro e w1 ⟨rfl, rfl⟩
       go_wp2_with fail
       go_ret2
       exact ⟨_, rfl, Below.refl _ _, ownv_none _ _ _ _⟩)
    | skip
  all_goals
    have hi : inTwo c = true := by unfold inTwo; rw [h2, hz2]; rfl
    have hg : (FloatKind.f32.format.order c 1073741824 == some .gt) = false := by rw [h2]; rfl
    simp only [hi, if_true]
    obtain ⟨p1, p2, nr, hcase⟩ := on_way ⟨hc, hf⟩ hi
    obtain ⟨a1, na⟩ := one_add nr
    obtain ⟨a2, nb⟩ := one_sub nr
    obtain ⟨b1, _⟩ := hv_ok _ na
    obtain ⟨b2, _⟩ := hv_ok _ nb
    have HT := Lib.hid (fun w => timesNumber_any c c _ p1 w)
    have M1 : ∀ t w, (binOp .sub t (.float .f32 1065353216) (.float .f32 (sq32 c))).run Try.prog w = .ok (.float .f32 (tW c)) w := fun t w => run_float_arith w .sub t .f32 _ _ _ p2
    have M2 : ∀ t w, (binOp .add t (.float .f32 1065353216) (.float .f32 (rtW c))).run Try.prog w = .ok (.float .f32 (sm 1065353216 (rtW c))) w := fun t w => run_float_arith w .add t .f32 _ _ _ a1
    have M3 : ∀ t w, (binOp .sub t (.float .f32 1065353216) (.float .f32 (rtW c))).run Try.prog w = .ok (.float .f32 (sm 1065353216 (Op.negFloat .f32 (rtW c)))) w := fun t w => run_float_arith w .sub t .f32 _ _ _ a2
    have M4 : ∀ t w, (binOp .quo t (.float .f32 (sm 1065353216 (rtW c))) (.float .f32 1073741824)).run Try.prog w = .ok (.float .f32 (hv (sm 1065353216 (rtW c)))) w := fun t w => run_float_arith w .quo t .f32 _ _ _ b1
    have M5 : ∀ t w, (binOp .quo t (.float .f32 (sm 1065353216 (Op.negFloat .f32 (rtW c)))) (.float .f32 1073741824)).run Try.prog w = .ok (.float .f32 (hv (sm 1065353216 (Op.negFloat .f32 (rtW c))))) w := fun t w => run_float_arith w .quo t .f32 _ _ _ b2
    have hw : wtW c = fun i => if i = 0 then hv (sm 1065353216 (rtW c)) else hv (sm 1065353216 (Op.negFloat .f32 (rtW c))) := rfl
    rw [hw]
    have hcase2 : ((∀ ts t w, (Builtin.max_ ts t #[.float .f32 (tW c), .float .f32 0]).run Try.prog w = .ok (.float .f32 0) w) ∧ rtW c = 0) ∨ ((∀ ts t w, (Builtin.max_ ts t #[.float .f32 (tW c), .float .f32 0]).run Try.prog w = .ok (.float .f32 (tW c)) w) ∧ posW (tW c) = true ∧ rtW c = rootW (tW c)) := by
      rcases hcase with ⟨g, gp⟩ | ⟨g, g0⟩ | ⟨g, gp⟩
      · exact .inl ⟨fun ts t w => max_none w ts t _ (.inl g), by unfold rtW; rw [gp]; rfl⟩
      · exact .inl ⟨fun ts t w => max_none w ts t _ (.inr ⟨g, g0⟩), by unfold rtW; rw [g0]; rfl⟩
      · exact .inr ⟨fun ts t w => max_some w ts t _ g, gp, by unfold rtW; rw [gp]; rfl⟩
    clear hcase
    rcases hcase2 with ⟨mx, hr⟩ | ⟨mx, gp, hr⟩
    · have HR := Lib.hid (fun w => impl_root_nil w)
      simp only [hr] at M2 M3 M4 M5 ⊢
      clear hc hf hi hz2 hw a1 a2 b1 b2 na nb nr p1 p2 hr
      generalize hv (sm 1065353216 0) = x at *
      generalize hv (sm 1065353216 (Op.negFloat .f32 0)) = y at *
      generalize tW c = tw at *
      generalize sq32 c = sq at *
      go_enter Try.func18, Try.ntmps18
      go_wp2_with fail
      refine (HF.out _).mono ?_
      rintro e w1 ⟨rfl, rfl⟩
      go_wp2_with fail
      refine (HT.out _).mono ?_
      rintro e w1 ⟨rfl, rfl⟩
      go_wp2_with (first | simp only [M1, M2, M3, M4, M5, mx] | fail)
      refine (HR.out _).mono ?_
      rintro e w1 ⟨rfl, rfl⟩
      go_wp2_with (first | simp only [M1, M2, M3, M4, M5] | fail)
      go_ret2
      exact ⟨_, rfl, (Below.refl _ _).alloc (Nat.le_refl _) _, two_row _ _ _⟩
    · have HR := Lib.hid (fun w => implRootW (tW c) w gp)
      rw [← hr] at HR
      clear hc hf hi hz2 hw a1 a2 b1 b2 na nb nr p1 p2 gp hr
      generalize hv (sm 1065353216 (rtW c)) = x at *
      generalize hv (sm 1065353216 (Op.negFloat .f32 (rtW c))) = y at *
      go_enter Try.func18, Try.ntmps18
      go_wp2_with fail
      refine (HF.out _).mono ?_
      rintro e w1 ⟨rfl, rfl⟩
      go_wp2_with fail
      refine (HT.out _).mono ?_
      rintro e w1 ⟨rfl, rfl⟩
      go_wp2_with (first | simp only [M1, M2, M3, M4, M5, mx] | fail)
      refine (HR.out _).mono ?_
      rintro e w1 ⟨rfl, rfl⟩
      go_wp2_with (first | simp only [M1, M2, M3, M4, M5] | fail)
      go_ret2
      exact ⟨_, rfl, (Below.refl _ _).alloc (Nat.le_refl _) _, two_row _ _ _⟩
end Go.Proofs.Ytlglbinalocilaa
