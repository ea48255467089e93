/- Walks: the weights for a tangle, of the specification: WeightsOf. -/
import Derived.Test.YtlglbinalocilaaWt1
namespace Go.Proofs.Ytlglbinalocilaa
open Go.RowKit

theorem ord_some {x y : Nat} (hx : Num x) (hy : Num y) : FloatKind.f32.format.order x y = some .lt ∨ FloatKind.f32.format.order x y = some .eq ∨ FloatKind.f32.format.order x y = some .gt := by
  obtain ⟨u, hu⟩ := vl_of x hx.1 hx.2
  obtain ⟨v, hv⟩ := vl_of y hy.1 hy.2
  rw [ord_vl hu hv]
  rcases compare u v with _ | _ | _ <;> simp

theorem num_two : Num 1073741824 := ⟨by omega, by decide +kernel⟩

set_option maxHeartbeats 2000000 in
theorem specWts (c : Nat) (hc : c < 4294967296) : GivesW 17 c (wtN c) (wtW c) (wtC c) := by
  intro w
  unfold wtN wtC
  cases hf : fin c
  · have HF := Lib.hid (fun w => fine_no c w hc hf)
    simp only [Bool.false_and, Bool.false_eq_true, if_false]
    clear hc hf
    go_enter Try.func17, Try.ntmps17
    go_wp2_with fail
    refine (HF.out _).mono ?_
    rintro e w1 ⟨rfl, rfl⟩
    go_wp2_with fail
    go_ret2
    exact ⟨_, rfl, below_drewN (Below.refl _ _) _, ownv_none _ _ _ _⟩
  have HF := Lib.hid (fun w => fine_yes c w hc hf)
  simp only [Bool.true_and]
  rcases ord_some ⟨hc, hf⟩ num_nought with h1 | h1
  · have hi : inTwo c = false := by unfold inTwo; rw [h1]; rfl
    simp only [hi, Bool.false_eq_true, if_false, if_true]
    clear hc hf hi
    go_enter Try.func17, Try.ntmps17
    go_wp2_with fail
    refine (HF.out _).mono ?_
    rintro e w1 ⟨rfl, rfl⟩
    go_wp2_with fail
    go_ret2
    exact ⟨_, rfl, Below.refl _ _, ownv_none _ _ _ _⟩
  have hz : (FloatKind.f32.format.order c 0 == some .lt) = false := by rcases h1 with h1 | h1 <;> rw [h1] <;> rfl
  have hz2 : (FloatKind.f32.format.order c 0 != some .lt) = true := by rcases h1 with h1 | h1 <;> rw [h1] <;> rfl
  clear h1
  rcases ord_some ⟨hc, hf⟩ num_two with h2 | h2 | h2
  all_goals
    first
    | (have hi : inTwo c = false := by unfold inTwo; rw [h2, hz2]; rfl
       simp only [hi, Bool.false_eq_true, if_false, if_true]
       clear hc hf hi hz2
       go_enter Try.func17, Try.ntmps17
       go_wp2_with fail
       refine (HF.out _).mono ?_
       rintro e w1 ⟨rfl, rfl⟩
       go_wp2_with fail
       go_ret2
       exact ⟨_, rfl, Below.refl _ _, ownv_none _ _ _ _⟩)
    | skip
  all_goals
    have hi : inTwo c = true := by unfold inTwo; rw [h2, hz2]; rfl
    simp only [hi, if_true]
    obtain ⟨p1, p2, nr, hcase⟩ := on_way ⟨hc, hf⟩ hi
    obtain ⟨a1, na⟩ := one_add nr
    obtain ⟨a2, nb⟩ := one_sub nr
    obtain ⟨b1, _⟩ := hv_ok _ na
    obtain ⟨b2, _⟩ := hv_ok _ nb
    have M0 : ∀ t w, (binOp .mul t (.float .f32 c) (.float .f32 c)).run Try.prog w = .ok (.float .f32 (sq32 c)) w := fun t w => run_float_arith w .mul t .f32 _ _ _ p1
    have M1 : ∀ t w, (binOp .sub t (.float .f32 1065353216) (.float .f32 (sq32 c))).run Try.prog w = .ok (.float .f32 (tW c)) w := fun t w => run_float_arith w .sub t .f32 _ _ _ p2
    have M2 : ∀ t w, (binOp .add t (.float .f32 1065353216) (.float .f32 (rtW c))).run Try.prog w = .ok (.float .f32 (sm 1065353216 (rtW c))) w := fun t w => run_float_arith w .add t .f32 _ _ _ a1
    have M3 : ∀ t w, (binOp .sub t (.float .f32 1065353216) (.float .f32 (rtW c))).run Try.prog w = .ok (.float .f32 (sm 1065353216 (Op.negFloat .f32 (rtW c)))) w := fun t w => run_float_arith w .sub t .f32 _ _ _ a2
    have M4 : ∀ t w, (binOp .quo t (.float .f32 (sm 1065353216 (rtW c))) (.float .f32 1073741824)).run Try.prog w = .ok (.float .f32 (hv (sm 1065353216 (rtW c)))) w := fun t w => run_float_arith w .quo t .f32 _ _ _ b1
    have M5 : ∀ t w, (binOp .quo t (.float .f32 (sm 1065353216 (Op.negFloat .f32 (rtW c)))) (.float .f32 1073741824)).run Try.prog w = .ok (.float .f32 (hv (sm 1065353216 (Op.negFloat .f32 (rtW c))))) w := fun t w => run_float_arith w .quo t .f32 _ _ _ b2
    have hw : wtW c = fun i => if i = 0 then hv (sm 1065353216 (rtW c)) else hv (sm 1065353216 (Op.negFloat .f32 (rtW c))) := rfl
    rw [hw]
    rcases hcase with ⟨g, gp⟩ | ⟨g, g0⟩ | ⟨g, gp⟩
    · have hr : rtW c = 0 := by unfold rtW; rw [gp]; rfl
      have HR := Lib.hid (fun w => spec_root_nil w)
      simp only [hr] at M2 M3 M4 M5 ⊢
      clear hc hf hi hz2 hw a1 a2 b1 b2 na nb nr p1 p2 gp hr
      generalize hv (sm 1065353216 0) = x at *
      generalize hv (sm 1065353216 (Op.negFloat .f32 0)) = y at *
      go_enter Try.func17, Try.ntmps17
      go_wp2_with fail
      refine (HF.out _).mono ?_
      rintro e w1 ⟨rfl, rfl⟩
      go_wp2_with (first | simp only [M0, M1, M2, M3, M4, M5] | fail)
      refine (HR.out _).mono ?_
      rintro e w1 ⟨rfl, rfl⟩
      go_wp2_with (first | simp only [M0, M1, M2, M3, M4, M5] | fail)
      go_ret2
      exact ⟨_, rfl, (Below.refl _ _).alloc (Nat.le_refl _) _, two_row _ _ _⟩
    · have hr : rtW c = 0 := by unfold rtW; rw [g0]; rfl
      have HR := Lib.hid (fun w => spec_root_nil w)
      simp only [hr] at M2 M3 M4 M5 ⊢
      rw [g0] at M1 g
      clear hc hf hi hz2 hw a1 a2 b1 b2 na nb nr p1 p2 g0 hr
      generalize hv (sm 1065353216 0) = x at *
      generalize hv (sm 1065353216 (Op.negFloat .f32 0)) = y at *
      go_enter Try.func17, Try.ntmps17
      go_wp2_with fail
      refine (HF.out _).mono ?_
      rintro e w1 ⟨rfl, rfl⟩
      go_wp2_with (first | simp only [M0, M1, M2, M3, M4, M5] | fail)
      refine (HR.out _).mono ?_
      rintro e w1 ⟨rfl, rfl⟩
      go_wp2_with (first | simp only [M0, M1, M2, M3, M4, M5] | fail)
      go_ret2
      exact ⟨_, rfl, (Below.refl _ _).alloc (Nat.le_refl _) _, two_row _ _ _⟩
    · have hr : rtW c = rootW (tW c) := by unfold rtW; rw [gp]; rfl
      have HR := Lib.hid (fun w => specRootW (tW c) w gp)
      rw [← hr] at HR
      clear hc hf hi hz2 hw a1 a2 b1 b2 na nb nr p1 p2 gp hr
      generalize hv (sm 1065353216 (rtW c)) = x at *
      generalize hv (sm 1065353216 (Op.negFloat .f32 (rtW c))) = y at *
      go_enter Try.func17, Try.ntmps17
      go_wp2_with fail
      refine (HF.out _).mono ?_
      rintro e w1 ⟨rfl, rfl⟩
      go_wp2_with (first | simp only [M0, M1, M2, M3, M4, M5] | fail)
      refine (HR.out _).mono ?_
      rintro e w1 ⟨rfl, rfl⟩
      go_wp2_with (first | simp only [M0, M1, M2, M3, M4, M5] | fail)
      go_ret2
      exact ⟨_, rfl, (Below.refl _ _).alloc (Nat.le_refl _) _, two_row _ _ _⟩
end Go.Proofs.Ytlglbinalocilaa
