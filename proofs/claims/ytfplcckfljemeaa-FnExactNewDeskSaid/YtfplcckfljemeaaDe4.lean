/- NewDesk of a program (of my own: the trial seat of round 9): a pattern for the landed one's walk. -/
import Derived.Test.YtfplcckfljemeaaDe3
namespace Go.Proofs.Ytfplcckfljemeaa
open Go.RowKit

theorem unitTurnD (w : World) : Calls Try.prog 10 #[] w fun e w' => e = .returned (.agg #[.complex .f32 1065353216 0, .complex .f32 0 0, .complex .f32 0 0, .complex .f32 1065353216 0]) ∧ Below w.heap.size w w' := by
  go_enter Try.func10, Try.ntmps10
  go_wp2
  refine bodyPost_ret (v := .agg #[.complex .f32 1065353216 0, .complex .f32 0 0, .complex .f32 0 0, .complex .f32 1065353216 0]) (by simp [results, Try.results10, go_sem]) rfl ⟨rfl, ?_⟩
  all_goals repeat first
    | exact Below.refl _ _
    | refine Below.setCell ?_ ?_ _
    | refine Below.alloc ?_ ?_ _
  all_goals first | omega | (simp; done) | (simp; omega)

set_option maxRecDepth 100000 in
set_option maxHeartbeats 1000000 in
theorem deskOk : DeskOk := by
  intro w
  have H := Lib.hid unitTurnD
  unfold deskV at *
  go_enter Try.func5, Try.ntmps5
  go_wp2_with fail
  refine (H.out _).mono ?_
  rintro e w1 ⟨rfl, hb1⟩
  obtain ⟨hc1, hf1⟩ := bcell hb1
  have hz1 : w.heap.size < w1.heap.size := by have := hb1.size; simp at this; omega
  have HB1 := Lib.hid (show Below w.heap.size w w1 from below_step hb1 ((Below.refl _ _).alloc (Nat.le_refl _) _) (by simp))
  have c0 : ∀ o, w1.cell? ⟨w.heap.size, o, none⟩ = _ := fun o => hc1 _ o (by simp)
  have f0 : ∀ o, w1.frozen? ⟨w.heap.size, o, none⟩ = _ := fun o => hf1 _ o (by simp)
  clear hb1 hc1 hf1
  simp [go_sem] at c0 f0
  go_wp2_with fail
  refine bodyPost_ret (v := .agg #[.complex .f32 1065353216 0, .complex .f32 0 0, .complex .f32 0 0, .complex .f32 1065353216 0, .complex .f32 1065353216 0, .complex .f32 0 0, .complex .f32 0 0, .complex .f32 1065353216 0, .slice none 0 0]) (by simp [results, Try.results5, go_sem, c0, f0, hz1]) rfl ⟨rfl, ?_⟩
  exact below_put9 HB1.out (Nat.le_refl _)

theorem deskHolds : Rows.FnExactNewDeskSaid := NewDesk.holds deskOk
end Go.Proofs.Ytfplcckfljemeaa
