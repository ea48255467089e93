/- Walks: adjoints of tables. -/
import Derived.Test.YtlebkkbbjnkjoaaTb
namespace Go.Proofs.Ytlebkkbbjnkjoaa
open Go.RowKit

def Cx.conj (z : Cx) : Cx := ⟨z.re, Op.negFloat .f32 z.im⟩

def Tb.adj (t : Tb) : Tb := ⟨t.a.conj, t.c.conj, t.b.conj, t.d.conj⟩

theorem conjugate_any (a b : Nat) (w : World) : Calls Try.prog 83 #[.complex .f32 a b] w fun e w' => e = .returned (.complex .f32 a (Op.negFloat .f32 b)) ∧ w = w' := by
  go_enter Try.func83, Try.ntmps83
  go_wp2
  go_ret
  exact ⟨rfl, rfl⟩

theorem l01Conj_any (a b : Nat) (w : World) : Calls Try.prog 86 #[.complex .f32 a b] w fun e w' => e = .returned (.complex .f32 a (Op.negFloat .f32 b)) ∧ w = w' := by
  go_enter Try.func86, Try.ntmps86
  go_wp2
  go_ret
  exact ⟨rfl, rfl⟩

set_option maxRecDepth 100000 in
set_option maxHeartbeats 1000000 in
theorem adjoint_any (t : Tb) (w : World) :
    Calls Try.prog 146 #[t.v] w fun e w' => e = .returned t.adj.v ∧ Below w.heap.size w w' := by
  unfold Tb.adj Tb.v Cx.conj
  obtain ⟨⟨a0, a1⟩, ⟨a2, a3⟩, ⟨a4, a5⟩, ⟨a6, a7⟩⟩ := t
  simp only [Cx.v]
  go_enter Try.func146, Try.ntmps146
  go_wp2_with fail
  refine still_tail 19 (by kernel_rfl) (by kernel_rfl) ?_
  simp only [List.take_succ_cons, List.take_zero, List.drop_succ_cons, List.drop_zero]
  iterate 3 still_step
  still_call ((conjugate_any _ _ _).mono (by rintro e w' ⟨rfl, rfl⟩; exact ⟨rfl, rfl⟩))
  iterate 3 still_step
  still_call ((conjugate_any _ _ _).mono (by rintro e w' ⟨rfl, rfl⟩; exact ⟨rfl, rfl⟩))
  iterate 1 still_step
  iterate 3 still_step
  still_call ((conjugate_any _ _ _).mono (by rintro e w' ⟨rfl, rfl⟩; exact ⟨rfl, rfl⟩))
  iterate 3 still_step
  still_call ((conjugate_any _ _ _).mono (by rintro e w' ⟨rfl, rfl⟩; exact ⟨rfl, rfl⟩))
  iterate 2 still_step
  refine wpStill_nil ?_
  go_wp2
  refine bodyPost_ret (v := .agg #[.complex .f32 a0 (Op.negFloat .f32 a1), .complex .f32 a4 (Op.negFloat .f32 a5), .complex .f32 a2 (Op.negFloat .f32 a3), .complex .f32 a6 (Op.negFloat .f32 a7)]) (by simp [results, Try.results146, go_sem]) rfl ⟨rfl, ?_⟩
  all_goals repeat first
    | exact Below.refl _ _
    | refine Below.setCell ?_ ?_ _
    | refine Below.alloc ?_ ?_ _
    | refine below_drewN ?_ _
  all_goals first | omega | (simp; done) | (simp; omega)

set_option maxRecDepth 100000 in
set_option maxHeartbeats 1000000 in
theorem l03Adjoint_any (t : Tb) (w : World) :
    Calls Try.prog 121 #[t.v] w fun e w' => e = .returned t.adj.v ∧ Below w.heap.size w w' := by
  unfold Tb.adj Tb.v Cx.conj
  obtain ⟨⟨a0, a1⟩, ⟨a2, a3⟩, ⟨a4, a5⟩, ⟨a6, a7⟩⟩ := t
  simp only [Cx.v]
  go_enter Try.func121, Try.ntmps121
  go_wp2_with fail
  refine still_tail 19 (by kernel_rfl) (by kernel_rfl) ?_
  simp only [List.take_succ_cons, List.take_zero, List.drop_succ_cons, List.drop_zero]
  iterate 3 still_step
  still_call ((l01Conj_any _ _ _).mono (by rintro e w' ⟨rfl, rfl⟩; exact ⟨rfl, rfl⟩))
  iterate 3 still_step
  still_call ((l01Conj_any _ _ _).mono (by rintro e w' ⟨rfl, rfl⟩; exact ⟨rfl, rfl⟩))
  iterate 1 still_step
  iterate 3 still_step
  still_call ((l01Conj_any _ _ _).mono (by rintro e w' ⟨rfl, rfl⟩; exact ⟨rfl, rfl⟩))
  iterate 3 still_step
  still_call ((l01Conj_any _ _ _).mono (by rintro e w' ⟨rfl, rfl⟩; exact ⟨rfl, rfl⟩))
  iterate 2 still_step
  refine wpStill_nil ?_
  go_wp2
  refine bodyPost_ret (v := .agg #[.complex .f32 a0 (Op.negFloat .f32 a1), .complex .f32 a4 (Op.negFloat .f32 a5), .complex .f32 a2 (Op.negFloat .f32 a3), .complex .f32 a6 (Op.negFloat .f32 a7)]) (by simp [results, Try.results121, go_sem]) rfl ⟨rfl, ?_⟩
  all_goals repeat first
    | exact Below.refl _ _
    | refine Below.setCell ?_ ?_ _
    | refine Below.alloc ?_ ?_ _
    | refine below_drewN ?_ _
  all_goals first | omega | (simp; done) | (simp; omega)
end Go.Proofs.Ytlebkkbbjnkjoaa
