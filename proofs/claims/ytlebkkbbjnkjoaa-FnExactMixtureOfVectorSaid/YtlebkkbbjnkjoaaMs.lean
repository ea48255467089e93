/- Walks: mixtures of vectors, those of the specification. -/
import Derived.Test.YtlebkkbbjnkjoaaMx
import Derived.Test.YtlebkkbbjnkjoaaV3
import Derived.Deep.RegionHeld3
namespace Go.Proofs.Ytlebkkbbjnkjoaa
open Go.RowKit

set_option maxHeartbeats 1000000 in
theorem l06Make_any (a d x y : Nat) (w : World) :
    Calls Try.prog 47 #[.float .f32 a, .float .f32 d, .complex .f32 x y] w fun e w' => e = .returned (mixTb a d x y).v ∧ Below w.heap.size w w' := by
  unfold mixTb Tb.v
  simp only [Cx.v]
  have C := Lib.hid (fun w => l01Conj_any x y w)
  go_enter Try.func47, Try.ntmps47
  go_wp2_with fail
  refine (C.out _).mono ?_
  rintro e w' ⟨rfl, rfl⟩
  go_wp2_with fail
  refine bodyPost_ret (v := .agg #[.complex .f32 a 0, .complex .f32 x (Op.negFloat .f32 y), .complex .f32 x y, .complex .f32 d 0]) (by simp [results, Try.results47, go_sem]) rfl ⟨rfl, ?_⟩
  all_goals repeat first
    | exact Below.refl _ _
    | refine Below.setCell ?_ ?_ _
    | refine Below.alloc ?_ ?_ _
  all_goals first | omega | (simp; done) | (simp; omega)

set_option maxHeartbeats 1000000 in
theorem isTableS_ok {t : Tb} (h : TF t) (w : World) : Calls Try.prog 65 #[t.v] w fun e w' => e = .returned (.bool true) ∧ Below w.heap.size w w' := by
  have A := Lib.hid (fun w => l03Is_ok h w)
  clear h
  obtain ⟨⟨a0, a1⟩, ⟨a2, a3⟩, ⟨a4, a5⟩, ⟨a6, a7⟩⟩ := t
  unfold Tb.v at *
  simp only [Cx.v] at *
  go_enter Try.func65, Try.ntmps65
  go_wp2_with fail
  refine (A.out _).mono ?_
  rintro e w' ⟨rfl, hb⟩
  have HB := Lib.hid hb
  clear hb
  go_wp2_with fail
  go_ret
  exact ⟨rfl, below_step HB.out ((Below.refl _ _).alloc (Nat.le_refl _) _) (by simp)⟩
end Go.Proofs.Ytlebkkbbjnkjoaa
