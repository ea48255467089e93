/- Walks: MixtureOfVector of the specification. -/
import Derived.Test.YtlebkkbbjnkjoaaMt
namespace Go.Proofs.Ytlebkkbbjnkjoaa
open Go.RowKit

/-- What it hands back for a vector. -/
def mixOf (x y z : Nat) : Value := mixRes (hv (sm 1065353216 z)) (hv (sm 1065353216 (Op.negFloat .f32 z))) (hv x) (hv y)

def vecRes (x y z : Nat) : Value := if fin x && fin y && fin z then mixOf x y z else .tuple #[.agg #[.complex .f32 0 0, .complex .f32 0 0, .complex .f32 0 0, .complex .f32 0 0], .int .i64 1]

set_option maxHeartbeats 1000000 in
theorem specMixVec (x y z : Nat) (w : World) (hx : x < 4294967296) (hy : y < 4294967296) (hz : z < 4294967296) :
    Calls Try.prog 6 #[.agg #[.float .f32 x, .float .f32 y, .float .f32 z]] w fun e w' => e = .returned (vecRes x y z) ∧ Below w.heap.size w w' := by
  have HV := Lib.hid (fun w => l02Fine_any x y z w hx hy hz)
  unfold vecRes
  cases hf : (fin x && fin y && fin z)
  · rw [hf] at HV
    clear hf hx hy hz
    go_enter Try.func6, Try.ntmps6
    go_wp2_with fail
    refine (HV.out _).mono ?_
    rintro e w1 ⟨rfl, hb1⟩
    obtain ⟨hc, hf⟩ := bcell hb1
    have hz : w.heap.size + 1 < w1.heap.size := by have := hb1.size; simp at this; omega
    have HB := Lib.hid hb1
    clear hb1
    go_wp2_with fail
    refine bodyPost_ret (v := .tuple #[.agg #[.complex .f32 0 0, .complex .f32 0 0, .complex .f32 0 0, .complex .f32 0 0], .int .i64 1]) (by simp [results, Try.results6, go_sem, hc, hz]) rfl ⟨rfl, ?_⟩
    all_goals repeat first
      | exact Below.refl _ _
      | refine Below.setCell ?_ ?_ _
      | refine Below.alloc ?_ ?_ _
      | refine below_step HB.out ?_ ?_
    all_goals first | omega | (simp; done) | (simp; omega)
  · rw [hf] at HV
    simp only [Bool.and_eq_true] at hf
    have nx : Num x := ⟨hx, hf.1.1⟩
    have ny : Num y := ⟨hy, hf.1.2⟩
    have nz : Num z := ⟨hz, hf.2⟩
    obtain ⟨p1, n1⟩ := one_add nz
    obtain ⟨p2, n2⟩ := one_sub nz
    obtain ⟨p3, n3⟩ := hv_ok _ n1
    obtain ⟨p4, n4⟩ := hv_ok _ n2
    obtain ⟨p5, n5⟩ := hv_ok _ nx
    obtain ⟨p6, n6⟩ := hv_ok _ ny
    have A1 : ∀ t w, (binOp .add t (.float .f32 1065353216) (.float .f32 z)).run Try.prog w = .ok (.float .f32 (sm 1065353216 z)) w := fun t w => run_float_arith w .add t .f32 _ _ _ p1
    have A2 : ∀ t w, (binOp .sub t (.float .f32 1065353216) (.float .f32 z)).run Try.prog w = .ok (.float .f32 (sm 1065353216 (Op.negFloat .f32 z))) w := fun t w => run_float_arith w .sub t .f32 _ _ _ p2
    have A3 : ∀ t w, (binOp .quo t (.float .f32 (sm 1065353216 z)) (.float .f32 1073741824)).run Try.prog w = .ok (.float .f32 (hv (sm 1065353216 z))) w := fun t w => run_float_arith w .quo t .f32 _ _ _ p3
    have A4 : ∀ t w, (binOp .quo t (.float .f32 (sm 1065353216 (Op.negFloat .f32 z))) (.float .f32 1073741824)).run Try.prog w = .ok (.float .f32 (hv (sm 1065353216 (Op.negFloat .f32 z)))) w := fun t w => run_float_arith w .quo t .f32 _ _ _ p4
    have A5 : ∀ t w, (binOp .quo t (.float .f32 x) (.float .f32 1073741824)).run Try.prog w = .ok (.float .f32 (hv x)) w := fun t w => run_float_arith w .quo t .f32 _ _ _ p5
    have A6 : ∀ t w, (binOp .quo t (.float .f32 y) (.float .f32 1073741824)).run Try.prog w = .ok (.float .f32 (hv y)) w := fun t w => run_float_arith w .quo t .f32 _ _ _ p6
    have HI := Lib.hid (fun w => l06Is_ok n3 n4 n5 n6 w)
    have HM := Lib.hid (fun w => l06Make_any (hv (sm 1065353216 z)) (hv (sm 1065353216 (Op.negFloat .f32 z))) (hv x) (hv y) w)
    unfold mixOf mixRes
    clear p1 p2 p3 p4 p5 p6 n1 n2 n3 n4 n5 n6 nx ny nz hf hx hy hz
    generalize hv (sm 1065353216 z) = a at *
    generalize hv (sm 1065353216 (Op.negFloat .f32 z)) = d at *
    generalize sm 1065353216 z = z1 at *
    generalize sm 1065353216 (Op.negFloat .f32 z) = z2 at *
    generalize hv x = p at *
    generalize hv y = q at *
    generalize (geq0 a && geq0 d) = r at *
    unfold mixTb Tb.v at *
    simp only [Cx.v] at *
    generalize Op.negFloat .f32 q = s at *
    cases r
    · rw [if_neg Bool.false_ne_true]
      go_enter Try.func6, Try.ntmps6
      go_wp2_with fail
      refine (HV.out _).mono ?_
      rintro e w1 ⟨rfl, hb1⟩
      obtain ⟨hc, hf⟩ := bcell hb1
      have hz : w.heap.size + 1 < w1.heap.size := by have := hb1.size; simp at this; omega
      have hz0 : w.heap.size < w1.heap.size := by omega
      have HB := Lib.hid hb1
      clear hb1
      go_wp2_with (first | simp only [A1, A2, A3, A4, A5, A6] | fail)
      refine (HM.out _).mono ?_
      rintro e w2 ⟨rfl, hb1⟩
      obtain ⟨hc2, hf2⟩ := bcell hb1
      have hz2 : w.heap.size + 1 < w2.heap.size := by have := hb1.size; omega
      have hz2a : w.heap.size + 1 < w2.heap.size + 1 := by omega
      have HB2 := Lib.hid hb1
      clear hb1
      go_wp2_with fail
      refine (HI.out _).mono ?_
      rintro e w3 ⟨rfl, hb1⟩
      obtain ⟨hc3, hf3⟩ := bcell hb1
      have hz3 : w2.heap.size < w3.heap.size := by have := hb1.size; simp at this; omega
      have hz3a : w.heap.size + 1 < w3.heap.size := by omega
      have HB3 := Lib.hid hb1
      clear hb1
      go_wp2_with fail
      refine bodyPost_ret (v := .tuple #[.agg #[.complex .f32 0 0, .complex .f32 0 0, .complex .f32 0 0, .complex .f32 0 0], .int .i64 5]) (by simp [results, Try.results6, go_sem, hc, hz, hc2, hz2, hz2a, hc3, hz3, hz3a]) rfl ⟨rfl, ?_⟩
      all_goals repeat first
        | exact Below.refl _ _
        | refine Below.setCell ?_ ?_ _
        | refine Below.alloc ?_ ?_ _
        | refine below_step HB3.out ?_ ?_
        | refine below_step HB2.out ?_ ?_
        | refine below_step HB.out ?_ ?_
      all_goals first | omega | (simp; done) | (simp; omega)
    · rw [if_pos rfl]
      go_enter Try.func6, Try.ntmps6
      go_wp2_with fail
      refine (HV.out _).mono ?_
      rintro e w1 ⟨rfl, hb1⟩
      obtain ⟨hc, hf⟩ := bcell hb1
      have hz : w.heap.size + 1 < w1.heap.size := by have := hb1.size; simp at this; omega
      have hz0 : w.heap.size < w1.heap.size := by omega
      have HB := Lib.hid hb1
      clear hb1
      go_wp2_with (first | simp only [A1, A2, A3, A4, A5, A6] | fail)
      refine (HM.out _).mono ?_
      rintro e w2 ⟨rfl, hb1⟩
      obtain ⟨hc2, hf2⟩ := bcell hb1
      have hz2 : w.heap.size + 1 < w2.heap.size := by have := hb1.size; omega
      have hz2a : w.heap.size + 1 < w2.heap.size + 1 := by omega
      have HB2 := Lib.hid hb1
      clear hb1
      go_wp2_with fail
      refine (HI.out _).mono ?_
      rintro e w3 ⟨rfl, hb1⟩
      obtain ⟨hc3, hf3⟩ := bcell hb1
      have hz3 : w2.heap.size < w3.heap.size := by have := hb1.size; simp at this; omega
      have hz3a : w.heap.size + 1 < w3.heap.size := by omega
      have HB3 := Lib.hid hb1
      clear hb1
      go_wp2_with fail
      refine bodyPost_ret (v := .tuple #[.agg #[.complex .f32 a 0, .complex .f32 p s, .complex .f32 p q, .complex .f32 d 0], .int .i64 0]) (by simp [results, Try.results6, go_sem, hc, hz, hc2, hz2, hz2a, hc3, hz3, hz3a]) rfl ⟨rfl, ?_⟩
      all_goals repeat first
        | exact Below.refl _ _
        | refine Below.setCell ?_ ?_ _
        | refine Below.alloc ?_ ?_ _
        | refine below_step HB3.out ?_ ?_
        | refine below_step HB2.out ?_ ?_
        | refine below_step HB.out ?_ ?_
      all_goals first | omega | (simp; done) | (simp; omega)
end Go.Proofs.Ytlebkkbbjnkjoaa
