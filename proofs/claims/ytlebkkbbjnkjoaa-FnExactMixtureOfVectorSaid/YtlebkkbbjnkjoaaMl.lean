/- The law of MixtureOfVector. -/
import Derived.Test.YtlebkkbbjnkjoaaMk
import Derived.Test.YtlebkkbbjnkjoaaT4
namespace Go.Proofs.Ytlebkkbbjnkjoaa
open Go.RowKit

/-- A table of numbers, as a value. -/
def TabN (v : Value) (a0 b0 a1 b1 a2 b2 a3 b3 : Nat) : Prop := v = .agg #[.complex .f32 a0 b0, .complex .f32 a1 b1, .complex .f32 a2 b2, .complex .f32 a3 b3] ∧ Num a0 ∧ Num b0 ∧ Num a1 ∧ Num b1 ∧ Num a2 ∧ Num b2 ∧ Num a3 ∧ Num b3

theorem vecRes_form (x y z : Nat) (hx : x < 4294967296) (hy : y < 4294967296) (hz : z < 4294967296) : ∃ v j a0 b0 a1 b1 a2 b2 a3 b3, vecRes x y z = .tuple #[v, .int .i64 j] ∧ TabN v a0 b0 a1 b1 a2 b2 a3 b3 := by
  have none0 : TabN (.agg #[.complex .f32 0 0, .complex .f32 0 0, .complex .f32 0 0, .complex .f32 0 0]) 0 0 0 0 0 0 0 0 := ⟨rfl, num_nought, num_nought, num_nought, num_nought, num_nought, num_nought, num_nought, num_nought⟩
  unfold vecRes
  split
  · rename_i hf
    simp only [Bool.and_eq_true] at hf
    have n1 := (one_add ⟨hz, hf.2⟩).2
    have n2 := (one_sub ⟨hz, hf.2⟩).2
    have n3 := (hv_ok _ n1).2
    have n4 := (hv_ok _ n2).2
    have n5 := (hv_ok x ⟨hx, hf.1.1⟩).2
    have n6 := (hv_ok y ⟨hy, hf.1.2⟩).2
    unfold mixOf mixRes
    split
    · exact ⟨_, _, _, _, _, _, _, _, _, _, rfl, rfl, n3, num_nought, n5, num_neg' n6, n5, n6, n4, num_nought⟩
    · exact ⟨_, _, _, _, _, _, _, _, _, _, rfl, none0⟩
  · exact ⟨_, _, _, _, _, _, _, _, _, _, rfl, none0⟩

set_option maxRecDepth 100000 in
set_option maxHeartbeats 1000000 in
theorem law_mixVec (a b c : Nat) (w : World) (ha : a < 4294967296) (hb : b < 4294967296) (hc : c < 4294967296) :
    Calls Try.prog 3 #[.agg #[.float .f32 a, .float .f32 b, .float .f32 c]] w fun e w' => e = .returned (.bool true) ∧ Below w.heap.size w w' := by
  have HI := Lib.hid (fun w => implMixVec a b c w ha hb hc)
  have HS := Lib.hid (fun w => specMixVec a b c w ha hb hc)
  obtain ⟨v, j, a0, b0, a1, b1, a2, b2, a3, b3, hres, rfl, h0, k0, h1, k1, h2, k2, h3, k3⟩ := vecRes_form a b c ha hb hc
  rw [hres] at HI HS
  have HE := Lib.hid (fun w => eqTurn_any a0 b0 a1 b1 a2 b2 a3 b3 w h0 k0 h1 k1 h2 k2 h3 k3)
  clear hres ha hb hc h0 k0 h1 k1 h2 k2 h3 k3
  go_enter Try.func3, Try.ntmps3
  go_wp2_with fail
  refine (toVector_any _ _ _ _).mono ?_
  rintro e w1 ⟨rfl, hb1⟩
  obtain ⟨hc1, hf1⟩ := bcell hb1
  have hz1 : w.heap.size < w1.heap.size := by have := hb1.size; simp at this; omega
  have HB1 := Lib.hid hb1
  clear hb1
  go_wp2_with fail
  refine (HS.out _).mono ?_
  rintro e w2 ⟨rfl, hb2⟩
  obtain ⟨hc2, hf2⟩ := bcell hb2
  have hz2 : w.heap.size < w2.heap.size := by have := hb2.size; omega
  have HB2 := Lib.hid hb2
  clear hb2
  go_wp2_with fail
  refine (toVector_any _ _ _ _).mono ?_
  rintro e w3 ⟨rfl, hb3⟩
  obtain ⟨hc3, hf3⟩ := bcell hb3
  have hz3 : w.heap.size < w3.heap.size := by have := hb3.size; simp at this; omega
  have hz3a : w2.heap.size < w3.heap.size := by have := hb3.size; simp at this; omega
  have HB3 := Lib.hid hb3
  clear hb3
  go_wp2_with fail
  refine (HI.out _).mono ?_
  rintro e w4 ⟨rfl, hb4⟩
  obtain ⟨hc4, hf4⟩ := bcell hb4
  have hz4 : w2.heap.size < w4.heap.size := by have := hb4.size; omega
  have HB4 := Lib.hid hb4
  clear hb4
  go_wp2_with fail
  refine (HE.out _).mono ?_
  rintro e w5 ⟨rfl, hb5⟩
  have HB5 := Lib.hid hb5
  clear hb5
  go_wp2_with fail
  go_ret
  refine ⟨rfl, ?_⟩
  refine below_step HB5.out ?_ ?_
  all_goals repeat first
    | exact Below.refl _ _
    | refine Below.setCell ?_ ?_ _
    | refine Below.alloc ?_ ?_ _
    | refine below_step HB4.out ?_ ?_
    | refine below_step HB3.out ?_ ?_
    | refine below_step HB2.out ?_ ?_
    | refine below_step HB1.out ?_ ?_
  all_goals first | omega | (simp; done) | (simp; omega)
end Go.Proofs.Ytlebkkbbjnkjoaa
