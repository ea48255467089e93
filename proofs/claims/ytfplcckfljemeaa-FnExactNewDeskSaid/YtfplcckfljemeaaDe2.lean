/- NewDesk of the specification; the law over the program's contract. -/
import Derived.Test.YtfplcckfljemeaaDe1
import Derived.Deep.DeepCutAuto
namespace Go.Proofs.Ytfplcckfljemeaa
open Go.RowKit

/-- The new desk, put into a block. -/
theorem below_put9 {w W : World} {B : Nat} (h : Below w.heap.size w W) (hB : w.heap.size ≤ B) : Below w.heap.size w (((((((((W.setCell ⟨B, 0, none⟩ (.complex .f32 1065353216 0)).setCell ⟨B, 1, none⟩ (.complex .f32 0 0)).setCell ⟨B, 2, none⟩ (.complex .f32 0 0)).setCell ⟨B, 3, none⟩ (.complex .f32 1065353216 0)).setCell ⟨B, 4, none⟩ (.complex .f32 1065353216 0)).setCell ⟨B, 5, none⟩ (.complex .f32 0 0)).setCell ⟨B, 6, none⟩ (.complex .f32 0 0)).setCell ⟨B, 7, none⟩ (.complex .f32 1065353216 0)).setCell ⟨B, 8, none⟩ (.slice none 0 0)) :=
  (((((((((h.setCell hB _).setCell hB _).setCell hB _).setCell hB _).setCell hB _).setCell hB _).setCell hB _).setCell hB _).setCell hB _)

set_option maxRecDepth 100000 in
set_option maxHeartbeats 1000000 in
theorem l11New_any (w : World) : Calls Try.prog 9 #[] w fun e w' => e = .returned deskV ∧ Below w.heap.size w w' := by
  unfold deskV
  go_enter Try.func9, Try.ntmps9
  go_wp2
  refine bodyPost_ret (v := .agg #[.complex .f32 1065353216 0, .complex .f32 0 0, .complex .f32 0 0, .complex .f32 1065353216 0, .complex .f32 1065353216 0, .complex .f32 0 0, .complex .f32 0 0, .complex .f32 1065353216 0, .slice none 0 0]) (by simp [results, Try.results9, go_sem]) rfl ⟨rfl, ?_⟩
  all_goals repeat first
    | exact Below.refl _ _
    | refine Below.setCell ?_ ?_ _
    | refine Below.alloc ?_ ?_ _
  all_goals first | omega | (simp; done) | (simp; omega)

set_option maxRecDepth 100000 in
set_option maxHeartbeats 1000000 in
theorem specDesk_any (w : World) : Calls Try.prog 4 #[] w fun e w' => e = .returned deskV ∧ Below w.heap.size w w' := by
  have H := Lib.hid l11New_any
  unfold deskV at *
  go_enter Try.func4, Try.ntmps4
  go_wp2_with fail
  refine (H.out _).mono ?_
  rintro e w1 ⟨rfl, hb1⟩
  obtain ⟨hc1, hf1⟩ := bcell hb1
  have hz1 : w.heap.size < w1.heap.size := by have := hb1.size; simp at this; omega
  have HB1 := Lib.hid (show Below w.heap.size w w1 from below_step hb1 ((Below.refl _ _).alloc (Nat.le_refl _) _) (by simp))
  have c0 : ∀ o, w1.cell? ⟨w.heap.size, o, none⟩ = _ := fun o => hc1 _ o (by simp)
  have f0 : ∀ o, w1.frozen? ⟨w.heap.size, o, none⟩ = _ := fun o => hf1 _ o (by simp)
  clear hb1 hc1 hf1
  simp [go_sem] at c0 f0
  go_wp2_with fail
  refine bodyPost_ret (v := .agg #[.complex .f32 1065353216 0, .complex .f32 0 0, .complex .f32 0 0, .complex .f32 1065353216 0, .complex .f32 1065353216 0, .complex .f32 0 0, .complex .f32 0 0, .complex .f32 1065353216 0, .slice none 0 0]) (by simp [results, Try.results4, go_sem, c0, f0, hz1]) rfl ⟨rfl, ?_⟩
  exact below_put9 HB1.out (Nat.le_refl _)

/-- What the law wants of the program. -/
def DeskOk : Prop := ∀ w : World, Calls Try.prog 5 #[] w fun e w' => e = .returned deskV ∧ Below w.heap.size w w'

set_option maxRecDepth 100000 in
set_option maxHeartbeats 4000000 in
theorem law_desk (HI0 : DeskOk) (w : World) : Calls Try.prog 3 #[] w fun e w' => e = .returned (.bool true) ∧ Below w.heap.size w w' := by
  have HI := Lib.hid HI0
  have HS := Lib.hid specDesk_any
  have HE := Lib.hid eqDesk_new
  have HM := Lib.hid (fun w => markDesk_new 1 w)
  have HH := Lib.hid heldDesk_new
  unfold DeskOk at HI
  clear HI0
  unfold deskV at *
  go_enter Try.func3, Try.ntmps3
  go_wp2_with fail
  refine (HS.out _).mono ?_
  rintro e w1 ⟨rfl, hb1⟩
  have z1 : w.heap.size ≤ w1.heap.size := hb1.size
  have K1 := DK.new w1 29
  have B1 := hb1.alloc z1 (.cells #[.complex .f32 1065353216 0, .complex .f32 0 0, .complex .f32 0 0, .complex .f32 1065353216 0, .complex .f32 1065353216 0, .complex .f32 0 0, .complex .f32 0 0, .complex .f32 1065353216 0, .slice none 0 0] 29)
  clear hb1
  go_upto_region 2 with fail
  generalize w1.alloc (.cells #[.complex .f32 1065353216 0, .complex .f32 0 0, .complex .f32 0 0, .complex .f32 1065353216 0, .complex .f32 1065353216 0, .complex .f32 0 0, .complex .f32 0 0, .complex .f32 1065353216 0, .slice none 0 0] 29) = W1 at *
  generalize w1.heap.size = p1 at *
  have K1 := Lib.hid K1
  have B1 := Lib.hid B1
  go_wp2_with fail
  refine (HI.out _).mono ?_
  rintro e w2 ⟨rfl, hb2⟩
  have hb2' := below_step hb2 B1.out B1.out.size
  have z2 : w.heap.size ≤ w2.heap.size := hb2'.size
  have K1 := Lib.hid ((K1.out.below hb2).below ((Below.refl w2.heap.size w2).alloc (Nat.le_refl _) (.cells #[.complex .f32 1065353216 0, .complex .f32 0 0, .complex .f32 0 0, .complex .f32 1065353216 0, .complex .f32 1065353216 0, .complex .f32 0 0, .complex .f32 0 0, .complex .f32 1065353216 0, .slice none 0 0] 29)))
  have K2 := DK.new w2 29
  have B2 := hb2'.alloc z2 (.cells #[.complex .f32 1065353216 0, .complex .f32 0 0, .complex .f32 0 0, .complex .f32 1065353216 0, .complex .f32 1065353216 0, .complex .f32 0 0, .complex .f32 0 0, .complex .f32 1065353216 0, .slice none 0 0] 29)
  clear hb2 hb2'
  go_upto_region 3 with fail
  generalize w2.alloc (.cells #[.complex .f32 1065353216 0, .complex .f32 0 0, .complex .f32 0 0, .complex .f32 1065353216 0, .complex .f32 1065353216 0, .complex .f32 0 0, .complex .f32 0 0, .complex .f32 1065353216 0, .slice none 0 0] 29) = W2 at *
  generalize w2.heap.size = p2 at *
  have K2 := Lib.hid K2
  have B2 := Lib.hid B2
  obtain ⟨a0, a1, a2, a3, a4, a5, a6, a7, a8, a9⟩ := K1.out
  obtain ⟨b0, b1, b2, b3, b4, b5, b6, b7, b8, b9⟩ := K2.out
  go_wp2_with fail
  refine (HE.out _).mono ?_
  rintro e w3 ⟨rfl, hb⟩
  have B3 := Lib.hid (below_step hb B2.out B2.out.size)
  replace K1 := Lib.hid (K1.out.below hb)
  replace K2 := Lib.hid (K2.out.below hb)
  clear hb a0 a1 a2 a3 a4 a5 a6 a7 a8 a9 b0 b1 b2 b3 b4 b5 b6 b7 b8 b9
  obtain ⟨b0, b1, b2, b3, b4, b5, b6, b7, b8, b9⟩ := K2.out
  go_wp2_with fail
  refine (HM.out _).mono ?_
  rintro e w4 ⟨rfl, hb⟩
  have B4 := Lib.hid (below_step hb B3.out B3.out.size)
  replace K1 := Lib.hid (K1.out.below hb)
  replace K2 := Lib.hid (K2.out.below hb)
  clear hb b0 b1 b2 b3 b4 b5 b6 b7 b8 b9
  obtain ⟨b0, b1, b2, b3, b4, b5, b6, b7, b8, b9⟩ := K2.out
  go_wp2_with fail
  refine (HH.out _).mono ?_
  rintro e w5 ⟨rfl, hb⟩
  have B5 := Lib.hid (below_step hb B4.out B4.out.size)
  replace K1 := Lib.hid (K1.out.below hb)
  replace K2 := Lib.hid (K2.out.below hb)
  clear hb b0 b1 b2 b3 b4 b5 b6 b7 b8 b9
  go_wp2_with fail
  refine (HI.out _).mono ?_
  rintro e w6 ⟨rfl, hb⟩
  have hb6 := below_step hb B5.out B5.out.size
  have z6 : w.heap.size ≤ w6.heap.size := hb6.size
  have al := Below.alloc (Below.refl w6.heap.size w6) (Nat.le_refl _) (.cells #[.complex .f32 1065353216 0, .complex .f32 0 0, .complex .f32 0 0, .complex .f32 1065353216 0, .complex .f32 1065353216 0, .complex .f32 0 0, .complex .f32 0 0, .complex .f32 1065353216 0, .slice none 0 0] 29)
  replace K1 := Lib.hid ((K1.out.below hb).below al)
  replace K2 := Lib.hid ((K2.out.below hb).below al)
  have K3 := DK.new w6 29
  have B6 := hb6.alloc z6 (.cells #[.complex .f32 1065353216 0, .complex .f32 0 0, .complex .f32 0 0, .complex .f32 1065353216 0, .complex .f32 1065353216 0, .complex .f32 0 0, .complex .f32 0 0, .complex .f32 1065353216 0, .slice none 0 0] 29)
  clear hb hb6 al
  go_upto_region 14 with fail
  generalize w6.alloc (.cells #[.complex .f32 1065353216 0, .complex .f32 0 0, .complex .f32 0 0, .complex .f32 1065353216 0, .complex .f32 1065353216 0, .complex .f32 0 0, .complex .f32 0 0, .complex .f32 1065353216 0, .slice none 0 0] 29) = W6 at *
  generalize w6.heap.size = p6 at *
  have K3 := Lib.hid K3
  have B6 := Lib.hid B6
  obtain ⟨a0, a1, a2, a3, a4, a5, a6, a7, a8, a9⟩ := K3.out
  obtain ⟨b0, b1, b2, b3, b4, b5, b6, b7, b8, b9⟩ := K1.out
  go_wp2_with fail
  refine (HE.out _).mono ?_
  rintro e w7 ⟨rfl, hb⟩
  have B7 := Lib.hid (below_step hb B6.out B6.out.size)
  replace K1 := Lib.hid (K1.out.below hb)
  replace K2 := Lib.hid (K2.out.below hb)
  clear hb a0 a1 a2 a3 a4 a5 a6 a7 a8 a9 b0 b1 b2 b3 b4 b5 b6 b7 b8 b9
  obtain ⟨b0, b1, b2, b3, b4, b5, b6, b7, b8, b9⟩ := K2.out
  go_wp2_with fail
  refine (HH.out _).mono ?_
  rintro e w8 ⟨rfl, hb⟩
  have B8 := Lib.hid (below_step hb B7.out B7.out.size)
  replace K1 := Lib.hid (K1.out.below hb)
  replace K2 := Lib.hid (K2.out.below hb)
  clear hb b0 b1 b2 b3 b4 b5 b6 b7 b8 b9
  go_wp2_with fail
  go_ret
  exact ⟨rfl, B8.out⟩
end Go.Proofs.Ytfplcckfljemeaa
