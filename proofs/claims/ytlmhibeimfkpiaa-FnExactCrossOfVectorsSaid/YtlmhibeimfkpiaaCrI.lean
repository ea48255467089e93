/- CrossOfVectors of the program. -/
import Derived.Test.YtlmhibeimfkpiaaCrF
namespace Go.Proofs.Ytlmhibeimfkpiaa
open Go.RowKit

set_option maxHeartbeats 1000000 in
theorem normalOf_any (a b c a' b' c' : Nat) (w : World) (ha : a < 4294967296) (hb : b < 4294967296) (hc : c < 4294967296) (ha' : a' < 4294967296) (hb' : b' < 4294967296) (hc' : c' < 4294967296) :
    Calls Try.prog 39 #[.agg #[.float .f32 a, .float .f32 b, .float .f32 c], .agg #[.float .f32 a', .float .f32 b', .float .f32 c']] w fun e w' => (∃ x y z, e = .returned (.agg #[.float .f32 x, .float .f32 y, .float .f32 z]) ∧ Fw (partO b c' c b') x ∧ Fw (partO c a' a c') y ∧ Fw (partO a b' b a') z) ∧ Below w.heap.size w w' := by
  unfold partO
  generalize hW : ((w.alloc (.cells #[.float .f32 a, .float .f32 b, .float .f32 c] 24)).alloc (.cells #[.float .f32 a', .float .f32 b', .float .f32 c'] 24)).alloc (.cells #[.float .f32 0, .float .f32 0, .float .f32 0] 24) = W
  obtain ⟨z0, n0, h0, o0⟩ := op_run (P := Try.prog) W .mul 22 (by simp) (fw_some hb) (fw_some hc')
  obtain ⟨z1, n1, h1, o1⟩ := op_run (P := Try.prog) (W.drewN n0) .mul 22 (by simp) (fw_some hc) (fw_some hb')
  obtain ⟨z2, n2, h2, o2⟩ := op_run (P := Try.prog) (W.drewN (n0 + n1)) .sub 22 (by simp) o0 o1
  obtain ⟨z3, n3, h3, o3⟩ := op_run (P := Try.prog) (W.drewN (n0 + n1 + n2)) .mul 22 (by simp) (fw_some hc) (fw_some ha')
  obtain ⟨z4, n4, h4, o4⟩ := op_run (P := Try.prog) (W.drewN (n0 + n1 + n2 + n3)) .mul 22 (by simp) (fw_some ha) (fw_some hc')
  obtain ⟨z5, n5, h5, o5⟩ := op_run (P := Try.prog) (W.drewN (n0 + n1 + n2 + n3 + n4)) .sub 22 (by simp) o3 o4
  obtain ⟨z6, n6, h6, o6⟩ := op_run (P := Try.prog) (W.drewN (n0 + n1 + n2 + n3 + n4 + n5)) .mul 22 (by simp) (fw_some ha) (fw_some hb')
  obtain ⟨z7, n7, h7, o7⟩ := op_run (P := Try.prog) (W.drewN (n0 + n1 + n2 + n3 + n4 + n5 + n6)) .mul 22 (by simp) (fw_some hb) (fw_some ha')
  obtain ⟨z8, n8, h8, o8⟩ := op_run (P := Try.prog) (W.drewN (n0 + n1 + n2 + n3 + n4 + n5 + n6 + n7)) .sub 22 (by simp) o6 o7
  subst hW
  clear ha hb hc ha' hb' hc' o0 o1 o3 o4 o6 o7
  go_enter Try.func39, Try.ntmps39
  go_wp2
  refine bodyPost_ret (v := .agg #[.float .f32 z2, .float .f32 z5, .float .f32 z8]) (by simp [results, Try.results39, go_sem]) rfl ⟨⟨z2, z5, z8, rfl, o2, o5, o8⟩, ?_⟩
  all_goals repeat first
    | exact Below.refl _ _
    | refine below_drewN ?_ _
    | refine Below.setCell ?_ ?_ _
    | refine Below.alloc ?_ ?_ _
  all_goals first | omega | (simp; done) | (simp; omega)

set_option maxHeartbeats 2000000 in
theorem crossOk : CrossOk := by
  intro a b c a' b' c' w ha hb hc ha' hb' hc'
  have HV := Lib.hid (fun w => isVector_any a b c w ha hb hc)
  have HW := Lib.hid (fun w => isVector_any a' b' c' w ha' hb' hc')
  have HN := Lib.hid (fun w => normalOf_any a b c a' b' c' w ha hb hc ha' hb' hc')
  unfold crossRes
  clear ha hb hc ha' hb' hc'
  generalize (fin a && fin b && fin c) = p at *
  generalize (fin a' && fin b' && fin c') = q at *
  obtain ⟨r0, r1, r2, k, hform⟩ := vecO_form (partO b c' c b') (partO c a' a c') (partO a b' b a')
  rw [hform]
  have HT := Lib.hid (fun (x y z : Nat) w (hx : Fw (partO b c' c b') x) (hy : Fw (partO c a' a c') y) (hz : Fw (partO a b' b a') z) => by
    have := vectorOrLimit_any x y z w hx.1 hy.1 hz.1
    rw [vecO_of hx hy hz, hform] at this
    exact this)
  clear hform
  cases p
  · go_enter Try.func12, Try.ntmps12
    go_wp2_with fail
    refine (HV.out _).mono ?_
    rintro e w1 ⟨rfl, hb1⟩
    have R1 := Lib.hid (show VR w1 (w.heap.size + 1 + 1) 0 0 0 by
      have := (VR.new ((w.alloc (.cells #[.float .f32 a, .float .f32 b, .float .f32 c] 24)).alloc (.cells #[.float .f32 a', .float .f32 b', .float .f32 c'] 24)) 24 0 0 0).below hb1
      simpa using this)
    have HB1 := Lib.hid (show Below w.heap.size w w1 from below_step hb1 ((((Below.refl _ _).alloc (Nat.le_refl _) _).alloc (by simp) _).alloc (by simp; omega) _) (by simp; omega))
    clear hb1
    obtain ⟨y0, y1, y2, g0, g1, g2, hlt⟩ := R1.out
    go_wp2_with fail
    exact bodyPost_ret (v := .tuple #[.agg #[.float .f32 0, .float .f32 0, .float .f32 0], .int .i64 1]) (by simp [results, Try.results12, go_sem, y0, y1, y2, g0, g1, g2, hlt]) rfl ⟨rfl, ((HB1.out.setCell (by simp; omega) _).setCell (by simp; omega) _).setCell (by simp; omega) _⟩
  cases q
  all_goals
    go_enter Try.func12, Try.ntmps12
    go_wp2_with fail
    refine (HV.out _).mono ?_
    rintro e w1 ⟨rfl, hb1⟩
    have V1 := Lib.hid (show VR w1 w.heap.size a b c from (VR.new w 24 a b c).below ((((Below.refl _ _).alloc (Nat.le_refl _) _).alloc (by simp) _).trans (hb1.mono (by simp))))
    have U1 := Lib.hid (show VR w1 (w.heap.size + 1) a' b' c' by
      have := (VR.new (w.alloc (.cells #[.float .f32 a, .float .f32 b, .float .f32 c] 24)) 24 a' b' c').below (((Below.refl _ _).alloc (Nat.le_refl _) _).trans (hb1.mono (by simp)))
      simpa using this)
    have R1 := Lib.hid (show VR w1 (w.heap.size + 1 + 1) 0 0 0 by
      have := (VR.new ((w.alloc (.cells #[.float .f32 a, .float .f32 b, .float .f32 c] 24)).alloc (.cells #[.float .f32 a', .float .f32 b', .float .f32 c'] 24)) 24 0 0 0).below hb1
      simpa using this)
    have HB1 := Lib.hid (show Below w.heap.size w w1 from below_step hb1 ((((Below.refl _ _).alloc (Nat.le_refl _) _).alloc (by simp) _).alloc (by simp; omega) _) (by simp; omega))
    clear hb1
    obtain ⟨c3, c4, c5, _, _, _, hlt1⟩ := U1.out
    go_wp2_with fail
    refine (HW.out _).mono ?_
    rintro e w2 ⟨rfl, hb2⟩
    have V2 := Lib.hid (V1.out.below hb2)
    have U2 := Lib.hid (U1.out.below hb2)
    have R2 := Lib.hid (R1.out.below hb2)
    have HB2 := Lib.hid (below_step hb2 HB1.out HB1.out.size)
    clear hb2 c3 c4 c5 hlt1 V1 U1 R1 HB1 HV HW
  · obtain ⟨y0, y1, y2, g0, g1, g2, hlt⟩ := R2.out
    go_wp2_with fail
    exact bodyPost_ret (v := .tuple #[.agg #[.float .f32 0, .float .f32 0, .float .f32 0], .int .i64 1]) (by simp [results, Try.results12, go_sem, y0, y1, y2, g0, g1, g2, hlt]) rfl ⟨rfl, ((HB2.out.setCell (by simp; omega) _).setCell (by simp; omega) _).setCell (by simp; omega) _⟩
  · obtain ⟨c0, c1, c2, _, _, _, _⟩ := V2.out
    obtain ⟨c3, c4, c5, _, _, _, _⟩ := U2.out
    go_wp2_with fail
    refine (HN.out _).mono ?_
    rintro e w3 ⟨⟨x, y, z, rfl, hx, hy, hz⟩, hb3⟩
    have R3 := Lib.hid (R2.out.below hb3)
    have HB3 := Lib.hid (below_step hb3 HB2.out HB2.out.size)
    clear hb3 c0 c1 c2 c3 c4 c5 V2 U2
    go_wp2_with fail
    refine (HT.out _ _ _ _ hx hy hz).mono ?_
    rintro e w4 ⟨rfl, hb4⟩
    obtain ⟨y0, y1, y2, g0, g1, g2, hlt⟩ := R3.out.below hb4
    have HB4 := Lib.hid (below_step hb4 HB3.out HB3.out.size)
    clear hb4 R2 R3 HB3 HB2
    go_wp2_with fail
    exact bodyPost_ret (v := .tuple #[.agg #[.float .f32 r0, .float .f32 r1, .float .f32 r2], .int .i64 k]) (by simp [results, Try.results12, go_sem, y0, y1, y2, g0, g1, g2, hlt]) rfl ⟨rfl, ((HB4.out.setCell (by simp; omega) _).setCell (by simp; omega) _).setCell (by simp; omega) _⟩

theorem crossHolds : Rows.FnExactCrossOfVectorsSaid := CrossOfVectors.holds crossOk

end Go.Proofs.Ytlmhibeimfkpiaa
