/- Walks: StepOfField of the specification. -/
import Derived.Test.YtlmhibeimfkpiaaG2
import Derived.Test.YtlmhibeimfkpiaaKbm
namespace Go.Proofs.Ytlmhibeimfkpiaa
open Go.RowKit

/-- A step's table, as a value. -/
def stepTab (a b c h : Nat) : Value := tableOf ((wO a b c h).getD 0) ((xO a b c h a).getD 0) ((xO a b c h b).getD 0) ((xO a b c h c).getD 0)

/-- A step of numbers: its table, or the limit. -/
def stepIn (a b c h : Nat) : Value := if finO (qO a b c h) then .tuple #[stepTab a b c h, .int .i64 0] else .tuple #[noTable, .int .i64 3]

/-- What StepOfField answers. -/
def stepRes (a b c h : Nat) : Value := if (fin a && fin b && fin c) && fin h then stepIn a b c h else .tuple #[noTable, .int .i64 1]

theorem stp_tab {a b c h k kk sq q d g f s x y z : Nat} (S : Stp a b c h k kk sq q d g f s x y z) : stepTab a b c h = tableOf s x y z := by
  have e1 : kO h = some k := S.qk
  have e2 : kkO h = some kk := by unfold kkO; rw [e1]; exact S.qkk
  have e4 : qO a b c h = some q := by unfold qO; rw [e2, S.qsq]; exact S.qq
  have e5 : dO a b c h = some d := by unfold dO; rw [e4]; exact S.qd
  have e6 : gO a b c h = some g := by unfold gO; rw [e4]; exact S.qg
  have e7 : fO a b c h = some f := by unfold fO; rw [e5]; exact S.qf
  have e8 : wO a b c h = some s := by unfold wO; rw [e6, e5]; exact S.qw
  have e9 : xO a b c h a = some x := by unfold xO; rw [e7]; exact S.qx
  have ea : xO a b c h b = some y := by unfold xO; rw [e7]; exact S.qy
  have eb : xO a b c h c = some z := by unfold xO; rw [e7]; exact S.qz
  unfold stepTab
  rw [e8, e9, ea, eb]
  rfl

theorem l09Step_any {a b c h : Nat} (ha : Num a) (hb : Num b) (hc : Num c) (hh : Num h) (w : World) :
    Calls Try.prog 41 #[.agg #[.float .f32 a, .float .f32 b, .float .f32 c], .float .f32 h] w fun e w' => e = .returned (stepIn a b c h) ∧ Below w.heap.size w w' := by
  unfold stepIn
  cases H : finO (qO a b c h)
  · exact l09Step_no a b c h w ha.1 hb.1 hc.1 hh.1 hh.2 H
  · obtain ⟨k, kk, sq, q, d, g, f, s, x, y, z, S⟩ := stp_of ha hb hc hh H
    rw [stp_tab S]
    exact l09Step_yes ha hb hc hh S w

theorem stepIn_form {a b c h : Nat} (ha : Num a) (hb : Num b) (hc : Num c) (hh : Num h) : ∃ v j a0 b0 a1 b1 a2 b2 a3 b3, stepIn a b c h = .tuple #[v, .int .i64 j] ∧ Tab v a0 b0 a1 b1 a2 b2 a3 b3 := by
  unfold stepIn
  cases H : finO (qO a b c h)
  · obtain ⟨a0, b0, a1, b1, a2, b2, a3, b3, ht⟩ := tab_none
    exact ⟨_, _, a0, b0, a1, b1, a2, b2, a3, b3, rfl, ht⟩
  · obtain ⟨k, kk, sq, q, d, g, f, s, x, y, z, S⟩ := stp_of ha hb hc hh H
    rw [stp_tab S]
    obtain ⟨a0, b0, a1, b1, a2, b2, a3, b3, ht⟩ := tab_table S.fw S.fx S.fy S.fz
    exact ⟨_, _, a0, b0, a1, b1, a2, b2, a3, b3, rfl, ht⟩

theorem num_of {a b c h : Nat} (H : ((fin a && fin b && fin c) && fin h) = true) : fin a = true ∧ fin b = true ∧ fin c = true ∧ fin h = true := by
  simp only [Bool.and_eq_true] at H
  exact ⟨H.1.1.1, H.1.1.2, H.1.2, H.2⟩

theorem stepRes_form {a b c h : Nat} (ha : a < 4294967296) (hb : b < 4294967296) (hc : c < 4294967296) (hh : h < 4294967296) : ∃ v j a0 b0 a1 b1 a2 b2 a3 b3, stepRes a b c h = .tuple #[v, .int .i64 j] ∧ Tab v a0 b0 a1 b1 a2 b2 a3 b3 := by
  unfold stepRes
  split
  · rename_i H
    obtain ⟨fa, fb, fc, fh⟩ := num_of H
    exact stepIn_form ⟨ha, fa⟩ ⟨hb, fb⟩ ⟨hc, fc⟩ ⟨hh, fh⟩
  · obtain ⟨a0, b0, a1, b1, a2, b2, a3, b3, ht⟩ := tab_none
    exact ⟨_, _, a0, b0, a1, b1, a2, b2, a3, b3, rfl, ht⟩

set_option maxRecDepth 100000 in
set_option maxHeartbeats 2000000 in
theorem specStep (a b c h : Nat) (w : World) (ha : a < 4294967296) (hb : b < 4294967296) (hc : c < 4294967296) (hh : h < 4294967296) :
    Calls Try.prog 14 #[.agg #[.float .f32 a, .float .f32 b, .float .f32 c], .float .f32 h] w fun e w' => e = .returned (stepRes a b c h) ∧ Below w.heap.size w w' := by
  have HV := Lib.hid (fun w => l09Is_any a b c w ha hb hc)
  have HF := Lib.hid (fun w => fine_any h w hh)
  unfold stepRes
  by_cases H : ((fin a && fin b && fin c) && fin h) = true
  · rw [if_pos H]
    obtain ⟨fa, fb, fc, fh⟩ := num_of H
    have HS := Lib.hid (fun w => l09Step_any ⟨ha, fa⟩ ⟨hb, fb⟩ ⟨hc, fc⟩ ⟨hh, fh⟩ w)
    obtain ⟨v, j, a0, b0, a1, b1, a2, b2, a3, b3, hres, rfl, _⟩ := stepIn_form ⟨ha, fa⟩ ⟨hb, fb⟩ ⟨hc, fc⟩ ⟨hh, fh⟩
    rw [hres] at HS ⊢
    rw [fa, fb, fc] at HV
    rw [fh] at HF
    clear ha hb hc hh hres H fa fb fc fh
    simp only [Bool.and_self] at HV
    go_enter Try.func14, Try.ntmps14
    go_wp2_with fail
    refine (HV.out _).mono ?_
    rintro e w1 ⟨rfl, hb1⟩
    obtain ⟨hc1, hf1⟩ := bcell hb1
    have hz1 : w.heap.size + 1 < w1.heap.size := by have := hb1.size; simp at this; omega
    have hz0 : w.heap.size < w1.heap.size := by omega
    have c0 : w1.cell? ⟨w.heap.size, 0, none⟩ = some (.float .f32 a) := by simp [hc1, go_sem]
    have c1 : w1.cell? ⟨w.heap.size, 1, none⟩ = some (.float .f32 b) := by simp [hc1, go_sem]
    have c2 : w1.cell? ⟨w.heap.size, 2, none⟩ = some (.float .f32 c) := by simp [hc1, go_sem]
    have d0 : w1.cell? ⟨w.heap.size + 1, 0, none⟩ = some (.complex .f32 0 0) := by simp [hc1, go_sem]
    have d1 : w1.cell? ⟨w.heap.size + 1, 1, none⟩ = some (.complex .f32 0 0) := by simp [hc1, go_sem]
    have d2 : w1.cell? ⟨w.heap.size + 1, 2, none⟩ = some (.complex .f32 0 0) := by simp [hc1, go_sem]
    have d3 : w1.cell? ⟨w.heap.size + 1, 3, none⟩ = some (.complex .f32 0 0) := by simp [hc1, go_sem]
    have f0 : ∀ i, w1.frozen? ⟨w.heap.size + 1, i, none⟩ = false := fun i => by simp [hf1, go_sem]
    have HB1 := Lib.hid (show Below w.heap.size w w1 from below_step hb1 (((Below.refl _ _).alloc (Nat.le_refl _) _).alloc (by simp) _) (by simp; omega))
    clear hb1 hc1 hf1
    go_wp2_with fail
    refine (HF.out _).mono ?_
    rintro e w2 ⟨rfl, n1, rfl⟩
    go_wp2_with fail
    refine (HS.out _).mono ?_
    rintro e w2 ⟨rfl, hb2⟩
    obtain ⟨hc2, hf2⟩ := bcell hb2
    have hz2 : w.heap.size + 1 < w2.heap.size := by have := hb2.size; simp at this; omega
    have HB2 := Lib.hid (below_step hb2 (below_drewN HB1.out _) (by simp; omega))
    have e0 : w2.cell? ⟨w.heap.size + 1, 0, none⟩ = some (.complex .f32 0 0) := by rw [hc2 _ _ (by simpa using hz1)]; simp [d0]
    have e1 : w2.cell? ⟨w.heap.size + 1, 1, none⟩ = some (.complex .f32 0 0) := by rw [hc2 _ _ (by simpa using hz1)]; simp [d1]
    have e2 : w2.cell? ⟨w.heap.size + 1, 2, none⟩ = some (.complex .f32 0 0) := by rw [hc2 _ _ (by simpa using hz1)]; simp [d2]
    have e3 : w2.cell? ⟨w.heap.size + 1, 3, none⟩ = some (.complex .f32 0 0) := by rw [hc2 _ _ (by simpa using hz1)]; simp [d3]
    have f2 : ∀ i, w2.frozen? ⟨w.heap.size + 1, i, none⟩ = false := fun i => by rw [hf2 _ _ (by simpa using hz1)]; simp [f0]
    clear hb2 hc2 hf2 c0 c1 c2 d0 d1 d2 d3 f0
    go_wp2_with fail
    refine bodyPost_ret (v := .tuple #[.agg #[.complex .f32 a0 b0, .complex .f32 a1 b1, .complex .f32 a2 b2, .complex .f32 a3 b3], .int .i64 j]) (by simp [results, Try.results14, go_sem, e0, e1, e2, e3, f2, hz2]) rfl ⟨rfl, ?_⟩
    all_goals repeat first
      | exact HB2.out
      | refine Below.setCell ?_ ?_ _
      | refine below_drewN ?_ _
    all_goals first | omega | (simp; done) | (simp; omega)
  · rw [if_neg H]
    unfold noTable
    generalize (fin a && fin b && fin c) = p at *
    generalize fin h = q at *
    clear ha hb hc hh
    cases p
    · go_enter Try.func14, Try.ntmps14
      go_wp2_with fail
      refine (HV.out _).mono ?_
      rintro e w1 ⟨rfl, hb1⟩
      obtain ⟨hc1, hf1⟩ := bcell hb1
      have hz1 : w.heap.size + 1 < w1.heap.size := by have := hb1.size; simp at this; omega
      have HB1 := Lib.hid (show Below w.heap.size w w1 from below_step hb1 (((Below.refl _ _).alloc (Nat.le_refl _) _).alloc (by simp) _) (by simp; omega))
      clear hb1
      go_wp2_with fail
      refine bodyPost_ret (v := .tuple #[.agg #[.complex .f32 0 0, .complex .f32 0 0, .complex .f32 0 0, .complex .f32 0 0], .int .i64 1]) (by simp [results, Try.results14, go_sem, hc1, hz1]) rfl ⟨rfl, ?_⟩
      all_goals repeat first
        | exact HB1.out
        | refine Below.setCell ?_ ?_ _
        | refine below_drewN ?_ _
      all_goals first | omega | (simp; done) | (simp; omega)
    cases q
    · go_enter Try.func14, Try.ntmps14
      go_wp2_with fail
      refine (HV.out _).mono ?_
      rintro e w1 ⟨rfl, hb1⟩
      obtain ⟨hc1, hf1⟩ := bcell hb1
      have hz1 : w.heap.size + 1 < w1.heap.size := by have := hb1.size; simp at this; omega
      have HB1 := Lib.hid (show Below w.heap.size w w1 from below_step hb1 (((Below.refl _ _).alloc (Nat.le_refl _) _).alloc (by simp) _) (by simp; omega))
      clear hb1
      go_wp2_with fail
      refine (HF.out _).mono ?_
      rintro e w2 ⟨rfl, n1, rfl⟩
      go_wp2_with fail
      refine bodyPost_ret (v := .tuple #[.agg #[.complex .f32 0 0, .complex .f32 0 0, .complex .f32 0 0, .complex .f32 0 0], .int .i64 1]) (by simp [results, Try.results14, go_sem, hc1, hz1]) rfl ⟨rfl, ?_⟩
      all_goals repeat first
        | exact HB1.out
        | refine Below.setCell ?_ ?_ _
        | refine below_drewN ?_ _
      all_goals first | omega | (simp; done) | (simp; omega)
    · exact absurd rfl H

end Go.Proofs.Ytlmhibeimfkpiaa
