/- Walks: SplitStep of the specification, whole. -/
import Derived.Test.YtlmhibeimfkpiaaKbo
namespace Go.Proofs.Ytlmhibeimfkpiaa
open Go.RowKit

/-- A vector in a block. -/
structure VF (W : World) (B a b c : Nat) : Prop where
  c0 : W.cell? ⟨B, 0, none⟩ = some (.float .f32 a)
  c1 : W.cell? ⟨B, 1, none⟩ = some (.float .f32 b)
  c2 : W.cell? ⟨B, 2, none⟩ = some (.float .f32 c)
  lt : B < W.heap.size

theorem VF.below {W W' : World} {B a b c : Nat} (h : VF W B a b c) (hb : Below W.heap.size W W') : VF W' B a b c :=
  ⟨(hb.cell (p := ⟨B, 0, none⟩) h.lt).trans h.c0, (hb.cell (p := ⟨B, 1, none⟩) h.lt).trans h.c1, (hb.cell (p := ⟨B, 2, none⟩) h.lt).trans h.c2, Nat.lt_of_lt_of_le h.lt hb.size⟩

/-- A step of numbers, by its code. -/
theorem stepIn_code {a b c h : Nat} (ha : Num a) (hb : Num b) (hc : Num c) (hh : Num h) :
    ∃ (X : Tb) (j : Int), stepIn a b c h = .tuple #[X.v, .int .i64 j] ∧ (j = 0 ∧ finO (qO a b c h) = true ∧ X = stepTb a b c h ∧ TB 6 X ∨ j = 3 ∧ finO (qO a b c h) = false) := by
  unfold stepIn
  cases H : finO (qO a b c h)
  · exact ⟨nilTb, 3, rfl, .inr ⟨rfl, rfl⟩⟩
  · exact ⟨stepTb a b c h, 0, rfl, .inl ⟨rfl, rfl, rfl, step_tb ha hb hc hh H⟩⟩

/-- A list of four tables in a block. -/
structure FC (W : World) (B : Nat) (s t u v : Tb) : Prop where
  c0 : W.cell? ⟨B, 0, none⟩ = some (.complex .f32 s.a.re s.a.im)
  c1 : W.cell? ⟨B, 1, none⟩ = some (.complex .f32 s.b.re s.b.im)
  c2 : W.cell? ⟨B, 2, none⟩ = some (.complex .f32 s.c.re s.c.im)
  c3 : W.cell? ⟨B, 3, none⟩ = some (.complex .f32 s.d.re s.d.im)
  c4 : W.cell? ⟨B, 4, none⟩ = some (.complex .f32 t.a.re t.a.im)
  c5 : W.cell? ⟨B, 5, none⟩ = some (.complex .f32 t.b.re t.b.im)
  c6 : W.cell? ⟨B, 6, none⟩ = some (.complex .f32 t.c.re t.c.im)
  c7 : W.cell? ⟨B, 7, none⟩ = some (.complex .f32 t.d.re t.d.im)
  c8 : W.cell? ⟨B, 8, none⟩ = some (.complex .f32 u.a.re u.a.im)
  c9 : W.cell? ⟨B, 9, none⟩ = some (.complex .f32 u.b.re u.b.im)
  c10 : W.cell? ⟨B, 10, none⟩ = some (.complex .f32 u.c.re u.c.im)
  c11 : W.cell? ⟨B, 11, none⟩ = some (.complex .f32 u.d.re u.d.im)
  c12 : W.cell? ⟨B, 12, none⟩ = some (.complex .f32 v.a.re v.a.im)
  c13 : W.cell? ⟨B, 13, none⟩ = some (.complex .f32 v.b.re v.b.im)
  c14 : W.cell? ⟨B, 14, none⟩ = some (.complex .f32 v.c.re v.c.im)
  c15 : W.cell? ⟨B, 15, none⟩ = some (.complex .f32 v.d.re v.d.im)
  lt : B < W.heap.size

theorem FC.below {W W' : World} {B : Nat} {s t u v : Tb} (h : FC W B s t u v) (hb : Below W.heap.size W W') : FC W' B s t u v :=
  ⟨(hb.cell (p := ⟨B, 0, none⟩) h.lt).trans h.c0, (hb.cell (p := ⟨B, 1, none⟩) h.lt).trans h.c1, (hb.cell (p := ⟨B, 2, none⟩) h.lt).trans h.c2, (hb.cell (p := ⟨B, 3, none⟩) h.lt).trans h.c3, (hb.cell (p := ⟨B, 4, none⟩) h.lt).trans h.c4, (hb.cell (p := ⟨B, 5, none⟩) h.lt).trans h.c5, (hb.cell (p := ⟨B, 6, none⟩) h.lt).trans h.c6, (hb.cell (p := ⟨B, 7, none⟩) h.lt).trans h.c7, (hb.cell (p := ⟨B, 8, none⟩) h.lt).trans h.c8, (hb.cell (p := ⟨B, 9, none⟩) h.lt).trans h.c9, (hb.cell (p := ⟨B, 10, none⟩) h.lt).trans h.c10, (hb.cell (p := ⟨B, 11, none⟩) h.lt).trans h.c11, (hb.cell (p := ⟨B, 12, none⟩) h.lt).trans h.c12, (hb.cell (p := ⟨B, 13, none⟩) h.lt).trans h.c13, (hb.cell (p := ⟨B, 14, none⟩) h.lt).trans h.c14, (hb.cell (p := ⟨B, 15, none⟩) h.lt).trans h.c15, Nat.lt_of_lt_of_le h.lt hb.size⟩

theorem FC.far1 {W : World} {B b i : Nat} {s t u v : Tb} (h : FC W B s t u v) (hne : b ≠ B) (x : Value) : FC (W.setCell ⟨b, i, none⟩ x) B s t u v := by
  have o : ∀ j, (W.setCell ⟨b, i, none⟩ x).cell? ⟨B, j, none⟩ = W.cell? ⟨B, j, none⟩ := fun j => World.cell?_setCell_other W ⟨b, i, none⟩ ⟨B, j, none⟩ x (by intro e; injection e with e1; exact hne e1)
  exact ⟨(o 0).trans h.c0, (o 1).trans h.c1, (o 2).trans h.c2, (o 3).trans h.c3, (o 4).trans h.c4, (o 5).trans h.c5, (o 6).trans h.c6, (o 7).trans h.c7, (o 8).trans h.c8, (o 9).trans h.c9, (o 10).trans h.c10, (o 11).trans h.c11, (o 12).trans h.c12, (o 13).trans h.c13, (o 14).trans h.c14, (o 15).trans h.c15, by have := h.lt; simpa using this⟩

theorem FC.far {W : World} {B b : Nat} {s t u v : Tb} (h : FC W B s t u v) (hne : b ≠ B) (x y z q : Value) : FC ((((W.setCell ⟨b, 0, none⟩ x).setCell ⟨b, 1, none⟩ y).setCell ⟨b, 2, none⟩ z).setCell ⟨b, 3, none⟩ q) B s t u v :=
  (((h.far1 hne _).far1 hne _).far1 hne _).far1 hne _

theorem tc_far1 {W : World} {B b i : Nat} {t : Tb} (h : TC W B t) (hne : b ≠ B) (v : Value) : TC (W.setCell ⟨b, i, none⟩ v) B t := by
  have o : ∀ j, (W.setCell ⟨b, i, none⟩ v).cell? ⟨B, j, none⟩ = W.cell? ⟨B, j, none⟩ := fun j => World.cell?_setCell_other W ⟨b, i, none⟩ ⟨B, j, none⟩ v (by intro e; injection e with e1; exact hne e1)
  exact ⟨(o 0).trans h.c0, (o 1).trans h.c1, (o 2).trans h.c2, (o 3).trans h.c3, by simp [h.f0], by simp [h.f1], by simp [h.f2], by simp [h.f3], by have := h.lt; simpa using this⟩

theorem tc_far {W : World} {B b : Nat} {t : Tb} (h : TC W B t) (hne : b ≠ B) (x y z v : Value) : TC ((((W.setCell ⟨b, 0, none⟩ x).setCell ⟨b, 1, none⟩ y).setCell ⟨b, 2, none⟩ z).setCell ⟨b, 3, none⟩ v) B t :=
  tc_far1 (tc_far1 (tc_far1 (tc_far1 h hne _) hne _) hne _) hne _

/-- Behind the region that lays the table and the list. -/
theorem lists_cut {K : Act → World → Prop} {Q : Exit → Act → World → Prop} {a : Act} {W w : World} {T L R : Nat} {X Y Z V U N : Tb} (hne : T ≠ L) (hR : R < T) (hR' : R < L) (hB : w.heap.size ≤ R) (h1 : TC W T X) (h2 : FC W L Y Z V U) (h3 : TC W R N) (h4 : Below w.heap.size w W)
    (k : ∀ W', T ≠ L → R < T → R < L → TC W' T X → FC W' L Y Z V U → TC W' R N → Below w.heap.size w W' → Exit.then K Q .normal a W') : Exit.then K Q .normal a W := k W hne hR hR' h1 h2 h3 h4

set_option maxRecDepth 100000 in
set_option maxHeartbeats 4000000 in
theorem split_no {a b c h k : Nat} {X Y Z : Tb} {jx jy jz : Int} (HV : ∀ w, Calls Try.prog 34 #[.agg #[.float .f32 a, .float .f32 b, .float .f32 c]] w fun e w' => e = .returned (.bool true) ∧ Below w.heap.size w w')
    (HF : ∀ w, Calls Try.prog 40 #[.float .f32 h] w fun e w' => e = .returned (.bool true) ∧ ∃ n, w.drewN n = w')
    (qk : floatBits .quo .f32 h 1073741824 = some k)
    (HX : ∀ w, Calls Try.prog 41 #[.agg #[.float .f32 a, .float .f32 0, .float .f32 0], .float .f32 k] w fun e w' => e = .returned (.tuple #[X.v, .int .i64 jx]) ∧ Below w.heap.size w w')
    (HY : ∀ w, Calls Try.prog 41 #[.agg #[.float .f32 0, .float .f32 b, .float .f32 0], .float .f32 k] w fun e w' => e = .returned (.tuple #[Y.v, .int .i64 jy]) ∧ Below w.heap.size w w')
    (HZ : ∀ w, Calls Try.prog 41 #[.agg #[.float .f32 0, .float .f32 0, .float .f32 c], .float .f32 h] w fun e w' => e = .returned (.tuple #[Z.v, .int .i64 jz]) ∧ Below w.heap.size w w')
    (hj : jx = 3 ∨ jx = 0 ∧ jy = 3 ∨ jx = 0 ∧ jy = 0 ∧ jz = 3) (w : World) :
    Calls Try.prog 17 #[.agg #[.float .f32 a, .float .f32 b, .float .f32 c], .float .f32 h] w fun e w' => e = .returned (.tuple #[noTable, .int .i64 3]) ∧ Below w.heap.size w w' := by
  replace HV := Lib.hid HV
  replace HF := Lib.hid HF
  rw [four] at HX HY HZ
  replace HX := Lib.hid HX
  replace HY := Lib.hid HY
  replace HZ := Lib.hid HZ
  have rk : ∀ w, (binOp .quo 22 (.float .f32 h) (.float .f32 1073741824)).run Try.prog w = .ok (.float .f32 k) w := fun w => run_float_arith w .quo _ .f32 h 1073741824 k qk
  clear qk
  unfold noTable
  go_enter Try.func17, Try.ntmps17
  go_wp2_with fail
  refine (HV.out _).mono ?_
  rintro e w1 ⟨rfl, hb1⟩
  obtain ⟨hc1, hf1⟩ := bcell hb1
  have hz1 : w.heap.size + 1 < w1.heap.size := by have := hb1.size; simp at this; omega
  have V1 := Lib.hid (show VF w1 w.heap.size a b c from ⟨by simp [hc1, go_sem], by simp [hc1, go_sem], by simp [hc1, go_sem], by omega⟩)
  have T1 := Lib.hid (show TC w1 (w.heap.size + 1) nilTb by
    have := (TC.nil (w.alloc (.cells #[.float .f32 a, .float .f32 b, .float .f32 c] 24)) 33).below hb1
    simpa using this)
  have HB1 := Lib.hid (show Below w.heap.size w w1 from below_step hb1 (((Below.refl _ _).alloc (Nat.le_refl _) _).alloc (by simp) _) (by simp; omega))
  obtain ⟨c0, c1, c2, _⟩ := V1.out
  clear hb1 hc1 hf1
  go_wp2_with fail
  refine (HF.out _).mono ?_
  rintro e w2 ⟨rfl, n1, rfl⟩
  go_wp2_with fail
  refine (HX.out _).mono ?_
  rintro e w2 ⟨rfl, hb2⟩
  have V2 := Lib.hid ((V1.out.below (below_drewN (Below.refl _ _) n1)).below hb2)
  have T2 := Lib.hid ((T1.out.below (below_drewN (Below.refl _ _) n1)).below hb2)
  have HB2 := Lib.hid (below_step hb2 (below_drewN HB1.out n1) (by simp; omega))
  have hz2 : w.heap.size + 1 < w2.heap.size := by have := hb2.size; simp at this; omega
  clear hb2 c0 c1 c2
  obtain ⟨c0, c1, c2, _⟩ := V2.out
  go_wp2_with fail
  refine (HY.out _).mono ?_
  rintro e w3 ⟨rfl, hb3⟩
  have V3 := Lib.hid ((V2.out.below ((Below.refl _ _).alloc (Nat.le_refl _) _)).below hb3)
  have T3 := Lib.hid ((T2.out.alloc _).below hb3)
  have X3 := Lib.hid ((TC.new w2 33 X).below hb3)
  have HB3 := Lib.hid (below_step hb3 (HB2.out.alloc (by omega) _) (by simp; omega))
  have hz3 : w2.heap.size < w3.heap.size := by have := hb3.size; simp at this; omega
  clear hb3 c0 c1 c2
  obtain ⟨c0, c1, c2, _⟩ := V3.out
  go_wp2_with fail
  refine (HZ.out _).mono ?_
  rintro e w4 ⟨rfl, hb4⟩
  have T4 := Lib.hid ((T3.out.alloc _).below hb4)
  have X4 := Lib.hid ((X3.out.alloc _).below hb4)
  have Y4 := Lib.hid ((TC.new w3 33 Y).below hb4)
  have HB4 := Lib.hid (below_step hb4 (HB3.out.alloc (by omega) _) (by simp; omega))
  have hz4 : w3.heap.size < w4.heap.size := by have := hb4.size; simp at this; omega
  have hz4a : w.heap.size + 1 < w4.heap.size := by omega
  clear hb4 c0 c1 c2
  clear V1 V2 V3 T1 T2 T3 X3 HB1 HB2 HB3 HV HF HX HY HZ rk
  clear X4 Y4
  rcases hj with rfl | ⟨rfl, rfl⟩ | ⟨rfl, rfl, rfl⟩
  · have HB5 := Lib.hid (HB4.out.alloc (by omega) (.cells #[.complex .f32 Z.a.re Z.a.im, .complex .f32 Z.b.re Z.b.im, .complex .f32 Z.c.re Z.c.im, .complex .f32 Z.d.re Z.d.im] 33))
    obtain ⟨d0, d1, d2, d3, g0, g1, g2, g3, hz5⟩ := T4.out
    simp only [nilTb] at d0 d1 d2 d3
    go_wp2_with fail
    refine bodyPost_ret (v := .tuple #[.agg #[.complex .f32 0 0, .complex .f32 0 0, .complex .f32 0 0, .complex .f32 0 0], .int .i64 3]) (by simp [results, Try.results17, go_sem, d0, d1, d2, d3, g0, g1, g2, g3, hz4a]) rfl ⟨rfl, ?_⟩
    all_goals repeat first
      | exact HB5.out
      | exact HB4.out
      | refine Below.setCell ?_ ?_ _
      | refine Below.alloc ?_ ?_ _
    all_goals first | omega | (simp; done) | (simp; omega)
  · have HB5 := Lib.hid (HB4.out.alloc (by omega) (.cells #[.complex .f32 Z.a.re Z.a.im, .complex .f32 Z.b.re Z.b.im, .complex .f32 Z.c.re Z.c.im, .complex .f32 Z.d.re Z.d.im] 33))
    obtain ⟨d0, d1, d2, d3, g0, g1, g2, g3, hz5⟩ := T4.out
    simp only [nilTb] at d0 d1 d2 d3
    go_wp2_with fail
    refine bodyPost_ret (v := .tuple #[.agg #[.complex .f32 0 0, .complex .f32 0 0, .complex .f32 0 0, .complex .f32 0 0], .int .i64 3]) (by simp [results, Try.results17, go_sem, d0, d1, d2, d3, g0, g1, g2, g3, hz4a]) rfl ⟨rfl, ?_⟩
    all_goals repeat first
      | exact HB5.out
      | exact HB4.out
      | refine Below.setCell ?_ ?_ _
      | refine Below.alloc ?_ ?_ _
    all_goals first | omega | (simp; done) | (simp; omega)
  · have HB5 := Lib.hid (HB4.out.alloc (by omega) (.cells #[.complex .f32 Z.a.re Z.a.im, .complex .f32 Z.b.re Z.b.im, .complex .f32 Z.c.re Z.c.im, .complex .f32 Z.d.re Z.d.im] 33))
    obtain ⟨d0, d1, d2, d3, g0, g1, g2, g3, hz5⟩ := T4.out
    simp only [nilTb] at d0 d1 d2 d3
    go_wp2_with fail
    refine bodyPost_ret (v := .tuple #[.agg #[.complex .f32 0 0, .complex .f32 0 0, .complex .f32 0 0, .complex .f32 0 0], .int .i64 3]) (by simp [results, Try.results17, go_sem, d0, d1, d2, d3, g0, g1, g2, g3, hz4a]) rfl ⟨rfl, ?_⟩
    all_goals repeat first
      | exact HB5.out
      | exact HB4.out
      | refine Below.setCell ?_ ?_ _
      | refine Below.alloc ?_ ?_ _
    all_goals first | omega | (simp; done) | (simp; omega)


end Go.Proofs.Ytlmhibeimfkpiaa
