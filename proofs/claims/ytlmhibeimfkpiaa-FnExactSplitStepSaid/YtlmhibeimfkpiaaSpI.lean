/- SplitStep of the program. -/
import Derived.Test.YtlmhibeimfkpiaaStI
import Derived.Test.YtlmhibeimfkpiaaTa4
import Derived.Test.YtlmhibeimfkpiaaKbu
namespace Go.Proofs.Ytlmhibeimfkpiaa
open Go.RowKit

def splitE (a b c h : Nat) : Tb ⊕ Int := if splitOk a b c h then .inl (splitTb (splitX a h) (splitY b h) (splitZ c h)) else .inr 3

theorem FC.new (W : World) (T : TypeId) (s t u v : Tb) : FC (W.alloc (.cells #[.complex .f32 s.a.re s.a.im, .complex .f32 s.b.re s.b.im, .complex .f32 s.c.re s.c.im, .complex .f32 s.d.re s.d.im, .complex .f32 t.a.re t.a.im, .complex .f32 t.b.re t.b.im, .complex .f32 t.c.re t.c.im, .complex .f32 t.d.re t.d.im, .complex .f32 u.a.re u.a.im, .complex .f32 u.b.re u.b.im, .complex .f32 u.c.re u.c.im, .complex .f32 u.d.re u.d.im, .complex .f32 v.a.re v.a.im, .complex .f32 v.b.re v.b.im, .complex .f32 v.c.re v.c.im, .complex .f32 v.d.re v.d.im] T)) W.heap.size s t u v :=
  ⟨by simp [go_sem], by simp [go_sem], by simp [go_sem], by simp [go_sem], by simp [go_sem], by simp [go_sem], by simp [go_sem], by simp [go_sem], by simp [go_sem], by simp [go_sem], by simp [go_sem], by simp [go_sem], by simp [go_sem], by simp [go_sem], by simp [go_sem], by simp [go_sem], by simp⟩

set_option maxRecDepth 100000 in
set_option maxHeartbeats 4000000 in
theorem splitWith {a b c h k : Nat} {X Y Z : Tb} {ox oy oz : Tb ⊕ Int} (qk : floatBits .quo .f32 h 1073741824 = some k)
    (HX : ∀ w, Calls Try.prog 45 #[.agg #[.float .f32 a, .float .f32 0, .float .f32 0], .float .f32 k] w fun e w' => e = endT ox ∧ Below w.heap.size w w')
    (HY : ∀ w, Calls Try.prog 45 #[.agg #[.float .f32 0, .float .f32 b, .float .f32 0], .float .f32 k] w fun e w' => e = endT oy ∧ Below w.heap.size w w')
    (HZ : ∀ w, Calls Try.prog 45 #[.agg #[.float .f32 0, .float .f32 0, .float .f32 c], .float .f32 h] w fun e w' => e = endT oz ∧ Below w.heap.size w w')
    (o : Tb ⊕ Int) (hj : (ox = .inr 3 ∧ o = .inr 3) ∨ (ox = .inl X ∧ oy = .inr 3 ∧ o = .inr 3) ∨ (ox = .inl X ∧ oy = .inl Y ∧ oz = .inr 3 ∧ o = .inr 3) ∨
      (ox = .inl X ∧ oy = .inl Y ∧ oz = .inl Z ∧ o = .inl (splitTb X Y Z) ∧ MulOk X Y ∧ MulOk (X.mul Y) Z ∧ MulOk ((X.mul Y).mul Z) Y ∧ MulOk (((X.mul Y).mul Z).mul Y) X)) (w : World) :
    Calls Try.prog 50 #[.agg #[.float .f32 a, .float .f32 b, .float .f32 c], .float .f32 h] w fun e w' => e = endT o ∧ Below w.heap.size w w' := by
  replace HX := Lib.hid HX
  replace HY := Lib.hid HY
  replace HZ := Lib.hid HZ
  have rk : ∀ w, (binOp .quo 22 (.float .f32 h) (.float .f32 1073741824)).run Try.prog w = .ok (.float .f32 k) w := fun w => run_float_arith w .quo _ .f32 h 1073741824 k qk
  clear qk
  have V0 := Lib.hid (show VF ((w.alloc (.cells #[.float .f32 a, .float .f32 b, .float .f32 c] 24)).alloc (.cells #[.complex .f32 0 0, .complex .f32 0 0, .complex .f32 0 0, .complex .f32 0 0] 33)) w.heap.size a b c from ⟨by simp [go_sem], by simp [go_sem], by simp [go_sem], by simp; omega⟩)
  have T0 := Lib.hid (show TC ((w.alloc (.cells #[.float .f32 a, .float .f32 b, .float .f32 c] 24)).alloc (.cells #[.complex .f32 0 0, .complex .f32 0 0, .complex .f32 0 0, .complex .f32 0 0] 33)) (w.heap.size + 1) nilTb by
    have := TC.nil (w.alloc (.cells #[.float .f32 a, .float .f32 b, .float .f32 c] 24)) 33
    simpa using this)
  have B0 := Lib.hid (((Below.refl w.heap.size w).alloc (Nat.le_refl _) (.cells #[.float .f32 a, .float .f32 b, .float .f32 c] 24)).alloc (by simp) (.cells #[.complex .f32 0 0, .complex .f32 0 0, .complex .f32 0 0, .complex .f32 0 0] 33))
  rcases hj with ⟨rfl, rfl⟩ | ⟨rfl, rfl, rfl⟩ | ⟨rfl, rfl, rfl, rfl⟩ | ⟨rfl, rfl, rfl, rfl, h0, h1, h2, h3⟩
  · clear HY HZ V0 T0
    unfold endT panicC at *
    dsimp only at *
    go_enter Try.func50, Try.ntmps50
    go_wp2_with fail
    refine (HX.out _).mono ?_
    rintro e w1 ⟨rfl, hb1⟩
    have HB1 := Lib.hid (below_step hb1 B0.out B0.out.size)
    clear hb1
    go_wp2_with fail
    exact ⟨rfl, rfl, HB1.out⟩
  · clear HZ T0
    unfold endT panicC at *
    dsimp only at *
    rw [four] at HX
    go_enter Try.func50, Try.ntmps50
    go_wp2_with fail
    refine (HX.out _).mono ?_
    rintro e w1 ⟨rfl, hb1⟩
    obtain ⟨c0, c1, c2, _⟩ := V0.out.below hb1
    have HB1 := Lib.hid (below_step hb1 B0.out B0.out.size)
    clear hb1
    go_wp2_with fail
    refine (HY.out _).mono ?_
    rintro e w2 ⟨rfl, hb2⟩
    have HB2 := Lib.hid (below_step hb2 (HB1.out.alloc (by have := HB1.out.size; omega) _) (by have := HB1.out.size; simp; omega))
    clear hb2
    go_wp2_with fail
    exact ⟨rfl, rfl, HB2.out⟩
  · clear T0
    unfold endT panicC at *
    dsimp only at *
    rw [four] at HX HY
    go_enter Try.func50, Try.ntmps50
    go_wp2_with fail
    refine (HX.out _).mono ?_
    rintro e w1 ⟨rfl, hb1⟩
    have V1 := Lib.hid (V0.out.below hb1)
    obtain ⟨c0, c1, c2, _⟩ := V1.out
    have HB1 := Lib.hid (below_step hb1 B0.out B0.out.size)
    clear hb1
    go_wp2_with fail
    refine (HY.out _).mono ?_
    rintro e w2 ⟨rfl, hb2⟩
    clear c0 c1 c2
    obtain ⟨c0, c1, c2, _⟩ := (V1.out.below ((Below.refl _ _).alloc (Nat.le_refl _) _)).below hb2
    have HB2 := Lib.hid (below_step hb2 (HB1.out.alloc (by have := HB1.out.size; omega) _) (by have := HB1.out.size; simp; omega))
    clear hb2
    go_wp2_with fail
    refine (HZ.out _).mono ?_
    rintro e w3 ⟨rfl, hb3⟩
    have HB3 := Lib.hid (below_step hb3 (HB2.out.alloc (by have := HB2.out.size; omega) _) (by have := HB2.out.size; simp; omega))
    clear hb3
    go_wp2_with fail
    exact ⟨rfl, rfl, HB3.out⟩
  · have HTL := Lib.hid (fun (W : World) (b : Nat) (F : FC W b Y Z Y X) => timesAll4_ok F h0 h1 h2 h3)
    simp only [show prod4 X Y Z Y X 4 = splitTb X Y Z from rfl] at HTL
    have MT := Lib.hid (fun w => by have := mustT_yes (splitTb X Y Z) w; rw [four] at this; exact this)
    generalize splitTb X Y Z = P at *
    clear h0 h1 h2 h3
    unfold endT panicC at *
    dsimp only at *
    rw [four] at HX HY HZ ⊢
    go_enter Try.func50, Try.ntmps50
    go_wp2_with fail
    refine (HX.out _).mono ?_
    rintro e w1 ⟨rfl, hb1⟩
    have V1 := Lib.hid (V0.out.below hb1)
    have T1 := Lib.hid (T0.out.below hb1)
    obtain ⟨c0, c1, c2, _⟩ := V1.out
    have HB1 := Lib.hid (below_step hb1 B0.out B0.out.size)
    clear hb1
    go_wp2_with fail
    refine (HY.out _).mono ?_
    rintro e w2 ⟨rfl, hb2⟩
    clear c0 c1 c2
    have V2 := Lib.hid ((V1.out.below ((Below.refl _ _).alloc (Nat.le_refl _) _)).below hb2)
    have T2 := Lib.hid ((T1.out.alloc _).below hb2)
    have X2 := Lib.hid ((TC.new w1 33 X).below hb2)
    obtain ⟨c0, c1, c2, _⟩ := V2.out
    have HB2 := Lib.hid (below_step hb2 (HB1.out.alloc (by have := HB1.out.size; omega) _) (by have := HB1.out.size; simp; omega))
    clear hb2
    go_wp2_with fail
    refine (HZ.out _).mono ?_
    rintro e w3 ⟨rfl, hb3⟩
    clear c0 c1 c2
    have T3 := Lib.hid ((T2.out.alloc _).below hb3)
    have X3 := Lib.hid ((X2.out.alloc _).below hb3)
    have Y3 := Lib.hid ((TC.new w2 33 Y).below hb3)
    have HB3 := Lib.hid (below_step hb3 (HB2.out.alloc (by have := HB2.out.size; omega) _) (by have := HB2.out.size; simp; omega))
    clear hb3 HX HY HZ V0 V1 V2 T0 T1 T2 X2 HB1 HB2 B0 rk
    have Z4 := Lib.hid (TC.new w3 33 Z)
    have T4 := Lib.hid (T3.out.alloc (.cells #[.complex .f32 Z.a.re Z.a.im, .complex .f32 Z.b.re Z.b.im, .complex .f32 Z.c.re Z.c.im, .complex .f32 Z.d.re Z.d.im] 33))
    have X4 := Lib.hid (X3.out.alloc (.cells #[.complex .f32 Z.a.re Z.a.im, .complex .f32 Z.b.re Z.b.im, .complex .f32 Z.c.re Z.c.im, .complex .f32 Z.d.re Z.d.im] 33))
    have Y4 := Lib.hid (Y3.out.alloc (.cells #[.complex .f32 Z.a.re Z.a.im, .complex .f32 Z.b.re Z.b.im, .complex .f32 Z.c.re Z.c.im, .complex .f32 Z.d.re Z.d.im] 33))
    have HB4 := Lib.hid (HB3.out.alloc (by have := HB3.out.size; omega) (.cells #[.complex .f32 Z.a.re Z.a.im, .complex .f32 Z.b.re Z.b.im, .complex .f32 Z.c.re Z.c.im, .complex .f32 Z.d.re Z.d.im] 33))
    clear T3 X3 Y3 HB3
    obtain ⟨x0, x1, x2, x3, _, _, _, _, _⟩ := X4.out
    obtain ⟨y0, y1, y2, y3, _, _, _, _, _⟩ := Y4.out
    obtain ⟨z0, z1, z2, z3, _, _, _, _, _⟩ := Z4.out
    have F5 : FC ((w3.alloc (.cells #[.complex .f32 Z.a.re Z.a.im, .complex .f32 Z.b.re Z.b.im, .complex .f32 Z.c.re Z.c.im, .complex .f32 Z.d.re Z.d.im] 33)).alloc (.cells #[.complex .f32 Y.a.re Y.a.im, .complex .f32 Y.b.re Y.b.im, .complex .f32 Y.c.re Y.c.im, .complex .f32 Y.d.re Y.d.im, .complex .f32 Z.a.re Z.a.im, .complex .f32 Z.b.re Z.b.im, .complex .f32 Z.c.re Z.c.im, .complex .f32 Z.d.re Z.d.im, .complex .f32 Y.a.re Y.a.im, .complex .f32 Y.b.re Y.b.im, .complex .f32 Y.c.re Y.c.im, .complex .f32 Y.d.re Y.d.im, .complex .f32 X.a.re X.a.im, .complex .f32 X.b.re X.b.im, .complex .f32 X.c.re X.c.im, .complex .f32 X.d.re X.d.im] 33)) (w3.heap.size + 1) Y Z Y X := by
      have := FC.new (w3.alloc (.cells #[.complex .f32 Z.a.re Z.a.im, .complex .f32 Z.b.re Z.b.im, .complex .f32 Z.c.re Z.c.im, .complex .f32 Z.d.re Z.d.im] 33)) 33 Y Z Y X
      rw [World.size_alloc] at this
      exact this
    have HTA := Lib.hid (HTL.out _ _ F5)
    clear F5 HTL
    go_wp2_with fail
    refine HTA.out.mono ?_
    rintro e w6 ⟨rfl, hb6⟩
    have T6 := Lib.hid ((T4.out.alloc _).below hb6)
    have HB6 := Lib.hid (below_step hb6 (HB4.out.alloc (by have := HB4.out.size; omega) _) (by have := HB4.out.size; simp at this ⊢; omega))
    clear hb6 T4 HB4 X4 Y4 Z4 x0 x1 x2 x3 y0 y1 y2 y3 z0 z1 z2 z3 HTA
    go_wp2_with fail
    refine (MT.out _).mono ?_
    rintro e w7 ⟨rfl, hb7⟩
    obtain ⟨d0, d1, d2, d3, g0, g1, g2, g3, hz⟩ := T6.out.below hb7
    have HB7 := Lib.hid (below_step hb7 HB6.out HB6.out.size)
    simp only [nilTb] at d0 d1 d2 d3
    clear hb7 T6 HB6 MT
    go_wp2_with fail
    refine bodyPost_ret (v := .agg #[.complex .f32 P.a.re P.a.im, .complex .f32 P.b.re P.b.im, .complex .f32 P.c.re P.c.im, .complex .f32 P.d.re P.d.im]) (by simp [results, Try.results50, go_sem, d0, d1, d2, d3, g0, g1, g2, g3, hz]) rfl ⟨rfl, ?_⟩
    exact Below.put4 HB7.out (by omega) _ _ _ _

theorem splitWith_any {a b c h : Nat} (ha : Num a) (hb : Num b) (hc : Num c) (hh : Num h) (w : World) :
    Calls Try.prog 50 #[.agg #[.float .f32 a, .float .f32 b, .float .f32 c], .float .f32 h] w fun e w' => e = endT (splitE a b c h) ∧ Below w.heap.size w w' := by
  obtain ⟨qk, hk⟩ := half_num hh
  refine splitWith (X := splitX a h) (Y := splitY b h) (Z := splitZ c h) qk (stepWith_any ha num_nil num_nil hk) (stepWith_any num_nil hb num_nil hk) (stepWith_any num_nil num_nil hc hh) _ ?_ w
  unfold splitE splitOk stepE splitX splitY splitZ
  cases H1 : finO (qO a 0 0 (hN h))
  · exact .inl ⟨rfl, rfl⟩
  cases H2 : finO (qO 0 b 0 (hN h))
  · exact .inr (.inl ⟨rfl, rfl, rfl⟩)
  cases H3 : finO (qO 0 0 c h)
  · exact .inr (.inr (.inl ⟨rfl, rfl, rfl, rfl⟩))
  · obtain ⟨m1, m2, m3, m4, _⟩ := split_ok (step_tb ha num_nil num_nil hk H1) (step_tb num_nil hb num_nil hk H2) (step_tb num_nil num_nil hc hh H3)
    exact .inr (.inr (.inr ⟨rfl, rfl, rfl, rfl, m1, m2, m3, m4⟩))

theorem splitIn_res (a b c h : Nat) : splitIn a b c h = resT (splitE a b c h) := by
  unfold splitIn splitE
  cases splitOk a b c h <;> rfl

/-- A closure over a vector and a number that hands both on to a function that makes a table or panics. -/
theorem splitC_ok {a b c h B D : Nat} {o : Tb ⊕ Int} (HS : ∀ w, Calls Try.prog 50 #[.agg #[.float .f32 a, .float .f32 b, .float .f32 c], .float .f32 h] w fun e w' => e = endT o ∧ Below w.heap.size w w') {w : World} (V : VF w B a b c) (hD : w.cell? ⟨D, 0, none⟩ = some (.float .f32 h)) (hl : D < w.heap.size) :
    Calls Try.prog 49 #[.pointer (some ⟨B, 0, none⟩), .pointer (some ⟨D, 0, none⟩)] w fun e w' => e = endT o ∧ Below w.heap.size w w' := by
  replace HS := Lib.hid HS
  obtain ⟨c0, c1, c2, hl0⟩ := V
  cases o with
  | inr j =>
    unfold endT panicC at *
    go_enter Try.func49, Try.ntmps49
    go_wp2_with fail
    refine (HS.out _).mono ?_
    rintro e w1 ⟨rfl, hb1⟩
    go_wp2_with fail
    exact ⟨rfl, rfl, below_step hb1 ((Below.refl _ _).alloc (Nat.le_refl _) _) (by simp)⟩
  | inl t =>
    unfold endT at *
    dsimp only at *
    rw [four] at HS ⊢
    go_enter Try.func49, Try.ntmps49
    go_wp2_with fail
    refine (HS.out _).mono ?_
    rintro e w1 ⟨rfl, hb1⟩
    obtain ⟨d0, d1, d2, d3, g0, g1, g2, g3, hz⟩ := (TC.nil w 33).below hb1
    simp only [nilTb] at d0 d1 d2 d3
    have HB1 := Lib.hid (show Below w.heap.size w w1 from below_step hb1 ((Below.refl _ _).alloc (Nat.le_refl _) _) (by simp))
    clear hb1
    go_wp2_with fail
    refine bodyPost_ret (v := .agg #[.complex .f32 t.a.re t.a.im, .complex .f32 t.b.re t.b.im, .complex .f32 t.c.re t.c.im, .complex .f32 t.d.re t.d.im]) (by simp [results, Try.results49, go_sem, d0, d1, d2, d3, g0, g1, g2, g3, hz]) rfl ⟨rfl, ?_⟩
    exact Below.put4 HB1.out (by omega) _ _ _ _

set_option maxRecDepth 100000 in
set_option maxHeartbeats 2000000 in
theorem splitStepOk : SplitStepOk := by
  intro a b c h w ha hb hc hh
  have HV := Lib.hid (fun w => isVector_any a b c w ha hb hc)
  have HN := Lib.hid (fun w => isNumber_any h w hh)
  unfold splitRes
  have hmf : ∀ (fn : Fn) (first cap : Array Value) (w : World), (Instr.makeFunc fn first cap).run Try.prog w = .ok (.func fn first cap) w := fun _ _ _ _ => rfl
  by_cases H : ((fin a && fin b && fin c) && fin h) = true
  · rw [if_pos H]
    obtain ⟨fa, fb, fc, fh⟩ := num_of H
    have HS := Lib.hid (fun w => splitWith_any (a := a) (b := b) (c := c) (h := h) ⟨ha, fa⟩ ⟨hb, fb⟩ ⟨hc, fc⟩ ⟨hh, fh⟩ w)
    rw [splitIn_res]
    generalize splitE a b c h = o at *
    obtain ⟨t, j, hform⟩ := resT_form o
    rw [hform, four]
    have HD := Lib.hid (fun (F : FuncId) cap w hE hF => doorT_any (F := F) (cap := cap) o w hE hF)
    rw [hform, four] at HD
    rw [fa, fb, fc] at HV
    rw [fh] at HN
    clear ha hb hc hh hform H fa fb fc fh
    simp only [Bool.and_self] at HV
    go_enter Try.func18, Try.ntmps18
    go_wp2_with fail
    refine (HV.out _).mono ?_
    rintro e w1 ⟨rfl, hb1⟩
    obtain ⟨hc1, hf1⟩ := bcell hb1
    have hz1 : w.heap.size + 1 + 1 < w1.heap.size := by have := hb1.size; simp at this; omega
    have V1 := Lib.hid (show VF w1 w.heap.size a b c from ⟨by simp [hc1, go_sem], by simp [hc1, go_sem], by simp [hc1, go_sem], by omega⟩)
    have D1 : w1.cell? ⟨w.heap.size + 1, 0, none⟩ = some (.float .f32 h) := by simp [hc1, go_sem]
    have D2 : w.heap.size + 1 < w1.heap.size := by omega
    have T1 := Lib.hid (show TC w1 (w.heap.size + 1 + 1) nilTb by
      have := (TC.nil ((w.alloc (.cells #[.float .f32 a, .float .f32 b, .float .f32 c] 24)).alloc (.cells #[.float .f32 h] 22)) 33).below hb1
      simpa using this)
    have HB1 := Lib.hid (show Below w.heap.size w w1 from below_step hb1 ((((Below.refl _ _).alloc (Nat.le_refl _) _).alloc (by simp) _).alloc (by simp; omega) _) (by simp; omega))
    clear hb1 hc1 hf1
    go_wp2_with fail
    refine (HN.out _).mono ?_
    rintro e w2 ⟨rfl, rfl⟩
    go_wp2_with fail
    refine (HD.out _ _ _ (fun _ => by kernel_rfl) fun w' hb' => splitC_ok HS.out (V1.out.below hb') ((hb'.cell (p := ⟨w.heap.size + 1, 0, none⟩) D2).trans D1) (Nat.lt_of_lt_of_le D2 hb'.size)).mono ?_
    rintro e w2 ⟨rfl, hb2⟩
    obtain ⟨d0, d1, d2, d3, g0, g1, g2, g3, hz⟩ := T1.out.below hb2
    have HB2 := Lib.hid (below_step hb2 HB1.out HB1.out.size)
    simp only [nilTb] at d0 d1 d2 d3
    clear hb2 V1 T1 HD HS
    go_wp2_with fail
    refine bodyPost_ret (v := .tuple #[.agg #[.complex .f32 t.a.re t.a.im, .complex .f32 t.b.re t.b.im, .complex .f32 t.c.re t.c.im, .complex .f32 t.d.re t.d.im], .int .i64 j]) (by simp [results, Try.results18, go_sem, d0, d1, d2, d3, g0, g1, g2, g3, hz]) rfl ⟨rfl, ?_⟩
    exact Below.put4 HB2.out (by omega) _ _ _ _
  · rw [if_neg H]
    unfold noTable
    generalize (fin a && fin b && fin c) = p at *
    generalize fin h = q at *
    clear ha hb hc hh
    cases p
    · go_enter Try.func18, Try.ntmps18
      go_wp2_with fail
      refine (HV.out _).mono ?_
      rintro e w1 ⟨rfl, hb1⟩
      obtain ⟨d0, d1, d2, d3, g0, g1, g2, g3, hz⟩ := show TC w1 (w.heap.size + 1 + 1) nilTb by
        have := (TC.nil ((w.alloc (.cells #[.float .f32 a, .float .f32 b, .float .f32 c] 24)).alloc (.cells #[.float .f32 h] 22)) 33).below hb1
        simpa using this
      have HB1 := Lib.hid (show Below w.heap.size w w1 from below_step hb1 ((((Below.refl _ _).alloc (Nat.le_refl _) _).alloc (by simp) _).alloc (by simp; omega) _) (by simp; omega))
      simp only [nilTb] at d0 d1 d2 d3
      clear hb1
      go_wp2_with fail
      refine bodyPost_ret (v := .tuple #[.agg #[.complex .f32 0 0, .complex .f32 0 0, .complex .f32 0 0, .complex .f32 0 0], .int .i64 1]) (by simp [results, Try.results18, go_sem, d0, d1, d2, d3, g0, g1, g2, g3, hz]) rfl ⟨rfl, ?_⟩
      exact Below.put4 HB1.out (by omega) _ _ _ _
    cases q
    · go_enter Try.func18, Try.ntmps18
      go_wp2_with fail
      refine (HV.out _).mono ?_
      rintro e w1 ⟨rfl, hb1⟩
      obtain ⟨hc1, hf1⟩ := bcell hb1
      have hz1 : w.heap.size + 1 < w1.heap.size := by have := hb1.size; simp at this; omega
      have D1 : w1.cell? ⟨w.heap.size + 1, 0, none⟩ = some (.float .f32 h) := by simp [hc1, go_sem]
      obtain ⟨d0, d1, d2, d3, g0, g1, g2, g3, hz⟩ := show TC w1 (w.heap.size + 1 + 1) nilTb by
        have := (TC.nil ((w.alloc (.cells #[.float .f32 a, .float .f32 b, .float .f32 c] 24)).alloc (.cells #[.float .f32 h] 22)) 33).below hb1
        simpa using this
      have HB1 := Lib.hid (show Below w.heap.size w w1 from below_step hb1 ((((Below.refl _ _).alloc (Nat.le_refl _) _).alloc (by simp) _).alloc (by simp; omega) _) (by simp; omega))
      simp only [nilTb] at d0 d1 d2 d3
      clear hb1 hc1 hf1
      go_wp2_with fail
      refine (HN.out _).mono ?_
      rintro e w2 ⟨rfl, rfl⟩
      go_wp2_with fail
      refine bodyPost_ret (v := .tuple #[.agg #[.complex .f32 0 0, .complex .f32 0 0, .complex .f32 0 0, .complex .f32 0 0], .int .i64 1]) (by simp [results, Try.results18, go_sem, d0, d1, d2, d3, g0, g1, g2, g3, hz]) rfl ⟨rfl, ?_⟩
      exact Below.put4 HB1.out (by omega) _ _ _ _
    · exact absurd rfl H

theorem splitHolds : Rows.FnExactSplitStepSaid := SplitStep.holds splitStepOk

end Go.Proofs.Ytlmhibeimfkpiaa
