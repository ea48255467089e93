/- Walks: pairs of the program: TurnOne. -/
import Derived.Test.YtlglbinalocilaaQf
namespace Go.Proofs.Ytlglbinalocilaa
open Go.RowKit

theorem isSpin0 (w : World) : Calls Try.prog 39 #[.int .i64 0] w fun e w' => e = .returned (.bool true) ∧ w = w' := by
  go_enter Try.func39, Try.ntmps39
  go_wp2_with fail
  go_ret
  exact ⟨rfl, rfl⟩

theorem isSpin1 (w : World) : Calls Try.prog 39 #[.int .i64 1] w fun e w' => e = .returned (.bool true) ∧ w = w' := by
  go_enter Try.func39, Try.ntmps39
  go_wp2_with fail
  go_ret
  exact ⟨rfl, rfl⟩

set_option maxRecDepth 100000 in
set_option maxHeartbeats 4000000 in
theorem turnOne0_ok {a t : Tb} (ha : TF a) (ht : TF t) (h : SecOk a t.turned) (w : World) :
    Calls Try.prog 15 #[a.v, t.v, .int .i64 0] w fun e w' => e = .returned (.tuple #[(secondOf a t.turned).turned.v, .int .i64 0]) ∧ Below w.heap.size w w' := by
  have HI := Lib.hid (fun w => isTable_ok ha w)
  have HP := Lib.hid (fun w => isPair_ok ht w)
  have HS := Lib.hid isSpin0
  have HO := Lib.hid (fun w => on0_ok h w)
  clear h ha ht
  generalize (secondOf a t.turned).turned = u at *
  unfold tableIface Tb.v at *
  simp only [Cx.v] at *
  have B0 := Lib.hid ((((Below.refl w.heap.size w).alloc (Nat.le_refl _) (.cells #[.complex .f32 a.a.re a.a.im, .complex .f32 a.b.re a.b.im, .complex .f32 a.c.re a.c.im, .complex .f32 a.d.re a.d.im] 29)).alloc (by simp) (.cells #[.complex .f32 t.a.re t.a.im, .complex .f32 t.b.re t.b.im, .complex .f32 t.c.re t.c.im, .complex .f32 t.d.re t.d.im] 45)).alloc (by simp; omega) (.cells #[.complex .f32 0 0, .complex .f32 0 0, .complex .f32 0 0, .complex .f32 0 0] 45))
  have A0 := Lib.hid (((TC.new w 29 a).alloc (.cells #[.complex .f32 t.a.re t.a.im, .complex .f32 t.b.re t.b.im, .complex .f32 t.c.re t.c.im, .complex .f32 t.d.re t.d.im] 45)).alloc (.cells #[.complex .f32 0 0, .complex .f32 0 0, .complex .f32 0 0, .complex .f32 0 0] 45))
  have P0 := Lib.hid ((TC.new (w.alloc (.cells #[.complex .f32 a.a.re a.a.im, .complex .f32 a.b.re a.b.im, .complex .f32 a.c.re a.c.im, .complex .f32 a.d.re a.d.im] 29)) 45 t).alloc (.cells #[.complex .f32 0 0, .complex .f32 0 0, .complex .f32 0 0, .complex .f32 0 0] 45))
  have R0 := Lib.hid (TC.nil ((w.alloc (.cells #[.complex .f32 a.a.re a.a.im, .complex .f32 a.b.re a.b.im, .complex .f32 a.c.re a.c.im, .complex .f32 a.d.re a.d.im] 29)).alloc (.cells #[.complex .f32 t.a.re t.a.im, .complex .f32 t.b.re t.b.im, .complex .f32 t.c.re t.c.im, .complex .f32 t.d.re t.d.im] 45)) 45)
  rw [World.size_alloc] at P0
  rw [World.size_alloc, World.size_alloc] at R0
  go_enter Try.func15, Try.ntmps15
  go_wp2_with fail
  refine (HI.out _).mono ?_
  rintro e w1 ⟨rfl, hb1⟩
  have A1 := Lib.hid (A0.out.below hb1)
  have P1 := Lib.hid (P0.out.below hb1)
  have R1 := Lib.hid (R0.out.below hb1)
  have B1 := Lib.hid (B0.out.trans (hb1.mono B0.out.size))
  clear hb1
  obtain ⟨p0, p1, p2, p3, _, _, _, _, pl⟩ := P1.out
  go_wp2_with fail
  refine (HP.out _).mono ?_
  rintro e w2 ⟨rfl, hb2⟩
  have A2 := Lib.hid (A1.out.below hb2)
  have P2 := Lib.hid (P1.out.below hb2)
  have R2 := Lib.hid (R1.out.below hb2)
  have B2 := Lib.hid (B1.out.trans (hb2.mono B1.out.size))
  clear hb2 p0 p1 p2 p3 pl
  go_wp2_with fail
  refine (HS.out _).mono ?_
  rintro e w3 ⟨rfl, rfl⟩
  obtain ⟨p0, p1, p2, p3, _, _, _, _, pl⟩ := P2.out
  obtain ⟨a0, a1, a2, a3, _, _, _, _, al⟩ := A2.out
  go_wp2_with fail
  refine (HO.out _).mono ?_
  rintro e w3 ⟨rfl, hb3⟩
  obtain ⟨r0, r1, r2, r3, g0, g1, g2, g3, gl⟩ := R2.out.below hb3
  have B3 := Lib.hid (B2.out.trans (hb3.mono B2.out.size))
  clear hb3
  go_wp2_with fail
  refine bodyPost_ret (v := .tuple #[.agg #[.complex .f32 u.a.re u.a.im, .complex .f32 u.b.re u.b.im, .complex .f32 u.c.re u.c.im, .complex .f32 u.d.re u.d.im], .int .i64 0]) (by simp [results, Try.results15, go_sem, r0, r1, r2, r3, g0, g1, g2, g3, gl]) rfl ⟨rfl, ?_⟩
  repeat first
    | exact B3.out
    | refine Below.setCell ?_ ?_ _
  all_goals first | omega | (simp; done) | (simp; omega)

set_option maxRecDepth 100000 in
set_option maxHeartbeats 4000000 in
theorem turnOne1_ok {a t : Tb} (ha : TF a) (ht : TF t) (h : SecOk a t) (w : World) :
    Calls Try.prog 15 #[a.v, t.v, .int .i64 1] w fun e w' => e = .returned (.tuple #[(secondOf a t).v, .int .i64 0]) ∧ Below w.heap.size w w' := by
  have HI := Lib.hid (fun w => isTable_ok ha w)
  have HP := Lib.hid (fun w => isPair_ok ht w)
  have HS := Lib.hid isSpin1
  have HO := Lib.hid (fun w => on1_ok h w)
  clear h ha ht
  generalize (secondOf a t) = u at *
  unfold tableIface Tb.v at *
  simp only [Cx.v] at *
  have B0 := Lib.hid ((((Below.refl w.heap.size w).alloc (Nat.le_refl _) (.cells #[.complex .f32 a.a.re a.a.im, .complex .f32 a.b.re a.b.im, .complex .f32 a.c.re a.c.im, .complex .f32 a.d.re a.d.im] 29)).alloc (by simp) (.cells #[.complex .f32 t.a.re t.a.im, .complex .f32 t.b.re t.b.im, .complex .f32 t.c.re t.c.im, .complex .f32 t.d.re t.d.im] 45)).alloc (by simp; omega) (.cells #[.complex .f32 0 0, .complex .f32 0 0, .complex .f32 0 0, .complex .f32 0 0] 45))
  have A0 := Lib.hid (((TC.new w 29 a).alloc (.cells #[.complex .f32 t.a.re t.a.im, .complex .f32 t.b.re t.b.im, .complex .f32 t.c.re t.c.im, .complex .f32 t.d.re t.d.im] 45)).alloc (.cells #[.complex .f32 0 0, .complex .f32 0 0, .complex .f32 0 0, .complex .f32 0 0] 45))
  have P0 := Lib.hid ((TC.new (w.alloc (.cells #[.complex .f32 a.a.re a.a.im, .complex .f32 a.b.re a.b.im, .complex .f32 a.c.re a.c.im, .complex .f32 a.d.re a.d.im] 29)) 45 t).alloc (.cells #[.complex .f32 0 0, .complex .f32 0 0, .complex .f32 0 0, .complex .f32 0 0] 45))
  have R0 := Lib.hid (TC.nil ((w.alloc (.cells #[.complex .f32 a.a.re a.a.im, .complex .f32 a.b.re a.b.im, .complex .f32 a.c.re a.c.im, .complex .f32 a.d.re a.d.im] 29)).alloc (.cells #[.complex .f32 t.a.re t.a.im, .complex .f32 t.b.re t.b.im, .complex .f32 t.c.re t.c.im, .complex .f32 t.d.re t.d.im] 45)) 45)
  rw [World.size_alloc] at P0
  rw [World.size_alloc, World.size_alloc] at R0
  go_enter Try.func15, Try.ntmps15
  go_wp2_with fail
  refine (HI.out _).mono ?_
  rintro e w1 ⟨rfl, hb1⟩
  have A1 := Lib.hid (A0.out.below hb1)
  have P1 := Lib.hid (P0.out.below hb1)
  have R1 := Lib.hid (R0.out.below hb1)
  have B1 := Lib.hid (B0.out.trans (hb1.mono B0.out.size))
  clear hb1
  obtain ⟨p0, p1, p2, p3, _, _, _, _, pl⟩ := P1.out
  go_wp2_with fail
  refine (HP.out _).mono ?_
  rintro e w2 ⟨rfl, hb2⟩
  have A2 := Lib.hid (A1.out.below hb2)
  have P2 := Lib.hid (P1.out.below hb2)
  have R2 := Lib.hid (R1.out.below hb2)
  have B2 := Lib.hid (B1.out.trans (hb2.mono B1.out.size))
  clear hb2 p0 p1 p2 p3 pl
  go_wp2_with fail
  refine (HS.out _).mono ?_
  rintro e w3 ⟨rfl, rfl⟩
  obtain ⟨p0, p1, p2, p3, _, _, _, _, pl⟩ := P2.out
  obtain ⟨a0, a1, a2, a3, _, _, _, _, al⟩ := A2.out
  go_wp2_with fail
  refine (HO.out _).mono ?_
  rintro e w3 ⟨rfl, hb3⟩
  obtain ⟨r0, r1, r2, r3, g0, g1, g2, g3, gl⟩ := R2.out.below hb3
  have B3 := Lib.hid (B2.out.trans (hb3.mono B2.out.size))
  clear hb3
  go_wp2_with fail
  refine bodyPost_ret (v := .tuple #[.agg #[.complex .f32 u.a.re u.a.im, .complex .f32 u.b.re u.b.im, .complex .f32 u.c.re u.c.im, .complex .f32 u.d.re u.d.im], .int .i64 0]) (by simp [results, Try.results15, go_sem, r0, r1, r2, r3, g0, g1, g2, g3, gl]) rfl ⟨rfl, ?_⟩
  repeat first
    | exact B3.out
    | refine Below.setCell ?_ ?_ _
  all_goals first | omega | (simp; done) | (simp; omega)


end Go.Proofs.Ytlglbinalocilaa
