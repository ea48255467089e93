/- Walks: pairs of the program: turns of the first spin, of the one that is told. -/
import Derived.Test.YtlglbinalocilaaKbq
namespace Go.Proofs.Ytlglbinalocilaa
open Go.RowKit

@[go_sem] theorem run_store_func (P : Program) (w : World) (a : Addr) (m : Mode) (f : Fn) (x y : Array Value) : (store a (.func f x y) m).run P w = stored P w a (.func f x y) m := run_store P w a _ m rfl

set_option maxRecDepth 100000 in
set_option maxHeartbeats 4000000 in
theorem onFirst_ok {a t : Tb} (h : SecOk a t.turned) (w : World) :
    Calls Try.prog 67 #[t.v, tableIface a] w fun e w' => e = .returned (.tuple #[(secondOf a t.turned).turned.v, .int .i64 0]) ∧ Below w.heap.size w w' := by
  have S1 := Lib.hid (fun w => swapped_ok t w)
  have HP := Lib.hid (fun w => onSecond_ok h w)
  have S2 := Lib.hid (fun w => swapped_ok (secondOf a t.turned) w)
  clear h
  generalize secondOf a t.turned = u at *
  unfold Tb.turned Tb.v at *
  simp only [Cx.v] at *
  generalize tableIface a = A at *
  have B0 := Lib.hid (((Below.refl w.heap.size w).alloc (Nat.le_refl _) (.cells #[.complex .f32 t.a.re t.a.im, .complex .f32 t.b.re t.b.im, .complex .f32 t.c.re t.c.im, .complex .f32 t.d.re t.d.im] 45)).alloc (by simp) (.cells #[.complex .f32 0 0, .complex .f32 0 0, .complex .f32 0 0, .complex .f32 0 0] 45))
  have R0 := Lib.hid (TC.nil (w.alloc (.cells #[.complex .f32 t.a.re t.a.im, .complex .f32 t.b.re t.b.im, .complex .f32 t.c.re t.c.im, .complex .f32 t.d.re t.d.im] 45)) 45)
  rw [World.size_alloc] at R0
  go_enter Try.func67, Try.ntmps67
  go_wp2_with fail
  refine (S1.out _).mono ?_
  rintro e w1 ⟨rfl, hb1⟩
  have R1 := Lib.hid (R0.out.below hb1)
  have B1 := Lib.hid (B0.out.trans (hb1.mono B0.out.size))
  clear hb1
  go_wp2_with fail
  refine (HP.out _).mono ?_
  rintro e w2 ⟨rfl, hb2⟩
  have R2 := Lib.hid (R1.out.below hb2)
  have B2 := Lib.hid (B1.out.trans (hb2.mono B1.out.size))
  have l2 := R2.out.lt
  clear hb2
  go_wp2_with fail
  refine (S2.out _).mono ?_
  rintro e w3 ⟨rfl, hb3⟩
  obtain ⟨r0, r1, r2, r3, g0, g1, g2, g3, gl⟩ := (R2.out.alloc _).below hb3
  have B3 := Lib.hid ((B2.out.alloc B2.out.size _).trans (hb3.mono (by have := B2.out.size; simp; omega)))
  clear hb3
  go_wp2_with fail
  refine bodyPost_ret (v := .tuple #[.agg #[.complex .f32 u.a.re u.a.im, .complex .f32 u.c.re u.c.im, .complex .f32 u.b.re u.b.im, .complex .f32 u.d.re u.d.im], .int .i64 0]) (by simp [results, Try.results67, go_sem, r0, r1, r2, r3, g0, g1, g2, g3, gl]) rfl ⟨rfl, ?_⟩
  repeat first
    | exact B3.out
    | refine Below.setCell ?_ ?_ _
  all_goals first | omega | (simp; done) | (simp; omega)

set_option maxRecDepth 100000 in
set_option maxHeartbeats 4000000 in
theorem on0_ok {a t : Tb} (h : SecOk a t.turned) (w : World) :
    Calls Try.prog 40 #[t.v, .int .i64 0, tableIface a] w fun e w' => e = .returned (.tuple #[(secondOf a t.turned).turned.v, .int .i64 0]) ∧ Below w.heap.size w w' := by
  have HP := Lib.hid (fun w => onFirst_ok h w)
  clear h
  generalize (secondOf a t.turned).turned = u at *
  unfold Tb.v at *
  simp only [Cx.v] at *
  generalize tableIface a = A at *
  have B0 := Lib.hid (((((Below.refl w.heap.size w).alloc (Nat.le_refl _) (.cells #[.complex .f32 t.a.re t.a.im, .complex .f32 t.b.re t.b.im, .complex .f32 t.c.re t.c.im, .complex .f32 t.d.re t.d.im] 45)).alloc (by simp) (.cells #[.complex .f32 0 0, .complex .f32 0 0, .complex .f32 0 0, .complex .f32 0 0] 45)).alloc (by simp; omega) (.cells #[.func (.func 67) #[] #[], .func (.func 68) #[] #[]] 104)).drew)
  have A0 := Lib.hid ((((TC.new w 45 t).alloc (.cells #[.complex .f32 0 0, .complex .f32 0 0, .complex .f32 0 0, .complex .f32 0 0] 45)).alloc (.cells #[.func (.func 67) #[] #[], .func (.func 68) #[] #[]] 104)).drew)
  have R0 := Lib.hid (((TC.nil (w.alloc (.cells #[.complex .f32 t.a.re t.a.im, .complex .f32 t.b.re t.b.im, .complex .f32 t.c.re t.c.im, .complex .f32 t.d.re t.d.im] 45)) 45).alloc (.cells #[.func (.func 67) #[] #[], .func (.func 68) #[] #[]] 104)).drew)
  rw [World.size_alloc] at R0
  have q0 : (((w.alloc (.cells #[.complex .f32 t.a.re t.a.im, .complex .f32 t.b.re t.b.im, .complex .f32 t.c.re t.c.im, .complex .f32 t.d.re t.d.im] 45)).alloc (.cells #[.complex .f32 0 0, .complex .f32 0 0, .complex .f32 0 0, .complex .f32 0 0] 45)).alloc (.cells #[.func (.func 67) #[] #[], .func (.func 68) #[] #[]] 104)).drew.cell? ⟨w.heap.size + 1 + 1, 0, none⟩ = some (.func (.func 67) #[] #[]) := by simp [go_sem]
  have q1 : (((w.alloc (.cells #[.complex .f32 t.a.re t.a.im, .complex .f32 t.b.re t.b.im, .complex .f32 t.c.re t.c.im, .complex .f32 t.d.re t.d.im] 45)).alloc (.cells #[.complex .f32 0 0, .complex .f32 0 0, .complex .f32 0 0, .complex .f32 0 0] 45)).alloc (.cells #[.func (.func 67) #[] #[], .func (.func 68) #[] #[]] 104)).drew.cell? ⟨w.heap.size + 1 + 1, 1, none⟩ = some (.func (.func 68) #[] #[]) := by simp [go_sem]
  go_enter Try.func40, Try.ntmps40
  go_wp2_with fail
  go_region_held3 (fun w' => w'.cell? ⟨w.heap.size, 0, none⟩ = some (.complex .f32 t.a.re t.a.im) ∧ w'.cell? ⟨w.heap.size, 1, none⟩ = some (.complex .f32 t.b.re t.b.im) ∧ w'.cell? ⟨w.heap.size, 2, none⟩ = some (.complex .f32 t.c.re t.c.im) ∧ w'.cell? ⟨w.heap.size, 3, none⟩ = some (.complex .f32 t.d.re t.d.im) ∧ w'.cell? ⟨w.heap.size + 1 + 1, 0, none⟩ = some (.func (.func 67) #[] #[]) ∧ w'.cell? ⟨w.heap.size + 1 + 1, 1, none⟩ = some (.func (.func 68) #[] #[])) (go_keep)
    ((go_at_call 67; with_reducible refine (HP.out _).mono ?_; rintro e w1 ⟨rfl, hb1⟩; obtain ⟨hc1, hf1⟩ := bcell hb1; have A1 := Lib.hid (A0.out.below hb1); have B1 := Lib.hid (B0.out.trans (hb1.mono B0.out.size)); obtain ⟨r0, r1, r2, r3, g0, g1, g2, g3, gl⟩ := R0.out.below hb1; obtain ⟨d0, d1, d2, d3, _, _, _, _, _⟩ := A1.out; have d4 := hc1 (w.heap.size + 1 + 1) 0 (by simp); have d5 := hc1 (w.heap.size + 1 + 1) 1 (by simp); simp [go_sem] at d4 d5; clear hb1 hc1 hf1))
  all_goals
    go_wp2_with fail
    refine bodyPost_ret (v := .tuple #[.agg #[.complex .f32 u.a.re u.a.im, .complex .f32 u.b.re u.b.im, .complex .f32 u.c.re u.c.im, .complex .f32 u.d.re u.d.im], .int .i64 0]) (by simp [results, Try.results40, go_sem, r0, r1, r2, r3, g0, g1, g2, g3, gl]) rfl ⟨rfl, ?_⟩
    repeat first
      | exact B1.out
      | refine Below.setCell ?_ ?_ _
    all_goals first | omega | (simp; done) | (simp; omega)

set_option maxRecDepth 100000 in
set_option maxHeartbeats 4000000 in
theorem on1_ok {a t : Tb} (h : SecOk a t) (w : World) :
    Calls Try.prog 40 #[t.v, .int .i64 1, tableIface a] w fun e w' => e = .returned (.tuple #[(secondOf a t).v, .int .i64 0]) ∧ Below w.heap.size w w' := by
  have HP := Lib.hid (fun w => onSecond_ok h w)
  clear h
  generalize (secondOf a t) = u at *
  unfold Tb.v at *
  simp only [Cx.v] at *
  generalize tableIface a = A at *
  have B0 := Lib.hid (((((Below.refl w.heap.size w).alloc (Nat.le_refl _) (.cells #[.complex .f32 t.a.re t.a.im, .complex .f32 t.b.re t.b.im, .complex .f32 t.c.re t.c.im, .complex .f32 t.d.re t.d.im] 45)).alloc (by simp) (.cells #[.complex .f32 0 0, .complex .f32 0 0, .complex .f32 0 0, .complex .f32 0 0] 45)).alloc (by simp; omega) (.cells #[.func (.func 67) #[] #[], .func (.func 68) #[] #[]] 104)).drew)
  have A0 := Lib.hid ((((TC.new w 45 t).alloc (.cells #[.complex .f32 0 0, .complex .f32 0 0, .complex .f32 0 0, .complex .f32 0 0] 45)).alloc (.cells #[.func (.func 67) #[] #[], .func (.func 68) #[] #[]] 104)).drew)
  have R0 := Lib.hid (((TC.nil (w.alloc (.cells #[.complex .f32 t.a.re t.a.im, .complex .f32 t.b.re t.b.im, .complex .f32 t.c.re t.c.im, .complex .f32 t.d.re t.d.im] 45)) 45).alloc (.cells #[.func (.func 67) #[] #[], .func (.func 68) #[] #[]] 104)).drew)
  rw [World.size_alloc] at R0
  have q0 : (((w.alloc (.cells #[.complex .f32 t.a.re t.a.im, .complex .f32 t.b.re t.b.im, .complex .f32 t.c.re t.c.im, .complex .f32 t.d.re t.d.im] 45)).alloc (.cells #[.complex .f32 0 0, .complex .f32 0 0, .complex .f32 0 0, .complex .f32 0 0] 45)).alloc (.cells #[.func (.func 67) #[] #[], .func (.func 68) #[] #[]] 104)).drew.cell? ⟨w.heap.size + 1 + 1, 0, none⟩ = some (.func (.func 67) #[] #[]) := by simp [go_sem]
  have q1 : (((w.alloc (.cells #[.complex .f32 t.a.re t.a.im, .complex .f32 t.b.re t.b.im, .complex .f32 t.c.re t.c.im, .complex .f32 t.d.re t.d.im] 45)).alloc (.cells #[.complex .f32 0 0, .complex .f32 0 0, .complex .f32 0 0, .complex .f32 0 0] 45)).alloc (.cells #[.func (.func 67) #[] #[], .func (.func 68) #[] #[]] 104)).drew.cell? ⟨w.heap.size + 1 + 1, 1, none⟩ = some (.func (.func 68) #[] #[]) := by simp [go_sem]
  go_enter Try.func40, Try.ntmps40
  go_wp2_with fail
  go_region_held3 (fun w' => w'.cell? ⟨w.heap.size, 0, none⟩ = some (.complex .f32 t.a.re t.a.im) ∧ w'.cell? ⟨w.heap.size, 1, none⟩ = some (.complex .f32 t.b.re t.b.im) ∧ w'.cell? ⟨w.heap.size, 2, none⟩ = some (.complex .f32 t.c.re t.c.im) ∧ w'.cell? ⟨w.heap.size, 3, none⟩ = some (.complex .f32 t.d.re t.d.im) ∧ w'.cell? ⟨w.heap.size + 1 + 1, 0, none⟩ = some (.func (.func 67) #[] #[]) ∧ w'.cell? ⟨w.heap.size + 1 + 1, 1, none⟩ = some (.func (.func 68) #[] #[])) (go_keep)
    ((go_at_call 68; with_reducible refine (HP.out _).mono ?_; rintro e w1 ⟨rfl, hb1⟩; obtain ⟨hc1, hf1⟩ := bcell hb1; have A1 := Lib.hid (A0.out.below hb1); have B1 := Lib.hid (B0.out.trans (hb1.mono B0.out.size)); obtain ⟨r0, r1, r2, r3, g0, g1, g2, g3, gl⟩ := R0.out.below hb1; obtain ⟨d0, d1, d2, d3, _, _, _, _, _⟩ := A1.out; have d4 := hc1 (w.heap.size + 1 + 1) 0 (by simp); have d5 := hc1 (w.heap.size + 1 + 1) 1 (by simp); simp [go_sem] at d4 d5; clear hb1 hc1 hf1))
  all_goals
    go_wp2_with fail
    refine bodyPost_ret (v := .tuple #[.agg #[.complex .f32 u.a.re u.a.im, .complex .f32 u.b.re u.b.im, .complex .f32 u.c.re u.c.im, .complex .f32 u.d.re u.d.im], .int .i64 0]) (by simp [results, Try.results40, go_sem, r0, r1, r2, r3, g0, g1, g2, g3, gl]) rfl ⟨rfl, ?_⟩
    repeat first
      | exact B1.out
      | refine Below.setCell ?_ ?_ _
    all_goals first | omega | (simp; done) | (simp; omega)


end Go.Proofs.Ytlglbinalocilaa
