/- Walks: pairs of the program: what a table makes of one spin. -/
import Derived.Test.YtlglbinalocilaaKbo
namespace Go.Proofs.Ytlglbinalocilaa
open Go.RowKit

theorem apply_ahead (x y z u : Value) (w : World) : (nilAhead 262 29 (.agg #[x, y, z, u]) "loop.example/g01214/impl.apply").run Try.prog w = .ok (some false) w := by kernel_rfl

theorem apply_method (x y z u : Value) (w : World) : (method 262 29 (.agg #[x, y, z, u]) "loop.example/g01214/impl.apply").run Try.prog w = .ok (87, .agg #[x, y, z, u]) w := by kernel_rfl

/-- Behind both boxes that the closure holds: the table behind an interface, the pair. -/
structure Boxes (W : World) (bd bp : Nat) (a t : Tb) : Prop where
  dc : W.cell? ⟨bd, 0, none⟩ = some (.iface 29 (.agg #[.complex .f32 a.a.re a.a.im, .complex .f32 a.b.re a.b.im, .complex .f32 a.c.re a.c.im, .complex .f32 a.d.re a.d.im]))
  dl : bd < W.heap.size
  tc : TC W bp t

theorem Boxes.below {W W' : World} {bd bp : Nat} {a t : Tb} (h : Boxes W bd bp a t) (hb : Below W.heap.size W W') : Boxes W' bd bp a t :=
  ⟨(hb.cell (p := ⟨bd, 0, none⟩) h.dl).trans h.dc, Nat.lt_of_lt_of_le h.dl hb.size, h.tc.below hb⟩

/-- A spinor in a block of its own. -/
structure SC (W : World) (B : Nat) (x y : Cx) : Prop where
  c0 : W.cell? ⟨B, 0, none⟩ = some (.complex .f32 x.re x.im)
  c1 : W.cell? ⟨B, 1, none⟩ = some (.complex .f32 y.re y.im)
  f0 : W.frozen? ⟨B, 0, none⟩ = false
  f1 : W.frozen? ⟨B, 1, none⟩ = false
  lt : B < W.heap.size

theorem SC.below {W W' : World} {B : Nat} {x y : Cx} (h : SC W B x y) (hb : Below W.heap.size W W') : SC W' B x y :=
  ⟨(hb.cell (p := ⟨B, 0, none⟩) h.lt).trans h.c0, (hb.cell (p := ⟨B, 1, none⟩) h.lt).trans h.c1, (hb.frozen (p := ⟨B, 0, none⟩) h.lt).trans h.f0, (hb.frozen (p := ⟨B, 1, none⟩) h.lt).trans h.f1, Nat.lt_of_lt_of_le h.lt hb.size⟩

theorem SC.new (W : World) (T : TypeId) (x y : Cx) : SC (W.alloc (.cells #[.complex .f32 x.re x.im, .complex .f32 y.re y.im] T)) W.heap.size x y :=
  ⟨by simp [go_sem], by simp [go_sem], by simp [go_sem], by simp [go_sem], by simp⟩

theorem SC.nil (W : World) (T : TypeId) : SC (W.alloc (.cells #[.complex .f32 0 0, .complex .f32 0 0] T)) W.heap.size ⟨0, 0⟩ ⟨0, 0⟩ := SC.new W T ⟨0, 0⟩ ⟨0, 0⟩

set_option maxRecDepth 100000 in
set_option maxHeartbeats 2000000 in
theorem made0_ok {a t : Tb} {bd bp : Nat} (h0 : EntOk a.a t.a a.b t.b) (h1 : EntOk a.c t.a a.d t.b) (w : World) (hx : Boxes w bd bp a t) :
    Calls Try.prog 90 #[.int .i64 0, .pointer (some ⟨bd, 0, none⟩), .pointer (some ⟨bp, 0, none⟩)] w fun e w' => e = .returned (.tuple #[pair (ent a.a t.a a.b t.b) (ent a.c t.a a.d t.b), .int .i64 0]) ∧ Below w.heap.size w w' := by
  have H0 := Lib.hid (fun w => row0_ok t w)
  have HA := Lib.hid (fun w => apply_ok h0 h1 w)
  clear h0 h1
  generalize ent a.a t.a a.b t.b = e0 at *
  generalize ent a.c t.a a.d t.b = e1 at *
  unfold Tb.v pair at *
  simp only [Cx.v] at *
  have X0 := Lib.hid (hx.below ((Below.refl w.heap.size w).alloc (Nat.le_refl _) (.cells #[.complex .f32 0 0, .complex .f32 0 0] 110)).drew)
  have B0 := Lib.hid ((Below.refl w.heap.size w).alloc (Nat.le_refl _) (.cells #[.complex .f32 0 0, .complex .f32 0 0] 110)).drew
  have R0 := Lib.hid ((SC.nil w 110).below (Below.refl _ _).drew)
  have n1 := World.new_ne w ⟨bd, 0, none⟩ hx.dc
  have n2 := World.new_ne w ⟨bp, 0, none⟩ hx.tc.c0
  have n3 := World.new_ne w ⟨bp, 1, none⟩ hx.tc.c1
  have n4 := World.new_ne w ⟨bp, 2, none⟩ hx.tc.c2
  have n5 := World.new_ne w ⟨bp, 3, none⟩ hx.tc.c3
  obtain ⟨x0, x1, x2, x3, _, _, _, _, xl⟩ := hx.tc
  have y0 := hx.dc
  have hmf : ∀ (fn : Fn) (first cap : Array Value) (w : World), (Instr.makeFunc fn first cap).run Try.prog w = .ok (.func fn first cap) w := fun _ _ _ _ => rfl
  have hna := apply_ahead
  have hme := apply_method
  go_enter Try.func90, Try.ntmps90
  go_wp2_with fail
  go_region_held3 (fun w' => w'.cell? ⟨bd, 0, none⟩ = some (.iface 29 (.agg #[.complex .f32 a.a.re a.a.im, .complex .f32 a.b.re a.b.im, .complex .f32 a.c.re a.c.im, .complex .f32 a.d.re a.d.im])) ∧ w'.cell? ⟨bp, 0, none⟩ = some (.complex .f32 t.a.re t.a.im) ∧ w'.cell? ⟨bp, 1, none⟩ = some (.complex .f32 t.b.re t.b.im) ∧ w'.cell? ⟨bp, 2, none⟩ = some (.complex .f32 t.c.re t.c.im) ∧ w'.cell? ⟨bp, 3, none⟩ = some (.complex .f32 t.d.re t.d.im)) (go_keep)
    ((first
      | (go_at_call 88; with_reducible refine (H0.out _).mono ?_; rintro e w1 ⟨rfl, hb1⟩; have X1 := Lib.hid (X0.out.below hb1); have B1 := Lib.hid (B0.out.trans (hb1.mono B0.out.size)); have R1 := Lib.hid (R0.out.below hb1); obtain ⟨d0, d1, d2, d3, _, _, _, _, _⟩ := X1.out.tc; have d4 := X1.out.dc; clear hb1)
      | (go_at_call 87; with_reducible refine (HA.out _).mono ?_; rintro e w2 ⟨rfl, hb2⟩; have X2 := Lib.hid (X1.out.below hb2); have B2 := Lib.hid (B1.out.trans (hb2.mono B1.out.size)); obtain ⟨r0, r1, g0, g1, gl⟩ := R1.out.below hb2; have m1 : ¬ w.heap.size = bd := n1; have m2 : ¬ w.heap.size = bp := n2; obtain ⟨d0, d1, d2, d3, _, _, _, _, _⟩ := X2.out.tc; have d4 := X2.out.dc; clear hb2)))
  all_goals
    go_wp2_with fail
    refine bodyPost_ret (v := .tuple #[.agg #[.complex .f32 e0.re e0.im, .complex .f32 e1.re e1.im], .int .i64 0]) (by simp [results, Try.results90, go_sem, r0, r1, g0, g1, gl]) rfl ⟨rfl, ?_⟩
    repeat first
      | exact B2.out
      | refine Below.setCell ?_ ?_ _
    all_goals first | omega | (simp; done) | (simp; omega)
set_option maxRecDepth 100000 in
set_option maxHeartbeats 2000000 in
theorem made1_ok {a t : Tb} {bd bp : Nat} (h0 : EntOk a.a t.c a.b t.d) (h1 : EntOk a.c t.c a.d t.d) (w : World) (hx : Boxes w bd bp a t) :
    Calls Try.prog 90 #[.int .i64 1, .pointer (some ⟨bd, 0, none⟩), .pointer (some ⟨bp, 0, none⟩)] w fun e w' => e = .returned (.tuple #[pair (ent a.a t.c a.b t.d) (ent a.c t.c a.d t.d), .int .i64 0]) ∧ Below w.heap.size w w' := by
  have H0 := Lib.hid (fun w => row1_ok t w)
  have HA := Lib.hid (fun w => apply_ok h0 h1 w)
  clear h0 h1
  generalize ent a.a t.c a.b t.d = e0 at *
  generalize ent a.c t.c a.d t.d = e1 at *
  unfold Tb.v pair at *
  simp only [Cx.v] at *
  have X0 := Lib.hid (hx.below ((Below.refl w.heap.size w).alloc (Nat.le_refl _) (.cells #[.complex .f32 0 0, .complex .f32 0 0] 110)).drew)
  have B0 := Lib.hid ((Below.refl w.heap.size w).alloc (Nat.le_refl _) (.cells #[.complex .f32 0 0, .complex .f32 0 0] 110)).drew
  have R0 := Lib.hid ((SC.nil w 110).below (Below.refl _ _).drew)
  have n1 := World.new_ne w ⟨bd, 0, none⟩ hx.dc
  have n2 := World.new_ne w ⟨bp, 0, none⟩ hx.tc.c0
  have n3 := World.new_ne w ⟨bp, 1, none⟩ hx.tc.c1
  have n4 := World.new_ne w ⟨bp, 2, none⟩ hx.tc.c2
  have n5 := World.new_ne w ⟨bp, 3, none⟩ hx.tc.c3
  obtain ⟨x0, x1, x2, x3, _, _, _, _, xl⟩ := hx.tc
  have y0 := hx.dc
  have hmf : ∀ (fn : Fn) (first cap : Array Value) (w : World), (Instr.makeFunc fn first cap).run Try.prog w = .ok (.func fn first cap) w := fun _ _ _ _ => rfl
  have hna := apply_ahead
  have hme := apply_method
  go_enter Try.func90, Try.ntmps90
  go_wp2_with fail
  go_region_held3 (fun w' => w'.cell? ⟨bd, 0, none⟩ = some (.iface 29 (.agg #[.complex .f32 a.a.re a.a.im, .complex .f32 a.b.re a.b.im, .complex .f32 a.c.re a.c.im, .complex .f32 a.d.re a.d.im])) ∧ w'.cell? ⟨bp, 0, none⟩ = some (.complex .f32 t.a.re t.a.im) ∧ w'.cell? ⟨bp, 1, none⟩ = some (.complex .f32 t.b.re t.b.im) ∧ w'.cell? ⟨bp, 2, none⟩ = some (.complex .f32 t.c.re t.c.im) ∧ w'.cell? ⟨bp, 3, none⟩ = some (.complex .f32 t.d.re t.d.im)) (go_keep)
    ((first
      | (go_at_call 88; with_reducible refine (H0.out _).mono ?_; rintro e w1 ⟨rfl, hb1⟩; have X1 := Lib.hid (X0.out.below hb1); have B1 := Lib.hid (B0.out.trans (hb1.mono B0.out.size)); have R1 := Lib.hid (R0.out.below hb1); obtain ⟨d0, d1, d2, d3, _, _, _, _, _⟩ := X1.out.tc; have d4 := X1.out.dc; clear hb1)
      | (go_at_call 87; with_reducible refine (HA.out _).mono ?_; rintro e w2 ⟨rfl, hb2⟩; have X2 := Lib.hid (X1.out.below hb2); have B2 := Lib.hid (B1.out.trans (hb2.mono B1.out.size)); obtain ⟨r0, r1, g0, g1, gl⟩ := R1.out.below hb2; have m1 : ¬ w.heap.size = bd := n1; have m2 : ¬ w.heap.size = bp := n2; obtain ⟨d0, d1, d2, d3, _, _, _, _, _⟩ := X2.out.tc; have d4 := X2.out.dc; clear hb2)))
  all_goals
    go_wp2_with fail
    refine bodyPost_ret (v := .tuple #[.agg #[.complex .f32 e0.re e0.im, .complex .f32 e1.re e1.im], .int .i64 0]) (by simp [results, Try.results90, go_sem, r0, r1, g0, g1, gl]) rfl ⟨rfl, ?_⟩
    repeat first
      | exact B2.out
      | refine Below.setCell ?_ ?_ _
    all_goals first | omega | (simp; done) | (simp; omega)

end Go.Proofs.Ytlglbinalocilaa
