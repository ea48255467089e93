/- Walks: products of tables. -/
import Derived.Test.YtaghfffbhgpalaaKah
import Derived.LoopTactic
import Derived.StillTailTactics
namespace Go.Proofs.Ytaghfffbhgpalaa
open Go.RowKit

theorem still_tail {P : Program} {id : Nat} {Q : Exit → Act → World → Prop} {a : Act} {w : World} {l : List Oper} (n : Nat) (hm : P.follows .mixedOrders = true) (hB : Region.lexTailB .any l.toArray n = true)
    (h : wpStill P l.toArray w.drew (fun a' => wpList P l.toArray Q (l.drop n) a' w.drew) (l.take n) a) : (Code.region id l.toArray true).wp P Q a w := wp_region_still_tail n hm hB h

theorem put_new (W : World) (c : Array Value) (T : TypeId) (n i j : Nat) (v : Value) (hn : j = W.heap.size) : ((W.alloc (.cells c T)).drewN n).setCell ⟨j, i, none⟩ v = (W.alloc (.cells (c.setIfInBounds i v) T)).drewN n := by
  have h : ((W.alloc (.cells c T)).drewN n).setCell ⟨j, i, none⟩ v = ((W.alloc (.cells c T)).setCell ⟨j, i, none⟩ v).drewN n := rfl
  rw [h, World.setCell_alloc_at c T j i v hn]

/-- Complex numbers and tables of words. -/
structure Cx where
  re : Nat
  im : Nat

def Cx.v (z : Cx) : Value := .complex .f32 z.re z.im

def Cx.mul (z w : Cx) : Cx := ⟨pre z.re z.im w.re w.im, pim z.re z.im w.re w.im⟩

def Cx.add (z w : Cx) : Cx := ⟨sm z.re w.re, sm z.im w.im⟩

structure Tb where
  a : Cx
  b : Cx
  c : Cx
  d : Cx

def Tb.v (t : Tb) : Value := .agg #[t.a.v, t.b.v, t.c.v, t.d.v]

/-- The entry of a product. -/
def ent (z w z' w' : Cx) : Cx := (z.mul w).add (z'.mul w')

def Tb.mul (s t : Tb) : Tb := ⟨ent s.a t.a s.b t.c, ent s.a t.b s.b t.d, ent s.c t.a s.d t.c, ent s.c t.b s.d t.d⟩

def EntOk (z w z' w' : Cx) : Prop := ∃ k, Ab k z.re z.im w.re w.im z'.re z'.im w'.re w'.im

def MulOk (s t : Tb) : Prop := EntOk s.a t.a s.b t.c ∧ EntOk s.a t.b s.b t.d ∧ EntOk s.c t.a s.d t.c ∧ EntOk s.c t.b s.d t.d

/-- What the specification's entry walks over. -/
theorem ent_calls {z w z' w' : Cx} (h : EntOk z w z' w') :
    (∀ W, Calls Try.prog 41 #[z.v, w.v] W fun e W' => e = .returned (z.mul w).v ∧ W = W') ∧
    (∀ W, Calls Try.prog 41 #[z'.v, w'.v] W fun e W' => e = .returned (z'.mul w').v ∧ W = W') ∧
    (∀ W, Calls Try.prog 40 #[(z.mul w).v, (z'.mul w').v] W fun e W' => e = .returned (ent z w z' w').v ∧ W = W') := by
  obtain ⟨k, ⟨j, h1⟩, ⟨i, h2⟩, h3⟩ := h
  exact ⟨fun W => l01Times_any h1 W, fun W => l01Times_any h2 W, fun W => l01Add_any h3 W⟩

set_option maxRecDepth 100000 in
set_option maxHeartbeats 2000000 in
theorem l03Times_ok {s t : Tb} (h : MulOk s t) (w : World) :
    Calls Try.prog 25 #[s.v, t.v] w fun e w' => e = .returned (s.mul t).v ∧ Below w.heap.size w w' := by
  obtain ⟨h0, h1, h2, h3⟩ := h
  obtain ⟨p0, q0, s0⟩ := ent_calls h0
  obtain ⟨p1, q1, s1⟩ := ent_calls h1
  obtain ⟨p2, q2, s2⟩ := ent_calls h2
  obtain ⟨p3, q3, s3⟩ := ent_calls h3
  unfold Tb.v Tb.mul
  clear h0 h1 h2 h3
  generalize ent s.a t.a s.b t.c = e0 at *
  generalize ent s.a t.b s.b t.d = e1 at *
  generalize ent s.c t.a s.d t.c = e2 at *
  generalize ent s.c t.b s.d t.d = e3 at *
  generalize s.a.mul t.a = x0 at *
  generalize s.b.mul t.c = y0 at *
  generalize s.a.mul t.b = x1 at *
  generalize s.b.mul t.d = y1 at *
  generalize s.c.mul t.a = x2 at *
  generalize s.d.mul t.c = y2 at *
  generalize s.c.mul t.b = x3 at *
  generalize s.d.mul t.d = y3 at *
  obtain ⟨⟨a0, a1⟩, ⟨a2, a3⟩, ⟨a4, a5⟩, ⟨a6, a7⟩⟩ := s
  obtain ⟨⟨b0, b1⟩, ⟨b2, b3⟩, ⟨b4, b5⟩, ⟨b6, b7⟩⟩ := t
  simp only [Cx.v] at *
  obtain ⟨x0r, x0i⟩ := x0
  obtain ⟨x1r, x1i⟩ := x1
  obtain ⟨x2r, x2i⟩ := x2
  obtain ⟨x3r, x3i⟩ := x3
  obtain ⟨y0r, y0i⟩ := y0
  obtain ⟨y1r, y1i⟩ := y1
  obtain ⟨y2r, y2i⟩ := y2
  obtain ⟨y3r, y3i⟩ := y3
  obtain ⟨e0r, e0i⟩ := e0
  obtain ⟨e1r, e1i⟩ := e1
  obtain ⟨e2r, e2i⟩ := e2
  obtain ⟨e3r, e3i⟩ := e3
  simp only at *
  have P0 := Lib.hid p0
  have P1 := Lib.hid p1
  have P2 := Lib.hid p2
  have P3 := Lib.hid p3
  have Q0 := Lib.hid q0
  have Q1 := Lib.hid q1
  have Q2 := Lib.hid q2
  have Q3 := Lib.hid q3
  have S0 := Lib.hid s0
  have S1 := Lib.hid s1
  have S2 := Lib.hid s2
  have S3 := Lib.hid s3
  clear p0 p1 p2 p3 q0 q1 q2 q3 s0 s1 s2 s3
  go_enter Try.func25, Try.ntmps25
  go_wp2
  generalize hW0 : (((w.alloc (.cells #[.complex .f32 a0 a1, .complex .f32 a2 a3, .complex .f32 a4 a5, .complex .f32 a6 a7] 47)).alloc (.cells #[.complex .f32 b0 b1, .complex .f32 b2 b3, .complex .f32 b4 b5, .complex .f32 b6 b7] 47)).alloc (.cells #[.complex .f32 0 0, .complex .f32 0 0, .complex .f32 0 0, .complex .f32 0 0] 47)) = W0
  have hs : W0.heap.size = w.heap.size + 1 + 1 + 1 := by subst hW0; simp
  go_loopw [6] (fun i wr => ∃ n, (i = .int .i64 0 ∧ wr = (W0.alloc (.cells #[.complex .f32 0 0, .complex .f32 0 0, .complex .f32 0 0, .complex .f32 0 0] 47)).drewN n) ∨ (i = .int .i64 1 ∧ wr = (W0.alloc (.cells #[.complex .f32 e0r e0i, .complex .f32 e1r e1i, .complex .f32 0 0, .complex .f32 0 0] 47)).drewN n) ∨ (i = .int .i64 2 ∧ wr = (W0.alloc (.cells #[.complex .f32 e0r e0i, .complex .f32 e1r e1i, .complex .f32 e2r e2i, .complex .f32 e3r e3i] 47)).drewN n)) (fun i _ => 2 - (intOf i).toNat)
  case atStart => exact ⟨0, .inl ⟨rfl, rfl⟩⟩
  case round =>
    obtain ⟨n, ⟨rfl, rfl⟩ | ⟨rfl, rfl⟩ | ⟨rfl, rfl⟩⟩ := hrel
    · go_wp2
      go_loopw [7] (fun j wr => ∃ n, (j = .int .i64 0 ∧ wr = (W0.alloc (.cells #[.complex .f32 0 0, .complex .f32 0 0, .complex .f32 0 0, .complex .f32 0 0] 47)).drewN n) ∨ (j = .int .i64 1 ∧ wr = (W0.alloc (.cells #[.complex .f32 e0r e0i, .complex .f32 0 0, .complex .f32 0 0, .complex .f32 0 0] 47)).drewN n) ∨ (j = .int .i64 2 ∧ wr = (W0.alloc (.cells #[.complex .f32 e0r e0i, .complex .f32 e1r e1i, .complex .f32 0 0, .complex .f32 0 0] 47)).drewN n)) (fun j _ => 2 - (intOf j).toNat)
      case atStart => exact ⟨n, .inl ⟨rfl, rfl⟩⟩
      case round =>
        clear n
        obtain ⟨n, ⟨rfl, rfl⟩ | ⟨rfl, rfl⟩ | ⟨rfl, rfl⟩⟩ := hrel
        · subst hW0
          go_wp2
          refine still_tail 23 (by kernel_rfl) (by kernel_rfl) ?_
          simp only [List.take_succ_cons, List.take_zero, List.drop_succ_cons, List.drop_zero]
          iterate 10 still_step
          still_call ((P0.out _).mono (by rintro e w' ⟨rfl, rfl⟩; exact ⟨rfl, rfl⟩))
          iterate 8 still_step
          still_call ((Q0.out _).mono (by rintro e w' ⟨rfl, rfl⟩; exact ⟨rfl, rfl⟩))
          still_call ((S0.out _).mono (by rintro e w' ⟨rfl, rfl⟩; exact ⟨rfl, rfl⟩))
          iterate 2 still_step
          refine wpStill_nil ?_
          go_wp2
          go_roundw
          case rel => exact ⟨n + 1, .inr (.inl ⟨by go_num, (put_new _ _ _ _ _ _ _ (by simp)).trans rfl⟩)⟩
          case measure => simp [intOf]
        · subst hW0
          go_wp2
          refine still_tail 23 (by kernel_rfl) (by kernel_rfl) ?_
          simp only [List.take_succ_cons, List.take_zero, List.drop_succ_cons, List.drop_zero]
          iterate 10 still_step
          still_call ((P1.out _).mono (by rintro e w' ⟨rfl, rfl⟩; exact ⟨rfl, rfl⟩))
          iterate 8 still_step
          still_call ((Q1.out _).mono (by rintro e w' ⟨rfl, rfl⟩; exact ⟨rfl, rfl⟩))
          still_call ((S1.out _).mono (by rintro e w' ⟨rfl, rfl⟩; exact ⟨rfl, rfl⟩))
          iterate 2 still_step
          refine wpStill_nil ?_
          go_wp2
          go_roundw
          case rel => exact ⟨n + 1, .inr (.inr ⟨by go_num, (put_new _ _ _ _ _ _ _ (by simp)).trans rfl⟩)⟩
          case measure => simp [intOf]
        · go_wp2
          go_roundw
          case rel => exact ⟨n, .inr (.inl ⟨by go_num, rfl⟩)⟩
          case measure => simp [intOf]
    · go_wp2
      go_loopw [7] (fun j wr => ∃ n, (j = .int .i64 0 ∧ wr = (W0.alloc (.cells #[.complex .f32 e0r e0i, .complex .f32 e1r e1i, .complex .f32 0 0, .complex .f32 0 0] 47)).drewN n) ∨ (j = .int .i64 1 ∧ wr = (W0.alloc (.cells #[.complex .f32 e0r e0i, .complex .f32 e1r e1i, .complex .f32 e2r e2i, .complex .f32 0 0] 47)).drewN n) ∨ (j = .int .i64 2 ∧ wr = (W0.alloc (.cells #[.complex .f32 e0r e0i, .complex .f32 e1r e1i, .complex .f32 e2r e2i, .complex .f32 e3r e3i] 47)).drewN n)) (fun j _ => 2 - (intOf j).toNat)
      case atStart => exact ⟨n, .inl ⟨rfl, rfl⟩⟩
      case round =>
        clear n
        obtain ⟨n, ⟨rfl, rfl⟩ | ⟨rfl, rfl⟩ | ⟨rfl, rfl⟩⟩ := hrel
        · subst hW0
          go_wp2
          refine still_tail 23 (by kernel_rfl) (by kernel_rfl) ?_
          simp only [List.take_succ_cons, List.take_zero, List.drop_succ_cons, List.drop_zero]
          iterate 10 still_step
          still_call ((P2.out _).mono (by rintro e w' ⟨rfl, rfl⟩; exact ⟨rfl, rfl⟩))
          iterate 8 still_step
          still_call ((Q2.out _).mono (by rintro e w' ⟨rfl, rfl⟩; exact ⟨rfl, rfl⟩))
          still_call ((S2.out _).mono (by rintro e w' ⟨rfl, rfl⟩; exact ⟨rfl, rfl⟩))
          iterate 2 still_step
          refine wpStill_nil ?_
          go_wp2
          go_roundw
          case rel => exact ⟨n + 1, .inr (.inl ⟨by go_num, (put_new _ _ _ _ _ _ _ (by simp)).trans rfl⟩)⟩
          case measure => simp [intOf]
        · subst hW0
          go_wp2
          refine still_tail 23 (by kernel_rfl) (by kernel_rfl) ?_
          simp only [List.take_succ_cons, List.take_zero, List.drop_succ_cons, List.drop_zero]
          iterate 10 still_step
          still_call ((P3.out _).mono (by rintro e w' ⟨rfl, rfl⟩; exact ⟨rfl, rfl⟩))
          iterate 8 still_step
          still_call ((Q3.out _).mono (by rintro e w' ⟨rfl, rfl⟩; exact ⟨rfl, rfl⟩))
          still_call ((S3.out _).mono (by rintro e w' ⟨rfl, rfl⟩; exact ⟨rfl, rfl⟩))
          iterate 2 still_step
          refine wpStill_nil ?_
          go_wp2
          go_roundw
          case rel => exact ⟨n + 1, .inr (.inr ⟨by go_num, (put_new _ _ _ _ _ _ _ (by simp)).trans rfl⟩)⟩
          case measure => simp [intOf]
        · go_wp2
          go_roundw
          case rel => exact ⟨n, .inr (.inr ⟨by go_num, rfl⟩)⟩
          case measure => simp [intOf]
    · subst hW0
      go_wp2
      refine bodyPost_ret (v := .agg #[.complex .f32 e0r e0i, .complex .f32 e1r e1i, .complex .f32 e2r e2i, .complex .f32 e3r e3i]) (by simp [results, Try.results25, go_sem, hs]) rfl ⟨rfl, ?_⟩
      all_goals repeat first
        | exact Below.refl _ _
        | refine Below.alloc ?_ ?_ _
        | refine below_drewN ?_ _
        | refine Below.setCell ?_ ?_ _
      all_goals first | omega | (simp; done) | (simp; omega)

end Go.Proofs.Ytaghfffbhgpalaa
