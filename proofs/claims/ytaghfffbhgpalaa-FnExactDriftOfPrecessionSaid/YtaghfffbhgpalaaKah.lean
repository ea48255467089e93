/- Walks: rounded products and sums of complex numbers, those of the program. Walks: products of tables. -/
import Derived.Test.YtaghfffbhgpalaaKaf
import Derived.LoopTactic
import Derived.StillTailTactics
namespace Go.Proofs.Ytaghfffbhgpalaa
open Go.RowKit

theorem vl_num {x : Nat} {v : Int} (h : Vl x v) : x < 4294967296 ∧ fin x = true := by
  obtain ⟨s, m, p, rfl, hf, _⟩ := h
  refine ⟨(mag_S s m p).1, ?_⟩
  cases hc : fin (S s m p)
  · obtain ⟨k, hk⟩ := Flt.read_fit Ieee.single (by decide) s m p hf
    obtain ⟨t, h | ⟨u, h⟩⟩ := big_read _ (mag_S s m p).1 hc
    · have : Ieee.single.read (Ieee.single.nearest s m p) = .infinity t := h
      rw [hk] at this; cases this
    · have : Ieee.single.read (Ieee.single.nearest s m p) = .nan t u := h
      rw [hk] at this; cases this
  · rfl

theorem isComplex_any (a b : Nat) (w : World) (ha : a < 4294967296) (hb : b < 4294967296) :
    Calls Try.prog 70 #[.complex .f32 a b] w fun e w' => e = .returned (.bool (fin a && fin b)) ∧ w = w' := by
  have A := Lib.hid (fun w => isNumber_any a w ha)
  have B := Lib.hid (fun w => isNumber_any b w hb)
  clear ha hb
  generalize fin a = x at *
  generalize fin b = y at *
  cases x
  · go_enter Try.func70, Try.ntmps70
    go_wp2_with fail
    refine (A.out _).mono ?_
    rintro e w' ⟨rfl, rfl⟩
    go_wp2_with fail
    go_ret
    exact ⟨rfl, rfl⟩
  · go_enter Try.func70, Try.ntmps70
    go_wp2_with fail
    refine (A.out _).mono ?_
    rintro e w' ⟨rfl, rfl⟩
    go_wp2_with fail
    refine (B.out _).mono ?_
    rintro e w' ⟨rfl, rfl⟩
    go_wp2_with fail
    go_ret
    exact ⟨rfl, rfl⟩

theorem complexOrLimit_ok (a b : Nat) (w : World) (ha : a < 4294967296) (hb : b < 4294967296) (fa : fin a = true) (fb : fin b = true) :
    Calls Try.prog 71 #[.complex .f32 a b] w fun e w' => e = .returned (.tuple #[.complex .f32 a b, .int .i64 0]) ∧ w = w' := by
  have A := Lib.hid (fun w => isComplex_any a b w ha hb)
  rw [fa, fb] at A
  clear ha hb fa fb
  go_enter Try.func71, Try.ntmps71
  go_wp2_with fail
  refine (A.out _).mono ?_
  rintro e w' ⟨rfl, rfl⟩
  go_wp2_with fail
  go_ret2
  exact ⟨rfl, rfl⟩

theorem implMultiply_ok {a b c d : Nat} {k : Int} (h : Pb k a b c d) (w : World) :
    Calls Try.prog 66 #[.complex .f32 a b, .complex .f32 c d] w fun e w' => e = .returned (.tuple #[.complex .f32 (pre a b c d) (pim a b c d), .int .i64 0]) ∧ w = w' := by
  obtain ⟨h1, h2, va, vb, vc, vd, ha, hb, hc, hd, g1, g2⟩ := h
  have A := Lib.hid (fun w => isComplex_any a b w (vl_num ha).1 (vl_num hb).1)
  have B := Lib.hid (fun w => isComplex_any c d w (vl_num hc).1 (vl_num hd).1)
  rw [(vl_num ha).2, (vl_num hb).2] at A
  rw [(vl_num hc).2, (vl_num hd).2] at B
  have x1 := ex_ok k ha hc (neg_vl hb) hd h1 h2 g1
  have x2 := ex_ok k ha hd hb hc h1 h2 g2
  have O := Lib.hid (fun w => complexOrLimit_ok (pre a b c d) (pim a b c d) w x1.2.1 x2.2.1 (bd_fin x1.2 h2) (bd_fin x2.2 h2))
  have c1 : ∀ w, (convert 44 100 (.complex .f32 a b)).run Try.prog w = .ok (.complex .f64 (wd a) (wd b)) w := fun w =>
    run_convert_complex w 44 100 .f32 .f64 a b _ _ (by rw [Try.underlying44]; rfl) Try.underlying100 (by unfold cConvBits; rw [wd_ok ha, wd_ok hb]; rfl)
  have c2 : ∀ w, (convert 44 100 (.complex .f32 c d)).run Try.prog w = .ok (.complex .f64 (wd c) (wd d)) w := fun w =>
    run_convert_complex w 44 100 .f32 .f64 c d _ _ (by rw [Try.underlying44]; rfl) Try.underlying100 (by unfold cConvBits; rw [wd_ok hc, wd_ok hd]; rfl)
  have m : ∀ t w, (binOp .mul t (.complex .f64 (wd a) (wd b)) (.complex .f64 (wd c) (wd d))).run Try.prog w = .ok (.complex .f64 (ad (mu (wd a) (wd c)) (mu (wd (Op.negFloat .f32 b)) (wd d))) (ad (mu (wd a) (wd d)) (mu (wd b) (wd c)))) w := fun t w =>
    run_complex_mul w t _ _ _ _ _ _ (by
      unfold cMulBits
      rw [mu_ok ha hc, mu_ok hb hd, mu_ok ha hd, mu_ok hb hc]
      simp only [Option.bind_eq_bind, Option.bind_some]
      rw [sub_mu ha hc hb hd, ad_ok ha hd hb hc]
      rfl)
  have n : ∀ w, (convert 100 44 (.complex .f64 (ad (mu (wd a) (wd c)) (mu (wd (Op.negFloat .f32 b)) (wd d))) (ad (mu (wd a) (wd d)) (mu (wd b) (wd c))))).run Try.prog w = .ok (.complex .f32 (pre a b c d) (pim a b c d)) w := fun w =>
    run_convert_complex w 100 44 .f64 .f32 _ _ _ _ (by rw [Try.underlying100]; rfl) Try.underlying44 (by unfold cConvBits; rw [x1.1, x2.1]; rfl)
  clear ha hb hc hd g1 g2 h1 h2 x1 x2
  generalize pre a b c d = x at *
  generalize pim a b c d = y at *
  generalize ad (mu (wd a) (wd c)) (mu (wd (Op.negFloat .f32 b)) (wd d)) = X at *
  generalize ad (mu (wd a) (wd d)) (mu (wd b) (wd c)) = Y at *
  generalize wd a = wa at *
  generalize wd b = wb at *
  generalize wd c = wc at *
  generalize wd d = wd' at *
  go_enter Try.func66, Try.ntmps66
  go_wp2_with fail
  refine (A.out _).mono ?_
  rintro e w' ⟨rfl, rfl⟩
  go_wp2_with fail
  refine (B.out _).mono ?_
  rintro e w' ⟨rfl, rfl⟩
  go_wp2_with (first | simp only [m] | fail)
  refine (O.out _).mono ?_
  rintro e w' ⟨rfl, rfl⟩
  go_wp2_with fail
  go_ret2
  exact ⟨rfl, rfl⟩

theorem implAdd_ok {a b c d : Nat} {k : Int} (h : Sb k a b c d) (w : World) :
    Calls Try.prog 67 #[.complex .f32 a b, .complex .f32 c d] w fun e w' => e = .returned (.tuple #[.complex .f32 (sm a c) (sm b d), .int .i64 0]) ∧ w = w' := by
  obtain ⟨h1, h2, va, vb, vc, vd, ha, hb, hc, hd, g1, g2⟩ := h
  have A := Lib.hid (fun w => isComplex_any a b w (vl_num ha).1 (vl_num hb).1)
  have B := Lib.hid (fun w => isComplex_any c d w (vl_num hc).1 (vl_num hd).1)
  rw [(vl_num ha).2, (vl_num hb).2] at A
  rw [(vl_num hc).2, (vl_num hd).2] at B
  have x1 := sm_ok k ha hc h1 h2 g1
  have x2 := sm_ok k hb hd h1 h2 g2
  have O := Lib.hid (fun w => complexOrLimit_ok (sm a c) (sm b d) w x1.2.1 x2.2.1 (bd_fin x1.2 h2) (bd_fin x2.2 h2))
  have m : ∀ t w, (binOp .add t (.complex .f32 a b) (.complex .f32 c d)).run Try.prog w = .ok (.complex .f32 (sm a c) (sm b d)) w := fun t w =>
    run_complex_sum w .add (.inl rfl) t .f32 _ _ _ _ _ _ (by unfold cSumBits; rw [x1.1, x2.1]; rfl)
  clear ha hb hc hd g1 g2 h1 h2 x1 x2
  generalize sm a c = x at *
  generalize sm b d = y at *
  go_enter Try.func67, Try.ntmps67
  go_wp2_with fail
  refine (A.out _).mono ?_
  rintro e w' ⟨rfl, rfl⟩
  go_wp2_with fail
  refine (B.out _).mono ?_
  rintro e w' ⟨rfl, rfl⟩
  go_wp2_with (first | simp only [m] | fail)
  refine (O.out _).mono ?_
  rintro e w' ⟨rfl, rfl⟩
  go_wp2_with fail
  go_ret2
  exact ⟨rfl, rfl⟩

/-- Two products that stay below a power of two, and their sum. -/
def Ab (k : Int) (a b c d a' b' c' d' : Nat) : Prop := (∃ j, Pb j a b c d) ∧ (∃ j, Pb j a' b' c' d') ∧ Sb k (pre a b c d) (pim a b c d) (pre a' b' c' d') (pim a' b' c' d')

theorem addProducts_ok {a b c d a' b' c' d' : Nat} {k : Int} (h : Ab k a b c d a' b' c' d') (w : World) :
    Calls Try.prog 62 #[.complex .f32 a b, .complex .f32 c d, .complex .f32 a' b', .complex .f32 c' d'] w fun e w' =>
      e = .returned (.tuple #[.complex .f32 (sm (pre a b c d) (pre a' b' c' d')) (sm (pim a b c d) (pim a' b' c' d')), .int .i64 0]) ∧ w = w' := by
  obtain ⟨⟨j, h1⟩, ⟨i, h2⟩, h3⟩ := h
  have A := Lib.hid (fun w => implMultiply_ok h1 w)
  have B := Lib.hid (fun w => implMultiply_ok h2 w)
  have C := Lib.hid (fun w => implAdd_ok h3 w)
  clear h1 h2 h3
  generalize pre a b c d = x at *
  generalize pim a b c d = y at *
  generalize pre a' b' c' d' = x' at *
  generalize pim a' b' c' d' = y' at *
  generalize sm x x' = u at *
  generalize sm y y' = v at *
  go_enter Try.func62, Try.ntmps62
  go_wp2_with fail
  refine (A.out _).mono ?_
  rintro e w' ⟨rfl, rfl⟩
  go_wp2_with fail
  refine (B.out _).mono ?_
  rintro e w' ⟨rfl, rfl⟩
  go_wp2_with fail
  refine (C.out _).mono ?_
  rintro e w' ⟨rfl, rfl⟩
  go_wp2_with fail
  go_ret2
  exact ⟨rfl, rfl⟩

end Go.Proofs.Ytaghfffbhgpalaa

namespace Go.Proofs.Ytaghfffbhgpalaa
open Go.RowKit

theorem still_tail {P : Program} {id : Nat} {Q : Exit → Act → World → Prop} {a : Act} {w : World} {l : List Oper} (n : Nat) (hm : P.follows .mixedOrders = true) (hB : Region.lexTailB .any l.toArray n = true)
    (h : wpStill P l.toArray w.drew (fun a' => wpList P l.toArray Q (l.drop n) a' w.drew) (l.take n) a) : (Code.region id l.toArray true).wp P Q a w := wp_region_still_tail n hm hB h

theorem put_new (W : World) (c : Array Value) (T : TypeId) (n i j : Nat) (v : Value) (hn : j = W.heap.size) : ((W.alloc (.cells c T)).drewN n).setCell ⟨j, i, none⟩ v = (W.alloc (.cells (c.setIfInBounds i v) T)).drewN n := by
  have h : ((W.alloc (.cells c T)).drewN n).setCell ⟨j, i, none⟩ v = ((W.alloc (.cells c T)).setCell ⟨j, i, none⟩ v).drewN n := rfl
  rw [h, World.setCell_alloc_at c T j i v hn]

/-- Complex numbers and tables of words. -/
structure Cx where
  re : Nat
  im : Nat

def Cx.v (z : Cx) : Value := .complex .f32 z.re z.im

def Cx.mul (z w : Cx) : Cx := ⟨pre z.re z.im w.re w.im, pim z.re z.im w.re w.im⟩

def Cx.add (z w : Cx) : Cx := ⟨sm z.re w.re, sm z.im w.im⟩

structure Tb where
  a : Cx
  b : Cx
  c : Cx
  d : Cx

def Tb.v (t : Tb) : Value := .agg #[t.a.v, t.b.v, t.c.v, t.d.v]

/-- The entry of a product. -/
def ent (z w z' w' : Cx) : Cx := (z.mul w).add (z'.mul w')

def Tb.mul (s t : Tb) : Tb := ⟨ent s.a t.a s.b t.c, ent s.a t.b s.b t.d, ent s.c t.a s.d t.c, ent s.c t.b s.d t.d⟩

def EntOk (z w z' w' : Cx) : Prop := ∃ k, Ab k z.re z.im w.re w.im z'.re z'.im w'.re w'.im

def MulOk (s t : Tb) : Prop := EntOk s.a t.a s.b t.c ∧ EntOk s.a t.b s.b t.d ∧ EntOk s.c t.a s.d t.c ∧ EntOk s.c t.b s.d t.d

/-- What the specification's entry walks over. -/
theorem ent_calls {z w z' w' : Cx} (h : EntOk z w z' w') :
    (∀ W, Calls Try.prog 41 #[z.v, w.v] W fun e W' => e = .returned (z.mul w).v ∧ W = W') ∧
    (∀ W, Calls Try.prog 41 #[z'.v, w'.v] W fun e W' => e = .returned (z'.mul w').v ∧ W = W') ∧
    (∀ W, Calls Try.prog 40 #[(z.mul w).v, (z'.mul w').v] W fun e W' => e = .returned (ent z w z' w').v ∧ W = W') := by
  obtain ⟨k, ⟨j, h1⟩, ⟨i, h2⟩, h3⟩ := h
  exact ⟨fun W => l01Times_any h1 W, fun W => l01Times_any h2 W, fun W => l01Add_any h3 W⟩

set_option maxRecDepth 100000 in
set_option maxHeartbeats 2000000 in
theorem l03Times_ok {s t : Tb} (h : MulOk s t) (w : World) :
    Calls Try.prog 25 #[s.v, t.v] w fun e w' => e = .returned (s.mul t).v ∧ Below w.heap.size w w' := by
  obtain ⟨h0, h1, h2, h3⟩ := h
  obtain ⟨p0, q0, s0⟩ := ent_calls h0
  obtain ⟨p1, q1, s1⟩ := ent_calls h1
  obtain ⟨p2, q2, s2⟩ := ent_calls h2
  obtain ⟨p3, q3, s3⟩ := ent_calls h3
  unfold Tb.v Tb.mul
  clear h0 h1 h2 h3
  generalize ent s.a t.a s.b t.c = e0 at *
  generalize ent s.a t.b s.b t.d = e1 at *
  generalize ent s.c t.a s.d t.c = e2 at *
  generalize ent s.c t.b s.d t.d = e3 at *
  generalize s.a.mul t.a = x0 at *
  generalize s.b.mul t.c = y0 at *
  generalize s.a.mul t.b = x1 at *
  generalize s.b.mul t.d = y1 at *
  generalize s.c.mul t.a = x2 at *
  generalize s.d.mul t.c = y2 at *
  generalize s.c.mul t.b = x3 at *
  generalize s.d.mul t.d = y3 at *
  obtain ⟨⟨a0, a1⟩, ⟨a2, a3⟩, ⟨a4, a5⟩, ⟨a6, a7⟩⟩ := s
  obtain ⟨⟨b0, b1⟩, ⟨b2, b3⟩, ⟨b4, b5⟩, ⟨b6, b7⟩⟩ := t
  simp only [Cx.v] at *
  obtain ⟨x0r, x0i⟩ := x0
  obtain ⟨x1r, x1i⟩ := x1
  obtain ⟨x2r, x2i⟩ := x2
  obtain ⟨x3r, x3i⟩ := x3
  obtain ⟨y0r, y0i⟩ := y0
  obtain ⟨y1r, y1i⟩ := y1
  obtain ⟨y2r, y2i⟩ := y2
  obtain ⟨y3r, y3i⟩ := y3
  obtain ⟨e0r, e0i⟩ := e0
  obtain ⟨e1r, e1i⟩ := e1
  obtain ⟨e2r, e2i⟩ := e2
  obtain ⟨e3r, e3i⟩ := e3
  simp only at *
  have P0 := Lib.hid p0
  have P1 := Lib.hid p1
  have P2 := Lib.hid p2
  have P3 := Lib.hid p3
  have Q0 := Lib.hid q0
  have Q1 := Lib.hid q1
  have Q2 := Lib.hid q2
  have Q3 := Lib.hid q3
  have S0 := Lib.hid s0
  have S1 := Lib.hid s1
  have S2 := Lib.hid s2
  have S3 := Lib.hid s3
  clear p0 p1 p2 p3 q0 q1 q2 q3 s0 s1 s2 s3
  go_enter Try.func25, Try.ntmps25
  go_wp2
  generalize hW0 : (((w.alloc (.cells #[.complex .f32 a0 a1, .complex .f32 a2 a3, .complex .f32 a4 a5, .complex .f32 a6 a7] 47)).alloc (.cells #[.complex .f32 b0 b1, .complex .f32 b2 b3, .complex .f32 b4 b5, .complex .f32 b6 b7] 47)).alloc (.cells #[.complex .f32 0 0, .complex .f32 0 0, .complex .f32 0 0, .complex .f32 0 0] 47)) = W0
  have hs : W0.heap.size = w.heap.size + 1 + 1 + 1 := by subst hW0; simp
  go_loopw [6] (fun i wr => ∃ n, (i = .int .i64 0 ∧ wr = (W0.alloc (.cells #[.complex .f32 0 0, .complex .f32 0 0, .complex .f32 0 0, .complex .f32 0 0] 47)).drewN n) ∨ (i = .int .i64 1 ∧ wr = (W0.alloc (.cells #[.complex .f32 e0r e0i, .complex .f32 e1r e1i, .complex .f32 0 0, .complex .f32 0 0] 47)).drewN n) ∨ (i = .int .i64 2 ∧ wr = (W0.alloc (.cells #[.complex .f32 e0r e0i, .complex .f32 e1r e1i, .complex .f32 e2r e2i, .complex .f32 e3r e3i] 47)).drewN n)) (fun i _ => 2 - (intOf i).toNat)
  case atStart => exact ⟨0, .inl ⟨rfl, rfl⟩⟩
  case round =>
    obtain ⟨n, ⟨rfl, rfl⟩ | ⟨rfl, rfl⟩ | ⟨rfl, rfl⟩⟩ := hrel
    · go_wp2
      go_loopw [7] (fun j wr => ∃ n, (j = .int .i64 0 ∧ wr = (W0.alloc (.cells #[.complex .f32 0 0, .complex .f32 0 0, .complex .f32 0 0, .complex .f32 0 0] 47)).drewN n) ∨ (j = .int .i64 1 ∧ wr = (W0.alloc (.cells #[.complex .f32 e0r e0i, .complex .f32 0 0, .complex .f32 0 0, .complex .f32 0 0] 47)).drewN n) ∨ (j = .int .i64 2 ∧ wr = (W0.alloc (.cells #[.complex .f32 e0r e0i, .complex .f32 e1r e1i, .complex .f32 0 0, .complex .f32 0 0] 47)).drewN n)) (fun j _ => 2 - (intOf j).toNat)
      case atStart => exact ⟨n, .inl ⟨rfl, rfl⟩⟩
      case round =>
        clear n
        obtain ⟨n, ⟨rfl, rfl⟩ | ⟨rfl, rfl⟩ | ⟨rfl, rfl⟩⟩ := hrel
        · subst hW0
          go_wp2
          refine still_tail 23 (by kernel_rfl) (by kernel_rfl) ?_
          simp only [List.take_succ_cons, List.take_zero, List.drop_succ_cons, List.drop_zero]
          iterate 10 still_step
          still_call ((P0.out _).mono (by rintro e w' ⟨rfl, rfl⟩; exact ⟨rfl, rfl⟩))
          iterate 8 still_step
          still_call ((Q0.out _).mono (by rintro e w' ⟨rfl, rfl⟩; exact ⟨rfl, rfl⟩))
          still_call ((S0.out _).mono (by rintro e w' ⟨rfl, rfl⟩; exact ⟨rfl, rfl⟩))
          iterate 2 still_step
          refine wpStill_nil ?_
          go_wp2
          go_roundw
          case rel => exact ⟨n + 1, .inr (.inl ⟨by go_num, (put_new _ _ _ _ _ _ _ (by simp)).trans rfl⟩)⟩
          case measure => simp [intOf]
        · subst hW0
          go_wp2
          refine still_tail 23 (by kernel_rfl) (by kernel_rfl) ?_
          simp only [List.take_succ_cons, List.take_zero, List.drop_succ_cons, List.drop_zero]
          iterate 10 still_step
          still_call ((P1.out _).mono (by rintro e w' ⟨rfl, rfl⟩; exact ⟨rfl, rfl⟩))
          iterate 8 still_step
          still_call ((Q1.out _).mono (by rintro e w' ⟨rfl, rfl⟩; exact ⟨rfl, rfl⟩))
          still_call ((S1.out _).mono (by rintro e w' ⟨rfl, rfl⟩; exact ⟨rfl, rfl⟩))
          iterate 2 still_step
          refine wpStill_nil ?_
          go_wp2
          go_roundw
          case rel => exact ⟨n + 1, .inr (.inr ⟨by go_num, (put_new _ _ _ _ _ _ _ (by simp)).trans rfl⟩)⟩
          case measure => simp [intOf]
        · go_wp2
          go_roundw
          case rel => exact ⟨n, .inr (.inl ⟨by go_num, rfl⟩)⟩
          case measure => simp [intOf]
    · go_wp2
      go_loopw [7] (fun j wr => ∃ n, (j = .int .i64 0 ∧ wr = (W0.alloc (.cells #[.complex .f32 e0r e0i, .complex .f32 e1r e1i, .complex .f32 0 0, .complex .f32 0 0] 47)).drewN n) ∨ (j = .int .i64 1 ∧ wr = (W0.alloc (.cells #[.complex .f32 e0r e0i, .complex .f32 e1r e1i, .complex .f32 e2r e2i, .complex .f32 0 0] 47)).drewN n) ∨ (j = .int .i64 2 ∧ wr = (W0.alloc (.cells #[.complex .f32 e0r e0i, .complex .f32 e1r e1i, .complex .f32 e2r e2i, .complex .f32 e3r e3i] 47)).drewN n)) (fun j _ => 2 - (intOf j).toNat)
      case atStart => exact ⟨n, .inl ⟨rfl, rfl⟩⟩
      case round =>
        clear n
        obtain ⟨n, ⟨rfl, rfl⟩ | ⟨rfl, rfl⟩ | ⟨rfl, rfl⟩⟩ := hrel
        · subst hW0
          go_wp2
          refine still_tail 23 (by kernel_rfl) (by kernel_rfl) ?_
          simp only [List.take_succ_cons, List.take_zero, List.drop_succ_cons, List.drop_zero]
          iterate 10 still_step
          still_call ((P2.out _).mono (by rintro e w' ⟨rfl, rfl⟩; exact ⟨rfl, rfl⟩))
          iterate 8 still_step
          still_call ((Q2.out _).mono (by rintro e w' ⟨rfl, rfl⟩; exact ⟨rfl, rfl⟩))
          still_call ((S2.out _).mono (by rintro e w' ⟨rfl, rfl⟩; exact ⟨rfl, rfl⟩))
          iterate 2 still_step
          refine wpStill_nil ?_
          go_wp2
          go_roundw
          case rel => exact ⟨n + 1, .inr (.inl ⟨by go_num, (put_new _ _ _ _ _ _ _ (by simp)).trans rfl⟩)⟩
          case measure => simp [intOf]
        · subst hW0
          go_wp2
          refine still_tail 23 (by kernel_rfl) (by kernel_rfl) ?_
          simp only [List.take_succ_cons, List.take_zero, List.drop_succ_cons, List.drop_zero]
          iterate 10 still_step
          still_call ((P3.out _).mono (by rintro e w' ⟨rfl, rfl⟩; exact ⟨rfl, rfl⟩))
          iterate 8 still_step
          still_call ((Q3.out _).mono (by rintro e w' ⟨rfl, rfl⟩; exact ⟨rfl, rfl⟩))
          still_call ((S3.out _).mono (by rintro e w' ⟨rfl, rfl⟩; exact ⟨rfl, rfl⟩))
          iterate 2 still_step
          refine wpStill_nil ?_
          go_wp2
          go_roundw
          case rel => exact ⟨n + 1, .inr (.inr ⟨by go_num, (put_new _ _ _ _ _ _ _ (by simp)).trans rfl⟩)⟩
          case measure => simp [intOf]
        · go_wp2
          go_roundw
          case rel => exact ⟨n, .inr (.inr ⟨by go_num, rfl⟩)⟩
          case measure => simp [intOf]
    · subst hW0
      go_wp2
      refine bodyPost_ret (v := .agg #[.complex .f32 e0r e0i, .complex .f32 e1r e1i, .complex .f32 e2r e2i, .complex .f32 e3r e3i]) (by simp [results, Try.results25, go_sem, hs]) rfl ⟨rfl, ?_⟩
      all_goals repeat first
        | exact Below.refl _ _
        | refine Below.alloc ?_ ?_ _
        | refine below_drewN ?_ _
        | refine Below.setCell ?_ ?_ _
      all_goals first | omega | (simp; done) | (simp; omega)

end Go.Proofs.Ytaghfffbhgpalaa
