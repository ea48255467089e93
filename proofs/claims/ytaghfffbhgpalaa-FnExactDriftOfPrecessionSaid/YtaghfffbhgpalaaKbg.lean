/- Walks: products of tables, those of the program. Walks: drifts of tables, those of the program. Walks: drifts of tables, those of the program; they are those of the specification. -/
import Derived.Test.YtaghfffbhgpalaaKah
import Derived.Test.YtaghfffbhgpalaaDr
import Derived.Test.YtaghfffbhgpalaaKal
namespace Go.Proofs.Ytaghfffbhgpalaa
open Go.RowKit

def pair (z w : Cx) : Value := .agg #[z.v, w.v]

/-- What the program's entry walks over. -/
theorem ent_add {z w z' w' : Cx} (h : EntOk z w z' w') (W : World) :
    Calls Try.prog 62 #[z.v, w.v, z'.v, w'.v] W fun e W' => e = .returned (.tuple #[(ent z w z' w').v, .int .i64 0]) ∧ W = W' := by
  obtain ⟨k, h⟩ := h
  exact addProducts_ok h W

set_option maxRecDepth 100000 in
set_option maxHeartbeats 2000000 in
theorem apply_ok {s : Tb} {x y : Cx} (h0 : EntOk s.a x s.b y) (h1 : EntOk s.c x s.d y) (w : World) :
    Calls Try.prog 57 #[s.v, pair x y] w fun e w' => e = .returned (.tuple #[pair (ent s.a x s.b y) (ent s.c x s.d y), .int .i64 0]) ∧ Below w.heap.size w w' := by
  have p0 := ent_add h0
  have p1 := ent_add h1
  unfold pair Tb.v
  clear h0 h1
  generalize ent s.a x s.b y = e0 at *
  generalize ent s.c x s.d y = e1 at *
  obtain ⟨⟨a0, a1⟩, ⟨a2, a3⟩, ⟨a4, a5⟩, ⟨a6, a7⟩⟩ := s
  obtain ⟨xr, xi⟩ := x
  obtain ⟨yr, yi⟩ := y
  obtain ⟨e0r, e0i⟩ := e0
  obtain ⟨e1r, e1i⟩ := e1
  simp only [Cx.v] at *
  have P0 := Lib.hid p0
  have P1 := Lib.hid p1
  clear p0 p1
  have hmk : ∀ w, (Instr.makeSlice 91 (.int .i64 0) (.int .i64 2)).run Try.prog w = .ok (.slice (some ⟨w.heap.size, 0, none⟩) 0 2) (w.alloc (.cells #[.complex .f32 0 0, .complex .f32 0 0] 44)) := fun _ => by kernel_rfl
  have hi0 : ∀ w, (Instr.index 47 (.agg #[.complex .f32 a0 a1, .complex .f32 a2 a3, .complex .f32 a4 a5, .complex .f32 a6 a7]) (.int .i64 0)).run Try.prog w = .ok (.agg #[.complex .f32 a0 a1, .complex .f32 a2 a3]) w := fun _ => by kernel_rfl
  have hi1 : ∀ w, (Instr.index 47 (.agg #[.complex .f32 a0 a1, .complex .f32 a2 a3, .complex .f32 a4 a5, .complex .f32 a6 a7]) (.int .i64 1)).run Try.prog w = .ok (.agg #[.complex .f32 a4 a5, .complex .f32 a6 a7]) w := fun _ => by kernel_rfl
  have hat : ∀ (b : Nat) w, (Instr.arrayAt 85 (.slice (some ⟨b, 0, none⟩) 2 2)).run Try.prog w = .ok (.pointer (some ⟨b, 0, none⟩)) w := fun _ _ => by kernel_rfl
  go_enter Try.func57, Try.ntmps57
  go_wp2
  generalize hW0 : (((w.alloc (.cells #[.complex .f32 a0 a1, .complex .f32 a2 a3, .complex .f32 a4 a5, .complex .f32 a6 a7] 47)).alloc (.cells #[.complex .f32 xr xi, .complex .f32 yr yi] 85)).alloc (.cells #[.complex .f32 0 0, .complex .f32 0 0] 85)) = W0
  have hs : W0.heap.size = w.heap.size + 1 + 1 + 1 := by subst hW0; simp
  go_loopw [6, 13] (fun s i wr => (i = .int .i64 0 ∧ s = .slice (some ⟨w.heap.size + 1 + 1 + 1, 0, none⟩) 0 2 ∧ wr = W0.alloc (.cells #[.complex .f32 0 0, .complex .f32 0 0] 44)) ∨
    (i = .int .i64 1 ∧ s = .slice (some ⟨w.heap.size + 1 + 1 + 1, 0, none⟩) 1 2 ∧ wr = ((W0.alloc (.cells #[.complex .f32 e0r e0i, .complex .f32 0 0] 44)).alloc (.cells #[.complex .f32 a0 a1, .complex .f32 a2 a3] 45)).alloc (.cells #[.complex .f32 e0r e0i] 44)) ∨
    (i = .int .i64 2 ∧ s = .slice (some ⟨w.heap.size + 1 + 1 + 1, 0, none⟩) 2 2 ∧ wr = ((((W0.alloc (.cells #[.complex .f32 e0r e0i, .complex .f32 e1r e1i] 44)).alloc (.cells #[.complex .f32 a0 a1, .complex .f32 a2 a3] 45)).alloc (.cells #[.complex .f32 e0r e0i] 44)).alloc (.cells #[.complex .f32 a4 a5, .complex .f32 a6 a7] 45)).alloc (.cells #[.complex .f32 e1r e1i] 44))) (fun _ i _ => 2 - (intOf i).toNat)
  case atStart => exact .inl ⟨rfl, rfl, rfl⟩
  case round =>
    clear hs
    rcases hrel with ⟨rfl, rfl, rfl⟩ | ⟨rfl, rfl, rfl⟩ | ⟨rfl, rfl, rfl⟩
    · subst hW0
      go_wp2_with fail
      refine (P0.out _).mono ?_
      rintro e w' ⟨rfl, rfl⟩
      go_wp2_with fail
      go_roundw
      case rel => exact .inr (.inl ⟨by go_num, rfl, by first | rfl | trivial⟩)
      case measure => simp [intOf]
    · subst hW0
      go_wp2_with fail
      refine (P1.out _).mono ?_
      rintro e w' ⟨rfl, rfl⟩
      go_wp2_with fail
      go_roundw
      case rel => exact .inr (.inr ⟨by go_num, rfl, by first | rfl | trivial⟩)
      case measure => simp [intOf]
    · subst hW0
      go_wp2_with fail
      refine bodyPost_ret (v := .tuple #[.agg #[.complex .f32 e0r e0i, .complex .f32 e1r e1i], .int .i64 0]) (by simp [results, Try.results57, go_sem]) rfl ⟨rfl, ?_⟩
      all_goals repeat first
        | exact Below.refl _ _
        | refine Below.alloc ?_ ?_ _
        | refine Below.setCell ?_ ?_ _
      all_goals first | omega | (simp; done) | (simp; omega)

end Go.Proofs.Ytaghfffbhgpalaa

namespace Go.Proofs.Ytaghfffbhgpalaa
open Go.RowKit

theorem eql_spinor0 (w : World) :
    (binOp .eql 85 (.agg #[.complex .f32 0 0, .complex .f32 0 0]) (.agg #[.complex .f32 0 0, .complex .f32 0 0])).run Try.prog w = .ok (.bool true) w := by
  rw [run_eql_struct]
  rw [run_equalIn_array w 9999 2 1 85 44 _ _ Try.underlying85 (by kernel_rfl)]
  have h0 : ∀ (x y : Value) (w : World), (part 44 #[.complex .f32 0 0, .complex .f32 0 0] (0 * 1)).run Try.prog w = .ok (.complex .f32 0 0) w := fun _ _ _ => by kernel_rfl
  have h1 : ∀ (x y : Value) (w : World), (part 44 #[.complex .f32 0 0, .complex .f32 0 0] (1 * 1)).run Try.prog w = .ok (.complex .f32 0 0) w := fun _ _ _ => by kernel_rfl
  have ho : (FloatKind.f32.format.order 0 0 == some .eq) = true := by decide +kernel
  have he : ∀ (w : World), (Op.equalIn 9999 44 (.complex .f32 0 0) (.complex .f32 0 0)).run Try.prog w = .ok true w := fun w => by
    rw [run_equalIn_complex w 9998 44 .f32 .f32 0 0 0 0 Try.underlying44, ho]; rfl
  show ((eqElems 9999 44 1 _ _ [0, 1]).run Try.prog w).andThen _ = _
  simp only [eqElems, Sem.run_bind, h0 undef undef, h1 undef undef, Result.andThen_ok, he, Sem.run_ite, Sem.run_pure]
  rfl

set_option maxHeartbeats 1000000 in
theorem isSpinor_ok {x y : Cx} (hx : CF x) (hy : CF y) (w : World) : Calls Try.prog 68 #[pair x y] w fun e w' => e = .returned (.bool true) ∧ Below w.heap.size w w' := by
  have s1 : ∀ t w, (binOp .sub t (.complex .f32 x.re x.im) (.complex .f32 x.re x.im)).run Try.prog w = .ok (.complex .f32 0 0) w := fun t w =>
    run_complex_sum w .sub (.inr rfl) t .f32 _ _ _ _ _ _ (by unfold cSumBits; rw [less_self _ hx.1.1 hx.1.2, less_self _ hx.2.1 hx.2.2]; rfl)
  have s2 : ∀ t w, (binOp .sub t (.complex .f32 y.re y.im) (.complex .f32 y.re y.im)).run Try.prog w = .ok (.complex .f32 0 0) w := fun t w =>
    run_complex_sum w .sub (.inr rfl) t .f32 _ _ _ _ _ _ (by unfold cSumBits; rw [less_self _ hy.1.1 hy.1.2, less_self _ hy.2.1 hy.2.2]; rfl)
  have q := eql_spinor0
  clear hx hy
  obtain ⟨a, b⟩ := x
  obtain ⟨c, d⟩ := y
  unfold pair
  simp only [Cx.v] at *
  go_enter Try.func68, Try.ntmps68
  go_wp2_with (simp only [s1, s2, q])
  go_ret
  exact ⟨rfl, (Below.refl _ _).alloc (Nat.le_refl _) _⟩

set_option maxHeartbeats 1000000 in
theorem isTable_ok {t : Tb} (h : TF t) (w : World) : Calls Try.prog 63 #[t.v] w fun e w' => e = .returned (.bool true) ∧ Below w.heap.size w w' := by
  have A := Lib.hid (fun w => isSpinor_ok h.1 h.2.1 w)
  have B := Lib.hid (fun w => isSpinor_ok h.2.2.1 h.2.2.2 w)
  clear h
  obtain ⟨⟨a0, a1⟩, ⟨a2, a3⟩, ⟨a4, a5⟩, ⟨a6, a7⟩⟩ := t
  unfold Tb.v
  unfold pair at *
  simp only [Cx.v] at *
  go_enter Try.func63, Try.ntmps63
  go_wp2_with fail
  refine (A.out _).mono ?_
  rintro e w1 ⟨rfl, hb1⟩
  have hb2 : Tab1 w w1 (.complex .f32 a0 a1) (.complex .f32 a2 a3) (.complex .f32 a4 a5) (.complex .f32 a6 a7) := tab1_call0 hb1 (Below.refl _ _)
  obtain ⟨c0, c1, c2, c3⟩ := tab1_cells hb2
  have HB := Lib.hid hb2
  clear hb1 hb2
  go_wp2_with fail
  refine (B.out _).mono ?_
  rintro e w2 ⟨rfl, hb1⟩
  have hb2 : Tab1 w w2 (.complex .f32 a0 a1) (.complex .f32 a2 a3) (.complex .f32 a4 a5) (.complex .f32 a6 a7) := tab1_call0 hb1 HB.out
  have HC := Lib.hid hb2
  clear hb1 hb2
  go_wp2_with fail
  go_ret
  exact ⟨rfl, tab1_below HC.out⟩

theorem numberOrLimit_ok (a : Nat) (w : World) (ha : a < 4294967296) (fa : fin a = true) :
    Calls Try.prog 50 #[.float .f32 a] w fun e w' => e = .returned (.tuple #[.float .f32 a, .int .i64 0]) ∧ w = w' := by
  have A := Lib.hid (fun w => isNumber_any a w ha)
  rw [fa] at A
  clear ha fa
  go_enter Try.func50, Try.ntmps50
  go_wp2_with fail
  refine (A.out _).mono ?_
  rintro e w' ⟨rfl, rfl⟩
  go_wp2_with fail
  go_ret2
  exact ⟨rfl, rfl⟩

set_option maxHeartbeats 1000000 in
theorem implSquare_ok {z : Cx} {k : Nat} (h : CB k z) (hk : 2 * k + 1 ≤ 127) (w : World) :
    Calls Try.prog 69 #[z.v] w fun e w' => e = .returned (.tuple #[.float .f32 (nsq z), .int .i64 0]) ∧ w = w' := by
  obtain ⟨⟨va, vb, ha, hb, g⟩, hB⟩ := sq_ok h hk
  have A := Lib.hid (fun w => isComplex_any z.re z.im w (vl_num ha).1 (vl_num hb).1)
  rw [(vl_num ha).2, (vl_num hb).2] at A
  have O := Lib.hid (fun w => numberOrLimit_ok (nsq z) w hB.1 (bd_fin hB (by omega)))
  have ca := fun w => cv_wd ha w
  have cb := fun w => cv_wd hb w
  have m1 : ∀ t w, (binOp .mul t (.float .f64 (wd z.re)) (.float .f64 (wd z.re))).run Try.prog w = .ok (.float .f64 (mu (wd z.re) (wd z.re))) w := fun t w => run_float_arith w .mul t .f64 _ _ _ (mu_ok ha ha)
  have m2 : ∀ t w, (binOp .mul t (.float .f64 (wd z.im)) (.float .f64 (wd z.im))).run Try.prog w = .ok (.float .f64 (mu (wd z.im) (wd z.im))) w := fun t w => run_float_arith w .mul t .f64 _ _ _ (mu_ok hb hb)
  have s : ∀ t w, (binOp .add t (.float .f64 (mu (wd z.re) (wd z.re))) (.float .f64 (mu (wd z.im) (wd z.im)))).run Try.prog w = .ok (.float .f64 (ad (mu (wd z.re) (wd z.re)) (mu (wd z.im) (wd z.im)))) w := fun t w => run_float_arith w .add t .f64 _ _ _ (ad_ok ha ha hb hb)
  have n : ∀ w, (convert 58 22 (.float .f64 (ad (mu (wd z.re) (wd z.re)) (mu (wd z.im) (wd z.im))))).run Try.prog w = .ok (.float .f32 (nsq z)) w := fun w => cv_nr (ex_ok _ ha ha hb hb (by omega) (by omega) g).1 w
  clear ha hb h g hB
  generalize nsq z = r at *
  obtain ⟨a, b⟩ := z
  unfold Cx.v
  simp only at *
  generalize ad (mu (wd a) (wd a)) (mu (wd b) (wd b)) = t at *
  generalize mu (wd a) (wd a) = x at *
  generalize mu (wd b) (wd b) = y at *
  generalize wd a = A' at *
  generalize wd b = B' at *
  go_enter Try.func69, Try.ntmps69
  go_wp2_with fail
  refine (A.out _).mono ?_
  rintro e w' ⟨rfl, rfl⟩
  go_wp2_with (first | simp only [m1, m2, s] | fail)
  refine (O.out _).mono ?_
  rintro e w' ⟨rfl, rfl⟩
  go_wp2_with fail
  go_ret2
  exact ⟨rfl, rfl⟩

end Go.Proofs.Ytaghfffbhgpalaa

namespace Go.Proofs.Ytaghfffbhgpalaa
open Go.RowKit

set_option maxHeartbeats 1000000 in
theorem squaresOf_ok {x y : Cx} {k : Nat} (hx : CB k x) (hy : CB k y) (hk : 2 * k + 1 ≤ 127) (w : World) :
    Calls Try.prog 64 #[pair x y] w fun e w' => e = .returned (.tuple #[.float .f32 (nsq x), .float .f32 (nsq y), .int .i64 0]) ∧ Below w.heap.size w w' := by
  have I := Lib.hid (fun w => isSpinor_ok (cb_cf hx (by omega)) (cb_cf hy (by omega)) w)
  have A := Lib.hid (fun w => implSquare_ok hx hk w)
  have B := Lib.hid (fun w => implSquare_ok hy hk w)
  clear hx hy
  generalize nsq x = p at *
  generalize nsq y = q at *
  obtain ⟨a, b⟩ := x
  obtain ⟨c, d⟩ := y
  unfold pair at *
  simp only [Cx.v] at *
  go_enter Try.func64, Try.ntmps64
  go_wp2_with fail
  refine (I.out _).mono ?_
  rintro e w1 ⟨rfl, hb1⟩
  have hc : ∀ b' o, b' < w.heap.size + 1 → w1.cell? ⟨b', o, none⟩ = _ := fun b' o h => hb1.cell (p := ⟨b', o, none⟩) (by simpa using h)
  have c0 := hc w.heap.size 0 (by omega)
  have c1 := hc w.heap.size 1 (by omega)
  simp [go_sem] at c0 c1
  have hz : w.heap.size < w1.heap.size := by have := hb1.size; simp at this; omega
  have H := Lib.hid hb1
  clear hb1 hc
  go_wp2_with fail
  refine (A.out _).mono ?_
  rintro e w' ⟨rfl, rfl⟩
  go_wp2_with fail
  refine (B.out _).mono ?_
  rintro e w' ⟨rfl, rfl⟩
  go_wp2_with fail
  go_ret3
  exact ⟨rfl, (((Below.refl _ _).alloc (Nat.le_refl _) _).trans (H.out.mono (by simp)))⟩

set_option maxHeartbeats 1000000 in
theorem normSquare_ok {x y : Cx} {k : Nat} (hx : CB k x) (hy : CB k y) (hk : 2 * k + 2 ≤ 127) (w : World) :
    Calls Try.prog 59 #[pair x y] w fun e w' => e = .returned (.tuple #[.float .f32 (sm (nsq x) (nsq y)), .int .i64 0]) ∧ Below w.heap.size w w' := by
  have S := Lib.hid (fun w => squaresOf_ok hx hy (by omega) w)
  have hs := bd_sum (sq_ok hx (by omega)).2 (sq_ok hy (by omega)).2 (by omega)
  have s : ∀ t' w, (binOp .add t' (.float .f32 (nsq x)) (.float .f32 (nsq y))).run Try.prog w = .ok (.float .f32 (sm (nsq x) (nsq y))) w := fun t' w => run_float_arith w .add t' .f32 _ _ _ hs.1
  have O := Lib.hid (fun w => numberOrLimit_ok (sm (nsq x) (nsq y)) w hs.2.1 (bd_fin hs.2 (by omega)))
  clear hx hy hs
  generalize sm (nsq x) (nsq y) = r at *
  generalize nsq x = p at *
  generalize nsq y = q at *
  obtain ⟨a, b⟩ := x
  obtain ⟨c, d⟩ := y
  unfold pair at *
  simp only [Cx.v] at *
  go_enter Try.func59, Try.ntmps59
  go_wp2_with fail
  refine (S.out _).mono ?_
  rintro e w1 ⟨rfl, hb1⟩
  have H := Lib.hid hb1
  clear hb1
  go_wp2_with (first | simp only [s] | fail)
  refine (O.out _).mono ?_
  rintro e w' ⟨rfl, rfl⟩
  go_wp2_with fail
  go_ret2
  exact ⟨rfl, (((Below.refl _ _).alloc (Nat.le_refl _) _).trans (H.out.mono (by simp)))⟩

def Cx.neg (z : Cx) : Cx := ⟨Op.negFloat .f32 z.re, Op.negFloat .f32 z.im⟩

theorem cb_neg {k : Int} {z : Cx} (h : CB k z) : CB k z.neg := ⟨bd_neg h.1, bd_neg h.2⟩

/-- The determinant, as the program reckons it. -/
def detI (t : Tb) : Cx := ent t.a t.d t.b.neg t.c

theorem detI_ok {t : Tb} {k : Nat} (h : TB k t) (hk : 2 * k + 2 ≤ 127) : EntOk t.a t.d t.b.neg t.c ∧ CB ((2 * k + 2 : Nat) : Int) (detI t) := by
  obtain ⟨h1, h2, h3, h4⟩ := h
  have := ent_any h1 (cb_neg h2) h4 h3 (by omega)
  have e : k + k + 2 = 2 * k + 2 := by omega
  rw [e] at this
  exact this

set_option maxRecDepth 100000 in
set_option maxHeartbeats 1000000 in
theorem implDeterminant_ok {t : Tb} {k : Nat} (h : TB k t) (hk : 2 * k + 2 ≤ 127) (w : World) :
    Calls Try.prog 58 #[t.v] w fun e w' => e = .returned (.tuple #[(detI t).v, .int .i64 0]) ∧ Below w.heap.size w w' := by
  have T := Lib.hid (fun w => isTable_ok (tb_tf h (by omega)) w)
  have A := Lib.hid (fun w => ent_add (detI_ok h hk).1 w)
  unfold detI
  clear h
  generalize ent t.a t.d t.b.neg t.c = r at *
  obtain ⟨⟨a0, a1⟩, ⟨a2, a3⟩, ⟨a4, a5⟩, ⟨a6, a7⟩⟩ := t
  obtain ⟨r0, r1⟩ := r
  unfold Tb.v at *
  simp only [Cx.v, Cx.neg] at *
  go_enter Try.func58, Try.ntmps58
  go_wp2_with fail
  refine (T.out _).mono ?_
  rintro e w1 ⟨rfl, hb1⟩
  have hb2 : Tab1 w w1 (.complex .f32 a0 a1) (.complex .f32 a2 a3) (.complex .f32 a4 a5) (.complex .f32 a6 a7) := tab1_call0 hb1 (Below.refl _ _)
  obtain ⟨c0, c1, c2, c3⟩ := tab1_cells hb2
  have hz : w.heap.size < w1.heap.size := by have := hb2.size; simp at this; omega
  have HB := Lib.hid hb2
  clear hb1 hb2
  go_wp2_with fail
  refine (A.out _).mono ?_
  rintro e w' ⟨rfl, rfl⟩
  go_wp2_with fail
  go_ret2
  exact ⟨rfl, tab1_below HB.out⟩

end Go.Proofs.Ytaghfffbhgpalaa
