/- Walks: drifts of tables, those of the program. -/
import Derived.Test.YtlebkkbbjnkjoaaDr
import Derived.Test.YtlebkkbbjnkjoaaTm
import Derived.Test.YtlebkkbbjnkjoaaArr
namespace Go.Proofs.Ytlebkkbbjnkjoaa
open Go.RowKit

theorem eql_spinor0 (w : World) :
    (binOp .eql 53 (.agg #[.complex .f32 0 0, .complex .f32 0 0]) (.agg #[.complex .f32 0 0, .complex .f32 0 0])).run Try.prog w = .ok (.bool true) w := by
  rw [run_eql_struct]
  rw [run_equalIn_array w 9999 2 1 53 24 _ _ Try.underlying53 (by kernel_rfl)]
  have h0 : ∀ (x y : Value) (w : World), (part 24 #[.complex .f32 0 0, .complex .f32 0 0] (0 * 1)).run Try.prog w = .ok (.complex .f32 0 0) w := fun _ _ _ => by kernel_rfl
  have h1 : ∀ (x y : Value) (w : World), (part 24 #[.complex .f32 0 0, .complex .f32 0 0] (1 * 1)).run Try.prog w = .ok (.complex .f32 0 0) w := fun _ _ _ => by kernel_rfl
  have ho : (FloatKind.f32.format.order 0 0 == some .eq) = true := by decide +kernel
  have he : ∀ (w : World), (Op.equalIn 9999 24 (.complex .f32 0 0) (.complex .f32 0 0)).run Try.prog w = .ok true w := fun w => by
    rw [run_equalIn_complex w 9998 24 .f32 .f32 0 0 0 0 Try.underlying24, ho]; rfl
  show ((eqElems 9999 24 1 _ _ [0, 1]).run Try.prog w).andThen _ = _
  simp only [eqElems, Sem.run_bind, h0 undef undef, h1 undef undef, Result.andThen_ok, he, Sem.run_ite, Sem.run_pure]
  rfl

set_option maxHeartbeats 1000000 in
theorem isSpinor_ok {x y : Cx} (hx : CF x) (hy : CF y) (w : World) : Calls Try.prog 99 #[pair x y] w fun e w' => e = .returned (.bool true) ∧ Below w.heap.size w w' := by
  have s1 : ∀ t w, (binOp .sub t (.complex .f32 x.re x.im) (.complex .f32 x.re x.im)).run Try.prog w = .ok (.complex .f32 0 0) w := fun t w =>
    run_complex_sum w .sub (.inr rfl) t .f32 _ _ _ _ _ _ (by unfold cSumBits; rw [less_self _ hx.1.1 hx.1.2, less_self _ hx.2.1 hx.2.2]; rfl)
  have s2 : ∀ t w, (binOp .sub t (.complex .f32 y.re y.im) (.complex .f32 y.re y.im)).run Try.prog w = .ok (.complex .f32 0 0) w := fun t w =>
    run_complex_sum w .sub (.inr rfl) t .f32 _ _ _ _ _ _ (by unfold cSumBits; rw [less_self _ hy.1.1 hy.1.2, less_self _ hy.2.1 hy.2.2]; rfl)
  have q := eql_spinor0
  clear hx hy
  obtain ⟨a, b⟩ := x
  obtain ⟨c, d⟩ := y
  unfold pair
  simp only [Cx.v] at *
  go_enter Try.func99, Try.ntmps99
  go_wp2_with (simp only [s1, s2, q])
  go_ret
  exact ⟨rfl, (Below.refl _ _).alloc (Nat.le_refl _) _⟩

set_option maxHeartbeats 1000000 in
theorem isTable_ok {t : Tb} (h : TF t) (w : World) : Calls Try.prog 73 #[t.v] w fun e w' => e = .returned (.bool true) ∧ Below w.heap.size w w' := by
  have A := Lib.hid (fun w => isSpinor_ok h.1 h.2.1 w)
  have B := Lib.hid (fun w => isSpinor_ok h.2.2.1 h.2.2.2 w)
  clear h
  obtain ⟨⟨a0, a1⟩, ⟨a2, a3⟩, ⟨a4, a5⟩, ⟨a6, a7⟩⟩ := t
  unfold Tb.v
  unfold pair at *
  simp only [Cx.v] at *
  go_enter Try.func73, Try.ntmps73
  go_wp2_with fail
  refine (A.out _).mono ?_
  rintro e w1 ⟨rfl, hb1⟩
  have hb2 : Tab1 w w1 (.complex .f32 a0 a1) (.complex .f32 a2 a3) (.complex .f32 a4 a5) (.complex .f32 a6 a7) := tab1_call0 hb1 (Below.refl _ _)
  obtain ⟨c0, c1, c2, c3⟩ := tab1_cells hb2
  have HB := Lib.hid hb2
  clear hb1 hb2
  go_wp2_with fail
  refine (B.out _).mono ?_
  rintro e w2 ⟨rfl, hb1⟩
  have hb2 : Tab1 w w2 (.complex .f32 a0 a1) (.complex .f32 a2 a3) (.complex .f32 a4 a5) (.complex .f32 a6 a7) := tab1_call0 hb1 HB.out
  have HC := Lib.hid hb2
  clear hb1 hb2
  go_wp2_with fail
  go_ret
  exact ⟨rfl, tab1_below HC.out⟩

theorem numberOrLimit_ok (a : Nat) (w : World) (ha : a < 4294967296) (fa : fin a = true) :
    Calls Try.prog 70 #[.float .f32 a] w fun e w' => e = .returned (.tuple #[.float .f32 a, .int .i64 0]) ∧ w = w' := by
  have A := Lib.hid (fun w => isNumber_any a w ha)
  rw [fa] at A
  clear ha fa
  go_enter Try.func70, Try.ntmps70
  go_wp2_with fail
  refine (A.out _).mono ?_
  rintro e w' ⟨rfl, rfl⟩
  go_wp2_with fail
  go_ret2
  exact ⟨rfl, rfl⟩

set_option maxHeartbeats 1000000 in
theorem implSquare_ok {z : Cx} {k : Nat} (h : CB k z) (hk : 2 * k + 1 ≤ 127) (w : World) :
    Calls Try.prog 118 #[z.v] w fun e w' => e = .returned (.tuple #[.float .f32 (nsq z), .int .i64 0]) ∧ w = w' := by
  obtain ⟨⟨va, vb, ha, hb, g⟩, hB⟩ := sq_ok h hk
  have A := Lib.hid (fun w => isComplex_any z.re z.im w (vl_num ha).1 (vl_num hb).1)
  rw [(vl_num ha).2, (vl_num hb).2] at A
  have O := Lib.hid (fun w => numberOrLimit_ok (nsq z) w hB.1 (bd_fin hB (by omega)))
  have ca := fun w => cv_wd ha w
  have cb := fun w => cv_wd hb w
  have m1 : ∀ t w, (binOp .mul t (.float .f64 (wd z.re)) (.float .f64 (wd z.re))).run Try.prog w = .ok (.float .f64 (mu (wd z.re) (wd z.re))) w := fun t w => run_float_arith w .mul t .f64 _ _ _ (mu_ok ha ha)
  have m2 : ∀ t w, (binOp .mul t (.float .f64 (wd z.im)) (.float .f64 (wd z.im))).run Try.prog w = .ok (.float .f64 (mu (wd z.im) (wd z.im))) w := fun t w => run_float_arith w .mul t .f64 _ _ _ (mu_ok hb hb)
  have s : ∀ t w, (binOp .add t (.float .f64 (mu (wd z.re) (wd z.re))) (.float .f64 (mu (wd z.im) (wd z.im)))).run Try.prog w = .ok (.float .f64 (ad (mu (wd z.re) (wd z.re)) (mu (wd z.im) (wd z.im)))) w := fun t w => run_float_arith w .add t .f64 _ _ _ (ad_ok ha ha hb hb)
  have n : ∀ w, (convert 141 22 (.float .f64 (ad (mu (wd z.re) (wd z.re)) (mu (wd z.im) (wd z.im))))).run Try.prog w = .ok (.float .f32 (nsq z)) w := fun w => cv_nr (ex_ok _ ha ha hb hb (by omega) (by omega) g).1 w
  clear ha hb h g hB
  generalize nsq z = r at *
  obtain ⟨a, b⟩ := z
  unfold Cx.v
  simp only at *
  generalize ad (mu (wd a) (wd a)) (mu (wd b) (wd b)) = t at *
  generalize mu (wd a) (wd a) = x at *
  generalize mu (wd b) (wd b) = y at *
  generalize wd a = A' at *
  generalize wd b = B' at *
  go_enter Try.func118, Try.ntmps118
  go_wp2_with fail
  refine (A.out _).mono ?_
  rintro e w' ⟨rfl, rfl⟩
  go_wp2_with (first | simp only [m1, m2, s] | fail)
  refine (O.out _).mono ?_
  rintro e w' ⟨rfl, rfl⟩
  go_wp2_with fail
  go_ret2
  exact ⟨rfl, rfl⟩
end Go.Proofs.Ytlebkkbbjnkjoaa
