/- Walks: drifts of tables, those of the program; they are those of the specification. -/
import Derived.Test.YtaghfffbhgpalaaKbb
namespace Go.Proofs.Ytaghfffbhgpalaa
open Go.RowKit

set_option maxHeartbeats 1000000 in
theorem squaresOf_ok {x y : Cx} {k : Nat} (hx : CB k x) (hy : CB k y) (hk : 2 * k + 1 ≤ 127) (w : World) :
    Calls Try.prog 64 #[pair x y] w fun e w' => e = .returned (.tuple #[.float .f32 (nsq x), .float .f32 (nsq y), .int .i64 0]) ∧ Below w.heap.size w w' := by
  have I := Lib.hid (fun w => isSpinor_ok (cb_cf hx (by omega)) (cb_cf hy (by omega)) w)
  have A := Lib.hid (fun w => implSquare_ok hx hk w)
  have B := Lib.hid (fun w => implSquare_ok hy hk w)
  clear hx hy
  generalize nsq x = p at *
  generalize nsq y = q at *
  obtain ⟨a, b⟩ := x
  obtain ⟨c, d⟩ := y
  unfold pair at *
  simp only [Cx.v] at *
  go_enter Try.func64, Try.ntmps64
  go_wp2_with fail
  refine (I.out _).mono ?_
  rintro e w1 ⟨rfl, hb1⟩
  have hc : ∀ b' o, b' < w.heap.size + 1 → w1.cell? ⟨b', o, none⟩ = _ := fun b' o h => hb1.cell (p := ⟨b', o, none⟩) (by simpa using h)
  have c0 := hc w.heap.size 0 (by omega)
  have c1 := hc w.heap.size 1 (by omega)
  simp [go_sem] at c0 c1
  have hz : w.heap.size < w1.heap.size := by have := hb1.size; simp at this; omega
  have H := Lib.hid hb1
  clear hb1 hc
  go_wp2_with fail
  refine (A.out _).mono ?_
  rintro e w' ⟨rfl, rfl⟩
  go_wp2_with fail
  refine (B.out _).mono ?_
  rintro e w' ⟨rfl, rfl⟩
  go_wp2_with fail
  go_ret3
  exact ⟨rfl, (((Below.refl _ _).alloc (Nat.le_refl _) _).trans (H.out.mono (by simp)))⟩

set_option maxHeartbeats 1000000 in
theorem normSquare_ok {x y : Cx} {k : Nat} (hx : CB k x) (hy : CB k y) (hk : 2 * k + 2 ≤ 127) (w : World) :
    Calls Try.prog 59 #[pair x y] w fun e w' => e = .returned (.tuple #[.float .f32 (sm (nsq x) (nsq y)), .int .i64 0]) ∧ Below w.heap.size w w' := by
  have S := Lib.hid (fun w => squaresOf_ok hx hy (by omega) w)
  have hs := bd_sum (sq_ok hx (by omega)).2 (sq_ok hy (by omega)).2 (by omega)
  have s : ∀ t' w, (binOp .add t' (.float .f32 (nsq x)) (.float .f32 (nsq y))).run Try.prog w = .ok (.float .f32 (sm (nsq x) (nsq y))) w := fun t' w => run_float_arith w .add t' .f32 _ _ _ hs.1
  have O := Lib.hid (fun w => numberOrLimit_ok (sm (nsq x) (nsq y)) w hs.2.1 (bd_fin hs.2 (by omega)))
  clear hx hy hs
  generalize sm (nsq x) (nsq y) = r at *
  generalize nsq x = p at *
  generalize nsq y = q at *
  obtain ⟨a, b⟩ := x
  obtain ⟨c, d⟩ := y
  unfold pair at *
  simp only [Cx.v] at *
  go_enter Try.func59, Try.ntmps59
  go_wp2_with fail
  refine (S.out _).mono ?_
  rintro e w1 ⟨rfl, hb1⟩
  have H := Lib.hid hb1
  clear hb1
  go_wp2_with (first | simp only [s] | fail)
  refine (O.out _).mono ?_
  rintro e w' ⟨rfl, rfl⟩
  go_wp2_with fail
  go_ret2
  exact ⟨rfl, (((Below.refl _ _).alloc (Nat.le_refl _) _).trans (H.out.mono (by simp)))⟩

def Cx.neg (z : Cx) : Cx := ⟨Op.negFloat .f32 z.re, Op.negFloat .f32 z.im⟩

theorem cb_neg {k : Int} {z : Cx} (h : CB k z) : CB k z.neg := ⟨bd_neg h.1, bd_neg h.2⟩

/-- The determinant, as the program reckons it. -/
def detI (t : Tb) : Cx := ent t.a t.d t.b.neg t.c

theorem detI_ok {t : Tb} {k : Nat} (h : TB k t) (hk : 2 * k + 2 ≤ 127) : EntOk t.a t.d t.b.neg t.c ∧ CB ((2 * k + 2 : Nat) : Int) (detI t) := by
  obtain ⟨h1, h2, h3, h4⟩ := h
  have := ent_any h1 (cb_neg h2) h4 h3 (by omega)
  have e : k + k + 2 = 2 * k + 2 := by omega
  rw [e] at this
  exact this

set_option maxRecDepth 100000 in
set_option maxHeartbeats 1000000 in
theorem implDeterminant_ok {t : Tb} {k : Nat} (h : TB k t) (hk : 2 * k + 2 ≤ 127) (w : World) :
    Calls Try.prog 58 #[t.v] w fun e w' => e = .returned (.tuple #[(detI t).v, .int .i64 0]) ∧ Below w.heap.size w w' := by
  have T := Lib.hid (fun w => isTable_ok (tb_tf h (by omega)) w)
  have A := Lib.hid (fun w => ent_add (detI_ok h hk).1 w)
  unfold detI
  clear h
  generalize ent t.a t.d t.b.neg t.c = r at *
  obtain ⟨⟨a0, a1⟩, ⟨a2, a3⟩, ⟨a4, a5⟩, ⟨a6, a7⟩⟩ := t
  obtain ⟨r0, r1⟩ := r
  unfold Tb.v at *
  simp only [Cx.v, Cx.neg] at *
  go_enter Try.func58, Try.ntmps58
  go_wp2_with fail
  refine (T.out _).mono ?_
  rintro e w1 ⟨rfl, hb1⟩
  have hb2 : Tab1 w w1 (.complex .f32 a0 a1) (.complex .f32 a2 a3) (.complex .f32 a4 a5) (.complex .f32 a6 a7) := tab1_call0 hb1 (Below.refl _ _)
  obtain ⟨c0, c1, c2, c3⟩ := tab1_cells hb2
  have hz : w.heap.size < w1.heap.size := by have := hb2.size; simp at this; omega
  have HB := Lib.hid hb2
  clear hb1 hb2
  go_wp2_with fail
  refine (A.out _).mono ?_
  rintro e w' ⟨rfl, rfl⟩
  go_wp2_with fail
  go_ret2
  exact ⟨rfl, tab1_below HB.out⟩

end Go.Proofs.Ytaghfffbhgpalaa
