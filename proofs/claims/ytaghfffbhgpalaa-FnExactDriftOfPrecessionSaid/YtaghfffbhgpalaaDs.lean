/- Walks: drifts of tables, those of the specification. -/
import Derived.Test.YtaghfffbhgpalaaKan
namespace Go.Proofs.Ytaghfffbhgpalaa
open Go.RowKit

/-- A call that leaves the world alone, in a quiet walk. -/
theorem same_call {P : Program} {f : FuncId} {args : Array Value} {v : Value} (c : ∀ W : World, Calls P f args W fun e W' => e = .returned v ∧ W = W') {w : World} (n : Nat) :
    Calls P f args (w.drewN n) fun e w' => e = .returned v ∧ ∃ m, w' = w.drewN m :=
  (c (w.drewN n)).mono fun _ _ ⟨he, hw⟩ => ⟨he, n, hw.symm⟩

/-- A complex number, a table: all parts finite. -/
def CF (z : Cx) : Prop := (z.re < 4294967296 ∧ fin z.re = true) ∧ (z.im < 4294967296 ∧ fin z.im = true)
def TF (t : Tb) : Prop := CF t.a ∧ CF t.b ∧ CF t.c ∧ CF t.d

theorem cb_cf {k : Nat} {z : Cx} (h : CB k z) (hk : k ≤ 127) : CF z := ⟨⟨h.1.1, bd_fin h.1 (by omega)⟩, ⟨h.2.1, bd_fin h.2 (by omega)⟩⟩

theorem tb_tf {k : Nat} {t : Tb} (h : TB k t) (hk : k ≤ 127) : TF t := ⟨cb_cf h.1 hk, cb_cf h.2.1 hk, cb_cf h.2.2.1 hk, cb_cf h.2.2.2 hk⟩

theorem l01Whole_ok {z : Cx} (h : CF z) (w : World) : Calls Try.prog 38 #[z.v] w fun e w' => e = .returned (.bool true) ∧ w = w' := by
  have A := Lib.hid (fun w => fine_yes z.re w h.1.1 h.1.2)
  have B := Lib.hid (fun w => fine_yes z.im w h.2.1 h.2.2)
  clear h
  obtain ⟨a, b⟩ := z
  unfold Cx.v
  simp only at *
  go_enter Try.func38, Try.ntmps38
  go_wp2_with fail
  refine (A.out _).mono ?_
  rintro e w' ⟨rfl, rfl⟩
  go_wp2_with fail
  refine (B.out _).mono ?_
  rintro e w' ⟨rfl, rfl⟩
  go_wp2_with fail
  go_ret
  exact ⟨rfl, rfl⟩

set_option maxHeartbeats 1000000 in
theorem l03Is_ok {t : Tb} (h : TF t) (w : World) : Calls Try.prog 35 #[t.v] w fun e w' => e = .returned (.bool true) ∧ Below w.heap.size w w' := by
  have A := Lib.hid (fun w => l01Whole_ok h.1 w)
  have B := Lib.hid (fun w => l01Whole_ok h.2.1 w)
  have C := Lib.hid (fun w => l01Whole_ok h.2.2.1 w)
  have D := Lib.hid (fun w => l01Whole_ok h.2.2.2 w)
  clear h
  obtain ⟨⟨a0, a1⟩, ⟨a2, a3⟩, ⟨a4, a5⟩, ⟨a6, a7⟩⟩ := t
  unfold Tb.v
  simp only [Cx.v] at *
  go_enter Try.func35, Try.ntmps35
  go_wp2_with fail
  refine (A.out _).mono ?_
  rintro e w' ⟨rfl, rfl⟩
  go_wp2_with fail
  refine (B.out _).mono ?_
  rintro e w' ⟨rfl, rfl⟩
  go_wp2_with fail
  refine (C.out _).mono ?_
  rintro e w' ⟨rfl, rfl⟩
  go_wp2_with fail
  refine (D.out _).mono ?_
  rintro e w' ⟨rfl, rfl⟩
  go_wp2_with fail
  go_ret
  exact ⟨rfl, (Below.refl _ _).alloc (Nat.le_refl _) _⟩

/-- The square of a complex number. -/
def nsq (z : Cx) : Nat := ex z.re z.re z.im z.im

theorem sq_ok {z : Cx} {k : Nat} (h : CB k z) (hk : 2 * k + 1 ≤ 127) :
    (∃ a b, Vl z.re a ∧ Vl z.im b ∧ (a * a + b * b).natAbs ≤ 2 ^ (((2 * k + 1 : Nat) : Int) + 298).toNat) ∧ Bd ((2 * k + 1 : Nat) : Int) (nsq z) := by
  obtain ⟨a, ha, ba⟩ := bd_has h.1 (by omega)
  obtain ⟨b, hb, bb⟩ := bd_has h.2 (by omega)
  have p1 := abs_prod ba ba
  have p2 := abs_prod bb bb
  have e : k + 149 + (k + 149) = 2 * k + 298 := by omega
  rw [e] at p1 p2
  have e2 : (((2 * k + 1 : Nat) : Int) + 298).toNat = 2 * k + 298 + 1 := by omega
  have g : (a * a + b * b).natAbs ≤ 2 ^ (((2 * k + 1 : Nat) : Int) + 298).toNat := by rw [e2, Nat.pow_succ]; omega
  exact ⟨⟨a, b, ha, hb, g⟩, (ex_ok _ ha ha hb hb (by omega) (by omega) g).2⟩

theorem l01Square_ok {z : Cx} {k : Nat} (h : CB k z) (hk : 2 * k + 1 ≤ 127) (w : World) : Calls Try.prog 52 #[z.v] w fun e w' => e = .returned (.float .f32 (nsq z)) ∧ w = w' := by
  obtain ⟨⟨a, b, ha, hb, g⟩, _⟩ := sq_ok h hk
  have X := Lib.hid (fun w => l01Exact_any _ ha ha hb hb (by omega) (by omega) g w)
  unfold nsq
  clear ha hb g h
  obtain ⟨x, y⟩ := z
  simp only [Cx.v] at *
  generalize ex x x y y = r at *
  go_enter Try.func52, Try.ntmps52
  go_wp2_with fail
  refine (X.out _).mono ?_
  rintro e w' ⟨rfl, rfl⟩
  go_wp2_with fail
  go_ret
  exact ⟨rfl, rfl⟩

/-- The sum of two float32 below a power of two. -/
theorem bd_sum {x y : Nat} {k : Nat} (hx : Bd k x) (hy : Bd k y) (hk : k + 1 ≤ 127) : floatBits .add .f32 x y = some (sm x y) ∧ Bd ((k + 1 : Nat) : Int) (sm x y) := by
  obtain ⟨a, ha, ba⟩ := bd_has hx (by omega)
  obtain ⟨b, hb, bb⟩ := bd_has hy (by omega)
  have e2 : (((k + 1 : Nat) : Int) + 149).toNat = k + 149 + 1 := by omega
  exact sm_ok _ ha hb (by omega) (by omega) (by rw [e2, Nat.pow_succ]; omega)

theorem bd_less {x y : Nat} {k : Nat} (hx : Bd k x) (hy : Bd k y) (hk : k + 1 ≤ 127) : floatBits .sub .f32 x y = some (sm x (Op.negFloat .f32 y)) ∧ Bd ((k + 1 : Nat) : Int) (sm x (Op.negFloat .f32 y)) := by
  obtain ⟨a, ha, ba⟩ := bd_has hx (by omega)
  obtain ⟨b, hb, bb⟩ := bd_has hy (by omega)
  have e2 : (((k + 1 : Nat) : Int) + 149).toNat = k + 149 + 1 := by omega
  exact sub_sm _ ha hb (by omega) (by omega) (by rw [e2, Nat.pow_succ]; omega)

/-- q of a table. -/
def qOf (t : Tb) : Nat := sm (nsq t.a) (nsq t.b)

theorem q_bd {t : Tb} {k : Nat} (h : TB k t) (hk : 2 * k + 2 ≤ 127) : floatBits .add .f32 (nsq t.a) (nsq t.b) = some (qOf t) ∧ Bd ((2 * k + 2 : Nat) : Int) (qOf t) :=
  bd_sum (sq_ok h.1 (by omega)).2 (sq_ok h.2.1 (by omega)).2 hk

set_option maxRecDepth 100000 in
set_option maxHeartbeats 1000000 in
theorem l03Norm_ok {t : Tb} {k : Nat} (h : TB k t) (hk : 2 * k + 2 ≤ 127) (w : World) : Calls Try.prog 36 #[t.v] w fun e w' => e = .returned (.float .f32 (qOf t)) ∧ Below w.heap.size w w' := by
  have A := Lib.hid (fun w => l01Square_ok h.1 (by omega) w)
  have B := Lib.hid (fun w => l01Square_ok h.2.1 (by omega) w)
  have s : ∀ t' w, (binOp .add t' (.float .f32 (nsq t.a)) (.float .f32 (nsq t.b))).run Try.prog w = .ok (.float .f32 (qOf t)) w := fun t' w => run_float_arith w .add t' .f32 _ _ _ (q_bd h hk).1
  clear h
  generalize qOf t = q at *
  generalize nsq t.a = x at *
  generalize nsq t.b = y at *
  obtain ⟨⟨a0, a1⟩, ⟨a2, a3⟩, ⟨a4, a5⟩, ⟨a6, a7⟩⟩ := t
  unfold Tb.v
  simp only [Cx.v] at *
  go_enter Try.func36, Try.ntmps36
  go_wp2_with fail
  go_quiet (first
    | (go_at_call 52; with_reducible exact same_call A.out _)
    | (go_at_call 52; with_reducible exact same_call B.out _))
  go_wp2
  go_ret
  exact ⟨rfl, below_drewN ((Below.refl _ _).alloc (Nat.le_refl _) _) _⟩

/-- The determinant, as the specification reckons it. -/
def detS (t : Tb) : Cx := ⟨sm (t.a.mul t.d).re (Op.negFloat .f32 (t.b.mul t.c).re), sm (t.a.mul t.d).im (Op.negFloat .f32 (t.b.mul t.c).im)⟩

theorem l01Less_ok {z w : Cx} {k : Nat} (hz : CB k z) (hw : CB k w) (hk : k + 1 ≤ 127) (W : World) :
    Calls Try.prog 53 #[z.v, w.v] W fun e W' => e = .returned (.complex .f32 (sm z.re (Op.negFloat .f32 w.re)) (sm z.im (Op.negFloat .f32 w.im))) ∧ W = W' := by
  have s1 : ∀ t w', (binOp .sub t (.float .f32 z.re) (.float .f32 w.re)).run Try.prog w' = .ok (.float .f32 (sm z.re (Op.negFloat .f32 w.re))) w' := fun t w' => run_float_arith w' .sub t .f32 _ _ _ (bd_less hz.1 hw.1 hk).1
  have s2 : ∀ t w', (binOp .sub t (.float .f32 z.im) (.float .f32 w.im)).run Try.prog w' = .ok (.float .f32 (sm z.im (Op.negFloat .f32 w.im))) w' := fun t w' => run_float_arith w' .sub t .f32 _ _ _ (bd_less hz.2 hw.2 hk).1
  clear hz hw
  obtain ⟨a, b⟩ := z
  obtain ⟨c, d⟩ := w
  simp only [Cx.v] at *
  generalize sm a (Op.negFloat .f32 c) = x at *
  generalize sm b (Op.negFloat .f32 d) = y at *
  go_enter Try.func53, Try.ntmps53
  go_wp2_with (simp only [s1, s2])
  go_ret
  exact ⟨rfl, rfl⟩

theorem det_bd {t : Tb} {k : Nat} (h : TB k t) (hk : 2 * k + 2 ≤ 127) : CB ((2 * k + 2 : Nat) : Int) (detS t) := by
  obtain ⟨h1, h2, h3, h4⟩ := h
  have p1 := (prod_any h1 h4 (by omega)).2
  have p2 := (prod_any h2 h3 (by omega)).2
  have e : k + k + 1 = 2 * k + 1 := by omega
  rw [e] at p1 p2
  exact ⟨(bd_less p1.1 p2.1 hk).2, (bd_less p1.2 p2.2 hk).2⟩

set_option maxRecDepth 100000 in
set_option maxHeartbeats 1000000 in
theorem l03Determinant_ok {t : Tb} {k : Nat} (h : TB k t) (hk : 2 * k + 2 ≤ 127) (w : World) : Calls Try.prog 37 #[t.v] w fun e w' => e = .returned (detS t).v ∧ Below w.heap.size w w' := by
  obtain ⟨h1, h2, h3, h4⟩ := h
  have p1 := prod_any h1 h4 (by omega)
  have p2 := prod_any h2 h3 (by omega)
  have A := Lib.hid (fun w => l01Times_any p1.1 w)
  have B := Lib.hid (fun w => l01Times_any p2.1 w)
  have L := Lib.hid (fun w => l01Less_ok p1.2 p2.2 (by omega) w)
  clear p1 p2 h1 h2 h3 h4
  unfold detS
  have e1 : ∀ z w : Cx, z.mul w = ⟨pre z.re z.im w.re w.im, pim z.re z.im w.re w.im⟩ := fun _ _ => rfl
  rw [e1, e1] at *
  simp only [Cx.v] at *
  obtain ⟨⟨a0, a1⟩, ⟨a2, a3⟩, ⟨a4, a5⟩, ⟨a6, a7⟩⟩ := t
  unfold Tb.v
  simp only [Cx.v] at *
  generalize pre a0 a1 a6 a7 = x at *
  generalize pim a0 a1 a6 a7 = y at *
  generalize pre a2 a3 a4 a5 = x' at *
  generalize pim a2 a3 a4 a5 = y' at *
  generalize sm x (Op.negFloat .f32 x') = u at *
  generalize sm y (Op.negFloat .f32 y') = v at *
  go_enter Try.func37, Try.ntmps37
  go_wp2_with fail
  go_quiet (first
    | (go_at_call 41; with_reducible exact same_call A.out _)
    | (go_at_call 41; with_reducible exact same_call B.out _)
    | (go_at_call 53; with_reducible exact same_call L.out _))
  go_wp2
  go_ret
  exact ⟨rfl, below_drewN ((Below.refl _ _).alloc (Nat.le_refl _) _) _⟩

/-- The absolute value, as the specification reckons it. -/
def sizeS (x : Nat) : Nat := if less0 x then Op.negFloat .f32 x else x

theorem l03Size_any (x : Nat) (w : World) : Calls Try.prog 39 #[.float .f32 x] w fun e w' => e = .returned (.float .f32 (sizeS x)) ∧ w = w' := by
  unfold sizeS
  cases hl : less0 x
  all_goals
    have hc : (FloatKind.f32.format.order x 0 == some .lt) = less0 x := rfl
    rw [hl] at hc
    clear hl
    go_enter Try.func39, Try.ntmps39
    go_wp2
    go_ret
    exact ⟨rfl, rfl⟩

end Go.Proofs.Ytaghfffbhgpalaa
