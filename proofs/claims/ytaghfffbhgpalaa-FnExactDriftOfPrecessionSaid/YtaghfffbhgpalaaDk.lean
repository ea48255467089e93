/- Walks: drifts of tables, those of the program; they are those of the specification. -/
import Derived.Test.YtaghfffbhgpalaaKbg
namespace Go.Proofs.Ytaghfffbhgpalaa
open Go.RowKit

theorem run_frombits32 (b : Nat) (w : World) : (callFunc 65 #[.int .u32 b]).run Try.prog w = .ok (.value (.float .f32 b)) w := by
  rw [run_callFunc_extern (e := Extern.MathFloatBits.float32frombits) Try.func65 (by kernel_rfl) (by kernel_rfl) (by kernel_rfl) (by kernel_rfl)]
  rfl

theorem sizeOf_any (x : Nat) (w : World) (hx : x < 4294967296) : Calls Try.prog 60 #[.float .f32 x] w fun e w' => e = .returned (.float .f32 (mag x)) ∧ w = w' := by
  have B := Lib.hid (fun w => bits_any x w hx)
  have hm := mag_lt x
  have hr := run_frombits32 (mag x)
  generalize mag x = m at *
  clear hx
  go_enter Try.func60, Try.ntmps60
  go_wp2_with fail
  refine (B.out _).mono ?_
  rintro e w' ⟨rfl, rfl⟩
  go_wp2
  go_ret
  exact ⟨rfl, rfl⟩

/-- How numbers of at least 0 stand to each other: as their words. -/
theorem order_word (x y : Nat) (hx : x < 2139095040) (hy : y < 2139095040) : FloatKind.f32.format.order x y = some (compare x y) := by
  have is : ∀ x, x < 2139095040 → ∃ m p, x = S false m p ∧ Flt.Fit Ieee.single m p ∧ Flt.rung Ieee.single m p = x := by
    intro x hx
    obtain ⟨h1, h2⟩ := S_place x hx
    rcases Nat.lt_or_ge x 8388608 with h | h
    · exact ⟨_, _, (h1 h).2.symm, (h1 h).1, (h1 h).2⟩
    · exact ⟨_, _, (h2 h).2.symm, (h2 h).1, (h2 h).2⟩
  obtain ⟨m, p, e1, f1, r1⟩ := is x hx
  obtain ⟨n, q, e2, f2, r2⟩ := is y hy
  have l1 := fitS_low f1
  have l2 := fitS_low f2
  have ho := Flt.order_fit Ieee.single (by decide) false false m n p q (-149) f1 f2 l1 l2
  have hle : x ≤ y ↔ m * 2 ^ (p - -149).toNat ≤ n * 2 ^ (q - -149).toNat := by
    rw [← r1, ← r2]
    exact ⟨fun h => le_of_rung Ieee.single (by decide) m n p q (-149) f1 f2 l1 l2 h, fun h => Flt.rung_mono Ieee.single m n p q (-149) l1 l2 h⟩
  have hge : y ≤ x ↔ n * 2 ^ (q - -149).toNat ≤ m * 2 ^ (p - -149).toNat := by
    rw [← r1, ← r2]
    exact ⟨fun h => le_of_rung Ieee.single (by decide) n m q p (-149) f2 f1 l2 l1 h, fun h => Flt.rung_mono Ieee.single n m q p (-149) l2 l1 h⟩
  have hz : FloatKind.f32.format.order x y = some (compare (Flt.sv false m * 2 ^ (p - -149).toNat) (Flt.sv false n * 2 ^ (q - -149).toNat)) := by
    rw [e1, e2]; exact ho
  rw [hz]
  have c1 : Flt.sv false m * 2 ^ (p - -149).toNat = ((m * 2 ^ (p - -149).toNat : Nat) : Int) := by simp [Flt.sv]
  have c2 : Flt.sv false n * 2 ^ (q - -149).toNat = ((n * 2 ^ (q - -149).toNat : Nat) : Int) := by simp [Flt.sv]
  rw [c1, c2]
  generalize m * 2 ^ (p - -149).toNat = M at *
  generalize n * 2 ^ (q - -149).toNat = N at *
  congr 1
  simp only [compare, compareOfLessAndEq]
  have q1 : ((M : Int) < N) = (x < y) := propext ⟨fun h => by omega, fun h => by omega⟩
  have q2 : ((M : Int) = N) = (x = y) := propext ⟨fun h => by omega, fun h => by omega⟩
  simp only [q1, q2]

theorem run_max2 {P : Program} (w : World) (x y : Nat) (hx : x < 2139095040) (hy : y < 2139095040) : (Builtin.max2 (.float .f32 x) (.float .f32 y)).run P w = .ok (.float .f32 (max x y)) w := by
  unfold Builtin.max2
  simp only [order_word x y hx hy]
  simp only [compare, compareOfLessAndEq]
  by_cases a : x < y
  · rw [if_pos a]
    rw [Nat.max_eq_right (by omega)]; rfl
  · rw [if_neg a]
    by_cases b : x = y
    · rw [if_pos b]
      subst b
      have : (FloatKind.f32.decode x).neg = false := by
        obtain ⟨h1, h2⟩ := S_place x hx
        have hr := Flt.word_read Ieee.single false x (by rw [Flt.s_sw]; omega)
        have hw : Ieee.single.word false x = x := rfl
        rw [hw] at hr
        show (Ieee.single.read x).neg = false
        rw [hr]
        split
        · rfl
        · split
          · rfl
          · split <;> rfl
      simp only [this]
      rw [Nat.max_self]; rfl
    · rw [if_neg b, Nat.max_eq_left (by omega)]; rfl

theorem run_max3 {P : Program} (w : World) (ts : Array TypeId) (t : TypeId) (x y z : Nat) (hx : x < 2139095040) (hy : y < 2139095040) (hz : z < 2139095040) :
    (Builtin.max_ ts t #[.float .f32 x, .float .f32 y, .float .f32 z]).run P w = .ok (.float .f32 (max (max x y) z)) w := by
  unfold Builtin.max_
  simp only [List.foldlM, Sem.run_bind, run_max2 w x y hx hy, Result.andThen_ok, run_max2 w (max x y) z (by omega) hz]
  first | rfl | simp

def driftI (t : Tb) : Nat := max (max (mag (sm (qOf t) (Op.negFloat .f32 one32))) (mag (sm (detI t).re (Op.negFloat .f32 one32)))) (mag (detI t).im)

set_option maxRecDepth 100000 in
set_option maxHeartbeats 1000000 in
theorem implDrift_ok {t : Tb} {k : Nat} (h : TB k t) (hk : 2 * k + 3 ≤ 127) (w : World) :
    Calls Try.prog 48 #[t.v] w fun e w' => e = .returned (.tuple #[.float .f32 (driftI t), .int .i64 0]) ∧ Below w.heap.size w w' := by
  have D := Lib.hid (fun w => implDeterminant_ok h (by omega) w)
  have N := Lib.hid (fun w => normSquare_ok h.1 h.2.1 (by omega) w)
  have qb := (q_bd h (by omega)).2
  have db := (detI_ok h (by omega)).2
  have l1 := bd_less qb (bd_mono one_vl.2 (by omega)) (by omega)
  have l2 := bd_less db.1 (bd_mono one_vl.2 (by omega)) (by omega)
  have s1 : ∀ T w', (binOp .sub T (.float .f32 (qOf t)) (.float .f32 1065353216)).run Try.prog w' = .ok (.float .f32 (sm (qOf t) (Op.negFloat .f32 one32))) w' := fun T w' => run_float_arith w' .sub T .f32 _ _ _ l1.1
  have s2 : ∀ T w', (binOp .sub T (.float .f32 (detI t).re) (.float .f32 1065353216)).run Try.prog w' = .ok (.float .f32 (sm (detI t).re (Op.negFloat .f32 one32))) w' := fun T w' => run_float_arith w' .sub T .f32 _ _ _ l2.1
  have Z1 := Lib.hid (fun w => sizeOf_any (sm (qOf t) (Op.negFloat .f32 one32)) w l1.2.1)
  have Z2 := Lib.hid (fun w => sizeOf_any (sm (detI t).re (Op.negFloat .f32 one32)) w l2.2.1)
  have Z3 := Lib.hid (fun w => sizeOf_any (detI t).im w db.2.1)
  have f1 := of_decide_eq_true (bd_fin l1.2 (by omega))
  have f2 := of_decide_eq_true (bd_fin l2.2 (by omega))
  have f3 := of_decide_eq_true (bd_fin db.2 (by omega))
  have M := fun ts T w => run_max3 (P := Try.prog) w ts T _ _ _ f1 f2 f3
  have hq : sm (nsq t.a) (nsq t.b) = qOf t := rfl
  rw [hq] at N
  clear qb db h l1 l2 f1 f2 f3 hq
  unfold driftI
  generalize mag (sm (qOf t) (Op.negFloat .f32 one32)) = o at *
  generalize mag (sm (detI t).re (Op.negFloat .f32 one32)) = x at *
  generalize mag (detI t).im = y at *
  generalize max (max o x) y = r at *
  generalize sm (qOf t) (Op.negFloat .f32 one32) = x1 at *
  generalize sm (detI t).re (Op.negFloat .f32 one32) = x2 at *
  generalize qOf t = q at *
  generalize detI t = d at *
  obtain ⟨⟨a0, a1⟩, ⟨a2, a3⟩, ⟨a4, a5⟩, ⟨a6, a7⟩⟩ := t
  obtain ⟨dr, di⟩ := d
  unfold pair at *
  unfold Tb.v at *
  simp only [Cx.v] at *
  go_enter Try.func48, Try.ntmps48
  go_wp2_with fail
  refine (D.out _).mono ?_
  rintro e w1 ⟨rfl, hb1⟩
  have hb2 : Tab1 w w1 (.complex .f32 a0 a1) (.complex .f32 a2 a3) (.complex .f32 a4 a5) (.complex .f32 a6 a7) := tab1_call0 hb1 (Below.refl _ _)
  obtain ⟨c0, c1, c2, c3⟩ := tab1_cells hb2
  have hz : w.heap.size < w1.heap.size := by have := hb2.size; simp at this; omega
  have HB := Lib.hid hb2
  clear hb1 hb2
  go_wp2_with fail
  refine (N.out _).mono ?_
  rintro e w2 ⟨rfl, hb1⟩
  have HC := Lib.hid (tab1_below (tab1_call0 hb1 HB.out))
  clear hb1
  go_wp2_with (first | simp only [s1, s2] | fail)
  refine (Z1.out _).mono ?_
  rintro e w' ⟨rfl, rfl⟩
  go_wp2_with (first | simp only [s1, s2] | fail)
  refine (Z2.out _).mono ?_
  rintro e w' ⟨rfl, rfl⟩
  go_wp2_with (first | simp only [s1, s2] | fail)
  refine (Z3.out _).mono ?_
  rintro e w' ⟨rfl, rfl⟩
  go_wp2_with (first | simp only [s1, s2] | fail)
  go_ret2
  exact ⟨rfl, HC.out⟩

/-- A word less 1 is no zero below 0. -/
theorem one_less {x : Nat} {v : Int} (hx : Vl x v) : sm x (Op.negFloat .f32 one32) = 0 ∨ mag (sm x (Op.negFloat .f32 one32)) ≠ 0 := by
  obtain ⟨s, m, p, rfl, hf, rfl⟩ := hx
  have e : Op.negFloat .f32 one32 = S true 1 0 := by decide +kernel
  rw [e]
  have hg := fitS_pow 0 (by omega) (by omega)
  have := Flt.add_fit Ieee.single (by decide) s true m 1 p 0 (-149) hf hg (fitS_low hf) (by omega)
  have h3 : floatBits .add .f32 (S s m p) (S true 1 0) = some (Flt.wordOf Ieee.single (s && true) (Flt.sv s m * 2 ^ (p + 149).toNat + Flt.sv true 1 * 2 ^ 149) (-149)) := this
  have e2 : sm (S s m p) (S true 1 0) = Flt.wordOf Ieee.single (s && true) (Flt.sv s m * 2 ^ (p + 149).toNat + Flt.sv true 1 * 2 ^ 149) (-149) := by unfold sm; rw [h3]; rfl
  rw [e2]
  unfold Flt.wordOf
  by_cases h0 : Flt.sv s m * 2 ^ (p + 149).toNat + Flt.sv true 1 * 2 ^ 149 = 0
  · left
    rw [if_pos h0, h0]
    have hs : s = false := by
      cases s
      · rfl
      · exfalso
        have h1 : (0 : Int) ≤ (m : Int) * 2 ^ (p + 149).toNat := Int.mul_nonneg (by omega) (Int.pow_nonneg (by omega))
        have h2 : Flt.sv true m = -(m : Int) := rfl
        have h4 : Flt.sv true 1 = -1 := rfl
        rw [h2, h4, Int.neg_mul] at h0
        have h5 : (0 : Int) < 2 ^ 149 := Int.pow_pos (by omega)
        omega
    rw [hs, show Int.natAbs 0 = 0 from rfl, Flt.nearest_zero]
    rfl
  · right
    rw [if_neg h0]
    generalize Flt.sv s m * 2 ^ (p + 149).toNat + Flt.sv true 1 * 2 ^ 149 = v at *
    have := (mag_S (decide (v < 0)) v.natAbs (-149)).2
    have h1 := Flt.rung_mono Ieee.single 1 v.natAbs (-149) (-149) (-149) (Int.le_refl _) (Int.le_refl _) (by rw [Int.sub_self, Int.toNat_zero, Nat.pow_zero]; omega)
    have h2 : Flt.rung Ieee.single 1 (-149) = 1 := by decide +kernel
    rw [h2] at h1
    unfold S at this
    omega

theorem sizeS_mag {k : Int} {x : Nat} (h : Bd k x) (hk : k ≤ 127) (h0 : x = 0 ∨ mag x ≠ 0) : sizeS x = mag x := by
  have hx := h.1
  obtain ⟨s, m, p, _, hf, he⟩ := fin_fit x hx (bd_fin h hk)
  have hl := less0_S s m p hf
  rw [← he] at hl
  unfold sizeS
  rw [hl]
  rcases h0 with h0 | h0
  · subst h0
    have : (s && decide (m ≠ 0)) = less0 0 := hl.symm
    rw [this]
    have : less0 0 = false := by decide +kernel
    rw [this]; rfl
  · have hm : m ≠ 0 := by
      intro hm
      apply h0
      rw [he, (mag_S s m p).2, hm, Flt.rung_zero]
    have hw := Flt.nearest_word Ieee.single s m p
    have hmg := (mag_S s m p).2
    rw [← he] at hmg
    have hS : x = Ieee.single.word s (mag x) := by rw [hmg]; rw [he]; exact hw.1
    have hr := mag_lt x
    cases s
    · simp only [Bool.false_and, Bool.false_eq_true, if_false]
      exact hS
    · simp only [Bool.true_and, decide_eq_true hm, if_true]
      have : Op.negFloat .f32 x = Ieee.single.word (!true) (mag x) := by
        conv => lhs; rw [hS]
        exact Flt.flip_word Ieee.single true (mag x) (by rw [Flt.s_sw]; exact hr)
      rw [this]; rfl

theorem gtW_nat (x y : Nat) (hx : x < 2139095040) (hy : y < 2139095040) : gtW x y = decide (y < x) := by
  unfold gtW
  rw [order_word x y hx hy]
  simp only [compare, compareOfLessAndEq]
  by_cases a : x < y
  · have : ¬ y < x := by omega
    simp [a, this]
  · by_cases b : x = y
    · subst b; simp
    · have : y < x := by omega
      simp [a, b, this]

theorem pick_nat (x y : Nat) (hx : x < 2139095040) (hy : y < 2139095040) : pick x y = max x y := by
  unfold pick
  rw [gtW_nat y x hy hx]
  by_cases a : x < y
  · rw [if_pos (by simp [a]), Nat.max_eq_right (by omega)]
  · rw [if_neg (by simp [a]), Nat.max_eq_left (by omega)]

/-- A zero below 0 is never greater. -/
theorem pick_zero (x : Nat) (hx : x < 2139095040) : pick x 2147483648 = x := by
  unfold pick
  have : gtW 2147483648 x = false := by
    unfold gtW
    obtain ⟨h1, h2⟩ := S_place x hx
    obtain ⟨m, p, e1, f1⟩ : ∃ m p, x = S false m p ∧ Flt.Fit Ieee.single m p := by
      rcases Nat.lt_or_ge x 8388608 with h | h
      · exact ⟨_, _, (h1 h).2.symm, (h1 h).1⟩
      · exact ⟨_, _, (h2 h).2.symm, (h2 h).1⟩
    have e0 : 2147483648 = S true 0 p := by rw [S_zero]; rfl
    have h0 : Flt.Fit Ieee.single 0 p := ⟨by decide, f1.2.1, .inl rfl⟩
    have ho := Flt.order_fit Ieee.single (by decide) true false 0 m p p p h0 f1 (Int.le_refl _) (Int.le_refl _)
    have hz : FloatKind.f32.format.order 2147483648 x = some (compare (Flt.sv true 0 * 2 ^ (p - p).toNat) (Flt.sv false m * 2 ^ (p - p).toNat)) := by
      rw [e0, e1]; exact ho
    rw [hz]
    have c1 : Flt.sv true 0 * 2 ^ (p - p).toNat = 0 := by simp [Flt.sv]
    have c2 : Flt.sv false m * 2 ^ (p - p).toNat = (m : Int) := by simp [Flt.sv]
    rw [c1, c2]
    by_cases hm : m = 0
    · subst hm; rfl
    · rw [cmp_lt (by omega)]; rfl
  rw [this]; rfl

theorem det_same {t : Tb} {k : Nat} (h : TB k t) (hk : 2 * k + 2 ≤ 127) : Eqv (detS t).re (detI t).re ∧ Eqv (detS t).im (detI t).im := by
  obtain ⟨h1, h2, h3, h4⟩ := h
  have p1 := (prod_any h1 h4 (by omega)).2
  have e : k + k + 1 = 2 * k + 1 := by omega
  rw [e] at p1
  obtain ⟨u, hu, _⟩ := bd_has p1.1 (by omega)
  obtain ⟨v, hv, _⟩ := bd_has p1.2 (by omega)
  obtain ⟨q1, q2, a, b, c, d, ha, hb, hc, hd, g1, g2⟩ := (prod_any h2 h3 (by omega)).1
  obtain ⟨r, r1, r2⟩ := ex_opp (a' := Op.negFloat .f32 t.b.re) (b' := t.c.re) (c' := Op.negFloat .f32 (Op.negFloat .f32 t.b.im)) (d' := t.c.im) _ ha hc (neg_vl hb) hd (neg_vl ha) hc (neg_vl (neg_vl hb)) hd q1 q2 g1
    (by rw [Int.neg_mul, Int.neg_mul, Int.neg_mul]; omega)
  obtain ⟨r', r1', r2'⟩ := ex_opp (a' := Op.negFloat .f32 t.b.re) (b' := t.c.im) (c' := Op.negFloat .f32 t.b.im) (d' := t.c.re) _ ha hd hb hc (neg_vl ha) hd (neg_vl hb) hc q1 q2 g2
    (by rw [Int.neg_mul, Int.neg_mul]; omega)
  exact ⟨(sm_same hu (neg_vl r1) hu r2 rfl).1, (sm_same hv (neg_vl r1') hv r2' rfl).1⟩

theorem drift_same {t : Tb} {k : Nat} (h : TB k t) (hk : 2 * k + 3 ≤ 127) : driftS t = driftI t := by
  have qb := (q_bd h (by omega)).2
  have dS := det_bd h (by omega)
  have dI := (detI_ok h (by omega)).2
  obtain ⟨e1, e2⟩ := det_same h (by omega)
  obtain ⟨vq, hq, _⟩ := bd_has qb (by omega)
  obtain ⟨vd, hd, _⟩ := bd_has dS.1 (by omega)
  have l1 := (bd_less qb (bd_mono one_vl.2 (by omega)) (by omega)).2
  have l2 := (bd_less dS.1 (bd_mono one_vl.2 (by omega)) (by omega)).2
  have s1 := sizeS_mag l1 (by omega) (one_less hq)
  have s2 := sizeS_mag l2 (by omega) (one_less hd)
  have f1 := of_decide_eq_true (bd_fin l1 (by omega))
  have f2 := of_decide_eq_true (bd_fin l2 (by omega))
  have f3 := of_decide_eq_true (bd_fin dS.2 (by omega))
  have m2 := eqv_mag (sm_same hd (neg_vl one_vl.1) (eqv_vl e1 hd) (neg_vl one_vl.1) rfl).1
  have m3 := eqv_mag e2
  unfold driftS driftI
  rw [s1, s2, ← m2, ← m3]
  rw [pick_nat _ _ f1 f2]
  have f4 : max (mag (sm (qOf t) (Op.negFloat .f32 one32))) (mag (sm (detS t).re (Op.negFloat .f32 one32))) < 2139095040 := by omega
  by_cases h0 : (detS t).im = 2147483648
  · have hz : sizeS 2147483648 = 2147483648 := by decide +kernel
    have hm : mag 2147483648 = 0 := by decide
    rw [h0, hz, hm, pick_zero _ f4, Nat.max_eq_left (Nat.zero_le _)]
  · have hc : (detS t).im = 0 ∨ mag (detS t).im ≠ 0 := by
      have := dS.2.1
      unfold mag
      omega
    rw [sizeS_mag dS.2 (by omega) hc, pick_nat _ _ f4 f3]

end Go.Proofs.Ytaghfffbhgpalaa
