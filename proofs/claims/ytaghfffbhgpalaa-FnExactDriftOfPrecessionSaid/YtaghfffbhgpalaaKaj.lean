/- A column of a product of tables: how much its square grows. A column of a product of tables grows by a quarter at most. -/
import Derived.Test.YtaghfffbhgpalaaKag
import Derived.Test.YtaghfffbhgpalaaPb
namespace Go.Proofs.Ytaghfffbhgpalaa
open Go.RowKit

def ZI : Int := (ZZ : Int)

theorem ZI_pos : 0 < ZI := by
  have : 0 < ZZ := Nat.two_pow_pos _
  unfold ZI; omega

/-- A float32's worth near a number in finer units. -/
structure Near (u E L : Int) : Prop where
  up : (u * ZI - E) * 200 ≤ L + 1500 * ZI
  lo : (E - u * ZI) * 200 ≤ L + 1500 * ZI

theorem sv_mul (s : Bool) (n : Nat) : Flt.sv s n * ZI = if s then -((n * ZZ : Nat) : Int) else ((n * ZZ : Nat) : Int) := by
  unfold Flt.sv ZI
  cases s <;> simp [Int.neg_mul]

set_option maxRecDepth 20000 in
theorem ex_int {E : Int} {s : Bool} {n : Nat} (hs : E = 0 ∨ s = decide (E < 0)) (h1 : n * ZZ * 1000 ≤ E.natAbs * 1003 + 2010 * ZZ) (h2 : E.natAbs * 1000 ≤ n * ZZ * 1003 + 2010 * ZZ) :
    (Flt.sv s n * ZI - E) * 250 ≤ (E.natAbs : Int) + 760 * ZI ∧ (E - Flt.sv s n * ZI) * 250 ≤ (E.natAbs : Int) + 760 * ZI := by
  rw [sv_mul]
  have hz : ZI = (ZZ : Int) := rfl
  rw [hz]
  generalize n * ZZ = N at *
  generalize ZZ = Z at *
  clear hz
  rcases Int.lt_or_le E 0 with h | h
  · obtain ⟨e, rfl⟩ : ∃ e : Nat, E = -(e : Int) := ⟨E.natAbs, by omega⟩
    have hst : s = true := by
      rcases hs with h0 | h0
      · omega
      · rw [h0]; exact decide_eq_true h
    subst hst
    rw [Int.natAbs_neg, Int.natAbs_natCast] at *
    simp only [if_true]
    omega
  · obtain ⟨e, rfl⟩ : ∃ e : Nat, E = (e : Int) := ⟨E.natAbs, by omega⟩
    rw [Int.natAbs_natCast] at *
    by_cases h0 : e = 0
    · subst h0
      cases s
      · simp only [Bool.false_eq_true, if_false]; omega
      · simp only [if_true]; omega
    · have hsf : s = false := by
        rcases hs with h1 | h1
        · omega
        · rw [h1]; exact decide_eq_false (by omega)
      subst hsf
      simp only [Bool.false_eq_true, if_false]
      omega

set_option maxRecDepth 20000 in
theorem near_sum {x1 x2 m E1 E2 e1 e2 s Z : Int} (hZ : 0 < Z) (h1 : (x1 - E1) * 250 ≤ e1 + 760 * Z) (h2 : (E1 - x1) * 250 ≤ e1 + 760 * Z) (h3 : (x2 - E2) * 250 ≤ e2 + 760 * Z) (h4 : (E2 - x2) * 250 ≤ e2 + 760 * Z)
    (g1 : E1 ≤ e1) (g2 : -E1 ≤ e1) (g3 : E2 ≤ e2) (g4 : -E2 ≤ e2) (h5 : (m - (x1 + x2)) * 1024 ≤ s + 1024 * Z) (h6 : ((x1 + x2) - m) * 1024 ≤ s + 1024 * Z) (h7 : s = x1 + x2 ∨ s = -(x1 + x2)) :
    (m - (E1 + E2)) * 200 ≤ (e1 + e2) + 1500 * Z ∧ ((E1 + E2) - m) * 200 ≤ (e1 + e2) + 1500 * Z := by
  omega

theorem abs_mul_ZI (v : Int) : (v.natAbs : Int) * ZI = v * ZI ∨ (v.natAbs : Int) * ZI = -(v * ZI) := by
  rcases Int.natAbs_eq v with h | h
  · left; rw [← h]
  · right
    have : (v.natAbs : Int) = -v := by omega
    rw [this, Int.neg_mul]

theorem abs_prod_le (a b c d : Int) : ((a * b + c * d).natAbs : Int) ≤ a.natAbs * b.natAbs + c.natAbs * d.natAbs := by
  have h1 := Int.natAbs_add_le (a * b) (c * d)
  rw [Int.natAbs_mul, Int.natAbs_mul] at h1
  exact_mod_cast h1

/-- One part of an entry of a product. -/
theorem part_near {a b c d a' b' c' d' : Nat} {va vb vc vd wa wb wc wd' : Int} (k : Int) (ha : Vl a va) (hb : Vl b vb) (hc : Vl c vc) (hd : Vl d vd) (ha' : Vl a' wa) (hb' : Vl b' wb) (hc' : Vl c' wc) (hd' : Vl d' wd') (k1 : -126 ≤ k) (k2 : k ≤ 127)
    (h1 : (va * vb + vc * vd).natAbs ≤ 2 ^ (k + 298).toNat) (h2 : (wa * wb + wc * wd').natAbs ≤ 2 ^ (k + 298).toNat) (hf : fin (sm (ex a b c d) (ex a' b' c' d')) = true) :
    ∃ u, Vl (sm (ex a b c d) (ex a' b' c' d')) u ∧ Near u ((va * vb + vc * vd) + (wa * wb + wc * wd')) (((va * vb + vc * vd).natAbs : Int) + ((wa * wb + wc * wd').natAbs : Int)) := by
  obtain ⟨s1, n1, v1, g1, c1, c2⟩ := ex_near k ha hb hc hd k1 k2 h1
  obtain ⟨s2, n2, v2, g2, c3, c4⟩ := ex_near k ha' hb' hc' hd' k1 k2 h2
  obtain ⟨i1, i2⟩ := ex_int g1 c1 c2
  obtain ⟨i3, i4⟩ := ex_int g2 c3 c4
  obtain ⟨u, hu, hn⟩ := sm_near v1 v2 hf
  refine ⟨u, hu, ?_⟩
  clear c1 c2 c3 c4 g1 g2 h1 h2 ha hb hc hd ha' hb' hc' hd' hu hf v1 v2
  generalize va * vb + vc * vd = E1 at *
  generalize wa * wb + wc * wd' = E2 at *
  generalize Flt.sv s1 n1 = y1 at *
  generalize Flt.sv s2 n2 = y2 at *
  have hz := ZI_pos
  have q1 : (u - (y1 + y2)) * 1024 ≤ ((y1 + y2).natAbs : Int) + 1024 := by omega
  have q2 : ((y1 + y2) - u) * 1024 ≤ ((y1 + y2).natAbs : Int) + 1024 := by omega
  have r1 := Int.mul_le_mul_of_nonneg_right q1 (Int.le_of_lt hz)
  have r2 := Int.mul_le_mul_of_nonneg_right q2 (Int.le_of_lt hz)
  have e1 : (u - (y1 + y2)) * 1024 * ZI = (u * ZI - (y1 * ZI + y2 * ZI)) * 1024 := by grind
  have e2 : ((y1 + y2) - u) * 1024 * ZI = ((y1 * ZI + y2 * ZI) - u * ZI) * 1024 := by grind
  have e3 : (((y1 + y2).natAbs : Int) + 1024) * ZI = ((y1 + y2).natAbs : Int) * ZI + 1024 * ZI := by grind
  rw [e1, e3] at r1
  rw [e2, e3] at r2
  have h7 := abs_mul_ZI (y1 + y2)
  rw [Int.add_mul] at h7
  obtain ⟨o1, o2⟩ := near_sum hz i1 i2 i3 i4 (by omega) (by omega) (by omega) (by omega) r1 r2 h7
  exact ⟨o1, o2⟩

theorem Near.wide {u E L M : Int} (h : Near u E L) (hl : L ≤ M) : Near u E M := ⟨by have := h.up; omega, by have := h.lo; omega⟩

theorem sq_nonneg_int (x : Int) : 0 ≤ x * x := by
  rcases Int.le_total 0 x with h | h
  · exact Int.mul_nonneg h h
  · exact Int.mul_nonneg_of_nonpos_of_nonpos h h

theorem sq_le_int {x t : Int} (h1 : x ≤ t) (h2 : -x ≤ t) : x * x ≤ t * t := by
  have ht : 0 ≤ t := by omega
  rcases Int.le_total 0 x with h | h
  · exact Int.mul_le_mul h1 h1 h ht
  · have := Int.mul_le_mul h2 h2 (by omega) ht
    rwa [Int.neg_mul_neg] at this

theorem sq_near {u E L K : Int} (h : Near u E L) (hL : 0 ≤ L) (hK : L * L ≤ K) : 8000 * ((u * ZI) * (u * ZI)) ≤ 8125 * (E * E) + 13 * (2 * K + 4500000 * (ZI * ZI)) := by
  obtain ⟨d, hd⟩ : ∃ d, d = u * ZI - E := ⟨_, rfl⟩
  have hu : u * ZI = E + d := by omega
  have h1 := h.up
  have h2 := h.lo
  rw [hu] at h1 h2 ⊢
  have s1 := sq_le_int (x := d * 200) (t := L + 1500 * ZI) (by omega) (by omega)
  have s2 := sq_nonneg_int (L - 1500 * ZI)
  have s3 := sq_nonneg_int (E - 64 * d)
  generalize ZI = Z at *
  have e1 : d * 200 * (d * 200) = 40000 * (d * d) := by grind
  have e2 : (L + 1500 * Z) * (L + 1500 * Z) = L * L + 3000 * (L * Z) + 2250000 * (Z * Z) := by grind
  have e3 : (L - 1500 * Z) * (L - 1500 * Z) = L * L - 3000 * (L * Z) + 2250000 * (Z * Z) := by grind
  have e4 : (E - 64 * d) * (E - 64 * d) = E * E - 128 * (E * d) + 4096 * (d * d) := by grind
  have e5 : (E + d) * (E + d) = E * E + 2 * (E * d) + d * d := by grind
  rw [e1, e2] at s1
  rw [e3] at s2
  rw [e4] at s3
  rw [e5]
  generalize E * E = EE at *
  generalize E * d = Ed at *
  generalize d * d = dd at *
  generalize L * L = LL at *
  generalize L * Z = LZ at *
  generalize Z * Z = zz at *
  omega

theorem nat_sq (x : Int) : (x.natAbs : Int) * (x.natAbs : Int) = x * x := by
  rcases Int.natAbs_eq x with h | h
  · rw [← h]
  · have : (x.natAbs : Int) = -x := by omega
    rw [this, Int.neg_mul_neg]

/-- The sum of four products. -/
theorem cauchy (x0 x1 x2 x3 y0 y1 y2 y3 : Int) : ((x0.natAbs : Int) * y0.natAbs + x1.natAbs * y1.natAbs + (x2.natAbs * y2.natAbs + x3.natAbs * y3.natAbs)) * ((x0.natAbs : Int) * y0.natAbs + x1.natAbs * y1.natAbs + (x2.natAbs * y2.natAbs + x3.natAbs * y3.natAbs)) ≤ (x0 * x0 + x1 * x1 + x2 * x2 + x3 * x3) * (y0 * y0 + y1 * y1 + y2 * y2 + y3 * y3) := by
  rw [← nat_sq x0, ← nat_sq x1, ← nat_sq x2, ← nat_sq x3, ← nat_sq y0, ← nat_sq y1, ← nat_sq y2, ← nat_sq y3]
  generalize (x0.natAbs : Int) = a0
  generalize (x1.natAbs : Int) = a1
  generalize (x2.natAbs : Int) = a2
  generalize (x3.natAbs : Int) = a3
  generalize (y0.natAbs : Int) = b0
  generalize (y1.natAbs : Int) = b1
  generalize (y2.natAbs : Int) = b2
  generalize (y3.natAbs : Int) = b3
  have h1 := sq_nonneg_int (a0 * b1 - a1 * b0)
  have h2 := sq_nonneg_int (a0 * b2 - a2 * b0)
  have h3 := sq_nonneg_int (a0 * b3 - a3 * b0)
  have h4 := sq_nonneg_int (a1 * b2 - a2 * b1)
  have h5 := sq_nonneg_int (a1 * b3 - a3 * b1)
  have h6 := sq_nonneg_int (a2 * b3 - a3 * b2)
  have e : (a0 * b0 + a1 * b1 + (a2 * b2 + a3 * b3)) * (a0 * b0 + a1 * b1 + (a2 * b2 + a3 * b3)) + ((a0 * b1 - a1 * b0) * (a0 * b1 - a1 * b0) + (a0 * b2 - a2 * b0) * (a0 * b2 - a2 * b0) + (a0 * b3 - a3 * b0) * (a0 * b3 - a3 * b0) + (a1 * b2 - a2 * b1) * (a1 * b2 - a2 * b1) + (a1 * b3 - a3 * b1) * (a1 * b3 - a3 * b1) + (a2 * b3 - a3 * b2) * (a2 * b3 - a3 * b2)) = (a0 * a0 + a1 * a1 + a2 * a2 + a3 * a3) * (b0 * b0 + b1 * b1 + b2 * b2 + b3 * b3) := by grind
  omega

end Go.Proofs.Ytaghfffbhgpalaa

namespace Go.Proofs.Ytaghfffbhgpalaa
open Go.RowKit

theorem two_prods' {a b c d : Int} {m n l : Nat} (ha : a.natAbs ≤ 2 ^ m) (hb : b.natAbs ≤ 2 ^ n) (hc : c.natAbs ≤ 2 ^ m) (hd : d.natAbs ≤ 2 ^ n) (hl : m + n + 1 ≤ l) : (a * b + c * d).natAbs ≤ 2 ^ l := by
  have h1 := abs_prod ha hb
  have h2 := abs_prod hc hd
  have h3 := Int.natAbs_add_le (a * b) (c * d)
  have h4 : (2 : Nat) ^ (m + n + 1) ≤ 2 ^ l := Nat.pow_le_pow_right (by omega) hl
  have h5 := Nat.two_pow_succ (m + n)
  omega

theorem two_prods {a b c d : Int} (ha : a.natAbs ≤ 2 ^ 155) (hb : b.natAbs ≤ 2 ^ 209) (hc : c.natAbs ≤ 2 ^ 155) (hd : d.natAbs ≤ 2 ^ 209) : (a * b + c * d).natAbs ≤ 2 ^ ((102 : Int) + 298).toNat :=
  two_prods' ha hb hc hd (by decide)

theorem neg_abs {a : Int} {n : Nat} (h : a.natAbs ≤ n) : (-a).natAbs ≤ n := by rwa [Int.natAbs_neg]

theorem sum_abs_le {a b c d : Int} : (((a * b + c * d).natAbs : Int)) ≤ a.natAbs * b.natAbs + c.natAbs * d.natAbs := abs_prod_le a b c d

theorem cancel_Z {U S Z : Int} (hZ : 0 < Z) (h : 40000 * (Z * U) ≤ 50000 * (Z * S) + 1170000000 * Z) : 4 * U ≤ 5 * S + 117000 := by
  have e : 40000 * (Z * U) = 40000 * U * Z := by grind
  have e2 : 50000 * (Z * S) + 1170000000 * Z = (50000 * S + 1170000000) * Z := by grind
  rw [e, e2] at h
  have := Int.le_of_mul_le_mul_right h hZ
  omega

set_option maxRecDepth 20000 in
theorem col_grow {t : Tb} {p q : Cx} {w x y z p0 p1 q0 q1 : Int} (ta : Vl t.a.re w) (tb : Vl t.a.im (-z)) (tc : Vl t.b.re (-y)) (td : Vl t.b.im (-x)) (te : Vl t.c.re y) (tf : Vl t.c.im (-x)) (tg : Vl t.d.re w) (th : Vl t.d.im z)
    (hp0 : Vl p.re p0) (hp1 : Vl p.im p1) (hq0 : Vl q.re q0) (hq1 : Vl q.im q1) (bw : w.natAbs ≤ 2 ^ 155) (bx : x.natAbs ≤ 2 ^ 155) (bY : y.natAbs ≤ 2 ^ 155) (bz : z.natAbs ≤ 2 ^ 155)
    (b0 : p0.natAbs ≤ 2 ^ 209) (b1 : p1.natAbs ≤ 2 ^ 209) (b2 : q0.natAbs ≤ 2 ^ 209) (b3 : q1.natAbs ≤ 2 ^ 209)
    (f0 : fin (ent t.a p t.b q).re = true) (f1 : fin (ent t.a p t.b q).im = true) (f2 : fin (ent t.c p t.d q).re = true) (f3 : fin (ent t.c p t.d q).im = true)
    (hN : 5 * (w * w + x * x + y * y + z * z) ≤ 6 * (ZI * ZI)) :
    ∃ u0 u1 v0 v1, Vl (ent t.a p t.b q).re u0 ∧ Vl (ent t.a p t.b q).im u1 ∧ Vl (ent t.c p t.d q).re v0 ∧ Vl (ent t.c p t.d q).im v1 ∧ 4 * (u0 * u0 + u1 * u1 + v0 * v0 + v1 * v1) ≤ 5 * (p0 * p0 + p1 * p1 + q0 * q0 + q1 * q1) + 117000 := by
  obtain ⟨u0, g0, n0⟩ := part_near 102 ta hp0 (neg_vl tb) hp1 tc hq0 (neg_vl td) hq1 (by omega) (by omega) (two_prods bw b0 (neg_abs (neg_abs bz)) b1) (two_prods (neg_abs bY) b2 (neg_abs (neg_abs bx)) b3) f0
  obtain ⟨u1, g1, n1⟩ := part_near 102 ta hp1 tb hp0 tc hq1 td hq0 (by omega) (by omega) (two_prods bw b1 (neg_abs bz) b0) (two_prods (neg_abs bY) b3 (neg_abs bx) b2) f1
  obtain ⟨v0, g2, n2⟩ := part_near 102 te hp0 (neg_vl tf) hp1 tg hq0 (neg_vl th) hq1 (by omega) (by omega) (two_prods bY b0 (neg_abs (neg_abs bx)) b1) (two_prods bw b2 (neg_abs bz) b3) f2
  obtain ⟨v1, g3, n3⟩ := part_near 102 te hp1 tf hp0 tg hq1 th hq0 (by omega) (by omega) (two_prods bY b1 (neg_abs bx) b0) (two_prods bw b3 bz b2) f3
  refine ⟨u0, u1, v0, v1, g0, g1, g2, g3, ?_⟩
  clear g0 g1 g2 g3 f0 f1 f2 f3 ta tb tc td te tf tg th hp0 hp1 hq0 hq1 bw bx bY bz b0 b1 b2 b3
  obtain ⟨N, hNe⟩ : ∃ N, N = w * w + x * x + y * y + z * z := ⟨_, rfl⟩
  obtain ⟨S, hSe⟩ : ∃ S, S = p0 * p0 + p1 * p1 + q0 * q0 + q1 * q1 := ⟨_, rfl⟩
  have c0 := cauchy w (- -z) (-y) (- -x) p0 p1 q0 q1
  have c1 := cauchy w (-z) (-y) (-x) p1 p0 q1 q0
  have c2 := cauchy y (- -x) w (-z) p0 p1 q0 q1
  have c3 := cauchy y (-x) w z p1 p0 q1 q0
  have k0 : (w * w + - -z * - -z + -y * -y + - -x * - -x) * (p0 * p0 + p1 * p1 + q0 * q0 + q1 * q1) = N * S := by rw [hNe, hSe]; grind
  have k1 : (w * w + -z * -z + -y * -y + -x * -x) * (p1 * p1 + p0 * p0 + q1 * q1 + q0 * q0) = N * S := by rw [hNe, hSe]; grind
  have k2 : (y * y + - -x * - -x + w * w + -z * -z) * (p0 * p0 + p1 * p1 + q0 * q0 + q1 * q1) = N * S := by rw [hNe, hSe]; grind
  have k3 : (y * y + -x * -x + w * w + z * z) * (p1 * p1 + p0 * p0 + q1 * q1 + q0 * q0) = N * S := by rw [hNe, hSe]; grind
  rw [k0] at c0
  rw [k1] at c1
  rw [k2] at c2
  rw [k3] at c3
  have nn : ∀ a b : Int, 0 ≤ (a.natAbs : Int) * (b.natAbs : Int) := fun a b => Int.mul_nonneg (by omega) (by omega)
  have a0 := sq_near (n0.wide (Int.add_le_add sum_abs_le sum_abs_le)) (Int.add_nonneg (Int.add_nonneg (nn _ _) (nn _ _)) (Int.add_nonneg (nn _ _) (nn _ _))) c0
  have a1 := sq_near (n1.wide (Int.add_le_add sum_abs_le sum_abs_le)) (Int.add_nonneg (Int.add_nonneg (nn _ _) (nn _ _)) (Int.add_nonneg (nn _ _) (nn _ _))) c1
  have a2 := sq_near (n2.wide (Int.add_le_add sum_abs_le sum_abs_le)) (Int.add_nonneg (Int.add_nonneg (nn _ _) (nn _ _)) (Int.add_nonneg (nn _ _) (nn _ _))) c2
  have a3 := sq_near (n3.wide (Int.add_le_add sum_abs_le sum_abs_le)) (Int.add_nonneg (Int.add_nonneg (nn _ _) (nn _ _)) (Int.add_nonneg (nn _ _) (nn _ _))) c3
  clear c0 c1 c2 c3 n0 n1 n2 n3 k0 k1 k2 k3
  -- the exact numbers
  have hid : (w * p0 + - -z * p1 + (-y * q0 + - -x * q1)) * (w * p0 + - -z * p1 + (-y * q0 + - -x * q1)) + (w * p1 + -z * p0 + (-y * q1 + -x * q0)) * (w * p1 + -z * p0 + (-y * q1 + -x * q0)) + (y * p0 + - -x * p1 + (w * q0 + -z * q1)) * (y * p0 + - -x * p1 + (w * q0 + -z * q1)) + (y * p1 + -x * p0 + (w * q1 + z * q0)) * (y * p1 + -x * p0 + (w * q1 + z * q0)) = N * S := by rw [hNe, hSe]; grind
  rw [← hNe] at hN
  rw [← hSe]
  generalize (w * p0 + - -z * p1 + (-y * q0 + - -x * q1)) * (w * p0 + - -z * p1 + (-y * q0 + - -x * q1)) = E0 at *
  generalize (w * p1 + -z * p0 + (-y * q1 + -x * q0)) * (w * p1 + -z * p0 + (-y * q1 + -x * q0)) = E1 at *
  generalize (y * p0 + - -x * p1 + (w * q0 + -z * q1)) * (y * p0 + - -x * p1 + (w * q0 + -z * q1)) = E2 at *
  generalize (y * p1 + -x * p0 + (w * q1 + z * q0)) * (y * p1 + -x * p0 + (w * q1 + z * q0)) = E3 at *
  have hS0 : 0 ≤ S := by
    have := sq_nonneg_int p0
    have := sq_nonneg_int p1
    have := sq_nonneg_int q0
    have := sq_nonneg_int q1
    omega
  have hK : 5 * (N * S) ≤ 6 * (ZI * ZI * S) := by
    have := Int.mul_le_mul_of_nonneg_right hN hS0
    have e1 : 5 * N * S = 5 * (N * S) := Int.mul_assoc ..
    have e2 : 6 * (ZI * ZI) * S = 6 * (ZI * ZI * S) := Int.mul_assoc ..
    rwa [e1, e2] at this
  have hzz : 0 < ZI * ZI := Int.mul_pos ZI_pos ZI_pos
  refine cancel_Z hzz ?_
  have q : ∀ u : Int, u * ZI * (u * ZI) = ZI * ZI * (u * u) := fun u => by grind
  rw [q] at a0 a1 a2 a3
  have hd : ZI * ZI * (u0 * u0 + u1 * u1 + v0 * v0 + v1 * v1) = ZI * ZI * (u0 * u0) + ZI * ZI * (u1 * u1) + ZI * ZI * (v0 * v0) + ZI * ZI * (v1 * v1) := by grind
  rw [hd]
  generalize ZI * ZI * (u0 * u0) = U0 at *
  generalize ZI * ZI * (u1 * u1) = U1 at *
  generalize ZI * ZI * (v0 * v0) = V0 at *
  generalize ZI * ZI * (v1 * v1) = V1 at *
  have hs0 : 0 ≤ ZI * ZI * S := Int.mul_nonneg (Int.le_of_lt hzz) hS0
  generalize ZI * ZI * S = ZS at *
  generalize ZI * ZI = zz at *
  generalize N * S = K at *
  clear hNe hSe hN hd q nn hS0
  omega

end Go.Proofs.Ytaghfffbhgpalaa
