/- The norm of a step: the inequalities, put together. A quotient of float32, near the exact one from above. -/
import Derived.Test.YtaghfffbhgpalaaKaj
namespace Go.Proofs.Ytaghfffbhgpalaa
open Go.RowKit

set_option maxRecDepth 20000 in
theorem norm_end {x w f a d g h k KK SQ Q r s T z Z : Nat}
 (i1 : 1000*(x*z) ≤ 1013*(f*a) + 303000*z)
 (i2 : 1000*(f*d) ≤ 1014*(h*z) + 101000*d)
 (i3 : 1000*(w*d) ≤ 1014*(g*z)+101000*d)
 (i4 : 1000*h ≤ 4050*k+405000)
 (i5 : 1000*k ≤ 1001*((KK+1)*Z))
 (i6 : 10000*a ≤ (10031*SQ+52000)*Z)
 (i7 : 1000*(KK*SQ) ≤ 1001*((Q+1)*Z))
 (i8 : 1000*g ≤ 1013*r+101000)
 (i9 : 1000*s ≤ 1013*d+102000)
 (i10 : s = r + 4*(Z*Q))
 (hz : z = Z*Z) (hs : z ≤ s) (ha : a ≤ 3*(T*z)) (hk : KK ≤ T*Z) (hq : SQ ≤ T*Z) (hT : 2097152*T = Z) (T1 : 1 ≤ T) :
 5*(w+x) ≤ 6*z := by
  have p1 := Nat.mul_le_mul_right d i1
  have p2 := Nat.mul_le_mul_right a i2
  have p2' := Nat.mul_le_mul_right d ha
  have p3 := Nat.mul_le_mul_right (z*a) i4
  have p3' := Nat.mul_le_mul_right z ha
  have p4 := Nat.mul_le_mul i5 i6
  have p5 := Nat.mul_le_mul_right (z*z) hq
  have p5' := Nat.mul_le_mul_right (z*z) hk
  have p4' := Nat.mul_le_mul_right z p4
  have p6 := Nat.mul_le_mul_right (z*z) i7
  have p7 := Nat.mul_le_mul_right z i3
  have p8 := Nat.mul_le_mul_right (z*z) i8
  have p9 := Nat.mul_le_mul_right (z*z) i9
  have p10 := Nat.mul_le_mul_right (z*z) hs
  have hzT : 4398046511104*(T*T) = z := by subst hT; rw [hz]; grind
  have hTT : T ≤ T*T := Nat.le_mul_of_pos_left T (by omega)
  have hTz : 4398046511104*T ≤ z := by omega
  have p11 := Nat.mul_le_mul_right (z*d) hTz
  have p12 := Nat.mul_le_mul_right (z*z) hTz
  -- the atoms
  have q1 : 1000*(x*z)*d = 1000*(x*z*d) := by grind
  have q1' : (1013*(f*a) + 303000*z)*d = 1013*(f*a*d) + 303000*(z*d) := by grind
  have q2 : 1000*(f*d)*a = 1000*(f*a*d) := by grind
  have q2' : (1014*(h*z) + 101000*d)*a = 1014*(h*z*a) + 101000*(a*d) := by grind
  have q2'' : 3*(T*z)*d = 3*(T*(z*d)) := by grind
  have q3 : 1000*h*(z*a) = 1000*(h*z*a) := by grind
  have q3' : (4050*k+405000)*(z*a) = 4050*(k*a*z) + 405000*(a*z) := by grind
  have q3'' : 3*(T*z)*z = 3*(T*(z*z)) := by grind
  have q4 : 1000*k*(10000*a)*z = 10000000*(k*a*z) := by grind
  have q4' : 1001*((KK+1)*Z)*((10031*SQ+52000)*Z)*z = 1001*(10031*(KK*SQ*(z*z)) + 52000*(KK*(z*z)) + 10031*(SQ*(z*z)) + 52000*(z*z)) := by subst hz; grind
  have q5 : T*Z*(z*z) = Z*T*(z*z) := by grind
  have q6 : 1000*(KK*SQ)*(z*z) = 1000*(KK*SQ*(z*z)) := by grind
  have q6' : 1001*((Q+1)*Z)*(z*z) = 1001*(Z*Q*(z*z)) + 1001*(Z*(z*z)) := by grind
  have q7 : 1000*(w*d)*z = 1000*(w*z*d) := by grind
  have q7' : (1014*(g*z)+101000*d)*z = 1014*(g*(z*z)) + 101000*(z*d) := by grind
  have q8 : 1000*g*(z*z) = 1000*(g*(z*z)) := by grind
  have q8' : (1013*r+101000)*(z*z) = 1013*(r*(z*z)) + 101000*(z*z) := by grind
  have q9 : 1000*s*(z*z) = 1000*(s*(z*z)) := by grind
  have q9' : (1013*d+102000)*(z*z) = 1013*(d*(z*z)) + 102000*(z*z) := by grind
  have q10 : s*(z*z) = r*(z*z) + 4*(Z*Q*(z*z)) := by rw [i10]; grind
  have q11 : 4398046511104*T*(z*d) = 4398046511104*(T*(z*d)) := by grind
  have q11' : z*(z*d) = d*(z*z) := by grind
  have q12 : 4398046511104*T*(z*z) = 4398046511104*(T*(z*z)) := by grind
  have q13 : 2097152*(Z*T*(z*z)) = z*(z*z) := by rw [hz, ← hT]; grind
  have q14 : Z*(z*z) ≤ Z*T*(z*z) := by
    have := Nat.mul_le_mul_right (z*z) (Nat.le_mul_of_pos_right Z (show 0 < T by omega))
    exact this
  have q15 : z*z ≤ T*(z*z) := Nat.le_mul_of_pos_left _ (by omega)
  have q16 : z*d ≤ T*(z*d) := Nat.le_mul_of_pos_left _ (by omega)
  rw [q1, q1'] at p1
  rw [q2, q2'] at p2
  rw [q2''] at p2'
  rw [q3, q3'] at p3
  rw [q3''] at p3'
  rw [q4, q4'] at p4'
  rw [q5] at p5 p5'
  rw [q6, q6'] at p6
  rw [q7, q7'] at p7
  rw [q8, q8'] at p8
  rw [q9, q9'] at p9
  rw [q11, q11'] at p11
  rw [q12] at p12
  have z1 : 0 < z := by omega
  have d1 : 0 < d := by omega
  have key : 5*(w*z*d + x*z*d) ≤ 6*(d*(z*z)) := by
    clear p4 i1 i2 i3 i4 i5 i6 i7 i8 i9 i10 hz ha hk hq hT q1 q1' q2 q2' q2'' q3 q3' q3'' q4 q4' q5 q6 q6' q7 q7' q8 q8' q9 q9' q11 q11' q12 hzT hTT
    generalize x*z*d = xzd at *
    generalize f*a*d = fad at *
    generalize T*(z*d) = tzd at *
    generalize z*d = zd at *
    generalize h*z*a = hza at *
    generalize a*d = ad at *
    generalize k*a*z = kaz at *
    generalize a*z = az at *
    generalize KK*SQ*(z*z) = ks at *
    generalize KK*(z*z) = kk at *
    generalize SQ*(z*z) = sq at *
    generalize Z*T*(z*z) = B at *
    generalize Z*Q*(z*z) = A at *
    generalize Z*(z*z) = Zz at *
    generalize w*z*d = wzd at *
    generalize g*(z*z) = gz at *
    generalize r*(z*z) = rz at *
    generalize s*(z*z) = sz at *
    generalize d*(z*z) = dz at *
    generalize z*(z*z) = zzz at *
    generalize T*(z*z) = tz at *
    generalize z*z = zz at *
    omega
  have e1 : 5*(w*z*d + x*z*d) = 5*(w+x)*(z*d) := by grind
  have e2 : 6*(d*(z*z)) = 6*z*(z*d) := by grind
  rw [e1, e2] at key
  exact Nat.le_of_mul_le_mul_right key (Nat.mul_pos z1 d1)

theorem sqA {x a b : Nat} (h : x ≤ a + b) : 100 * (x * x) ≤ 101 * (a * a) + 10100 * (b * b) := by
  have h1 := Nat.mul_le_mul h h
  have e : (a + b) * (a + b) = a * a + 2 * (a * b) + b * b := by grind
  rw [e] at h1
  have h2 := sq_nonneg_int ((a : Int) - 100 * (b : Int))
  have e2 : ((a : Int) - 100 * (b : Int)) * ((a : Int) - 100 * (b : Int)) = ((a * a : Nat) : Int) - 200 * ((a * b : Nat) : Int) + 10000 * ((b * b : Nat) : Int) := by
    push_cast
    grind
  rw [e2] at h2
  generalize x * x = X at *
  generalize a * a = A at *
  generalize a * b = B at *
  generalize b * b = C at *
  omega

theorem vl_nn {x : Nat} {v : Int} (h : Vl x v) (hx : x < 2147483648) : 0 ≤ v := by
  obtain ⟨s, m, p, rfl, hf, rfl⟩ := h
  cases s
  · unfold Flt.sv
    exact Int.mul_nonneg (by simp) (Int.le_of_lt (Int.pow_pos (by omega)))
  · exfalso
    have h1 := (Flt.nearest_word Ieee.single true m p).1
    have h2 : S true m p = Ieee.single.word true (Flt.rung Ieee.single m p) := h1
    unfold Ieee.Format.word at h2
    rw [Flt.s_sw] at h2
    simp at h2
    omega

theorem vl_small {x : Nat} {v : Int} (h : Vl x v) (hf : fin x = true) : v.natAbs ≤ 2 ^ 128 * ZZ := by
  obtain ⟨s, m, p, rfl, hfit, rfl⟩ := h
  have hl := fitS_low hfit
  have := fin_small hf (-149) hl (by omega)
  rw [Int.natAbs_mul, sv_nat, Int.natAbs_pow]
  have e : (p - -149).toNat = (p + 149).toNat := by congr 1
  have e2 : (2 : Nat) ^ (128 - -149 : Int).toNat = 2 ^ 128 * ZZ := by unfold ZZ; rw [← Nat.pow_add]; congr 1
  rw [e, e2] at this
  exact Nat.le_of_lt this

set_option maxRecDepth 20000 in
/-- Half of a number. -/
theorem half_near {h k : Nat} {vh : Int} (hh : Vl h vh) (hk : floatBits .quo .f32 h 1073741824 = some k) (fk : fin k = true) : ∃ v, Vl k v ∧ vh.natAbs * 1023 ≤ 2048 * v.natAbs + 2048 := by
  obtain ⟨s, m, p, rfl, hf, rfl⟩ := hh
  have l1 := fitS_low hf
  have e2 : (1073741824 : Nat) = Ieee.single.nearest false 1 1 := by decide +kernel
  have f2 : Flt.Fit Ieee.single 1 1 := fitS_pow 1 (by omega) (by omega)
  have hq : floatBits .quo .f32 (S s m p) 1073741824 = some (S (s ^^ false) m (p - 1)) := by
    rw [e2]
    exact Flt.div_pow Ieee.single (by decide) s false m p 1 hf f2
  obtain rfl := Option.some.inj (hk.symm.trans hq)
  obtain ⟨n, hv, c1, c2⟩ := near_S fk (-150) (by omega) (by omega)
  refine ⟨_, hv, ?_⟩
  rw [sv_nat, Int.natAbs_mul, sv_nat, Int.natAbs_pow]
  have e : (p - 1 - -150).toNat = (p + 149).toNat := by congr 1; omega
  have e3 : (2 : Nat) ^ (-149 - -150 : Int).toNat = 2 := by decide
  rw [e, e3] at c2
  show m * 2 ^ (p + 149).toNat * 1023 ≤ 2048 * n + 2048
  generalize m * 2 ^ (p + 149).toNat = M at *
  omega

set_option maxRecDepth 20000 in
/-- A difference of numbers of at least 0. -/
theorem sub_near {x y z : Nat} {vx vy : Int} (hx : Vl x vx) (hy : Vl y vy) (gx : x < 2139095040) (gy : y < 2139095040) (h : floatBits .sub .f32 x y = some z) (fz : fin z = true) : ∃ v, Vl z v ∧ v.natAbs * 1024 ≤ (vx - vy).natAbs * 1025 + 1024 := by
  obtain ⟨s, m, p, rfl, hf, rfl⟩ := hx
  obtain ⟨t, n, q, rfl, hg, rfl⟩ := hy
  have l1 := fitS_low hf
  have l2 := fitS_low hg
  have a1 := Flt.add_fit Ieee.single (by decide) s (!t) m n p q (-149) hf hg l1 l2
  have a3 : floatBits .sub .f32 (S s m p) (S t n q) = some (Flt.wordOf Ieee.single (s && !t) (Flt.tot s m p (!t) n q (-149)) (-149)) :=
    (Flt.sub_flip Ieee.single (S s m p) (S t n q) t n q (by decide) hg rfl).trans a1
  obtain rfl := Option.some.inj (h.symm.trans a3)
  have e1 : Flt.tot s m p (!t) n q (-149) = Flt.sv s m * 2 ^ (p + 149).toNat - Flt.sv t n * 2 ^ (q + 149).toNat := by
    have e : Flt.tot s m p (!t) n q (-149) = Flt.sv s m * 2 ^ (p + 149).toNat + Flt.sv (!t) n * 2 ^ (q + 149).toNat := rfl
    rw [e]
    have : Flt.sv (!t) n = - Flt.sv t n := by unfold Flt.sv; cases t <;> simp
    rw [this, Int.neg_mul, Int.sub_eq_add_neg]
  rw [e1] at fz ⊢
  generalize Flt.sv s m * 2 ^ (p + 149).toNat - Flt.sv t n * 2 ^ (q + 149).toNat = v at *
  have e3 : Flt.wordOf Ieee.single (s && !t) v (-149) = S (if v = 0 then (s && !t) else decide (v < 0)) v.natAbs (-149) := rfl
  rw [e3] at fz ⊢
  obtain ⟨r, hv, c1, _⟩ := near_S fz (-149) (by omega) (by omega)
  refine ⟨_, hv, ?_⟩
  rw [Int.sub_self, Int.toNat_zero, Nat.pow_zero] at c1
  simp only [Nat.mul_one] at c1
  rw [sv_nat]
  generalize v.natAbs = V at *
  omega

end Go.Proofs.Ytaghfffbhgpalaa

namespace Go.Proofs.Ytaghfffbhgpalaa
open Go.RowKit

set_option maxRecDepth 20000 in
theorem quo_join {r Vy w QN Vx Z : Nat} (hw : 0 < w) (c1 : r * Vy * w * 1024 ≤ QN * 1025 + 1024 * (w * Vy)) (c2 : QN * 33554432 ≤ Vx * Z * w * 33554433) : r * Vy * 1024 ≤ Vx * Z * 1026 + 1024 * Vy := by
  refine Nat.le_of_mul_le_mul_right (c := w) ?_ hw
  have e1 : r * Vy * 1024 * w = r * Vy * w * 1024 := by ac_rfl
  have e2 : (Vx * Z * 1026 + 1024 * Vy) * w = Vx * Z * w * 1026 + 1024 * (w * Vy) := by rw [Nat.add_mul]; congr 1 <;> ac_rfl
  rw [e1, e2]
  generalize r * Vy * w = a at *
  generalize w * Vy = b at *
  generalize Vx * Z * w = c at *
  omega

theorem quo_arith {A B C : Nat} (h1 : A ≤ 2 * B + C) (h2 : C * 16777216 ≤ B) : A * 33554432 ≤ 2 * B * 33554433 := by
  rw [Nat.mul_comm] at h2
  rw [Nat.mul_comm A, Nat.mul_comm (2 * B)]
  omega

set_option maxRecDepth 20000 in
theorem quo_near {x y z : Nat} {vx vy : Int} (hx : Vl x vx) (hy : Vl y vy) (h0 : vy ≠ 0) (h : floatBits .quo .f32 x y = some z) (fz : fin z = true) :
    ∃ v, Vl z v ∧ v.natAbs * vy.natAbs * 1024 ≤ vx.natAbs * ZZ * 1026 + 1024 * vy.natAbs := by
  obtain ⟨s, m, p, rfl, hf, rfl⟩ := hx
  obtain ⟨t, n, q, rfl, hg, rfl⟩ := hy
  have l1 := fitS_low hf
  have l2 := fitS_low hg
  have hn : n ≠ 0 := by
    rintro rfl
    apply h0
    unfold Flt.sv
    cases t <;> simp
  obtain ⟨u, hu⟩ := Flt.read_fit Ieee.single (by decide) s m p hf
  obtain ⟨v, hv⟩ := Flt.read_fit Ieee.single (by decide) t n q hg
  have hN : n * 2 ^ v ≠ 0 := Nat.mul_ne_zero hn (by have := Nat.two_pow_pos v; omega)
  have h1 : Ieee.single.div (Ieee.single.nearest s m p) (Ieee.single.nearest t n q) = some z := h
  unfold Ieee.Format.div at h1
  rw [hu, hv] at h1
  simp only [Ieee.Datum.quotient] at h1
  rw [if_neg hN] at h1
  simp only [Option.map_some, Ieee.Format.write] at h1
  have hfb : Ieee.single.fractionBits = 23 := rfl
  rw [hfb] at h1
  generalize hmore : 23 + 2 + (n * 2 ^ v).log2 - (m * 2 ^ u).log2 = more at h1
  obtain rfl := Option.some.inj h1
  obtain ⟨b, hb⟩ : ∃ b : Int, b = min (p - u - (q - v) - more - 1) (-149) := ⟨_, rfl⟩
  have fz' : fin (S (s ^^ t) (2 * ((m * 2 ^ u) <<< more / (n * 2 ^ v)) + ((m * 2 ^ u) <<< more % (n * 2 ^ v) != 0).toNat) (p - u - (q - v) - more - 1)) = true := fz
  obtain ⟨r, hr, c1, _⟩ := near_S fz' b (by omega) (by omega)
  refine ⟨_, hr, ?_⟩
  rw [sv_nat, Int.natAbs_mul, sv_nat, Int.natAbs_pow, Int.natAbs_mul, sv_nat, Int.natAbs_pow]
  show r * (n * 2 ^ (q + 149).toNat) * 1024 ≤ m * 2 ^ (p + 149).toNat * ZZ * 1026 + 1024 * (n * 2 ^ (q + 149).toNat)
  by_cases hm : m = 0
  · subst hm
    have e : 2 * ((0 * 2 ^ u) <<< more / (n * 2 ^ v)) + ((0 * 2 ^ u) <<< more % (n * 2 ^ v) != 0).toNat = 0 := by simp
    rw [e] at c1
    simp only [Nat.zero_mul, Nat.zero_add] at c1
    have hU := Nat.two_pow_pos (-149 - b).toNat
    have hr1 : r ≤ 1 := by
      refine Nat.le_of_mul_le_mul_right (c := 2 ^ (-149 - b).toNat * 1024) ?_ (by omega)
      have e2 : r * (2 ^ (-149 - b).toNat * 1024) = r * 2 ^ (-149 - b).toNat * 1024 := by ac_rfl
      rw [e2]
      generalize r * 2 ^ (-149 - b).toNat = R at *
      generalize 2 ^ (-149 - b).toNat = U at *
      omega
    have := Nat.mul_le_mul_right (n * 2 ^ (q + 149).toNat) hr1
    generalize r * (n * 2 ^ (q + 149).toNat) = R at *
    simp only [Nat.zero_mul, Nat.zero_add]
    generalize n * 2 ^ (q + 149).toNat = V at *
    clear c1 e
    omega
  have hM : m * 2 ^ u ≠ 0 := Nat.mul_ne_zero hm (by have := Nat.two_pow_pos u; omega)
  have hbig : n * 2 ^ v * 2 ^ 24 ≤ (m * 2 ^ u) <<< more := by
    rw [Nat.shiftLeft_eq]
    have g1 := Nat.log2_self_le hM
    have g2 := Nat.lt_log2_self (n := n * 2 ^ v)
    calc n * 2 ^ v * 2 ^ 24 ≤ 2 ^ ((n * 2 ^ v).log2 + 1) * 2 ^ 24 := Nat.mul_le_mul_right _ (Nat.le_of_lt g2)
      _ = 2 ^ ((n * 2 ^ v).log2 + 1 + 24) := (Nat.pow_add ..).symm
      _ ≤ 2 ^ ((m * 2 ^ u).log2 + more) := Nat.pow_le_pow_right (by omega) (by omega)
      _ = 2 ^ (m * 2 ^ u).log2 * 2 ^ more := Nat.pow_add ..
      _ ≤ m * 2 ^ u * 2 ^ more := Nat.mul_le_mul_right _ g1
  have hQN : (2 * ((m * 2 ^ u) <<< more / (n * 2 ^ v)) + ((m * 2 ^ u) <<< more % (n * 2 ^ v) != 0).toNat) * (n * 2 ^ v) ≤ 2 * (m * 2 ^ u) <<< more + n * 2 ^ v := by
    generalize (m * 2 ^ u) <<< more = Dv
    generalize n * 2 ^ v = N
    have k1 := Nat.div_mul_le_self Dv N
    have k2 : ∀ c : Bool, c.toNat ≤ 1 := by intro c; cases c <;> decide
    have k3 := Nat.mul_le_mul_right N (k2 (Dv % N != 0))
    rw [Nat.add_mul, Nat.mul_assoc]
    rw [Nat.one_mul] at k3
    omega
  have hE : 2 * (m * 2 ^ u) <<< more * 2 ^ (p - u - (q - v) - more - 1 - b).toNat * 2 ^ (q + 149).toNat = m * 2 ^ (p + 149).toNat * ZZ * (2 ^ (-149 - b).toNat * 2 ^ v) := by
    rw [Nat.shiftLeft_eq]
    unfold ZZ
    have e1 : 2 * (m * 2 ^ u * 2 ^ more) * 2 ^ (p - u - (q - v) - more - 1 - b).toNat * 2 ^ (q + 149).toNat = m * 2 ^ (1 + u + more + (p - u - (q - v) - more - 1 - b).toNat + (q + 149).toNat) := by
      rw [Nat.pow_add, Nat.pow_add, Nat.pow_add, Nat.pow_add, Nat.pow_one]; ac_rfl
    have e2 : m * 2 ^ (p + 149).toNat * 2 ^ 149 * (2 ^ (-149 - b).toNat * 2 ^ v) = m * 2 ^ ((p + 149).toNat + 149 + (-149 - b).toNat + v) := by
      rw [Nat.pow_add, Nat.pow_add, Nat.pow_add]; ac_rfl
    rw [e1, e2]
    congr 2
    omega
  generalize 2 * ((m * 2 ^ u) <<< more / (n * 2 ^ v)) + ((m * 2 ^ u) <<< more % (n * 2 ^ v) != 0).toNat = Q at *
  generalize (m * 2 ^ u) <<< more = Dv at *
  have hw : 0 < 2 ^ (-149 - b).toNat * 2 ^ v := Nat.mul_pos (Nat.two_pow_pos _) (Nat.two_pow_pos _)
  have hc := Nat.mul_le_mul_right (n * 2 ^ v * 2 ^ (q + 149).toNat) c1
  have hd := Nat.mul_le_mul_right (2 ^ (p - u - (q - v) - more - 1 - b).toNat * 2 ^ (q + 149).toNat) hQN
  have he := Nat.mul_le_mul_right (2 ^ (p - u - (q - v) - more - 1 - b).toNat * 2 ^ (q + 149).toNat) hbig
  have e24 : (2 : Nat) ^ 24 = 16777216 := by decide
  rw [e24] at he
  generalize 2 ^ (p - u - (q - v) - more - 1 - b).toNat = e1 at *
  generalize 2 ^ (-149 - b).toNat = U at *
  generalize 2 ^ (q + 149).toNat = c at *
  generalize m * 2 ^ (p + 149).toNat = Vx at *
  generalize 2 ^ v = V2 at *
  refine quo_join (w := U * V2) (QN := Q * (n * V2) * (e1 * c)) hw ?_ ?_
  · have a1 : r * U * 1024 * (n * V2 * c) = r * (n * c) * (U * V2) * 1024 := by ac_rfl
    have a2 : (Q * e1 * 1024 + Q * e1 + 1024 * U) * (n * V2 * c) = Q * (n * V2) * (e1 * c) * 1025 + 1024 * (U * V2 * (n * c)) := by grind
    rw [a1, a2] at hc
    exact hc
  · have a3 : 2 * Dv * e1 * c = 2 * (Dv * (e1 * c)) := by ac_rfl
    have a4 : (2 * Dv + n * V2) * (e1 * c) = 2 * (Dv * (e1 * c)) + n * V2 * (e1 * c) := by grind
    have a5 : n * V2 * 16777216 * (e1 * c) = n * V2 * (e1 * c) * 16777216 := by ac_rfl
    rw [a3] at hE
    rw [a4] at hd
    rw [a5] at he
    rw [← hE]
    exact quo_arith hd he

end Go.Proofs.Ytaghfffbhgpalaa
