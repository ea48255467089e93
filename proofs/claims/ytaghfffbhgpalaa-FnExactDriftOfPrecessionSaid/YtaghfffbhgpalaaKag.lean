/- What float32 sums, products and sums of two products are worth: near the exact numbers. The sum of two products by way of float64, near the exact number. -/
import Derived.Test.YtaghfffbhgpalaaKae
import Derived.Test.YtaghfffbhgpalaaKaf
namespace Go.Proofs.Ytaghfffbhgpalaa
open Go.RowKit

/-- 1, in units of the least number. -/
def ZZ : Nat := 2 ^ 149

theorem fin_small {s : Bool} {m : Nat} {p : Int} (h : fin (S s m p) = true) (b : Int) (hb1 : b ≤ p) (hb2 : b ≤ -149) : m * 2 ^ (p - b).toNat < 2 ^ (128 - b).toNat := by
  rcases Nat.lt_or_ge (m * 2 ^ (p - b).toNat) (2 ^ (128 - b).toNat) with g | g
  · exact g
  · exfalso
    have h1 := Flt.rung_mono Ieee.single 1 m 128 p b (by omega) hb1 (by rw [Nat.one_mul]; exact g)
    have h2 : Flt.rung Ieee.single 1 128 = 2139095040 := by decide +kernel
    have h3 : mag (S s m p) < 2139095040 := of_decide_eq_true h
    rw [(mag_S s m p).2] at h3
    omega

theorem S_same {s t : Bool} {m n : Nat} {p q : Int} (h : S s m p = S t n q) : s = t ∧ Flt.rung Ieee.single m p = Flt.rung Ieee.single n q := by
  have h1 := (mag_S s m p).2
  have h2 := (mag_S t n q).2
  have h3 : Flt.rung Ieee.single m p = Flt.rung Ieee.single n q := by rw [← h1, ← h2, h]
  refine ⟨?_, h3⟩
  have a1 := (Flt.nearest_word Ieee.single s m p).1
  have a2 := (Flt.nearest_word Ieee.single t n q).1
  have a3 := (Flt.nearest_word Ieee.single t n q).2
  have h4 : Ieee.single.word s (Flt.rung Ieee.single n q) = Ieee.single.word t (Flt.rung Ieee.single n q) := by rw [← a2, ← h3, ← a1]; exact h
  unfold Ieee.Format.word at h4
  rw [Flt.s_sw] at h4 a3
  cases s <;> cases t <;> simp at h4 ⊢

/-- A number, rounded to a float32: its worth. -/
theorem near_S {s : Bool} {m : Nat} {p : Int} (h : fin (S s m p) = true) (b : Int) (hb1 : b ≤ p) (hb2 : b ≤ -149) :
    ∃ n : Nat, Vl (S s m p) (Flt.sv s n) ∧ n * 2 ^ (-149 - b).toNat * 1024 ≤ m * 2 ^ (p - b).toNat * 1024 + m * 2 ^ (p - b).toNat + 1024 * 2 ^ (-149 - b).toNat ∧
      m * 2 ^ (p - b).toNat * 1024 ≤ n * 2 ^ (-149 - b).toNat * 1024 + m * 2 ^ (p - b).toNat + 1024 * 2 ^ (-149 - b).toNat := by
  obtain ⟨t, n, e, _, hf, he⟩ := fin_fit (S s m p) (mag_S s m p).1 h
  obtain ⟨rfl, hr⟩ := S_same he
  have hl := fitS_low hf
  have hM := fin_small h b hb1 hb2
  have C := core Ieee.single (by decide) (by decide) m n p e b hf hr hb1 (by omega) (by rw [Flt.s_lp]; exact hb2) (by rw [topS]; omega) (by rw [topS]; exact hM)
  rw [Flt.s_lp] at C
  have e1 : n * 2 ^ (e - b).toNat = n * 2 ^ (e + 149).toNat * 2 ^ (-149 - b).toNat := by
    rw [Nat.mul_assoc, ← Nat.pow_add]; congr 2; omega
  rw [e1] at C
  refine ⟨n * 2 ^ (e + 149).toNat, ⟨s, n, e, he, hf, ?_⟩, C.1, C.2⟩
  unfold Flt.sv
  cases s <;> simp [Int.neg_mul]

theorem sv_nat (s : Bool) (n : Nat) : (Flt.sv s n).natAbs = n := sv_abs s n

/-- The product of two float32. -/
theorem mul_near {x y z : Nat} {vx vy : Int} (hx : Vl x vx) (hy : Vl y vy) (h : floatBits .mul .f32 x y = some z) (hz : fin z = true) :
    ∃ v, Vl z v ∧ v.natAbs * ZZ * 1024 ≤ vx.natAbs * vy.natAbs * 1025 + 1024 * ZZ ∧ vx.natAbs * vy.natAbs * 1023 ≤ v.natAbs * ZZ * 1024 + 1024 * ZZ := by
  obtain ⟨s, m, p, rfl, hf, rfl⟩ := hx
  obtain ⟨t, n, q, rfl, hg, rfl⟩ := hy
  have l1 := fitS_low hf
  have l2 := fitS_low hg
  have h' : floatBits .mul .f32 (S s m p) (S t n q) = some (S (s ^^ t) (m * n) (p + q)) := Flt.mul_fit Ieee.single (by decide) s t m n p q hf hg
  obtain rfl := Option.some.inj (h.symm.trans h')
  obtain ⟨r, hv, c1, c2⟩ := near_S hz (-298) (by omega) (by omega)
  refine ⟨_, hv, ?_⟩
  rw [sv_nat, Int.natAbs_mul, Int.natAbs_mul, sv_nat, sv_nat]
  have e1 : ((2 : Int) ^ (p + 149).toNat).natAbs = 2 ^ (p + 149).toNat := by rw [Int.natAbs_pow]; rfl
  have e2 : ((2 : Int) ^ (q + 149).toNat).natAbs = 2 ^ (q + 149).toNat := by rw [Int.natAbs_pow]; rfl
  rw [e1, e2]
  have e3 : m * n * 2 ^ (p + q - -298).toNat = m * 2 ^ (p + 149).toNat * (n * 2 ^ (q + 149).toNat) := by
    rw [show (p + q - -298).toNat = (p + 149).toNat + (q + 149).toNat by omega, Nat.pow_add]; ac_rfl
  rw [e3] at c1 c2
  have e4 : (2 : Nat) ^ (-149 - -298 : Int).toNat = ZZ := rfl
  rw [e4] at c1 c2
  generalize m * 2 ^ (p + 149).toNat * (n * 2 ^ (q + 149).toNat) = M at *
  generalize r * ZZ = R at *
  omega

set_option maxRecDepth 20000 in
theorem abs_near {V r : Nat} (c1 : r * 1024 ≤ V * 1024 + V + 1024) (c2 : V * 1024 ≤ r * 1024 + V + 1024) : ((V : Int) - (r : Int)).natAbs * 1024 ≤ V + 1024 := by
  rcases Nat.le_total V r with h | h
  · rw [show (V : Int) - (r : Int) = -((r - V : Nat) : Int) by omega, Int.natAbs_neg, Int.natAbs_natCast]
    omega
  · rw [show (V : Int) - (r : Int) = ((V - r : Nat) : Int) by omega, Int.natAbs_natCast]
    omega

set_option maxRecDepth 20000 in
/-- The sum of two float32. -/
theorem sm_near {x y : Nat} {vx vy : Int} (hx : Vl x vx) (hy : Vl y vy) (hz : fin (sm x y) = true) :
    ∃ v, Vl (sm x y) v ∧ (v - (vx + vy)).natAbs * 1024 ≤ (vx + vy).natAbs + 1024 := by
  obtain ⟨s, m, p, rfl, hf, rfl⟩ := hx
  obtain ⟨t, n, q, rfl, hg, rfl⟩ := hy
  have l1 := fitS_low hf
  have l2 := fitS_low hg
  have h1 := Flt.add_fit Ieee.single (by decide) s t m n p q (-149) hf hg l1 l2
  have e1 : Flt.tot s m p t n q (-149) = Flt.sv s m * 2 ^ (p + 149).toNat + Flt.sv t n * 2 ^ (q + 149).toNat := rfl
  rw [e1] at h1
  generalize Flt.sv s m * 2 ^ (p + 149).toNat + Flt.sv t n * 2 ^ (q + 149).toNat = v at *
  have h3 : floatBits .add .f32 (S s m p) (S t n q) = some (Flt.wordOf Ieee.single (s && t) v (-149)) := h1
  have e2 : sm (S s m p) (S t n q) = Flt.wordOf Ieee.single (s && t) v (-149) := by unfold sm; rw [h3]; rfl
  rw [e2] at hz ⊢
  have e3 : Flt.wordOf Ieee.single (s && t) v (-149) = S (if v = 0 then (s && t) else decide (v < 0)) v.natAbs (-149) := rfl
  rw [e3] at hz ⊢
  obtain ⟨r, hv, c1, c2⟩ := near_S hz (-149) (by omega) (by omega)
  refine ⟨_, hv, ?_⟩
  rw [Int.sub_self, Int.toNat_zero, Nat.pow_zero] at c1 c2
  simp only [Nat.mul_one] at c1 c2
  clear hv hz e2 e3 h3 h1 e1 hf hg l1 l2
  by_cases h0 : v = 0
  · subst h0
    rw [if_pos rfl]
    have e5 : (Flt.sv (s && t) r - 0).natAbs = r := by rw [Int.sub_zero, sv_nat]
    rw [e5]
    simpa using c1
  · rw [if_neg h0]
    by_cases hneg : v < 0
    · rw [decide_eq_true hneg]
      obtain ⟨V, rfl⟩ : ∃ V : Nat, v = -(V : Int) := ⟨v.natAbs, by omega⟩
      rw [Int.natAbs_neg, Int.natAbs_natCast] at c1 c2
      have e5 : Flt.sv true r - -(V : Int) = (V : Int) - (r : Int) := by simp [Flt.sv]; omega
      rw [e5, Int.natAbs_neg, Int.natAbs_natCast]
      exact abs_near c1 c2
    · rw [decide_eq_false hneg]
      obtain ⟨V, rfl⟩ : ∃ V : Nat, v = (V : Int) := ⟨v.natAbs, by omega⟩
      rw [Int.natAbs_natCast] at c1 c2
      have e5 : Flt.sv false r - (V : Int) = -((V : Int) - (r : Int)) := by simp [Flt.sv]; omega
      rw [e5, Int.natAbs_neg, Int.natAbs_natCast]
      exact abs_near c1 c2

end Go.Proofs.Ytaghfffbhgpalaa

namespace Go.Proofs.Ytaghfffbhgpalaa
open Go.RowKit

set_option maxRecDepth 20000 in
theorem near_join {n E Z W N : Nat} (hW : 1 ≤ W) (hZ : 1 ≤ Z) (a1 : N * 1024 ≤ E * W * 1024 + E * W + 1024) (a2 : E * W * 1024 ≤ N * 1024 + E * W + 1024)
    (c1 : n * (Z * W) * 1024 ≤ N * 1024 + N + 1024 * (Z * W)) (c2 : N * 1024 ≤ n * (Z * W) * 1024 + N + 1024 * (Z * W)) :
    n * Z * 1000 ≤ E * 1003 + 2010 * Z ∧ E * 1000 ≤ n * Z * 1003 + 2010 * Z := by
  have hzw : 1 ≤ Z * W := Nat.mul_pos hZ hW
  have e1 : n * (Z * W) = n * Z * W := (Nat.mul_assoc ..).symm
  rw [e1] at c1 c2
  constructor
  · refine Nat.le_of_mul_le_mul_right (c := W) ?_ (by omega)
    have g1 : n * Z * 1000 * W = n * Z * W * 1000 := by ac_rfl
    have g2 : (E * 1003 + 2010 * Z) * W = E * W * 1003 + 2010 * (Z * W) := by rw [Nat.add_mul]; congr 1 <;> ac_rfl
    rw [g1, g2]
    generalize n * Z * W = x at *
    generalize E * W = y at *
    generalize Z * W = z at *
    omega
  · refine Nat.le_of_mul_le_mul_right (c := W) ?_ (by omega)
    have g1 : E * 1000 * W = E * W * 1000 := by ac_rfl
    have g2 : (n * Z * 1003 + 2010 * Z) * W = n * Z * W * 1003 + 2010 * (Z * W) := by rw [Nat.add_mul]; congr 1 <;> ac_rfl
    rw [g1, g2]
    generalize n * Z * W = x at *
    generalize E * W = y at *
    generalize Z * W = z at *
    omega

theorem ex_near {a b c d : Nat} {va vb vc vd : Int} (k : Int) (ha : Vl a va) (hb : Vl b vb) (hc : Vl c vc) (hd : Vl d vd) (h1 : -126 ≤ k) (h2 : k ≤ 127) (h : (va * vb + vc * vd).natAbs ≤ 2 ^ (k + 298).toNat) :
    ∃ (s : Bool) (n : Nat), Vl (ex a b c d) (Flt.sv s n) ∧ (va * vb + vc * vd = 0 ∨ s = decide (va * vb + vc * vd < 0)) ∧
      n * ZZ * 1000 ≤ (va * vb + vc * vd).natAbs * 1003 + 2010 * ZZ ∧ (va * vb + vc * vd).natAbs * 1000 ≤ n * ZZ * 1003 + 2010 * ZZ := by
  obtain ⟨z, hw⟩ := ad_word ha hb hc hd
  have e1 : ad (mu (wd a) (wd b)) (mu (wd c) (wd d)) = Flt.wordOf Ieee.double z (va * vb + vc * vd) (-298) := by unfold ad; rw [hw]; rfl
  unfold ex
  rw [e1]
  generalize va * vb + vc * vd = v at *
  unfold Flt.wordOf
  generalize hsg : (if v = 0 then z else decide (v < 0)) = s at *
  have hsign : v = 0 ∨ s = decide (v < 0) := by
    by_cases h : v = 0
    · exact .inl h
    · rw [if_neg h] at hsg; exact .inr hsg.symm
  generalize v.natAbs = n at *
  clear hw e1 ha hb hc hd hsg
  -- the float64
  have hpw := Flt.double_pow k (by omega) (by omega)
  have hr : Flt.rung Ieee.double n (-298) ≤ Flt.rung Ieee.double 1 k := by
    refine Flt.rung_mono Ieee.double n 1 (-298) k (-298) (Int.le_refl _) (by omega) ?_
    rw [Int.sub_self, Int.toNat_zero, Nat.pow_zero, Nat.mul_one, Nat.one_mul]
    exact h
  obtain ⟨g1, g2⟩ := Flt.nearest_word Ieee.double s n (-298)
  rw [Flt.d_sw] at g2
  have g3 : (Ieee.double.word s (Flt.rung Ieee.double n (-298))) % Ieee.double.signWeight = Flt.rung Ieee.double n (-298) := by
    unfold Ieee.Format.word
    rw [Flt.d_sw]
    cases s <;> simp <;> omega
  have g4 : Ieee.double.word s (Flt.rung Ieee.double n (-298)) < 2 ^ Ieee.double.width := by
    unfold Ieee.Format.word
    rw [Flt.d_sw]
    have : (2 : Nat) ^ Ieee.double.width = 18446744073709551616 := by decide
    rw [this]
    cases s <;> simp <;> omega
  obtain ⟨s', m, e, hread, hfit, hx⟩ := Flt.word_fit Ieee.double (by decide) (Ieee.double.word s (Flt.rung Ieee.double n (-298))) g4 (by rw [g3, Flt.d_inf]; omega)
  have hss : s' = s := by
    obtain ⟨q1, q2⟩ := Flt.nearest_word Ieee.double s' m e
    rw [q1] at hx
    rw [Flt.d_sw] at q2
    unfold Ieee.Format.word at hx
    rw [Flt.d_sw] at hx
    cases s <;> cases s' <;> simp at hx ⊢ <;> omega
  subst hss
  rw [g1]
  generalize Ieee.double.word s' (Flt.rung Ieee.double n (-298)) = X at *
  have hr2 : Flt.rung Ieee.double m e = Flt.rung Ieee.double n (-298) := by
    obtain ⟨q1, q2⟩ := Flt.nearest_word Ieee.double s' m e
    rw [← hx] at q1
    rw [← g3, q1]
    rw [Flt.d_sw] at q2 ⊢
    unfold Ieee.Format.word
    rw [Flt.d_sw]
    cases s' <;> simp <;> omega
  have hfit1 : Flt.Fit Ieee.double 1 k := fitD_one k (by omega) (by omega)
  have hlow : Ieee.double.leastPlace ≤ e := hfit.2.1
  rw [Flt.d_lp] at hlow
  have hle := le_of_rung Ieee.double (by decide) m 1 e k (-1074) hfit hfit1 hlow (by omega) (by rw [hr2]; exact hr)
  rw [Nat.one_mul] at hle
  -- the float32
  have hbd : Bd k (S s' m e) := bd_mk s' m e k (-1074) h1 h2 hlow (by omega) hle
  have hs : floatToFloatBits .f64 X .f32 = some (S s' m e) := by
    unfold floatToFloatBits
    rw [if_neg (by decide)]
    have hdec : FloatKind.f64.decode X = .number s' m e := hread
    rw [hdec]
    have he : FloatKind.f32.encode (.number s' m e) = S s' m e := rfl
    simp only [he]
    obtain ⟨s2, m2, p2, hd2, _, _⟩ := fin_fit (S s' m e) hbd.1 (bd_fin hbd h2)
    have hd3 : FloatKind.f32.decode (S s' m e) = .number s2 m2 p2 := hd2
    rw [hd3]
    rfl
  have hn : nr X = S s' m e := by unfold nr; rw [hs]; rfl
  rw [hn]
  have hfin := bd_fin hbd h2
  have dtop : Flt.top Ieee.double = 1023 := by decide +kernel
  have C := core Ieee.double (by decide) (by decide) n m (-298) e (-1074) hfit hr2.symm (by omega) hlow (by rw [Flt.d_lp]; omega) (by rw [dtop]; omega) (by
    rw [dtop]
    calc n * 2 ^ (-298 - -1074 : Int).toNat ≤ 2 ^ (k + 298).toNat * 2 ^ (-298 - -1074 : Int).toNat := Nat.mul_le_mul_right _ h
      _ = 2 ^ ((k + 298).toNat + (-298 - -1074 : Int).toNat) := (Nat.pow_add ..).symm
      _ < 2 ^ ((1023 : Int) + 1 - -1074).toNat := Nat.pow_lt_pow_right (by omega) (by omega))
  obtain ⟨r, hv, c1, c2⟩ := near_S hfin (-1074) hlow (by omega)
  refine ⟨s', r, hv, hsign, ?_⟩
  rw [Flt.d_lp] at C
  have w2 : (2 : Nat) ^ (-1074 - -1074 : Int).toNat = 1 := by rw [Int.sub_self]; rfl
  have w3 : (2 : Nat) ^ (-149 - -1074 : Int).toNat = ZZ * 2 ^ (-298 - -1074 : Int).toNat := by
    unfold ZZ
    rw [← Nat.pow_add]; congr 1
  rw [w2, Nat.mul_one] at C
  rw [w3] at c1 c2
  have hW1 : 1 ≤ 2 ^ (-298 - -1074 : Int).toNat := Nat.two_pow_pos _
  have hZ1 : 1 ≤ ZZ := Nat.two_pow_pos _
  exact near_join hW1 hZ1 C.1 C.2 c1 c2

end Go.Proofs.Ytaghfffbhgpalaa
