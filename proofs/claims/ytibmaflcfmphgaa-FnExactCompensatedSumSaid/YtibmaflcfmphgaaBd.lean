/- Floats of a program: numbers below a power of two, their products and sums. -/
import Derived.Test.YtibmaflcfmphgaaWA
import Derived.Test.YtibmaflcfmphgaaMono
namespace Go.Proofs.Ytibmaflcfmphgaa
open Go.RowKit

/-- The word of a float32 of at most '2 ^ k'. -/
def Bd (k : Int) (x : Nat) : Prop := x < 4294967296 ∧ (mag x : Int) ≤ (k + 127) * 8388608

/-- A float32 and its number, in the least number's units. -/
def Vl (x : Nat) (v : Int) : Prop := ∃ (s : Bool) (m : Nat) (p : Int), x = S s m p ∧ Flt.Fit Ieee.single m p ∧ v = Flt.sv s m * 2 ^ (p + 149).toNat

theorem mag_word (s : Bool) (r : Nat) (hr : r < 2147483648) : Ieee.single.word s r < 4294967296 ∧ mag (Ieee.single.word s r) = r := by
  unfold mag Ieee.Format.word
  rw [Flt.s_sw]
  cases s <;> simp <;> omega

theorem mag_S (s : Bool) (m : Nat) (p : Int) : S s m p < 4294967296 ∧ mag (S s m p) = Flt.rung Ieee.single m p := by
  obtain ⟨h1, h2⟩ := Flt.nearest_word Ieee.single s m p
  rw [Flt.s_sw] at h2
  unfold S
  rw [h1]
  exact mag_word s _ h2

theorem bd_mk (s : Bool) (m : Nat) (p k b : Int) (h1 : -126 ≤ k) (h2 : k ≤ 127) (hb1 : b ≤ p) (hb2 : b ≤ k) (h : m * 2 ^ (p - b).toNat ≤ 2 ^ (k - b).toNat) : Bd k (S s m p) := by
  obtain ⟨g1, g2⟩ := mag_S s m p
  refine ⟨g1, ?_⟩
  rw [g2]
  have := Flt.rung_mono Ieee.single m 1 p k b hb1 hb2 (by rw [Nat.one_mul]; exact h)
  rw [(Flt.single_pow k h1 h2).1] at this
  omega

theorem bd_fin {k : Int} {x : Nat} (h : Bd k x) (h2 : k ≤ 127) : fin x = true := by
  have := h.2
  exact decide_eq_true (by omega)

theorem vl_of (x : Nat) (hx : x < 4294967296) (h : fin x = true) : ∃ v, Vl x v := by
  obtain ⟨s, m, p, _, hf, he⟩ := fin_fit x hx h
  exact ⟨_, s, m, p, he, hf, rfl⟩

theorem sv_abs (s : Bool) (m : Nat) : (Flt.sv s m).natAbs = m := by
  unfold Flt.sv; cases s <;> simp

theorem fitS_low {m : Nat} {p : Int} (h : Flt.Fit Ieee.single m p) : -149 ≤ p := by
  have := h.2.1; rw [Flt.s_lp] at this; exact this

/-- Numbers by their rungs. -/
theorem le_of_rung (f : Ieee.Format) (hf : 2 ≤ f.exponentBits) (m n : Nat) (e j b : Int) (hm : Flt.Fit f m e) (hn : Flt.Fit f n j) (hb1 : b ≤ e) (hb2 : b ≤ j) (h : Flt.rung f m e ≤ Flt.rung f n j) :
    m * 2 ^ (e - b).toNat ≤ n * 2 ^ (j - b).toNat := by
  rcases Nat.lt_or_ge (n * 2 ^ (j - b).toNat) (m * 2 ^ (e - b).toNat) with hl | hl
  · have h2 := Flt.rung_mono f n m j e b hb2 hb1 (Nat.le_of_lt hl)
    have h3 : Flt.rung f m e = Flt.rung f n j := by omega
    obtain ⟨k, hk⟩ := Flt.read_fit f hf false m e hm
    obtain ⟨l, hl2⟩ := Flt.read_fit f hf false n j hn
    have h4 : f.nearest false m e = f.nearest false n j := h3
    rw [h4, hl2] at hk
    injection hk with _ h5 h6
    -- the same number
    have e1 : n * 2 ^ l * 2 ^ (j - b).toNat * 2 ^ k = m * 2 ^ k * 2 ^ (e - b).toNat * 2 ^ l := by
      rw [h5]
      generalize m * 2 ^ k = M
      rw [Nat.mul_assoc, Nat.mul_assoc, ← Nat.pow_add, ← Nat.pow_add]
      congr 2; omega
    have hp : 0 < 2 ^ l * 2 ^ k := Nat.mul_pos (Nat.two_pow_pos _) (Nat.two_pow_pos _)
    have e2 : n * 2 ^ (j - b).toNat * (2 ^ l * 2 ^ k) = m * 2 ^ (e - b).toNat * (2 ^ l * 2 ^ k) := by
      calc n * 2 ^ (j - b).toNat * (2 ^ l * 2 ^ k) = n * 2 ^ l * 2 ^ (j - b).toNat * 2 ^ k := by ac_rfl
        _ = m * 2 ^ k * 2 ^ (e - b).toNat * 2 ^ l := e1
        _ = m * 2 ^ (e - b).toNat * (2 ^ l * 2 ^ k) := by ac_rfl
    have := Nat.eq_of_mul_eq_mul_right hp e2
    omega
  · exact hl

theorem fitS_pow (k : Int) (h1 : -126 ≤ k) (h2 : k ≤ 127) : Flt.Fit Ieee.single 1 k :=
  Flt.fit_lt _ _ _ 1 (by decide) (by rw [Flt.s_lp]; omega) (by decide) (by rw [topS]; omega)

theorem bd_vl {k : Int} {x : Nat} {v : Int} (hv : Vl x v) (h : Bd k x) (h1 : -126 ≤ k) (h2 : k ≤ 127) : v.natAbs ≤ 2 ^ (k + 149).toNat := by
  obtain ⟨s, m, p, rfl, hf, rfl⟩ := hv
  have hlow := fitS_low hf
  rw [Int.natAbs_mul, sv_abs, Int.natAbs_pow]
  have h3 := h.2
  rw [(mag_S s m p).2] at h3
  have h4 := (Flt.single_pow k h1 h2).1
  have := le_of_rung Ieee.single (by decide) m 1 p k (-149) hf (fitS_pow k h1 h2) hlow (by omega) (by rw [h4]; omega)
  rw [Nat.one_mul] at this
  have e1 : (p - -149).toNat = (p + 149).toNat := by congr 1
  have e2 : (k - -149).toNat = (k + 149).toNat := by congr 1
  rw [e1, e2] at this
  exact this

theorem vl_zero {x : Nat} {v : Int} (hv : Vl x v) (h : mag x = 0) : v = 0 := by
  obtain ⟨s, m, p, rfl, hf, rfl⟩ := hv
  rw [(mag_S s m p).2] at h
  have := le_of_rung Ieee.single (by decide) m 0 p p p hf ⟨by decide, hf.2.1, .inl rfl⟩ (Int.le_refl _) (Int.le_refl _) (by rw [h]; exact Nat.zero_le _)
  rw [Int.sub_self, Int.toNat_zero, Nat.pow_zero, Nat.mul_one, Nat.mul_one] at this
  have hm : m = 0 := by omega
  subst hm
  cases s <;> simp [Flt.sv]

def wd (x : Nat) : Nat := (floatToFloatBits .f32 x .f64).getD 0
def mu (x y : Nat) : Nat := (floatBits .mul .f64 x y).getD 0
def ad (x y : Nat) : Nat := (floatBits .add .f64 x y).getD 0
def nr (x : Nat) : Nat := (floatToFloatBits .f64 x .f32).getD 0
/-- 'a b + c d', rounded to a float64 and then to a float32. -/
def ex (a b c d : Nat) : Nat := nr (ad (mu (wd a) (wd b)) (mu (wd c) (wd d)))
/-- The sum of two float32. -/
def sm (x y : Nat) : Nat := (floatBits .add .f32 x y).getD 0

theorem getD_of {o : Option Nat} {y : Nat} (h : o = some y) : o = some (o.getD 0) := by rw [h]; rfl

theorem wd_S {s : Bool} {m : Nat} {p : Int} (h : Flt.Fit Ieee.single m p) : wd (S s m p) = D s m p := by
  unfold wd; rw [widen h]; rfl

theorem wd_ok {x : Nat} {v : Int} (h : Vl x v) : floatToFloatBits .f32 x .f64 = some (wd x) := by
  obtain ⟨s, m, p, rfl, hf, _⟩ := h
  exact getD_of (widen hf)

theorem fit_prod {m n : Nat} {p q : Int} (h : Flt.Fit Ieee.single m p) (h' : Flt.Fit Ieee.single n q) : Flt.Fit Ieee.double (m * n) (p + q) := by
  have l1 := fitS_low h
  have l2 := fitS_low h'
  have hm : m < 16777216 := h.1
  have hn : n < 16777216 := h'.1
  by_cases hm0 : m = 0
  · subst hm0
    rw [Nat.zero_mul]
    exact ⟨by decide, by rw [Flt.d_lp]; omega, .inl rfl⟩
  by_cases hn0 : n = 0
  · subst hn0
    rw [Nat.mul_zero]
    exact ⟨by decide, by rw [Flt.d_lp]; omega, .inl rfl⟩
  have t1 : p + m.log2 ≤ 127 := by rcases h.2.2 with h | h; · omega
                                   · rw [topS] at h; exact h
  have t2 : q + n.log2 ≤ 127 := by rcases h'.2.2 with h | h; · omega
                                   · rw [topS] at h; exact h
  have hlt : m * n < 2 ^ (m.log2 + 1 + (n.log2 + 1)) := by
    rw [Nat.pow_add]
    exact Nat.mul_lt_mul'' Nat.lt_log2_self Nat.lt_log2_self
  have hk : m * n < 281474976710656 := by
    calc m * n < 16777216 * 16777216 := Nat.mul_lt_mul'' hm hn
      _ = 281474976710656 := by decide
  exact Flt.fit_lt _ _ _ _ (Nat.lt_of_lt_of_le hk (by decide)) (by rw [Flt.d_lp]; omega) hlt (by rw [topD]; omega)

theorem mu_S {s t : Bool} {m n : Nat} {p q : Int} (h : Flt.Fit Ieee.single m p) (h' : Flt.Fit Ieee.single n q) :
    floatBits .mul .f64 (D s m p) (D t n q) = some (D (s ^^ t) (m * n) (p + q)) :=
  Flt.mul_fit Ieee.double (by decide) s t m n p q (fit_wide h) (fit_wide h')

theorem mu_ok {a b : Nat} {va vb : Int} (ha : Vl a va) (hb : Vl b vb) : floatBits .mul .f64 (wd a) (wd b) = some (mu (wd a) (wd b)) := by
  obtain ⟨s, m, p, rfl, hf, _⟩ := ha
  obtain ⟨t, n, q, rfl, hg, _⟩ := hb
  rw [wd_S hf, wd_S hg]
  exact getD_of (mu_S hf hg)

theorem sv_mul2 (s t : Bool) (m n : Nat) : Flt.sv (s ^^ t) (m * n) = Flt.sv s m * Flt.sv t n := by
  unfold Flt.sv
  cases s <;> cases t <;> simp [Int.neg_mul, Int.mul_neg]

theorem prod_vl {s t : Bool} {m n : Nat} {p q : Int} (l1 : -149 ≤ p) (l2 : -149 ≤ q) :
    Flt.sv (s ^^ t) (m * n) * 2 ^ (p + q - -298).toNat = (Flt.sv s m * 2 ^ (p + 149).toNat) * (Flt.sv t n * 2 ^ (q + 149).toNat) := by
  rw [sv_mul2]
  have : (p + q - -298).toNat = (p + 149).toNat + (q + 149).toNat := by omega
  rw [this, Int.pow_add]
  ac_rfl

/-- What the sum of two products is, as a word. -/
theorem ad_word {a b c d : Nat} {va vb vc vd : Int} (ha : Vl a va) (hb : Vl b vb) (hc : Vl c vc) (hd : Vl d vd) :
    ∃ z, floatBits .add .f64 (mu (wd a) (wd b)) (mu (wd c) (wd d)) = some (Flt.wordOf Ieee.double z (va * vb + vc * vd) (-298)) := by
  obtain ⟨s, m, p, rfl, hf, rfl⟩ := ha
  obtain ⟨t, n, q, rfl, hg, rfl⟩ := hb
  obtain ⟨s', m', p', rfl, hf', rfl⟩ := hc
  obtain ⟨t', n', q', rfl, hg', rfl⟩ := hd
  rw [wd_S hf, wd_S hg, wd_S hf', wd_S hg']
  have e1 : mu (D s m p) (D t n q) = D (s ^^ t) (m * n) (p + q) := by unfold mu; rw [mu_S hf hg]; rfl
  have e2 : mu (D s' m' p') (D t' n' q') = D (s' ^^ t') (m' * n') (p' + q') := by unfold mu; rw [mu_S hf' hg']; rfl
  rw [e1, e2]
  have l1 := fitS_low hf
  have l2 := fitS_low hg
  have l3 := fitS_low hf'
  have l4 := fitS_low hg'
  refine ⟨((s ^^ t) && (s' ^^ t')), ?_⟩
  have := Flt.add_fit Ieee.double (by decide) (s ^^ t) (s' ^^ t') (m * n) (m' * n') (p + q) (p' + q') (-298) (fit_prod hf hg) (fit_prod hf' hg') (by omega) (by omega)
  refine Eq.trans this ?_
  congr 2
  unfold Flt.tot
  rw [prod_vl l1 l2, prod_vl l3 l4]

theorem ad_ok {a b c d : Nat} {va vb vc vd : Int} (ha : Vl a va) (hb : Vl b vb) (hc : Vl c vc) (hd : Vl d vd) :
    floatBits .add .f64 (mu (wd a) (wd b)) (mu (wd c) (wd d)) = some (ad (mu (wd a) (wd b)) (mu (wd c) (wd d))) := by
  obtain ⟨z, h⟩ := ad_word ha hb hc hd
  exact getD_of h

/-- Sums of products that stay below a power of two are float32. -/
theorem ex_ok {a b c d : Nat} {va vb vc vd : Int} (k : Int) (ha : Vl a va) (hb : Vl b vb) (hc : Vl c vc) (hd : Vl d vd) (h1 : -126 ≤ k) (h2 : k ≤ 127) (h : (va * vb + vc * vd).natAbs ≤ 2 ^ (k + 298).toNat) :
    floatToFloatBits .f64 (ad (mu (wd a) (wd b)) (mu (wd c) (wd d))) .f32 = some (ex a b c d) ∧ Bd k (ex a b c d) := by
  obtain ⟨z, hw⟩ := ad_word ha hb hc hd
  have e1 : ad (mu (wd a) (wd b)) (mu (wd c) (wd d)) = Flt.wordOf Ieee.double z (va * vb + vc * vd) (-298) := by unfold ad; rw [hw]; rfl
  unfold ex
  rw [e1]
  generalize va * vb + vc * vd = v at *
  unfold Flt.wordOf
  generalize (if v = 0 then z else decide (v < 0)) = s
  generalize v.natAbs = n at *
  clear hw e1 ha hb hc hd
  -- the float64
  have hpw := Flt.double_pow k (by omega) (by omega)
  have hr : Flt.rung Ieee.double n (-298) ≤ Flt.rung Ieee.double 1 k := by
    refine Flt.rung_mono Ieee.double n 1 (-298) k (-298) (Int.le_refl _) (by omega) ?_
    rw [Int.sub_self, Int.toNat_zero, Nat.pow_zero, Nat.mul_one, Nat.one_mul]
    exact h
  obtain ⟨g1, g2⟩ := Flt.nearest_word Ieee.double s n (-298)
  rw [Flt.d_sw] at g2
  have g3 : (Ieee.double.word s (Flt.rung Ieee.double n (-298))) % Ieee.double.signWeight = Flt.rung Ieee.double n (-298) := by
    unfold Ieee.Format.word
    rw [Flt.d_sw]
    cases s <;> simp <;> omega
  have g4 : Ieee.double.word s (Flt.rung Ieee.double n (-298)) < 2 ^ Ieee.double.width := by
    unfold Ieee.Format.word
    rw [Flt.d_sw]
    have : (2 : Nat) ^ Ieee.double.width = 18446744073709551616 := by decide
    rw [this]
    cases s <;> simp <;> omega
  obtain ⟨s', m, e, hread, hfit, hx⟩ := Flt.word_fit Ieee.double (by decide) (Ieee.double.word s (Flt.rung Ieee.double n (-298))) g4 (by rw [g3, Flt.d_inf]; omega)
  rw [g1]
  generalize Ieee.double.word s (Flt.rung Ieee.double n (-298)) = X at *
  have hr2 : Flt.rung Ieee.double m e = Flt.rung Ieee.double n (-298) := by
    obtain ⟨q1, q2⟩ := Flt.nearest_word Ieee.double s' m e
    rw [← hx] at q1
    rw [← g3, q1]
    rw [Flt.d_sw] at q2 ⊢
    unfold Ieee.Format.word
    rw [Flt.d_sw]
    cases s' <;> simp <;> omega
  have hfit1 : Flt.Fit Ieee.double 1 k := fitD_one k (by omega) (by omega)
  have hlow : Ieee.double.leastPlace ≤ e := hfit.2.1
  rw [Flt.d_lp] at hlow
  have hle := le_of_rung Ieee.double (by decide) m 1 e k (-1074) hfit hfit1 hlow (by omega) (by rw [hr2]; exact hr)
  rw [Nat.one_mul] at hle
  -- the float32
  have hbd : Bd k (S s' m e) := bd_mk s' m e k (-1074) h1 h2 hlow (by omega) hle
  have hs : floatToFloatBits .f64 X .f32 = some (S s' m e) := by
    unfold floatToFloatBits
    rw [if_neg (by decide)]
    have hdec : FloatKind.f64.decode X = .number s' m e := hread
    rw [hdec]
    have he : FloatKind.f32.encode (.number s' m e) = S s' m e := rfl
    simp only [he]
    obtain ⟨s2, m2, p2, hd2, _, _⟩ := fin_fit (S s' m e) hbd.1 (bd_fin hbd h2)
    have hd3 : FloatKind.f32.decode (S s' m e) = .number s2 m2 p2 := hd2
    rw [hd3]
    rfl
  have hn : nr X = S s' m e := by unfold nr; rw [hs]; rfl
  rw [hn]
  exact ⟨hs, hbd⟩

/-- The sum of two float32 that stays below a power of two. -/
theorem sm_ok {x y : Nat} {vx vy : Int} (k : Int) (hx : Vl x vx) (hy : Vl y vy) (h1 : -126 ≤ k) (h2 : k ≤ 127) (h : (vx + vy).natAbs ≤ 2 ^ (k + 149).toNat) :
    floatBits .add .f32 x y = some (sm x y) ∧ Bd k (sm x y) := by
  obtain ⟨s, m, p, rfl, hf, rfl⟩ := hx
  obtain ⟨t, n, q, rfl, hg, rfl⟩ := hy
  have l1 := fitS_low hf
  have l2 := fitS_low hg
  have := Flt.add_fit Ieee.single (by decide) s t m n p q (-149) hf hg l1 l2
  have e1 : Flt.tot s m p t n q (-149) = Flt.sv s m * 2 ^ (p + 149).toNat + Flt.sv t n * 2 ^ (q + 149).toNat := rfl
  rw [e1] at this
  generalize Flt.sv s m * 2 ^ (p + 149).toNat + Flt.sv t n * 2 ^ (q + 149).toNat = v at *
  have h3 : floatBits .add .f32 (S s m p) (S t n q) = some (Flt.wordOf Ieee.single (s && t) v (-149)) := this
  refine ⟨getD_of h3, ?_⟩
  have e2 : sm (S s m p) (S t n q) = Flt.wordOf Ieee.single (s && t) v (-149) := by unfold sm; rw [h3]; rfl
  rw [e2]
  unfold Flt.wordOf
  refine bd_mk _ v.natAbs (-149) k (-149) h1 h2 (Int.le_refl _) (by omega) ?_
  rw [Int.sub_self, Int.toNat_zero, Nat.pow_zero, Nat.mul_one]
  exact h

theorem neg_S {s : Bool} {m : Nat} {p : Int} : Op.negFloat .f32 (S s m p) = S (!s) m p := Flt.flip_nearest Ieee.single s m p

theorem neg_vl {x : Nat} {v : Int} (h : Vl x v) : Vl (Op.negFloat .f32 x) (-v) := by
  obtain ⟨s, m, p, rfl, hf, rfl⟩ := h
  rw [neg_S]
  refine ⟨!s, m, p, rfl, hf, ?_⟩
  rw [← Int.neg_mul]
  congr 1
  unfold Flt.sv
  cases s <;> simp

/-- A difference of products is a sum of products, one factor's sign turned. -/
theorem sub_mu {a b c d : Nat} {va vb vc vd : Int} (ha : Vl a va) (hb : Vl b vb) (hc : Vl c vc) (hd : Vl d vd) :
    floatBits .sub .f64 (mu (wd a) (wd b)) (mu (wd c) (wd d)) = some (ad (mu (wd a) (wd b)) (mu (wd (Op.negFloat .f32 c)) (wd d))) := by
  have hok := ad_ok ha hb (neg_vl hc) hd
  rw [← hok]
  obtain ⟨s, m, p, rfl, hf, rfl⟩ := hc
  obtain ⟨t, n, q, rfl, hg, rfl⟩ := hd
  rw [neg_S, wd_S hf, wd_S hg, wd_S hf]
  have e1 : mu (D s m p) (D t n q) = D (s ^^ t) (m * n) (p + q) := by unfold mu; rw [mu_S hf hg]; rfl
  have e2 : mu (D (!s) m p) (D t n q) = D (!s ^^ t) (m * n) (p + q) := by unfold mu; rw [mu_S hf hg]; rfl
  rw [e1, e2]
  have := Flt.sub_flip Ieee.double (mu (wd a) (wd b)) (D (s ^^ t) (m * n) (p + q)) (s ^^ t) (m * n) (p + q) (by decide) (fit_prod hf hg) rfl
  refine Eq.trans this ?_
  have e3 : (!(s ^^ t)) = (!s ^^ t) := by cases s <;> cases t <;> rfl
  rw [e3]
  rfl
end Go.Proofs.Ytibmaflcfmphgaa
