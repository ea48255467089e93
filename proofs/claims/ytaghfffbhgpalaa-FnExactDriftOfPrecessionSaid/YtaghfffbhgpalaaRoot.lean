/- The root of a float32 by way of float64: rounded twice, it is the number nearest to the root. -/
import Derived.Test.YtaghfffbhgpalaaFlt
import Derived.Laws.FloatArith
namespace Go.Proofs.Ytaghfffbhgpalaa
namespace Flt
open Ieee

/-- The root of a number, digit by digit, is the root cut down. -/
theorem rootFrom_spec (n : Nat) : ∀ (todo root : Nat), root * root ≤ n → n < (root + 2 ^ todo) * (root + 2 ^ todo) →
    Datum.rootFrom n todo root * Datum.rootFrom n todo root ≤ n ∧ n < (Datum.rootFrom n todo root + 1) * (Datum.rootFrom n todo root + 1) := by
  intro todo
  induction todo with
  | zero => intro root h1 h2; exact ⟨h1, by simpa [Datum.rootFrom] using h2⟩
  | succ t ih =>
    intro root h1 h2
    unfold Datum.rootFrom
    simp only [Nat.one_shiftLeft]
    split
    · rename_i h
      refine ih _ h ?_
      rw [show root + 2 ^ t + 2 ^ t = root + 2 ^ (t + 1) by rw [Nat.pow_succ]; omega]
      exact h2
    · rename_i h
      exact ih _ h1 (by omega)

theorem root_start (n : Nat) : n < (0 + 2 ^ (n.log2 / 2 + 1)) * (0 + 2 ^ (n.log2 / 2 + 1)) := by
  rw [Nat.zero_add, ← Nat.pow_add]
  exact Nat.lt_of_lt_of_le Nat.lt_log2_self (Nat.pow_le_pow_right (by omega) (by omega))

def isqrt (n : Nat) : Nat := Datum.rootFrom n (n.log2 / 2 + 1) 0

theorem isqrt_spec (n : Nat) : isqrt n * isqrt n ≤ n ∧ n < (isqrt n + 1) * (isqrt n + 1) :=
  rootFrom_spec n _ 0 (by simp) (root_start n)

/-- Rounding by a cut whose gap is the format's own. -/
theorem round_to (f : Format) (s : Bool) (a : Nat) (e : Int) (g : Nat) (h0 : a ≠ 0) (hg : a.log2 = f.fractionBits + g) (he : f.leastPlace ≤ e + g) :
    f.nearest s a e = f.nearest s (cutG a (2 ^ g)) (e + g) ∧ 2 ^ f.fractionBits ≤ cutG a (2 ^ g) ∧ cutG a (2 ^ g) ≤ 2 ^ (f.fractionBits + 1) := by
  have hlo := Nat.log2_self_le h0
  have hhi := Nat.lt_log2_self (n := a)
  rw [hg] at hlo hhi
  have hp : 0 < 2 ^ g := Nat.two_pow_pos _
  have h1 : 2 ^ f.fractionBits ≤ a / 2 ^ g := (Nat.le_div_iff_mul_le hp).2 (by rw [← Nat.pow_add]; exact hlo)
  have h2 : a / 2 ^ g < 2 ^ (f.fractionBits + 1) := Nat.div_lt_of_lt_mul (by rw [← Nat.pow_add]; rw [show g + (f.fractionBits + 1) = f.fractionBits + g + 1 by omega]; exact hhi)
  have hb1 : 2 ^ f.fractionBits ≤ cutG a (2 ^ g) := by unfold cutG; omega
  have hb2 : cutG a (2 ^ g) ≤ 2 ^ (f.fractionBits + 1) := by
    unfold cutG
    have : ∀ b : Bool, b.toNat ≤ 1 := by intro b; cases b <;> decide
    have := this (decide (2 ^ g < 2 * (a % 2 ^ g)) || (2 ^ g == 2 * (a % 2 ^ g) && a / 2 ^ g % 2 == 1))
    omega
  refine ⟨?_, hb1, hb2⟩
  have hl : lastOf f a e = e + g := by unfold lastOf; omega
  have lhs : f.nearest s a e = f.word s (min ((e + g - f.leastPlace).toNat * f.binade + cutG a (2 ^ g)) f.infRung) := by
    unfold Format.nearest
    rw [if_neg h0]
    simp only []
    change f.word s (min ((lastOf f a e - f.leastPlace).toNat * f.binade + Toward.even.cut s (a <<< (e - lastOf f a e).toNat) (lastOf f a e - e).toNat) f.infRung) = _
    rw [hl, cut_even]
    have e1 : (e - (e + g)).toNat = 0 := by omega
    have e2 : (e + g - e).toNat = g := by omega
    rw [e1, e2, Nat.shiftLeft_zero, hg, Nat.min_eq_left (show g ≤ f.fractionBits + g + 2 by omega)]
  rw [lhs]
  have hpp : 0 < 2 ^ f.fractionBits := Nat.two_pow_pos _
  have hbn : f.binade = 2 ^ f.fractionBits := rfl
  generalize cutG a (2 ^ g) = b at *
  by_cases hb : b = 2 ^ (f.fractionBits + 1)
  · have : f.nearest s b (e + g) = f.nearest s 1 (e + g + (f.fractionBits + 1 : Nat)) := by
      have := nearest_shl f s 1 (f.fractionBits + 1) (e + g)
      rw [Nat.one_mul] at this
      rw [hb]; exact this
    rw [this, nearest_norm f s 1 _ (by omega) (by rw [Nat.pow_succ]; omega) (by omega)]
    have e1 : lastOf f 1 (e + g + (f.fractionBits + 1 : Nat)) = e + g + 1 := by
      unfold lastOf; rw [show Nat.log2 1 = 0 by decide]; omega
    rw [e1]
    have e2 : (e + g + (f.fractionBits + 1 : Nat) - (e + g + 1)).toNat = f.fractionBits := by omega
    have e3 : (e + g + 1 - f.leastPlace).toNat = (e + g - f.leastPlace).toNat + 1 := by omega
    rw [e2, e3, hb, Nat.add_mul, Nat.one_mul, Nat.one_mul, hbn, Nat.pow_succ]
    congr 2; omega
  · have hbl : b < 2 ^ (f.fractionBits + 1) := by omega
    rw [nearest_norm f s b _ (by omega) hbl he]
    have hlog : b.log2 = f.fractionBits := by rw [Nat.log2_eq_iff (by omega)]; omega
    have e1 : lastOf f b (e + g) = e + g := by unfold lastOf; rw [hlog]; omega
    rw [e1, Int.sub_self, Int.toNat_zero, Nat.pow_zero, Nat.mul_one]

/-- Rounding to the nearest even number of a scale, away from the middles. -/
theorem cut_near (a R : Nat) (hR : R % 2 = 0) (h1 : (R - 1) * 2 ^ 28 < a) (h2 : a < (R + 1) * 2 ^ 28) (h0 : 2 ≤ R) : cutG a (2 ^ 29) = R / 2 := by
  obtain ⟨q, rfl⟩ : ∃ q, R = 2 * q := ⟨R / 2, by omega⟩
  rw [show 2 * q / 2 = q by omega]
  unfold cutG
  have e28 : (2 : Nat) ^ 28 = 268435456 := by decide
  have e29 : (2 : Nat) ^ 29 = 536870912 := by decide
  rw [e28] at h1 h2
  rw [e29]
  by_cases h : q * 536870912 ≤ a
  · have d : a / 536870912 = q := by omega
    have r : a % 536870912 < 268435456 := by omega
    rw [d]
    have : (decide (536870912 < 2 * (a % 536870912)) || (536870912 == 2 * (a % 536870912) && q % 2 == 1)) = false := by
      have h3 : ¬ 536870912 < 2 * (a % 536870912) := by omega
      have h4 : ¬ 536870912 = 2 * (a % 536870912) := by omega
      simp [h3, h4]
    rw [this]; rfl
  · have d : a / 536870912 = q - 1 := by omega
    have r : 268435456 < a % 536870912 := by omega
    rw [d]
    have h3 : 536870912 < 2 * (a % 536870912) := by omega
    have : (decide (536870912 < 2 * (a % 536870912)) || (536870912 == 2 * (a % 536870912) && (q - 1) % 2 == 1)) = true := by simp [h3]
    rw [this]
    show q - 1 + 1 = q
    omega

theorem sq_scale (a : Nat) : a * 1073741824 * (a * 1073741824) = a * a * 1152921504606846976 := by
  have : (1152921504606846976 : Nat) = 1073741824 * 1073741824 := by decide
  rw [this]
  exact Nat.mul_mul_mul_comm a 1073741824 a 1073741824

theorem near_below (N A w : Nat) (hA : A < 33554432) (h1 : A * A < N) (hw2 : N * 1152921504606846976 < (w + 1) * (w + 1)) : A * 1073741824 + 8 ≤ w := by
  rcases Nat.lt_or_ge w (A * 1073741824 + 8) with g | g
  · exfalso
    have g1 : (w + 1) * (w + 1) ≤ (A * 1073741824 + 8) * (A * 1073741824 + 8) := Nat.mul_self_le_mul_self (by omega)
    have g2 : (A * 1073741824 + 8) * (A * 1073741824 + 8) = A * A * 1152921504606846976 + 16 * (A * 1073741824) + 64 := by
      rw [← sq_scale]
      generalize A * 1073741824 = z
      rw [Nat.add_mul, Nat.mul_add, Nat.mul_add]; omega
    have g3 : (A * A + 1) * 1152921504606846976 ≤ N * 1152921504606846976 := Nat.mul_le_mul_right _ h1
    rw [Nat.add_mul] at g3
    omega
  · exact g

theorem near_above (N A w : Nat) (hA : A < 33554434) (hA1 : 1 ≤ A) (h2 : N < A * A) (hw1 : w * w ≤ N * 1152921504606846976) : w + 9 ≤ A * 1073741824 := by
  rcases Nat.lt_or_ge (A * 1073741824) (w + 9) with g | g
  · exfalso
    obtain ⟨z, hz⟩ : ∃ z, A * 1073741824 = z + 8 := ⟨A * 1073741824 - 8, by omega⟩
    have g1 : z * z ≤ w * w := Nat.mul_self_le_mul_self (by omega)
    have g2 : (z + 8) * (z + 8) = A * A * 1152921504606846976 := by rw [← hz, sq_scale]
    have g4 : (z + 8) * (z + 8) = z * z + 16 * z + 64 := by
      rw [Nat.add_mul, Nat.mul_add, Nat.mul_add]; omega
    have g3 : (N + 1) * 1152921504606846976 ≤ A * A * 1152921504606846976 := Nat.mul_le_mul_right _ h2
    rw [Nat.add_mul] at g3
    omega
  · exact g

/-- 53 digits of the root are away from the middles of 24 digits. -/
theorem keep_near (N R w : Nat) (st : Nat) (hR : 2 ^ 24 ≤ R) (hR2 : R ≤ 2 ^ 25) (h1 : (R - 1) * (R - 1) < N) (h2 : N < (R + 1) * (R + 1))
    (hw1 : w * w ≤ N * 2 ^ 60) (hw2 : N * 2 ^ 60 < (w + 1) * (w + 1)) (hst : st ≤ 1) :
    (R - 1) * 2 ^ 28 < cutG (2 * w + st) (2 ^ 3) ∧ cutG (2 * w + st) (2 ^ 3) < (R + 1) * 2 ^ 28 := by
  have e24 : (2 : Nat) ^ 24 = 16777216 := by decide
  have e25 : (2 : Nat) ^ 25 = 33554432 := by decide
  have e28 : (2 : Nat) ^ 28 = 268435456 := by decide
  have e60 : (2 : Nat) ^ 60 = 1152921504606846976 := by decide
  rw [e24] at hR; rw [e25] at hR2; rw [e60] at hw1 hw2; rw [e28]
  have b1 : (R - 1) * 1073741824 + 8 ≤ w := near_below N (R - 1) w (by omega) h1 hw2
  have b2 : w + 9 ≤ (R + 1) * 1073741824 := near_above N (R + 1) w (by omega) (by omega) h2 hw1
  have c1 : (2 * w + st) / 8 ≤ cutG (2 * w + st) (2 ^ 3) ∧ cutG (2 * w + st) (2 ^ 3) ≤ (2 * w + st) / 8 + 1 := by
    unfold cutG
    have : ∀ b : Bool, b.toNat ≤ 1 := by intro b; cases b <;> decide
    have := this (decide (2 ^ 3 < 2 * ((2 * w + st) % 2 ^ 3)) || (2 ^ 3 == 2 * ((2 * w + st) % 2 ^ 3) && (2 * w + st) / 2 ^ 3 % 2 == 1))
    rw [show (2 : Nat) ^ 3 = 8 by decide] at *
    omega
  generalize cutG (2 * w + st) (2 ^ 3) = c at *
  omega

theorem read_fit_lt (f : Format) (hf : 2 ≤ f.exponentBits) (s : Bool) (m : Nat) (e : Int) (h : Fit f m e) :
    ∃ k : Nat, f.read (f.nearest s m e) = .number s (m * 2 ^ k) (e - k) ∧ m * 2 ^ k < 2 ^ (f.fractionBits + 1) := by
  by_cases h0 : m = 0
  · obtain ⟨k, hk⟩ := read_fit f hf s m e h
    refine ⟨k, hk, ?_⟩
    subst h0; rw [Nat.zero_mul]; exact Nat.two_pow_pos _
  · refine ⟨(e - lastOf f m e).toNat, ?_, ?_⟩
    · rw [read_nearest f s m e h0 h.1 h.2.1 (fit_inf f hf m e h0 h)]
      congr 1
      have h1 : lastOf f m e ≤ e := by
        have hl := log2_lt m _ h0 h.1
        have := h.2.1
        unfold lastOf; omega
      omega
    · have hu := Nat.lt_log2_self (n := m)
      have hl := log2_lt m _ h0 h.1
      have a1 : m * 2 ^ (e - lastOf f m e).toNat < 2 ^ (m.log2 + 1) * 2 ^ (e - lastOf f m e).toNat := Nat.mul_lt_mul_of_pos_right hu (Nat.two_pow_pos _)
      rw [← Nat.pow_add] at a1
      exact Nat.lt_of_lt_of_le a1 (Nat.pow_le_pow_right (by omega) (by unfold lastOf; omega))

/-- From float64 to float32 with a rounding that stays below infinity. -/
theorem narrow_any {s : Bool} {m n : Nat} {e j : Int} (h : Fit double m e) (h' : Fit single n j) (he : single.nearest s m e = single.nearest s n j) :
    floatToFloatBits .f64 (double.nearest s m e) .f32 = some (single.nearest s n j) := by
  obtain ⟨k, hk⟩ := read_fit double (by decide) s m e h
  have hw : FloatKind.f32.encode (.number s (m * 2 ^ k) (e - k)) = single.nearest s n j := by
    rw [← he]
    show single.nearest s (m * 2 ^ k) (e - k) = single.nearest s m e
    rw [nearest_shl]; congr 1; omega
  obtain ⟨l, hl⟩ := read_fit single (by decide) s n j h'
  unfold floatToFloatBits
  rw [if_neg (by decide)]
  have hd : FloatKind.f64.decode (double.nearest s m e) = .number s (m * 2 ^ k) (e - k) := hk
  rw [hd]
  simp only [hw]
  have hi : (FloatKind.f32.decode (single.nearest s n j)) = .number s (n * 2 ^ l) (j - l) := hl
  rw [hi]
  rfl

theorem topD' : top double = 1023 := by decide +kernel
theorem topS' : top single = 127 := by decide +kernel

/-- A float32 of 24 digits, or of one digit, at an even scale. -/
theorem fit_even (R : Nat) (k : Int) (hR : R % 2 = 0) (hR1 : 2 ^ 24 ≤ R) (hR2 : R ≤ 2 ^ 25) (hk1 : -60 ≤ k) (hk2 : k ≤ 120) :
    ∃ n j, Fit single n j ∧ single.nearest false R (-k) = single.nearest false n j ∧ ((n = R / 2 ∧ j = 1 - k ∧ R < 2 ^ 25) ∨ (R = 2 ^ 25 ∧ n = 2 ^ 23 ∧ j = 2 - k)) := by
  have e23 : (2 : Nat) ^ 23 = 8388608 := by decide
  have e24 : (2 : Nat) ^ 24 = 16777216 := by decide
  have e25 : (2 : Nat) ^ 25 = 33554432 := by decide
  have h24 : (2 : Nat) ^ (single.fractionBits + 1) = 16777216 := by decide
  rw [e24] at hR1
  by_cases h : R = 2 ^ 25
  · refine ⟨2 ^ 23, 2 - k, fit_lt single _ _ 24 (by decide) (by rw [s_lp]; omega) (by decide) (by rw [topS']; omega), ?_, .inr ⟨h, rfl, rfl⟩⟩
    have := nearest_shl single false (2 ^ 23) 2 (-k)
    rw [show (2 : Nat) ^ 23 * 2 ^ 2 = 2 ^ 25 by decide, ← h] at this
    rw [this]; congr 1; omega
  · have hlt : R < 2 ^ 25 := by omega
    rw [e25] at hlt
    refine ⟨R / 2, 1 - k, fit_lt single _ _ 24 (by rw [h24]; omega) (by rw [s_lp]; omega) (by rw [e24]; omega) (by rw [topS']; omega), ?_, .inl ⟨rfl, rfl, by rw [e25]; exact hlt⟩⟩
    have := nearest_shl single false (R / 2) 1 (-k)
    rw [show R / 2 * 2 ^ 1 = R by omega] at this
    rw [this]; congr 1; omega

/-- THE ROOT. -/
theorem sqrt_near (m j N R : Nat) (p k : Int) (hm0 : m ≠ 0) (hf : Fit double m p) (hN : N = m * 2 ^ j) (hp : p = j - 2 * k) (hN1 : 2 ^ 48 ≤ N) (hN2 : N < 2 ^ 50)
    (hR : R % 2 = 0) (hR1 : 2 ^ 24 ≤ R) (hR2 : R ≤ 2 ^ 25) (hl : (R - 1) * (R - 1) < N) (hh : N < (R + 1) * (R + 1)) (hk1 : -60 ≤ k) (hk2 : k ≤ 120) :
    ∃ y, double.sqrt (double.nearest false m p) = some y ∧ floatToFloatBits .f64 y .f32 = some (single.nearest false R (-k)) := by
  obtain ⟨a, ha, hlt⟩ := read_fit_lt double (by decide) false m p hf
  have hma : m * 2 ^ a ≠ 0 := Nat.mul_ne_zero hm0 (by have := Nat.two_pow_pos a; omega)
  have hlog := log2_lt _ _ hma hlt
  have hfb : double.fractionBits = 52 := rfl
  rw [hfb] at hlog
  unfold Format.sqrt
  rw [ha]
  simp only [Datum.root]
  rw [if_neg hma]
  simp only [Bool.false_eq_true, if_false, Option.map_some, Format.write, hfb]
  generalize hmore : 2 * (52 + 2) - (m * 2 ^ a).log2 + ((p - a - ((2 * (52 + 2) - (m * 2 ^ a).log2 : Nat) : Int)) % 2).toNat = more
  have hmore1 : (m * 2 ^ a).log2 + more = 108 ∨ (m * 2 ^ a).log2 + more = 109 := by omega
  have hpar : (p - a - (more : Int)) % 2 = 0 := by omega
  have hn : (m * 2 ^ a) <<< more = m * 2 ^ (a + more) := by rw [Nat.shiftLeft_eq, Nat.mul_assoc, ← Nat.pow_add]
  rw [hn]
  have l1 := log2_mul_pow m a hm0
  have l2 := log2_mul_pow m j hm0
  rw [← hN] at l2
  have hN0 : N ≠ 0 := by have := Nat.two_pow_pos 48; omega
  have lN : N.log2 = 48 ∨ N.log2 = 49 := by
    have b1 : 48 ≤ N.log2 := (Nat.le_log2 hN0).2 hN1
    have b2 : N.log2 < 50 := (Nat.log2_lt hN0).2 hN2
    omega
  have ham : a + more = j + 60 := by omega
  have hnN : m * 2 ^ (a + more) = N * 2 ^ 60 := by rw [ham, Nat.pow_add, ← Nat.mul_assoc, ← hN]
  rw [hnN]
  change ∃ y, some (double.nearest false (2 * isqrt (N * 2 ^ 60) + (isqrt (N * 2 ^ 60) * isqrt (N * 2 ^ 60) != N * 2 ^ 60).toNat) ((p - a - (more : Int)) / 2 - 1)) = some y ∧ _
  refine ⟨_, rfl, ?_⟩
  obtain ⟨w1, w2⟩ := isqrt_spec (N * 2 ^ 60)
  have hst : (isqrt (N * 2 ^ 60) * isqrt (N * 2 ^ 60) != N * 2 ^ 60).toNat ≤ 1 := by
    generalize (isqrt (N * 2 ^ 60) * isqrt (N * 2 ^ 60) != N * 2 ^ 60) = b
    cases b <;> decide
  generalize (isqrt (N * 2 ^ 60) * isqrt (N * 2 ^ 60) != N * 2 ^ 60).toNat = st at *
  generalize isqrt (N * 2 ^ 60) = w at *
  have hq : (p - a - (more : Int)) / 2 - 1 = -k - 31 := by omega
  rw [hq]
  obtain ⟨c1, c2⟩ := keep_near N R w st hR1 hR2 hl hh w1 w2 hst
  have hw54 : 2 ^ 54 ≤ w := by
    rcases Nat.lt_or_ge w (2 ^ 54) with g | g
    · exfalso
      have : (w + 1) * (w + 1) ≤ 2 ^ 54 * 2 ^ 54 := Nat.mul_self_le_mul_self g
      have e : 2 ^ 48 * 2 ^ 60 ≤ N * 2 ^ 60 := Nat.mul_le_mul_right _ hN1
      rw [← Nat.pow_add] at this e
      omega
    · exact g
  have hw55 : w < 2 ^ 55 := by
    rcases Nat.lt_or_ge w (2 ^ 55) with g | g
    · exact g
    · exfalso
      have : 2 ^ 55 * 2 ^ 55 ≤ w * w := Nat.mul_self_le_mul_self g
      have e : N * 2 ^ 60 < 2 ^ 50 * 2 ^ 60 := Nat.mul_lt_mul_of_pos_right hN2 (Nat.two_pow_pos _)
      rw [← Nat.pow_add] at this e
      omega
  have hV : (2 * w + st).log2 = double.fractionBits + 3 := by
    rw [Nat.log2_eq_iff (by omega), hfb]
    have e1 : (2 : Nat) ^ (52 + 3) = 2 * 2 ^ 54 := by decide
    have e2 : (2 : Nat) ^ (52 + 3 + 1) = 2 * 2 ^ 55 := by decide
    rw [e1, e2]; omega
  obtain ⟨r1, r2, r3⟩ := round_to double false (2 * w + st) (-k - 31) 3 (by omega) hV (by rw [d_lp]; omega)
  rw [r1]
  rw [hfb] at r2 r3
  generalize cutG (2 * w + st) (2 ^ 3) = c at *
  obtain ⟨n, i, hfit, hev, _⟩ := fit_even R k hR hR1 hR2 hk1 hk2
  rw [hev]
  by_cases hc : c = 2 ^ 53
  · have hR25 : R = 2 ^ 25 := by
      have e28 : (2 : Nat) ^ 28 = 268435456 := by decide
      have e53 : (2 : Nat) ^ 53 = 9007199254740992 := by decide
      have e25 : (2 : Nat) ^ 25 = 33554432 := by decide
      rw [e28] at c1 c2; rw [e53] at hc; rw [e25] at hR2 ⊢
      omega
    have e1 : double.nearest false c (-k - 31 + (3 : Nat)) = double.nearest false 1 (-k + 25) := by
      have := nearest_shl double false 1 53 (-k - 28)
      rw [Nat.one_mul, ← hc] at this
      rw [show -k - 31 + ((3 : Nat) : Int) = -k - 28 by omega, this]; congr 1; omega
    rw [e1]
    refine narrow_any (fit_lt double 1 _ 1 (by decide) (by rw [d_lp]; omega) (by decide) (by rw [topD']; omega)) hfit ?_
    rw [← hev]
    have := nearest_shl single false 1 25 (-k)
    rw [Nat.one_mul, ← hR25] at this
    rw [this]; congr 1
  · have hc53 : c < 2 ^ 53 := by
      have e53 : (2 : Nat) ^ (52 + 1) = 2 ^ 53 := rfl
      omega
    have hclog : c.log2 = single.fractionBits + 29 := by
      rw [Nat.log2_eq_iff (by have := Nat.two_pow_pos 52; omega)]
      exact ⟨r2, hc53⟩
    have hcut := cut_near c R hR c1 c2 (by have : (2 : Nat) ^ 24 = 16777216 := by decide
                                           omega)
    obtain ⟨q1, _, _⟩ := round_to single false c (-k - 31 + (3 : Nat)) 29 (by have := Nat.two_pow_pos 52; omega) hclog (by rw [s_lp]; omega)
    refine narrow_any (fit_lt double c _ 53 hc53 (by rw [d_lp]; omega) hc53 (by rw [topD']; omega)) hfit ?_
    rw [q1, hcut, ← hev]
    have := nearest_shl single false (R / 2) 1 (-k)
    rw [show R / 2 * 2 ^ 1 = R by omega] at this
    rw [this]; congr 1; omega

/-- The scale, the digits and the root's digits of 'm * 2 ^ p'. -/
def rk (m : Nat) (p : Int) : Int := (49 - (p + m.log2)) / 2
def rN (m : Nat) (p : Int) : Nat := m * 2 ^ (p + 2 * rk m p).toNat
def rR (m : Nat) (p : Int) : Nat := isqrt (rN m p) + isqrt (rN m p) % 2

theorem rk_facts (m : Nat) (p : Int) (h0 : m ≠ 0) (hm : m < 16777216) (h1 : -149 ≤ p) (h2 : p ≤ 104) :
    -40 ≤ rk m p ∧ rk m p ≤ 99 ∧ 25 ≤ p + 2 * rk m p ∧ (p + 2 * rk m p + m.log2 = 48 ∨ p + 2 * rk m p + m.log2 = 49) := by
  have hl : m.log2 < 24 := log2_lt m 24 h0 (by have : (2 : Nat) ^ 24 = 16777216 := by decide
                                               omega)
  unfold rk; omega

theorem rN_facts (m : Nat) (p : Int) (h0 : m ≠ 0) (hm : m < 16777216) (h1 : -149 ≤ p) (h2 : p ≤ 104) : 2 ^ 48 ≤ rN m p ∧ rN m p < 2 ^ 50 ∧ rN m p % 2 = 0 := by
  obtain ⟨_, _, k3, k4⟩ := rk_facts m p h0 hm h1 h2
  unfold rN
  obtain ⟨j, hj⟩ : ∃ j : Nat, p + 2 * rk m p = j := ⟨(p + 2 * rk m p).toNat, by omega⟩
  rw [hj] at k3 k4 ⊢
  rw [Int.toNat_natCast]
  have l := log2_mul_pow m j h0
  have hn : m * 2 ^ j ≠ 0 := Nat.mul_ne_zero h0 (by have := Nat.two_pow_pos j; omega)
  refine ⟨(Nat.le_log2 hn).1 (by omega), (Nat.log2_lt hn).1 (by omega), ?_⟩
  obtain ⟨i, rfl⟩ : ∃ i, j = i + 1 := ⟨j - 1, by omega⟩
  rw [Nat.pow_succ, ← Nat.mul_assoc, Nat.mul_mod_left]

/-- What the digits of the root are good for, of an even number of 49 or 50 digits. -/
theorem rR_of (N r : Nat) (hN1 : 2 ^ 48 ≤ N) (hN2 : N < 2 ^ 50) (he : N % 2 = 0) (h1 : r * r ≤ N) (h2 : N < (r + 1) * (r + 1)) :
    2 ^ 24 ≤ r ∧ r < 2 ^ 25 ∧ (r + r % 2) % 2 = 0 ∧ 2 ^ 24 ≤ r + r % 2 ∧ r + r % 2 ≤ 2 ^ 25 ∧
    (r + r % 2 - 1) * (r + r % 2 - 1) < N ∧ N < (r + r % 2 + 1) * (r + r % 2 + 1) ∧ (r % 2 = 1 → r * r < N) := by
  have e24 : (2 : Nat) ^ 24 = 16777216 := by decide
  have e25 : (2 : Nat) ^ 25 = 33554432 := by decide
  have r1 : 2 ^ 24 ≤ r := by
    rcases Nat.lt_or_ge r (2 ^ 24) with g | g
    · exfalso
      have : (r + 1) * (r + 1) ≤ 2 ^ 24 * 2 ^ 24 := Nat.mul_self_le_mul_self g
      rw [← Nat.pow_add] at this
      omega
    · exact g
  have r2 : r < 2 ^ 25 := by
    rcases Nat.lt_or_ge r (2 ^ 25) with g | g
    · exact g
    · exfalso
      have : 2 ^ 25 * 2 ^ 25 ≤ r * r := Nat.mul_self_le_mul_self g
      rw [← Nat.pow_add] at this
      omega
  have hodd : r % 2 = 1 → r * r < N := by
    intro ho
    have : r * r % 2 = 1 := by rw [Nat.mul_mod, ho]
    omega
  rw [e24] at r1; rw [e25] at r2
  rw [e24, e25]
  rcases Nat.mod_two_eq_zero_or_one r with g | g
  · rw [g, Nat.add_zero]
    refine ⟨r1, r2, by omega, by omega, by omega, ?_, h2, by omega⟩
    have : (r - 1) * (r - 1) < r * r := Nat.mul_self_lt_mul_self (by omega)
    omega
  · rw [g, Nat.add_sub_cancel]
    refine ⟨r1, r2, by omega, by omega, by omega, hodd g, ?_, fun _ => hodd g⟩
    have : (r + 1) * (r + 1) ≤ (r + 1 + 1) * (r + 1 + 1) := Nat.mul_self_le_mul_self (by omega)
    omega

/-- The digits of a root that are found so far; the next one that is tried. -/
def BitInv (N r b : Int) : Prop := 0 ≤ r ∧ r * r ≤ N ∧ ((b = 0 ∧ N < (r + 1) * (r + 1)) ∨ (∃ t : Nat, t ≤ 24 ∧ b = 2 ^ t ∧ N < (r + 2 * b) * (r + 2 * b)))

theorem bit_start (N : Int) (h0 : 0 ≤ N) (h : N < 1125899906842624) : BitInv N 0 16777216 :=
  ⟨by omega, by omega, .inr ⟨24, by omega, by decide, by omega⟩⟩

theorem bit_half (t : Nat) : ((2 : Int) ^ (t + 1)) / 2 = 2 ^ t := by
  rw [Int.pow_succ]; omega

theorem bit_yes (N r b : Int) (h : BitInv N r b) (hb : 0 < b) (hc : (r + b) * (r + b) ≤ N) : BitInv N (r + b) (b / 2) := by
  obtain ⟨h1, h2, ⟨h3, _⟩ | ⟨t, h3, h4, h5⟩⟩ := h
  · omega
  refine ⟨by omega, hc, ?_⟩
  cases t with
  | zero =>
    left
    rw [Int.pow_zero] at h4
    subst h4
    exact ⟨by omega, by rw [show r + 1 + 1 = r + 2 * 1 by omega]; exact h5⟩
  | succ t =>
    right
    have hh := bit_half t
    refine ⟨t, by omega, by rw [h4, hh], ?_⟩
    have : 2 * (b / 2) = b := by rw [h4, hh, Int.pow_succ]; omega
    rw [this, show r + b + b = r + 2 * b by omega]; exact h5

theorem bit_no (N r b : Int) (h : BitInv N r b) (hb : 0 < b) (hc : N < (r + b) * (r + b)) : BitInv N r (b / 2) := by
  obtain ⟨h1, h2, ⟨h3, _⟩ | ⟨t, h3, h4, h5⟩⟩ := h
  · omega
  refine ⟨h1, h2, ?_⟩
  cases t with
  | zero =>
    left
    rw [Int.pow_zero] at h4
    subst h4
    exact ⟨by omega, hc⟩
  | succ t =>
    right
    have hh := bit_half t
    refine ⟨t, by omega, by rw [h4, hh], ?_⟩
    have : 2 * (b / 2) = b := by rw [h4, hh, Int.pow_succ]; omega
    rw [this]; exact hc

theorem bit_bounds (N r b : Int) (h : BitInv N r b) (hN : N < 1125899906842624) : 0 ≤ r ∧ r < 33554432 ∧ 0 ≤ b ∧ b ≤ 16777216 := by
  obtain ⟨h1, h2, h3⟩ := h
  have r2 : r < 33554432 := by
    rcases Int.lt_or_le r 33554432 with g | g
    · exact g
    · exfalso
      have : (33554432 : Int) * 33554432 ≤ r * r := Int.mul_le_mul g g (by omega) h1
      omega
  rcases h3 with ⟨h3, _⟩ | ⟨t, h3, h4, _⟩
  · omega
  · have a1 : (2 : Int) ^ t ≤ 2 ^ 24 := by exact_mod_cast Nat.pow_le_pow_right (n := 2) (by omega) h3
    have a2 : (0 : Int) < 2 ^ t := Int.pow_pos (by omega)
    have a3 : (2 : Int) ^ 24 = 16777216 := by decide
    omega

theorem sq_bound (a : Int) (h0 : 0 ≤ a) (h : a ≤ 67108864) : 0 ≤ a * a ∧ a * a ≤ 4503599627370496 := by
  have : a * a ≤ 67108864 * 67108864 := Int.mul_le_mul h h h0 (by omega)
  exact ⟨Int.mul_nonneg h0 h0, by omega⟩

theorem bit_end (N r : Int) (h : BitInv N r 0) : ∃ q : Nat, r = q ∧ q * q ≤ N.toNat ∧ N.toNat < (q + 1) * (q + 1) := by
  obtain ⟨h1, h2, h3⟩ := h
  obtain ⟨q, rfl⟩ := Int.eq_ofNat_of_zero_le h1
  have h3 : N < ((q : Int) + 1) * (q + 1) := by
    rcases h3 with ⟨_, h⟩ | ⟨t, _, h, _⟩
    · exact h
    · have a2 : (0 : Int) < 2 ^ t := Int.pow_pos (by omega)
      omega
  have g : 0 ≤ N := Int.le_trans (Int.mul_nonneg h1 h1) h2
  obtain ⟨n, rfl⟩ := Int.eq_ofNat_of_zero_le g
  refine ⟨q, rfl, ?_, ?_⟩
  · rw [Int.toNat_natCast]; exact_mod_cast h2
  · rw [Int.toNat_natCast]; exact_mod_cast h3

theorem isqrt_unique (n q : Nat) (h1 : q * q ≤ n) (h2 : n < (q + 1) * (q + 1)) : isqrt n = q := by
  obtain ⟨w1, w2⟩ := isqrt_spec n
  have a : isqrt n < q + 1 := by
    rcases Nat.lt_or_ge (isqrt n) (q + 1) with g | g
    · exact g
    · have := Nat.mul_self_le_mul_self g; omega
  have b : q < isqrt n + 1 := by
    rcases Nat.lt_or_ge q (isqrt n + 1) with g | g
    · exact g
    · have := Nat.mul_self_le_mul_self g; omega
  omega

end Flt

end Go.Proofs.Ytaghfffbhgpalaa
