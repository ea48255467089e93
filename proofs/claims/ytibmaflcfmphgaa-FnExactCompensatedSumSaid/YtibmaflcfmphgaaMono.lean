/- Rounding keeps the order of numbers; what stays below a power of two. -/
import Derived.Test.YtibmaflcfmphgaaFlt
namespace Go.Proofs.Ytibmaflcfmphgaa
namespace Flt
open Ieee

theorem cutG_mono (a b g : Nat) (h : a ≤ b) : cutG a g ≤ cutG b g := by
  unfold cutG
  have hq : a / g ≤ b / g := Nat.div_le_div_right h
  have hb : ∀ x : Bool, x.toNat ≤ 1 := by intro x; cases x <;> decide
  rcases Nat.lt_or_ge (a / g) (b / g) with hl | hl
  · have := hb (decide (g < 2 * (a % g)) || (g == 2 * (a % g) && a / g % 2 == 1))
    omega
  · have he : a / g = b / g := by omega
    have hr : a % g ≤ b % g := by
      have h1 := Nat.div_add_mod a g
      have h2 := Nat.div_add_mod b g
      rw [he] at h1
      omega
    rw [he]
    apply Nat.add_le_add_left
    by_cases hc : (decide (g < 2 * (a % g)) || (g == 2 * (a % g) && b / g % 2 == 1)) = true
    · have : (decide (g < 2 * (b % g)) || (g == 2 * (b % g) && b / g % 2 == 1)) = true := by
        simp only [Bool.or_eq_true, Bool.and_eq_true, decide_eq_true_eq, beq_iff_eq] at hc ⊢
        rcases hc with hc | ⟨hc, ho⟩
        · exact .inl (by omega)
        · rcases Nat.lt_or_ge (a % g) (b % g) with hl2 | hl2
          · exact .inl (by omega)
          · exact .inr ⟨by omega, ho⟩
      rw [hc, this]; exact Nat.le_refl _
    · have : (decide (g < 2 * (a % g)) || (g == 2 * (a % g) && b / g % 2 == 1)) = false := by simpa using hc
      rw [this]; exact Nat.zero_le _

theorem cutG_small (m d : Nat) (h : m.log2 + 2 ≤ d) : cutG m (2 ^ d) = 0 := by
  have hu := Nat.lt_log2_self (n := m)
  have h1 : 2 * m < 2 ^ d := by
    have : 2 ^ (m.log2 + 1 + 1) ≤ 2 ^ d := Nat.pow_le_pow_right (by omega) (by omega)
    rw [Nat.pow_succ] at this
    omega
  unfold cutG
  rw [Nat.div_eq_of_lt (by omega), Nat.mod_eq_of_lt (by omega)]
  have e1 : ¬ 2 ^ d < 2 * m := by omega
  have e2 : ¬ 2 ^ d = 2 * m := by omega
  simp [e1, e2]

theorem cut_min (m d : Nat) : cutG m (2 ^ min d (m.log2 + 2)) = cutG m (2 ^ d) := by
  rcases Nat.le_total d (m.log2 + 2) with h | h
  · rw [Nat.min_eq_left h]
  · rw [Nat.min_eq_right h, cutG_small m d h, cutG_small m _ (Nat.le_refl _)]

/-- The rung of a number. -/
def rung (f : Format) (m : Nat) (e : Int) : Nat := f.nearest false m e

theorem nearest_word (f : Format) (s : Bool) (m : Nat) (e : Int) : f.nearest s m e = f.word s (rung f m e) ∧ rung f m e < f.signWeight := by
  obtain ⟨r, hr, h⟩ := nearest_rung f m e
  have : rung f m e = r := h false
  rw [this]
  exact ⟨h s, hr⟩

theorem rung_shl (f : Format) (m k : Nat) (e : Int) : rung f (m * 2 ^ k) e = rung f m (e + k) := nearest_shl f false m k e

theorem rung_low (f : Format) (m : Nat) (e : Int) (k : Nat) : rung f m e = rung f (m * 2 ^ k) (e - k) := nearest_low f false m e k

theorem log2_mono {m n : Nat} (h : m ≤ n) (h0 : m ≠ 0) : m.log2 ≤ n.log2 := by
  have := Nat.log2_self_le h0
  have hn : n ≠ 0 := by omega
  rcases Nat.lt_or_ge n.log2 m.log2 with hl | hl
  · have h2 := Nat.lt_log2_self (n := n)
    have h3 : 2 ^ (n.log2 + 1) ≤ 2 ^ m.log2 := Nat.pow_le_pow_right (by omega) (by omega)
    omega
  · exact hl

/-- A rung far below the least place. -/
theorem rung_at (f : Format) (m : Nat) (e : Int) (h0 : m ≠ 0) (he : e ≤ f.leastPlace) :
    rung f m e = min ((lastOf f m e - f.leastPlace).toNat * f.binade + cutG m (2 ^ (lastOf f m e - e).toNat)) f.infRung := by
  unfold rung Format.nearest
  rw [if_neg h0]
  simp only []
  change f.word false (min ((lastOf f m e - f.leastPlace).toNat * f.binade + Toward.even.cut false (m <<< (e - lastOf f m e).toNat) (lastOf f m e - e).toNat) f.infRung) = _
  have h1 : (e - lastOf f m e).toNat = 0 := by unfold lastOf; omega
  rw [cut_even, h1, Nat.shiftLeft_zero, cut_min]
  simp [Format.word]

theorem rung_zero (f : Format) (e : Int) : rung f 0 e = 0 := by
  unfold rung; rw [nearest_zero]; simp [Format.word]

theorem rung_mono_low (f : Format) (m n : Nat) (e : Int) (h : m ≤ n) (he : e ≤ f.leastPlace) : rung f m e ≤ rung f n e := by
  by_cases h0 : m = 0
  · subst h0; rw [rung_zero]; exact Nat.zero_le _
  have hn0 : n ≠ 0 := by omega
  rw [rung_at f m e h0 he, rung_at f n e hn0 he]
  have hlog := log2_mono h h0
  have hbp : f.binade = 2 ^ f.fractionBits := rfl
  rcases Int.lt_or_le (lastOf f m e) (lastOf f n e) with hl | hl
  · have hL : lastOf f n e = e + n.log2 - f.fractionBits := by unfold lastOf at *; omega
    have hlp : f.leastPlace ≤ lastOf f m e := by unfold lastOf; omega
    have c1 : cutG m (2 ^ (lastOf f m e - e).toNat) ≤ 2 * f.binade := by
      have hu := Nat.lt_log2_self (n := m)
      have hd : m.log2 + 1 ≤ (lastOf f m e - e).toNat + (f.fractionBits + 1) := by unfold lastOf; omega
      have hm : m < 2 ^ (lastOf f m e - e).toNat * 2 ^ (f.fractionBits + 1) := by
        rw [← Nat.pow_add]
        exact Nat.lt_of_lt_of_le hu (Nat.pow_le_pow_right (by omega) hd)
      have hq := Nat.div_lt_of_lt_mul hm
      have hb : ∀ x : Bool, x.toNat ≤ 1 := by intro x; cases x <;> decide
      unfold cutG
      have := hb (decide (2 ^ (lastOf f m e - e).toNat < 2 * (m % 2 ^ (lastOf f m e - e).toNat)) || (2 ^ (lastOf f m e - e).toNat == 2 * (m % 2 ^ (lastOf f m e - e).toNat) && m / 2 ^ (lastOf f m e - e).toNat % 2 == 1))
      rw [Nat.pow_succ] at hq
      omega
    have c2 : f.binade ≤ cutG n (2 ^ (lastOf f n e - e).toNat) := by
      have hlo := Nat.log2_self_le hn0
      have hd : n.log2 = f.fractionBits + (lastOf f n e - e).toNat := by omega
      have hq : 2 ^ f.fractionBits ≤ n / 2 ^ (lastOf f n e - e).toNat := by
        rw [Nat.le_div_iff_mul_le (Nat.two_pow_pos _), ← Nat.pow_add, ← hd]; exact hlo
      unfold cutG
      omega
    have c3 : ((lastOf f m e - f.leastPlace).toNat + 1) * f.binade ≤ (lastOf f n e - f.leastPlace).toNat * f.binade := Nat.mul_le_mul_right _ (by omega)
    rw [Nat.add_mul, Nat.one_mul] at c3
    omega
  · have hL : lastOf f m e = lastOf f n e := by unfold lastOf at *; omega
    rw [hL]
    have := cutG_mono m n (2 ^ (lastOf f n e - e).toNat) h
    omega

/-- Rounding keeps the order. -/
theorem rung_mono (f : Format) (m n : Nat) (e j b : Int) (hb1 : b ≤ e) (hb2 : b ≤ j) (h : m * 2 ^ (e - b).toNat ≤ n * 2 ^ (j - b).toNat) : rung f m e ≤ rung f n j := by
  obtain ⟨c, hc, hcl⟩ : ∃ c : Nat, b - c ≤ f.leastPlace ∧ (0 : Int) ≤ c := ⟨(b - f.leastPlace).toNat, by omega, by omega⟩
  rw [rung_low f m e ((e - b).toNat + c), rung_low f n j ((j - b).toNat + c)]
  have e1 : e - (((e - b).toNat + c : Nat) : Int) = b - c := by omega
  have e2 : j - (((j - b).toNat + c : Nat) : Int) = b - c := by omega
  rw [e1, e2]
  refine rung_mono_low f _ _ _ ?_ hc
  rw [Nat.pow_add, Nat.pow_add, ← Nat.mul_assoc, ← Nat.mul_assoc]
  exact Nat.mul_le_mul_right _ h

/-- The rung of a power of two. -/
theorem rung_pow (f : Format) (hf : 2 ≤ f.exponentBits) (k : Int) (h1 : f.leastPlace + f.fractionBits ≤ k) (h2 : k ≤ top f) :
    rung f 1 k = ((k - f.leastPlace - f.fractionBits).toNat + 1) * f.binade ∧ rung f 1 k < f.infRung := by
  have hfit : Fit f 1 k := ⟨by rw [Nat.pow_succ]; have := Nat.two_pow_pos f.fractionBits; omega, by omega, .inr (by rw [show Nat.log2 1 = 0 by decide]; omega)⟩
  have hinf := fit_inf f hf 1 k (by decide) hfit
  unfold rung
  rw [nearest_norm f false 1 k (by decide) hfit.1 hfit.2.1, Nat.min_eq_left (by omega)]
  have hl : lastOf f 1 k = k - f.fractionBits := by unfold lastOf; rw [show Nat.log2 1 = 0 by decide]; omega
  rw [hl] at hinf ⊢
  have e1 : (k - (k - f.fractionBits)).toNat = f.fractionBits := by omega
  have e2 : (k - f.fractionBits - f.leastPlace).toNat = (k - f.leastPlace - f.fractionBits).toNat := by omega
  rw [e1, e2, Nat.one_mul] at hinf
  rw [e1, e2, Nat.one_mul]
  have hb : f.binade = 2 ^ f.fractionBits := rfl
  rw [Nat.add_mul, Nat.one_mul]
  simp only [Format.word, Bool.false_eq_true, if_false]
  exact ⟨by omega, by omega⟩

theorem single_pow (k : Int) (h1 : -126 ≤ k) (h2 : k ≤ 127) : rung single 1 k = ((k + 127).toNat) * 8388608 ∧ rung single 1 k < 2139095040 := by
  have ht : top single = 127 := by decide +kernel
  have := rung_pow single (by decide) k (by rw [s_lp]; show (-149 : Int) + (23 : Nat) ≤ k; omega) (by rw [ht]; exact h2)
  rw [s_lp, s_binade, s_inf] at this
  refine ⟨this.1.trans ?_, this.2⟩
  congr 1
  show (k - -149 - (23 : Nat)).toNat + 1 = _
  omega

theorem double_pow (k : Int) (h1 : -1022 ≤ k) (h2 : k ≤ 1023) : rung double 1 k = ((k + 1023).toNat) * 4503599627370496 ∧ rung double 1 k < 9218868437227405312 := by
  have ht : top double = 1023 := by decide +kernel
  have := rung_pow double (by decide) k (by rw [d_lp]; show (-1074 : Int) + (52 : Nat) ≤ k; omega) (by rw [ht]; exact h2)
  rw [d_lp, d_binade, d_inf] at this
  refine ⟨this.1.trans ?_, this.2⟩
  congr 1
  show (k - -1074 - (52 : Nat)).toNat + 1 = _
  omega
end Flt
end Go.Proofs.Ytibmaflcfmphgaa
