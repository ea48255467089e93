/- Numbers of a floating-point format by their digits and their place: what the operations make of them where nothing is lost, and what 'nearest' hangs on. -/
import Ieee.Arith
import Derived.Laws.FloatBits
namespace Go.Proofs.Ytfplcckfljemeaa
namespace Flt
open Ieee

theorem s_binade : single.binade = 8388608 := rfl
theorem s_inf : single.infRung = 2139095040 := rfl
theorem s_sw : single.signWeight = 2147483648 := rfl
theorem s_lp : single.leastPlace = -149 := rfl
theorem d_binade : double.binade = 4503599627370496 := rfl
theorem d_inf : double.infRung = 9218868437227405312 := rfl
theorem d_sw : double.signWeight = 9223372036854775808 := rfl
theorem d_lp : double.leastPlace = -1074 := rfl

theorem log2_mul_pow (m k : Nat) (h : m ≠ 0) : (m * 2 ^ k).log2 = m.log2 + k := by
  have hp : 0 < 2 ^ k := Nat.two_pow_pos _
  have h2 : m * 2 ^ k ≠ 0 := Nat.mul_ne_zero h (by omega)
  apply (Nat.log2_eq_iff h2).2
  have hl := Nat.log2_self_le h
  have hu := Nat.lt_log2_self (n := m)
  constructor
  · rw [Nat.pow_add]; exact Nat.mul_le_mul_right _ hl
  · rw [show m.log2 + k + 1 = (m.log2 + 1) + k by omega, Nat.pow_add]
    exact Nat.mul_lt_mul_of_pos_right hu hp

/-- 'cut' to the even one, by its gap. -/
def cutG (n gap : Nat) : Nat := n / gap + (decide (gap < 2 * (n % gap)) || (gap == 2 * (n % gap) && n / gap % 2 == 1)).toNat

theorem cut_even (s : Bool) (n d : Nat) : Toward.even.cut s n d = cutG n (2 ^ min d (n.log2 + 2)) := by
  simp only [Toward.cut, cutG, Nat.one_shiftLeft]

theorem cutG_one (n : Nat) : cutG n 1 = n := by
  simp [cutG, Nat.mod_one]

theorem cutG_scale (n g k : Nat) : cutG (n * 2 ^ k) (g * 2 ^ k) = cutG n g := by
  have hp : 0 < 2 ^ k := Nat.two_pow_pos _
  unfold cutG
  rw [Nat.mul_div_mul_right _ _ hp, Nat.mul_mod_mul_right]
  have e1 : decide (g * 2 ^ k < 2 * (n % g * 2 ^ k)) = decide (g < 2 * (n % g)) := by
    rw [← Nat.mul_assoc]
    exact decide_eq_decide.2 (Nat.mul_lt_mul_right hp)
  have e2 : (g * 2 ^ k == 2 * (n % g * 2 ^ k)) = (g == 2 * (n % g)) := by
    rw [← Nat.mul_assoc, Bool.eq_iff_iff, beq_iff_eq, beq_iff_eq]
    exact ⟨fun h => Nat.eq_of_mul_eq_mul_right hp h, fun h => congrArg (· * 2 ^ k) h⟩
  rw [e1, e2]

theorem cutG_dvd (n g : Nat) (hg : 0 < g) : cutG (n * g) g = n := by
  unfold cutG
  rw [Nat.mul_div_cancel _ hg, Nat.mul_mod_left]
  simp; omega

/-- What 'nearest' writes hangs on the number alone. -/
theorem nearest_shl (f : Format) (s : Bool) (m k : Nat) (e : Int) : f.nearest s (m * 2 ^ k) e = f.nearest s m (e + k) := by
  by_cases hm : m = 0
  · subst hm; simp [Format.nearest]
  have hp : 0 < 2 ^ k := Nat.two_pow_pos _
  have hmk : m * 2 ^ k ≠ 0 := Nat.mul_ne_zero hm (by omega)
  unfold Format.nearest
  rw [if_neg hm, if_neg hmk, log2_mul_pow m k hm]
  have hl : max (e + ((m.log2 + k : Nat) : Int) - f.fractionBits) f.leastPlace = max (e + k + (m.log2 : Int) - f.fractionBits) f.leastPlace := by
    congr 1; omega
  rw [hl]
  generalize max (e + k + (m.log2 : Int) - f.fractionBits) f.leastPlace = last
  simp only []
  congr 3
  rw [cut_even, cut_even]
  simp only [Nat.shiftLeft_eq]
  rcases Int.le_total last e with h | h
  · have e1 : (last - e).toNat = 0 := by omega
    have e2 : (last - (e + k)).toNat = 0 := by omega
    have e3 : (e + k - last).toNat = k + (e - last).toNat := by omega
    rw [e1, e2, e3, Nat.zero_min, Nat.zero_min, Nat.pow_zero, cutG_one, cutG_one, Nat.pow_add, Nat.mul_assoc]
  · have e1 : (e - last).toNat = 0 := by omega
    rw [e1, Nat.pow_zero, Nat.mul_one]
    rcases Int.le_total last (e + k) with h' | h'
    · obtain ⟨d, hd⟩ : ∃ d : Nat, last = e + d := ⟨(last - e).toNat, by omega⟩
      subst hd
      have e2 : (e + d - (e + k)).toNat = 0 := by omega
      have e3 : (e + k - (e + d)).toNat = k - d := by omega
      have e4 : (e + d - e).toNat = d := by omega
      have hdk : d ≤ k := by omega
      rw [e2, e3, e4, Nat.zero_min, Nat.pow_zero, cutG_one, log2_mul_pow m k hm, Nat.min_eq_left (by omega)]
      have : m * 2 ^ k = m * 2 ^ (k - d) * 2 ^ d := by
        rw [Nat.mul_assoc, ← Nat.pow_add]; congr 2; omega
      rw [this, cutG_dvd _ _ (Nat.two_pow_pos _)]
    · obtain ⟨d, hd⟩ : ∃ d : Nat, last = e + k + d := ⟨(last - (e + k)).toNat, by omega⟩
      subst hd
      have e2 : (e + k + d - (e + k)).toNat = d := by omega
      have e3 : (e + k - (e + k + d)).toNat = 0 := by omega
      have e4 : (e + k + d - e).toNat = d + k := by omega
      rw [e2, e3, e4, Nat.pow_zero, Nat.mul_one, log2_mul_pow m k hm]
      have e5 : min (d + k) (m.log2 + k + 2) = min d (m.log2 + 2) + k := by omega
      rw [e5, Nat.pow_add, cutG_scale]

/-- The same, to a place below. -/
theorem nearest_low (f : Format) (s : Bool) (m : Nat) (e : Int) (k : Nat) : f.nearest s m e = f.nearest s (m * 2 ^ k) (e - k) := by
  rw [nearest_shl]; congr 1; omega

theorem binade_pos (f : Format) : 0 < f.binade := Nat.two_pow_pos _

theorem log2_lt (m n : Nat) (h0 : m ≠ 0) (h : m < 2 ^ n) : m.log2 < n := (Nat.log2_lt h0).2 h

/-- The place of the last digit that is kept of a number. -/
def lastOf (f : Format) (m : Nat) (e : Int) : Int := max (e + m.log2 - f.fractionBits) f.leastPlace

/-- A number that the format has: no rounding. -/
theorem nearest_norm (f : Format) (s : Bool) (m : Nat) (e : Int) (h0 : m ≠ 0) (hm : m < 2 ^ (f.fractionBits + 1)) (he : f.leastPlace ≤ e) :
    f.nearest s m e = f.word s (min ((lastOf f m e - f.leastPlace).toNat * f.binade + m * 2 ^ (e - lastOf f m e).toNat) f.infRung) := by
  have hl := log2_lt m _ h0 hm
  unfold Format.nearest
  rw [if_neg h0]
  simp only []
  change f.word s (min ((lastOf f m e - f.leastPlace).toNat * f.binade + Toward.even.cut s (m <<< (e - lastOf f m e).toNat) (lastOf f m e - e).toNat) f.infRung) = _
  have h1 : lastOf f m e ≤ e := by unfold lastOf; omega
  have e1 : (lastOf f m e - e).toNat = 0 := by omega
  rw [e1, cut_even, Nat.zero_min, Nat.pow_zero, cutG_one, Nat.shiftLeft_eq]

theorem nearest_zero (f : Format) (s : Bool) (e : Int) : f.nearest s 0 e = f.word s 0 := by simp [Format.nearest]

theorem word_read (f : Format) (s : Bool) (r : Nat) (hr : r < f.signWeight) :
    f.read (f.word s r) = if r < f.binade then .number s r f.leastPlace
      else if r < f.infRung then .number s (f.binade + r % f.binade) (f.leastPlace + (r / f.binade - 1 : Nat))
      else if r = f.infRung then .infinity s else .nan s (r - f.infRung) := by
  have hp : 0 < f.signWeight := Nat.two_pow_pos _
  have e1 : (f.word s r / f.signWeight % 2 == 1) = s := by
    cases s
    · simp [Format.word, Nat.div_eq_of_lt hr]
    · simp [Format.word, Nat.add_div_left _ hp, Nat.div_eq_of_lt hr]
  have e2 : f.word s r % f.signWeight = r := by
    cases s
    · simp [Format.word, Nat.mod_eq_of_lt hr]
    · simp [Format.word, Nat.mod_eq_of_lt hr]
  unfold Format.read
  simp only [e1, e2]

/-- A number that the format has is read as itself, its digits shifted. -/
theorem read_nearest (f : Format) (s : Bool) (m : Nat) (e : Int) (h0 : m ≠ 0) (hm : m < 2 ^ (f.fractionBits + 1)) (he : f.leastPlace ≤ e)
    (hi : (lastOf f m e - f.leastPlace).toNat * f.binade + m * 2 ^ (e - lastOf f m e).toNat < f.infRung) :
    f.read (f.nearest s m e) = .number s (m * 2 ^ (e - lastOf f m e).toNat) (lastOf f m e) := by
  have hl := log2_lt m _ h0 hm
  have hu := Nat.lt_log2_self (n := m)
  have hlo := Nat.log2_self_le h0
  rw [nearest_norm f s m e h0 hm he, Nat.min_eq_left (by omega), word_read f s _ (by have := f.infRung_lt; omega)]
  have hb : f.binade = 2 ^ f.fractionBits := rfl
  have hbp := binade_pos f
  rcases Int.le_total (e + m.log2 - f.fractionBits) f.leastPlace with h | h
  · by_cases hs : (e + m.log2 - f.fractionBits) = f.leastPlace
    · -- the least normal binade
      have h1 : lastOf f m e = f.leastPlace := by unfold lastOf; omega
      rw [h1] at hi ⊢
      simp only [Int.sub_self, Int.toNat_zero, Nat.zero_mul, Nat.zero_add] at hi ⊢
      have e1 : m.log2 + (e - f.leastPlace).toNat = f.fractionBits := by omega
      generalize hk : (e - f.leastPlace).toNat = k at *
      have g1 : f.binade ≤ m * 2 ^ k := by
        rw [hb, ← e1, Nat.pow_add]; exact Nat.mul_le_mul_right _ hlo
      have g2 : m * 2 ^ k < 2 * f.binade := by
        rw [hb, ← Nat.pow_succ', ← e1, show (m.log2 + k).succ = m.log2 + 1 + k by omega, Nat.pow_add]
        exact Nat.mul_lt_mul_of_pos_right hu (Nat.two_pow_pos _)
      rw [if_neg (by omega), if_pos hi]
      have d1 : m * 2 ^ k / f.binade = 1 := by
        apply Nat.div_eq_of_lt_le <;> omega
      have d2 := Nat.div_add_mod (m * 2 ^ k) f.binade
      rw [d1] at d2 ⊢
      congr 1
      · omega
      · simp
    · have h1 : lastOf f m e = f.leastPlace := by unfold lastOf; omega
      rw [h1] at hi ⊢
      simp only [Int.sub_self, Int.toNat_zero, Nat.zero_mul, Nat.zero_add] at hi ⊢
      have e1 : m.log2 + 1 + (e - f.leastPlace).toNat ≤ f.fractionBits := by omega
      generalize hk : (e - f.leastPlace).toNat = k at *
      have g2 : m * 2 ^ k < f.binade := by
        have a1 : m * 2 ^ k < 2 ^ (m.log2 + 1) * 2 ^ k := Nat.mul_lt_mul_of_pos_right hu (Nat.two_pow_pos _)
        rw [← Nat.pow_add] at a1
        exact Nat.lt_of_lt_of_le a1 (Nat.pow_le_pow_right (by omega) e1)
      rw [if_pos g2]
  · have h1 : lastOf f m e = e + m.log2 - f.fractionBits := by unfold lastOf; omega
    have e1 : m.log2 + (e - lastOf f m e).toNat = f.fractionBits := by omega
    have hge : f.leastPlace ≤ lastOf f m e := by omega
    obtain ⟨j, hj⟩ : ∃ j : Nat, lastOf f m e = f.leastPlace + j := ⟨(lastOf f m e - f.leastPlace).toNat, by omega⟩
    have ej : (lastOf f m e - f.leastPlace).toNat = j := by omega
    rw [ej] at hi ⊢
    generalize hk : (e - lastOf f m e).toNat = k at *
    have g1 : f.binade ≤ m * 2 ^ k := by
      rw [hb, ← e1, Nat.pow_add]; exact Nat.mul_le_mul_right _ hlo
    have g2 : m * 2 ^ k < 2 * f.binade := by
      rw [hb, ← Nat.pow_succ', ← e1, show (m.log2 + k).succ = m.log2 + 1 + k by omega, Nat.pow_add]
      exact Nat.mul_lt_mul_of_pos_right hu (Nat.two_pow_pos _)
    generalize m * 2 ^ k = q at *
    have gj : 0 ≤ j * f.binade := Nat.zero_le _
    rw [if_neg (by omega), if_pos hi]
    have d1 : (j * f.binade + q) / f.binade = j + 1 := by
      rw [Nat.add_comm, Nat.add_mul_div_right _ _ hbp]
      have : q / f.binade = 1 := by apply Nat.div_eq_of_lt_le <;> omega
      omega
    have d2 : (j * f.binade + q) % f.binade = q - f.binade := by
      rw [Nat.add_comm, Nat.add_mul_mod_self_right]
      rw [Nat.mod_eq_sub_mod g1, Nat.mod_eq_of_lt (by omega)]
    rw [d1, d2]
    congr 1
    · omega
    · rw [hj]; congr 1

/-- The greatest exponent of two of a format's numbers. -/
def top (f : Format) : Int := 2 ^ (f.exponentBits - 1) - 1

/-- The format has the number 'm * 2 ^ e'. -/
def Fit (f : Format) (m : Nat) (e : Int) : Prop := m < 2 ^ (f.fractionBits + 1) ∧ f.leastPlace ≤ e ∧ (m = 0 ∨ e + m.log2 ≤ top f)

theorem pow_split (n : Nat) (h : 1 ≤ n) : (2 : Nat) ^ n = 2 * 2 ^ (n - 1) := by
  rw [← Nat.pow_succ']; congr 1; omega

theorem fit_inf (f : Format) (hf : 2 ≤ f.exponentBits) (m : Nat) (e : Int) (h0 : m ≠ 0) (h : Fit f m e) :
    (lastOf f m e - f.leastPlace).toNat * f.binade + m * 2 ^ (e - lastOf f m e).toNat < f.infRung := by
  obtain ⟨hm, he, ht⟩ := h
  have ht : e + m.log2 ≤ top f := by rcases ht with h | h <;> omega
  have hl := log2_lt m _ h0 hm
  have hu := Nat.lt_log2_self (n := m)
  have hbp := binade_pos f
  have hb : f.binade = 2 ^ f.fractionBits := rfl
  have hm2 : m * 2 ^ (e - lastOf f m e).toNat < 2 * f.binade := by
    have a1 : m * 2 ^ (e - lastOf f m e).toNat < 2 ^ (m.log2 + 1) * 2 ^ (e - lastOf f m e).toNat := Nat.mul_lt_mul_of_pos_right hu (Nat.two_pow_pos _)
    rw [← Nat.pow_add] at a1
    rw [hb, ← Nat.pow_succ']
    exact Nat.lt_of_lt_of_le a1 (Nat.pow_le_pow_right (by omega) (by unfold lastOf; omega))
  have hp := pow_split f.exponentBits (by omega)
  have hpp : 2 ≤ 2 ^ (f.exponentBits - 1) := by have := Nat.pow_le_pow_right (n := 2) (show 0 < 2 by omega) (show 1 ≤ f.exponentBits - 1 by omega); omega
  generalize hX : (2 : Nat) ^ (f.exponentBits - 1) = X at *
  have hlp : f.leastPlace = 2 - (X : Int) - f.fractionBits := by unfold Format.leastPlace; rw [← hX]; simp
  have htop : top f = (X : Int) - 1 := by unfold top; rw [← hX]; simp
  have hj : (lastOf f m e - f.leastPlace).toNat + 3 ≤ 2 * X := by
    unfold lastOf; rw [htop] at ht; omega
  have hinf : f.infRung = (2 * X - 1) * f.binade := by unfold Format.infRung; rw [hp]
  rw [hinf]
  generalize (lastOf f m e - f.leastPlace).toNat = j at *
  have : (j + 2) * f.binade ≤ (2 * X - 1) * f.binade := Nat.mul_le_mul_right _ (by omega)
  rw [Nat.add_mul] at this
  omega

theorem read_fit (f : Format) (hf : 2 ≤ f.exponentBits) (s : Bool) (m : Nat) (e : Int) (h : Fit f m e) :
    ∃ k : Nat, f.read (f.nearest s m e) = .number s (m * 2 ^ k) (e - k) := by
  by_cases h0 : m = 0
  · subst h0
    refine ⟨(e - f.leastPlace).toNat, ?_⟩
    rw [nearest_zero, word_read f s 0 (Nat.two_pow_pos _), if_pos (binade_pos f)]
    congr 1
    · simp
    · have := h.2.1; omega
  · refine ⟨(e - lastOf f m e).toNat, ?_⟩
    rw [read_nearest f s m e h0 h.1 h.2.1 (fit_inf f hf m e h0 h)]
    congr 1
    have h1 : lastOf f m e ≤ e := by
      have hl := log2_lt m _ h0 h.1
      have := h.2.1
      unfold lastOf; omega
    omega

theorem fit_lt (f : Format) (m : Nat) (e : Int) (j : Nat) (hm : m < 2 ^ (f.fractionBits + 1)) (he : f.leastPlace ≤ e) (hj : m < 2 ^ j) (ht : e + j ≤ top f + 1) : Fit f m e := by
  refine ⟨hm, he, ?_⟩
  by_cases h0 : m = 0
  · exact .inl h0
  · have := log2_lt m j h0 hj
    right; omega

/-- A word of a number, as its number. -/
theorem word_fit (f : Format) (hf : 2 ≤ f.exponentBits) (x : Nat) (hx : x < 2 ^ f.width) (hr : x % f.signWeight < f.infRung) :
    ∃ (s : Bool) (m : Nat) (e : Int), f.read x = .number s m e ∧ Fit f m e ∧ x = f.nearest s m e := by
  have two : 2 ^ f.width = 2 * f.signWeight := by
    unfold Format.width Format.signWeight
    rw [Nat.add_assoc, Nat.add_comm 1, Nat.pow_succ, Nat.mul_comm]
  have hp : 0 < f.signWeight := Nat.two_pow_pos _
  generalize hs : (x / f.signWeight % 2 == 1) = s
  have hq : x / f.signWeight < 2 := Nat.div_lt_of_lt_mul (by omega)
  have hxw : x = f.word s (x % f.signWeight) := by
    have := Nat.div_add_mod x f.signWeight
    subst hs
    generalize x / f.signWeight = q at *
    rcases (show q = 0 ∨ q = 1 by omega) with rfl | rfl
    · simp [Format.word]; omega
    · simp [Format.word]; omega
  have hread := word_read f s (x % f.signWeight) (Nat.mod_lt _ hp)
  rw [← hxw] at hread
  generalize x % f.signWeight = r at *
  have hbp := binade_pos f
  have hb : f.binade = 2 ^ f.fractionBits := rfl
  have hb2 : 2 ^ (f.fractionBits + 1) = 2 * f.binade := by rw [hb, Nat.pow_succ']
  have hsp := pow_split f.exponentBits (by omega)
  have hpp : 0 < 2 ^ (f.exponentBits - 1) := Nat.two_pow_pos _
  have hlp : f.leastPlace = 2 - ((2 ^ (f.exponentBits - 1) : Nat) : Int) - f.fractionBits := by unfold Format.leastPlace; simp
  have htop : top f = ((2 ^ (f.exponentBits - 1) : Nat) : Int) - 1 := by unfold top; simp
  have hinf : f.infRung = (2 * 2 ^ (f.exponentBits - 1) - 1) * f.binade := by unfold Format.infRung; rw [hsp]
  by_cases h1 : r < f.binade
  · rw [if_pos h1] at hread
    refine ⟨s, r, f.leastPlace, hread, ⟨by omega, Int.le_refl _, ?_⟩, ?_⟩
    · by_cases h0 : r = 0
      · exact .inl h0
      · have := log2_lt r _ h0 (hb ▸ h1)
        right; omega
    · by_cases h0 : r = 0
      · subst h0; rw [nearest_zero]; exact hxw
      · have hl := log2_lt r _ h0 (hb ▸ h1)
        rw [nearest_norm f s r _ h0 (by omega) (Int.le_refl _)]
        have : lastOf f r f.leastPlace = f.leastPlace := by unfold lastOf; omega
        rw [this, Int.sub_self, Int.toNat_zero, Nat.zero_mul, Nat.pow_zero, Nat.mul_one, Nat.zero_add, Nat.min_eq_left (by omega)]
        exact hxw
  · rw [if_neg h1, if_pos hr] at hread
    have hm0 : f.binade + r % f.binade ≠ 0 := by omega
    have hmm := Nat.mod_lt r hbp
    have hlog : (f.binade + r % f.binade).log2 = f.fractionBits := by
      rw [Nat.log2_eq_iff hm0, ← hb, hb2]; omega
    have hdm := Nat.div_add_mod r f.binade
    have hd1 : 1 ≤ r / f.binade := (Nat.le_div_iff_mul_le hbp).2 (by omega)
    have hd2 : r / f.binade < 2 * 2 ^ (f.exponentBits - 1) - 1 := Nat.div_lt_of_lt_mul (by rw [Nat.mul_comm, ← hinf]; exact hr)
    refine ⟨s, _, _, hread, ⟨by omega, by omega, .inr ?_⟩, ?_⟩
    · rw [hlog]; omega
    · rw [nearest_norm f s _ _ hm0 (by omega) (by omega)]
      have : lastOf f (f.binade + r % f.binade) (f.leastPlace + (r / f.binade - 1 : Nat)) = f.leastPlace + (r / f.binade - 1 : Nat) := by unfold lastOf; rw [hlog]; omega
      rw [this, Int.sub_self, Int.toNat_zero, Nat.pow_zero, Nat.mul_one]
      have e1 : (f.leastPlace + (r / f.binade - 1 : Nat) - f.leastPlace).toNat = r / f.binade - 1 := by omega
      rw [e1]
      have e2 : (r / f.binade - 1) * f.binade + (f.binade + r % f.binade) = r := by
        rw [Nat.sub_mul, Nat.one_mul, Nat.mul_comm]
        have : f.binade ≤ f.binade * (r / f.binade) := Nat.le_mul_of_pos_right _ (by omega)
        omega
      rw [e2, Nat.min_eq_left (by omega)]
      exact hxw

/-- From one format to the other, whatever it gives. -/
theorem conv_fit (f g : Format) (hf : 2 ≤ f.exponentBits) (s : Bool) (m : Nat) (e : Int) (h : Fit f m e) :
    g.write (f.read (f.nearest s m e)) = g.nearest s m e := by
  obtain ⟨k, hk⟩ := read_fit f hf s m e h
  rw [hk]
  simp only [Format.write]
  rw [nearest_shl]; congr 1; omega

theorem mul_fit (f : Format) (hf : 2 ≤ f.exponentBits) (s t : Bool) (m n : Nat) (e j : Int) (h : Fit f m e) (h' : Fit f n j) :
    f.mul (f.nearest s m e) (f.nearest t n j) = some (f.nearest (s ^^ t) (m * n) (e + j)) := by
  obtain ⟨k, hk⟩ := read_fit f hf s m e h
  obtain ⟨l, hl⟩ := read_fit f hf t n j h'
  unfold Format.mul
  rw [hk, hl]
  simp only [Datum.product, Option.map_some, Format.write, Option.some.injEq]
  rw [show m * 2 ^ k * (n * 2 ^ l) = m * n * 2 ^ (k + l) by rw [Nat.pow_add]; ac_rfl, nearest_shl]
  congr 1; omega

/-- A quotient by a power of two. -/
theorem div_pow (f : Format) (hf : 2 ≤ f.exponentBits) (s t : Bool) (m : Nat) (e j : Int) (h : Fit f m e) (h' : Fit f 1 j) :
    f.div (f.nearest s m e) (f.nearest t 1 j) = some (f.nearest (s ^^ t) m (e - j)) := by
  have hr : ∃ k : Nat, f.read (f.nearest s m e) = .number s (m * 2 ^ k) (e - k) ∧ m * 2 ^ k < 2 ^ (f.fractionBits + 1) := by
    by_cases h0 : m = 0
    · obtain ⟨k, hk⟩ := read_fit f hf s m e h
      refine ⟨k, hk, ?_⟩
      subst h0; rw [Nat.zero_mul]; exact Nat.two_pow_pos _
    · refine ⟨(e - lastOf f m e).toNat, ?_, ?_⟩
      · rw [read_nearest f s m e h0 h.1 h.2.1 (fit_inf f hf m e h0 h)]
        congr 1
        have h1 : lastOf f m e ≤ e := by
          have hl := log2_lt m _ h0 h.1
          have := h.2.1
          unfold lastOf; omega
        omega
      · have hu := Nat.lt_log2_self (n := m)
        have hl := log2_lt m _ h0 h.1
        have a1 : m * 2 ^ (e - lastOf f m e).toNat < 2 ^ (m.log2 + 1) * 2 ^ (e - lastOf f m e).toNat := Nat.mul_lt_mul_of_pos_right hu (Nat.two_pow_pos _)
        rw [← Nat.pow_add] at a1
        exact Nat.lt_of_lt_of_le a1 (Nat.pow_le_pow_right (by omega) (by unfold lastOf; omega))
  obtain ⟨k, hk, hlt⟩ := hr
  obtain ⟨l, hl⟩ := read_fit f hf t 1 j h'
  unfold Format.div
  rw [hk, hl]
  simp only [Datum.quotient, Nat.one_mul]
  have hp : 0 < 2 ^ l := Nat.two_pow_pos _
  rw [if_neg (by omega), Nat.log2_two_pow]
  have hmore : l ≤ f.fractionBits + 2 + l - (m * 2 ^ k).log2 := by
    by_cases h0 : m * 2 ^ k = 0
    · rw [h0]; simp [Nat.log2_zero]
    · have := log2_lt _ _ h0 hlt; omega
  generalize f.fractionBits + 2 + l - (m * 2 ^ k).log2 = more at *
  obtain ⟨d, rfl⟩ : ∃ d, more = l + d := ⟨more - l, by omega⟩
  have e1 : (m * 2 ^ k) <<< (l + d) = (m * 2 ^ (k + d)) * 2 ^ l := by
    rw [Nat.shiftLeft_eq, Nat.pow_add, Nat.pow_add]; ac_rfl
  rw [e1, Nat.mul_div_cancel _ hp, Nat.mul_mod_left]
  simp only [Option.map_some, Format.write, Option.some.injEq, bne_self_eq_false, Bool.toNat_false, Nat.add_zero]
  rw [show 2 * (m * 2 ^ (k + d)) = m * 2 ^ (k + d + 1) by rw [Nat.pow_succ]; ac_rfl, nearest_shl]
  congr 1; omega
/-- A signed number of digits. -/
def sv (s : Bool) (m : Nat) : Int := if s then -(m : Int) else m

theorem signed_sv (s : Bool) (m k : Nat) : signed s m k = sv s m * 2 ^ k := by
  unfold signed sv
  rw [Nat.shiftLeft_eq]
  cases s <;> simp [Int.neg_mul]

theorem sv_mul (s : Bool) (m k : Nat) : sv s (m * 2 ^ k) = sv s m * 2 ^ k := by
  unfold sv; cases s <;> simp [Int.neg_mul]

/-- The sum of two numbers over a place below both. -/
def tot (s : Bool) (m : Nat) (e : Int) (t : Bool) (n : Nat) (j b : Int) : Int := sv s m * 2 ^ (e - b).toNat + sv t n * 2 ^ (j - b).toNat

theorem tot_low (s t : Bool) (m n : Nat) (e j b : Int) (k : Nat) (h1 : b ≤ e) (h2 : b ≤ j) : tot s m e t n j (b - k) = tot s m e t n j b * 2 ^ k := by
  unfold tot
  rw [Int.add_mul, Int.mul_assoc, Int.mul_assoc, ← Int.pow_add, ← Int.pow_add]
  congr 3 <;> omega

/-- The word of a signed number. -/
def wordOf (f : Format) (z : Bool) (v : Int) (e : Int) : Nat := f.nearest (if v = 0 then z else v < 0) v.natAbs e

theorem wordOf_shl (f : Format) (z : Bool) (v : Int) (k : Nat) (e : Int) : wordOf f z (v * 2 ^ k) e = wordOf f z v (e + k) := by
  unfold wordOf
  have hp : (0 : Int) < 2 ^ k := Int.pow_pos (by omega)
  have e1 : (v * 2 ^ k = 0) = (v = 0) := by
    apply propext; constructor
    · intro h; rcases Int.mul_eq_zero.1 h with h | h <;> omega
    · intro h; rw [h, Int.zero_mul]
  have e2 : decide (v * 2 ^ k < 0) = decide (v < 0) := by
    apply decide_eq_decide.2; constructor
    · intro h
      rcases Int.lt_or_le v 0 with g | g
      · exact g
      · have := Int.mul_nonneg g (Int.le_of_lt hp); omega
    · intro h; exact Int.mul_neg_of_neg_of_pos h hp
  have e3 : (v * 2 ^ k).natAbs = v.natAbs * 2 ^ k := by rw [Int.natAbs_mul, Int.natAbs_pow]; rfl
  rw [e3, nearest_shl]
  simp only [e1, e2]

theorem add_fit (f : Format) (hf : 2 ≤ f.exponentBits) (s t : Bool) (m n : Nat) (e j b : Int) (h : Fit f m e) (h' : Fit f n j) (hb1 : b ≤ e) (hb2 : b ≤ j) :
    f.add (f.nearest s m e) (f.nearest t n j) = some (wordOf f (s && t) (tot s m e t n j b) b) := by
  obtain ⟨k, hk⟩ := read_fit f hf s m e h
  obtain ⟨l, hl⟩ := read_fit f hf t n j h'
  unfold Format.add
  rw [hk, hl]
  simp only [Datum.sum, Option.map_some, Format.write, Option.some.injEq]
  change wordOf f (s && t) (signed s (m * 2 ^ k) (e - k - min (e - k) (j - l)).toNat + signed t (n * 2 ^ l) (j - l - min (e - k) (j - l)).toNat) (min (e - k) (j - l)) = _
  generalize hc : min (e - k) (j - l) = c
  have e1 : signed s (m * 2 ^ k) (e - k - c).toNat + signed t (n * 2 ^ l) (j - l - c).toNat = tot s m e t n j c := by
    rw [signed_sv, signed_sv, sv_mul, sv_mul]
    unfold tot
    rw [Int.mul_assoc, Int.mul_assoc, ← Int.pow_add, ← Int.pow_add]
    congr 3 <;> omega
  rw [e1]
  rcases Int.le_total c b with g | g
  · obtain ⟨d, hd⟩ : ∃ d : Nat, c = b - d := ⟨(b - c).toNat, by omega⟩
    subst hd
    rw [tot_low _ _ _ _ _ _ _ _ hb1 hb2, wordOf_shl]; congr 1; omega
  · obtain ⟨d, hd⟩ : ∃ d : Nat, b = c - d := ⟨(c - b).toNat, by omega⟩
    subst hd
    rw [tot_low _ _ _ _ _ _ _ _ (by omega) (by omega), wordOf_shl]; congr 1; omega

/-- The sign's bit turned. -/
def flip (f : Format) (x : Nat) : Nat := x ^^^ 2 ^ (f.exponentBits + f.fractionBits)

theorem flip_word (f : Format) (s : Bool) (r : Nat) (hr : r < f.signWeight) : flip f (f.word s r) = f.word (!s) r := by
  unfold flip Format.word
  unfold Format.signWeight at *
  have key : ∀ a : Nat, a < 2 ^ (f.exponentBits + f.fractionBits) → a ^^^ 2 ^ (f.exponentBits + f.fractionBits) = 2 ^ (f.exponentBits + f.fractionBits) + a := by
    intro a ha
    have h1 := Nat.two_pow_add_eq_or_of_lt ha 1
    rw [Nat.mul_one] at h1
    rw [h1]
    apply Nat.eq_of_testBit_eq
    intro i
    rw [Nat.testBit_xor, Nat.testBit_or, Nat.testBit_two_pow]
    by_cases hi : f.exponentBits + f.fractionBits = i
    · subst hi; rw [Nat.testBit_lt_two_pow ha]; simp
    · simp [hi]
  cases s
  · simpa using key r hr
  · simp only [if_true, Bool.not_true, Bool.false_eq_true, if_false]
    rw [← key r hr, Nat.xor_assoc, Nat.xor_self, Nat.xor_zero]

theorem nearest_rung (f : Format) (m : Nat) (e : Int) : ∃ r, r < f.signWeight ∧ ∀ t, f.nearest t m e = f.word t r := by
  by_cases h0 : m = 0
  · subst h0; exact ⟨0, Nat.two_pow_pos _, fun t => nearest_zero f t e⟩
  · unfold Format.nearest
    simp only [if_neg h0, cut_even]
    exact ⟨_, Nat.lt_of_le_of_lt (Nat.min_le_right _ _) f.infRung_lt, fun t => rfl⟩

theorem flip_nearest (f : Format) (s : Bool) (m : Nat) (e : Int) : flip f (f.nearest s m e) = f.nearest (!s) m e := by
  obtain ⟨r, hr, h⟩ := nearest_rung f m e
  rw [h, h, flip_word f s r hr]

theorem sub_flip (f : Format) (x y : Nat) (s : Bool) (m : Nat) (e : Int) (hf : 2 ≤ f.exponentBits) (h : Fit f m e) (hy : y = f.nearest s m e) : f.sub x y = f.add x (f.nearest (!s) m e) := by
  subst hy
  unfold Format.sub Format.add
  congr 1
  have : (f.read (f.nearest s m e)).opposite = f.read (f.nearest (!s) m e) := by
    by_cases h0 : m = 0
    · subst h0
      rw [nearest_zero, nearest_zero, word_read f _ 0 (Nat.two_pow_pos _), word_read f _ 0 (Nat.two_pow_pos _), if_pos (binade_pos f), if_pos (binade_pos f)]; rfl
    · rw [read_nearest f _ m e h0 h.1 h.2.1 (fit_inf f hf m e h0 h), read_nearest f _ m e h0 h.1 h.2.1 (fit_inf f hf m e h0 h)]; rfl
  rw [this]

/-- How two numbers stand to each other: by their digits over a place below both. -/
theorem order_fit (f : Format) (hf : 2 ≤ f.exponentBits) (s t : Bool) (m n : Nat) (e j b : Int) (h : Fit f m e) (h' : Fit f n j) (hb1 : b ≤ e) (hb2 : b ≤ j) :
    f.order (f.nearest s m e) (f.nearest t n j) = some (compare (sv s m * 2 ^ (e - b).toNat) (sv t n * 2 ^ (j - b).toNat)) := by
  obtain ⟨k, hk⟩ := read_fit f hf s m e h
  obtain ⟨l, hl⟩ := read_fit f hf t n j h'
  unfold Format.order
  rw [hk, hl]
  simp only [Datum.order, Option.some.injEq]
  generalize hc : min (e - k) (j - l) = c
  rw [signed_sv, signed_sv, sv_mul, sv_mul, Int.mul_assoc, Int.mul_assoc, ← Int.pow_add, ← Int.pow_add]
  have scale : ∀ (x y : Int) (d : Nat), compare (x * 2 ^ d) (y * 2 ^ d) = compare x y := by
    intro x y d
    have hp : (0 : Int) < 2 ^ d := Int.pow_pos (by omega)
    simp only [compare, compareOfLessAndEq]
    have e1 : (x * 2 ^ d < y * 2 ^ d) = (x < y) := by
      apply propext; exact Int.mul_lt_mul_right hp
    have e2 : (x * 2 ^ d = y * 2 ^ d) = (x = y) := by
      apply propext; exact ⟨fun g => Int.eq_of_mul_eq_mul_right (by omega) g, fun g => by rw [g]⟩
    simp only [e1, e2]
  rcases Int.le_total c b with g | g
  · obtain ⟨d, hd⟩ : ∃ d : Nat, c = b - d := ⟨(b - c).toNat, by omega⟩
    rw [← scale (sv s m * 2 ^ (e - b).toNat) (sv t n * 2 ^ (j - b).toNat) d, Int.mul_assoc, Int.mul_assoc, ← Int.pow_add, ← Int.pow_add]
    rw [show k + (e - k - c).toNat = (e - b).toNat + d by omega, show l + (j - l - c).toNat = (j - b).toNat + d by omega]
  · obtain ⟨d, hd⟩ : ∃ d : Nat, b = c - d := ⟨(c - b).toNat, by omega⟩
    rw [← scale (sv s m * 2 ^ (k + (e - k - c).toNat)) (sv t n * 2 ^ (l + (j - l - c).toNat)) d, Int.mul_assoc, Int.mul_assoc, ← Int.pow_add, ← Int.pow_add]
    rw [show k + (e - k - c).toNat + d = (e - b).toNat by omega, show l + (j - l - c).toNat + d = (j - b).toNat by omega]

/-- An integer that a number is. -/
theorem toInt_fit (f : Format) (hf : 2 ≤ f.exponentBits) (s : Bool) (m : Nat) (h : Fit f m 0) :
    (f.read (f.nearest s m 0)).toInt .zero = some (sv s m) := by
  obtain ⟨k, hk⟩ := read_fit f hf s m 0 h
  rw [hk]
  simp only [Datum.toInt, Datum.integral, Option.some.injEq]
  rw [signed_sv, Int.pow_zero, Int.mul_one]
  congr 1
  have e1 : (0 - (k : Int)).toNat = 0 := by omega
  have e2 : (-(0 - (k : Int))).toNat = k := by omega
  rw [e1, e2, Nat.shiftLeft_eq, Nat.pow_zero, Nat.mul_one]
  simp only [Toward.cut, Nat.one_shiftLeft, Bool.toNat_false, Nat.add_zero]
  by_cases h0 : m = 0
  · subst h0; simp
  · rw [log2_mul_pow m k h0, Nat.min_eq_left (by omega), Nat.mul_div_cancel _ (Nat.two_pow_pos _)]
end Flt
end Go.Proofs.Ytfplcckfljemeaa
