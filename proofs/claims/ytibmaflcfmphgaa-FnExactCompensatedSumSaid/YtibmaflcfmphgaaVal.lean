/- Rounded sums and products by their numbers: the same number is written the same, but for a zero's sign. -/
import Derived.Test.YtibmaflcfmphgaaPb
namespace Go.Proofs.Ytibmaflcfmphgaa
open Go.RowKit

/-- The same number: the same word, or two zeros. -/
def Eqv (x y : Nat) : Prop := x < 4294967296 ∧ y < 4294967296 ∧ (x = y ∨ (mag x = 0 ∧ mag y = 0))

theorem eqv_mag {x y : Nat} (h : Eqv x y) : mag x = mag y := by
  obtain ⟨_, _, rfl | ⟨a, b⟩⟩ := h
  · rfl
  · omega

theorem nr_more (n : Nat) (k : Int) (h1 : -126 ≤ k) (h2 : k ≤ 127) (h : n ≤ 2 ^ (k + 298).toNat) :
    ∃ m e, (∀ j : Int, -149 ≤ j → j ≤ 127 → 2 ^ (j + 298).toNat ≤ n → Flt.rung Ieee.single 1 j ≤ Flt.rung Ieee.single m e) ∧
      ∀ s, floatToFloatBits .f64 (Ieee.double.nearest s n (-298)) .f32 = some (S s m e) ∧ Bd k (S s m e) := by
  have hr0 : ∀ j : Int, -149 ≤ j → j ≤ 127 → 2 ^ (j + 298).toNat ≤ n → Flt.rung Ieee.double 1 j ≤ Flt.rung Ieee.double n (-298) := by
    intro j _ _ hj
    refine Flt.rung_mono Ieee.double 1 n j (-298) (-298) (by omega) (Int.le_refl _) ?_
    rw [Int.sub_self, Int.toNat_zero, Nat.pow_zero, Nat.mul_one, Nat.one_mul]
    exact hj
  have hpw := Flt.double_pow k (by omega) (by omega)
  have hr : Flt.rung Ieee.double n (-298) ≤ Flt.rung Ieee.double 1 k := by
    refine Flt.rung_mono Ieee.double n 1 (-298) k (-298) (Int.le_refl _) (by omega) ?_
    rw [Int.sub_self, Int.toNat_zero, Nat.pow_zero, Nat.mul_one, Nat.one_mul]
    exact h
  have hw := fun s => Flt.nearest_word Ieee.double s n (-298)
  have g2 := (hw false).2
  rw [Flt.d_sw] at g2
  generalize Flt.rung Ieee.double n (-298) = r at *
  -- how the word is read
  have hread : ∃ m e, ∀ s, Ieee.double.read (Ieee.double.word s r) = .number s m e := by
    have hlt : r < 9218868437227405312 := by omega
    by_cases hb : r < 4503599627370496
    · refine ⟨r, Ieee.double.leastPlace, fun s => ?_⟩
      rw [Flt.word_read Ieee.double s r (by rw [Flt.d_sw]; exact g2), Flt.d_binade, if_pos hb]
    · refine ⟨4503599627370496 + r % 4503599627370496, Ieee.double.leastPlace + (r / 4503599627370496 - 1 : Nat), fun s => ?_⟩
      rw [Flt.word_read Ieee.double s r (by rw [Flt.d_sw]; exact g2), Flt.d_binade, Flt.d_inf, if_neg hb, if_pos hlt]
  obtain ⟨m, e, hread⟩ := hread
  have g4 : Ieee.double.word false r < 2 ^ Ieee.double.width := by
    have : (2 : Nat) ^ Ieee.double.width = 18446744073709551616 := by decide
    rw [this]; unfold Ieee.Format.word; simp; omega
  have g3 : (Ieee.double.word false r) % Ieee.double.signWeight = r := by
    unfold Ieee.Format.word
    rw [Flt.d_sw]
    simp; omega
  obtain ⟨s', m', e', hread', hfit, hx⟩ := Flt.word_fit Ieee.double (by decide) (Ieee.double.word false r) g4 (by rw [g3, Flt.d_inf]; omega)
  rw [hread false] at hread'
  injection hread' with q0 q1 q2
  subst q0 q1 q2
  have hr2 : Flt.rung Ieee.double m e = r := by
    unfold Flt.rung
    rw [← hx]
    simp [Ieee.Format.word]
  have hlow : Ieee.double.leastPlace ≤ e := hfit.2.1
  rw [Flt.d_lp] at hlow
  have hle := le_of_rung Ieee.double (by decide) m 1 e k (-1074) hfit (fitD_one k (by omega) (by omega)) hlow (by omega) (by rw [hr2]; exact hr)
  rw [Nat.one_mul] at hle
  refine ⟨m, e, fun j j1 j2 j3 => ?_, fun s => ?_⟩
  · have hl := le_of_rung Ieee.double (by decide) 1 m j e (-1074) (fitD_one j (by omega) (by omega)) hfit (by omega) hlow (by rw [hr2]; exact hr0 j j1 j2 j3)
    exact Flt.rung_mono Ieee.single 1 m j e (-1074) (by omega) hlow hl
  have hbd : Bd k (S s m e) := bd_mk s m e k (-1074) h1 h2 hlow (by omega) hle
  refine ⟨?_, hbd⟩
  rw [(hw s).1]
  unfold floatToFloatBits
  rw [if_neg (by decide)]
  have hdec : FloatKind.f64.decode (Ieee.double.word s r) = .number s m e := hread s
  rw [hdec]
  have he : FloatKind.f32.encode (.number s m e) = S s m e := rfl
  simp only [he]
  obtain ⟨s2, m2, p2, hd2, _, _⟩ := fin_fit (S s m e) hbd.1 (bd_fin hbd h2)
  have hd3 : FloatKind.f32.decode (S s m e) = .number s2 m2 p2 := hd2
  rw [hd3]
  rfl

theorem nr_any (n : Nat) (k : Int) (h1 : -126 ≤ k) (h2 : k ≤ 127) (h : n ≤ 2 ^ (k + 298).toNat) :
    ∃ m e, ∀ s, floatToFloatBits .f64 (Ieee.double.nearest s n (-298)) .f32 = some (S s m e) ∧ Bd k (S s m e) := by
  obtain ⟨m, e, _, h⟩ := nr_more n k h1 h2 h
  exact ⟨m, e, h⟩

theorem ad_is {a b c d : Nat} {va vb vc vd : Int} (ha : Vl a va) (hb : Vl b vb) (hc : Vl c vc) (hd : Vl d vd) :
    ∃ z, ad (mu (wd a) (wd b)) (mu (wd c) (wd d)) = Flt.wordOf Ieee.double z (va * vb + vc * vd) (-298) := by
  obtain ⟨z, hw⟩ := ad_word ha hb hc hd
  exact ⟨z, by unfold ad; rw [hw]; rfl⟩

/-- Products with the opposite number. -/
theorem ex_opp {a b c d a' b' c' d' : Nat} {va vb vc vd va' vb' vc' vd' : Int} (k : Int) (ha : Vl a va) (hb : Vl b vb) (hc : Vl c vc) (hd : Vl d vd) (ha' : Vl a' va') (hb' : Vl b' vb') (hc' : Vl c' vc') (hd' : Vl d' vd')
    (h1 : -126 ≤ k) (h2 : k ≤ 127) (h : (va * vb + vc * vd).natAbs ≤ 2 ^ (k + 298).toNat) (he : va' * vb' + vc' * vd' = -(va * vb + vc * vd)) :
    ∃ r, Vl (ex a b c d) r ∧ Vl (ex a' b' c' d') (-r) := by
  by_cases h0 : va * vb + vc * vd = 0
  · have r1 := ex_zero ha hb hc hd h0
    have r2 := ex_zero ha' hb' hc' hd' (by omega)
    obtain ⟨v, hv⟩ := vl_of _ r1.1 (decide_eq_true (by rw [r1.2]; omega))
    obtain ⟨v', hv'⟩ := vl_of _ r2.1 (decide_eq_true (by rw [r2.2]; omega))
    have q1 := vl_zero hv r1.2
    have q2 := vl_zero hv' r2.2
    subst q1 q2
    exact ⟨0, hv, by rw [Int.neg_zero]; exact hv'⟩
  · obtain ⟨z, hz⟩ := ad_is ha hb hc hd
    obtain ⟨z', hz'⟩ := ad_is ha' hb' hc' hd'
    unfold ex
    rw [hz, hz', he]
    generalize va * vb + vc * vd = v at *
    unfold Flt.wordOf
    rw [if_neg h0, if_neg (by omega), Int.natAbs_neg]
    obtain ⟨m, e, hn⟩ := nr_any v.natAbs k h1 h2 h
    have n1 : ∀ s, nr (Ieee.double.nearest s v.natAbs (-298)) = S s m e := by
      intro s; unfold nr; rw [(hn s).1]; rfl
    rw [n1, n1]
    have hs : decide (-v < 0) = !decide (v < 0) := by
      by_cases hv : v < 0
      · rw [decide_eq_true hv, decide_eq_false (by omega)]; rfl
      · rw [decide_eq_false hv, decide_eq_true (by omega)]; rfl
    rw [hs, ← neg_S]
    obtain ⟨r, hr⟩ := vl_of (S (decide (v < 0)) m e) (hn _).2.1 (bd_fin (hn _).2 h2)
    exact ⟨r, hr, neg_vl hr⟩

/-- Sums with the same number. -/
theorem sm_same {x y x' y' : Nat} {vx vy vx' vy' : Int} (hx : Vl x vx) (hy : Vl y vy) (hx' : Vl x' vx') (hy' : Vl y' vy') (he : vx + vy = vx' + vy') :
    Eqv (sm x y) (sm x' y') ∧ (vx + vy ≠ 0 → sm x y = sm x' y') := by
  have word : ∀ {x y : Nat} {vx vy : Int}, Vl x vx → Vl y vy → ∃ z, sm x y = Flt.wordOf Ieee.single z (vx + vy) (-149) := by
    rintro x y vx vy ⟨s, m, p, rfl, hf, rfl⟩ ⟨t, n, q, rfl, hg, rfl⟩
    have := Flt.add_fit Ieee.single (by decide) s t m n p q (-149) hf hg (fitS_low hf) (fitS_low hg)
    have h3 : floatBits .add .f32 (S s m p) (S t n q) = some (Flt.wordOf Ieee.single (s && t) (Flt.sv s m * 2 ^ (p + 149).toNat + Flt.sv t n * 2 ^ (q + 149).toNat) (-149)) := this
    exact ⟨s && t, by unfold sm; rw [h3]; rfl⟩
  obtain ⟨z, hz⟩ := word hx hy
  obtain ⟨z', hz'⟩ := word hx' hy'
  rw [hz, hz', ← he]
  generalize vx + vy = v at *
  unfold Flt.wordOf
  by_cases h0 : v = 0
  · subst h0
    refine ⟨?_, fun h => absurd rfl h⟩
    rw [if_pos rfl, if_pos rfl]
    obtain ⟨g1, g2⟩ := mag_S z (Int.natAbs 0) (-149)
    obtain ⟨g3, g4⟩ := mag_S z' (Int.natAbs 0) (-149)
    rw [show Int.natAbs 0 = 0 from rfl, Flt.rung_zero] at g2 g4
    exact ⟨g1, g3, .inr ⟨g2, g4⟩⟩
  · rw [if_neg h0, if_neg h0]
    exact ⟨⟨(mag_S _ _ _).1, (mag_S _ _ _).1, .inl rfl⟩, fun _ => rfl⟩

theorem eqv_vl {x y : Nat} {v : Int} (h : Eqv x y) (hx : Vl x v) : Vl y v := by
  obtain ⟨h1, h2, rfl | ⟨h3, h4⟩⟩ := h
  · exact hx
  · have := vl_zero hx h3
    subst this
    obtain ⟨u, hu⟩ := vl_of y h2 (decide_eq_true (by omega))
    have := vl_zero hu h4
    subst this
    exact hu

/-- '-' of float32. -/
theorem sub_sm {x y : Nat} {vx vy : Int} (k : Int) (hx : Vl x vx) (hy : Vl y vy) (h1 : -126 ≤ k) (h2 : k ≤ 127) (h : (vx + -vy).natAbs ≤ 2 ^ (k + 149).toNat) :
    floatBits .sub .f32 x y = some (sm x (Op.negFloat .f32 y)) ∧ Bd k (sm x (Op.negFloat .f32 y)) := by
  have hs := sm_ok k hx (neg_vl hy) h1 h2 h
  refine ⟨?_, hs.2⟩
  rw [← hs.1]
  obtain ⟨t, n, q, rfl, hg, _⟩ := hy
  rw [neg_S]
  exact Flt.sub_flip Ieee.single x (S t n q) t n q (by decide) hg rfl
end Go.Proofs.Ytibmaflcfmphgaa
