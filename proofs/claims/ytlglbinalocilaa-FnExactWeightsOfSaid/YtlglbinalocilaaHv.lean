/- Halves of numbers, one and a number, one less a number; squares of numbers up to 2; roots. -/
import Derived.Test.YtlglbinalocilaaMu
import Derived.Test.YtlglbinalocilaaT3
import Derived.Test.YtlglbinalocilaaH1
namespace Go.Proofs.Ytlglbinalocilaa
open Go.RowKit

theorem ord_self (x : Nat) (hx : x < 4294967296) (h : fin x = true) : FloatKind.f32.format.order x x = some .eq := by
  obtain ⟨s, m, e, _, hf, rfl⟩ := fin_fit x hx h
  have := Flt.order_fit Ieee.single (by decide) s s m m e e e hf hf (Int.le_refl _) (Int.le_refl _)
  rw [cmp_eq rfl] at this
  exact this

/-- One half of a number. -/
def hv (x : Nat) : Nat := (floatBits .quo .f32 x 1073741824).getD 0

theorem S_two : (1073741824 : Nat) = S false 1 1 := by decide +kernel

theorem hv_ok (x : Nat) (h : Num x) : floatBits .quo .f32 x 1073741824 = some (hv x) ∧ Num (hv x) := by
  obtain ⟨hx, h⟩ := h
  obtain ⟨s, m, e, _, hf, rfl⟩ := fin_fit x hx h
  have hd := Flt.div_pow Ieee.single (by decide) s false m e 1 hf (fitS_pow 1 (by omega) (by omega))
  have hd2 : floatBits .quo .f32 (S s m e) 1073741824 = some (S (s ^^ false) m (e - 1)) := by
    rw [S_two]; exact hd
  have he : hv (S s m e) = S (s ^^ false) m (e - 1) := by unfold hv; rw [hd2]; rfl
  rw [he]
  refine ⟨hd2, (mag_S _ _ _).1, ?_⟩
  have h1 := of_decide_eq_true h
  rw [(mag_S s m e).2] at h1
  have h2 : Flt.rung Ieee.single m (e - 1) ≤ Flt.rung Ieee.single m e := by
    refine Flt.rung_mono Ieee.single m m (e - 1) e (e - 1) (Int.le_refl _) (by omega) ?_
    refine Nat.mul_le_mul_left _ (Nat.pow_le_pow_right (by omega) (by omega))
  exact decide_eq_true (by rw [(mag_S _ m (e - 1)).2]; omega)

/-- The greatest number. -/
theorem top_rung : Flt.rung Ieee.single 16777215 104 = 2139095039 := by decide +kernel

theorem top_more : Flt.rung Ieee.single (16777215 * 2 ^ 253 + 2 ^ 149) (-149) = 2139095039 := by decide +kernel

theorem vl_top {x : Nat} {v : Int} (h : Vl x v) : v.natAbs ≤ 16777215 * 2 ^ 253 := by
  have hn := vl_num h
  obtain ⟨s, m, p, rfl, hf, rfl⟩ := h
  have h1 := of_decide_eq_true hn.2
  rw [(mag_S s m p).2] at h1
  have hlow := fitS_low hf
  have := le_of_rung Ieee.single (by decide) m 16777215 p 104 (-149) hf (Flt.fit_lt _ _ _ 24 (by decide) (by decide) (by decide) (by decide)) hlow (by omega) (by rw [top_rung]; omega)
  rw [Int.natAbs_mul, sv_abs, Int.natAbs_pow]
  have e1 : (p - -149).toNat = (p + 149).toNat := by congr 1
  rw [e1] at this
  exact this

theorem S_one : (1065353216 : Nat) = S false 1 0 := by decide +kernel

theorem vl_one : Vl 1065353216 (2 ^ 149) := ⟨false, 1, 0, S_one, fitS_pow 0 (by omega) (by omega), by decide +kernel⟩

theorem one_add {x : Nat} (h : Num x) : floatBits .add .f32 1065353216 x = some (sm 1065353216 x) ∧ Num (sm 1065353216 x) := by
  obtain ⟨v, hv⟩ := vl_of x h.1 h.2
  have hb := vl_top hv
  obtain ⟨t, n, q, rfl, hg, rfl⟩ := hv
  have l2 := fitS_low hg
  have := Flt.add_fit Ieee.single (by decide) false t 1 n 0 q (-149) (fitS_pow 0 (by omega) (by omega)) hg (by omega) l2
  have e1 : Flt.tot false 1 0 t n q (-149) = 2 ^ 149 + Flt.sv t n * 2 ^ (q + 149).toNat := by
    have : Flt.tot false 1 0 t n q (-149) = Flt.sv false 1 * 2 ^ (0 + 149 : Int).toNat + Flt.sv t n * 2 ^ (q + 149).toNat := rfl
    rw [this]
    congr 1
  rw [e1] at this
  generalize Flt.sv t n * 2 ^ (q + 149).toNat = v at *
  have h3 : floatBits .add .f32 1065353216 (S t n q) = some (Flt.wordOf Ieee.single (false && t) (2 ^ 149 + v) (-149)) := by
    rw [S_one]; exact this
  have e2 : sm 1065353216 (S t n q) = Flt.wordOf Ieee.single (false && t) (2 ^ 149 + v) (-149) := by unfold sm; rw [h3]; rfl
  rw [e2]
  refine ⟨h3, ?_⟩
  unfold Flt.wordOf
  generalize (if (2 : Int) ^ 149 + v = 0 then (false && t) else decide ((2 : Int) ^ 149 + v < 0)) = s
  have hle : ((2 : Int) ^ 149 + v).natAbs ≤ 16777215 * 2 ^ 253 + 2 ^ 149 := by
    refine Nat.le_trans (Int.natAbs_add_le _ _) ?_
    have : ((2 : Int) ^ 149).natAbs = 2 ^ 149 := by decide +kernel
    rw [this]
    omega
  generalize ((2 : Int) ^ 149 + v).natAbs = k at *
  obtain ⟨g1, g2⟩ := mag_S s k (-149)
  refine ⟨g1, decide_eq_true ?_⟩
  have hr : Flt.rung Ieee.single k (-149) ≤ 2139095039 := by
    rw [← top_more]
    refine Flt.rung_mono Ieee.single _ _ (-149) (-149) (-149) (Int.le_refl _) (Int.le_refl _) ?_
    exact Nat.mul_le_mul_right _ hle
  have g3 : mag (Ieee.single.nearest s k (-149)) = Flt.rung Ieee.single k (-149) := g2
  omega

theorem num_neg' {x : Nat} (h : Num x) : Num (Op.negFloat .f32 x) := ⟨(neg_facts x h.1).1, by rw [(neg_facts x h.1).2]; exact h.2⟩

theorem one_sub {x : Nat} (h : Num x) : floatBits .sub .f32 1065353216 x = some (sm 1065353216 (Op.negFloat .f32 x)) ∧ Num (sm 1065353216 (Op.negFloat .f32 x)) := by
  obtain ⟨h1, h2⟩ := one_add (num_neg' h)
  refine ⟨?_, h2⟩
  rw [← h1]
  obtain ⟨v, t, n, q, rfl, hg, _⟩ := vl_of x h.1 h.2
  rw [neg_S]
  exact Flt.sub_flip Ieee.single _ (S t n q) t n q (by decide) hg rfl

theorem num_nought : Num 0 := ⟨by omega, by decide +kernel⟩

/-- The square of a number. -/
def sq32 (x : Nat) : Nat := (floatBits .mul .f32 x x).getD 0

theorem sq32_ok {x : Nat} {v : Int} (h : Vl x v) (hb : v.natAbs ≤ 2 ^ 150) : floatBits .mul .f32 x x = some (sq32 x) ∧ Bd 2 (sq32 x) := by
  obtain ⟨s, m, p, rfl, hf, rfl⟩ := h
  have hlow := fitS_low hf
  have hm := Flt.mul_fit Ieee.single (by decide) s s m m p p hf hf
  have hm2 : floatBits .mul .f32 (S s m p) (S s m p) = some (S (s ^^ s) (m * m) (p + p)) := hm
  have he : sq32 (S s m p) = S (s ^^ s) (m * m) (p + p) := by unfold sq32; rw [hm2]; rfl
  rw [he]
  refine ⟨hm2, bd_mk _ _ _ 2 (-298) (by omega) (by omega) (by omega) (by omega) ?_⟩
  rw [Int.natAbs_mul, sv_abs, Int.natAbs_pow] at hb
  have e1 : (p + p - -298).toNat = (p + 149).toNat + (p + 149).toNat := by omega
  rw [e1, Nat.pow_add]
  obtain ⟨K, hK⟩ : ∃ K : Nat, K = 150 := ⟨_, rfl⟩
  rw [← hK] at hb
  have e2 : ((2 : Int) - -298).toNat = K + K := by omega
  rw [e2, Nat.pow_add]
  calc m * m * (2 ^ (p + 149).toNat * 2 ^ (p + 149).toNat) = (m * 2 ^ (p + 149).toNat) * (m * 2 ^ (p + 149).toNat) := by ac_rfl
    _ ≤ 2 ^ K * 2 ^ K := Nat.mul_le_mul hb hb

theorem vl_two : Vl 1073741824 (2 ^ 150) := ⟨false, 1, 1, S_two, fitS_pow 1 (by omega) (by omega), by decide +kernel⟩

/-- How a number stands to another one: by its value. -/
theorem ord_vl {x y : Nat} {u v : Int} (h : Vl x u) (g : Vl y v) : FloatKind.f32.format.order x y = some (compare u v) := by
  obtain ⟨s, m, p, rfl, hf, rfl⟩ := h
  obtain ⟨t, n, q, rfl, hg, rfl⟩ := g
  have := Flt.order_fit Ieee.single (by decide) s t m n p q (-149) hf hg (fitS_low hf) (fitS_low hg)
  exact this

theorem vl_null : Vl 0 0 := ⟨false, 0, 0, by decide +kernel, ⟨by decide, by decide, .inl rfl⟩, by decide⟩

/-- 1 less a number is 0 only as +0. -/
theorem one_less_zero {x : Nat} {v : Int} (h : Vl x v) (h0 : (2 : Int) ^ 149 + -v = 0) : sm 1065353216 (Op.negFloat .f32 x) = 0 := by
  have hn := neg_vl h
  obtain ⟨t, n, q, e, hg, hv⟩ := hn
  have := Flt.add_fit Ieee.single (by decide) false t 1 n 0 q (-149) (fitS_pow 0 (by omega) (by omega)) hg (by omega) (fitS_low hg)
  have e1 : Flt.tot false 1 0 t n q (-149) = 2 ^ 149 + Flt.sv t n * 2 ^ (q + 149).toNat := by
    have : Flt.tot false 1 0 t n q (-149) = Flt.sv false 1 * 2 ^ (0 + 149 : Int).toNat + Flt.sv t n * 2 ^ (q + 149).toNat := rfl
    rw [this]
    congr 1
  rw [e1, ← hv, h0] at this
  have h3 : floatBits .add .f32 1065353216 (Op.negFloat .f32 x) = some (Flt.wordOf Ieee.single (false && t) 0 (-149)) := by
    rw [S_one, e]; exact this
  unfold sm
  rw [h3]
  unfold Flt.wordOf
  rw [if_pos rfl, show Int.natAbs 0 = 0 from rfl, Flt.nearest_zero]
  rfl

theorem rootW_num {x : Nat} (h : posW x = true) : Num (rootW x) := by
  obtain ⟨m, e, hx, hf, hm, hm1, e1, e2, hr⟩ := pos_form x h
  obtain ⟨k1, k2, k3, k4⟩ := Flt.rk_facts m e hm hm1 e1 e2
  obtain ⟨n1, n2, n3⟩ := Flt.rN_facts m e hm hm1 e1 e2
  obtain ⟨q1, q2⟩ := Flt.isqrt_spec (Flt.rN m e)
  obtain ⟨r1, r2, r3, r4, r5, r6, r7, r8⟩ := Flt.rR_of (Flt.rN m e) _ n1 n2 n3 q1 q2
  have hR : Flt.rR m e = Flt.isqrt (Flt.rN m e) + Flt.isqrt (Flt.rN m e) % 2 := rfl
  obtain ⟨n, j, fn, hn, _⟩ := Flt.fit_even (Flt.rR m e) (Flt.rk m e) (by rw [hR]; exact r3) (by rw [hR]; exact r4) (by rw [hR]; exact r5) (by omega) (by omega)
  have hS : S false (Flt.rR m e) (-Flt.rk m e) = S false n j := hn
  rw [hr, hS]
  exact vl_num ⟨false, n, j, rfl, fn, rfl⟩

theorem vl_pos {x : Nat} {v : Int} (h : Vl x v) (hv : 0 < v) : posW x = true := by
  have hn := vl_num h
  obtain ⟨s, m, p, rfl, hf, rfl⟩ := h
  have hs : s = false := by
    cases s
    · rfl
    · exfalso
      have hp : (0 : Int) < 2 ^ (p + 149).toNat := Int.pow_pos (by omega)
      have : Flt.sv true m * 2 ^ (p + 149).toNat ≤ 0 := Int.mul_nonpos_of_nonpos_of_nonneg (by unfold Flt.sv; simp) (by omega)
      omega
  subst hs
  have h1 := of_decide_eq_true hn.2
  have h2 := (mag_S false m p).2
  have h3 : S false m p = Flt.rung Ieee.single m p := rfl
  have h4 : S false m p ≠ 0 := by
    intro e
    have : mag (S false m p) = 0 := by rw [e]; rfl
    have := vl_zero ⟨false, m, p, rfl, hf, rfl⟩ this
    omega
  refine decide_eq_true ⟨by omega, by omega⟩
end Go.Proofs.Ytlglbinalocilaa
