/- The root and the numbers beside it, as the law FnNumbers asks after them. -/
import Derived.Test.YtffilcmcjelajaaNumA
namespace Go.Proofs.Ytffilcmcjelajaa
open Go.RowKit

/-- What is reckoned in float64 of a root r of x and of the numbers beside it. -/
def RootFacts (x r : Nat) : Prop := pc r = 0 ∧ ac (pv r - 1) = 0 ∧ ac (pv r + 1) = 0 ∧ 1 ≤ pv r ∧ pv r ≤ 2139095038 ∧ ∃ lo ro hi xo s1 u s1u s2 v s2v : Nat,
  floatToFloatBits .f32 (av (pv r - 1)) .f64 = some lo ∧ floatToFloatBits .f32 r .f64 = some ro ∧ floatToFloatBits .f32 (av (pv r + 1)) .f64 = some hi ∧ floatToFloatBits .f32 x .f64 = some xo ∧
  floatBits .add .f64 lo ro = some s1 ∧ floatBits .quo .f64 s1 4611686018427387904 = some u ∧ floatBits .mul .f64 u u = some s1u ∧ (FloatKind.f64.format.order s1u xo == some .gt) = false ∧
  floatBits .add .f64 ro hi = some s2 ∧ floatBits .quo .f64 s2 4611686018427387904 = some v ∧ floatBits .mul .f64 v v = some s2v ∧ (FloatKind.f64.format.order s2v xo == some .lt) = false

theorem add_D (m n : Nat) (p : Int) (h1 : m < 134217728) (h2 : n < 134217728) (hp1 : -1000 ≤ p) (hp2 : p ≤ 900) : floatBits .add .f64 (D false m p) (D false n p) = some (D false (m + n) p) := by
  have e27 : (2 : Nat) ^ 27 = 134217728 := by decide
  have := Flt.add_fit Ieee.double (by decide) false false m n p p p (fitD m p 27 (by omega) (by omega) (by omega) (by omega)) (fitD n p 27 (by omega) (by omega) (by omega) (by omega)) (Int.le_refl _) (Int.le_refl _)
  refine Eq.trans this (congrArg some ?_)
  have ht : Flt.tot false m p false n p p = ((m + n : Nat) : Int) := by
    unfold Flt.tot Flt.sv; rw [Int.sub_self]; simp
  rw [ht]
  unfold Flt.wordOf D
  rw [Int.natAbs_natCast]
  by_cases h : m + n = 0
  · rw [h]; rfl
  · have hn : ¬ (((m + n : Nat) : Int) = 0) := by omega
    have hl : decide (((m + n : Nat) : Int) < 0) = false := decide_eq_false (by omega)
    rw [if_neg hn, hl]

theorem half_D (u : Nat) (p : Int) (h1 : u < 134217728) (hp1 : -1000 ≤ p) (hp2 : p ≤ 900) : floatBits .quo .f64 (D false (2 * u) p) 4611686018427387904 = some (D false u p) := by
  have e28 : (2 : Nat) ^ 28 = 268435456 := by decide
  rw [D_two]
  have := Flt.div_pow Ieee.double (by decide) false false (2 * u) p 1 (fitD (2 * u) p 28 (by omega) (by omega) (by omega) (by omega)) (fitD_one 1 (by omega) (by omega))
  refine Eq.trans this (congrArg some ?_)
  have h := D_shl u 1 (p - 1)
  rw [show u * 2 ^ 1 = 2 * u by omega, show p - 1 + ((1 : Nat) : Int) = p by omega] at h
  exact h

theorem sq_D (u : Nat) (p : Int) (h1 : u < 67108872) (hp1 : -500 ≤ p) (hp2 : p ≤ 400) : floatBits .mul .f64 (D false u p) (D false u p) = some (D false (u * u) (p + p)) ∧ Flt.Fit Ieee.double (u * u) (p + p) := by
  have e27 : (2 : Nat) ^ 27 = 134217728 := by decide
  have e53 : (2 : Nat) ^ 53 = 9007199254740992 := by decide
  have hu : u * u ≤ 67108871 * 67108871 := Nat.mul_self_le_mul_self (by omega)
  have hf := fitD u p 27 (by omega) (by omega) (by omega) (by omega)
  exact ⟨Flt.mul_fit Ieee.double (by decide) false false u u p p hf hf, fitD (u * u) (p + p) 53 (by omega) (by omega) (by omega) (by omega)⟩

theorem root_facts (m : Nat) (p : Int) (hm0 : m ≠ 0) (hm : m < 16777216) (h1 : -149 ≤ p) (h2 : p ≤ 104) (hf : Flt.Fit Ieee.single m p) :
    RootFacts (S false m p) (S false (Flt.rR m p) (-Flt.rk m p)) ∧ (FloatKind.f32.format.order (S false (Flt.rR m p) (-Flt.rk m p)) 0 == some .gt) = true := by
  obtain ⟨k1, k2, k3, k4⟩ := Flt.rk_facts m p hm0 hm h1 h2
  obtain ⟨n1, n2, n3⟩ := Flt.rN_facts m p hm0 hm h1 h2
  obtain ⟨q1, q2⟩ := Flt.isqrt_spec (Flt.rN m p)
  obtain ⟨r1, r2, r3, r4, r5, r6, r7, r8⟩ := Flt.rR_of (Flt.rN m p) _ n1 n2 n3 q1 q2
  have hNd : Flt.rN m p = m * 2 ^ (p + 2 * Flt.rk m p).toNat := rfl
  change (Flt.rR m p) % 2 = 0 at r3
  change 2 ^ 24 ≤ Flt.rR m p at r4
  change Flt.rR m p ≤ 2 ^ 25 at r5
  change (Flt.rR m p - 1) * (Flt.rR m p - 1) < Flt.rN m p at r6
  change Flt.rN m p < (Flt.rR m p + 1) * (Flt.rR m p + 1) at r7
  clear r1 r2 r8 q1 q2
  generalize Flt.rR m p = R at *
  generalize Flt.rN m p = N at *
  generalize Flt.rk m p = k at *
  have e24 : (2 : Nat) ^ 24 = 16777216 := by decide
  have e25 : (2 : Nat) ^ 25 = 33554432 := by decide
  obtain ⟨n, hn, g1, g2, hro, ⟨L, hlo, hL⟩, ⟨H, hhi, hH⟩⟩ := beside R k r3 r4 r5 (by omega) (by omega)
  rw [hn]
  have hmag : mag n = n := by unfold mag; omega
  have hfn : fin n = true := decide_eq_true (by rw [hmag]; omega)
  have hln : less0 n = false := by
    rcases mag_less n (by omega) hfn with ⟨a, _⟩ | ⟨_, b⟩
    · omega
    · cases h : less0 n
      · rfl
      · exfalso; rw [h, hmag] at b; unfold Ieee.Format.word at b; rw [Flt.s_sw, if_pos rfl] at b; omega
  have hpv : pv n = n := by unfold pv place; rw [if_pos hfn, hln, hmag]; rfl
  have hpc : pc n = 0 := if_pos hfn
  have hav : ∀ i : Int, 0 ≤ i → i < 2139095040 → av i = i.toNat ∧ ac i = 0 := by
    intro i a b
    have hr : -2139095040 < i ∧ i < 2139095040 := by omega
    refine ⟨?_, if_pos hr⟩
    unfold av wordAt
    rw [if_pos hr, if_neg (by omega)]
  have ha1 := hav ((n : Int) - 1) (by omega) (by omega)
  have ha2 := hav ((n : Int) + 1) (by omega) (by omega)
  rw [show ((n : Int) - 1).toNat = n - 1 by omega] at ha1
  rw [show ((n : Int) + 1).toNat = n + 1 by omega] at ha2
  obtain ⟨U, hU⟩ : ∃ U, L + 2 * R = 2 * U := ⟨(L + 2 * R) / 2, by omega⟩
  obtain ⟨V, hV⟩ : ∃ V, 2 * R + H = 2 * V := ⟨(2 * R + H) / 2, by omega⟩
  have s1 := add_D L (2 * R) (-k - 1) (by omega) (by omega) (by omega) (by omega)
  have s2 := add_D (2 * R) H (-k - 1) (by omega) (by omega) (by omega) (by omega)
  rw [hU] at s1
  rw [hV] at s2
  have t1 := half_D U (-k - 1) (by omega) (by omega) (by omega)
  have t2 := half_D V (-k - 1) (by omega) (by omega) (by omega)
  obtain ⟨v1, f1⟩ := sq_D U (-k - 1) (by omega) (by omega) (by omega)
  obtain ⟨v2, f2⟩ := sq_D V (-k - 1) (by omega) (by omega) (by omega)
  have hw := fit_wide hf
  have o1 := Flt.order_fit Ieee.double (by decide) false false (U * U) m (-k - 1 + (-k - 1)) p (-k - 1 + (-k - 1)) f1 hw (Int.le_refl _) (by omega)
  have o2 := Flt.order_fit Ieee.double (by decide) false false (V * V) m (-k - 1 + (-k - 1)) p (-k - 1 + (-k - 1)) f2 hw (Int.le_refl _) (by omega)
  have hNN : Flt.sv false m * 2 ^ (p - (-k - 1 + (-k - 1))).toNat = ((4 * N : Nat) : Int) := by
    rw [show (p - (-k - 1 + (-k - 1))).toNat = (p + 2 * k).toNat + 2 by omega, hNd]
    show (m : Int) * 2 ^ ((p + 2 * k).toNat + 2) = _
    have hnat : m * 2 ^ ((p + 2 * k).toNat + 2) = 4 * (m * 2 ^ (p + 2 * k).toNat) := by
      rw [Nat.pow_add, ← Nat.mul_assoc, Nat.mul_comm]
    rw [← hnat]; simp
  rw [hNN, Int.sub_self, Int.toNat_zero, Int.pow_zero, Int.mul_one] at o1 o2
  have hU2 : U * U ≤ 4 * N := by
    rcases hL with a | ⟨a, b⟩
    · have : U = 2 * (R - 1) := by omega
      rw [this, show 2 * (R - 1) * (2 * (R - 1)) = 4 * ((R - 1) * (R - 1)) by rw [Nat.mul_mul_mul_comm]]
      omega
    · have : U * U ≤ 33554431 * 33554431 := Nat.mul_self_le_mul_self (by omega)
      have e48 : (2 : Nat) ^ 48 = 281474976710656 := by decide
      omega
  have hV2 : 4 * N ≤ V * V := by
    have : 2 * (R + 1) * (2 * (R + 1)) ≤ V * V := Nat.mul_self_le_mul_self (by omega)
    rw [show 2 * (R + 1) * (2 * (R + 1)) = 4 * ((R + 1) * (R + 1)) by rw [Nat.mul_mul_mul_comm]] at this
    omega
  have w1 : (FloatKind.f64.format.order (D false (U * U) (-k - 1 + (-k - 1))) (D false m p) == some .gt) = false := by
    have : FloatKind.f64.format.order (D false (U * U) (-k - 1 + (-k - 1))) (D false m p) = some (compare (Flt.sv false (U * U)) ((4 * N : Nat) : Int)) := o1
    rw [this]
    have hle : Flt.sv false (U * U) ≤ ((4 * N : Nat) : Int) := by show ((U * U : Nat) : Int) ≤ _; omega
    rcases Int.lt_or_eq_of_le hle with g | g
    · rw [cmp_lt g]; rfl
    · rw [cmp_eq g]; rfl
  have w2 : (FloatKind.f64.format.order (D false (V * V) (-k - 1 + (-k - 1))) (D false m p) == some .lt) = false := by
    have : FloatKind.f64.format.order (D false (V * V) (-k - 1 + (-k - 1))) (D false m p) = some (compare (Flt.sv false (V * V)) ((4 * N : Nat) : Int)) := o2
    rw [this]
    have hle : ((4 * N : Nat) : Int) ≤ Flt.sv false (V * V) := by show _ ≤ ((V * V : Nat) : Int); omega
    rcases Int.lt_or_eq_of_le hle with g | g
    · rw [cmp_gt g]; rfl
    · rw [cmp_eq g.symm]; rfl
  refine ⟨?_, ?_⟩
  · unfold RootFacts
    rw [hpv, ha1.1, ha2.1]
    exact ⟨hpc, ha1.2, ha2.2, by omega, by omega, _, _, _, _, _, _, _, _, _, _, hlo, hro, hhi, widen hf, s1, t1, v1, w1, s2, t2, v2, w2⟩
  · obtain ⟨s, mm, pp, he, hff, hcc⟩ := fin_cases n (by omega) hfn
    have hl := less0_S s mm pp hff
    rw [← he, hln] at hl
    have ho := ord0S s mm pp hff
    rw [← he] at ho
    rw [ho]
    have hmm : mm ≠ 0 := by omega
    cases s
    · rw [cmp_gt (by show (0 : Int) < mm; omega)]; rfl
    · simp [hmm] at hl
end Go.Proofs.Ytffilcmcjelajaa
