/- Steps: how great the parts of a step's table are. -/
import Derived.Test.YtaghfffbhgpalaaG0
import Derived.Test.YtaghfffbhgpalaaKam
namespace Go.Proofs.Ytaghfffbhgpalaa
open Go.RowKit

/-- The sum of numbers of at least 0, and the difference: the one never below the other. -/
theorem add_up (x y : Nat) (hx : x < 2139095040) (hy : y < 2139095040) : floatBits .add .f32 x y = some (sm x y) ∧ x ≤ sm x y ∧ y ≤ sm x y ∧ sm x y < 2147483648 := by
  obtain ⟨h1, h2, h3⟩ := sm_up x y hx hy
  refine ⟨?_, h1, h2, by rw [← h3]; exact mag_lt _⟩
  obtain ⟨m, p, e1, f1, _⟩ := word_is x hx
  obtain ⟨n, q, e2, f2, _⟩ := word_is y hy
  subst e1 e2
  have := Flt.add_fit Ieee.single (by decide) false false m n p q (-149) f1 f2 (fitS_low f1) (fitS_low f2)
  exact getD_of this

theorem sm_rung {m n : Nat} {p q : Int} (f1 : Flt.Fit Ieee.single m p) (f2 : Flt.Fit Ieee.single n q) : sm (S false m p) (S false n q) = Flt.rung Ieee.single (m * 2 ^ (p - -149).toNat + n * 2 ^ (q - -149).toNat) (-149) := by
  have a2 := Flt.add_fit Ieee.single (by decide) false false m n p q (-149) f1 f2 (fitS_low f1) (fitS_low f2)
  have h3 : floatBits .add .f32 (S false m p) (S false n q) = some (Flt.wordOf Ieee.single (false && false) (Flt.tot false m p false n q (-149)) (-149)) := a2
  have e3 : sm (S false m p) (S false n q) = Flt.wordOf Ieee.single (false && false) (Flt.tot false m p false n q (-149)) (-149) := by unfold sm; rw [h3]; rfl
  have c1 : Flt.tot false m p false n q (-149) = ((m * 2 ^ (p - -149).toNat + n * 2 ^ (q - -149).toNat : Nat) : Int) := by simp [Flt.tot, Flt.sv]
  rw [e3, c1]
  unfold Flt.wordOf
  rw [Int.natAbs_natCast]
  have hb : (if ((m * 2 ^ (p - -149).toNat + n * 2 ^ (q - -149).toNat : Nat) : Int) = 0 then (false && false) else decide (((m * 2 ^ (p - -149).toNat + n * 2 ^ (q - -149).toNat : Nat) : Int) < 0)) = false := by
    split
    · rfl
    · exact decide_eq_false (by omega)
  rw [hb]
  rfl

/-- One more than a number is a number. -/
theorem one_more {q : Nat} (hq : q < 2139095040) : sm 1065353216 q < 2139095040 := by
  obtain ⟨n, r, e, f, hr⟩ := word_is q hq
  have e1 : (1065353216 : Nat) = S false 1 0 := by decide +kernel
  have f1 : Flt.Fit Ieee.single 1 0 := fitS_pow 0 (by omega) (by omega)
  have f3 : Flt.Fit Ieee.single 16777215 104 := Flt.fit_lt _ _ _ 24 (by decide) (by rw [Flt.s_lp]; omega) (by decide) (by rw [topS]; omega)
  have h3 : Flt.rung Ieee.single 16777215 104 = 2139095039 := by decide +kernel
  have l1 := fitS_low f
  have g := le_of_rung Ieee.single (by decide) n 16777215 r 104 (-149) f f3 l1 (by omega) (by omega)
  rw [e1, e, sm_rung f1 f]
  have h4 : Flt.rung Ieee.single (1 + 16777215 * 2 ^ 104) 0 = 2139095039 := by decide +kernel
  have h5 : Flt.rung Ieee.single (1 * 2 ^ ((0 : Int) - -149).toNat + n * 2 ^ (r - -149).toNat) (-149) ≤ Flt.rung Ieee.single (1 + 16777215 * 2 ^ 104) 0 := by
    refine Flt.rung_mono Ieee.single _ _ (-149) 0 (-149) (Int.le_refl _) (by omega) ?_
    rw [Int.sub_self, Int.toNat_zero, Nat.pow_zero, Nat.mul_one, Nat.add_mul, Nat.mul_assoc 16777215, ← Nat.pow_add, show 104 + ((0 : Int) - -149).toNat = (104 - -149 : Int).toNat by rfl]
    omega
  omega

theorem sub_below (x y : Nat) (hx : x < 2139095040) (hy : y < 2139095040) : ∃ z, floatBits .sub .f32 x y = some z ∧ z < 4294967296 ∧ mag z ≤ sm x y := by
  obtain ⟨m, p, e1, f1, _⟩ := word_is x hx
  obtain ⟨n, q, e2, f2, _⟩ := word_is y hy
  subst e1 e2
  have l1 := fitS_low f1
  have l2 := fitS_low f2
  have a1 := Flt.add_fit Ieee.single (by decide) false true m n p q (-149) f1 f2 l1 l2
  have a2 := Flt.add_fit Ieee.single (by decide) false false m n p q (-149) f1 f2 l1 l2
  have a3 : floatBits .sub .f32 (S false m p) (S false n q) = some (Flt.wordOf Ieee.single (false && true) (Flt.tot false m p true n q (-149)) (-149)) :=
    (Flt.sub_flip Ieee.single (S false m p) (S false n q) false n q (by decide) f2 rfl).trans a1
  have a4 : sm (S false m p) (S false n q) = Flt.wordOf Ieee.single (false && false) (Flt.tot false m p false n q (-149)) (-149) := by
    have h3 : floatBits .add .f32 (S false m p) (S false n q) = some (Flt.wordOf Ieee.single (false && false) (Flt.tot false m p false n q (-149)) (-149)) := a2
    unfold sm; rw [h3]; rfl
  have g1 := mag_S (if Flt.tot false m p true n q (-149) = 0 then false && true else decide (Flt.tot false m p true n q (-149) < 0)) (Flt.tot false m p true n q (-149)).natAbs (-149)
  have g2 := mag_S (if Flt.tot false m p false n q (-149) = 0 then false && false else decide (Flt.tot false m p false n q (-149) < 0)) (Flt.tot false m p false n q (-149)).natAbs (-149)
  refine ⟨_, a3, g1.1, ?_⟩
  have b3 := (sm_up _ _ hx hy).2.2
  rw [← b3, a4]
  unfold Flt.wordOf
  refine Nat.le_trans (Nat.le_of_eq g1.2) (Nat.le_trans ?_ (Nat.le_of_eq g2.2.symm))
  refine Flt.rung_mono Ieee.single _ _ (-149) (-149) (-149) (Int.le_refl _) (Int.le_refl _) ?_
  rw [Int.sub_self, Int.toNat_zero, Nat.pow_zero, Nat.mul_one, Nat.mul_one]
  have c1 : Flt.tot false m p true n q (-149) = ((m * 2 ^ (p - -149).toNat : Nat) : Int) - ((n * 2 ^ (q - -149).toNat : Nat) : Int) := by simp [Flt.tot, Flt.sv, Int.sub_eq_add_neg, Int.neg_mul]
  have c2 : Flt.tot false m p false n q (-149) = ((m * 2 ^ (p - -149).toNat : Nat) : Int) + ((n * 2 ^ (q - -149).toNat : Nat) : Int) := by simp [Flt.tot, Flt.sv]
  rw [c1, c2]
  omega

theorem nonneg_mul {x y z : Nat} (hx : x < 2139095040) (hy : y < 2139095040) (h : floatBits .mul .f32 x y = some z) (hz : fin z = true) : z < 2139095040 := by
  obtain ⟨m, p, e1, f1, _⟩ := word_is x hx
  obtain ⟨n, q, e2, f2, _⟩ := word_is y hy
  subst e1 e2
  have h' : floatBits .mul .f32 (S false m p) (S false n q) = some (S (false ^^ false) (m * n) (p + q)) := Flt.mul_fit Ieee.single (by decide) false false m n p q f1 f2
  obtain rfl := Option.some.inj (h.symm.trans h')
  have h3 : mag (S false (m * n) (p + q)) = S false (m * n) (p + q) := (mag_S false (m * n) (p + q)).2
  rw [show (false ^^ false) = false from rfl] at hz ⊢
  rw [← h3]
  exact of_decide_eq_true hz

theorem sq_nonneg {x z : Nat} (hx : x < 4294967296) (fx : fin x = true) (h : floatBits .mul .f32 x x = some z) (hz : fin z = true) : z < 2139095040 := by
  obtain ⟨s, m, p, _, f1, rfl⟩ := fin_fit x hx fx
  have h' : floatBits .mul .f32 (S s m p) (S s m p) = some (S (s ^^ s) (m * m) (p + p)) := Flt.mul_fit Ieee.single (by decide) s s m m p p f1 f1
  obtain rfl := Option.some.inj (h.symm.trans h')
  have e : (s ^^ s) = false := by cases s <;> rfl
  rw [e] at hz ⊢
  have h3 : mag (S false (m * m) (p + p)) = S false (m * m) (p + p) := (mag_S false (m * m) (p + p)).2
  rw [← h3]
  exact of_decide_eq_true hz

/-- Half of a float32. -/
theorem half_word {x : Nat} (hx : x < 4294967296) (fx : fin x = true) : ∃ k, floatBits .quo .f32 x 1073741824 = some k ∧ k < 4294967296 ∧ fin k = true ∧ (∀ i : Int, Lo i x → -125 ≤ i → Lo (i - 1) k) ∧ (∀ j : Int, Bd j k → -126 ≤ j → j ≤ 64 → Bd (j + 1) x) := by
  obtain ⟨s, m, p, _, f1, rfl⟩ := fin_fit x hx fx
  have e2 : (1073741824 : Nat) = Ieee.single.nearest false 1 1 := by decide +kernel
  have f2 : Flt.Fit Ieee.single 1 1 := fitS_pow 1 (by omega) (by omega)
  have l1 := fitS_low f1
  have hq : floatBits .quo .f32 (S s m p) 1073741824 = some (S (s ^^ false) m (p - 1)) := by
    rw [e2]
    exact Flt.div_pow Ieee.single (by decide) s false m p 1 f1 f2
  obtain ⟨g1, g2⟩ := mag_S (s ^^ false) m (p - 1)
  obtain ⟨g3, g4⟩ := mag_S s m p
  have hle : Flt.rung Ieee.single m (p - 1) ≤ Flt.rung Ieee.single m p := by
    refine Flt.rung_mono Ieee.single m m (p - 1) p (p - 1) (Int.le_refl _) (by omega) ?_
    rw [Int.sub_self, Int.toNat_zero, Nat.pow_zero, Nat.mul_one]
    exact Nat.le_mul_of_pos_right _ (Nat.two_pow_pos _)
  have hfx : mag (S s m p) < 2139095040 := of_decide_eq_true fx
  refine ⟨_, hq, g1, decide_eq_true (by omega), fun i hi h1 => ?_, fun j hj h1 h2 => ?_⟩
  · have h2 := lo_fin hi fx
    have := lo_num hi f1 (by omega) h2 (-150) (by omega) (by omega)
    unfold Lo
    rw [g2]
    refine Flt.rung_mono Ieee.single 1 m (i - 1) (p - 1) (-151) (by omega) (by omega) ?_
    rw [Nat.one_mul, show (i - 1 - -151).toNat = (i - -150).toNat by congr 1; omega, show (p - 1 - -151).toNat = (p - -150).toNat by congr 1; omega]
    exact this
  · refine ⟨g3, ?_⟩
    rw [g4]
    rcases Nat.lt_or_ge (Flt.rung Ieee.single 1 (j + 1)) (Flt.rung Ieee.single m p) with hl | hl
    · exfalso
      -- above 2 ^ (j + 1): half of it is above 2 ^ j
      have h3 : Lo (j + 1) (S s m p) := by unfold Lo; rw [g4]; omega
      have h4 := lo_num h3 f1 (by omega) (by omega) (-150) (by omega) (by omega)
      have h5 : Flt.rung Ieee.single 1 (j + 1) ≠ Flt.rung Ieee.single m p := by omega
      have h6 : m * 2 ^ (p - -150).toNat ≠ 2 ^ (j + 1 - -150).toNat := by
        intro e
        apply h5
        have a := Flt.rung_mono Ieee.single m 1 p (j + 1) (-150) (by omega) (by omega) (by rw [Nat.one_mul]; omega)
        have b := Flt.rung_mono Ieee.single 1 m (j + 1) p (-150) (by omega) (by omega) (by rw [Nat.one_mul]; omega)
        omega
      -- the half as a number of its own
      obtain ⟨s', m', p', _, f', e'⟩ := fin_fit (S (s ^^ false) m (p - 1)) g1 (decide_eq_true (by omega))
      have h7 := hj
      rcases Int.lt_or_le p (-148) with hp | hp
      · -- p is -149: j + 1 is at least -125, so m has many digits
        have hfit : Flt.Fit Ieee.single 1 (j + 1) := fitS_pow _ (by omega) (by omega)
        have hm := f1.1
        have hm : m < 16777216 := hm
        have e1 : (p - -150).toNat = 1 := by omega
        rw [e1] at h4 h6
        have e3 : 2 ^ 25 ≤ 2 ^ (j + 1 - -150).toNat := Nat.pow_le_pow_right (by omega) (by omega)
        have e4 : (2 : Nat) ^ 25 = 33554432 := by decide
        omega
      · have hfit : Flt.Fit Ieee.single m (p - 1) := ⟨f1.1, by rw [Flt.s_lp]; omega, f1.2.2.imp id (fun h => by omega)⟩
        have h8 := bd_num hj hfit h1 (by omega) (-151) (by omega) (by omega)
        rw [show (p - 1 - -151).toNat = (p - -150).toNat by congr 1; omega, show (j - -151).toNat = (j + 1 - -150).toNat by congr 1; omega] at h8
        omega
    · rw [(Flt.single_pow (j + 1) (by omega) (by omega)).1] at hl
      omega

/-- The scale of a float32. -/
theorem scale {x : Nat} {K : Int} (h : Bd K x) (h1 : -125 ≤ K) (h2 : K ≤ 126) : ∃ i : Int, -126 ≤ i ∧ i ≤ K ∧ Bd (i + 1) x ∧ (i = -126 ∨ Lo i x) := by
  have h3 := h.2
  by_cases hs : mag x < 8388608 * 2
  · exact ⟨-126, by omega, by omega, ⟨h.1, by omega⟩, .inl rfl⟩
  · obtain ⟨n, hn⟩ : ∃ n : Nat, n = mag x / 8388608 := ⟨_, rfl⟩
    have h4 : n * 8388608 ≤ mag x ∧ mag x < (n + 1) * 8388608 := by omega
    have h5 : (n : Int) ≤ K + 127 := by omega
    refine ⟨(n : Int) - 127, by omega, by omega, ⟨h.1, by omega⟩, .inr ?_⟩
    unfold Lo
    rw [(Flt.single_pow _ (by omega) (by omega)).1]
    omega

/-- What has a square that is a number is below '2 ^ 64'. -/
theorem root_bd {x z : Nat} (hx : x < 4294967296) (fx : fin x = true) (h : floatBits .mul .f32 x x = some z) (hz : fin z = true) : Bd 64 x := by
  refine ⟨hx, ?_⟩
  rcases Nat.lt_or_ge (Flt.rung Ieee.single 1 64) (mag x) with hl | hl
  · exfalso
    have h1 : Lo 64 x := by unfold Lo; omega
    have h2 := lo_fin (mul_lo hx hx fx fx h h1 h1 (by omega) (by omega)) hz
    omega
  · rw [(Flt.single_pow 64 (by omega) (by omega)).1] at hl
    omega

theorem lo_up {j : Int} {x y : Nat} (h : Lo j x) (hx : mag x = x) (hy : mag y = y) (hle : x ≤ y) : Lo j y := by
  unfold Lo at *; omega

theorem mag_self {x : Nat} (h : x < 2147483648) : mag x = x := Nat.mod_eq_of_lt h

/-- A part of a step: what h over d is, times a number of the field. -/
theorem part_step {h k kk e se sq q d : Nat} (hh : h < 4294967296) (fh : fin h = true) (hk : floatBits .quo .f32 h 1073741824 = some k) (hkk : floatBits .mul .f32 k k = some kk) (fkk : fin kk = true)
    (he : e < 4294967296) (fe : fin e = true) (hse : floatBits .mul .f32 e e = some se) (hsq : se ≤ sq) (fsq : sq < 2139095040) (hq : floatBits .mul .f32 kk sq = some q) (fq : q < 2139095040) (hd : q ≤ d) (hd1 : 1065353216 ≤ d) (fd : d < 2139095040) :
    ∃ f x, floatBits .quo .f32 h d = some f ∧ f < 4294967296 ∧ fin f = true ∧ floatBits .mul .f32 f e = some x ∧ Bd 6 x := by
  obtain ⟨k', hk', lk, fk, klo, kup⟩ := half_word hh fh
  obtain rfl := Option.some.inj (hk.symm.trans hk')
  have bk := root_bd lk fk hkk fkk
  have bh := kup 64 bk (by omega) (by omega)
  have hkk0 : kk < 2139095040 := sq_nonneg lk fk hkk fkk
  have hse0 : se < 2139095040 := by omega
  have be := root_bd he fe hse (decide_eq_true (by rw [mag_self (by omega)]; exact hse0))
  obtain ⟨i, i1, i2, i3, i4⟩ := scale bh (by omega) (by omega)
  obtain ⟨j, j1, j2, j3, j4⟩ := scale be (by omega) (by omega)
  have l0 : Lo 0 d := by
    unfold Lo
    rw [(Flt.single_pow 0 (by omega) (by omega)).1, mag_self (by omega)]
    exact Nat.le_trans (by decide) hd1
  obtain ⟨f0, hf0, bf0⟩ := quo_up (K := i + 1) i3 fd l0 (by omega) (by omega) (by omega) (by omega) (by omega) (by omega)
  have ff0 := bd_fin bf0 (by omega)
  obtain ⟨s, m, p, t, n, r, e1, f1, e2, f2, hx⟩ := mul_word bf0.1 he ff0 fe
  refine ⟨f0, _, hf0, bf0.1, ff0, hx, ?_⟩
  by_cases hA : i = -126 ∨ j = -126 ∨ i + j ≤ 4
  · rcases hA with rfl | rfl | hA
    · exact mul_up bf0 j3 hx (by omega) (by omega) (by omega) (by omega) (by omega) (by omega) (by omega)
    · exact mul_up bf0 j3 hx (by omega) (by omega) (by omega) (by omega) (by omega) (by omega) (by omega)
    · exact mul_up bf0 j3 hx (by omega) (by omega) (by omega) (by omega) (by omega) (by omega) (by omega)
  · have hi : Lo i h := by rcases i4 with g | g; · exact absurd (.inl g) hA
                           · exact g
    have hj : Lo j e := by rcases j4 with g | g; · exact absurd (.inr (.inl g)) hA
                           · exact g
    have hij : 5 ≤ i + j := by omega
    have g1 := klo i hi (by omega)
    have g2 := mul_lo lk lk fk fk hkk g1 g1 (by omega) (by omega)
    have g3 := mul_lo he he fe fe hse hj hj (by omega) (by omega)
    have g4 := lo_up g3 (mag_self (by omega)) (mag_self (by omega)) hsq
    have fsq' : fin sq = true := decide_eq_true (by rw [mag_self (by omega)]; exact fsq)
    have g5 := mul_lo (by omega) (by omega) fkk fsq' hq g2 g4 (by omega) (by omega)
    have g6 := lo_up g5 (mag_self (by omega)) (mag_self (by omega)) hd
    obtain ⟨f1', hf1', bf1'⟩ := quo_up (K := max (i + 1 - (i - 1 + (i - 1) + (j + j))) (-126)) i3 fd g6 (by omega) (by omega) (by omega) (by omega) (by omega) (by omega)
    obtain rfl := Option.some.inj (hf0.symm.trans hf1')
    exact mul_up bf1' j3 hx (by omega) (by omega) (by omega) (by omega) (by omega) (by omega) (by omega)

/-- What a step is made of. -/
def kO (h : Nat) : Option Nat := opO .quo (some h) (some 1073741824)

def kkO (h : Nat) : Option Nat := opO .mul (kO h) (kO h)

def sqO (a b c : Nat) : Option Nat := innO a b c a b c

def qO (a b c h : Nat) : Option Nat := opO .mul (kkO h) (sqO a b c)

def dO (a b c h : Nat) : Option Nat := opO .add (some 1065353216) (qO a b c h)

def gO (a b c h : Nat) : Option Nat := opO .sub (some 1065353216) (qO a b c h)

def wO (a b c h : Nat) : Option Nat := opO .quo (gO a b c h) (dO a b c h)

def fO (a b c h : Nat) : Option Nat := opO .quo (some h) (dO a b c h)

def xO (a b c h e : Nat) : Option Nat := opO .mul (fO a b c h) (some e)

/-- A number of a size. -/
def NumO (o : Option Nat) (x : Nat) : Prop := o = some x ∧ x < 4294967296 ∧ fin x = true

/-- A step whose q is a number is a table of numbers of at most '2 ^ 6'. -/
theorem step_nums {a b c h : Nat} (ha : a < 4294967296) (hb : b < 4294967296) (hc : c < 4294967296) (hh : h < 4294967296) (fa : fin a = true) (fb : fin b = true) (fc : fin c = true) (fh : fin h = true) (H : finO (qO a b c h) = true) :
    ∃ k kk sq q d g f w x y z, NumO (kO h) k ∧ NumO (kkO h) kk ∧ NumO (sqO a b c) sq ∧ NumO (qO a b c h) q ∧ NumO (dO a b c h) d ∧ NumO (gO a b c h) g ∧ NumO (fO a b c h) f ∧ NumO (wO a b c h) w ∧ NumO (xO a b c h a) x ∧ NumO (xO a b c h b) y ∧ NumO (xO a b c h c) z ∧
      Bd 6 w ∧ Bd 6 x ∧ Bd 6 y ∧ Bd 6 z := by
  obtain ⟨k, hk, lk, fk, _, _⟩ := half_word hh fh
  have ek : kO h = some k := hk
  obtain ⟨H1, H2⟩ := finO_of (.inr (.inr rfl)) ltO_op ltO_op H
  obtain ⟨kk, ekk0, fkk⟩ := finO_some H1
  have ekk : kkO h = some kk := ekk0
  have hkk : floatBits .mul .f32 k k = some kk := by
    have e := ekk
    unfold kkO at e
    rw [ek] at e
    exact e
  obtain ⟨sq, esq0, fsq⟩ := finO_some H2
  have esq : sqO a b c = some sq := esq0
  obtain ⟨q, eq, fq⟩ := finO_some H
  have hq : floatBits .mul .f32 kk sq = some q := by
    have e := eq
    unfold qO at e
    rw [ekk, esq] at e
    exact e
  -- the squares
  obtain ⟨H3, H4⟩ := finO_of (.inl rfl) ltO_op ltO_op H2
  obtain ⟨H5, H6⟩ := finO_of (.inl rfl) ltO_op ltO_op H3
  obtain ⟨s0, e0, f0⟩ := finO_some H5
  obtain ⟨s1, e1, f1⟩ := finO_some H6
  obtain ⟨s2, e2, f2⟩ := finO_some H4
  obtain ⟨s3, e3, f3⟩ := finO_some H3
  have g0 : floatBits .mul .f32 a a = some s0 := e0
  have g1 : floatBits .mul .f32 b b = some s1 := e1
  have g2 : floatBits .mul .f32 c c = some s2 := e2
  have n0 := sq_nonneg ha fa g0 f0
  have n1 := sq_nonneg hb fb g1 f1
  have n2 := sq_nonneg hc fc g2 f2
  have g3 : floatBits .add .f32 s0 s1 = some s3 := by
    rw [e0, e1] at e3
    exact e3
  obtain ⟨u0, u1, u2, u3⟩ := add_up s0 s1 n0 n1
  have u0 := Option.some.inj (g3.symm.trans u0)
  rw [← u0] at u1 u2 u3
  have n3 : s3 < 2139095040 := by
    have := of_decide_eq_true f3
    rwa [mag_self u3] at this
  have g4 : floatBits .add .f32 s3 s2 = some sq := by
    have e := esq
    unfold sqO innO at e
    rw [e3, e2] at e
    exact e
  obtain ⟨v0, v1, v2, v3⟩ := add_up s3 s2 n3 n2
  have v0 := Option.some.inj (g4.symm.trans v0)
  rw [← v0] at v1 v2 v3
  have nsq : sq < 2139095040 := by
    have := of_decide_eq_true fsq
    rwa [mag_self v3] at this
  have nkk := sq_nonneg lk fk hkk fkk
  have nq := nonneg_mul nkk nsq hq fq
  -- d, and 1 less q
  obtain ⟨w0, w1, w2, w3⟩ := add_up 1065353216 q (by omega) nq
  obtain ⟨d, hd⟩ : ∃ d, d = sm 1065353216 q := ⟨_, rfl⟩
  rw [← hd] at w0 w1 w2 w3
  have ed : dO a b c h = some d := by unfold dO; rw [eq]; exact w0
  have nd : d < 2139095040 := by rw [hd]; exact one_more nq
  have fd : fin d = true := decide_eq_true (by rw [mag_self w3]; exact nd)
  obtain ⟨g, hg, lg, mg⟩ := sub_below 1065353216 q (by omega) nq
  rw [← hd] at mg
  have eg : gO a b c h = some g := by unfold gO; rw [eq]; exact hg
  have fg : fin g = true := decide_eq_true (by omega)
  obtain ⟨w, hw, bw⟩ := quo_one lg fg nd (by omega) mg
  have ew : wO a b c h = some w := by unfold wO; rw [eg, ed]; exact hw
  obtain ⟨f, x, hf, lf, ff, hx, bx⟩ := part_step hh fh hk hkk fkk ha fa g0 (by omega) nsq hq nq w2 w1 nd
  obtain ⟨f', y, hf', _, _, hy, by'⟩ := part_step hh fh hk hkk fkk hb fb g1 (by omega) nsq hq nq w2 w1 nd
  obtain ⟨f'', z, hf'', _, _, hz, bz⟩ := part_step hh fh hk hkk fkk hc fc g2 (by omega) nsq hq nq w2 w1 nd
  obtain rfl := Option.some.inj (hf.symm.trans hf')
  obtain rfl := Option.some.inj (hf.symm.trans hf'')
  have ef : fO a b c h = some f := by unfold fO; rw [ed]; exact hf
  have ex : ∀ e x, floatBits .mul .f32 f e = some x → xO a b c h e = some x := fun e x he => by unfold xO; rw [ef]; exact he
  have w6 : Bd 6 w := ⟨bw.1, by have := bw.2; omega⟩
  exact ⟨k, kk, sq, q, d, g, f, w, x, y, z, ⟨ek, lk, fk⟩, ⟨ekk, by omega, fkk⟩, ⟨esq, by omega, fsq⟩, ⟨eq, by omega, fq⟩, ⟨ed, by omega, fd⟩, ⟨eg, lg, fg⟩, ⟨ef, lf, ff⟩, ⟨ew, bw.1, bd_fin bw (by omega)⟩, ⟨ex _ _ hx, bx.1, bd_fin bx (by omega)⟩, ⟨ex _ _ hy, by'.1, bd_fin by' (by omega)⟩, ⟨ex _ _ hz, bz.1, bd_fin bz (by omega)⟩, w6, bx, by', bz⟩

end Go.Proofs.Ytaghfffbhgpalaa
