/- Tables of pulses: a product with one at most doubles the parts. -/
import Derived.Test.YtibmaflcfmphgaaTb
namespace Go.Proofs.Ytibmaflcfmphgaa
open Go.RowKit

theorem mag_neg (x : Nat) (hx : x < 4294967296) : Op.negFloat .f32 x < 4294967296 ∧ mag (Op.negFloat .f32 x) = mag x := by
  have h1 := word_split x hx
  have h2 := mag_lt x
  have h3 : Op.negFloat .f32 x = Ieee.single.word (!(x / 2147483648 % 2 == 1)) (mag x) := by
    conv => lhs; rw [h1]
    exact Flt.flip_word Ieee.single _ (mag x) (by rw [Flt.s_sw]; exact h2)
  rw [h3]
  exact mag_word _ _ h2

theorem bd_neg {k : Int} {x : Nat} (h : Bd k x) : Bd k (Op.negFloat .f32 x) := by
  obtain ⟨h1, h2⟩ := mag_neg x h.1
  refine ⟨h1, ?_⟩
  rw [h2]; exact h.2

theorem bd_mono {j k : Int} {x : Nat} (h : Bd j x) (hk : j ≤ k) : Bd k x := ⟨h.1, by have := h.2; omega⟩

theorem bd_zero {k : Int} {x : Nat} (hx : x < 4294967296) (h : mag x = 0) (hk : -127 ≤ k) : Bd k x := ⟨hx, by omega⟩

theorem bd_has {k : Nat} {x : Nat} (h : Bd k x) (hk : k ≤ 127) : ∃ v, Vl x v ∧ v.natAbs ≤ 2 ^ (k + 149) := by
  obtain ⟨v, hv⟩ := vl_of x h.1 (bd_fin h (by omega))
  refine ⟨v, hv, ?_⟩
  have := bd_vl hv h (by omega) (by omega)
  have e : ((k : Int) + 149).toNat = k + 149 := by omega
  rw [e] at this
  exact this

/-- A sum of products that is 0 is written as 0. -/
theorem ex_zero {a b c d : Nat} {va vb vc vd : Int} (ha : Vl a va) (hb : Vl b vb) (hc : Vl c vc) (hd : Vl d vd) (h : va * vb + vc * vd = 0) :
    ex a b c d < 4294967296 ∧ mag (ex a b c d) = 0 := by
  obtain ⟨z, hw⟩ := ad_word ha hb hc hd
  have e1 : ad (mu (wd a) (wd b)) (mu (wd c) (wd d)) = Flt.wordOf Ieee.double z (va * vb + vc * vd) (-298) := by unfold ad; rw [hw]; rfl
  unfold ex
  rw [e1, h]
  unfold Flt.wordOf
  rw [if_pos rfl, show Int.natAbs 0 = 0 from rfl]
  have hz : Flt.Fit Ieee.single 0 0 := ⟨by decide, by rw [Flt.s_lp]; omega, .inl rfl⟩
  have hn : nr (Ieee.double.nearest z 0 (-298)) = S z 0 0 := by
    have e2 : Ieee.double.nearest z 0 (-298) = D z 0 0 := by rw [D_zero, Flt.nearest_zero]
    rw [e2]
    unfold nr
    rw [narrow hz]; rfl
  rw [hn]
  obtain ⟨g1, g2⟩ := mag_S z 0 0
  refine ⟨g1, ?_⟩
  rw [g2, Flt.rung_zero]

/-- A complex number below a power of two; one with a part that is 0; one that is 0. -/
def CB (k : Int) (z : Cx) : Prop := Bd k z.re ∧ Bd k z.im
def Half (z : Cx) : Prop := CB 0 z ∧ (mag z.re = 0 ∨ mag z.im = 0)
def Nil (z : Cx) : Prop := CB 0 z ∧ mag z.re = 0 ∧ mag z.im = 0

theorem abs_prod {a b : Int} {m n : Nat} (ha : a.natAbs ≤ 2 ^ m) (hb : b.natAbs ≤ 2 ^ n) : (a * b).natAbs ≤ 2 ^ (m + n) := by
  rw [Int.natAbs_mul, Nat.pow_add]
  exact Nat.mul_le_mul ha hb

/-- A product with a number of at most 1. -/
theorem prod_full {z w : Cx} {k : Nat} (hz : CB 0 z) (hw : CB k w) (hk : k + 1 ≤ 127) : Pb ((k + 1 : Nat) : Int) z.re z.im w.re w.im ∧ CB ((k + 1 : Nat) : Int) (z.mul w) := by
  obtain ⟨a, ha, ba⟩ := bd_has (k := 0) hz.1 (by omega)
  obtain ⟨b, hb, bb⟩ := bd_has (k := 0) hz.2 (by omega)
  obtain ⟨c, hc, bc⟩ := bd_has hw.1 (by omega)
  obtain ⟨d, hd, bd⟩ := bd_has hw.2 (by omega)
  have p1 := abs_prod ba bc
  have p2 := abs_prod bb bd
  have p3 := abs_prod ba bd
  have p4 := abs_prod bb bc
  have e : 0 + 149 + (k + 149) = k + 298 := by omega
  rw [e] at p1 p2 p3 p4
  have e2 : (((k + 1 : Nat) : Int) + 298).toNat = k + 298 + 1 := by omega
  have g1 : (a * c + -b * d).natAbs ≤ 2 ^ (((k + 1 : Nat) : Int) + 298).toNat := by
    rw [e2, Nat.pow_succ, Int.neg_mul]; omega
  have g2 : (a * d + b * c).natAbs ≤ 2 ^ (((k + 1 : Nat) : Int) + 298).toNat := by
    rw [e2, Nat.pow_succ]; omega
  refine ⟨⟨by omega, by omega, a, b, c, d, ha, hb, hc, hd, g1, g2⟩, ?_, ?_⟩
  · exact (ex_ok _ ha hc (neg_vl hb) hd (by omega) (by omega) g1).2
  · exact (ex_ok _ ha hd hb hc (by omega) (by omega) g2).2

theorem prod_half {z w : Cx} {k : Nat} (hz : Half z) (hw : CB k w) (hk : k ≤ 127) : Pb (k : Int) z.re z.im w.re w.im ∧ CB (k : Int) (z.mul w) := by
  obtain ⟨hz, h0⟩ := hz
  obtain ⟨a, ha, ba⟩ := bd_has (k := 0) hz.1 (by omega)
  obtain ⟨b, hb, bb⟩ := bd_has (k := 0) hz.2 (by omega)
  obtain ⟨c, hc, bc⟩ := bd_has hw.1 (by omega)
  obtain ⟨d, hd, bd⟩ := bd_has hw.2 (by omega)
  have p1 := abs_prod ba bc
  have p2 := abs_prod bb bd
  have p3 := abs_prod ba bd
  have p4 := abs_prod bb bc
  have e : 0 + 149 + (k + 149) = k + 298 := by omega
  rw [e] at p1 p2 p3 p4
  have e2 : ((k : Int) + 298).toNat = k + 298 := by omega
  have g : (a * c + -b * d).natAbs ≤ 2 ^ ((k : Int) + 298).toNat ∧ (a * d + b * c).natAbs ≤ 2 ^ ((k : Int) + 298).toNat := by
    rw [e2, Int.neg_mul]
    rcases h0 with h | h
    · have := vl_zero ha h
      subst this
      rw [Int.zero_mul, Int.zero_mul, Int.zero_add, Int.zero_add, Int.natAbs_neg]
      exact ⟨p2, p4⟩
    · have := vl_zero hb h
      subst this
      rw [Int.zero_mul, Int.zero_mul, Int.neg_zero, Int.add_zero, Int.add_zero]
      exact ⟨p1, p3⟩
  refine ⟨⟨by omega, by omega, a, b, c, d, ha, hb, hc, hd, g.1, g.2⟩, ?_, ?_⟩
  · exact (ex_ok _ ha hc (neg_vl hb) hd (by omega) (by omega) g.1).2
  · exact (ex_ok _ ha hd hb hc (by omega) (by omega) g.2).2

theorem prod_nil {z w : Cx} {k : Nat} (hz : Nil z) (hw : CB k w) (hk : k ≤ 127) : Pb (k : Int) z.re z.im w.re w.im ∧ Nil (z.mul w) := by
  obtain ⟨hz, h0, h1⟩ := hz
  have hp := (prod_half ⟨hz, .inl h0⟩ hw hk).1
  refine ⟨hp, ?_⟩
  obtain ⟨_, _, a, b, c, d, ha, hb, hc, hd, _, _⟩ := hp
  have z1 := vl_zero ha h0
  have z2 := vl_zero hb h1
  subst z1 z2
  have r1 := ex_zero ha hc (neg_vl hb) hd (by simp)
  have r2 := ex_zero ha hd hb hc (by simp)
  exact ⟨⟨bd_zero r1.1 r1.2 (by omega), bd_zero r2.1 r2.2 (by omega)⟩, r1.2, r2.2⟩

theorem sum_two {z w : Cx} {k : Nat} (hz : CB k z) (hw : CB k w) (hk : k + 1 ≤ 127) : Sb ((k + 1 : Nat) : Int) z.re z.im w.re w.im ∧ CB ((k + 1 : Nat) : Int) (z.add w) := by
  obtain ⟨a, ha, ba⟩ := bd_has hz.1 (by omega)
  obtain ⟨b, hb, bb⟩ := bd_has hz.2 (by omega)
  obtain ⟨c, hc, bc⟩ := bd_has hw.1 (by omega)
  obtain ⟨d, hd, bd⟩ := bd_has hw.2 (by omega)
  have e2 : (((k + 1 : Nat) : Int) + 149).toNat = k + 149 + 1 := by omega
  have g1 : (a + c).natAbs ≤ 2 ^ (((k + 1 : Nat) : Int) + 149).toNat := by rw [e2, Nat.pow_succ]; omega
  have g2 : (b + d).natAbs ≤ 2 ^ (((k + 1 : Nat) : Int) + 149).toNat := by rw [e2, Nat.pow_succ]; omega
  exact ⟨⟨by omega, by omega, a, b, c, d, ha, hb, hc, hd, g1, g2⟩, (sm_ok _ ha hc (by omega) (by omega) g1).2, (sm_ok _ hb hd (by omega) (by omega) g2).2⟩

theorem sum_nil {z w : Cx} {k : Nat} (hz : CB k z) (hw : Nil w) (hk : k ≤ 127) : Sb (k : Int) z.re z.im w.re w.im ∧ CB (k : Int) (z.add w) := by
  obtain ⟨hw, h0, h1⟩ := hw
  obtain ⟨a, ha, ba⟩ := bd_has hz.1 (by omega)
  obtain ⟨b, hb, bb⟩ := bd_has hz.2 (by omega)
  obtain ⟨c, hc, bc⟩ := bd_has (k := 0) hw.1 (by omega)
  obtain ⟨d, hd, bd⟩ := bd_has (k := 0) hw.2 (by omega)
  have z1 := vl_zero hc h0
  have z2 := vl_zero hd h1
  subst z1 z2
  have e2 : ((k : Int) + 149).toNat = k + 149 := by omega
  have g1 : (a + 0).natAbs ≤ 2 ^ ((k : Int) + 149).toNat := by rw [e2, Int.add_zero]; exact ba
  have g2 : (b + 0).natAbs ≤ 2 ^ ((k : Int) + 149).toNat := by rw [e2, Int.add_zero]; exact bb
  exact ⟨⟨by omega, by omega, a, b, 0, 0, ha, hb, hc, hd, g1, g2⟩, (sm_ok _ ha hc (by omega) (by omega) g1).2, (sm_ok _ hb hd (by omega) (by omega) g2).2⟩

theorem nil_sum {z w : Cx} {k : Nat} (hz : Nil z) (hw : CB k w) (hk : k ≤ 127) : Sb (k : Int) z.re z.im w.re w.im ∧ CB (k : Int) (z.add w) := by
  obtain ⟨hz, h0, h1⟩ := hz
  obtain ⟨a, ha, ba⟩ := bd_has (k := 0) hz.1 (by omega)
  obtain ⟨b, hb, bb⟩ := bd_has (k := 0) hz.2 (by omega)
  obtain ⟨c, hc, bc⟩ := bd_has hw.1 (by omega)
  obtain ⟨d, hd, bd⟩ := bd_has hw.2 (by omega)
  have z1 := vl_zero ha h0
  have z2 := vl_zero hb h1
  subst z1 z2
  have e2 : ((k : Int) + 149).toNat = k + 149 := by omega
  have g1 : (0 + c).natAbs ≤ 2 ^ ((k : Int) + 149).toNat := by rw [e2, Int.zero_add]; exact bc
  have g2 : (0 + d).natAbs ≤ 2 ^ ((k : Int) + 149).toNat := by rw [e2, Int.zero_add]; exact bd
  exact ⟨⟨by omega, by omega, 0, 0, c, d, ha, hb, hc, hd, g1, g2⟩, (sm_ok _ ha hc (by omega) (by omega) g1).2, (sm_ok _ hb hd (by omega) (by omega) g2).2⟩

/-- An entry of a product with a pulse's table. -/
theorem ent_half {z w z' w' : Cx} {k : Nat} (hz : Half z) (hz' : Half z') (hw : CB k w) (hw' : CB k w') (hk : k + 1 ≤ 127) : EntOk z w z' w' ∧ CB ((k + 1 : Nat) : Int) (ent z w z' w') := by
  obtain ⟨p, b⟩ := prod_half hz hw (by omega)
  obtain ⟨p', b'⟩ := prod_half hz' hw' (by omega)
  obtain ⟨s, c⟩ := sum_two b b' hk
  exact ⟨⟨_, ⟨_, p⟩, ⟨_, p'⟩, s⟩, c⟩

theorem ent_left {z w z' w' : Cx} {k : Nat} (hz : CB 0 z) (hz' : Nil z') (hw : CB k w) (hw' : CB k w') (hk : k + 1 ≤ 127) : EntOk z w z' w' ∧ CB ((k + 1 : Nat) : Int) (ent z w z' w') := by
  obtain ⟨p, b⟩ := prod_full hz hw hk
  obtain ⟨p', b'⟩ := prod_nil hz' hw' (by omega)
  obtain ⟨s, c⟩ := sum_nil b b' hk
  exact ⟨⟨_, ⟨_, p⟩, ⟨_, p'⟩, s⟩, c⟩

theorem ent_right {z w z' w' : Cx} {k : Nat} (hz : Nil z) (hz' : CB 0 z') (hw : CB k w) (hw' : CB k w') (hk : k + 1 ≤ 127) : EntOk z w z' w' ∧ CB ((k + 1 : Nat) : Int) (ent z w z' w') := by
  obtain ⟨p, b⟩ := prod_nil hz hw (by omega)
  obtain ⟨p', b'⟩ := prod_full hz' hw' hk
  obtain ⟨s, c⟩ := nil_sum b b' hk
  exact ⟨⟨_, ⟨_, p⟩, ⟨_, p'⟩, s⟩, c⟩

/-- A table below a power of two. -/
def TB (k : Int) (t : Tb) : Prop := CB k t.a ∧ CB k t.b ∧ CB k t.c ∧ CB k t.d

/-- The table of a pulse: parts of at most 1, each entry with a part that is 0, or the others 0. -/
def Pls (t : Tb) : Prop := (Half t.a ∧ Half t.b ∧ Half t.c ∧ Half t.d) ∨ (CB 0 t.a ∧ Nil t.b ∧ Nil t.c ∧ CB 0 t.d)

theorem mul_pls {p t : Tb} {k : Nat} (hp : Pls p) (ht : TB k t) (hk : k + 1 ≤ 127) : MulOk p t ∧ TB ((k + 1 : Nat) : Int) (p.mul t) := by
  obtain ⟨ta, tb, tc, td⟩ := ht
  rcases hp with ⟨h1, h2, h3, h4⟩ | ⟨h1, h2, h3, h4⟩
  · have e1 := ent_half h1 h2 ta tc hk
    have e2 := ent_half h1 h2 tb td hk
    have e3 := ent_half h3 h4 ta tc hk
    have e4 := ent_half h3 h4 tb td hk
    exact ⟨⟨e1.1, e2.1, e3.1, e4.1⟩, e1.2, e2.2, e3.2, e4.2⟩
  · have e1 := ent_left h1 h2 ta tc hk
    have e2 := ent_left h1 h2 tb td hk
    have e3 := ent_right h3 h4 ta tc hk
    have e4 := ent_right h3 h4 tb td hk
    exact ⟨⟨e1.1, e2.1, e3.1, e4.1⟩, e1.2, e2.2, e3.2, e4.2⟩

/-- Any two numbers, any two tables. -/
theorem prod_any {x y : Cx} {j k : Nat} (hx : CB j x) (hy : CB k y) (hk : j + k + 1 ≤ 127) : Pb ((j + k + 1 : Nat) : Int) x.re x.im y.re y.im ∧ CB ((j + k + 1 : Nat) : Int) (x.mul y) := by
  obtain ⟨a, ha, ba⟩ := bd_has hx.1 (by omega)
  obtain ⟨b, hb, bb⟩ := bd_has hx.2 (by omega)
  obtain ⟨c, hc, bc⟩ := bd_has hy.1 (by omega)
  obtain ⟨d, hd, bd⟩ := bd_has hy.2 (by omega)
  have p1 := abs_prod ba bc
  have p2 := abs_prod bb bd
  have p3 := abs_prod ba bd
  have p4 := abs_prod bb bc
  have e : j + 149 + (k + 149) = j + k + 298 := by omega
  rw [e] at p1 p2 p3 p4
  have e2 : (((j + k + 1 : Nat) : Int) + 298).toNat = j + k + 298 + 1 := by omega
  have g1 : (a * c + -b * d).natAbs ≤ 2 ^ (((j + k + 1 : Nat) : Int) + 298).toNat := by
    rw [e2, Nat.pow_succ, Int.neg_mul]; omega
  have g2 : (a * d + b * c).natAbs ≤ 2 ^ (((j + k + 1 : Nat) : Int) + 298).toNat := by
    rw [e2, Nat.pow_succ]; omega
  refine ⟨⟨by omega, by omega, a, b, c, d, ha, hb, hc, hd, g1, g2⟩, ?_, ?_⟩
  · exact (ex_ok _ ha hc (neg_vl hb) hd (by omega) (by omega) g1).2
  · exact (ex_ok _ ha hd hb hc (by omega) (by omega) g2).2

theorem ent_any {z w z' w' : Cx} {j k : Nat} (hz : CB j z) (hz' : CB j z') (hw : CB k w) (hw' : CB k w') (hk : j + k + 2 ≤ 127) : EntOk z w z' w' ∧ CB ((j + k + 2 : Nat) : Int) (ent z w z' w') := by
  obtain ⟨p, b⟩ := prod_any hz hw (by omega)
  obtain ⟨p', b'⟩ := prod_any hz' hw' (by omega)
  obtain ⟨s, c⟩ := sum_two b b' (by omega)
  exact ⟨⟨_, ⟨_, p⟩, ⟨_, p'⟩, s⟩, c⟩

theorem mul_any {p t : Tb} {j k : Nat} (hp : TB j p) (ht : TB k t) (hk : j + k + 2 ≤ 127) : MulOk p t ∧ TB ((j + k + 2 : Nat) : Int) (p.mul t) := by
  obtain ⟨h1, h2, h3, h4⟩ := hp
  obtain ⟨ta, tb, tc, td⟩ := ht
  have e1 := ent_any h1 h2 ta tc hk
  have e2 := ent_any h1 h2 tb td hk
  have e3 := ent_any h3 h4 ta tc hk
  have e4 := ent_any h3 h4 tb td hk
  exact ⟨⟨e1.1, e2.1, e3.1, e4.1⟩, e1.2, e2.2, e3.2, e4.2⟩
end Go.Proofs.Ytibmaflcfmphgaa
