/- Walks: IsSequence of the program. Walks: the table of a pulse, of both; the unit of both; the tables of the beginnings of a list. A product with the unit is the table but for the signs of zeros; drifts are numbers. -/
import Derived.Test.YtaghfffbhgpalaaKbk
import Derived.Test.YtaghfffbhgpalaaKbi
import Derived.Test.YtaghfffbhgpalaaNh
import Derived.Test.YtaghfffbhgpalaaKan
namespace Go.Proofs.Ytaghfffbhgpalaa
open Go.RowKit

theorem seqB_long {n : Nat} {P : Nat → Pu} (h : ¬ n ≤ 60) : seqB n P = false := by
  unfold seqB
  rw [decide_eq_false h, Bool.and_false]

end Go.Proofs.Ytaghfffbhgpalaa

namespace Go.Proofs.Ytaghfffbhgpalaa
open Go.RowKit

/-- The table of a pulse. -/
def pulseTb (p : Pu) : Tb := if p.bk then (aboutTb p.ax (halved p.ha.toNat).1 (halved p.ha.toNat).2).adj else aboutTb p.ax (halved p.ha.toNat).1 (halved p.ha.toNat).2

def unitS : Tb := partsTb one32 0 0 0
def unitI : Tb := ⟨⟨one32, 0⟩, ⟨0, 0⟩, ⟨0, 0⟩, ⟨one32, 0⟩⟩

def tabS (P : Nat → Pu) : Nat → Tb
  | 0 => unitS
  | n + 1 => (pulseTb (P n)).mul (tabS P n)
def tabI (P : Nat → Pu) : Nat → Tb
  | 0 => unitI
  | n + 1 => (pulseTb (P n)).mul (tabI P n)

theorem ok_parts {p : Pu} (h : okP p = true) : (p.ax = 0 ∨ p.ax = 1 ∨ p.ax = 2) ∧ ∃ k : Nat, p.ha = k ∧ k ≤ 24 := by
  unfold okP at h
  simp only [Bool.and_eq_true, decide_eq_true_eq] at h
  exact ⟨by omega, p.ha.toNat, by omega, by omega⟩

theorem pulse_pls {p : Pu} (h : okP p = true) : Pls (pulseTb p) := by
  obtain ⟨_, k, hk, h24⟩ := ok_parts h
  have hb := halved_of p.ha.toNat (by omega)
  unfold pulseTb
  split
  · exact (about_pls p.ax hb.1 hb.2).2
  · exact (about_pls p.ax hb.1 hb.2).1

theorem unitS_tb : TB 0 unitS := by
  have z := bd_null
  have n := bd_nneg
  have o := one_vl.2
  exact ⟨⟨o, n.1⟩, ⟨n.1, n.1⟩, ⟨z.1, n.1⟩, ⟨o, z.1⟩⟩

theorem unit_eqt : EqT unitS unitI := by
  have z := bd_null
  have n := bd_nneg
  have o := one_vl.2
  have e : Eqv (Op.negFloat .f32 0) 0 := ⟨n.1.1, z.1.1, .inr ⟨n.2, z.2⟩⟩
  exact ⟨⟨eqv_refl o.1, e⟩, ⟨e, e⟩, ⟨eqv_refl z.1.1, e⟩, ⟨eqv_refl o.1, eqv_refl z.1.1⟩⟩

theorem tabs_ok {n : Nat} {P : Nat → Pu} (hok : ∀ i, i < n → okP (P i) = true) : ∀ k : Nat, k ≤ n → k ≤ 60 → TB k (tabS P k) ∧ EqT (tabS P k) (tabI P k) ∧ TB k (tabI P k)
  | 0, _, _ => ⟨unitS_tb, unit_eqt, tb_eqv unit_eqt unitS_tb⟩
  | k + 1, hk, h60 => by
    obtain ⟨h1, h2, h3⟩ := tabs_ok hok k (by omega) (by omega)
    have hp := pulse_pls (hok k (by omega))
    have m1 := mul_pls hp h1 (by omega)
    have hpp : EqT (pulseTb (P k)) (pulseTb (P k)) := by
      have hb : TB 0 (pulseTb (P k)) := by
        rcases hp with ⟨a, b, c, d⟩ | ⟨a, b, c, d⟩
        · exact ⟨a.1, b.1, c.1, d.1⟩
        · exact ⟨a, b.1, c.1, d⟩
      exact eqt_refl hb
    have e := mul_eqt m1.1 hpp h2
    exact ⟨m1.2, e, tb_eqv e m1.2⟩

/-- The same drift of both. -/
theorem drift_both {n : Nat} {P : Nat → Pu} (hok : ∀ i, i < n → okP (P i) = true) (k : Nat) (hk : k ≤ n) (h60 : k ≤ 60) : driftS (tabS P k) = driftI (tabI P k) := by
  obtain ⟨h1, h2, _⟩ := tabs_ok hok k hk h60
  rw [drift_same h1 (by omega), drift_eqt h1 (by omega) h2]

end Go.Proofs.Ytaghfffbhgpalaa

namespace Go.Proofs.Ytaghfffbhgpalaa
open Go.RowKit

theorem wordOf_sv (f : Ieee.Format) (z s : Bool) (m : Nat) (p b : Int) (hb : b ≤ p) (h0 : m ≠ 0) : Flt.wordOf f z (Flt.sv s m * 2 ^ (p - b).toNat) b = f.nearest s m p := by
  rw [Flt.wordOf_shl]
  have e : b + ((p - b).toNat : Int) = p := by omega
  rw [e]
  unfold Flt.wordOf
  have h1 : Flt.sv s m ≠ 0 := by unfold Flt.sv; cases s <;> simp <;> omega
  rw [if_neg h1, sv_abs]
  congr 1
  unfold Flt.sv
  cases s
  · simp
  · simp; omega

theorem vl_nought {x : Nat} (h : Vl x 0) : mag x = 0 := by
  obtain ⟨s, m, p, rfl, hf, h⟩ := h
  have hp : (0 : Int) < 2 ^ (p + 149).toNat := Int.pow_pos (by omega)
  have : Flt.sv s m = 0 := by
    rcases Int.mul_eq_zero.1 h.symm with g | g
    · exact g
    · omega
  have hm : m = 0 := by
    unfold Flt.sv at this
    cases s <;> simp at this <;> omega
  subst hm
  rw [(mag_S s 0 p).2, Flt.rung_zero]

theorem vl_lt {x : Nat} {v : Int} (h : Vl x v) : x < 4294967296 := (vl_num h).1

/-- A sum of products that is a number is that number. -/
theorem ex_exact {a b c d x : Nat} {va vb vc vd v : Int} (ha : Vl a va) (hb : Vl b vb) (hc : Vl c vc) (hd : Vl d vd) (hx : Vl x v) (he : va * vb + vc * vd = v * 2 ^ 149) : Eqv (ex a b c d) x := by
  by_cases h0 : v = 0
  · subst h0
    have := ex_zero ha hb hc hd (by rw [he]; simp)
    exact ⟨this.1, vl_lt hx, .inr ⟨this.2, vl_nought hx⟩⟩
  · obtain ⟨z, hz⟩ := ad_is ha hb hc hd
    obtain ⟨s, m, p, rfl, hf, rfl⟩ := hx
    have hm : m ≠ 0 := by
      intro e
      subst e
      apply h0
      unfold Flt.sv
      cases s <;> simp
    have hlow := fitS_low hf
    have e1 : ex a b c d = S s m p := by
      unfold ex
      rw [hz, he, Flt.wordOf_shl]
      have e2 : (-298 : Int) + ((149 : Nat) : Int) = -149 := by omega
      rw [e2]
      have e3 : (p + 149).toNat = (p - -149).toNat := by congr 1
      rw [e3, wordOf_sv _ _ _ _ _ _ (by omega) hm]
      unfold nr
      have := narrow (s := s) hf
      unfold D at this
      rw [this]
      rfl
    rw [e1]
    exact eqv_refl (mag_S s m p).1

/-- A sum that is a number is that number. -/
theorem sm_exact {a b x : Nat} {va vb v : Int} (ha : Vl a va) (hb : Vl b vb) (hx : Vl x v) (he : va + vb = v) : Eqv (sm a b) x := by
  have hz : Vl 0 0 := ⟨false, 0, 0, by decide +kernel, ⟨by decide, by decide, .inl rfl⟩, by decide⟩
  have h1 := (sm_same ha hb hx hz (by omega)).1
  refine ⟨h1.1, vl_lt hx, ?_⟩
  have h2 : Eqv (sm x 0) x := by
    obtain ⟨s, m, p, rfl, hf, rfl⟩ := hx
    obtain ⟨t, n, q, e0, hg, hq⟩ := hz
    have hlow := fitS_low hf
    have := Flt.add_fit Ieee.single (by decide) s t m n p q (-149) hf hg hlow (fitS_low hg)
    have h3 : floatBits .add .f32 (S s m p) (S t n q) = some (Flt.wordOf Ieee.single (s && t) (Flt.sv s m * 2 ^ (p + 149).toNat + Flt.sv t n * 2 ^ (q + 149).toNat) (-149)) := this
    rw [← hq, Int.add_zero] at h3
    have h4 : sm (S s m p) 0 = Flt.wordOf Ieee.single (s && t) (Flt.sv s m * 2 ^ (p + 149).toNat) (-149) := by
      unfold sm
      conv => lhs; rw [e0, h3]
      rfl
    by_cases hm : m = 0
    · subst hm
      rw [h4]
      have e5 : Flt.sv s 0 * 2 ^ (p + 149).toNat = 0 := by unfold Flt.sv; cases s <;> simp
      rw [e5]
      unfold Flt.wordOf
      rw [if_pos rfl]
      obtain ⟨g1, g2⟩ := mag_S (s && t) (Int.natAbs 0) (-149)
      rw [show Int.natAbs 0 = 0 from rfl, Flt.rung_zero] at g2
      refine ⟨g1, (mag_S s 0 p).1, .inr ⟨g2, by rw [(mag_S s 0 p).2, Flt.rung_zero]⟩⟩
    · rw [h4]
      have e3 : (p + 149).toNat = (p - -149).toNat := by congr 1
      rw [e3, wordOf_sv _ _ _ _ _ _ (by omega) hm]
      exact eqv_refl (mag_S s m p).1
  obtain ⟨_, _, h3⟩ := h1
  obtain ⟨_, _, h4⟩ := h2
  rcases h3 with h3 | h3
  · rw [h3]; exact h4
  · rcases h4 with h4 | h4
    · right; exact ⟨h3.1, by rw [← h4]; exact h3.2⟩
    · right; exact ⟨h3.1, h4.2⟩

theorem sym_eqv {u v : Nat} (h : Eqv u v) : Eqv v u := by
  obtain ⟨p, q, r⟩ := h
  refine ⟨q, p, ?_⟩
  rcases r with rfl | r
  · exact .inl rfl
  · exact .inr ⟨r.2, r.1⟩

theorem eqv_trans {x y z : Nat} (h : Eqv x y) (g : Eqv y z) : Eqv x z := by
  obtain ⟨h1, h2, h3⟩ := h
  obtain ⟨g1, g2, g3⟩ := g
  refine ⟨h1, g2, ?_⟩
  rcases h3 with rfl | h3
  · exact g3
  · rcases g3 with rfl | g3
    · exact .inr h3
    · exact .inr ⟨h3.1, g3.2⟩

theorem eqc_trans {x y z : Cx} (h : EqC x y) (g : EqC y z) : EqC x z := ⟨eqv_trans h.1 g.1, eqv_trans h.2 g.2⟩

def cOne : Cx := ⟨one32, 0⟩
def cNil : Cx := ⟨0, 0⟩

theorem vl_nil : Vl 0 0 := ⟨false, 0, 0, by decide +kernel, ⟨by decide, by decide, .inl rfl⟩, by decide⟩

theorem vl_one32 : Vl one32 (2 ^ 149) := ⟨false, 1, 0, by decide +kernel, fitS_pow 0 (by omega) (by omega), by decide +kernel⟩

theorem mul_cone {z : Cx} {k : Nat} (h : CB k z) (hk : k ≤ 127) : EqC (z.mul cOne) z := by
  obtain ⟨a, ha, _⟩ := bd_has h.1 hk
  obtain ⟨b, hb, _⟩ := bd_has h.2 hk
  exact ⟨ex_exact ha vl_one32 (neg_vl hb) vl_nil ha (by simp), ex_exact ha vl_nil hb vl_one32 hb (by simp)⟩

theorem mul_cnil {z : Cx} {k : Nat} (h : CB k z) (hk : k ≤ 127) : EqC (z.mul cNil) cNil := by
  obtain ⟨a, ha, _⟩ := bd_has h.1 hk
  obtain ⟨b, hb, _⟩ := bd_has h.2 hk
  exact ⟨ex_exact ha vl_nil (neg_vl hb) vl_nil vl_nil (by simp), ex_exact ha vl_nil hb vl_nil vl_nil (by simp)⟩

theorem add_cnil {z x y : Cx} {k : Nat} (h : CB k z) (hk : k ≤ 127) (hx : EqC x z) (hy : EqC y cNil) : EqC (x.add y) z ∧ EqC (y.add x) z := by
  obtain ⟨a, ha, _⟩ := bd_has h.1 hk
  obtain ⟨b, hb, _⟩ := bd_has h.2 hk
  have sy : ∀ {u v : Nat}, Eqv u v → Eqv v u := fun h => sym_eqv h
  have x1 := eqv_vl (sy hx.1) ha
  have x2 := eqv_vl (sy hx.2) hb
  have y1 := eqv_vl (sy hy.1) vl_nil
  have y2 := eqv_vl (sy hy.2) vl_nil
  exact ⟨⟨sm_exact x1 y1 ha (by omega), sm_exact x2 y2 hb (by omega)⟩, ⟨sm_exact y1 x1 ha (by omega), sm_exact y2 x2 hb (by omega)⟩⟩

/-- A table times the unit. -/
theorem mul_unit {t : Tb} {k : Nat} (h : TB k t) (hk : k ≤ 127) : EqT (t.mul unitI) t := by
  have e : unitI = ⟨cOne, cNil, cNil, cOne⟩ := rfl
  rw [e]
  obtain ⟨ha, hb, hc, hd⟩ := h
  exact ⟨(add_cnil ha hk (mul_cone ha hk) (mul_cnil hb hk)).1, (add_cnil hb hk (mul_cone hb hk) (mul_cnil ha hk)).2, (add_cnil hc hk (mul_cone hc hk) (mul_cnil hd hk)).1, (add_cnil hd hk (mul_cone hd hk) (mul_cnil hc hk)).2⟩

theorem drift_num {t : Tb} {k : Nat} (h : TB k t) (hk : 2 * k + 3 ≤ 127) : driftI t < 4294967296 ∧ fin (driftI t) = true := by
  have qb := (q_bd h (by omega)).2
  have db := (detI_ok h (by omega)).2
  have l1 := (bd_less qb (bd_mono one_vl.2 (by omega)) (by omega)).2
  have l2 := (bd_less db.1 (bd_mono one_vl.2 (by omega)) (by omega)).2
  have b1 := l1.2
  have b2 := l2.2
  have b3 := db.2.2
  have hm : driftI t ≤ 2130706432 := by
    unfold driftI
    refine Nat.max_le.2 ⟨Nat.max_le.2 ⟨?_, ?_⟩, ?_⟩ <;> omega
  refine ⟨by omega, ?_⟩
  unfold fin mag
  exact decide_eq_true (by omega)

end Go.Proofs.Ytaghfffbhgpalaa
