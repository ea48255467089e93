/- Roots of sums of squares, and quotients by them: at most 2. -/
import Derived.Test.YtaghfffbhgpalaaDs
import Derived.Test.YtaghfffbhgpalaaKas
namespace Go.Proofs.Ytaghfffbhgpalaa
open Go.RowKit

theorem ad_sq {a b : Nat} {va vb : Int} (ha : Vl a va) (hb : Vl b vb) :
    ad (mu (wd a) (wd a)) (mu (wd b) (wd b)) = Ieee.double.nearest false (va * va + vb * vb).natAbs (-298) := by
  obtain ⟨s, m, p, rfl, hf, rfl⟩ := ha
  obtain ⟨t, n, q, rfl, hg, rfl⟩ := hb
  rw [wd_S hf, wd_S hg]
  have e1 : mu (D s m p) (D s m p) = D (s ^^ s) (m * m) (p + p) := by unfold mu; rw [mu_S hf hf]; rfl
  have e2 : mu (D t n q) (D t n q) = D (t ^^ t) (n * n) (q + q) := by unfold mu; rw [mu_S hg hg]; rfl
  rw [e1, e2]
  have l1 := fitS_low hf
  have l2 := fitS_low hg
  have := Flt.add_fit Ieee.double (by decide) (s ^^ s) (t ^^ t) (m * m) (n * n) (p + p) (q + q) (-298) (fit_prod hf hf) (fit_prod hg hg) (by omega) (by omega)
  have h3 : floatBits .add .f64 (D (s ^^ s) (m * m) (p + p)) (D (t ^^ t) (n * n) (q + q)) = some (Flt.wordOf Ieee.double ((s ^^ s) && (t ^^ t)) (Flt.tot (s ^^ s) (m * m) (p + p) (t ^^ t) (n * n) (q + q) (-298)) (-298)) := this
  unfold ad
  rw [h3]
  simp only [Option.getD_some]
  have e3 : Flt.tot (s ^^ s) (m * m) (p + p) (t ^^ t) (n * n) (q + q) (-298) = Flt.sv s m * 2 ^ (p + 149).toNat * (Flt.sv s m * 2 ^ (p + 149).toNat) + Flt.sv t n * 2 ^ (q + 149).toNat * (Flt.sv t n * 2 ^ (q + 149).toNat) := by
    unfold Flt.tot
    rw [prod_vl l1 l1, prod_vl l2 l2]
  rw [e3]
  generalize Flt.sv s m * 2 ^ (p + 149).toNat = x
  generalize Flt.sv t n * 2 ^ (q + 149).toNat = y
  have hx : 0 ≤ x * x := by
    rcases Int.le_total 0 x with h | h
    · exact Int.mul_nonneg h h
    · exact Int.mul_nonneg_of_nonpos_of_nonpos h h
  have hy : 0 ≤ y * y := by
    rcases Int.le_total 0 y with h | h
    · exact Int.mul_nonneg h h
    · exact Int.mul_nonneg_of_nonpos_of_nonpos h h
  unfold Flt.wordOf
  have hb : (if x * x + y * y = 0 then ((s ^^ s) && (t ^^ t)) else decide (x * x + y * y < 0)) = false := by
    split
    · simp
    · exact decide_eq_false (by omega)
  rw [hb]

/-- A square is a number of at least 0; how great it is at least. -/
theorem nsq_word {z : Cx} {k : Nat} (h : CB k z) (hk : 2 * k + 1 ≤ 127) :
    nsq z < 2139095040 ∧ ∀ (v : Int) (j : Int), (Vl z.re v ∨ Vl z.im v) → -149 ≤ j → j ≤ 127 → 2 ^ (j + 298).toNat ≤ v.natAbs * v.natAbs → Flt.rung Ieee.single 1 j ≤ nsq z := by
  obtain ⟨⟨a, b, ha, hb, g⟩, hB⟩ := sq_ok h hk
  obtain ⟨m, e, hlow, hn⟩ := nr_more _ _ (by omega) (by omega) g
  have e1 : nsq z = Flt.rung Ieee.single m e := by
    unfold nsq ex
    rw [ad_sq ha hb]
    unfold nr
    rw [(hn false).1]
    rfl
  have e2 : mag (nsq z) = nsq z := by
    rw [e1]
    exact (mag_S false m e).2
  refine ⟨?_, ?_⟩
  · have := of_decide_eq_true (bd_fin hB (by omega))
    omega
  · intro v j hv h1 h2 hj
    rw [e1]
    refine hlow j h1 h2 (Nat.le_trans hj ?_)
    have sq : ∀ x : Int, x * x = ((x.natAbs * x.natAbs : Nat) : Int) := by
      intro x; rw [Int.natCast_mul]; exact (Int.natAbs_mul_self' x).symm
    have same : ∀ {x : Nat} {u u' : Int}, Vl x u → Vl x u' → u.natAbs = u'.natAbs := by
      rintro x u u' ⟨s, m, p, rfl, hf, rfl⟩ ⟨t, n, q, he, hg, rfl⟩
      rw [Int.natAbs_mul, Int.natAbs_mul, sv_abs, sv_abs, Int.natAbs_pow, Int.natAbs_pow]
      have r1 : Flt.rung Ieee.single m p = Flt.rung Ieee.single n q := by
        rw [← (mag_S s m p).2, ← (mag_S t n q).2, he]
      have l1 := le_of_rung Ieee.single (by decide) m n p q (-149) hf hg (fitS_low hf) (fitS_low hg) (by omega)
      have l2 := le_of_rung Ieee.single (by decide) n m q p (-149) hg hf (fitS_low hg) (fitS_low hf) (by omega)
      have e1 : (p - -149).toNat = (p + 149).toNat := by congr 1
      have e2 : (q - -149).toNat = (q + 149).toNat := by congr 1
      rw [e1, e2] at l1 l2
      exact Nat.le_antisymm l1 l2
    have tot : (a * a + b * b).natAbs = a.natAbs * a.natAbs + b.natAbs * b.natAbs := by
      rw [sq a, sq b, ← Int.natCast_add, Int.natAbs_natCast]
    rw [tot]
    rcases hv with hv | hv
    · rw [same hv ha]; exact Nat.le_add_right _ _
    · rw [same hv hb]; exact Nat.le_add_left _ _

theorem word_is (x : Nat) (hx : x < 2139095040) : ∃ m p, x = S false m p ∧ Flt.Fit Ieee.single m p ∧ Flt.rung Ieee.single m p = x := by
  obtain ⟨h1, h2⟩ := S_place x hx
  rcases Nat.lt_or_ge x 8388608 with h | h
  · exact ⟨_, _, (h1 h).2.symm, (h1 h).1, (h1 h).2⟩
  · exact ⟨_, _, (h2 h).2.symm, (h2 h).1, (h2 h).2⟩

theorem sm_up (x y : Nat) (hx : x < 2139095040) (hy : y < 2139095040) : x ≤ sm x y ∧ y ≤ sm x y ∧ mag (sm x y) = sm x y := by
  obtain ⟨m, p, e1, f1, r1⟩ := word_is x hx
  obtain ⟨n, q, e2, f2, r2⟩ := word_is y hy
  have l1 := fitS_low f1
  have l2 := fitS_low f2
  have := Flt.add_fit Ieee.single (by decide) false false m n p q (-149) f1 f2 l1 l2
  have h3 : floatBits .add .f32 (S false m p) (S false n q) = some (Flt.wordOf Ieee.single (false && false) (Flt.sv false m * 2 ^ (p + 149).toNat + Flt.sv false n * 2 ^ (q + 149).toNat) (-149)) := this
  have e3 : sm x y = Flt.wordOf Ieee.single (false && false) (Flt.sv false m * 2 ^ (p + 149).toNat + Flt.sv false n * 2 ^ (q + 149).toNat) (-149) := by
    rw [e1, e2]; unfold sm; rw [h3]; rfl
  have c1 : Flt.sv false m * 2 ^ (p + 149).toNat + Flt.sv false n * 2 ^ (q + 149).toNat = ((m * 2 ^ (p + 149).toNat + n * 2 ^ (q + 149).toNat : Nat) : Int) := by simp [Flt.sv]
  rw [c1] at e3
  unfold Flt.wordOf at e3
  rw [Int.natAbs_natCast] at e3
  have hb : (if ((m * 2 ^ (p + 149).toNat + n * 2 ^ (q + 149).toNat : Nat) : Int) = 0 then (false && false) else decide (((m * 2 ^ (p + 149).toNat + n * 2 ^ (q + 149).toNat : Nat) : Int) < 0)) = false := by
    split
    · rfl
    · exact decide_eq_false (by omega)
  rw [hb] at e3
  have e4 : sm x y = Flt.rung Ieee.single (m * 2 ^ (p + 149).toNat + n * 2 ^ (q + 149).toNat) (-149) := e3
  have k1 : (p - -149).toNat = (p + 149).toNat := by congr 1
  have k2 : (q - -149).toNat = (q + 149).toNat := by congr 1
  refine ⟨?_, ?_, ?_⟩
  · rw [e4, ← r1]
    exact Flt.rung_mono Ieee.single _ _ p (-149) (-149) l1 (Int.le_refl _) (by rw [Int.sub_self, Int.toNat_zero, Nat.pow_zero, k1]; omega)
  · rw [e4, ← r2]
    exact Flt.rung_mono Ieee.single _ _ q (-149) (-149) l2 (Int.le_refl _) (by rw [Int.sub_self, Int.toNat_zero, Nat.pow_zero, k2]; omega)
  · rw [e4]
    exact (mag_S false _ _).2

/-- q of a table is a number of at least 0; how great it is at least. -/
theorem q_word {t : Tb} {k : Nat} (h : TB k t) (hk : 2 * k + 2 ≤ 127) :
    qOf t < 2139095040 ∧ ∀ (v : Int) (j : Int), (Vl t.a.re v ∨ Vl t.a.im v ∨ Vl t.b.re v ∨ Vl t.b.im v) → -149 ≤ j → j ≤ 127 → 2 ^ (j + 298).toNat ≤ v.natAbs * v.natAbs → Flt.rung Ieee.single 1 j ≤ qOf t := by
  obtain ⟨a1, a2⟩ := nsq_word h.1 (by omega)
  obtain ⟨b1, b2⟩ := nsq_word h.2.1 (by omega)
  obtain ⟨u1, u2, u3⟩ := sm_up _ _ a1 b1
  have f := of_decide_eq_true (bd_fin (q_bd h hk).2 (by omega))
  have hq : qOf t = sm (nsq t.a) (nsq t.b) := rfl
  refine ⟨by rw [hq] at f ⊢; omega, ?_⟩
  intro v j hv h1 h2 hj
  rw [hq]
  rcases hv with hv | hv | hv | hv
  · exact Nat.le_trans (a2 v j (.inl hv) h1 h2 hj) u1
  · exact Nat.le_trans (a2 v j (.inr hv) h1 h2 hj) u1
  · exact Nat.le_trans (b2 v j (.inl hv) h1 h2 hj) u2
  · exact Nat.le_trans (b2 v j (.inr hv) h1 h2 hj) u2

/-- How great a root is at least. -/
theorem root_low (q : Nat) (i : Int) (hq : posW q = true) (h1 : -75 ≤ i) (h2 : i ≤ 63) (h : -149 ≤ 2 * i → Flt.rung Ieee.single 1 (2 * i) ≤ q) :
    Flt.rung Ieee.single 1 i ≤ rootW q ∧ rootW q < 2139095040 := by
  obtain ⟨m, e, hx, hf, hm, hm1, e1, e2, hr⟩ := pos_form q hq
  obtain ⟨k1, k2, k3, k4⟩ := Flt.rk_facts m e hm hm1 e1 e2
  obtain ⟨n1, n2, n3⟩ := Flt.rN_facts m e hm hm1 e1 e2
  obtain ⟨q1, q2⟩ := Flt.isqrt_spec (Flt.rN m e)
  obtain ⟨r1, r2, r3, r4, r5, r6, r7, r8⟩ := Flt.rR_of (Flt.rN m e) _ n1 n2 n3 q1 q2
  have hR : Flt.rR m e = Flt.isqrt (Flt.rN m e) + Flt.isqrt (Flt.rN m e) % 2 := rfl
  rw [hr]
  -- the number
  have hval : 2 ^ (2 * i + 150).toNat ≤ m * 2 ^ (e + 150).toNat := by
    rcases Int.lt_or_le (2 * i) (-149) with hi | hi
    · have : (2 * i + 150).toNat = 0 := by omega
      rw [this, Nat.pow_zero]
      exact Nat.mul_pos (by omega) (Nat.two_pow_pos _)
    · have hrq : Flt.rung Ieee.single m e = q := hx.symm
      have := le_of_rung Ieee.single (by decide) 1 m (2 * i) e (-150) (Flt.fit_lt _ _ _ 1 (by decide) (by rw [Flt.s_lp]; omega) (by decide) (by rw [topS]; omega)) hf (by omega) (by omega) (by rw [hrq]; exact h hi)
      rw [Nat.one_mul] at this
      have a1 : (2 * i - -150).toNat = (2 * i + 150).toNat := by congr 1
      have a2 : (e - -150).toNat = (e + 150).toNat := by congr 1
      rw [a1, a2] at this
      exact this
  obtain ⟨n, j, fn, hn, _⟩ := Flt.fit_even (Flt.rR m e) (Flt.rk m e) (by rw [hR]; exact r3) (by rw [hR]; exact r4) (by rw [hR]; exact r5) (by omega) (by omega)
  have hS : S false (Flt.rR m e) (-Flt.rk m e) = S false n j := hn
  have hfin : S false (Flt.rR m e) (-Flt.rk m e) < 2139095040 := by
    rw [hS]
    have g := vl_num ⟨false, n, j, rfl, fn, rfl⟩
    have g2 := of_decide_eq_true g.2
    have g3 := (mag_S false n j).2
    have g4 : S false n j = Flt.rung Ieee.single n j := rfl
    omega
  refine ⟨?_, hfin⟩
  show Flt.rung Ieee.single 1 i ≤ Flt.rung Ieee.single (Flt.rR m e) (-Flt.rk m e)
  refine Flt.rung_mono Ieee.single 1 _ i _ (-200) (by omega) (by omega) ?_
  rw [Nat.one_mul]
  have key : ∀ a : Nat, 2 ^ a ≤ Flt.rR m e → (i + Flt.rk m e ≤ a) → 2 ^ (i - -200).toNat ≤ Flt.rR m e * 2 ^ (-Flt.rk m e - -200).toNat := by
    intro a ha hi
    calc 2 ^ (i - -200).toNat ≤ 2 ^ (a + (-Flt.rk m e - -200).toNat) := Nat.pow_le_pow_right (by omega) (by omega)
      _ = 2 ^ a * 2 ^ (-Flt.rk m e - -200).toNat := Nat.pow_add _ _ _
      _ ≤ _ := Nat.mul_le_mul_right _ ha
  rcases Int.le_total (i + Flt.rk m e) 24 with hi | hi
  · exact key 24 (by rw [hR]; exact r4) hi
  · obtain ⟨a, ha⟩ : ∃ a : Nat, i + Flt.rk m e = a := ⟨(i + Flt.rk m e).toNat, by omega⟩
    refine key a ?_ (by omega)
    have hN : 2 ^ (a + a) ≤ Flt.rN m e := by
      obtain ⟨c, hc⟩ : ∃ c : Nat, c = 350 := ⟨_, rfl⟩
      have hp : 0 < 2 ^ c := Nat.two_pow_pos c
      refine Nat.le_of_mul_le_mul_right ?_ hp
      have s1 : 2 ^ (a + a) * 2 ^ c = 2 ^ (2 * i + 150).toNat * 2 ^ (2 * Flt.rk m e + 200).toNat := by
        rw [← Nat.pow_add, ← Nat.pow_add]; congr 1; omega
      have s2 : Flt.rN m e * 2 ^ c = m * 2 ^ (e + 150).toNat * 2 ^ (2 * Flt.rk m e + 200).toNat := by
        unfold Flt.rN
        rw [Nat.mul_assoc, Nat.mul_assoc, ← Nat.pow_add, ← Nat.pow_add]; congr 2; omega
      rw [s1, s2]
      exact Nat.mul_le_mul_right _ hval
    have : 2 ^ a ≤ Flt.isqrt (Flt.rN m e) := by
      rcases Nat.lt_or_ge (Flt.isqrt (Flt.rN m e)) (2 ^ a) with g | g
      · exfalso
        have : (Flt.isqrt (Flt.rN m e) + 1) * (Flt.isqrt (Flt.rN m e) + 1) ≤ 2 ^ a * 2 ^ a := Nat.mul_self_le_mul_self g
        rw [← Nat.pow_add] at this
        omega
      · exact g
    rw [hR]; omega

/-- A quotient that stays below a power of two. -/
theorem div_bd {s : Bool} {m n : Nat} {p q : Int} (k b : Int) (hf : Flt.Fit Ieee.single m p) (hg : Flt.Fit Ieee.single n q) (hn : n ≠ 0) (h1 : -126 ≤ k) (h2 : k ≤ 127) (hb1 : b ≤ p) (hb2 : b ≤ q + k)
    (h : m * 2 ^ (p - b).toNat ≤ n * 2 ^ (q + k - b).toNat) : ∃ r, floatBits .quo .f32 (S s m p) (S false n q) = some r ∧ Bd k r := by
  obtain ⟨u, hu⟩ := Flt.read_fit Ieee.single (by decide) s m p hf
  obtain ⟨v, hv⟩ := Flt.read_fit Ieee.single (by decide) false n q hg
  have hN : n * 2 ^ v ≠ 0 := Nat.mul_ne_zero hn (by have := Nat.two_pow_pos v; omega)
  show ∃ r, Ieee.single.div (Ieee.single.nearest s m p) (Ieee.single.nearest false n q) = some r ∧ Bd k r
  unfold Ieee.Format.div
  rw [hu, hv]
  simp only [Ieee.Datum.quotient]
  rw [if_neg hN]
  simp only [Option.map_some, Ieee.Format.write]
  refine ⟨_, rfl, ?_⟩
  have hfb : Ieee.single.fractionBits = 23 := rfl
  rw [hfb]
  generalize hmore : 23 + 2 + (n * 2 ^ v).log2 - (m * 2 ^ u).log2 = more
  -- the quotient's digits
  obtain ⟨E, hE, hle⟩ : ∃ E : Int, E = k - (p - u) + (q - v) + more ∧ (m = 0 ∨ 0 ≤ E) := by
    refine ⟨_, rfl, ?_⟩
    by_cases h0 : m = 0
    · exact .inl h0
    · right
      have hM : m * 2 ^ u ≠ 0 := Nat.mul_ne_zero h0 (by have := Nat.two_pow_pos u; omega)
      have l1 := Flt.log2_mul_pow m u h0
      have l2 := Flt.log2_mul_pow n v hn
      -- logs of the hypothesis
      have g1 := Nat.log2_self_le h0
      have g2 := Nat.lt_log2_self (n := n)
      have g3 : 2 ^ (m.log2 + (p - b).toNat) < 2 ^ (n.log2 + 1 + (q + k - b).toNat) := by
        rw [Nat.pow_add, Nat.pow_add]
        calc 2 ^ m.log2 * 2 ^ (p - b).toNat ≤ m * 2 ^ (p - b).toNat := Nat.mul_le_mul_right _ g1
          _ ≤ n * 2 ^ (q + k - b).toNat := h
          _ < 2 ^ (n.log2 + 1) * 2 ^ (q + k - b).toNat := Nat.mul_lt_mul_of_pos_right g2 (Nat.two_pow_pos _)
      have g4 := (Nat.pow_lt_pow_iff_right (a := 2) (by omega)).1 g3
      omega
  by_cases h0 : m = 0
  · subst h0
    have e : 2 * ((0 * 2 ^ u) <<< more / (n * 2 ^ v)) + ((0 * 2 ^ u) <<< more % (n * 2 ^ v) != 0).toNat = 0 := by simp
    rw [e]
    show Bd k (S (s ^^ false) 0 _)
    rw [S_zero]
    have := mag_word (s ^^ false) 0 (by omega)
    exact ⟨this.1, by rw [this.2]; omega⟩
  · have hE0 : 0 ≤ E := by rcases hle with h | h; · exact absurd h h0
                           · exact h
    obtain ⟨x, hx⟩ : ∃ x : Nat, E = x := ⟨E.toNat, by omega⟩
    have hD : (m * 2 ^ u) <<< more ≤ n * 2 ^ v * 2 ^ x := by
      rw [Nat.shiftLeft_eq]
      refine Nat.le_of_mul_le_mul_right ?_ (Nat.two_pow_pos (p - b).toNat)
      have s1 : m * 2 ^ u * 2 ^ more * 2 ^ (p - b).toNat = m * 2 ^ (p - b).toNat * 2 ^ (u + more) := by rw [Nat.pow_add]; ac_rfl
      have s2 : n * 2 ^ v * 2 ^ x * 2 ^ (p - b).toNat = n * 2 ^ (q + k - b).toNat * 2 ^ (u + more) := by
        rw [Nat.mul_assoc, Nat.mul_assoc, Nat.mul_assoc, ← Nat.pow_add, ← Nat.pow_add, ← Nat.pow_add]; congr 2; omega
      rw [s1, s2]
      exact Nat.mul_le_mul_right _ h
    generalize (m * 2 ^ u) <<< more = Dv at *
    generalize n * 2 ^ v = N at *
    have hNp : 0 < N := by omega
    have hq : 2 * (Dv / N) + (Dv % N != 0).toNat ≤ 2 ^ (x + 1) := by
      rw [Nat.pow_succ]
      by_cases hr : Dv % N = 0
      · have : Dv / N ≤ 2 ^ x := Nat.div_le_of_le_mul hD
        simp [hr]; omega
      · have hlt : Dv < N * 2 ^ x := by
          rcases Nat.lt_or_ge Dv (N * 2 ^ x) with g | g
          · exact g
          · exfalso
            have : Dv = N * 2 ^ x := by omega
            rw [this, Nat.mul_mod_right] at hr
            exact hr rfl
        have : Dv / N < 2 ^ x := Nat.div_lt_of_lt_mul hlt
        have hb : ∀ c : Bool, c.toNat ≤ 1 := by intro c; cases c <;> decide
        have := hb (Dv % N != 0)
        omega
    refine bd_mk _ _ _ k _ h1 h2 (Int.le_refl _) (by omega) ?_
    rw [Int.sub_self, Int.toNat_zero, Nat.pow_zero, Nat.mul_one]
    refine Nat.le_trans hq (Nat.pow_le_pow_right (by omega) (by omega))

/-- The quotient of two float32. -/
def qu (x n : Nat) : Nat := (floatBits .quo .f32 x n).getD 0

/-- The parts of a table's first row by the root of its q: at most 2. -/
theorem part_quot {t : Tb} {k : Nat} (h : TB k t) (hk : 2 * k + 2 ≤ 127) (hq : posW (qOf t) = true) {x : Nat} {v : Int} (hx : Vl x v) (hb : v.natAbs ≤ 2 ^ (k + 149))
    (hv : Vl t.a.re v ∨ Vl t.a.im v ∨ Vl t.b.re v ∨ Vl t.b.im v) : floatBits .quo .f32 x (rootW (qOf t)) = some (qu x (rootW (qOf t))) ∧ Bd 1 (qu x (rootW (qOf t))) := by
  obtain ⟨_, hlow⟩ := q_word h hk
  -- the scale of the part
  obtain ⟨i, i1, i2, i3, i4⟩ : ∃ i : Int, -75 ≤ i ∧ i ≤ 63 ∧ v.natAbs ≤ 2 ^ (i + 150).toNat ∧ (-149 ≤ 2 * i → 2 ^ (2 * i + 298).toNat ≤ v.natAbs * v.natAbs) := by
    by_cases h0 : v.natAbs = 0
    · exact ⟨-75, by omega, by omega, by rw [h0]; exact Nat.zero_le _, by intro; omega⟩
    · have l1 := Nat.log2_self_le h0
      have l2 := Nat.lt_log2_self (n := v.natAbs)
      have l3 : v.natAbs.log2 ≤ k + 149 := by
        have : 2 ^ v.natAbs.log2 ≤ 2 ^ (k + 149) := Nat.le_trans l1 hb
        exact (Nat.pow_le_pow_iff_right (a := 2) (by omega)).1 this
      rcases Nat.lt_or_ge v.natAbs.log2 75 with hL | hL
      · refine ⟨-75, by omega, by omega, ?_, by intro; omega⟩
        refine Nat.le_trans (Nat.le_of_lt l2) (Nat.pow_le_pow_right (by omega) (by omega))
      · refine ⟨(v.natAbs.log2 : Int) - 149, by omega, by omega, ?_, fun _ => ?_⟩
        · refine Nat.le_trans (Nat.le_of_lt l2) (Nat.pow_le_pow_right (by omega) (by omega))
        · have : (2 * ((v.natAbs.log2 : Int) - 149) + 298).toNat = v.natAbs.log2 + v.natAbs.log2 := by omega
          rw [this, Nat.pow_add]
          exact Nat.mul_le_mul l1 l1
  obtain ⟨r1, r2⟩ := root_low (qOf t) i hq i1 i2 (fun hi => hlow v (2 * i) hv hi (by omega) (i4 hi))
  generalize rootW (qOf t) = r at *
  obtain ⟨n, q, hn, hg, hrq⟩ := word_is r r2
  obtain ⟨s, m, p, rfl, hf, rfl⟩ := hx
  have lp := fitS_low hf
  have lq := fitS_low hg
  have hfit1 : Flt.Fit Ieee.single 1 i := Flt.fit_lt _ _ _ 1 (by decide) (by rw [Flt.s_lp]; omega) (by decide) (by rw [topS]; omega)
  have hle := le_of_rung Ieee.single (by decide) 1 n i q (-149) hfit1 hg (by omega) lq (by rw [hrq]; exact r1)
  rw [Nat.one_mul] at hle
  have hn0 : n ≠ 0 := by
    rintro rfl
    rw [Nat.zero_mul] at hle
    have := Nat.two_pow_pos (i - -149).toNat
    omega
  rw [Int.natAbs_mul, sv_abs, Int.natAbs_pow] at i3
  have hdiv := div_bd (s := s) 1 (-149) hf hg hn0 (by omega) (by omega) lp (by omega) (by
    have a1 : (p - -149).toNat = (p + 149).toNat := by congr 1
    have a2 : (q + 1 - -149).toNat = (q - -149).toNat + 1 := by omega
    have a3 : (i + 150).toNat = (i - -149).toNat + 1 := by omega
    rw [a1, a2, Nat.pow_succ, ← Nat.mul_assoc]
    rw [a3, Nat.pow_succ] at i3
    have a4 : m * 2 ^ (p + 149).toNat ≤ 2 ^ (i - -149).toNat * 2 := i3
    omega)
  obtain ⟨u, hu, hB⟩ := hdiv
  rw [← hn] at hu
  have e : qu (S s m p) r = u := by unfold qu; rw [hu]; rfl
  rw [e]
  exact ⟨hu, hB⟩

end Go.Proofs.Ytaghfffbhgpalaa
