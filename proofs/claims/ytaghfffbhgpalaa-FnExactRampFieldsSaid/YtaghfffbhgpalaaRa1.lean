/- Ramps: the numbers of their fields: none of them comes out as what is no number and no infinity. -/
import Derived.Test.YtaghfffbhgpalaaG0
import Derived.Test.YtaghfffbhgpalaaKat
import Derived.Laws.Cover2
namespace Go.Proofs.Ytaghfffbhgpalaa
open Go.RowKit

/-- A quotient that does not fall below a power of two. -/
theorem div_lo {s : Bool} {m n : Nat} {p q : Int} (j b : Int) (hf : Flt.Fit Ieee.single m p) (hg : Flt.Fit Ieee.single n q) (hm : m ≠ 0) (hn : n ≠ 0) (hb1 : b ≤ p) (hb2 : b ≤ q + j)
    (h : n * 2 ^ (q + j - b).toNat ≤ m * 2 ^ (p - b).toNat) (h2 : m * 2 ^ (p - b).toNat ≤ n * 2 ^ (q + j + 20 - b).toNat) : ∃ r, floatBits .quo .f32 (S s m p) (S false n q) = some r ∧ Lo j r := by
  obtain ⟨u, hu⟩ := Flt.read_fit Ieee.single (by decide) s m p hf
  obtain ⟨v, hv⟩ := Flt.read_fit Ieee.single (by decide) false n q hg
  have hN : n * 2 ^ v ≠ 0 := Nat.mul_ne_zero hn (by have := Nat.two_pow_pos v; omega)
  have hM : m * 2 ^ u ≠ 0 := Nat.mul_ne_zero hm (by have := Nat.two_pow_pos u; omega)
  show ∃ r, Ieee.single.div (Ieee.single.nearest s m p) (Ieee.single.nearest false n q) = some r ∧ Lo j r
  unfold Ieee.Format.div
  rw [hu, hv]
  simp only [Ieee.Datum.quotient]
  rw [if_neg hN]
  simp only [Option.map_some, Ieee.Format.write]
  refine ⟨_, rfl, ?_⟩
  have hfb : Ieee.single.fractionBits = 23 := rfl
  rw [hfb]
  have l1 := Flt.log2_mul_pow m u hm
  have l2 := Flt.log2_mul_pow n v hn
  generalize hmore : 23 + 2 + (n * 2 ^ v).log2 - (m * 2 ^ u).log2 = more
  have hE0 : 0 ≤ j - (p - u) + (q - v) + more := by
    have g1 := Nat.log2_self_le hm
    have g2 := Nat.lt_log2_self (n := n)
    have g3 : 2 ^ (m.log2 + (p - b).toNat) < 2 ^ (n.log2 + 1 + (q + j + 20 - b).toNat) := by
      rw [Nat.pow_add, Nat.pow_add]
      calc 2 ^ m.log2 * 2 ^ (p - b).toNat ≤ m * 2 ^ (p - b).toNat := Nat.mul_le_mul_right _ g1
        _ ≤ n * 2 ^ (q + j + 20 - b).toNat := h2
        _ < 2 ^ (n.log2 + 1) * 2 ^ (q + j + 20 - b).toNat := Nat.mul_lt_mul_of_pos_right g2 (Nat.two_pow_pos _)
    have g4 := (Nat.pow_lt_pow_iff_right (a := 2) (by omega)).1 g3
    omega
  obtain ⟨x, hx⟩ : ∃ x : Nat, j - (p - u) + (q - v) + more = x := ⟨(j - (p - u) + (q - v) + more).toNat, by omega⟩
  have hD : n * 2 ^ v * 2 ^ x ≤ (m * 2 ^ u) <<< more := by
    rw [Nat.shiftLeft_eq]
    refine Nat.le_of_mul_le_mul_right ?_ (Nat.two_pow_pos (p - b).toNat)
    have s1 : m * 2 ^ u * 2 ^ more * 2 ^ (p - b).toNat = m * 2 ^ (p - b).toNat * 2 ^ (u + more) := by rw [Nat.pow_add]; ac_rfl
    have s2 : n * 2 ^ v * 2 ^ x * 2 ^ (p - b).toNat = n * 2 ^ (q + j - b).toNat * 2 ^ (u + more) := by
      rw [Nat.mul_assoc, Nat.mul_assoc, Nat.mul_assoc, ← Nat.pow_add, ← Nat.pow_add, ← Nat.pow_add]; congr 2; omega
    rw [s1, s2]
    exact Nat.mul_le_mul_right _ h
  generalize (m * 2 ^ u) <<< more = Dv at *
  generalize n * 2 ^ v = N at *
  have hq : 2 ^ (x + 1) ≤ 2 * (Dv / N) + (Dv % N != 0).toNat := by
    rw [Nat.pow_succ]
    have : 2 ^ x ≤ Dv / N := (Nat.le_div_iff_mul_le (by omega)).2 (by rw [Nat.mul_comm]; exact hD)
    omega
  show Lo j (S (s ^^ false) _ _)
  unfold Lo
  rw [(mag_S _ _ _).2]
  refine Flt.rung_mono Ieee.single 1 _ j _ (p - u - (q - v) - more - 1) (by omega) (Int.le_refl _) ?_
  rw [Int.sub_self, Int.toNat_zero, Nat.pow_zero, Nat.mul_one, Nat.one_mul]
  exact Nat.le_trans (Nat.pow_le_pow_right (by omega) (by omega)) hq

/-- A word that is a number or an infinity. -/
def NN (u : Nat) : Prop := u < 4294967296 ∧ ((∃ s m e, Ieee.single.read u = .number s m e) ∨ ∃ s, Ieee.single.read u = .infinity s)

theorem not_nan {z : Nat} (h : mag z ≤ 2139095040) (s : Bool) (t : Nat) : Ieee.single.read z ≠ .nan s t := by
  intro e
  have hi : Ieee.single.infRung = 2139095040 := by decide +kernel
  unfold mag at h
  unfold Ieee.Format.read at e
  rw [Flt.s_sw, hi] at e
  dsimp only at e
  split at e
  · cases e
  · split at e
    · cases e
    · split at e
      · cases e
      · omega

theorem nn_mk {z : Nat} (hz : z < 4294967296) (h : mag z ≤ 2139095040) : NN z := by
  refine ⟨hz, ?_⟩
  rcases read_cases z hz with ⟨_, h1⟩ | ⟨_, h1 | ⟨s, t, h1⟩⟩
  · exact .inl h1
  · exact .inr h1
  · exact absurd h1 (not_nan h s t)

theorem near_up (f : Ieee.Format) (m : Nat) (e : Int) : Flt.rung f m e ≤ f.infRung := by
  show f.nearest false m e ≤ f.infRung
  unfold Ieee.Format.nearest
  split
  · exact Nat.zero_le _
  · exact Nat.min_le_right _ _

theorem nn_num (s : Bool) (m : Nat) (e : Int) : NN (Ieee.single.write (.number s m e)) := by
  have := mag_S s m e
  exact nn_mk this.1 (by have h := near_up Ieee.single m e; have h' := this.2; show mag (S s m e) ≤ _; rw [h']; exact h)

theorem nn_inf (s : Bool) : NN (Ieee.single.write (.infinity s)) := by
  cases s
  · exact nn_mk (by decide +kernel) (by decide +kernel)
  · exact nn_mk (by decide +kernel) (by decide +kernel)

theorem num_read {x : Nat} (h : Num x) : ∃ s m e, Ieee.single.read x = .number s m e := by
  obtain ⟨s, m, e, hr, _, _⟩ := fin_fit x h.1 h.2
  exact ⟨s, m, e, hr⟩

theorem sub_nn {x y : Nat} (hx : Num x) (hy : Num y) : ∃ z, floatBits .sub .f32 x y = some z ∧ NN z := by
  obtain ⟨s, m, e, h1⟩ := num_read hx
  obtain ⟨t, n, i, h2⟩ := num_read hy
  show ∃ z, Ieee.single.sub x y = some z ∧ NN z
  unfold Ieee.Format.sub
  rw [h1, h2]
  exact ⟨_, rfl, nn_num _ _ _⟩

theorem add_nn' {x y : Nat} (hx : Num x) (hy : NN y) : ∃ z, floatBits .add .f32 x y = some z ∧ NN z := by
  obtain ⟨s, m, e, h1⟩ := num_read hx
  show ∃ z, Ieee.single.add x y = some z ∧ NN z
  unfold Ieee.Format.add
  rcases hy.2 with ⟨t, n, i, h2⟩ | ⟨t, h2⟩
  · rw [h1, h2]
    exact ⟨_, rfl, nn_num _ _ _⟩
  · rw [h1, h2]
    exact ⟨_, rfl, nn_inf _⟩

theorem mul_nn {x t : Nat} (hx : NN x) (ht : Num t) (h0 : mag t ≠ 0) : ∃ z, floatBits .mul .f32 x t = some z ∧ NN z := by
  obtain ⟨s, m, e, h1, _, h2⟩ := fin_fit t ht.1 ht.2
  show ∃ z, Ieee.single.mul x t = some z ∧ NN z
  unfold Ieee.Format.mul
  rcases hx.2 with ⟨r, n, i, h3⟩ | ⟨r, h3⟩
  · rw [h1, h3]
    exact ⟨_, rfl, nn_num _ _ _⟩
  · have hm : m ≠ 0 := by
      rintro rfl
      apply h0
      rw [h2, (mag_S s 0 e).2, Flt.rung_zero]
    rw [h1, h3]
    simp only [Ieee.Datum.product]
    rw [if_neg hm]
    exact ⟨_, rfl, nn_inf _⟩

/-- The t of a ramp. -/
def rampT (n i : Nat) : Nat := (floatBits .quo .f32 (floatOfInt .f32 (2 * (i : Int) + 1)) (floatOfInt .f32 (2 * (n : Int)))).getD 0

theorem int_word (k : Nat) : floatOfInt .f32 (k : Int) = S false k 0 := by
  unfold floatOfInt FloatKind.nearest
  have : ¬ ((k : Int) < 0) := by omega
  simp [this]
  rfl

theorem int_fit (k : Nat) (h : k ≤ 1024) : Flt.Fit Ieee.single k 0 := Flt.fit_lt _ _ _ 11 (by show k < 2 ^ 24; omega) (by rw [Flt.s_lp]; omega) (by omega) (by rw [topS]; omega)

theorem rampT_ok {n i : Nat} (hn : n ≤ 300) (hi : i < n) : floatBits .quo .f32 (floatOfInt .f32 (2 * (i : Int) + 1)) (floatOfInt .f32 (2 * (n : Int))) = some (rampT n i) ∧ Num (rampT n i) ∧ mag (rampT n i) ≠ 0 := by
  have e1 : (2 * (i : Int) + 1) = ((2 * i + 1 : Nat) : Int) := by omega
  have e2 : (2 * (n : Int)) = ((2 * n : Nat) : Int) := by omega
  unfold rampT
  rw [e1, e2, int_word, int_word]
  have f1 := int_fit (2 * i + 1) (by omega)
  have f2 := int_fit (2 * n) (by omega)
  obtain ⟨r, h1, h2⟩ := div_lo (s := false) (-10) (-10) f1 f2 (by omega) (by omega) (by omega) (by omega) (by simp; omega) (by simp; omega)
  obtain ⟨r', h3, h4⟩ := div_bd (s := false) 0 0 f1 f2 (by omega) (by omega) (by omega) (by omega) (by omega) (by simp; omega)
  obtain rfl := Option.some.inj (h1.symm.trans h3)
  rw [h1]
  refine ⟨rfl, ⟨h4.1, bd_fin h4 (by omega)⟩, ?_⟩
  unfold Lo at h2
  have h5 : Flt.rung Ieee.single 1 (-10) ≠ 0 := by decide +kernel
  show mag r ≠ 0
  omega

/-- A number of a field of a ramp. -/
def between (a b t : Nat) : Nat := (opO .add (some a) (opO .mul (opO .sub (some b) (some a)) (some t))).getD 0

/-- The three operations. -/
structure Btw (a b t u v x : Nat) : Prop where
  h0 : floatBits .sub .f32 b a = some u
  h1 : floatBits .mul .f32 u t = some v
  h2 : floatBits .add .f32 a v = some x
  e : between a b t = x
  lt : x < 4294967296

theorem btw_of {a b t : Nat} (ha : Num a) (hb : Num b) (ht : Num t) (h0 : mag t ≠ 0) : ∃ u v x, Btw a b t u v x := by
  obtain ⟨u, h1, n1⟩ := sub_nn hb ha
  obtain ⟨v, h2, n2⟩ := mul_nn n1 ht h0
  obtain ⟨x, h3, n3⟩ := add_nn' ha n2
  refine ⟨u, v, x, h1, h2, h3, ?_, n3.1⟩
  unfold between opO
  simp only [h1, h2, h3]
  rfl

end Go.Proofs.Ytaghfffbhgpalaa
