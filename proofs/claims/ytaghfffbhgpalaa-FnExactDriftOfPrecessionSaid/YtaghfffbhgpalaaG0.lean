/- Steps: sizes of products, sums and quotients of float32. -/
import Derived.Test.YtaghfffbhgpalaaKam
import Derived.Test.YtaghfffbhgpalaaRq
namespace Go.Proofs.Ytaghfffbhgpalaa
open Go.RowKit

theorem fin_inf (s : Bool) : fin (Ieee.single.write (.infinity s)) = false := by cases s <;> decide +kernel

/-- A word by what it reads as. -/
theorem read_cases (x : Nat) (hx : x < 4294967296) : (fin x = true ∧ ∃ s m e, Ieee.single.read x = .number s m e) ∨ (fin x = false ∧ ((∃ s, Ieee.single.read x = .infinity s) ∨ ∃ s t, Ieee.single.read x = .nan s t)) := by
  cases hf : fin x
  · right
    obtain ⟨s, h | ⟨t, h⟩⟩ := big_read x hx hf
    · exact ⟨rfl, .inl ⟨s, h⟩⟩
    · exact ⟨rfl, .inr ⟨s, t, h⟩⟩
  · left
    obtain ⟨s, m, e, h, _, _⟩ := fin_fit x hx hf
    exact ⟨rfl, s, m, e, h⟩

theorem dat_fin {d : Option Ieee.Datum} {v : Nat} (h : d.map Ieee.single.write = some v) (hv : fin v = true) : ∀ s, d ≠ some (.infinity s) := by
  rintro s rfl
  simp only [Option.map_some, Option.some.injEq] at h
  rw [← h, fin_inf] at hv
  cases hv

theorem sum_fin {x y : Ieee.Datum} (h : ∀ s, x.sum y ≠ some (.infinity s)) (h' : x.sum y ≠ none) : (∃ s m e, x = .number s m e) ∧ ∃ s m e, y = .number s m e := by
  cases x <;> cases y <;> simp [Ieee.Datum.sum] at h h' ⊢
  exact absurd h' h

theorem opp_num {y : Ieee.Datum} (h : ∃ s m e, y.opposite = .number s m e) : ∃ s m e, y = .number s m e := by
  obtain ⟨s, m, e, h⟩ := h
  cases y <;> simp [Ieee.Datum.opposite] at h ⊢

theorem prod_fin {x y : Ieee.Datum} (h : ∀ s, x.product y ≠ some (.infinity s)) (h' : x.product y ≠ none) : (∃ s m e, x = .number s m e) ∧ ∃ s m e, y = .number s m e := by
  cases x <;> cases y <;> simp [Ieee.Datum.product] at h h' ⊢
  all_goals exact h' h

theorem num_fin {x : Nat} (hx : x < 4294967296) (h : ∃ s m e, Ieee.single.read x = .number s m e) : fin x = true := by
  obtain ⟨s, m, e, h⟩ := h
  rcases read_cases x hx with ⟨hf, _⟩ | ⟨_, ⟨s', h'⟩ | ⟨s', t', h'⟩⟩
  · exact hf
  · rw [h] at h'; cases h'
  · rw [h] at h'; cases h'

/-- What is a number comes of numbers. -/
theorem fin_of {op : BinOp} {x y v : Nat} (hop : op = .add ∨ op = .sub ∨ op = .mul) (hx : x < 4294967296) (hy : y < 4294967296) (h : floatBits op .f32 x y = some v) (hv : fin v = true) : fin x = true ∧ fin y = true := by
  have ne : ∀ {d : Option Ieee.Datum}, d.map Ieee.single.write = some v → d ≠ none := by rintro d h rfl; cases h
  rcases hop with rfl | rfl | rfl
  · have h : ((Ieee.single.read x).sum (Ieee.single.read y)).map Ieee.single.write = some v := h
    obtain ⟨a, b⟩ := sum_fin (dat_fin h hv) (ne h)
    exact ⟨num_fin hx a, num_fin hy b⟩
  · have h : ((Ieee.single.read x).sum (Ieee.single.read y).opposite).map Ieee.single.write = some v := h
    obtain ⟨a, b⟩ := sum_fin (dat_fin h hv) (ne h)
    exact ⟨num_fin hx a, num_fin hy (opp_num b)⟩
  · have h : ((Ieee.single.read x).product (Ieee.single.read y)).map Ieee.single.write = some v := h
    obtain ⟨a, b⟩ := prod_fin (dat_fin h hv) (ne h)
    exact ⟨num_fin hx a, num_fin hy b⟩

def LtO (o : Option Nat) : Prop := ∀ v, o = some v → v < 4294967296

theorem ltO_some {x : Nat} (h : x < 4294967296) : LtO (some x) := by rintro v ⟨⟩; exact h

theorem ltO_op {op : BinOp} {o p : Option Nat} : LtO (opO op o p) := fun _ h => opO_lt h

theorem finO_of {op : BinOp} {o p : Option Nat} (hop : op = .add ∨ op = .sub ∨ op = .mul) (ho : LtO o) (hp : LtO p) (h : finO (opO op o p) = true) : finO o = true ∧ finO p = true := by
  cases o with
  | none => cases h
  | some x =>
    cases p with
    | none => cases h
    | some y =>
      cases hz : floatBits op .f32 x y with
      | none => simp only [opO, hz, finO] at h; cases h
      | some z =>
        simp only [opO, hz, finO] at h
        exact fin_of hop (ho x rfl) (hp y rfl) hz h

theorem finO_some {o : Option Nat} (h : finO o = true) : ∃ x, o = some x ∧ fin x = true := by
  cases o with
  | none => cases h
  | some x => exact ⟨x, rfl, h⟩

/-- A float32 of at least '2 ^ j'. -/
def Lo (j : Int) (x : Nat) : Prop := Flt.rung Ieee.single 1 j ≤ mag x

theorem lo_fin {j : Int} {x : Nat} (h : Lo j x) (hf : fin x = true) : j ≤ 127 := by
  rcases Int.lt_or_le 127 j with hj | hj
  · exfalso
    have h1 := Flt.rung_mono Ieee.single 1 1 128 j 128 (Int.le_refl _) (by omega) (by rw [Nat.one_mul, Nat.one_mul]; exact Nat.pow_le_pow_right (by omega) (by omega))
    have h2 : Flt.rung Ieee.single 1 128 = 2139095040 := by decide +kernel
    have h3 : mag x < 2139095040 := of_decide_eq_true hf
    unfold Lo at h
    omega
  · exact hj

theorem lo_mono {i j : Int} {x : Nat} (h : Lo j x) (hi : i ≤ j) : Lo i x := by
  have h1 := Flt.rung_mono Ieee.single 1 1 i j i (Int.le_refl _) hi (by rw [Nat.one_mul, Nat.one_mul]; exact Nat.pow_le_pow_right (by omega) (by omega))
  unfold Lo at *
  omega

/-- The number of a word of at least '2 ^ j'. -/
theorem lo_num {j : Int} {s : Bool} {m : Nat} {p : Int} (h : Lo j (S s m p)) (hf : Flt.Fit Ieee.single m p) (h1 : -126 ≤ j) (h2 : j ≤ 127) (b : Int) (hb1 : b ≤ j) (hb2 : b ≤ p) : 2 ^ (j - b).toNat ≤ m * 2 ^ (p - b).toNat := by
  unfold Lo at h
  rw [(mag_S s m p).2] at h
  have := le_of_rung Ieee.single (by decide) 1 m j p b (fitS_pow j h1 h2) hf hb1 hb2 h
  rwa [Nat.one_mul] at this

theorem bd_num {k : Int} {s : Bool} {m : Nat} {p : Int} (h : Bd k (S s m p)) (hf : Flt.Fit Ieee.single m p) (h1 : -126 ≤ k) (h2 : k ≤ 127) (b : Int) (hb1 : b ≤ k) (hb2 : b ≤ p) : m * 2 ^ (p - b).toNat ≤ 2 ^ (k - b).toNat := by
  have h3 := h.2
  rw [(mag_S s m p).2] at h3
  have h4 := (Flt.single_pow k h1 h2).1
  have := le_of_rung Ieee.single (by decide) m 1 p k b hf (fitS_pow k h1 h2) hb2 hb1 (by rw [h4]; omega)
  rwa [Nat.one_mul] at this

theorem mul_word {x y : Nat} (hx : x < 4294967296) (hy : y < 4294967296) (fx : fin x = true) (fy : fin y = true) : ∃ s m p t n q, x = S s m p ∧ Flt.Fit Ieee.single m p ∧ y = S t n q ∧ Flt.Fit Ieee.single n q ∧ floatBits .mul .f32 x y = some (S (s ^^ t) (m * n) (p + q)) := by
  obtain ⟨s, m, p, _, f1, e1⟩ := fin_fit x hx fx
  obtain ⟨t, n, q, _, f2, e2⟩ := fin_fit y hy fy
  refine ⟨s, m, p, t, n, q, e1, f1, e2, f2, ?_⟩
  subst e1 e2
  exact Flt.mul_fit Ieee.single (by decide) s t m n p q f1 f2

theorem mul_some {x y : Nat} (hx : x < 4294967296) (hy : y < 4294967296) (fx : fin x = true) (fy : fin y = true) : ∃ z, floatBits .mul .f32 x y = some z := by
  obtain ⟨s, m, p, t, n, q, _, _, _, _, h⟩ := mul_word hx hy fx fy
  exact ⟨_, h⟩

theorem pow_cut (a b : Int) (ha : 0 ≤ a) (hb : 0 ≤ b) : (2 : Nat) ^ (a + b).toNat = 2 ^ a.toNat * 2 ^ b.toNat := by
  rw [← Nat.pow_add]; congr 1; omega

theorem mul_lo {x y z : Nat} {i j : Int} (hx : x < 4294967296) (hy : y < 4294967296) (fx : fin x = true) (fy : fin y = true) (h : floatBits .mul .f32 x y = some z) (l1 : Lo i x) (l2 : Lo j y) (i1 : -126 ≤ i) (j1 : -126 ≤ j) : Lo (i + j) z := by
  have i2 := lo_fin l1 fx
  have j2 := lo_fin l2 fy
  obtain ⟨s, m, p, t, n, q, rfl, f1, rfl, f2, h'⟩ := mul_word hx hy fx fy
  obtain rfl := Option.some.inj (h.symm.trans h')
  have g1 := lo_num l1 f1 i1 i2 (-149) (by omega) (fitS_low f1)
  have g2 := lo_num l2 f2 j1 j2 (-149) (by omega) (fitS_low f2)
  have u1 := fitS_low f1
  have u2 := fitS_low f2
  unfold Lo
  rw [(mag_S _ _ _).2]
  refine Flt.rung_mono Ieee.single 1 (m * n) (i + j) (p + q) (-298) (by omega) (by omega) ?_
  rw [Nat.one_mul, show (i + j - -298).toNat = (i - -149 + (j - -149)).toNat by congr 1; omega, pow_cut _ _ (by omega) (by omega), show (p + q - -298).toNat = (p - -149 + (q - -149)).toNat by congr 1; omega, pow_cut _ _ (by omega) (by omega)]
  calc 2 ^ (i - -149).toNat * 2 ^ (j - -149).toNat ≤ (m * 2 ^ (p - -149).toNat) * (n * 2 ^ (q - -149).toNat) := Nat.mul_le_mul g1 g2
    _ = m * n * (2 ^ (p - -149).toNat * 2 ^ (q - -149).toNat) := by ac_rfl

theorem mul_up {x y z : Nat} {k l K : Int} (hx : Bd k x) (hy : Bd l y) (h : floatBits .mul .f32 x y = some z) (k1 : -126 ≤ k) (k2 : k ≤ 127) (l1 : -126 ≤ l) (l2 : l ≤ 127) (h1 : k + l ≤ K) (h2 : -126 ≤ K) (h3 : K ≤ 127) : Bd K z := by
  obtain ⟨s, m, p, t, n, q, rfl, f1, rfl, f2, h'⟩ := mul_word hx.1 hy.1 (bd_fin hx k2) (bd_fin hy l2)
  obtain rfl := Option.some.inj (h.symm.trans h')
  have u1 := fitS_low f1
  have u2 := fitS_low f2
  have g1 := bd_num hx f1 k1 k2 (-149) (by omega) u1
  have g2 := bd_num hy f2 l1 l2 (-149) (by omega) u2
  refine bd_mk _ _ _ K (-298) h2 h3 (by omega) (by omega) ?_
  rw [show (p + q - -298).toNat = (p - -149 + (q - -149)).toNat by congr 1; omega, pow_cut _ _ (by omega) (by omega)]
  calc m * n * (2 ^ (p - -149).toNat * 2 ^ (q - -149).toNat) = (m * 2 ^ (p - -149).toNat) * (n * 2 ^ (q - -149).toNat) := by ac_rfl
    _ ≤ 2 ^ (k - -149).toNat * 2 ^ (l - -149).toNat := Nat.mul_le_mul g1 g2
    _ = 2 ^ (k + l + 298).toNat := by rw [← pow_cut _ _ (by omega) (by omega)]; congr 2; omega
    _ ≤ 2 ^ (K - -298).toNat := Nat.pow_le_pow_right (by omega) (by omega)

/-- A quotient of what is at most '2 ^ k' by what is at least '2 ^ j'. -/
theorem quo_up {x y : Nat} {k j K : Int} (hx : Bd k x) (hy : y < 2139095040) (ly : Lo j y) (k1 : -126 ≤ k) (k2 : k ≤ 127) (j1 : -126 ≤ j) (h1 : k - j ≤ K) (h2 : -126 ≤ K) (h3 : K ≤ 127) : ∃ r, floatBits .quo .f32 x y = some r ∧ Bd K r := by
  obtain ⟨s, m, p, _, f1, rfl⟩ := fin_fit x hx.1 (bd_fin hx k2)
  obtain ⟨n, q, rfl, f2, r2⟩ := word_is y hy
  have u1 := fitS_low f1
  have u2 := fitS_low f2
  have hm : mag (S false n q) = S false n q := by rw [(mag_S false n q).2]; exact r2
  have j2 : j ≤ 127 := lo_fin ly (decide_eq_true (by rw [hm]; exact hy))
  have g1 := bd_num hx f1 k1 k2 (-149) (by omega) u1
  have g2 := lo_num ly f2 j1 j2 (-149) (by omega) u2
  have hn : n ≠ 0 := by
    rintro rfl
    have := Nat.two_pow_pos (j - -149).toNat
    rw [Nat.zero_mul] at g2
    omega
  refine div_bd K (-275) f1 f2 hn h2 h3 (by omega) (by omega) ?_
  have e1 : (p - -275).toNat = (p - -149 + 126).toNat := by congr 1; omega
  have e2 : (q + K - -275).toNat = (q - -149 + (K + 126)).toNat := by congr 1; omega
  rw [e1, e2, pow_cut _ _ (by omega) (by omega), pow_cut _ _ (by omega) (by omega), ← Nat.mul_assoc, ← Nat.mul_assoc]
  calc m * 2 ^ (p - -149).toNat * 2 ^ (126 : Int).toNat ≤ 2 ^ (k - -149).toNat * 2 ^ (126 : Int).toNat := Nat.mul_le_mul_right _ g1
    _ = 2 ^ (k - -149 + 126).toNat := (pow_cut _ _ (by omega) (by omega)).symm
    _ ≤ 2 ^ (j - -149 + (K + 126)).toNat := Nat.pow_le_pow_right (by omega) (by omega)
    _ = 2 ^ (j - -149).toNat * 2 ^ (K + 126).toNat := pow_cut _ _ (by omega) (by omega)
    _ ≤ n * 2 ^ (q - -149).toNat * 2 ^ (K + 126).toNat := Nat.mul_le_mul_right _ g2

/-- A quotient of at most 1. -/
theorem quo_one {x y : Nat} (hx : x < 4294967296) (fx : fin x = true) (hy : y < 2139095040) (h0 : y ≠ 0) (h : mag x ≤ y) : ∃ r, floatBits .quo .f32 x y = some r ∧ Bd 0 r := by
  obtain ⟨s, m, p, _, f1, rfl⟩ := fin_fit x hx fx
  obtain ⟨n, q, rfl, f2, r2⟩ := word_is y hy
  have u1 := fitS_low f1
  have u2 := fitS_low f2
  rw [(mag_S s m p).2, ← r2] at h
  have g := le_of_rung Ieee.single (by decide) m n p q (-149) f1 f2 u1 u2 h
  have hn : n ≠ 0 := by
    rintro rfl
    exact h0 (by rw [← r2, Flt.rung_zero])
  exact div_bd 0 (-149) f1 f2 hn (by omega) (by omega) u1 (by omega) (by rw [show (q + 0 - -149).toNat = (q - -149).toNat by congr 1; omega]; exact g)

end Go.Proofs.Ytaghfffbhgpalaa
