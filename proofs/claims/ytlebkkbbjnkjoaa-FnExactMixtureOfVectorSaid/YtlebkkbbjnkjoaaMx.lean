/- Halves of numbers, one and a number, one less a number; mixtures as tables. -/
import Derived.Test.YtlebkkbbjnkjoaaDi
import Derived.Test.YtlebkkbbjnkjoaaT3
namespace Go.Proofs.Ytlebkkbbjnkjoaa
open Go.RowKit

theorem ord_self (x : Nat) (hx : x < 4294967296) (h : fin x = true) : FloatKind.f32.format.order x x = some .eq := by
  obtain ⟨s, m, e, _, hf, rfl⟩ := fin_fit x hx h
  have := Flt.order_fit Ieee.single (by decide) s s m m e e e hf hf (Int.le_refl _) (Int.le_refl _)
  rw [cmp_eq rfl] at this
  exact this

/-- One half of a number. -/
def hv (x : Nat) : Nat := (floatBits .quo .f32 x 1073741824).getD 0

theorem S_two : (1073741824 : Nat) = S false 1 1 := by decide +kernel

theorem hv_ok (x : Nat) (h : Num x) : floatBits .quo .f32 x 1073741824 = some (hv x) ∧ Num (hv x) := by
  obtain ⟨hx, h⟩ := h
  obtain ⟨s, m, e, _, hf, rfl⟩ := fin_fit x hx h
  have hd := Flt.div_pow Ieee.single (by decide) s false m e 1 hf (fitS_pow 1 (by omega) (by omega))
  have hd2 : floatBits .quo .f32 (S s m e) 1073741824 = some (S (s ^^ false) m (e - 1)) := by
    rw [S_two]; exact hd
  have he : hv (S s m e) = S (s ^^ false) m (e - 1) := by unfold hv; rw [hd2]; rfl
  rw [he]
  refine ⟨hd2, (mag_S _ _ _).1, ?_⟩
  have h1 := of_decide_eq_true h
  rw [(mag_S s m e).2] at h1
  have h2 : Flt.rung Ieee.single m (e - 1) ≤ Flt.rung Ieee.single m e := by
    refine Flt.rung_mono Ieee.single m m (e - 1) e (e - 1) (Int.le_refl _) (by omega) ?_
    refine Nat.mul_le_mul_left _ (Nat.pow_le_pow_right (by omega) (by omega))
  exact decide_eq_true (by rw [(mag_S _ m (e - 1)).2]; omega)

/-- The greatest number. -/
theorem top_rung : Flt.rung Ieee.single 16777215 104 = 2139095039 := by decide +kernel

theorem top_more : Flt.rung Ieee.single (16777215 * 2 ^ 253 + 2 ^ 149) (-149) = 2139095039 := by decide +kernel

theorem vl_top {x : Nat} {v : Int} (h : Vl x v) : v.natAbs ≤ 16777215 * 2 ^ 253 := by
  have hn := vl_num h
  obtain ⟨s, m, p, rfl, hf, rfl⟩ := h
  have h1 := of_decide_eq_true hn.2
  rw [(mag_S s m p).2] at h1
  have hlow := fitS_low hf
  have := le_of_rung Ieee.single (by decide) m 16777215 p 104 (-149) hf (Flt.fit_lt _ _ _ 24 (by decide) (by decide) (by decide) (by decide)) hlow (by omega) (by rw [top_rung]; omega)
  rw [Int.natAbs_mul, sv_abs, Int.natAbs_pow]
  have e1 : (p - -149).toNat = (p + 149).toNat := by congr 1
  rw [e1] at this
  exact this

theorem S_one : (1065353216 : Nat) = S false 1 0 := by decide +kernel

theorem vl_one : Vl 1065353216 (2 ^ 149) := ⟨false, 1, 0, S_one, fitS_pow 0 (by omega) (by omega), by decide +kernel⟩

theorem one_add {x : Nat} (h : Num x) : floatBits .add .f32 1065353216 x = some (sm 1065353216 x) ∧ Num (sm 1065353216 x) := by
  obtain ⟨v, hv⟩ := vl_of x h.1 h.2
  have hb := vl_top hv
  obtain ⟨t, n, q, rfl, hg, rfl⟩ := hv
  have l2 := fitS_low hg
  have := Flt.add_fit Ieee.single (by decide) false t 1 n 0 q (-149) (fitS_pow 0 (by omega) (by omega)) hg (by omega) l2
  have e1 : Flt.tot false 1 0 t n q (-149) = 2 ^ 149 + Flt.sv t n * 2 ^ (q + 149).toNat := by
    have : Flt.tot false 1 0 t n q (-149) = Flt.sv false 1 * 2 ^ (0 + 149 : Int).toNat + Flt.sv t n * 2 ^ (q + 149).toNat := rfl
    rw [this]
    congr 1
  rw [e1] at this
  generalize Flt.sv t n * 2 ^ (q + 149).toNat = v at *
  have h3 : floatBits .add .f32 1065353216 (S t n q) = some (Flt.wordOf Ieee.single (false && t) (2 ^ 149 + v) (-149)) := by
    rw [S_one]; exact this
  have e2 : sm 1065353216 (S t n q) = Flt.wordOf Ieee.single (false && t) (2 ^ 149 + v) (-149) := by unfold sm; rw [h3]; rfl
  rw [e2]
  refine ⟨h3, ?_⟩
  unfold Flt.wordOf
  generalize (if (2 : Int) ^ 149 + v = 0 then (false && t) else decide ((2 : Int) ^ 149 + v < 0)) = s
  have hle : ((2 : Int) ^ 149 + v).natAbs ≤ 16777215 * 2 ^ 253 + 2 ^ 149 := by
    refine Nat.le_trans (Int.natAbs_add_le _ _) ?_
    have : ((2 : Int) ^ 149).natAbs = 2 ^ 149 := by decide +kernel
    rw [this]
    omega
  generalize ((2 : Int) ^ 149 + v).natAbs = k at *
  obtain ⟨g1, g2⟩ := mag_S s k (-149)
  refine ⟨g1, decide_eq_true ?_⟩
  have hr : Flt.rung Ieee.single k (-149) ≤ 2139095039 := by
    rw [← top_more]
    refine Flt.rung_mono Ieee.single _ _ (-149) (-149) (-149) (Int.le_refl _) (Int.le_refl _) ?_
    exact Nat.mul_le_mul_right _ hle
  have g3 : mag (Ieee.single.nearest s k (-149)) = Flt.rung Ieee.single k (-149) := g2
  omega

theorem num_neg' {x : Nat} (h : Num x) : Num (Op.negFloat .f32 x) := ⟨(neg_facts x h.1).1, by rw [(neg_facts x h.1).2]; exact h.2⟩

theorem one_sub {x : Nat} (h : Num x) : floatBits .sub .f32 1065353216 x = some (sm 1065353216 (Op.negFloat .f32 x)) ∧ Num (sm 1065353216 (Op.negFloat .f32 x)) := by
  obtain ⟨h1, h2⟩ := one_add (num_neg' h)
  refine ⟨?_, h2⟩
  rw [← h1]
  obtain ⟨v, t, n, q, rfl, hg, _⟩ := vl_of x h.1 h.2
  rw [neg_S]
  exact Flt.sub_flip Ieee.single _ (S t n q) t n q (by decide) hg rfl

/-- At least 0. -/
def geq0 (x : Nat) : Bool := FloatKind.f32.format.order x 0 == some .gt || FloatKind.f32.format.order x 0 == some .eq

/-- The mixture with two numbers and the entry at 1, 0. -/
def mixTb (a d x y : Nat) : Tb := ⟨⟨a, 0⟩, ⟨x, Op.negFloat .f32 y⟩, ⟨x, y⟩, ⟨d, 0⟩⟩

theorem num_nought : Num 0 := ⟨by omega, by decide +kernel⟩

theorem mix_tf {a d x y : Nat} (ha : Num a) (hd : Num d) (hx : Num x) (hy : Num y) : TF (mixTb a d x y) :=
  ⟨⟨ha, num_nought⟩, ⟨hx, num_neg' hy⟩, ⟨hx, hy⟩, ⟨hd, num_nought⟩⟩

/-- What MixtureOfVector hands back. -/
def mixRes (a d x y : Nat) : Value := if geq0 a && geq0 d then .tuple #[(mixTb a d x y).v, .int .i64 0] else .tuple #[.agg #[.complex .f32 0 0, .complex .f32 0 0, .complex .f32 0 0, .complex .f32 0 0], .int .i64 5]
end Go.Proofs.Ytlebkkbbjnkjoaa
