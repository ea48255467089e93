/- Walks: the weights for a tangle, of the specification. -/
import Derived.Test.YtlglbinalocilaaHv
import Derived.Test.YtlglbinalocilaaOf
namespace Go.Proofs.Ytlglbinalocilaa
open Go.RowKit

/-- 1 less the square, or 0; its root; the weights. -/
def tW (c : Nat) : Nat := sm 1065353216 (Op.negFloat .f32 (sq32 c))
def rtW (c : Nat) : Nat := if posW (tW c) then rootW (tW c) else 0
def wtW (c : Nat) (i : Nat) : Nat := if i = 0 then hv (sm 1065353216 (rtW c)) else hv (sm 1065353216 (Op.negFloat .f32 (rtW c)))

/-- Is it a number in 0..2? -/
def inTwo (c : Nat) : Bool := FloatKind.f32.format.order c 0 != some .lt && FloatKind.f32.format.order c 1073741824 != some .gt

theorem in_two {c : Nat} (hc : Num c) (h : inTwo c = true) : ∃ v, Vl c v ∧ v.natAbs ≤ 2 ^ 150 := by
  obtain ⟨v, hv⟩ := vl_of c hc.1 hc.2
  refine ⟨v, hv, ?_⟩
  unfold inTwo at h
  rw [ord_vl hv vl_null, ord_vl hv vl_two] at h
  simp only [Bool.and_eq_true, bne_iff_ne, ne_eq, Option.some.injEq] at h
  obtain ⟨h1, h2⟩ := h
  have k1 : ¬ v < 0 := fun g => h1 (cmp_lt g)
  have k2 : ¬ (2 : Int) ^ 150 < v := fun g => h2 (cmp_gt g)
  have e : ((2 ^ 150 : Nat) : Int) = (2 : Int) ^ 150 := by decide +kernel
  generalize (2 : Nat) ^ 150 = K at *
  rw [← e] at k2
  omega

theorem vl_none0 {x : Nat} (h : Vl x 0) : mag x = 0 := by
  obtain ⟨s, m, p, rfl, hf, h⟩ := h
  have hp : (0 : Int) < 2 ^ (p + 149).toNat := Int.pow_pos (by omega)
  have : Flt.sv s m = 0 := by
    rcases Int.mul_eq_zero.1 h.symm with g | g
    · exact g
    · omega
  have hm : m = 0 := by
    unfold Flt.sv at this
    cases s <;> simp at this <;> omega
  subst hm
  rw [(mag_S s 0 p).2, Flt.rung_zero]

theorem least_rung : Flt.rung Ieee.single 1 (-149) = 1 := by decide +kernel

theorem sub_one_value {x : Nat} {q : Int} (hq : Vl x q) (hu : Vl (sm 1065353216 (Op.negFloat .f32 x)) 0) : (2 : Int) ^ 149 + -q = 0 := by
  by_cases h0 : (2 : Int) ^ 149 + -q = 0
  · exact h0
  exfalso
  have h1 := vl_none0 hu
  obtain ⟨t, n, p, e, hg, hv⟩ := neg_vl hq
  have := Flt.add_fit Ieee.single (by decide) false t 1 n 0 p (-149) (fitS_pow 0 (by omega) (by omega)) hg (by omega) (fitS_low hg)
  have e1 : Flt.tot false 1 0 t n p (-149) = 2 ^ 149 + Flt.sv t n * 2 ^ (p + 149).toNat := by
    have : Flt.tot false 1 0 t n p (-149) = Flt.sv false 1 * 2 ^ (0 + 149 : Int).toNat + Flt.sv t n * 2 ^ (p + 149).toNat := rfl
    rw [this]
    congr 1
  rw [e1, ← hv] at this
  have h3 : floatBits .add .f32 1065353216 (Op.negFloat .f32 x) = some (Flt.wordOf Ieee.single (false && t) (2 ^ 149 + -q) (-149)) := by
    rw [S_one, e]; exact this
  have h4 : sm 1065353216 (Op.negFloat .f32 x) = Flt.wordOf Ieee.single (false && t) (2 ^ 149 + -q) (-149) := by unfold sm; rw [h3]; rfl
  rw [h4] at h1
  generalize (2 : Int) ^ 149 + -q = k at *
  unfold Flt.wordOf at h1
  have h5 := (mag_S (if k = 0 then (false && t) else decide (k < 0)) k.natAbs (-149)).2
  have h6 : Flt.rung Ieee.single 1 (-149) ≤ Flt.rung Ieee.single k.natAbs (-149) := by
    refine Flt.rung_mono Ieee.single 1 _ (-149) (-149) (-149) (Int.le_refl _) (Int.le_refl _) ?_
    exact Nat.mul_le_mul_right _ (by omega)
  rw [least_rung] at h6
  have h7 : mag (Ieee.single.nearest (if k = 0 then (false && t) else decide (k < 0)) k.natAbs (-149)) = Flt.rung Ieee.single k.natAbs (-149) := h5
  omega

/-- What the numbers on the way are: 1 less the square is a number less than 0, 0 as +0, or greater than 0. -/
theorem on_way {c : Nat} (hc : Num c) (h : inTwo c = true) :
    floatBits .mul .f32 c c = some (sq32 c) ∧ floatBits .sub .f32 1065353216 (sq32 c) = some (tW c) ∧ Num (rtW c) ∧
    ((FloatKind.f32.format.order (tW c) 0 = some .lt ∧ posW (tW c) = false) ∨ (FloatKind.f32.format.order (tW c) 0 = some .eq ∧ tW c = 0) ∨ (FloatKind.f32.format.order (tW c) 0 = some .gt ∧ posW (tW c) = true)) := by
  obtain ⟨v, hv, hb⟩ := in_two hc h
  obtain ⟨s1, s2⟩ := sq32_ok hv hb
  have nq : Num (sq32 c) := ⟨s2.1, bd_fin s2 (by omega)⟩
  obtain ⟨t1, t2⟩ := one_sub nq
  refine ⟨s1, t1, ?_, ?_⟩
  · unfold rtW
    split
    · exact rootW_num (by assumption)
    · exact num_nought
  · obtain ⟨u, hu⟩ := vl_of (tW c) t2.1 t2.2
    rw [ord_vl hu vl_null]
    rcases Int.lt_trichotomy u 0 with g | g | g
    · left
      refine ⟨by rw [cmp_lt g], ?_⟩
      cases hp : posW (tW c)
      · rfl
      · exfalso
        obtain ⟨m, e, hx, hf, hm, _⟩ := pos_form _ hp
        have : Vl (tW c) (Flt.sv false m * 2 ^ (e + 149).toNat) := ⟨false, m, e, hx, hf, rfl⟩
        have h1 := ord_vl this vl_null
        rw [ord_vl hu vl_null, cmp_lt g] at h1
        injection h1 with h1
        have hp2 : (0 : Int) < 2 ^ (e + 149).toNat := Int.pow_pos (by omega)
        have h2 : (0 : Int) ≤ Flt.sv false m * 2 ^ (e + 149).toNat := Int.mul_nonneg (by unfold Flt.sv; simp) (by omega)
        rcases Int.lt_or_eq_of_le h2 with h3 | h3
        · rw [cmp_gt h3] at h1; cases h1
        · rw [cmp_eq h3.symm] at h1; cases h1
    · right; left
      refine ⟨by rw [cmp_eq g], ?_⟩
      -- of value 0: 1 less the square is 0 only where the square is 1
      subst g
      obtain ⟨q, hq⟩ := vl_of (sq32 c) nq.1 nq.2
      have hs := sub_one_value hq hu
      exact one_less_zero hq hs
    · right; right
      exact ⟨by rw [cmp_gt g], vl_pos hu g⟩

theorem spec_root_nil (w : World) : Calls Try.prog 43 #[.float .f32 0] w fun e w' => e = .returned (.float .f32 0) ∧ w = w' := by
  have hz : (FloatKind.f32.format.order 0 0 == some .eq) = true := by decide +kernel
  go_enter Try.func43, Try.ntmps43
  go_wp2
  go_ret
  exact ⟨rfl, rfl⟩

/-- What a function from a number to a list of numbers and a code hands back. -/
def GivesW (f : FuncId) (c m : Nat) (X : Nat → Nat) (code : Int) : Prop :=
  ∀ w : World, Calls Try.prog f #[.float .f32 c] w fun e w' => ∃ u, e = .returned (.tuple #[u, .int .i64 code]) ∧ Below w.heap.size w w' ∧ OwnV 38 w' u m (fun i => .float .f32 (X i)) w.heap.size w'.heap.size

def wtN (c : Nat) : Nat := if fin c && inTwo c then 2 else 0
def wtC (c : Nat) : Int := if fin c then (if inTwo c then 0 else 2) else 1

theorem two_row (w : World) (x y : Nat) : OwnV 38 (w.alloc (.cells #[.float .f32 x, .float .f32 y] 38)) (.slice (some ⟨w.heap.size, 0, none⟩) 2 2) 2 (fun i => .float .f32 (if i = 0 then x else y)) w.heap.size (w.alloc (.cells #[.float .f32 x, .float .f32 y] 38)).heap.size := by
  refine ⟨_, 2, rfl, Nat.le_refl _, fun _ => ⟨w.heap.size, 2, fun i => .float .f32 (if i = 0 then x else y), rfl, Nat.le_refl _, by simp, Nat.le_refl _, ?_, fun _ _ => rfl⟩⟩
  refine ⟨#[.float .f32 x, .float .f32 y], (show (w.heap.push _)[w.heap.size]? = _ by simp), rfl, fun i hi => ?_⟩
  have : i = 0 ∨ i = 1 := by omega
  rcases this with rfl | rfl <;> rfl
end Go.Proofs.Ytlglbinalocilaa
