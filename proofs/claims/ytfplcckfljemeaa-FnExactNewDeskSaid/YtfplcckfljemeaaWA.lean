/- Floats of a program: by sign, digits and place; what is no number. -/
import Derived.Test.YtfplcckfljemeaaRows
import Derived.Test.YtfplcckfljemeaaFlt
import Derived.WalkKit
import Derived.WalkSpells
import Derived.WalkLawsBesides
import Derived.Laws.BitsAllLaws
namespace Go.Proofs.Ytfplcckfljemeaa
open Go.RowKit

/-- A float64 and a float32 by sign, digits and place. -/
def D (s : Bool) (m : Nat) (e : Int) : Nat := Ieee.double.nearest s m e

def S (s : Bool) (m : Nat) (e : Int) : Nat := Ieee.single.nearest s m e

theorem D_one : (4607182418800017408 : Nat) = D false 1 0 := by decide +kernel

theorem D_two : (4611686018427387904 : Nat) = D false 1 1 := by decide +kernel

theorem fitD_one (j : Int) (h1 : -1074 ≤ j) (h2 : j ≤ 1023) : Flt.Fit Ieee.double 1 j :=
  Flt.fit_lt _ _ _ 1 (by decide) h1 (by decide) (by have : Flt.top Ieee.double = 1023 := by decide +kernel
                                                    omega)

theorem D_double (j : Int) (h1 : -1074 ≤ j) (h2 : j ≤ 1023) : floatBits .mul .f64 (D false 1 j) 4611686018427387904 = some (D false 1 (j + 1)) := by
  rw [D_two]
  exact Flt.mul_fit Ieee.double (by decide) false false 1 1 j 1 (fitD_one j h1 h2) (fitD_one 1 (by decide) (by decide))

theorem D_half (j : Int) (h1 : -1074 ≤ j) (h2 : j ≤ 1023) : floatBits .quo .f64 (D false 1 j) 4611686018427387904 = some (D false 1 (j - 1)) := by
  rw [D_two]
  exact Flt.div_pow Ieee.double (by decide) false false 1 j 1 (fitD_one j h1 h2) (fitD_one 1 (by decide) (by decide))

/-- The bits of a float32's word without its sign. -/
def mag (x : Nat) : Nat := x % 2147483648

theorem mag_lt (x : Nat) : mag x < 2147483648 := Nat.mod_lt _ (by omega)

/-- The word of a finite float32. -/
def fin (x : Nat) : Bool := decide (mag x < 2139095040)

/-- The sign of a word. -/
def neg (x : Nat) : Bool := x / 2147483648 % 2 == 1

/-- 'x < 0'. -/
def less0 (x : Nat) : Bool := FloatKind.f32.format.order x 0 == some .lt

theorem fin_fit (x : Nat) (hx : x < 4294967296) (h : fin x = true) : ∃ (s : Bool) (m : Nat) (e : Int), Ieee.single.read x = .number s m e ∧ Flt.Fit Ieee.single m e ∧ x = S s m e :=
  Flt.word_fit Ieee.single (by decide) x (by exact hx) (of_decide_eq_true h)

theorem word_split (x : Nat) (hx : x < 4294967296) : x = Ieee.single.word (x / 2147483648 % 2 == 1) (mag x) := by
  have hq : x / 2147483648 < 2 := by omega
  have := Nat.div_add_mod x 2147483648
  unfold mag Ieee.Format.word
  rw [Flt.s_sw]
  rcases (show x / 2147483648 = 0 ∨ x / 2147483648 = 1 by omega) with h | h <;> simp [h] <;> omega

theorem big_read (x : Nat) (hx : x < 4294967296) (h : fin x = false) : ∃ s, Ieee.single.read x = .infinity s ∨ ∃ t, Ieee.single.read x = .nan s t := by
  have h1 := word_split x hx
  have h2 := mag_lt x
  have h3 := of_decide_eq_false h
  generalize (x / 2147483648 % 2 == 1) = s at *
  have h4 := Flt.word_read Ieee.single s (mag x) (by rw [Flt.s_sw]; exact h2)
  rw [← h1, Flt.s_binade, Flt.s_inf, if_neg (by omega), if_neg (by omega)] at h4
  refine ⟨s, ?_⟩
  split at h4
  · exact .inl h4
  · exact .inr ⟨_, h4⟩

theorem less_self (x : Nat) (hx : x < 4294967296) (h : fin x = true) : floatBits .sub .f32 x x = some 0 := by
  obtain ⟨s, m, e, _, hf, rfl⟩ := fin_fit x hx h
  show Ieee.single.sub (S s m e) (S s m e) = some 0
  unfold S
  rw [Flt.sub_flip Ieee.single _ _ s m e (by decide) hf rfl]
  rw [Flt.add_fit Ieee.single (by decide) s (!s) m m e e e hf hf (Int.le_refl _) (Int.le_refl _)]
  have : Flt.tot s m e (!s) m e e = 0 := by
    unfold Flt.tot Flt.sv
    rw [Int.sub_self]
    cases s <;> simp <;> omega
  rw [this]
  unfold Flt.wordOf
  rw [show Int.natAbs 0 = 0 from rfl, Flt.nearest_zero]
  cases s <;> rfl

theorem less_none (x : Nat) (hx : x < 4294967296) (h : fin x = false) : floatBits .sub .f32 x x = none := by
  obtain ⟨s, h | ⟨t, h⟩⟩ := big_read x hx h
  all_goals
    show Ieee.single.sub x x = none
    unfold Ieee.Format.sub
    rw [h]
  · cases s <;> rfl
  · rfl

/-- A NaN stands to nothing. -/
def isNaN (k : FloatKind) (b : Nat) : Prop := ∃ s t, k.format.read b = .nan s t

theorem nan_order {k : FloatKind} {b : Nat} (h : isNaN k b) (y : Nat) : k.format.order b y = none := by
  obtain ⟨s, t, h⟩ := h
  unfold Ieee.Format.order
  rw [h]; rfl

theorem order_nan {k : FloatKind} {b : Nat} (h : isNaN k b) (y : Nat) : k.format.order y b = none := by
  obtain ⟨s, t, h⟩ := h
  unfold Ieee.Format.order
  rw [h]
  cases k.format.read y <;> rfl

theorem nan32 (t : Nat) : isNaN .f32 ((t % 2) * 2 ^ 31 + 0x7f800000 + 1 + (t / 2) % (2 ^ 23 - 1)) := by
  have hz : (t / 2) % (2 ^ 23 - 1) < 2 ^ 23 - 1 := Nat.mod_lt _ (by omega)
  generalize (t / 2) % (2 ^ 23 - 1) = z at *
  have e : (t % 2) * 2 ^ 31 + 0x7f800000 + 1 + z = Ieee.single.word (t % 2 == 1) (2139095041 + z) := by
    unfold Ieee.Format.word
    rw [Flt.s_sw]
    rcases (show t % 2 = 0 ∨ t % 2 = 1 by omega) with h | h <;> simp [h] <;> omega
  rw [e]
  have h := Flt.word_read Ieee.single (t % 2 == 1) (2139095041 + z) (by rw [Flt.s_sw]; omega)
  rw [Flt.s_binade, Flt.s_inf, if_neg (by omega), if_neg (by omega), if_neg (by omega)] at h
  exact ⟨_, _, h⟩

theorem nan64 (t : Nat) : isNaN .f64 ((t % 2) * 2 ^ 63 + 0x7ff0000000000000 + 1 + (t / 2) % (2 ^ 52 - 1)) := by
  have hz : (t / 2) % (2 ^ 52 - 1) < 2 ^ 52 - 1 := Nat.mod_lt _ (by omega)
  generalize (t / 2) % (2 ^ 52 - 1) = z at *
  have e : (t % 2) * 2 ^ 63 + 0x7ff0000000000000 + 1 + z = Ieee.double.word (t % 2 == 1) (9218868437227405313 + z) := by
    unfold Ieee.Format.word
    rw [Flt.d_sw]
    rcases (show t % 2 = 0 ∨ t % 2 = 1 by omega) with h | h <;> simp [h] <;> omega
  rw [e]
  have h := Flt.word_read Ieee.double (t % 2 == 1) (9218868437227405313 + z) (by rw [Flt.d_sw]; omega)
  rw [Flt.d_binade, Flt.d_inf, if_neg (by omega), if_neg (by omega), if_neg (by omega)] at h
  exact ⟨_, _, h⟩

theorem run_float_nan {P : Program} (w : World) (op : BinOp) (t : TypeId) (k : FloatKind) (x y : Nat) (hop : op = .add ∨ op = .sub ∨ op = .mul ∨ op = .quo) (h : floatBits op k x y = none) :
    ∃ b, isNaN k b ∧ (binOp op t (.float k x) (.float k y)).run P w = .ok (.float k b) w.drew := by
  refine ⟨(Question.nanBits k x y).cut (w.tape w.drawn (.nanBits k x y)), ?_, ?_⟩
  · cases k
    · exact nan32 _
    · exact nan64 _
  · unfold floatBits at h
    rcases hop with rfl | rfl | rfl | rfl <;> simp only at h <;> simp [binOp, Op.floatArith, h, Question.forced] <;> rfl

theorem topS : Flt.top Ieee.single = 127 := by decide +kernel

theorem topD : Flt.top Ieee.double = 1023 := by decide +kernel

theorem fit_wide {m : Nat} {p : Int} (h : Flt.Fit Ieee.single m p) : Flt.Fit Ieee.double m p := by
  obtain ⟨h1, h2, h3⟩ := h
  rw [Flt.s_lp] at h2
  rw [topS] at h3
  refine ⟨Nat.lt_of_lt_of_le h1 (by decide), by rw [Flt.d_lp]; omega, ?_⟩
  rw [topD]; omega

theorem widen {s : Bool} {m : Nat} {p : Int} (h : Flt.Fit Ieee.single m p) : floatToFloatBits .f32 (S s m p) .f64 = some (D s m p) := by
  obtain ⟨k, hk⟩ := Flt.read_fit Ieee.single (by decide) s m p h
  have he : FloatKind.f64.encode (.number s (m * 2 ^ k) (p - k)) = D s m p := by
    show Ieee.double.nearest s (m * 2 ^ k) (p - k) = Ieee.double.nearest s m p
    rw [Flt.nearest_shl]; congr 1; omega
  obtain ⟨l, hl⟩ := Flt.read_fit Ieee.double (by decide) s m p (fit_wide h)
  unfold floatToFloatBits
  rw [if_neg (by decide)]
  have hd : FloatKind.f32.decode (S s m p) = .number s (m * 2 ^ k) (p - k) := hk
  rw [hd]
  simp only [he]
  have hi : (FloatKind.f64.decode (D s m p)) = .number s (m * 2 ^ l) (p - l) := hl
  rw [hi]
  rfl

/-- Where a finite word's number comes from. -/
theorem fin_cases (x : Nat) (hx : x < 4294967296) (h : fin x = true) :
    ∃ (s : Bool) (m : Nat) (p : Int), x = S s m p ∧ Flt.Fit Ieee.single m p ∧
      ((m < 8388608 ∧ p = -149 ∧ mag x = m) ∨ (8388608 ≤ m ∧ m < 16777216 ∧ -149 ≤ p ∧ p ≤ 104 ∧ (mag x : Int) = (p + 149) * 8388608 + m)) := by
  obtain ⟨s, m, p, hr, hf, hxe⟩ := fin_fit x hx h
  have h1 := word_split x hx
  have h2 := mag_lt x
  have h3 := of_decide_eq_true h
  generalize (x / 2147483648 % 2 == 1) = s' at *
  have h4 := Flt.word_read Ieee.single s' (mag x) (by rw [Flt.s_sw]; exact h2)
  rw [← h1, hr, Flt.s_binade, Flt.s_inf, Flt.s_lp] at h4
  refine ⟨s, m, p, hxe, hf, ?_⟩
  by_cases hb : mag x < 8388608
  · rw [if_pos hb] at h4
    injection h4 with _ a b
    left; omega
  · rw [if_neg hb, if_pos (by omega)] at h4
    injection h4 with _ a b
    right; omega

theorem cmp_lt {a b : Int} (h : a < b) : compare a b = .lt := by simp [compare, compareOfLessAndEq, h]

theorem cmp_gt {a b : Int} (h : b < a) : compare a b = .gt := by
  have h1 : ¬ a < b := by omega
  have h2 : ¬ a = b := by omega
  simp [compare, compareOfLessAndEq, h1, h2]

theorem cmp_eq {a b : Int} (h : a = b) : compare a b = .eq := by subst h; simp [compare, compareOfLessAndEq]

theorem D_zero (s : Bool) (p : Int) : D s 0 p = Ieee.double.word s 0 := Flt.nearest_zero _ _ _

theorem S_zero (s : Bool) (p : Int) : S s 0 p = Ieee.single.word s 0 := Flt.nearest_zero _ _ _

/-- How a number stands to 0. -/
theorem ord0D (s : Bool) (m : Nat) (p : Int) (h : Flt.Fit Ieee.double m p) : FloatKind.f64.format.order (D s m p) 0 = some (compare (Flt.sv s m) 0) := by
  have h0 : Flt.Fit Ieee.double 0 p := ⟨by decide, h.2.1, .inl rfl⟩
  have := Flt.order_fit Ieee.double (by decide) s false m 0 p p p h h0 (Int.le_refl _) (Int.le_refl _)
  rw [Int.sub_self, Int.toNat_zero, Int.pow_zero, Int.mul_one, Int.mul_one, Flt.nearest_zero] at this
  exact this

theorem ord0S (s : Bool) (m : Nat) (p : Int) (h : Flt.Fit Ieee.single m p) : FloatKind.f32.format.order (S s m p) 0 = some (compare (Flt.sv s m) 0) := by
  have h0 : Flt.Fit Ieee.single 0 p := ⟨by decide, h.2.1, .inl rfl⟩
  have := Flt.order_fit Ieee.single (by decide) s false m 0 p p p h h0 (Int.le_refl _) (Int.le_refl _)
  rw [Int.sub_self, Int.toNat_zero, Int.pow_zero, Int.mul_one, Int.mul_one, Flt.nearest_zero] at this
  exact this

theorem less0_S (s : Bool) (m : Nat) (p : Int) (h : Flt.Fit Ieee.single m p) : less0 (S s m p) = (s && decide (m ≠ 0)) := by
  unfold less0
  rw [ord0S s m p h]
  by_cases hm : m = 0
  · subst hm
    rw [cmp_eq (by cases s <;> rfl)]; simp
  · cases s
    · rw [cmp_gt (by show (0 : Int) < m; omega)]; simp
    · rw [cmp_lt (by show -(m : Int) < 0; omega)]; simp [hm]

/-- How a number stands to a power of two. -/
theorem ordPow (m : Nat) (p j b : Int) (h : Flt.Fit Ieee.double m p) (h1 : -1074 ≤ j) (h2 : j ≤ 1023) (hb1 : b ≤ p) (hb2 : b ≤ j) :
    FloatKind.f64.format.order (D false m p) (D false 1 j) = some (compare ((m : Int) * 2 ^ (p - b).toNat) (2 ^ (j - b).toNat)) := by
  have := Flt.order_fit Ieee.double (by decide) false false m 1 p j b h (fitD_one j h1 h2) hb1 hb2
  rw [show Flt.sv false 1 = 1 from rfl, Int.one_mul] at this
  exact this

theorem ret_int {k : IntKind} {a b : Int} (h : a = b) : Ending.returned (.int k a) = .returned (.int k b) := by rw [h]

theorem one_le_pow (d : Nat) : (1 : Int) ≤ 2 ^ d := by
  have : (0 : Int) < 2 ^ d := Int.pow_pos (by omega)
  omega

theorem fitD (m : Nat) (p : Int) (j : Nat) (hm : m < 9007199254740992) (hj : m < 2 ^ j) (h1 : -1074 ≤ p) (h2 : p + j ≤ 1024) : Flt.Fit Ieee.double m p :=
  Flt.fit_lt _ _ _ j hm h1 hj (by rw [topD]; omega)

theorem run_to_int {P : Program} (w : World) (src dst : TypeId) (m : Nat) (hs : (P.underlying src).isSome = true) (hd : P.underlying dst = some (.int .i64)) (h : Flt.Fit Ieee.double m 0) (hm : m < 9223372036854775808) :
    (convert src dst (.float .f64 (D false m 0))).run P w = .ok (.int .i64 (m : Int)) w := by
  refine run_convert_float_int w src dst .f64 .i64 _ (m : Int) hs hd ?_
  unfold floatToIntVal
  have : (FloatKind.f64.decode (D false m 0)).toInt .zero = some (m : Int) := Flt.toInt_fit Ieee.double (by decide) false m h
  rw [this]
  simp only []
  rw [if_pos]
  have h1 : IntKind.i64.min = -9223372036854775808 := by decide +kernel
  have h2 : IntKind.i64.max = 9223372036854775807 := by decide +kernel
  omega

theorem floatOf_nat (n : Nat) : floatOfInt .f64 (n : Int) = D false n 0 := by
  show Ieee.double.nearest (decide ((n : Int) < 0)) (n : Int).natAbs 0 = Ieee.double.nearest false n 0
  rw [Int.natAbs_natCast]
  congr 1

theorem narrow {s : Bool} {m : Nat} {p : Int} (h : Flt.Fit Ieee.single m p) : floatToFloatBits .f64 (D s m p) .f32 = some (S s m p) := by
  obtain ⟨k, hk⟩ := Flt.read_fit Ieee.double (by decide) s m p (fit_wide h)
  have he : FloatKind.f32.encode (.number s (m * 2 ^ k) (p - k)) = S s m p := by
    show Ieee.single.nearest s (m * 2 ^ k) (p - k) = Ieee.single.nearest s m p
    rw [Flt.nearest_shl]; congr 1; omega
  obtain ⟨l, hl⟩ := Flt.read_fit Ieee.single (by decide) s m p h
  unfold floatToFloatBits
  rw [if_neg (by decide)]
  have hd : FloatKind.f64.decode (D s m p) = .number s (m * 2 ^ k) (p - k) := hk
  rw [hd]
  simp only [he]
  have hi : (FloatKind.f32.decode (S s m p)) = .number s (m * 2 ^ l) (p - l) := hl
  rw [hi]
  rfl

/-- The word at a place. -/
theorem S_place (n : Nat) (hn : n < 2139095040) :
    (n < 8388608 → Flt.Fit Ieee.single n (-149) ∧ S false n (-149) = n) ∧
    (8388608 ≤ n → Flt.Fit Ieee.single (8388608 + n % 8388608) ((n : Int) / 8388608 - 150) ∧ S false (8388608 + n % 8388608) ((n : Int) / 8388608 - 150) = n) := by
  have h4 := Flt.word_read Ieee.single false n (by rw [Flt.s_sw]; omega)
  have hw : Ieee.single.word false n = n := rfl
  rw [hw, Flt.s_binade, Flt.s_inf, Flt.s_lp] at h4
  obtain ⟨s, m, p, hr, hf, hxe⟩ := Flt.word_fit Ieee.single (by decide) n (by show n < 4294967296; omega) (by rw [Flt.s_sw, Flt.s_inf]; omega)
  rw [hr] at h4
  constructor
  · intro hb
    rw [if_pos hb] at h4
    injection h4 with a b c
    subst a b c
    exact ⟨hf, hxe.symm⟩
  · intro hb
    rw [if_neg (by omega), if_pos (by omega)] at h4
    injection h4 with a b c
    have hc : p = (n : Int) / 8388608 - 150 := by omega
    subst a b hc
    exact ⟨hf, hxe.symm⟩

/-- The word of the float at a place. -/
def wordAt (i : Int) : Nat := if i < 0 then 2147483648 + (-i).toNat else i.toNat

/-- What FloatAt hands back. -/
def atRes (i : Int) : Value := if -2139095040 < i ∧ i < 2139095040 then .tuple #[.float .f32 (wordAt i), .int .i64 0] else .tuple #[.float .f32 0, .int .i64 2]

theorem i64_bounds {a : Int} (h : (Lit.int .i64 a).wf = true) : -9223372036854775808 ≤ a ∧ a ≤ 9223372036854775807 := by
  have h1 : IntKind.i64.min = -9223372036854775808 := by decide +kernel
  have h2 : IntKind.i64.max = 9223372036854775807 := by decide +kernel
  simp only [Lit.wf, Bool.and_eq_true, decide_eq_true_eq, h1, h2] at h
  exact h
end Go.Proofs.Ytfplcckfljemeaa
