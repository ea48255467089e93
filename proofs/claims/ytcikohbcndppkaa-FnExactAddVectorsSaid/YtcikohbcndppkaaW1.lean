/- Walks: numbers by their bits, powers of two, finite numbers. -/
import Derived.Test.YtcikohbcndppkaaRows
import Derived.Test.YtcikohbcndppkaaFlt
import Derived.WalkKit
import Derived.WalkSpells
import Derived.WalkLawsBesides
import Derived.Laws.BitsAllLaws
namespace Go.Proofs.Ytcikohbcndppkaa
open Go.RowKit

/-- A float64 and a float32 by sign, digits and place. -/
def D (s : Bool) (m : Nat) (e : Int) : Nat := Ieee.double.nearest s m e
def S (s : Bool) (m : Nat) (e : Int) : Nat := Ieee.single.nearest s m e

theorem D_one : (4607182418800017408 : Nat) = D false 1 0 := by decide +kernel
theorem D_two : (4611686018427387904 : Nat) = D false 1 1 := by decide +kernel

theorem fitD_one (j : Int) (h1 : -1074 ≤ j) (h2 : j ≤ 1023) : Flt.Fit Ieee.double 1 j :=
  Flt.fit_lt _ _ _ 1 (by decide) h1 (by decide) (by have : Flt.top Ieee.double = 1023 := by decide +kernel
                                                    omega)

theorem D_double (j : Int) (h1 : -1074 ≤ j) (h2 : j ≤ 1023) : floatBits .mul .f64 (D false 1 j) 4611686018427387904 = some (D false 1 (j + 1)) := by
  rw [D_two]
  exact Flt.mul_fit Ieee.double (by decide) false false 1 1 j 1 (fitD_one j h1 h2) (fitD_one 1 (by decide) (by decide))

theorem D_half (j : Int) (h1 : -1074 ≤ j) (h2 : j ≤ 1023) : floatBits .quo .f64 (D false 1 j) 4611686018427387904 = some (D false 1 (j - 1)) := by
  rw [D_two]
  exact Flt.div_pow Ieee.double (by decide) false false 1 j 1 (fitD_one j h1 h2) (fitD_one 1 (by decide) (by decide))

set_option maxHeartbeats 400000 in
theorem two_any (k : Int) (w : World) (hlo : -1074 ≤ k) (hhi : k ≤ 1023) :
    Calls Try.prog 123 #[.int .i64 k] w fun e w' => e = .returned (.float .f64 (D false 1 k)) ∧ w = w' := by
  go_enter Try.func123, Try.ntmps123
  go_wp2_with fail
  go_loop [0, 3] (fun i t => ∃ j : Int, i = .int .i64 j ∧ t = .float .f64 (D false 1 (k - j)) ∧ ((0 ≤ j ∧ j ≤ k) ∨ (k ≤ j ∧ j ≤ 0) ∨ j = k)) (fun i _ => (intOf i).toNat)
  case atStart => exact ⟨k, rfl, by rw [Int.sub_self, ← D_one], .inr (.inr rfl)⟩
  case round =>
    obtain ⟨j, rfl, rfl, hj⟩ := hrel
    by_cases hlt : 0 < j
    · have hop : ∀ t w, (binOp .mul t (.float .f64 (D false 1 (k - j))) (.float .f64 4611686018427387904)).run Try.prog w = .ok (.float .f64 (D false 1 (k - j + 1))) w := fun t w => run_float_arith w .mul t .f64 _ _ _ (D_double (k - j) (by omega) (by omega))
      go_wp2_with (simp only [hop])
      go_round
      case rel => exact ⟨j - 1, by go_num, by rw [show k - (j - 1) = k - j + 1 by omega], by omega⟩
      case measure => simp [intOf]; omega
    · go_wp2_with fail
      have hj2 : (k ≤ j ∧ j ≤ 0) ∨ j = 0 := by omega
      clear hj hlt
      go_loop [0, 3] (fun i t => ∃ j : Int, i = .int .i64 j ∧ t = .float .f64 (D false 1 (k - j)) ∧ ((k ≤ j ∧ j ≤ 0) ∨ j = 0)) (fun i _ => (- intOf i).toNat)
      case atStart => exact ⟨j, rfl, rfl, hj2⟩
      case round =>
        clear hj2
        obtain ⟨j, rfl, rfl, hj1⟩ := hrel
        by_cases hlt : j < 0
        · have hop : ∀ t w, (binOp .quo t (.float .f64 (D false 1 (k - j))) (.float .f64 4611686018427387904)).run Try.prog w = .ok (.float .f64 (D false 1 (k - j - 1))) w := fun t w => run_float_arith w .quo t .f64 _ _ _ (D_half (k - j) (by omega) (by omega))
          go_wp2_with (simp only [hop])
          go_round
          case rel => exact ⟨j + 1, by go_num, by rw [show k - (j + 1) = k - j - 1 by omega], by omega⟩
          case measure => simp [intOf]; omega
        · have hj0 : j = 0 := by omega
          subst hj0
          go_wp2_with fail
          go_ret
          exact ⟨rfl, rfl⟩

theorem run_f32bits (b : Nat) (w : World) : (callFunc 130 #[.float .f32 b]).run Try.prog w = .ok (.value (.int .u32 b)) w := by
  rw [run_callFunc_extern (e := Extern.MathFloatBits.float32bits) Try.func130 (by kernel_rfl) (by kernel_rfl) (by kernel_rfl) (by kernel_rfl)]
  rfl

/-- The bits of a float32's word without its sign. -/
def mag (x : Nat) : Nat := x % 2147483648

theorem mag_lt (x : Nat) : mag x < 2147483648 := Nat.mod_lt _ (by omega)

theorem andNot_sign (x : Nat) (hx : x < 4294967296) : bits .andNot .u32 (x : Int) 2147483648 = (mag x : Int) := by
  have h := Go.u32_andNot_nat x 2147483648 hx (by omega)
  rw [show ((2147483648 : Nat) : Int) = 2147483648 from rfl] at h
  rw [h, show (4294967295 - 2147483648 : Nat) = 2 ^ 31 - 1 from rfl, Nat.and_two_pow_sub_one_eq_mod]; rfl

/-- The bits of a float32 without its sign. -/
theorem bits_any (x : Nat) (w : World) (hx : x < 4294967296) :
    Calls Try.prog 125 #[.float .f32 x] w fun e w' => e = .returned (.int .i64 (mag x)) ∧ w = w' := by
  have hr := run_f32bits x
  have hb := andNot_sign x hx
  have hm := mag_lt x
  go_enter Try.func125, Try.ntmps125
  go_wp2
  go_ret
  exact ⟨rfl, rfl⟩

/-- The word of a finite float32. -/
def fin (x : Nat) : Bool := decide (mag x < 2139095040)

theorem isNumber_any (x : Nat) (w : World) (hx : x < 4294967296) :
    Calls Try.prog 112 #[.float .f32 x] w fun e w' => e = .returned (.bool (fin x)) ∧ w = w' := by
  have hd : decide ((mag x : Int) ≤ 2139095039) = fin x := by
    unfold fin; exact decide_eq_decide.2 (by omega)
  go_enter Try.func112, Try.ntmps112
  go_wp2_with (go_at_call 125; refine (bits_any _ _ hx).mono ?_; rintro e w' ⟨rfl, rfl⟩)
  go_ret
  exact ⟨rfl, rfl⟩

/-- The sign of a word. -/
def neg (x : Nat) : Bool := x / 2147483648 % 2 == 1
/-- 'x < 0'. -/
def less0 (x : Nat) : Bool := FloatKind.f32.format.order x 0 == some .lt

theorem placeOf_any (x : Nat) (w : World) (hx : x < 4294967296) :
    Calls Try.prog 131 #[.float .f32 x] w fun e w' => e = .returned (.int .i64 (if less0 x then -(mag x : Int) else mag x)) ∧ w = w' := by
  have hm := mag_lt x
  cases hl : less0 x
  all_goals
    have hc : (FloatKind.f32.format.order x 0 == some .lt) = less0 x := rfl
    rw [hl] at hc
    clear hl
    go_enter Try.func131, Try.ntmps131
    go_wp2_with (go_at_call 125; refine (bits_any _ _ hx).mono ?_; rintro e w' ⟨rfl, rfl⟩)
    go_ret
    exact ⟨rfl, rfl⟩

theorem fin_fit (x : Nat) (hx : x < 4294967296) (h : fin x = true) : ∃ (s : Bool) (m : Nat) (e : Int), Ieee.single.read x = .number s m e ∧ Flt.Fit Ieee.single m e ∧ x = S s m e :=
  Flt.word_fit Ieee.single (by decide) x (by exact hx) (of_decide_eq_true h)

theorem word_split (x : Nat) (hx : x < 4294967296) : x = Ieee.single.word (x / 2147483648 % 2 == 1) (mag x) := by
  have hq : x / 2147483648 < 2 := by omega
  have := Nat.div_add_mod x 2147483648
  unfold mag Ieee.Format.word
  rw [Flt.s_sw]
  rcases (show x / 2147483648 = 0 ∨ x / 2147483648 = 1 by omega) with h | h <;> simp [h] <;> omega

theorem big_read (x : Nat) (hx : x < 4294967296) (h : fin x = false) : ∃ s, Ieee.single.read x = .infinity s ∨ ∃ t, Ieee.single.read x = .nan s t := by
  have h1 := word_split x hx
  have h2 := mag_lt x
  have h3 := of_decide_eq_false h
  generalize (x / 2147483648 % 2 == 1) = s at *
  have h4 := Flt.word_read Ieee.single s (mag x) (by rw [Flt.s_sw]; exact h2)
  rw [← h1, Flt.s_binade, Flt.s_inf, if_neg (by omega), if_neg (by omega)] at h4
  refine ⟨s, ?_⟩
  split at h4
  · exact .inl h4
  · exact .inr ⟨_, h4⟩

theorem less_self (x : Nat) (hx : x < 4294967296) (h : fin x = true) : floatBits .sub .f32 x x = some 0 := by
  obtain ⟨s, m, e, _, hf, rfl⟩ := fin_fit x hx h
  show Ieee.single.sub (S s m e) (S s m e) = some 0
  unfold S
  rw [Flt.sub_flip Ieee.single _ _ s m e (by decide) hf rfl]
  rw [Flt.add_fit Ieee.single (by decide) s (!s) m m e e e hf hf (Int.le_refl _) (Int.le_refl _)]
  have : Flt.tot s m e (!s) m e e = 0 := by
    unfold Flt.tot Flt.sv
    rw [Int.sub_self]
    cases s <;> simp <;> omega
  rw [this]
  unfold Flt.wordOf
  rw [show Int.natAbs 0 = 0 from rfl, Flt.nearest_zero]
  cases s <;> rfl

theorem less_none (x : Nat) (hx : x < 4294967296) (h : fin x = false) : floatBits .sub .f32 x x = none := by
  obtain ⟨s, h | ⟨t, h⟩⟩ := big_read x hx h
  all_goals
    show Ieee.single.sub x x = none
    unfold Ieee.Format.sub
    rw [h]
  · cases s <;> rfl
  · rfl

/-- A NaN stands to nothing. -/
def isNaN (k : FloatKind) (b : Nat) : Prop := ∃ s t, k.format.read b = .nan s t

theorem nan_order {k : FloatKind} {b : Nat} (h : isNaN k b) (y : Nat) : k.format.order b y = none := by
  obtain ⟨s, t, h⟩ := h
  unfold Ieee.Format.order
  rw [h]; rfl

theorem order_nan {k : FloatKind} {b : Nat} (h : isNaN k b) (y : Nat) : k.format.order y b = none := by
  obtain ⟨s, t, h⟩ := h
  unfold Ieee.Format.order
  rw [h]
  cases k.format.read y <;> rfl

theorem nan32 (t : Nat) : isNaN .f32 ((t % 2) * 2 ^ 31 + 0x7f800000 + 1 + (t / 2) % (2 ^ 23 - 1)) := by
  have hz : (t / 2) % (2 ^ 23 - 1) < 2 ^ 23 - 1 := Nat.mod_lt _ (by omega)
  generalize (t / 2) % (2 ^ 23 - 1) = z at *
  have e : (t % 2) * 2 ^ 31 + 0x7f800000 + 1 + z = Ieee.single.word (t % 2 == 1) (2139095041 + z) := by
    unfold Ieee.Format.word
    rw [Flt.s_sw]
    rcases (show t % 2 = 0 ∨ t % 2 = 1 by omega) with h | h <;> simp [h] <;> omega
  rw [e]
  have h := Flt.word_read Ieee.single (t % 2 == 1) (2139095041 + z) (by rw [Flt.s_sw]; omega)
  rw [Flt.s_binade, Flt.s_inf, if_neg (by omega), if_neg (by omega), if_neg (by omega)] at h
  exact ⟨_, _, h⟩

theorem nan64 (t : Nat) : isNaN .f64 ((t % 2) * 2 ^ 63 + 0x7ff0000000000000 + 1 + (t / 2) % (2 ^ 52 - 1)) := by
  have hz : (t / 2) % (2 ^ 52 - 1) < 2 ^ 52 - 1 := Nat.mod_lt _ (by omega)
  generalize (t / 2) % (2 ^ 52 - 1) = z at *
  have e : (t % 2) * 2 ^ 63 + 0x7ff0000000000000 + 1 + z = Ieee.double.word (t % 2 == 1) (9218868437227405313 + z) := by
    unfold Ieee.Format.word
    rw [Flt.d_sw]
    rcases (show t % 2 = 0 ∨ t % 2 = 1 by omega) with h | h <;> simp [h] <;> omega
  rw [e]
  have h := Flt.word_read Ieee.double (t % 2 == 1) (9218868437227405313 + z) (by rw [Flt.d_sw]; omega)
  rw [Flt.d_binade, Flt.d_inf, if_neg (by omega), if_neg (by omega), if_neg (by omega)] at h
  exact ⟨_, _, h⟩

theorem run_float_nan {P : Program} (w : World) (op : BinOp) (t : TypeId) (k : FloatKind) (x y : Nat) (hop : op = .add ∨ op = .sub ∨ op = .mul ∨ op = .quo) (h : floatBits op k x y = none) :
    ∃ b, isNaN k b ∧ (binOp op t (.float k x) (.float k y)).run P w = .ok (.float k b) w.drew := by
  refine ⟨(Question.nanBits k x y).cut (w.tape w.drawn (.nanBits k x y)), ?_, ?_⟩
  · cases k
    · exact nan32 _
    · exact nan64 _
  · unfold floatBits at h
    rcases hop with rfl | rfl | rfl | rfl <;> simp only at h <;> simp [binOp, Op.floatArith, h, Question.forced] <;> rfl

/-- 'x - x == 0' of a finite one. -/
theorem fine_yes (x : Nat) (w : World) (hx : x < 4294967296) (h : fin x = true) :
    Calls Try.prog 113 #[.float .f32 x] w fun e w' => e = .returned (.bool true) ∧ w = w' := by
  have hs := less_self x hx h
  have hop : ∀ t w, (binOp .sub t (.float .f32 x) (.float .f32 x)).run Try.prog w = .ok (.float .f32 0) w := fun t w => run_float_arith w .sub t .f32 _ _ _ hs
  have ho : (FloatKind.f32.format.order 0 0 == some .eq) = true := by decide +kernel
  go_enter Try.func113, Try.ntmps113
  go_wp2_with (simp only [hop])
  go_ret
  exact ⟨rfl, rfl⟩

theorem fine_no (x : Nat) (w : World) (hx : x < 4294967296) (h : fin x = false) :
    Calls Try.prog 113 #[.float .f32 x] w fun e w' => e = .returned (.bool false) ∧ w.drewN 1 = w' := by
  obtain ⟨b, hn, hop⟩ := run_float_nan (P := Try.prog) w .sub 38 .f32 x x (.inr (.inl rfl)) (less_none x hx h)
  have ho : (FloatKind.f32.format.order b 0 == some .eq) = false := by rw [nan_order hn]; rfl
  clear hn
  go_enter Try.func113, Try.ntmps113
  go_wp2_with (simp only [hop])
  go_ret
  exact ⟨rfl, rfl⟩

theorem topS : Flt.top Ieee.single = 127 := by decide +kernel
theorem topD : Flt.top Ieee.double = 1023 := by decide +kernel

theorem fit_wide {m : Nat} {p : Int} (h : Flt.Fit Ieee.single m p) : Flt.Fit Ieee.double m p := by
  obtain ⟨h1, h2, h3⟩ := h
  rw [Flt.s_lp] at h2
  rw [topS] at h3
  refine ⟨Nat.lt_of_lt_of_le h1 (by decide), by rw [Flt.d_lp]; omega, ?_⟩
  rw [topD]; omega

theorem widen {s : Bool} {m : Nat} {p : Int} (h : Flt.Fit Ieee.single m p) : floatToFloatBits .f32 (S s m p) .f64 = some (D s m p) := by
  obtain ⟨k, hk⟩ := Flt.read_fit Ieee.single (by decide) s m p h
  have he : FloatKind.f64.encode (.number s (m * 2 ^ k) (p - k)) = D s m p := by
    show Ieee.double.nearest s (m * 2 ^ k) (p - k) = Ieee.double.nearest s m p
    rw [Flt.nearest_shl]; congr 1; omega
  obtain ⟨l, hl⟩ := Flt.read_fit Ieee.double (by decide) s m p (fit_wide h)
  unfold floatToFloatBits
  rw [if_neg (by decide)]
  have hd : FloatKind.f32.decode (S s m p) = .number s (m * 2 ^ k) (p - k) := hk
  rw [hd]
  simp only [he]
  have hi : (FloatKind.f64.decode (D s m p)) = .number s (m * 2 ^ l) (p - l) := hl
  rw [hi]
  rfl

/-- Where a finite word's number comes from. -/
theorem fin_cases (x : Nat) (hx : x < 4294967296) (h : fin x = true) :
    ∃ (s : Bool) (m : Nat) (p : Int), x = S s m p ∧ Flt.Fit Ieee.single m p ∧
      ((m < 8388608 ∧ p = -149 ∧ mag x = m) ∨ (8388608 ≤ m ∧ m < 16777216 ∧ -149 ≤ p ∧ p ≤ 104 ∧ (mag x : Int) = (p + 149) * 8388608 + m)) := by
  obtain ⟨s, m, p, hr, hf, hxe⟩ := fin_fit x hx h
  have h1 := word_split x hx
  have h2 := mag_lt x
  have h3 := of_decide_eq_true h
  generalize (x / 2147483648 % 2 == 1) = s' at *
  have h4 := Flt.word_read Ieee.single s' (mag x) (by rw [Flt.s_sw]; exact h2)
  rw [← h1, hr, Flt.s_binade, Flt.s_inf, Flt.s_lp] at h4
  refine ⟨s, m, p, hxe, hf, ?_⟩
  by_cases hb : mag x < 8388608
  · rw [if_pos hb] at h4
    injection h4 with _ a b
    left; omega
  · rw [if_neg hb, if_pos (by omega)] at h4
    injection h4 with _ a b
    right; omega

theorem cmp_lt {a b : Int} (h : a < b) : compare a b = .lt := by simp [compare, compareOfLessAndEq, h]
theorem cmp_gt {a b : Int} (h : b < a) : compare a b = .gt := by
  have h1 : ¬ a < b := by omega
  have h2 : ¬ a = b := by omega
  simp [compare, compareOfLessAndEq, h1, h2]
theorem cmp_eq {a b : Int} (h : a = b) : compare a b = .eq := by subst h; simp [compare, compareOfLessAndEq]

theorem D_zero (s : Bool) (p : Int) : D s 0 p = Ieee.double.word s 0 := Flt.nearest_zero _ _ _
theorem S_zero (s : Bool) (p : Int) : S s 0 p = Ieee.single.word s 0 := Flt.nearest_zero _ _ _

/-- How a number stands to 0. -/
theorem ord0D (s : Bool) (m : Nat) (p : Int) (h : Flt.Fit Ieee.double m p) : FloatKind.f64.format.order (D s m p) 0 = some (compare (Flt.sv s m) 0) := by
  have h0 : Flt.Fit Ieee.double 0 p := ⟨by decide, h.2.1, .inl rfl⟩
  have := Flt.order_fit Ieee.double (by decide) s false m 0 p p p h h0 (Int.le_refl _) (Int.le_refl _)
  rw [Int.sub_self, Int.toNat_zero, Int.pow_zero, Int.mul_one, Int.mul_one, Flt.nearest_zero] at this
  exact this

theorem ord0S (s : Bool) (m : Nat) (p : Int) (h : Flt.Fit Ieee.single m p) : FloatKind.f32.format.order (S s m p) 0 = some (compare (Flt.sv s m) 0) := by
  have h0 : Flt.Fit Ieee.single 0 p := ⟨by decide, h.2.1, .inl rfl⟩
  have := Flt.order_fit Ieee.single (by decide) s false m 0 p p p h h0 (Int.le_refl _) (Int.le_refl _)
  rw [Int.sub_self, Int.toNat_zero, Int.pow_zero, Int.mul_one, Int.mul_one, Flt.nearest_zero] at this
  exact this

/-- How a number stands to a power of two. -/
theorem ordPow (m : Nat) (p j b : Int) (h : Flt.Fit Ieee.double m p) (h1 : -1074 ≤ j) (h2 : j ≤ 1023) (hb1 : b ≤ p) (hb2 : b ≤ j) :
    FloatKind.f64.format.order (D false m p) (D false 1 j) = some (compare ((m : Int) * 2 ^ (p - b).toNat) (2 ^ (j - b).toNat)) := by
  have := Flt.order_fit Ieee.double (by decide) false false m 1 p j b h (fitD_one j h1 h2) hb1 hb2
  rw [show Flt.sv false 1 = 1 from rfl, Int.one_mul] at this
  exact this
end Go.Proofs.Ytcikohbcndppkaa
