/- Walks: floats at places; two floats held against each other. -/
import Derived.Test.YtffilcmcjelajaaW2
namespace Go.Proofs.Ytffilcmcjelajaa
open Go.RowKit

theorem order_self (s : Bool) (m : Nat) (p : Int) (h : Flt.Fit Ieee.double m p) : FloatKind.f64.format.order (D s m p) (D s m p) = some .eq := by
  have := Flt.order_fit Ieee.double (by decide) s s m m p p p h h (Int.le_refl _) (Int.le_refl _)
  rw [cmp_eq rfl] at this
  exact this

theorem zero_quo (s : Bool) (p : Int) : floatBits .quo .f64 4607182418800017408 (D s 0 p) = some (Ieee.double.word s Ieee.double.infRung) := by
  rw [D_zero]; cases s <;> decide +kernel

theorem same_D (s : Bool) (m : Nat) (p : Int) (w : World) (h : Flt.Fit Ieee.double m p) :
    Calls Try.prog 19 #[.float .f64 (D s m p), .float .f64 (D s m p)] w fun e w' => e = .returned (.bool true) ∧ w = w' := by
  have ho := order_self s m p h
  have h0 := ord0D s m p h
  by_cases hm : m = 0
  · subst hm
    have hz : (FloatKind.f64.format.order (D s 0 p) 0 == some .eq) = true := by rw [h0, cmp_eq (by cases s <;> rfl)]; rfl
    have hq : ∀ t w, (binOp .quo t (.float .f64 4607182418800017408) (.float .f64 (D s 0 p))).run Try.prog w = .ok (.float .f64 (Ieee.double.word s Ieee.double.infRung)) w := fun t w => run_float_arith w .quo t .f64 _ _ _ (zero_quo s p)
    clear h0
    generalize D s 0 p = y at *
    generalize Ieee.double.word s Ieee.double.infRung = z at *
    go_enter Try.func19, Try.ntmps19
    go_wp2
    go_ret
    exact ⟨rfl, rfl⟩
  · have hz : (FloatKind.f64.format.order (D s m p) 0 == some .eq) = false := by
      rw [h0]
      cases s
      · rw [cmp_gt (by show (0 : Int) < m; omega)]; rfl
      · rw [cmp_lt (by show -(m : Int) < 0; omega)]; rfl
    clear h0
    generalize D s m p = y at *
    go_enter Try.func19, Try.ntmps19
    go_wp2
    go_ret
    exact ⟨rfl, rfl⟩

/-- A finite float32, made wide, is the same as itself. -/
theorem wide_same (x : Nat) (hx : x < 4294967296) (hf : fin x = true) :
    ∃ y, floatToFloatBits .f32 x .f64 = some y ∧ ∀ w, Calls Try.prog 19 #[.float .f64 y, .float .f64 y] w fun e w' => e = .returned (.bool true) ∧ w = w' := by
  obtain ⟨s, m, p, rfl, h, _⟩ := fin_cases x hx hf
  exact ⟨D s m p, widen h, fun w => same_D s m p w (fit_wide h)⟩

theorem floatOf_nat (n : Nat) : floatOfInt .f64 (n : Int) = D false n 0 := by
  show Ieee.double.nearest (decide ((n : Int) < 0)) (n : Int).natAbs 0 = Ieee.double.nearest false n 0
  rw [Int.natAbs_natCast]
  congr 1

theorem narrow {s : Bool} {m : Nat} {p : Int} (h : Flt.Fit Ieee.single m p) : floatToFloatBits .f64 (D s m p) .f32 = some (S s m p) := by
  obtain ⟨k, hk⟩ := Flt.read_fit Ieee.double (by decide) s m p (fit_wide h)
  have he : FloatKind.f32.encode (.number s (m * 2 ^ k) (p - k)) = S s m p := by
    show Ieee.single.nearest s (m * 2 ^ k) (p - k) = Ieee.single.nearest s m p
    rw [Flt.nearest_shl]; congr 1; omega
  obtain ⟨l, hl⟩ := Flt.read_fit Ieee.single (by decide) s m p h
  unfold floatToFloatBits
  rw [if_neg (by decide)]
  have hd : FloatKind.f64.decode (D s m p) = .number s (m * 2 ^ k) (p - k) := hk
  rw [hd]
  simp only [he]
  have hi : (FloatKind.f32.decode (S s m p)) = .number s (m * 2 ^ l) (p - l) := hl
  rw [hi]
  rfl

/-- The word at a place. -/
theorem S_place (n : Nat) (hn : n < 2139095040) :
    (n < 8388608 → Flt.Fit Ieee.single n (-149) ∧ S false n (-149) = n) ∧
    (8388608 ≤ n → Flt.Fit Ieee.single (8388608 + n % 8388608) ((n : Int) / 8388608 - 150) ∧ S false (8388608 + n % 8388608) ((n : Int) / 8388608 - 150) = n) := by
  have h4 := Flt.word_read Ieee.single false n (by rw [Flt.s_sw]; omega)
  have hw : Ieee.single.word false n = n := rfl
  rw [hw, Flt.s_binade, Flt.s_inf, Flt.s_lp] at h4
  obtain ⟨s, m, p, hr, hf, hxe⟩ := Flt.word_fit Ieee.single (by decide) n (by show n < 4294967296; omega) (by rw [Flt.s_sw, Flt.s_inf]; omega)
  rw [hr] at h4
  constructor
  · intro hb
    rw [if_pos hb] at h4
    injection h4 with a b c
    subst a b c
    exact ⟨hf, hxe.symm⟩
  · intro hb
    rw [if_neg (by omega), if_pos (by omega)] at h4
    injection h4 with a b c
    have hc : p = (n : Int) / 8388608 - 150 := by omega
    subst a b hc
    exact ⟨hf, hxe.symm⟩

theorem conv_nat (n : Nat) (w : World) : (convert 2 32 (.int .i64 (n : Int))).run Try.prog w = .ok (.float .f64 (D false n 0)) w := by
  rw [← floatOf_nat]; exact run_convert_int_float w 2 32 .i64 .f64 _ (by rw [Try.underlying2]; rfl) Try.underlying32

theorem mul_two (m : Nat) (j : Int) (hm : m < 67108864) (h1 : -1074 ≤ j) (h2 : j ≤ 1023) (t : TypeId) (w : World) :
    (binOp .mul t (.float .f64 (D false m 0)) (.float .f64 (D false 1 j))).run Try.prog w = .ok (.float .f64 (D false m j)) w := run_float_arith w .mul t .f64 _ _ _ (by
      have := Flt.mul_fit Ieee.double (by decide) false false m 1 0 j (fitD m 0 26 (by omega) (by omega) (by omega) (by omega)) (fitD_one j h1 h2)
      rw [Nat.mul_one, Int.zero_add] at this
      exact this)

theorem conv_narrow (m : Nat) (p : Int) (n : Nat) (hf : Flt.Fit Ieee.single m p) (he : S false m p = n) (w : World) :
    (convert 32 24 (.float .f64 (D false m p))).run Try.prog w = .ok (.float .f32 n) w := by
  have := run_convert_float_float (P := Try.prog) w 32 24 .f64 .f32 _ _ (by rw [Try.underlying32]; rfl) Try.underlying24 (narrow (s := false) hf)
  rw [he] at this; exact this

theorem float_low (i : Int) (w : World) (h0 : 0 ≤ i) (hb : i < 8388608) :
    Calls Try.prog 31 #[.int .i64 i] w fun e w' => e = .returned (.float .f32 i.toNat) ∧ w = w' := by
  obtain ⟨n, hn⟩ := Int.eq_ofNat_of_zero_le h0
  obtain ⟨hf, he⟩ := (S_place n (by omega)).1 (by omega)
  have hi := conv_nat n
  rw [← hn] at hi
  have hop := mul_two n (-149) (by omega) (by omega) (by omega)
  have hnar := conv_narrow n (-149) n hf he
  have ht : i.toNat = n := by omega
  rw [ht]
  clear he hf hn ht
  go_enter Try.func31, Try.ntmps31
  go_wp2_with (go_at_call 36; refine (two_any _ _ (by omega) (by omega)).mono ?_; rintro e w' ⟨rfl, rfl⟩)
  go_ret
  exact ⟨rfl, rfl⟩

theorem float_high (i : Int) (w : World) (h0 : 8388608 ≤ i) (hb : i < 2139095040) :
    Calls Try.prog 31 #[.int .i64 i] w fun e w' => e = .returned (.float .f32 i.toNat) ∧ w = w' := by
  obtain ⟨n, hn⟩ := Int.eq_ofNat_of_zero_le (show 0 ≤ i by omega)
  obtain ⟨hf, he⟩ := (S_place n (by omega)).2 (by omega)
  have hm : ((8388608 + n % 8388608 : Nat) : Int) = i % 8388608 + 8388608 := by omega
  have hmb : 8388608 + n % 8388608 < 16777216 := by omega
  have hp : (n : Int) / 8388608 - 150 = i / 8388608 - 127 - 23 := by omega
  have ht : i.toNat = n := by omega
  have hp1 : -149 ≤ i / 8388608 - 127 - 23 := by omega
  have hp2 : i / 8388608 - 127 - 23 ≤ 104 := by omega
  rw [hp] at hf he
  generalize 8388608 + n % 8388608 = m at *
  have hi := conv_nat m
  rw [hm] at hi
  have hop := mul_two m (i / 8388608 - 127 - 23) (by omega) (by omega) (by omega)
  have hnar := conv_narrow m _ n hf he
  rw [ht]
  clear he hf hn ht hm hmb hp
  go_enter Try.func31, Try.ntmps31
  go_wp2_with (go_at_call 36; refine (two_any _ _ (by omega) (by omega)).mono ?_; rintro e w' ⟨rfl, rfl⟩)
  go_ret
  exact ⟨rfl, rfl⟩

/-- The word of the float at a place. -/
def wordAt (i : Int) : Nat := if i < 0 then 2147483648 + (-i).toNat else i.toNat

theorem float_nn (i : Int) (w : World) (h0 : 0 ≤ i) (hb : i < 2139095040) :
    Calls Try.prog 31 #[.int .i64 i] w fun e w' => e = .returned (.float .f32 i.toNat) ∧ w = w' := by
  by_cases h : i < 8388608
  · exact float_low i w h0 h
  · exact float_high i w (by omega) hb

theorem neg_word (n : Nat) (hn : n < 2147483648) (w : World) : (Op.unary .neg (.float .f32 n)).run Try.prog w = .ok (.float .f32 (2147483648 + n)) w := by
  have h := Flt.flip_word Ieee.single false n (by rw [Flt.s_sw]; exact hn)
  exact congrArg (fun b => Result.ok (Value.float .f32 b) w) h

theorem float_any (i : Int) (w : World) (h0 : -2139095040 < i) (hb : i < 2139095040) :
    Calls Try.prog 31 #[.int .i64 i] w fun e w' => e = .returned (.float .f32 (wordAt i)) ∧ w = w' := by
  by_cases h : i < 0
  · have hw : wordAt i = 2147483648 + (-i).toNat := if_pos h
    rw [hw]
    have hfn := fun w => float_nn (-i) w (by omega) (by omega)
    have hng := neg_word (-i).toNat (by omega)
    generalize (-i).toNat = n at *
    have HF := Lib.hid hfn
    clear hfn hw
    go_enter Try.func31, Try.ntmps31
    go_wp2_with (go_at_call 31; refine (HF.out _).mono ?_; rintro e w' ⟨rfl, rfl⟩)
    go_ret
    exact ⟨rfl, rfl⟩
  · have hw : wordAt i = i.toNat := if_neg h
    rw [hw]
    exact float_nn i w (by omega) hb

/-- What FloatAt hands back. -/
def atRes (i : Int) : Value := if -2139095040 < i ∧ i < 2139095040 then .tuple #[.float .f32 (wordAt i), .int .i64 0] else .tuple #[.float .f32 0, .int .i64 2]

theorem run_frombits (b : Nat) (w : World) : (callFunc 27 #[.int .u32 b]).run Try.prog w = .ok (.value (.float .f32 b)) w := by
  rw [run_callFunc_extern (e := Extern.MathFloatBits.float32frombits) Try.func27 (by kernel_rfl) (by kernel_rfl) (by kernel_rfl) (by kernel_rfl)]
  rfl

theorem run_frombits_int (i : Int) (h : 0 ≤ i) (w : World) : (callFunc 27 #[.int .u32 i]).run Try.prog w = .ok (.value (.float .f32 i.toNat)) w := by
  have := run_frombits i.toNat w
  rw [show ((i.toNat : Nat) : Int) = i by omega] at this
  exact this

theorem implFloatAt (i : Int) (w : World) (h1 : -9223372036854775808 ≤ i) (h2 : i ≤ 9223372036854775807) :
    Calls Try.prog 10 #[.int .i64 i] w fun e w' => e = .returned (atRes i) ∧ w = w' := by
  unfold atRes
  by_cases hr : -2139095040 < i ∧ i < 2139095040
  · rw [if_pos hr]
    obtain ⟨g1, g2⟩ := hr
    by_cases h : i < 0
    · have hw : wordAt i = 2147483648 + (-i).toNat := if_pos h
      rw [hw]
      have hfb := run_frombits_int (-i) (by omega)
      have hng := neg_word (-i).toNat (by omega)
      generalize (-i).toNat = n at *
      clear hw h1 h2
      go_enter Try.func10, Try.ntmps10
      go_wp2
      go_ret2
      exact ⟨rfl, rfl⟩
    · have hw : wordAt i = i.toNat := if_neg h
      rw [hw]
      have hfb := run_frombits_int i (by omega)
      generalize i.toNat = n at *
      clear hw h1 h2
      go_enter Try.func10, Try.ntmps10
      go_wp2
      go_ret2
      exact ⟨rfl, rfl⟩
  · rw [if_neg hr]
    have hr2 : i < -2139095039 ∨ 2139095039 < i := by omega
    clear hr
    rcases hr2 with g | g
    all_goals
      go_enter Try.func10, Try.ntmps10
      go_wp2
      go_ret2
      exact ⟨rfl, rfl⟩

theorem in_any (i a b : Int) (w : World) :
    Calls Try.prog 30 #[.int .i64 i, .int .i64 a, .int .i64 b] w fun e w' => e = .returned (.bool (decide (a ≤ i ∧ i ≤ b))) ∧ w = w' := by
  by_cases h1 : a ≤ i
  · by_cases h2 : i ≤ b
    · have hd : decide (a ≤ i ∧ i ≤ b) = true := decide_eq_true ⟨h1, h2⟩
      rw [hd]
      clear hd
      go_enter Try.func30, Try.ntmps30
      go_wp2
      go_ret
      exact ⟨rfl, rfl⟩
    · have hd : decide (a ≤ i ∧ i ≤ b) = false := decide_eq_false (fun h => h2 h.2)
      rw [hd]
      clear hd
      have h2' : decide (i ≤ b) = false := decide_eq_false h2
      clear h2
      go_enter Try.func30, Try.ntmps30
      go_wp2
      go_ret
      exact ⟨rfl, rfl⟩
  · have hd : decide (a ≤ i ∧ i ≤ b) = false := decide_eq_false (fun h => h1 h.1)
    rw [hd]
    have h1' : i < a := by omega
    clear hd h1
    go_enter Try.func30, Try.ntmps30
    go_wp2
    go_ret
    exact ⟨rfl, rfl⟩

theorem specFloatAt (i : Int) (w : World) :
    Calls Try.prog 12 #[.int .i64 i] w fun e w' => e = .returned (atRes i) ∧ w = w' := by
  have hin := fun w => in_any i (-2139095039) 2139095039 w
  unfold atRes
  by_cases hr : -2139095040 < i ∧ i < 2139095040
  · rw [if_pos hr]
    have hd : decide (-2139095039 ≤ i ∧ i ≤ 2139095039) = true := decide_eq_true (by omega)
    rw [hd] at hin
    have HI := Lib.hid hin
    have HF := Lib.hid (fun w => float_any i w hr.1 hr.2)
    clear hin hd hr
    go_enter Try.func12, Try.ntmps12
    go_wp2_with (first | (go_at_call 30; refine (HI.out _).mono ?_; rintro e w' ⟨rfl, rfl⟩) | (go_at_call 31; refine (HF.out _).mono ?_; rintro e w' ⟨rfl, rfl⟩))
    go_ret2
    exact ⟨rfl, rfl⟩
  · rw [if_neg hr]
    have hd : decide (-2139095039 ≤ i ∧ i ≤ 2139095039) = false := decide_eq_false (by omega)
    rw [hd] at hin
    have HI := Lib.hid hin
    clear hin hd hr
    go_enter Try.func12, Try.ntmps12
    go_wp2_with (go_at_call 30; refine (HI.out _).mono ?_; rintro e w' ⟨rfl, rfl⟩)
    go_ret2
    exact ⟨rfl, rfl⟩

theorem i64_bounds {a : Int} (h : (Lit.int .i64 a).wf = true) : -9223372036854775808 ≤ a ∧ a ≤ 9223372036854775807 := by
  have h1 : IntKind.i64.min = -9223372036854775808 := by decide +kernel
  have h2 : IntKind.i64.max = 9223372036854775807 := by decide +kernel
  simp only [Lit.wf, Bool.and_eq_true, decide_eq_true_eq, h1, h2] at h
  exact h
end Go.Proofs.Ytffilcmcjelajaa
