/- Rounding to a float: how near what comes out is to what was asked, by the order of rungs alone. Walks: powers of two. Walks: numbers by their bits, finite numbers. -/
import Derived.Test.YtaghfffbhgpalaaBd
import Derived.Test.YtaghfffbhgpalaaWA
namespace Go.Proofs.Ytaghfffbhgpalaa
open Go.RowKit

/-- A number of a format that stands where another number was rounded to: within a 1024th, or one least unit. -/
theorem core (f : Ieee.Format) (hf : 2 ≤ f.exponentBits) (hfb : 11 ≤ f.fractionBits) (m n : Nat) (p e b : Int) (hn : Flt.Fit f n e) (hr : Flt.rung f m p = Flt.rung f n e) (hb1 : b ≤ p) (hb2 : b ≤ e) (hb3 : b ≤ f.leastPlace) (ht : b ≤ Flt.top f + 1)
    (hM : m * 2 ^ (p - b).toNat < 2 ^ (Flt.top f + 1 - b).toNat) :
    n * 2 ^ (e - b).toNat * 1024 ≤ m * 2 ^ (p - b).toNat * 1024 + m * 2 ^ (p - b).toNat + 1024 * 2 ^ (f.leastPlace - b).toNat ∧
    m * 2 ^ (p - b).toNat * 1024 ≤ n * 2 ^ (e - b).toNat * 1024 + m * 2 ^ (p - b).toNat + 1024 * 2 ^ (f.leastPlace - b).toNat := by
  by_cases h0 : m = 0
  · subst h0
    have hz : Flt.Fit f 0 f.leastPlace := ⟨Nat.two_pow_pos _, Int.le_refl _, .inl rfl⟩
    have := le_of_rung f hf n 0 e f.leastPlace b hn hz hb2 hb3 (by rw [Flt.rung_zero, ← hr, Flt.rung_zero]; exact Nat.le_refl _)
    simp only [Nat.zero_mul] at this ⊢
    omega
  have hM0 : m * 2 ^ (p - b).toNat ≠ 0 := Nat.mul_ne_zero h0 (Nat.ne_of_gt (Nat.two_pow_pos _))
  obtain ⟨M, hMe⟩ : ∃ M, M = m * 2 ^ (p - b).toNat := ⟨_, rfl⟩
  obtain ⟨u, hu⟩ : ∃ u, u = (f.leastPlace - b).toNat := ⟨_, rfl⟩
  obtain ⟨j, hj⟩ : ∃ j, j = max u (M.log2 - 10) := ⟨_, rfl⟩
  rw [← hMe] at hM hM0 ⊢
  rw [← hu]
  have l1 := Nat.log2_self_le hM0
  have l2 := Nat.lt_log2_self (n := M)
  have hjp := Nat.two_pow_pos j
  have hUj : 2 ^ u ≤ 2 ^ j := Nat.pow_le_pow_right (by omega) (by omega)
  have hstep : 1024 * 2 ^ j ≤ M + 1024 * 2 ^ u := by
    rcases Nat.le_total (M.log2 - 10) u with h | h
    · have : j = u := by omega
      rw [this]; omega
    · by_cases h' : M.log2 < 10
      · have : j = u := by omega
        rw [this]; omega
      · have e1 : M.log2 = j + 10 := by omega
        have e2 : 2 ^ M.log2 = 2 ^ j * 1024 := by rw [e1, Nat.pow_add]
        omega
  obtain ⟨g, hg⟩ : ∃ g, g = M / 2 ^ j := ⟨_, rfl⟩
  have g1 : g * 2 ^ j ≤ M := by rw [hg]; exact Nat.div_mul_le_self _ _
  have g2 : M < (g + 1) * 2 ^ j := by
    rw [hg]
    have := Nat.div_add_mod M (2 ^ j)
    have := Nat.mod_lt M hjp
    rw [Nat.add_mul, Nat.mul_comm (M / 2 ^ j)]
    omega
  have g3 : g < 2048 := by
    rw [hg]
    apply Nat.div_lt_of_lt_mul
    have : 2 ^ (M.log2 + 1) ≤ 2 ^ j * 2 ^ 11 := by rw [← Nat.pow_add]; exact Nat.pow_le_pow_right (by omega) (by omega)
    have e : (2 : Nat) ^ 11 = 2048 := by decide
    rw [e] at this
    omega
  have hb12 : 4096 ≤ 2 ^ (f.fractionBits + 1) := by
    have : (2 : Nat) ^ 12 ≤ 2 ^ (f.fractionBits + 1) := Nat.pow_le_pow_right (by omega) (by omega)
    have e : (2 : Nat) ^ 12 = 4096 := by decide
    omega
  obtain ⟨J, hJ⟩ : ∃ J : Int, J = j + b := ⟨_, rfl⟩
  have hJt : (J - b).toNat = j := by omega
  have hJl : f.leastPlace ≤ J := by omega
  have fit_of : ∀ x : Nat, x ≤ 2048 → x * 2 ^ j < 2 ^ (Flt.top f + 1 - b).toNat → Flt.Fit f x J := by
    intro x hx hlt
    refine ⟨by omega, hJl, ?_⟩
    by_cases hx0 : x = 0
    · exact .inl hx0
    · right
      have a1 := Nat.log2_self_le hx0
      have a2 : 2 ^ (x.log2 + j) < 2 ^ (Flt.top f + 1 - b).toNat := by
        rw [Nat.pow_add]
        exact Nat.lt_of_le_of_lt (Nat.mul_le_mul_right _ a1) hlt
      have a3 := (Nat.pow_lt_pow_iff_right (a := 2) (by omega)).1 a2
      omega
  have hlow : g * 2 ^ j ≤ n * 2 ^ (e - b).toNat := by
    have := le_of_rung f hf g n J e b (fit_of g (by omega) (by omega)) hn (by omega) hb2 (by
      rw [← hr]
      refine Flt.rung_mono f g m J p b (by omega) hb1 ?_
      rw [hJt, ← hMe]
      exact g1)
    rwa [hJt] at this
  have hup : n * 2 ^ (e - b).toNat ≤ (g + 1) * 2 ^ j := by
    rcases Nat.lt_or_ge ((g + 1) * 2 ^ j) (2 ^ (Flt.top f + 1 - b).toNat) with h | h
    · have := le_of_rung f hf n (g + 1) e J b hn (fit_of (g + 1) (by omega) h) hb2 (by omega) (by
        rw [← hr]
        refine Flt.rung_mono f m (g + 1) p J b hb1 (by omega) ?_
        rw [hJt, ← hMe]
        exact Nat.le_of_lt g2)
      rwa [hJt] at this
    · refine Nat.le_trans (Nat.le_of_lt ?_) h
      rcases hn.2.2 with h1 | h1
      · rw [h1, Nat.zero_mul]; exact Nat.two_pow_pos _
      · have a2 := Nat.lt_log2_self (n := n)
        calc n * 2 ^ (e - b).toNat < 2 ^ (n.log2 + 1) * 2 ^ (e - b).toNat := Nat.mul_lt_mul_of_pos_right a2 (Nat.two_pow_pos _)
          _ = 2 ^ (n.log2 + 1 + (e - b).toNat) := (Nat.pow_add ..).symm
          _ ≤ 2 ^ (Flt.top f + 1 - b).toNat := Nat.pow_le_pow_right (by omega) (by omega)
  have hs : (g + 1) * 2 ^ j = g * 2 ^ j + 2 ^ j := by rw [Nat.add_mul, Nat.one_mul]
  generalize n * 2 ^ (e - b).toNat = N at *
  generalize g * 2 ^ j = G at *
  generalize 2 ^ j = s at *
  generalize 2 ^ u = U at *
  omega

end Go.Proofs.Ytaghfffbhgpalaa

namespace Go.Proofs.Ytaghfffbhgpalaa
open Go.RowKit

end Go.Proofs.Ytaghfffbhgpalaa

namespace Go.Proofs.Ytaghfffbhgpalaa
open Go.RowKit

theorem run_f32bits (b : Nat) (w : World) : (callFunc 55 #[.float .f32 b]).run Try.prog w = .ok (.value (.int .u32 b)) w := by
  rw [run_callFunc_extern (e := Extern.MathFloatBits.float32bits) Try.func55 (by kernel_rfl) (by kernel_rfl) (by kernel_rfl) (by kernel_rfl)]
  rfl

theorem andNot_sign (x : Nat) (hx : x < 4294967296) : bits .andNot .u32 (x : Int) 2147483648 = (mag x : Int) := by
  have h := Go.u32_andNot_nat x 2147483648 hx (by omega)
  rw [show ((2147483648 : Nat) : Int) = 2147483648 from rfl] at h
  rw [h, show (4294967295 - 2147483648 : Nat) = 2 ^ 31 - 1 from rfl, Nat.and_two_pow_sub_one_eq_mod]; rfl

/-- The bits of a float32 without its sign. -/
theorem bits_any (x : Nat) (w : World) (hx : x < 4294967296) :
    Calls Try.prog 42 #[.float .f32 x] w fun e w' => e = .returned (.int .i64 (mag x)) ∧ w = w' := by
  have hr := run_f32bits x
  have hb := andNot_sign x hx
  have hm := mag_lt x
  go_enter Try.func42, Try.ntmps42
  go_wp2
  go_ret
  exact ⟨rfl, rfl⟩

theorem isNumber_any (x : Nat) (w : World) (hx : x < 4294967296) :
    Calls Try.prog 26 #[.float .f32 x] w fun e w' => e = .returned (.bool (fin x)) ∧ w = w' := by
  have hd : decide ((mag x : Int) ≤ 2139095039) = fin x := by
    unfold fin; exact decide_eq_decide.2 (by omega)
  go_enter Try.func26, Try.ntmps26
  go_wp2_with (go_at_call 42; refine (bits_any _ _ hx).mono ?_; rintro e w' ⟨rfl, rfl⟩)
  go_ret
  exact ⟨rfl, rfl⟩


/-- 'x - x == 0' of a finite one. -/
theorem fine_yes (x : Nat) (w : World) (hx : x < 4294967296) (h : fin x = true) :
    Calls Try.prog 22 #[.float .f32 x] w fun e w' => e = .returned (.bool true) ∧ w = w' := by
  have hs := less_self x hx h
  have hop : ∀ t w, (binOp .sub t (.float .f32 x) (.float .f32 x)).run Try.prog w = .ok (.float .f32 0) w := fun t w => run_float_arith w .sub t .f32 _ _ _ hs
  have ho : (FloatKind.f32.format.order 0 0 == some .eq) = true := by decide +kernel
  go_enter Try.func22, Try.ntmps22
  go_wp2_with (simp only [hop])
  go_ret
  exact ⟨rfl, rfl⟩

theorem fine_no (x : Nat) (w : World) (hx : x < 4294967296) (h : fin x = false) :
    Calls Try.prog 22 #[.float .f32 x] w fun e w' => e = .returned (.bool false) ∧ w.drewN 1 = w' := by
  obtain ⟨b, hn, hop⟩ := run_float_nan (P := Try.prog) w .sub 22 .f32 x x (.inr (.inl rfl)) (less_none x hx h)
  have ho : (FloatKind.f32.format.order b 0 == some .eq) = false := by rw [nan_order hn]; rfl
  clear hn
  go_enter Try.func22, Try.ntmps22
  go_wp2_with (simp only [hop])
  go_ret
  exact ⟨rfl, rfl⟩

end Go.Proofs.Ytaghfffbhgpalaa
