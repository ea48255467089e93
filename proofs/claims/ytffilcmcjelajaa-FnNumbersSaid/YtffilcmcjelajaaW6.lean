/- Walks: RootOf of both sides at any float32, and the numbers beside a root. -/
import Derived.Test.YtffilcmcjelajaaW5
namespace Go.Proofs.Ytffilcmcjelajaa
open Go.RowKit

theorem specRoot (s : Bool) (m : Nat) (p : Int) (w : World) (hx : S s m p < 4294967296) (hfin : fin (S s m p) = true) (hm : m < 16777216) (h1 : -149 ≤ p) (h2 : p ≤ 104) (hf : Flt.Fit Ieee.single m p) (hs : s = true → m = 0) :
    Calls Try.prog 15 #[.float .f32 (S s m p)] w fun e w' => e = .returned (.tuple #[.float .f32 (if m = 0 then 0 else rootBits s m p), .int .i64 0]) ∧ w = w' := by
  have hl : (FloatKind.f32.format.order (S s m p) 0 == some .lt) = false := by
    have := less0_S s m p hf
    unfold less0 at this
    rw [this]
    cases s
    · rfl
    · simp [hs rfl]
  have hr : ∀ w, Calls Try.prog 33 #[.float .f32 (S s m p)] w fun e w' => e = .returned (.float .f32 (if m = 0 then 0 else rootBits s m p)) ∧ w = w' := by
    intro w
    by_cases h0 : m = 0
    · rw [if_pos h0]
      have hz : (FloatKind.f32.format.order (S s m p) 0 == some .eq) = true := by
        rw [ord0S s m p hf, cmp_eq (by subst h0; cases s <;> rfl)]; rfl
      clear hl hs
      generalize S s m p = x at *
      go_enter Try.func33, Try.ntmps33
      go_wp2_with fail
      go_ret
      exact ⟨rfl, rfl⟩
    · rw [if_neg h0]
      cases s
      · unfold rootBits
        rw [if_neg h0]
        exact root_pos m p w h0 hm h1 h2 hf
      · exact absurd (hs rfl) h0
  have HF := Lib.hid (fun w => fine_yes (S s m p) w hx hfin)
  have HR := Lib.hid hr
  clear hr hfin hs
  generalize S s m p = x at *
  generalize (if m = 0 then 0 else rootBits s m p) = r at *
  go_enter Try.func15, Try.ntmps15
  go_wp2_with (first | (go_at_call 25; refine (HF.out _).mono ?_; rintro e w' ⟨rfl, rfl⟩) | (go_at_call 33; refine (HR.out _).mono ?_; rintro e w' ⟨rfl, rfl⟩))
  go_ret2
  exact ⟨rfl, rfl⟩

/-- Where there is no root: what is no number, or is below 0. -/
theorem noRoot (x : Nat) (hx : x < 4294967296) (h : fin x = false ∨ less0 x = true) : ∃ code : Int, (code = 1 ∨ code = 2) ∧
    (∀ w, Calls Try.prog 14 #[.float .f32 x] w fun e w' => e = .returned (.tuple #[.float .f32 0, .int .i64 code]) ∧ w = w') ∧
    (∀ w, Calls Try.prog 15 #[.float .f32 x] w fun e w' => e = .returned (.tuple #[.float .f32 0, .int .i64 code]) ∧ ∃ n, w.drewN n = w') := by
  have hn := fun w => isNumber_any x w hx
  cases hfin : fin x
  · refine ⟨1, .inl rfl, ?_, ?_⟩
    · intro w
      rw [hfin] at hn
      have HN := Lib.hid hn
      clear hn hfin h
      go_enter Try.func14, Try.ntmps14
      go_wp2_with (go_at_call 23; refine (HN.out _).mono ?_; rintro e w' ⟨rfl, rfl⟩)
      go_ret2
      exact ⟨rfl, rfl⟩
    · intro w
      have HF := Lib.hid (fun w => fine_no x w hx hfin)
      clear hn hfin h
      go_enter Try.func15, Try.ntmps15
      go_wp2_with (go_at_call 25; refine (HF.out _).mono ?_; rintro e w' ⟨rfl, rfl⟩)
      go_ret2
      exact ⟨rfl, 1, rfl⟩
  · have hl : (FloatKind.f32.format.order x 0 == some .lt) = true := by
      rcases h with h | h
      · rw [hfin] at h; cases h
      · exact h
    clear h
    refine ⟨2, .inr rfl, ?_, ?_⟩
    · intro w
      rw [hfin] at hn
      have HN := Lib.hid hn
      clear hn hfin
      go_enter Try.func14, Try.ntmps14
      go_wp2_with (go_at_call 23; refine (HN.out _).mono ?_; rintro e w' ⟨rfl, rfl⟩)
      go_ret2
      exact ⟨rfl, rfl⟩
    · intro w
      have HF := Lib.hid (fun w => fine_yes x w hx hfin)
      clear hn hfin
      go_enter Try.func15, Try.ntmps15
      go_wp2_with (go_at_call 25; refine (HF.out _).mono ?_; rintro e w' ⟨rfl, rfl⟩)
      go_ret2
      exact ⟨rfl, 0, rfl⟩

/-- A float32's word between two binades, as its digits. -/
theorem word_at (n : Nat) (h1 : 8388608 ≤ n) (h2 : n < 2139095040) : ∃ (m : Nat) (p : Int), n = S false m p ∧ Flt.Fit Ieee.single m p ∧ 8388608 ≤ m ∧ m < 16777216 ∧ (n : Int) = (p + 149) * 8388608 + m := by
  obtain ⟨s, m, p, he, hf, hc⟩ := fin_cases n (by omega) (decide_eq_true (by unfold mag; omega))
  have hmag : mag n = n := by unfold mag; omega
  rw [hmag] at hc
  have hs : s = false := by
    have hl := less0_S s m p hf
    rw [← he] at hl
    cases s
    · rfl
    · exfalso
      have hw : Ieee.single.read n = .number true m p ∨ True := .inr trivial
      have hm : m ≠ 0 := by omega
      have e1 : S true m p = 2147483648 + S false m p := by
        obtain ⟨r, hr, h⟩ := Flt.nearest_rung Ieee.single m p
        unfold S; rw [h, h]; rfl
      omega
  subst hs
  refine ⟨m, p, he, hf, ?_⟩
  omega

theorem D_shl (m k : Nat) (p : Int) : D false (m * 2 ^ k) p = D false m (p + k) := Flt.nearest_shl Ieee.double false m k p
theorem S_shl (m k : Nat) (p : Int) : S false (m * 2 ^ k) p = S false m (p + k) := Flt.nearest_shl Ieee.single false m k p

/-- The word of 24 digits at a scale. -/
theorem own_word (m : Nat) (j : Int) (hm1 : 8388608 ≤ m) (hm2 : m < 16777216) (hj1 : -149 ≤ j) (hj2 : j ≤ 104) : ∃ n : Nat, S false m j = n ∧ (n : Int) = (j + 149) * 8388608 + m := by
  obtain ⟨i, hi⟩ : ∃ i : Nat, j + 149 = i := ⟨(j + 149).toNat, by omega⟩
  have hlt : i * 8388608 + m < 2139095040 := by omega
  obtain ⟨_, h⟩ := S_place (i * 8388608 + m) hlt
  have h := (h (by omega)).2
  have a1 : 8388608 + (i * 8388608 + m) % 8388608 = m := by omega
  have a2 : ((i * 8388608 + m : Nat) : Int) / 8388608 - 150 = j := by omega
  rw [a1, a2] at h
  exact ⟨i * 8388608 + m, h, by omega⟩

/-- The numbers beside a root of 25 digits, made wide. -/
theorem beside (R : Nat) (k : Int) (hR : R % 2 = 0) (hR1 : 2 ^ 24 ≤ R) (hR2 : R ≤ 2 ^ 25) (hk1 : -60 ≤ k) (hk2 : k ≤ 99) :
    ∃ n : Nat, S false R (-k) = n ∧ 8388608 < n ∧ n + 1 < 2139095040 ∧ floatToFloatBits .f32 n .f64 = some (D false (2 * R) (-k - 1)) ∧
      (∃ L, floatToFloatBits .f32 (n - 1) .f64 = some (D false L (-k - 1)) ∧ (L + 4 = 2 * R ∨ (L + 2 = 2 * R ∧ R = 16777216))) ∧
      (∃ H, floatToFloatBits .f32 (n + 1) .f64 = some (D false H (-k - 1)) ∧ (H = 2 * R + 4 ∨ H = 2 * R + 8)) := by
  have e24 : (2 : Nat) ^ 24 = 16777216 := by decide
  have e25 : (2 : Nat) ^ 25 = 33554432 := by decide
  have e23 : (2 : Nat) ^ 23 = 8388608 := by decide
  obtain ⟨m, j, hf, he, hc⟩ := Flt.fit_even R k hR hR1 hR2 hk1 (by omega)
  have hm1 : 8388608 ≤ m ∧ m < 16777216 ∧ -98 ≤ j ∧ j ≤ 62 := by omega
  obtain ⟨hm1, hm2, hj1, hj2⟩ := hm1
  obtain ⟨n, hn, hni⟩ := own_word m j hm1 hm2 (by omega) (by omega)
  have hself : floatToFloatBits .f32 n .f64 = some (D false (2 * R) (-k - 1)) := by
    have := widen (s := false) hf
    rw [hn] at this
    rw [this]
    refine congrArg some ?_
    rcases hc with ⟨a, b, c⟩ | ⟨a, b, c⟩
    · have := D_shl m 2 (-k - 1)
      rw [show m * 2 ^ 2 = 2 * R by omega] at this
      rw [this]; exact congrArg (D false m) (by omega)
    · have := D_shl m 3 (-k - 1)
      rw [show m * 2 ^ 3 = 2 * R by omega] at this
      rw [this]; exact congrArg (D false m) (by omega)
  refine ⟨n, by rw [← hn]; exact he, by omega, by omega, hself, ?_, ?_⟩
  · obtain ⟨m', j', he', hf', g1, g2, g3⟩ := word_at (n - 1) (by omega) (by omega)
    have hwd := widen (s := false) hf'
    rw [← he'] at hwd
    have hcase : (j' = j ∧ m' + 1 = m) ∨ (j' = j - 1 ∧ m' = 16777215 ∧ m = 8388608) := by omega
    rcases hcase with ⟨c1, c2⟩ | ⟨c1, c2, c3⟩
    · rcases hc with ⟨a, b, c⟩ | ⟨a, b, c⟩
      · refine ⟨m' * 2 ^ 2, ?_, .inl (by omega)⟩
        rw [hwd, D_shl]; exact congrArg (fun q => some (D false m' q)) (by omega)
      · omega
    · rcases hc with ⟨a, b, c⟩ | ⟨a, b, c⟩
      · refine ⟨m' * 2 ^ 1, ?_, .inr (by omega)⟩
        rw [hwd, D_shl]; exact congrArg (fun q => some (D false m' q)) (by omega)
      · refine ⟨m' * 2 ^ 2, ?_, .inl (by omega)⟩
        rw [hwd, D_shl]; exact congrArg (fun q => some (D false m' q)) (by omega)
  · obtain ⟨m', j', he', hf', g1, g2, g3⟩ := word_at (n + 1) (by omega) (by omega)
    have hwd := widen (s := false) hf'
    rw [← he'] at hwd
    have hcase : (j' = j ∧ m' = m + 1) ∨ (j' = j + 1 ∧ m' = 8388608 ∧ m = 16777215) := by omega
    rcases hcase with ⟨c1, c2⟩ | ⟨c1, c2, c3⟩
    · rcases hc with ⟨a, b, c⟩ | ⟨a, b, c⟩
      · refine ⟨m' * 2 ^ 2, ?_, .inl (by omega)⟩
        rw [hwd, D_shl]; exact congrArg (fun q => some (D false m' q)) (by omega)
      · refine ⟨m' * 2 ^ 3, ?_, .inr (by omega)⟩
        rw [hwd, D_shl]; exact congrArg (fun q => some (D false m' q)) (by omega)
    · rcases hc with ⟨a, b, c⟩ | ⟨a, b, c⟩
      · refine ⟨m' * 2 ^ 3, ?_, .inl (by omega)⟩
        rw [hwd, D_shl]; exact congrArg (fun q => some (D false m' q)) (by omega)
      · omega
end Go.Proofs.Ytffilcmcjelajaa
