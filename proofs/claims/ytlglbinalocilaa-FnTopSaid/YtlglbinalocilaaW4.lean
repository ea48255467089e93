/- Walks: the root of a float32, by the specification's digits and by the program's float64. -/
import Derived.Test.YtlglbinalocilaaF3
import Derived.Test.YtlglbinalocilaaRoot
import Derived.Lib.Hide
namespace Go.Proofs.Ytlglbinalocilaa
open Go.RowKit

theorem pow50 : (2 : Nat) ^ 50 = 1125899906842624 := by decide
theorem pow24 : (2 : Nat) ^ 24 = 16777216 := by decide

theorem D_four : (4616189618054758400 : Nat) = D false 1 2 := by decide +kernel

/-- A number against a power of two, by its digits. -/
theorem ordLog (m : Nat) (p j : Int) (hm : m ≠ 0) (h : Flt.Fit Ieee.double m p) (h1 : -1074 ≤ j) (h2 : j ≤ 1023) :
    (p + m.log2 < j → FloatKind.f64.format.order (D false m p) (D false 1 j) = some .lt) ∧
    (j ≤ p + m.log2 → (FloatKind.f64.format.order (D false m p) (D false 1 j) == some .lt) = false ∧ (FloatKind.f64.format.order (D false m p) (D false 1 j) == some .gt || FloatKind.f64.format.order (D false m p) (D false 1 j) == some .eq) = true) := by
  have hlo := Nat.log2_self_le hm
  have hhi := Nat.lt_log2_self (n := m)
  obtain ⟨b, hb⟩ : ∃ b, b = min p j := ⟨_, rfl⟩
  have ho := ordPow m p j b h h1 h2 (by omega) (by omega)
  have hlo' : (2 : Int) ^ m.log2 ≤ m := by exact_mod_cast hlo
  have hhi' : (m : Int) < 2 ^ (m.log2 + 1) := by exact_mod_cast hhi
  have hpp : (0 : Int) < 2 ^ (p - b).toNat := Int.pow_pos (by omega)
  constructor
  · intro hl
    rw [ho, cmp_lt]
    have e1 : (m : Int) * 2 ^ (p - b).toNat < 2 ^ (m.log2 + 1) * 2 ^ (p - b).toNat := Int.mul_lt_mul_of_pos_right hhi' hpp
    rw [← Int.pow_add] at e1
    have e2 : (2 : Int) ^ (m.log2 + 1 + (p - b).toNat) ≤ 2 ^ (j - b).toNat := by
      exact_mod_cast Nat.pow_le_pow_right (n := 2) (by omega) (show m.log2 + 1 + (p - b).toNat ≤ (j - b).toNat by omega)
    omega
  · intro hl
    have e1 : (2 : Int) ^ m.log2 * 2 ^ (p - b).toNat ≤ (m : Int) * 2 ^ (p - b).toNat := Int.mul_le_mul_of_nonneg_right hlo' (Int.le_of_lt hpp)
    rw [← Int.pow_add] at e1
    have e2 : (2 : Int) ^ (j - b).toNat ≤ 2 ^ (m.log2 + (p - b).toNat) := by
      exact_mod_cast Nat.pow_le_pow_right (n := 2) (by omega) (show (j - b).toNat ≤ m.log2 + (p - b).toNat by omega)
    have e3 := Int.le_trans e2 e1
    rw [ho]
    rcases Int.lt_or_eq_of_le e3 with g | g
    · rw [cmp_gt g]; exact ⟨rfl, rfl⟩
    · rw [cmp_eq g.symm]; exact ⟨rfl, rfl⟩


theorem conv_int (m : Nat) (j N : Nat) (hN : N = m * 2 ^ j) (hb : N < 1125899906842624) (w : World) :
    (convert 83 2 (.float .f64 (D false m (j : Int)))).run Try.prog w = .ok (.int .i64 (N : Int)) w := by
  have e : D false m (j : Int) = D false N 0 := by
    unfold D
    have := Flt.nearest_shl Ieee.double false m j 0
    rw [Int.zero_add] at this
    rw [hN, this]
  rw [e]
  exact run_to_int w 83 2 N (by rw [Try.underlying83]; rfl) Try.underlying2 (fitD N 0 50 (by omega) (by have := pow50; omega) (by omega) (by omega)) (by omega)

theorem quad (m : Nat) (p : Int) (hm : m < 16777216) (h1 : -1000 ≤ p) (h2 : p ≤ 900) (t : TypeId) (w : World) :
    (binOp .mul t (.float .f64 (D false m p)) (.float .f64 4616189618054758400)).run Try.prog w = .ok (.float .f64 (D false m (p + 2))) w := run_float_arith w .mul t .f64 _ _ _ (by
      rw [D_four]
      have := Flt.mul_fit Ieee.double (by decide) false false m 1 p 2 (fitD m p 24 (by omega) (by omega) (by omega) (by omega)) (fitD_one 2 (by omega) (by omega))
      rw [Nat.mul_one] at this
      exact this)

theorem quart (m : Nat) (p : Int) (hm : m < 16777216) (h1 : -1000 ≤ p) (h2 : p ≤ 900) (t : TypeId) (w : World) :
    (binOp .quo t (.float .f64 (D false m p)) (.float .f64 4616189618054758400)).run Try.prog w = .ok (.float .f64 (D false m (p - 2))) w := run_float_arith w .quo t .f64 _ _ _ (by
      rw [D_four]
      exact Flt.div_pow Ieee.double (by decide) false false m p 2 (fitD m p 24 (by omega) (by omega) (by omega) (by omega)) (fitD_one 2 (by omega) (by omega)))

/-- The float32 of an even number of 25 digits at a scale. -/
theorem conv_root (R : Nat) (k : Int) (hR : R % 2 = 0) (hR1 : 2 ^ 24 ≤ R) (hR2 : R ≤ 2 ^ 25) (hk1 : -60 ≤ k) (hk2 : k ≤ 120) (w : World) :
    (convert 83 38 (.float .f64 (D false R (-k)))).run Try.prog w = .ok (.float .f32 (S false R (-k))) w := by
  obtain ⟨n, j, hf, he, _⟩ := Flt.fit_even R k hR hR1 hR2 hk1 hk2
  have e26 : (2 : Nat) ^ 26 = 67108864 := by decide
  have e25 : (2 : Nat) ^ 25 = 33554432 := by decide
  have := Flt.narrow_any (fitD R (-k) 26 (by omega) (by omega) (by omega) (by omega)) hf he
  rw [← he] at this
  exact run_convert_float_float (P := Try.prog) w 83 38 .f64 .f32 _ _ (by rw [Try.underlying83]; rfl) Try.underlying38 this

set_option maxHeartbeats 1000000 in
/-- The specification's root of a number above 0. -/
theorem root_pos (m : Nat) (p : Int) (w : World) (hm0 : m ≠ 0) (hm : m < 16777216) (h1 : -149 ≤ p) (h2 : p ≤ 104) (hf : Flt.Fit Ieee.single m p) :
    Calls Try.prog 43 #[.float .f32 (S false m p)] w fun e w' => e = .returned (.float .f32 (S false (Flt.rR m p) (-Flt.rk m p))) ∧ w = w' := by
  have hconv : ∀ w, (convert 38 83 (.float .f32 (S false m p))).run Try.prog w = .ok (.float .f64 (D false m p)) w := fun w => run_convert_float_float w 38 83 .f32 .f64 _ _ (by rw [Try.underlying38]; rfl) Try.underlying83 (widen hf)
  have hz : (FloatKind.f32.format.order (S false m p) 0 == some .eq) = false := by
    rw [ord0S false m p hf, cmp_gt (by show (0 : Int) < m; omega)]; rfl
  obtain ⟨k1, k2, k3, k4⟩ := Flt.rk_facts m p hm0 hm h1 h2
  obtain ⟨n1, n2, n3⟩ := Flt.rN_facts m p hm0 hm h1 h2
  have hNd : Flt.rN m p = m * 2 ^ (p + 2 * Flt.rk m p).toNat := rfl
  have hRd : Flt.rR m p = Flt.isqrt (Flt.rN m p) + Flt.isqrt (Flt.rN m p) % 2 := rfl
  have hlg : m.log2 < 24 := Flt.log2_lt m 24 hm0 (by have := pow24; omega)
  have H1 := Lib.hid (fun (c j : Int) (a1 : -1000 ≤ c) (a2 : c ≤ 900) (b1 : -1074 ≤ j) (b2 : j ≤ 1023) => ordLog m c j hm0 (fitD m c 24 (by omega) (by omega) (by omega) (by omega)) b1 b2)
  have H2 := Lib.hid (fun (c : Int) (a1 : -1000 ≤ c) (a2 : c ≤ 900) => quad m c hm a1 a2)
  have H3 := Lib.hid (fun (c : Int) (a1 : -1000 ≤ c) (a2 : c ≤ 900) => quart m c hm a1 a2)
  have H4 := Lib.hid (conv_int m (p + 2 * Flt.rk m p).toNat (Flt.rN m p) hNd (by have := pow50; omega))
  have HN := Lib.hid (And.intro n1 (And.intro n2 n3))
  have HR := Lib.hid hRd
  clear n1 n2 n3 hNd hRd
  generalize Flt.rR m p = R at *
  generalize Flt.rN m p = N at *
  generalize Flt.rk m p = k at *
  generalize hlv : (m.log2 : Int) = lg at *
  have hlg0 : 0 ≤ lg := by omega
  have hlg1 : lg < 24 := by omega
  clear hlv hlg
  have K4 := Lib.hid k4
  clear k4
  go_enter Try.func43, Try.ntmps43
  go_wp2_with fail
  go_loop [3, 4] (fun y i => ∃ c : Int, y = .float .f64 (D false m (p + 2 * c)) ∧ i = .int .i64 c ∧ 0 ≤ c ∧ c ≤ 100 ∧ (c = 0 ∨ p + 2 * c + lg < 50)) (fun _ i => (48 - (p + 2 * intOf i + lg)).toNat)
  case atStart => exact ⟨0, by rw [Int.mul_zero, Int.add_zero], rfl, by omega, by omega, .inl rfl⟩
  case round =>
    obtain ⟨c, rfl, rfl, c1, c2, c3⟩ := hrel
    by_cases hlt : p + 2 * c + lg < 48
    · have hl := (H1.out (p + 2 * c) 48 (by omega) (by omega) (by omega) (by omega)).1 hlt
      have hq := H2.out (p + 2 * c) (by omega) (by omega)
      go_wp2_with (go_at_call 69; refine (two_any _ _ (by omega) (by omega)).mono ?_; rintro e w' ⟨rfl, rfl⟩)
      go_round
      case rel => exact ⟨c + 1, by rw [show p + 2 * (c + 1) = p + 2 * c + 2 by omega], by go_num, by omega, by omega, by omega⟩
      case measure => simp [intOf]; omega
    · have hl := ((H1.out (p + 2 * c) 48 (by omega) (by omega) (by omega) (by omega)).2 (by omega)).1
      go_wp2_with (go_at_call 69; refine (two_any _ _ (by omega) (by omega)).mono ?_; rintro e w' ⟨rfl, rfl⟩)
      have hc : 48 ≤ p + 2 * c + lg ∧ (c ≤ 0 ∨ p + 2 * c + lg < 50) := by omega
      go_loop [3, 4] (fun y i => ∃ c : Int, y = .float .f64 (D false m (p + 2 * c)) ∧ i = .int .i64 c ∧ -100 ≤ c ∧ c ≤ 100 ∧ 48 ≤ p + 2 * c + lg ∧ (c ≤ 0 ∨ p + 2 * c + lg < 50)) (fun _ i => (p + 2 * intOf i + lg).toNat)
      case atStart => exact ⟨c, rfl, rfl, by omega, by omega, hc⟩
      case round =>
        clear hc c1 c2 c3 hlt hl
        obtain ⟨c, rfl, rfl, c1, c2, c3, c4⟩ := hrel
        by_cases hge : 50 ≤ p + 2 * c + lg
        · have hl := ((H1.out (p + 2 * c) 50 (by omega) (by omega) (by omega) (by omega)).2 hge).2
          have hq := H3.out (p + 2 * c) (by omega) (by omega)
          go_wp2_with (go_at_call 69; refine (two_any _ _ (by omega) (by omega)).mono ?_; rintro e w' ⟨rfl, rfl⟩)
          go_round
          case rel => exact ⟨c - 1, by rw [show p + 2 * (c - 1) = p + 2 * c - 2 by omega], by go_num, by omega, by omega, by omega⟩
          case measure => simp [intOf]; omega
        · have hl := (H1.out (p + 2 * c) 50 (by omega) (by omega) (by omega) (by omega)).1 (by omega)
          have hck : c = k := by have := K4.out; omega
          subst hck
          have h4 := H4.out
          rw [show (((p + 2 * c).toNat : Nat) : Int) = p + 2 * c by omega] at h4
          obtain ⟨n, hn⟩ : ∃ n : Int, n = (N : Int) := ⟨_, rfl⟩
          rw [← hn] at h4
          have HNn := Lib.hid hn
          have hn0 : 0 ≤ n := by omega
          have hnb : n < 1125899906842624 := by have := HN.out; have := pow50; omega
          clear hn
          go_wp2_with (go_at_call 69; refine (two_any _ _ (by omega) (by omega)).mono ?_; rintro e w' ⟨rfl, rfl⟩)
          clear hl h4
          go_loop [6, 7] (fun r b => ∃ x y : Int, r = .int .i64 x ∧ b = .int .i64 y ∧ Flt.BitInv n x y) (fun _ b => (intOf b).toNat)
          case atStart => exact ⟨0, 16777216, rfl, rfl, Flt.bit_start n hn0 hnb⟩
          case round =>
            obtain ⟨x, y, rfl, rfl, hinv⟩ := hrel
            obtain ⟨x0, x1, y0, y1⟩ := Flt.bit_bounds n x y hinv hnb
            by_cases hy : 0 < y
            · obtain ⟨s0, s1⟩ := Flt.sq_bound (x + y) (by omega) (by omega)
              by_cases hc : (x + y) * (x + y) ≤ n
              · have hnext := Flt.bit_yes n x y hinv hy hc
                go_wp2_with fail
                go_round
                case rel => exact ⟨x + y, y / 2, rfl, rfl, hnext⟩
                case measure => simp [intOf]; omega
              · have hnext := Flt.bit_no n x y hinv hy (by omega)
                go_wp2_with fail
                go_round
                case rel => exact ⟨x, y / 2, rfl, rfl, hnext⟩
                case measure => simp [intOf]; omega
            · obtain rfl : y = 0 := by omega
              obtain ⟨q, hq, q1, q2⟩ := Flt.bit_end n x hinv
              have hnN : n.toNat = N := by have := HNn.out; omega
              rw [hnN] at q1 q2
              obtain ⟨n1, n2, n3⟩ := HN.out
              obtain ⟨r1, r2, r3, r4, r5, r6, r7, r8⟩ := Flt.rR_of N q n1 n2 n3 q1 q2
              have hqs : Flt.isqrt N = q := Flt.isqrt_unique N q q1 q2
              have hRq : R = q + q % 2 := by have := HR.out; rw [hqs] at this; exact this
              have e25 : (2 : Nat) ^ 25 = 33554432 := by decide
              have hci := conv_nat R
              have hmu := mul_two R (-c) (by omega) (by omega) (by omega)
              have hcr := conv_root R c (by omega) (by omega) (by omega) (by omega) (by omega)
              have hlow : x * x ≤ n := hinv.2.1
              have hhi : n < (x + 1) * (x + 1) := by
                have h := HNn.out
                rw [hq, h]; exact_mod_cast q2
              obtain ⟨s0, s1⟩ := Flt.sq_bound (x + 1) (by omega) (by omega)
              have hodd : x % 2 = 1 → x * x < n := by
                intro ho
                have h := HNn.out
                have := r8 (by omega)
                rw [hq, h]; exact_mod_cast this
              have HRq := Lib.hid (And.intro hq hRq)
              clear hq hRq hqs r1 r2 r3 r4 r5 r6 r7 r8 q1 q2 n1 n2 n3 hinv e25
              by_cases hpar : x % 2 = 0
              · have hRx : (R : Int) = x := by have := HRq.out; omega
                rw [hRx] at hci
                clear hodd hRx
                go_wp2_with (go_at_call 69; refine (two_any _ _ (by omega) (by omega)).mono ?_; rintro e w' ⟨rfl, rfl⟩)
                go_ret
                exact ⟨rfl, rfl⟩
              · have hpar1 : x % 2 = 1 := by omega
                have hRx : (R : Int) = x - 1 + 2 := by have := HRq.out; omega
                rw [hRx] at hci
                have hlt := hodd hpar1
                obtain ⟨s2, s3⟩ := Flt.sq_bound x (by omega) (by omega)
                have hw64 : wrap64 (x * x) = x * x := by unfold wrap64; omega
                clear hodd hRx hpar hlow
                go_wp2_with (go_at_call 69; refine (two_any _ _ (by omega) (by omega)).mono ?_; rintro e w' ⟨rfl, rfl⟩)
                go_ret
                exact ⟨rfl, rfl⟩

end Go.Proofs.Ytlglbinalocilaa
