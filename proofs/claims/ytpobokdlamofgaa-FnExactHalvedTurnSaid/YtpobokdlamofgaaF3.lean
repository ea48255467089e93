/- Walks: floats at places. -/
import Derived.Test.YtpobokdlamofgaaTwo
import Derived.Lib.Hide
namespace Go.Proofs.Ytpobokdlamofgaa
open Go.RowKit

theorem conv_nat (n : Nat) (w : World) : (convert 2 113 (.int .i64 (n : Int))).run Try.prog w = .ok (.float .f64 (D false n 0)) w := by
  rw [← floatOf_nat]; exact run_convert_int_float w 2 113 .i64 .f64 _ (by rw [Try.underlying2]; rfl) Try.underlying113

theorem mul_two (m : Nat) (j : Int) (hm : m < 67108864) (h1 : -1074 ≤ j) (h2 : j ≤ 1023) (t : TypeId) (w : World) :
    (binOp .mul t (.float .f64 (D false m 0)) (.float .f64 (D false 1 j))).run Try.prog w = .ok (.float .f64 (D false m j)) w := run_float_arith w .mul t .f64 _ _ _ (by
      have := Flt.mul_fit Ieee.double (by decide) false false m 1 0 j (fitD m 0 26 (by omega) (by omega) (by omega) (by omega)) (fitD_one j h1 h2)
      rw [Nat.mul_one, Int.zero_add] at this
      exact this)

theorem conv_narrow (m : Nat) (p : Int) (n : Nat) (hf : Flt.Fit Ieee.single m p) (he : S false m p = n) (w : World) :
    (convert 113 35 (.float .f64 (D false m p))).run Try.prog w = .ok (.float .f32 n) w := by
  have := run_convert_float_float (P := Try.prog) w 113 35 .f64 .f32 _ _ (by rw [Try.underlying113]; rfl) Try.underlying35 (narrow (s := false) hf)
  rw [he] at this; exact this

theorem float_low (i : Int) (w : World) (h0 : 0 ≤ i) (hb : i < 8388608) :
    Calls Try.prog 85 #[.int .i64 i] w fun e w' => e = .returned (.float .f32 i.toNat) ∧ w = w' := by
  obtain ⟨n, hn⟩ := Int.eq_ofNat_of_zero_le h0
  obtain ⟨hf, he⟩ := (S_place n (by omega)).1 (by omega)
  have hi := conv_nat n
  rw [← hn] at hi
  have hop := mul_two n (-149) (by omega) (by omega) (by omega)
  have hnar := conv_narrow n (-149) n hf he
  have ht : i.toNat = n := by omega
  rw [ht]
  clear he hf hn ht
  go_enter Try.func85, Try.ntmps85
  go_wp2_with (go_at_call 107; refine (two_any _ _ (by omega) (by omega)).mono ?_; rintro e w' ⟨rfl, rfl⟩)
  go_ret
  exact ⟨rfl, rfl⟩

theorem float_high (i : Int) (w : World) (h0 : 8388608 ≤ i) (hb : i < 2139095040) :
    Calls Try.prog 85 #[.int .i64 i] w fun e w' => e = .returned (.float .f32 i.toNat) ∧ w = w' := by
  obtain ⟨n, hn⟩ := Int.eq_ofNat_of_zero_le (show 0 ≤ i by omega)
  obtain ⟨hf, he⟩ := (S_place n (by omega)).2 (by omega)
  have hm : ((8388608 + n % 8388608 : Nat) : Int) = i % 8388608 + 8388608 := by omega
  have hmb : 8388608 + n % 8388608 < 16777216 := by omega
  have hp : (n : Int) / 8388608 - 150 = i / 8388608 - 127 - 23 := by omega
  have ht : i.toNat = n := by omega
  have hp1 : -149 ≤ i / 8388608 - 127 - 23 := by omega
  have hp2 : i / 8388608 - 127 - 23 ≤ 104 := by omega
  rw [hp] at hf he
  generalize 8388608 + n % 8388608 = m at *
  have hi := conv_nat m
  rw [hm] at hi
  have hop := mul_two m (i / 8388608 - 127 - 23) (by omega) (by omega) (by omega)
  have hnar := conv_narrow m _ n hf he
  rw [ht]
  clear he hf hn ht hm hmb hp
  go_enter Try.func85, Try.ntmps85
  go_wp2_with (go_at_call 107; refine (two_any _ _ (by omega) (by omega)).mono ?_; rintro e w' ⟨rfl, rfl⟩)
  go_ret
  exact ⟨rfl, rfl⟩

theorem float_nn (i : Int) (w : World) (h0 : 0 ≤ i) (hb : i < 2139095040) :
    Calls Try.prog 85 #[.int .i64 i] w fun e w' => e = .returned (.float .f32 i.toNat) ∧ w = w' := by
  by_cases h : i < 8388608
  · exact float_low i w h0 h
  · exact float_high i w (by omega) hb

theorem neg_word (n : Nat) (hn : n < 2147483648) (w : World) : (Op.unary .neg (.float .f32 n)).run Try.prog w = .ok (.float .f32 (2147483648 + n)) w := by
  have h := Flt.flip_word Ieee.single false n (by rw [Flt.s_sw]; exact hn)
  exact congrArg (fun b => Result.ok (Value.float .f32 b) w) h

theorem float_any (i : Int) (w : World) (h0 : -2139095040 < i) (hb : i < 2139095040) :
    Calls Try.prog 85 #[.int .i64 i] w fun e w' => e = .returned (.float .f32 (wordAt i)) ∧ w = w' := by
  by_cases h : i < 0
  · have hw : wordAt i = 2147483648 + (-i).toNat := if_pos h
    rw [hw]
    have hfn := fun w => float_nn (-i) w (by omega) (by omega)
    have hng := neg_word (-i).toNat (by omega)
    generalize (-i).toNat = n at *
    have HF := Lib.hid hfn
    clear hfn hw
    go_enter Try.func85, Try.ntmps85
    go_wp2_with (go_at_call 85; refine (HF.out _).mono ?_; rintro e w' ⟨rfl, rfl⟩)
    go_ret
    exact ⟨rfl, rfl⟩
  · have hw : wordAt i = i.toNat := if_neg h
    rw [hw]
    exact float_nn i w (by omega) hb



end Go.Proofs.Ytpobokdlamofgaa
