/- Walks: floats at places. -/
import Derived.Test.YtcikohbcndppkaaDoorTwo
import Derived.Lib.Hide
namespace Go.Proofs.YtcikohbcndppkaaDoor
open Go.RowKit

theorem conv_nat (n : Nat) (w : World) : (convert 2 36 (.int .i64 (n : Int))).run Tryd.prog w = .ok (.float .f64 (D false n 0)) w := by
  rw [← floatOf_nat]; exact run_convert_int_float w 2 36 .i64 .f64 _ (by rw [Tryd.underlying2]; rfl) Tryd.underlying36

theorem mul_two (m : Nat) (j : Int) (hm : m < 67108864) (h1 : -1074 ≤ j) (h2 : j ≤ 1023) (t : TypeId) (w : World) :
    (binOp .mul t (.float .f64 (D false m 0)) (.float .f64 (D false 1 j))).run Tryd.prog w = .ok (.float .f64 (D false m j)) w := run_float_arith w .mul t .f64 _ _ _ (by
      have := Flt.mul_fit Ieee.double (by decide) false false m 1 0 j (fitD m 0 26 (by omega) (by omega) (by omega) (by omega)) (fitD_one j h1 h2)
      rw [Nat.mul_one, Int.zero_add] at this
      exact this)

theorem conv_narrow (m : Nat) (p : Int) (n : Nat) (hf : Flt.Fit Ieee.single m p) (he : S false m p = n) (w : World) :
    (convert 36 32 (.float .f64 (D false m p))).run Tryd.prog w = .ok (.float .f32 n) w := by
  have := run_convert_float_float (P := Tryd.prog) w 36 32 .f64 .f32 _ _ (by rw [Tryd.underlying36]; rfl) Tryd.underlying32 (narrow (s := false) hf)
  rw [he] at this; exact this

theorem float_low (i : Int) (w : World) (h0 : 0 ≤ i) (hb : i < 8388608) :
    Calls Tryd.prog 17 #[.int .i64 i] w fun e w' => e = .returned (.float .f32 i.toNat) ∧ w = w' := by
  obtain ⟨n, hn⟩ := Int.eq_ofNat_of_zero_le h0
  obtain ⟨hf, he⟩ := (S_place n (by omega)).1 (by omega)
  have hi := conv_nat n
  rw [← hn] at hi
  have hop := mul_two n (-149) (by omega) (by omega) (by omega)
  have hnar := conv_narrow n (-149) n hf he
  have ht : i.toNat = n := by omega
  rw [ht]
  clear he hf hn ht
  go_enter Tryd.func17, Tryd.ntmps17
  go_wp2_with (go_at_call 23; refine (two_any _ _ (by omega) (by omega)).mono ?_; rintro e w' ⟨rfl, rfl⟩)
  go_ret
  exact ⟨rfl, rfl⟩

theorem float_high (i : Int) (w : World) (h0 : 8388608 ≤ i) (hb : i < 2139095040) :
    Calls Tryd.prog 17 #[.int .i64 i] w fun e w' => e = .returned (.float .f32 i.toNat) ∧ w = w' := by
  obtain ⟨n, hn⟩ := Int.eq_ofNat_of_zero_le (show 0 ≤ i by omega)
  obtain ⟨hf, he⟩ := (S_place n (by omega)).2 (by omega)
  have hm : ((8388608 + n % 8388608 : Nat) : Int) = i % 8388608 + 8388608 := by omega
  have hmb : 8388608 + n % 8388608 < 16777216 := by omega
  have hp : (n : Int) / 8388608 - 150 = i / 8388608 - 127 - 23 := by omega
  have ht : i.toNat = n := by omega
  have hp1 : -149 ≤ i / 8388608 - 127 - 23 := by omega
  have hp2 : i / 8388608 - 127 - 23 ≤ 104 := by omega
  rw [hp] at hf he
  generalize 8388608 + n % 8388608 = m at *
  have hi := conv_nat m
  rw [hm] at hi
  have hop := mul_two m (i / 8388608 - 127 - 23) (by omega) (by omega) (by omega)
  have hnar := conv_narrow m _ n hf he
  rw [ht]
  clear he hf hn ht hm hmb hp
  go_enter Tryd.func17, Tryd.ntmps17
  go_wp2_with (go_at_call 23; refine (two_any _ _ (by omega) (by omega)).mono ?_; rintro e w' ⟨rfl, rfl⟩)
  go_ret
  exact ⟨rfl, rfl⟩

theorem float_nn (i : Int) (w : World) (h0 : 0 ≤ i) (hb : i < 2139095040) :
    Calls Tryd.prog 17 #[.int .i64 i] w fun e w' => e = .returned (.float .f32 i.toNat) ∧ w = w' := by
  by_cases h : i < 8388608
  · exact float_low i w h0 h
  · exact float_high i w (by omega) hb

theorem neg_word (n : Nat) (hn : n < 2147483648) (w : World) : (Op.unary .neg (.float .f32 n)).run Tryd.prog w = .ok (.float .f32 (2147483648 + n)) w := by
  have h := Flt.flip_word Ieee.single false n (by rw [Flt.s_sw]; exact hn)
  exact congrArg (fun b => Result.ok (Value.float .f32 b) w) h

theorem float_any (i : Int) (w : World) (h0 : -2139095040 < i) (hb : i < 2139095040) :
    Calls Tryd.prog 17 #[.int .i64 i] w fun e w' => e = .returned (.float .f32 (wordAt i)) ∧ w = w' := by
  by_cases h : i < 0
  · have hw : wordAt i = 2147483648 + (-i).toNat := if_pos h
    rw [hw]
    have hfn := fun w => float_nn (-i) w (by omega) (by omega)
    have hng := neg_word (-i).toNat (by omega)
    generalize (-i).toNat = n at *
    have HF := Lib.hid hfn
    clear hfn hw
    go_enter Tryd.func17, Tryd.ntmps17
    go_wp2_with (go_at_call 17; refine (HF.out _).mono ?_; rintro e w' ⟨rfl, rfl⟩)
    go_ret
    exact ⟨rfl, rfl⟩
  · have hw : wordAt i = i.toNat := if_neg h
    rw [hw]
    exact float_nn i w (by omega) hb

theorem run_frombits (b : Nat) (w : World) : (callFunc 22 #[.int .u32 b]).run Tryd.prog w = .ok (.value (.float .f32 b)) w := by
  rw [run_callFunc_extern (e := Extern.MathFloatBits.float32frombits) Tryd.func22 (by kernel_rfl) (by kernel_rfl) (by kernel_rfl) (by kernel_rfl)]
  rfl

theorem run_frombits_int (i : Int) (h : 0 ≤ i) (w : World) : (callFunc 22 #[.int .u32 i]).run Tryd.prog w = .ok (.value (.float .f32 i.toNat)) w := by
  have := run_frombits i.toNat w
  rw [show ((i.toNat : Nat) : Int) = i by omega] at this
  exact this

theorem implFloatAt (i : Int) (w : World) (h1 : -9223372036854775808 ≤ i) (h2 : i ≤ 9223372036854775807) :
    Calls Tryd.prog 16 #[.int .i64 i] w fun e w' => e = .returned (atRes i) ∧ w = w' := by
  unfold atRes
  by_cases hr : -2139095040 < i ∧ i < 2139095040
  · rw [if_pos hr]
    obtain ⟨g1, g2⟩ := hr
    by_cases h : i < 0
    · have hw : wordAt i = 2147483648 + (-i).toNat := if_pos h
      rw [hw]
      have hfb := run_frombits_int (-i) (by omega)
      have hng := neg_word (-i).toNat (by omega)
      generalize (-i).toNat = n at *
      clear hw h1 h2
      go_enter Tryd.func16, Tryd.ntmps16
      go_wp2
      go_ret2
      exact ⟨rfl, rfl⟩
    · have hw : wordAt i = i.toNat := if_neg h
      rw [hw]
      have hfb := run_frombits_int i (by omega)
      generalize i.toNat = n at *
      clear hw h1 h2
      go_enter Tryd.func16, Tryd.ntmps16
      go_wp2
      go_ret2
      exact ⟨rfl, rfl⟩
  · rw [if_neg hr]
    have hr2 : i < -2139095039 ∨ 2139095039 < i := by omega
    clear hr
    rcases hr2 with g | g
    all_goals
      go_enter Tryd.func16, Tryd.ntmps16
      go_wp2
      go_ret2
      exact ⟨rfl, rfl⟩
end Go.Proofs.YtcikohbcndppkaaDoor
