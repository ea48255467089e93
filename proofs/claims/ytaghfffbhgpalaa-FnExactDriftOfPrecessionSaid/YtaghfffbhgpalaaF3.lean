/- Walks: floats at places. -/
import Derived.Test.YtaghfffbhgpalaaKae
import Derived.Lib.Hide
namespace Go.Proofs.Ytaghfffbhgpalaa
open Go.RowKit

theorem conv_nat (n : Nat) (w : World) : (convert 2 58 (.int .i64 (n : Int))).run Try.prog w = .ok (.float .f64 (D false n 0)) w := by
  rw [← floatOf_nat]; exact run_convert_int_float w 2 58 .i64 .f64 _ (by rw [Try.underlying2]; rfl) Try.underlying58

theorem mul_two (m : Nat) (j : Int) (hm : m < 67108864) (h1 : -1074 ≤ j) (h2 : j ≤ 1023) (t : TypeId) (w : World) :
    (binOp .mul t (.float .f64 (D false m 0)) (.float .f64 (D false 1 j))).run Try.prog w = .ok (.float .f64 (D false m j)) w := run_float_arith w .mul t .f64 _ _ _ (by
      have := Flt.mul_fit Ieee.double (by decide) false false m 1 0 j (fitD m 0 26 (by omega) (by omega) (by omega) (by omega)) (fitD_one j h1 h2)
      rw [Nat.mul_one, Int.zero_add] at this
      exact this)

theorem conv_narrow (m : Nat) (p : Int) (n : Nat) (hf : Flt.Fit Ieee.single m p) (he : S false m p = n) (w : World) :
    (convert 58 22 (.float .f64 (D false m p))).run Try.prog w = .ok (.float .f32 n) w := by
  have := run_convert_float_float (P := Try.prog) w 58 22 .f64 .f32 _ _ (by rw [Try.underlying58]; rfl) Try.underlying22 (narrow (s := false) hf)
  rw [he] at this; exact this




theorem neg_word (n : Nat) (hn : n < 2147483648) (w : World) : (Op.unary .neg (.float .f32 n)).run Try.prog w = .ok (.float .f32 (2147483648 + n)) w := by
  have h := Flt.flip_word Ieee.single false n (by rw [Flt.s_sw]; exact hn)
  exact congrArg (fun b => Result.ok (Value.float .f32 b) w) h





end Go.Proofs.Ytaghfffbhgpalaa
