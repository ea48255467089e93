/- A number, or the limit, of the program (the same theorem stands in XDt: import one of both). -/
import Derived.Test.YtibmaflcfmphgaaW1
import Derived.Test.YtibmaflcfmphgaaMem
namespace Go.Proofs.Ytibmaflcfmphgaa
open Go.RowKit

set_option maxHeartbeats 400000 in
theorem numberOrLimit_any (x : Nat) (w : World) (hx : x < 4294967296) :
    Calls Try.prog 13 #[.float .f32 x] w fun e w' => e = .returned (if fin x then .tuple #[.float .f32 x, .int .i64 0] else .tuple #[.float .f32 0, .int .i64 3]) ∧ w = w' := by
  have A := Lib.hid (fun w => isNumber_any x w hx)
  clear hx
  generalize fin x = p at *
  cases p
  · go_enter Try.func13, Try.ntmps13
    go_wp2_with fail
    refine (A.out _).mono ?_
    rintro e w1 ⟨rfl, rfl⟩
    go_wp2_with fail
    exact bodyPost_ret (v := .tuple #[.float .f32 0, .int .i64 3]) (by simp [results, Try.results13, go_sem]) rfl ⟨rfl, rfl⟩
  · go_enter Try.func13, Try.ntmps13
    go_wp2_with fail
    refine (A.out _).mono ?_
    rintro e w1 ⟨rfl, rfl⟩
    go_wp2_with fail
    exact bodyPost_ret (v := .tuple #[.float .f32 x, .int .i64 0]) (by simp [results, Try.results13, go_sem]) rfl ⟨rfl, rfl⟩
end Go.Proofs.Ytibmaflcfmphgaa
