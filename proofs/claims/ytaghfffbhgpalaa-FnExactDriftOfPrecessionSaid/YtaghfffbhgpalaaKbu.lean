/- Walks: the door: what is made inside, or the code of a panic. Walks: the door of a table: what is made inside, or the code of a panic. -/
import Derived.Test.YtaghfffbhgpalaaKaf
import Derived.Test.YtaghfffbhgpalaaTc
import Derived.Recover
import Derived.Defers
import Derived.Lib.Hide
namespace Go.Proofs.Ytaghfffbhgpalaa
open Go.RowKit

/-- A panic with a code. -/
def panicC (c : Int) : Ending := .panicked [{ v := .iface 69 (.int .i64 c), recovered := false }]

set_option maxHeartbeats 1000000 in
theorem mustF_no (x : Nat) (c : Int) (hc : c ≠ 0) (w : World) : Calls Try.prog 47 #[.float .f32 x, .int .i64 c] w fun e w' => e = panicC c ∧ w = w' := by
  have hn : (c != 0) = true := by simp [hc]
  unfold panicC
  go_enter Try.func47, Try.ntmps47
  go_wp2
  exact ⟨rfl, rfl, rfl⟩

set_option maxHeartbeats 1000000 in
theorem mustF_yes (x : Nat) (w : World) : Calls Try.prog 47 #[.float .f32 x, .int .i64 0] w fun e w' => e = .returned (.float .f32 x) ∧ w = w' := by
  go_enter Try.func47, Try.ntmps47
  go_wp2
  go_ret
  exact ⟨rfl, rfl⟩

theorem assert_nil (w : World) : (Instr.typeAssert .nilIface 20 69 true).run Try.prog w = .ok (.tuple #[.int .i64 0, .bool false]) w := by kernel_rfl

theorem assert_code (c : Int) (w : World) : (Instr.typeAssert (.iface 69 (.int .i64 c)) 20 69 true).run Try.prog w = .ok (.tuple #[.int .i64 c, .bool true]) w := by kernel_rfl

end Go.Proofs.Ytaghfffbhgpalaa

namespace Go.Proofs.Ytaghfffbhgpalaa
open Go.RowKit

set_option maxHeartbeats 1000000 in
theorem mustT_no (t : Tb) (c : Int) (hc : c ≠ 0) (w : World) : Calls Try.prog 45 #[t.v, .int .i64 c] w fun e w' => e = panicC c ∧ Below w.heap.size w w' := by
  have hn : (c != 0) = true := by simp [hc]
  unfold panicC
  rw [four]
  go_enter Try.func45, Try.ntmps45
  go_wp2
  refine ⟨rfl, rfl, ?_⟩
  all_goals repeat first
    | exact Below.refl _ _
    | refine Below.setCell ?_ ?_ _
    | refine Below.alloc ?_ ?_ _
  all_goals first | omega | (simp; done) | (simp; omega)

set_option maxHeartbeats 1000000 in
theorem mustT_yes (t : Tb) (w : World) : Calls Try.prog 45 #[t.v, .int .i64 0] w fun e w' => e = .returned t.v ∧ Below w.heap.size w w' := by
  rw [four]
  go_enter Try.func45, Try.ntmps45
  go_wp2
  refine bodyPost_ret (v := .agg #[.complex .f32 t.a.re t.a.im, .complex .f32 t.b.re t.b.im, .complex .f32 t.c.re t.c.im, .complex .f32 t.d.re t.d.im]) (by simp [results, Try.results45, go_sem]) rfl ⟨rfl, ?_⟩
  all_goals repeat first
    | exact Below.refl _ _
    | refine Below.setCell ?_ ?_ _
    | refine Below.alloc ?_ ?_ _
  all_goals first | omega | (simp; done) | (simp; omega)

end Go.Proofs.Ytaghfffbhgpalaa
