/- Walks: the loops that halve. Walks: a number in a range. Walks: HalvedTurn of the program and of the specification. -/
import Derived.Test.YtaghfffbhgpalaaKap
import Derived.Test.YtaghfffbhgpalaaRows
import Derived.Test.YtaghfffbhgpalaaKat
import Derived.WalkKit
import Derived.WalkSpells
import Derived.WalkLawsBesides
namespace Go.Proofs.Ytaghfffbhgpalaa
open Go.RowKit

theorem step_facts (k : Nat) (h : k < 24) :
    (∀ t w, (binOp .add t (.float .f32 1065353216) (.float .f32 (halved k).1)).run Try.prog w = .ok (.float .f32 (upW (halved k).1)) w) ∧
    (∀ t w, (binOp .quo t (.float .f32 (upW (halved k).1)) (.float .f32 1073741824)).run Try.prog w = .ok (.float .f32 (halfW (halved k).1)) w) ∧
    posW (halfW (halved k).1) = true ∧
    (∀ t w, (binOp .mul t (.float .f32 1073741824) (.float .f32 (halved (k + 1)).1)).run Try.prog w = .ok (.float .f32 (twiceW (halved (k + 1)).1)) w) ∧
    (∀ t w, (binOp .quo t (.float .f32 (halved k).2) (.float .f32 (twiceW (halved (k + 1)).1))).run Try.prog w = .ok (.float .f32 (halved (k + 1)).2) w) := by
  have h := step_of k h
  unfold stepOk at h
  simp only [Bool.and_eq_true, beq_iff_eq] at h
  obtain ⟨⟨⟨⟨h1, h2⟩, h3⟩, h4⟩, h5⟩ := h
  exact ⟨fun t w => run_float_arith w .add t .f32 _ _ _ h1, fun t w => run_float_arith w .quo t .f32 _ _ _ h2, h3, fun t w => run_float_arith w .mul t .f32 _ _ _ h4, fun t w => run_float_arith w .quo t .f32 _ _ _ h5⟩

theorem root_eq (k : Nat) : rootW (halfW (halved k).1) = (halved (k + 1)).1 := rfl

end Go.Proofs.Ytaghfffbhgpalaa

namespace Go.Proofs.Ytaghfffbhgpalaa
open Go.RowKit

theorem in_any (i a b : Int) (w : World) :
    Calls Try.prog 17 #[.int .i64 i, .int .i64 a, .int .i64 b] w fun e w' => e = .returned (.bool (decide (a ≤ i ∧ i ≤ b))) ∧ w = w' := by
  by_cases h1 : a ≤ i
  · by_cases h2 : i ≤ b
    · have hd : decide (a ≤ i ∧ i ≤ b) = true := decide_eq_true ⟨h1, h2⟩
      rw [hd]
      clear hd
      go_enter Try.func17, Try.ntmps17
      go_wp2
      go_ret
      exact ⟨rfl, rfl⟩
    · have hd : decide (a ≤ i ∧ i ≤ b) = false := decide_eq_false (fun h => h2 h.2)
      rw [hd]
      clear hd
      have h2' : decide (i ≤ b) = false := decide_eq_false h2
      clear h2
      go_enter Try.func17, Try.ntmps17
      go_wp2
      go_ret
      exact ⟨rfl, rfl⟩
  · have hd : decide (a ≤ i ∧ i ≤ b) = false := decide_eq_false (fun h => h1 h.1)
    rw [hd]
    have h1' : i < a := by omega
    clear hd h1
    go_enter Try.func17, Try.ntmps17
    go_wp2
    go_ret
    exact ⟨rfl, rfl⟩

end Go.Proofs.Ytaghfffbhgpalaa

namespace Go.Proofs.Ytaghfffbhgpalaa
open Go.RowKit

/-- The turn about an axis. -/
def aboutOf (i : Int) (c s : Nat) : Value := if i = 0 then tableOf c s 0 0 else if i = 1 then tableOf c 0 s 0 else tableOf c 0 0 s

def halfRes (i k : Int) : Value := if (0 ≤ i ∧ i ≤ 2) ∧ (0 ≤ k ∧ k ≤ 24) then .tuple #[aboutOf i (halved k.toNat).1 (halved k.toNat).2, .int .i64 0] else .tuple #[noTable, .int .i64 2]

end Go.Proofs.Ytaghfffbhgpalaa
