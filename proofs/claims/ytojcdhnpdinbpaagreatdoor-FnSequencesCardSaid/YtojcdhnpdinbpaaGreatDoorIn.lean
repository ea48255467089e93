/- Walks: a number in a range. -/
import Derived.Test.YtojcdhnpdinbpaaGreatDoorRows
import Derived.WalkKit
import Derived.WalkSpells
import Derived.WalkLawsBesides
namespace Go.Proofs.YtojcdhnpdinbpaaGreatDoor
open Go.RowKit

theorem in_any (i a b : Int) (w : World) :
    Calls Tryz.prog 50 #[.int .i64 i, .int .i64 a, .int .i64 b] w fun e w' => e = .returned (.bool (decide (a ≤ i ∧ i ≤ b))) ∧ w = w' := by
  by_cases h1 : a ≤ i
  · by_cases h2 : i ≤ b
    · have hd : decide (a ≤ i ∧ i ≤ b) = true := decide_eq_true ⟨h1, h2⟩
      rw [hd]
      clear hd
      go_enter Tryz.func50, Tryz.ntmps50
      go_wp2
      go_ret
      exact ⟨rfl, rfl⟩
    · have hd : decide (a ≤ i ∧ i ≤ b) = false := decide_eq_false (fun h => h2 h.2)
      rw [hd]
      clear hd
      have h2' : decide (i ≤ b) = false := decide_eq_false h2
      clear h2
      go_enter Tryz.func50, Tryz.ntmps50
      go_wp2
      go_ret
      exact ⟨rfl, rfl⟩
  · have hd : decide (a ≤ i ∧ i ≤ b) = false := decide_eq_false (fun h => h1 h.1)
    rw [hd]
    have h1' : i < a := by omega
    clear hd h1
    go_enter Tryz.func50, Tryz.ntmps50
    go_wp2
    go_ret
    exact ⟨rfl, rfl⟩
end Go.Proofs.YtojcdhnpdinbpaaGreatDoor
