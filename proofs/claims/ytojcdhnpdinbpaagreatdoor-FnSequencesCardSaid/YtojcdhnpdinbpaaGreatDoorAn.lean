/- Walks: angles, as the specification has them. -/
import Derived.Test.YtojcdhnpdinbpaaGreatDoorOv
import Derived.Test.YtojcdhnpdinbpaaGreatDoorIi
import Derived.Deep.OwnRows
import Derived.WalkSmall
namespace Go.Proofs.YtojcdhnpdinbpaaGreatDoor
open Go.RowKit

/-- What a pulse adds to the angle of its axis; the angle about an axis of the first n pulses. -/
def sgn (p : Pu) : Int := if p.bk then -(2 ^ (24 - p.ha.toNat) : Int) else 2 ^ (24 - p.ha.toNat)
def ang (P : Nat → Pu) (ax : Int) : Nat → Int
  | 0 => 0
  | n + 1 => ang P ax n + (if (P n).ax = ax then sgn (P n) else 0)

theorem pow_bd (k : Nat) (h : k ≤ 24) : 0 ≤ (2 : Int) ^ k ∧ (2 : Int) ^ k ≤ 16777216 := by
  have h1 : (2 : Nat) ^ k ≤ 2 ^ 24 := Nat.pow_le_pow_right (by omega) h
  have h2 : ((2 ^ k : Nat) : Int) = (2 : Int) ^ k := by simp
  have h3 : (0 : Int) ≤ ((2 ^ k : Nat) : Int) := Int.natCast_nonneg _
  have h4 : ((2 ^ k : Nat) : Int) ≤ ((2 ^ 24 : Nat) : Int) := Int.ofNat_le.2 h1
  rw [h2] at h3 h4
  exact ⟨h3, by simpa using h4⟩

theorem sgn_bd (p : Pu) : -16777216 ≤ sgn p ∧ sgn p ≤ 16777216 := by
  have := pow_bd (24 - p.ha.toNat) (by omega)
  unfold sgn
  split <;> omega

theorem ang_bd (P : Nat → Pu) (ax : Int) (n : Nat) : -(16777216 * (n : Int)) ≤ ang P ax n ∧ ang P ax n ≤ 16777216 * (n : Int) := by
  induction n with
  | zero => simp [ang]
  | succ n ih =>
    have := sgn_bd (P n)
    unfold ang
    split <;> omega

theorem make_three (w : World) : (Instr.makeSlice 33 (.int .i64 3) (.int .i64 3)).run Tryz.prog w = .ok (.slice (some ⟨w.heap.size, 0, none⟩) 3 3) (w.alloc (.cells (madeCells #[.int .i64 0] 3) 2)) := by
  obtain ⟨i, hi1, z1, z2, z3⟩ := info_parts (P := Tryz.prog) (e := 2) (z := .int .i64 0) (size := 1) (bytes := 8) (by kernel_rfl)
  have := run_make (P := Tryz.prog) w 33 2 i _ Tryz.underlying33 hi1 z1 .i64 .i64 3 3 (by omega) (Int.le_refl _) (by rw [z3]; omega) (by omega)
  rw [z2] at this
  have hc : (Value.int .i64 0).cells = #[.int .i64 0] := by kernel_rfl
  rw [hc] at this
  simpa using this
end Go.Proofs.YtojcdhnpdinbpaaGreatDoor
