/- Walks: which lists are sequences, as the specification says. -/
import Derived.Test.YtibmaflcfmphgaaP2
import Derived.Test.YtibmaflcfmphgaaIn
namespace Go.Proofs.Ytibmaflcfmphgaa
open Go.RowKit

/-- A pulse of a sequence; a sequence. -/
def okP (p : Pu) : Bool := decide (0 ≤ p.ax ∧ p.ax ≤ 2) && decide (0 ≤ p.ha ∧ p.ha ≤ 24)
def seqB (n : Nat) (P : Nat → Pu) : Bool := (List.range n).all (fun i => okP (P i)) && decide (n ≤ 60)

theorem seqB_no {n i : Nat} {P : Nat → Pu} (hi : i < n) (h : okP (P i) = false) : seqB n P = false := by
  unfold seqB
  have : (List.range n).all (fun i => okP (P i)) = false := by
    rw [List.all_eq_false]
    exact ⟨i, List.mem_range.2 hi, by rw [h]; simp⟩
  rw [this]; rfl

theorem seqB_yes {n : Nat} {P : Nat → Pu} (h : ∀ i, i < n → okP (P i) = true) : seqB n P = decide (n ≤ 60) := by
  unfold seqB
  have : (List.range n).all (fun i => okP (P i)) = true := by
    rw [List.all_eq_true]
    intro i hi
    exact h i (List.mem_range.1 hi)
  rw [this]; rfl
